/-
  PACKS: RMem RStack RStack2 REnd RWords RText RAdd RAdd2 RAtText RText2 RClone RStart RKind RTag RTake RBuild RBuild2 RParse RBound RBound2 RParse2
  Trees in memory: a row of nodes, each one's attributes and children in rows of their own; the builder's block. No conditions.
  The stack of package tree: top, pop, push, has, takes, closeAll, closeOne. No conditions.
  The stack of package tree: closeAll, closeOne. No conditions.
  The builder of package tree: an end tag. No conditions.
  The words under way: strings.Builder within the builder of package tree. Conditions: the words are no more than 2^46 bytes.
  The builder of package tree: texts. Conditions: the words are no more than 2^46 bytes.
  The builder of package tree: a node more. Conditions: the words are no more than 2^46 bytes.
  add of the builder of package tree. Conditions: the words are no more than 2^46 bytes.
  atText of the builder of package tree, by contract. Conditions: the builder's state is well-formed.
  text of the builder of package tree, by contract. Conditions: the builder's state is well-formed; the words are no more than 2^46 bytes.
  cloneAttrs of package tree, by contract. Conditions: the strings are no more than 2^46 bytes each, no more than 2^32 attributes.
  start of the builder of package tree, by contract. Conditions: the builder's state is well-formed; the strings are no more than 2^46 bytes each, no more than 2^32 attributes.
  Kind of package tree: the kinds of elements. Conditions: none.
  tag of the builder of package tree, by contract. Conditions: as for start.
  take of the builder of package tree, by contract. Conditions: as for tag and text.
  The builder's bounds, and the loop of Build, over lists. Conditions: none.
  Build of package tree, by contract. Conditions: the data are no more than 2^46 bytes in all, the names and the attributes' strings no more than 2^46 bytes each.
  What Build asks of the tokens' row, out of what Tokens lays. Conditions: bounds on the tokens' lengths.
  Bounds on what Tokens tells, over lists: how many tokens, how long a name. Conditions: none.
  Bounds on one token, over lists. Conditions: none.
  Parse of package tree, by contract, given what utf.Decode tells. Conditions: the library's variable MaxLen holds a number.
-/
import Derived.Test.YtkfmfldkllkcbaaGreatDoorRMath
import Derived.Test.YtkfmfldkllkcbaaGreatDoorPKT
import Derived.Laws.OwnMore
import Derived.Lib.FrozenHead
import Derived.Deep.AppendLies
import Derived.Deep.RegionLaw
import Derived.RegionTactic
import Derived.ChangeAlike
import Derived.BigRegion
import Derived.Sort.AtCall
import Derived.Deep.RegionHeld
import Derived.Deep.RegionHeld3
namespace Go.Proofs.YtkfmfldkllkcbaaGreatDoor
open Go.RowKit Go.RunKit Go.CharrefKit Go.Lib Go.TokenKit Go.TreeKit

abbrev TNd : TypeId := 38
abbrev TIn : TypeId := 3
abbrev TU8 : TypeId := 5
abbrev TOp : TypeId := 60
abbrev TBd : TypeId := 67

def intCells (l : List Nat) : List Value := l.map fun k => .int .i64 ((k : Nat) : Int)
theorem intCells_len (l : List Nat) : (intCells l).length = l.length := by simp [intCells]
theorem intCells_snoc (l : List Nat) (k : Nat) : intCells (l ++ [k]) = intCells l ++ [.int .i64 ((k : Nat) : Int)] := by simp [intCells]
abbrev NdV := Nd × Value × Value
def ndCell (x : NdV) : List Value := [.int .u8 ((x.1.kind : Nat) : Int), .string ⟨x.1.name.toArray⟩, x.2.1, .string ⟨x.1.data.toArray⟩, .int .i64 x.1.up, x.2.2]
def ndCells (L : List NdV) : List Value := L.flatMap ndCell
theorem ndCells_cons (x : NdV) (L : List NdV) : ndCells (x :: L) = ndCell x ++ ndCells L := rfl
theorem ndCells_snoc (L : List NdV) (x : NdV) : ndCells (L ++ [x]) = ndCells L ++ ndCell x := by simp [ndCells]
theorem ndCells_len (L : List NdV) : (ndCells L).length = L.length * 6 := by
  induction L with
  | nil => rfl
  | cons x r ih => rw [ndCells_cons, List.length_append, ih, List.length_cons]; show 6 + _ = _; omega
theorem ndCells_at : ∀ {L : List NdV} {k : Nat} {x : NdV} {c : Nat}, L[k]? = some x → c < 6 → (ndCells L)[k * 6 + c]? = (ndCell x)[c]?
  | [], k, x, c, h, _ => by simp at h
  | y :: r, 0, x, c, h, hc => by
    simp only [List.getElem?_cons_zero, Option.some.injEq] at h
    subst h
    rw [ndCells_cons, Nat.zero_mul, Nat.zero_add, List.getElem?_append_left (by exact hc)]
  | y :: r, k + 1, x, c, h, hc => by
    have := ndCells_at (L := r) (k := k) (x := x) (c := c) (by simpa using h) hc
    rw [ndCells_cons, List.getElem?_append_right (by show 6 ≤ _; omega)]
    rw [show (k + 1) * 6 + c - (ndCell y).length = k * 6 + c by show (k + 1) * 6 + c - 6 = _; omega]
    exact this
/-- A cell of one node written over. -/
theorem ndCells_set : ∀ {L : List NdV} {k : Nat} {x y : NdV} {c : Nat} {u : Value}, L[k]? = some x → c < 6 → (ndCell x).set c u = ndCell y → (ndCells L).set (k * 6 + c) u = ndCells (L.set k y)
  | [], k, x, y, c, u, h, _, _ => by simp at h
  | z :: r, 0, x, y, c, u, h, hc, he => by
    simp only [List.getElem?_cons_zero, Option.some.injEq] at h
    subst h
    rw [ndCells_cons, Nat.zero_mul, Nat.zero_add, List.set_append_left _ _ (by exact hc), he]
    rfl
  | z :: r, k + 1, x, y, c, u, h, hc, he => by
    have := ndCells_set (L := r) (k := k) (x := x) (y := y) (c := c) (u := u) (by simpa using h) hc he
    rw [ndCells_cons, List.set_append_right _ _ (by show 6 ≤ _; omega)]
    rw [show (k + 1) * 6 + c - (ndCell z).length = k * 6 + c by show (k + 1) * 6 + c - 6 = _; omega, this]
    rfl
def opCell (o : Opd) : List Value := [.int .i64 ((o.node : Nat) : Int), .string ⟨o.name.toArray⟩, .int .u8 ((o.kind : Nat) : Int)]
def opCells (l : List Opd) : List Value := l.flatMap opCell
theorem opCells_cons (o : Opd) (l : List Opd) : opCells (o :: l) = opCell o ++ opCells l := rfl
theorem opCells_snoc (l : List Opd) (o : Opd) : opCells (l ++ [o]) = opCells l ++ opCell o := by simp [opCells]
theorem opCells_len (l : List Opd) : (opCells l).length = l.length * 3 := by
  induction l with
  | nil => rfl
  | cons x r ih => rw [opCells_cons, List.length_append, ih, List.length_cons]; show 3 + _ = _; omega
theorem opCells_at : ∀ {l : List Opd} {k : Nat} {o : Opd} {c : Nat}, l[k]? = some o → c < 3 → (opCells l)[k * 3 + c]? = (opCell o)[c]?
  | [], k, x, c, h, _ => by simp at h
  | y :: r, 0, x, c, h, hc => by
    simp only [List.getElem?_cons_zero, Option.some.injEq] at h
    subst h
    rw [opCells_cons, Nat.zero_mul, Nat.zero_add, List.getElem?_append_left (by exact hc)]
  | y :: r, k + 1, x, c, h, hc => by
    have := opCells_at (l := r) (k := k) (o := x) (c := c) (by simpa using h) hc
    rw [opCells_cons, List.getElem?_append_right (by show 3 ≤ _; omega)]
    rw [show (k + 1) * 3 + c - (opCell y).length = k * 3 + c by show (k + 1) * 3 + c - 3 = _; omega]
    exact this

/-- Rows of another type than a block's stay, when that block alone changes. -/
theorem own_other {w w' : World} {base size n k : Nat} {e T : TypeId} {v : Value} {xs : List Value} {cs : Array Value} {fr : Nat × Nat} (h : w.ownsRow base e size v n xs) (hk : w.heap[k]? = some (.cells cs T fr)) (hT : T ≠ e) (hg : w.grownBy w' (some k)) : w'.ownsRow base e size v n xs :=
  World.ownsRow.kept h hg (.inr (own_ne h hk hT))
/-- Rows of another type than a row's stay, when that row alone changes. -/
theorem own_beside {w w' : World} {base base2 size size2 n n2 : Nat} {e e2 : TypeId} {v v2 : Value} {xs xs2 : List Value} (h : w.ownsRow base e size v n xs) (h2 : w.ownsRow base2 e2 size2 v2 n2 xs2) (hT : e2 ≠ e) (hg : w.grownBy w' v2.ownBlock) : w'.ownsRow base e size v n xs := by
  rcases h2.2 with ⟨rfl, _⟩ | ⟨g, cap, cur, rfl, _, hgg, _⟩
  · exact World.ownsRow.kept h hg (by cases v.ownBlock <;> simp [Value.ownBlock])
  · exact own_other h hgg hT hg
/-- A tree in memory. -/
structure NdRow (w : World) (base : Nat) (v : Value) (L : List NdV) : Prop where
  row : w.ownsRow base TNd 6 v L.length (ndCells L)
  attrs : ∀ x, x ∈ L → AtRow w base x.2.1 x.1.attrs
  kids : ∀ x, x ∈ L → w.ownsRow base TIn 1 x.2.2 x.1.kids.length (intCells x.1.kids)
  apart : ∀ (i j : Nat) (x y : NdV), L[i]? = some x → L[j]? = some y → i ≠ j → ∀ g, x.2.2.ownBlock = some g → y.2.2.ownBlock ≠ some g
theorem NdRow.on {w w' : World} {base : Nat} {v : Value} {L : List NdV} (h : NdRow w base v L) (hb : Below w.heap.size w w') : NdRow w' base v L :=
  ⟨own_on h.row hb, fun x hx => (h.attrs x hx).on hb, fun x hx => own_on (h.kids x hx) hb, h.apart⟩
theorem NdRow.other {w w' : World} {base k : Nat} {v : Value} {L : List NdV} {T : TypeId} {cs : Array Value} {fr : Nat × Nat} (h : NdRow w base v L) (hk : w.heap[k]? = some (.cells cs T fr)) (h1 : T ≠ TNd) (h2 : T ≠ TAt) (h3 : T ≠ TIn) (hg : w.grownBy w' (some k)) : NdRow w' base v L :=
  ⟨own_other h.row hk h1 hg, fun x hx => own_other (h.attrs x hx) hk h2 hg, fun x hx => own_other (h.kids x hx) hk h3 hg, h.apart⟩
theorem NdRow.beside {w w' : World} {base base2 size2 n2 : Nat} {v v2 : Value} {L : List NdV} {e2 : TypeId} {xs2 : List Value} (h : NdRow w base v L) (hk : w.ownsRow base2 e2 size2 v2 n2 xs2) (h1 : e2 ≠ TNd) (h2 : e2 ≠ TAt) (h3 : e2 ≠ TIn) (hg : w.grownBy w' v2.ownBlock) : NdRow w' base v L :=
  ⟨own_beside h.row hk h1 hg, fun x hx => own_beside (h.attrs x hx) hk h2 hg, fun x hx => own_beside (h.kids x hx) hk h3 hg, h.apart⟩
/-- The words under way, in a builder at an address. -/
def WordsAt (w : World) (base b : Nat) (pa bv : Value) (ws : Bytes) : Prop :=
  (pa = .pointer none ∧ bv = .slice none 0 0 ∧ ws = []) ∨ (pa = .pointer (some ⟨b, 2, none⟩) ∧ ws ≠ [] ∧ w.ownsRowF base TU8 1 bv ws.length (byteCells ws))
theorem ownF_ne {w : World} {base k size n : Nat} {e T : TypeId} {v : Value} {xs : List Value} {cs : Array Value} {fr : Nat × Nat} (h : w.ownsRowF base e size v n xs) (hk : w.heap[k]? = some (.cells cs T fr)) (hT : T ≠ e) : v.ownBlock ≠ some k := by
  intro ee
  rcases h.2 with ⟨rfl, _⟩ | ⟨g, cap, cur, fz, rfl, _, hg, _⟩
  · simp [Value.ownBlock] at ee
  · simp only [Value.ownBlock, Option.some.injEq] at ee
    subst ee
    rw [hk] at hg
    simp only [Option.some.injEq, Obj.cells.injEq] at hg
    exact hT hg.2.1
theorem WordsAt.other {w w' : World} {base b k : Nat} {pa bv : Value} {ws : Bytes} {T : TypeId} {cs : Array Value} {fr : Nat × Nat} (h : WordsAt w base b pa bv ws) (hk : w.heap[k]? = some (.cells cs T fr)) (hT : T ≠ TU8) (hg : w.grownBy w' (some k)) : WordsAt w' base b pa bv ws := by
  rcases h with h | ⟨h1, h2, h3⟩
  · exact .inl h
  · exact .inr ⟨h1, h2, World.ownsRowF.kept h3 hg (.inr (ownF_ne h3 hk hT))⟩
theorem WordsAt.beside {w w' : World} {base b base2 size2 n2 : Nat} {pa bv v2 : Value} {ws : Bytes} {e2 : TypeId} {xs2 : List Value} (h : WordsAt w base b pa bv ws) (hk : w.ownsRow base2 e2 size2 v2 n2 xs2) (hT : e2 ≠ TU8) (hg : w.grownBy w' v2.ownBlock) : WordsAt w' base b pa bv ws := by
  rcases h with h | ⟨h1, h2, h3⟩
  · exact .inl h
  · refine .inr ⟨h1, h2, ?_⟩
    rcases hk.2 with ⟨rfl, _⟩ | ⟨g, cap, cur, rfl, _, hgg, _⟩
    · exact World.ownsRowF.kept h3 hg (by cases bv.ownBlock <;> simp [Value.ownBlock])
    · exact World.ownsRowF.kept h3 hg (.inr (ownF_ne h3 hgg hT))
theorem WordsAt.on {w w' : World} {base b : Nat} {pa bv : Value} {ws : Bytes} (h : WordsAt w base b pa bv ws) (hb : Below w.heap.size w w') : WordsAt w' base b pa bv ws := by
  rcases h with h | ⟨h1, h2, h3⟩
  · exact .inl h
  · exact .inr ⟨h1, h2, World.ownsRowF.kept h3 (grown_below hb none) (by cases bv.ownBlock <;> simp)⟩
/-- The builder in memory. -/
structure BAt (w : World) (b : Nat) (tv ov pa bv : Value) (s : BS) (L : List NdV) (wr : World) : Prop where
  below : Below w.heap.size w wr
  le : w.heap.size ≤ b
  blk : wr.heap[b]? = some (.cells #[tv, ov, pa, bv] TBd (0, 0))
  tree : NdRow wr w.heap.size tv L
  spec : L.map (·.1) = s.t
  opens : wr.ownsRow w.heap.size TOp 3 ov s.o.length (opCells s.o.reverse)
  words : WordsAt wr w.heap.size b pa bv s.ws
theorem BAt.on {w wr w' : World} {b : Nat} {tv ov pa bv : Value} {s : BS} {L : List NdV} (h : BAt w b tv ov pa bv s L wr) (hb : Below wr.heap.size wr w') : BAt w b tv ov pa bv s L w' :=
  ⟨h.below.trans (hb.mono h.below.size), h.le, by rw [hb.block _ (Array.getElem?_eq_some_iff.1 h.blk).1]; exact h.blk, h.tree.on hb, h.spec, own_on h.opens hb, h.words.on hb⟩
theorem BAt.len {w wr : World} {b : Nat} {tv ov pa bv : Value} {s : BS} {L : List NdV} (h : BAt w b tv ov pa bv s L wr) : L.length = s.t.length := by rw [← h.spec, List.length_map]
theorem local4 {W : World} {g : Nat} {a0 a1 a2 a3 : Value} {T : TypeId} (h : W.heap[g]? = some (.cells #[a0, a1, a2, a3] T (0, 0))) :
    (W.cell? ⟨g, 0, none⟩ = some a0 ∧ W.cell? ⟨g, 1, none⟩ = some a1 ∧ W.cell? ⟨g, 2, none⟩ = some a2 ∧ W.cell? ⟨g, 3, none⟩ = some a3) ∧
    (W.frozen? ⟨g, 0, none⟩ = false ∧ W.frozen? ⟨g, 1, none⟩ = false ∧ W.frozen? ⟨g, 2, none⟩ = false ∧ W.frozen? ⟨g, 3, none⟩ = false) :=
  ⟨⟨by simp [World.cell?, h], by simp [World.cell?, h], by simp [World.cell?, h], by simp [World.cell?, h]⟩, frozen_of_row W g 0 _ _ h, frozen_of_row W g 1 _ _ h, frozen_of_row W g 2 _ _ h, frozen_of_row W g 3 _ _ h⟩
/-- Other open ones. -/
theorem BAt.setOpen {w wr : World} {b : Nat} {tv ov pa bv ov' : Value} {s : BS} {L : List NdV} {o' : List Opd} (h : BAt w b tv ov pa bv s L wr) (ho : wr.ownsRow w.heap.size TOp 3 ov' o'.length (opCells o'.reverse)) :
    BAt w b tv ov' pa bv ⟨s.t, o', s.ws⟩ L (wr.setCell ⟨b, 1, none⟩ ov') :=
  ⟨h.below.setCell h.le _, h.le, by have := heap_setCell_same wr b 1 _ _ ov' h.blk; simpa using this,
    h.tree.other h.blk (by decide) (by decide) (by decide) (grown_set _ _ _ _), h.spec, own_other ho h.blk (by decide) (grown_set _ _ _ _), h.words.other h.blk (by decide) (grown_set _ _ _ _)⟩
/-- The row without its last one. -/
theorem opens_pop {w : World} {base : Nat} {ao : Option Addr} {cap : Nat} {o : Opd} {r : List Opd} (h : w.ownsRow base TOp 3 (.slice ao (r.length + 1) cap) (r.length + 1) (opCells (o :: r).reverse)) : w.ownsRow base TOp 3 (.slice ao r.length cap) r.length (opCells r.reverse) := by
  refine ⟨by rw [opCells_len, List.length_reverse], ?_⟩
  rcases h.2 with ⟨_, hn⟩ | ⟨g, c, cur, e, hb, hg, hc, hm, hs, ht⟩
  · omega
  · cases e
    refine .inr ⟨g, cap, cur, rfl, hb, hg, by omega, hm, hs, ?_⟩
    rw [List.reverse_cons, opCells_snoc] at ht
    have h2 := congrArg (List.take (r.length * 3)) ht
    rw [List.take_take, Nat.min_eq_left (by omega), List.take_left' (by rw [opCells_len, List.length_reverse])] at h2
    exact h2
/-- The cells of the top. -/
theorem opens_top {w : World} {base : Nat} {ao : Option Addr} {cap n : Nat} {o : Opd} {r : List Opd} (h : w.ownsRow base TOp 3 (.slice ao n cap) n (opCells (o :: r).reverse)) (hn : n = r.length + 1) :
    ∃ g, ao = some ⟨g, 0, none⟩ ∧ w.cell? ⟨g, r.length * 3, none⟩ = some (.int .i64 ((o.node : Nat) : Int)) ∧ w.cell? ⟨g, r.length * 3 + 1, none⟩ = some (.string ⟨o.name.toArray⟩) ∧ w.cell? ⟨g, r.length * 3 + 2, none⟩ = some (.int .u8 ((o.kind : Nat) : Int)) := by
  subst hn
  have h' := h
  have hr : (o :: r).reverse[r.length]? = some o := by rw [List.reverse_cons]; simp
  rcases h'.2 with ⟨_, hn⟩ | ⟨g, c, cur, e, _⟩
  · omega
  · cases e
    refine ⟨g, rfl, ?_, ?_, ?_⟩
    · have := opCells_at hr (c := 0) (by decide)
      rw [World.ownsRow.cellAt h (r.length * 3) (by omega)]; exact this
    · have := opCells_at hr (c := 1) (by decide)
      rw [World.ownsRow.cellAt h (r.length * 3 + 1) (by omega)]; exact this
    · have := opCells_at hr (c := 2) (by decide)
      rw [World.ownsRow.cellAt h (r.length * 3 + 2) (by omega)]; exact this
/-- Blocks of other types than the builder's are as they were. -/
def Keeps (W W' : World) : Prop := ∀ (k : Nat) (cs : Array Value) (T : TypeId) (fr : Nat × Nat), W.heap[k]? = some (.cells cs T fr) → T ≠ TBd → T ≠ TOp → T ≠ TNd → T ≠ TIn → T ≠ TU8 → W'.heap[k]? = some (.cells cs T fr)
theorem Keeps.refl (W : World) : Keeps W W := fun _ _ _ _ h _ _ _ _ _ => h
theorem Keeps.trans {A B C : World} (h : Keeps A B) (k : Keeps B C) : Keeps A C := fun i cs T fr hi h1 h2 h3 h4 h5 => k i cs T fr (h i cs T fr hi h1 h2 h3 h4 h5) h1 h2 h3 h4 h5
theorem Keeps.below {A B : World} (h : Below A.heap.size A B) : Keeps A B := fun i cs T fr hi _ _ _ _ _ => by rw [h.block i (Array.getElem?_eq_some_iff.1 hi).1]; exact hi
theorem Keeps.grown {A B : World} {base size n : Nat} {e : TypeId} {v : Value} {xs : List Value} (h : A.ownsRow base e size v n xs) (he : e = TOp ∨ e = TNd ∨ e = TIn) (hg : A.grownBy B v.ownBlock) : Keeps A B := fun i cs T fr hi _ h2 h3 h4 _ => by
  rw [hg.block i (Array.getElem?_eq_some_iff.1 hi).1 (fun ee => own_ne h hi (by rcases he with rfl | rfl | rfl <;> assumption) ee.symm)]
  exact hi
theorem Keeps.set {A : World} {b i : Nat} {cs : Array Value} {T : TypeId} {fr : Nat × Nat} (hb : A.heap[b]? = some (.cells cs T fr)) (hT : T = TBd ∨ T = TNd) (v : Value) : Keeps A (A.setCell ⟨b, i, none⟩ v) := fun k cs' T' fr' hk h1 _ h3 _ _ => by
  rw [heap_setCell_other _ _ _ _ (by
    show k ≠ b
    intro e
    subst e
    rw [hb] at hk
    cases hk
    rcases hT with rfl | rfl
    · exact h1 rfl
    · exact h3 rfl)]
  exact hk
/-- All blocks but one are as they were. -/
def OffB (b : Nat) (W W' : World) : Prop := ∀ (k : Nat) (o : Obj), W.heap[k]? = some o → k ≠ b → W'.heap[k]? = some o
theorem OffB.refl (b : Nat) (W : World) : OffB b W W := fun _ _ h _ => h
theorem OffB.trans {b : Nat} {A B C : World} (h : OffB b A B) (k : OffB b B C) : OffB b A C := fun i o hi hne => k i o (h i o hi hne) hne
theorem OffB.below {b : Nat} {A B : World} (h : Below A.heap.size A B) : OffB b A B := fun i o hi _ => by rw [h.block i (Array.getElem?_eq_some_iff.1 hi).1]; exact hi
theorem OffB.set {b i : Nat} (W : World) (v : Value) : OffB b W (W.setCell ⟨b, i, none⟩ v) := fun k o hk hne => by rw [heap_setCell_other _ _ _ _ (by exact hne)]; exact hk
theorem OffB.keeps {b : Nat} {A B : World} {cs : Array Value} {fr : Nat × Nat} (h : OffB b A B) (hb : A.heap[b]? = some (.cells cs TBd fr)) : Keeps A B := fun k cs' T' fr' hk h1 _ _ _ _ => h k _ hk (by
  intro e
  subst e
  rw [hb] at hk
  cases hk
  exact h1 rfl)
end Go.Proofs.YtkfmfldkllkcbaaGreatDoor
namespace Go.Proofs.YtkfmfldkllkcbaaGreatDoor
open Go.RowKit Go.RunKit Go.CharrefKit Go.Lib Go.TokenKit Go.TreeKit

theorem results_cell1 {P : Program} {fn : Func} {p : Tmp} {ty : TypeId} (h : fn.results = #[.cell p ty]) (tmps : Array Value) (w : World) (g : Nat) (t : TypeId) (cs : Array Value) (fr : Nat × Nat) (d : TypeDesc)
    (hp : tmps.getD p undef = .pointer (some ⟨g, 0, none⟩)) (hg : w.heap[g]? = some (.cells cs t fr))
    (hu : P.underlying ty = some d) (hd : (match d with | .struct _ | .array _ _ => true | _ => false) = true) (hi : (P.info? ty).map (·.size) = some cs.size) :
    (results fn tmps).run P w = .ok (.agg cs) w := by
  have e : (results fn tmps).run P w = ((asAddr (tmps.getD p undef)).run P w).andThen fun a w₁ => (loadVar ty a).run P w₁ := by
    simp only [results, h]
    simp [Sem.run_bind, Result.andThen]
  rw [e, hp]
  simp [asAddr, run_loadVar_row w g t ty cs fr d hg hu hd hi, Result.andThen]

set_option maxRecDepth 100000 in
set_option maxHeartbeats 1000000 in
theorem top_any (ao : Option Addr) (cap n base : Nat) (o : Opd) (r : List Opd) (w : World) (hn : n = r.length + 1) (hn32 : n ≤ 4294967296) (h : w.ownsRow base TOp 3 (.slice ao n cap) n (opCells (o :: r).reverse)) :
    Calls Tryz.prog 125 #[.slice ao n cap] w fun e w' => e = .returned (.agg #[.int .i64 ((o.node : Nat) : Int), .string ⟨o.name.toArray⟩, .int .u8 ((o.kind : Nat) : Int)]) ∧ Below w.heap.size w w' := by
  obtain ⟨g, rfl, c0, c1, c2⟩ := opens_top h hn
  have hg := World.block_lt_of_cell? _ _ c0
  obtain ⟨nm, hnm⟩ : ∃ nm : ByteArray, (⟨o.name.toArray⟩ : ByteArray) = nm := ⟨_, rfl⟩
  rw [hnm] at c1 ⊢
  have hI2 : r.length = n - 1 := by omega
  have h0 : (0 : Int) ≤ (n : Int) - 1 := by omega
  have h1 : (n : Int) - 1 < n := by omega
  have hnI : (n : Int) ≤ 4294967296 := by omega
  have b0 : Below w.heap.size w (w.alloc (.cells #[.int .i64 0, .string ⟨#[]⟩, .int .u8 0] TOp)) := (Below.refl _ _).alloc (Nat.le_refl _) _
  have d0 := (b0.cell hg (p := ⟨g, r.length * 3, none⟩)).trans c0
  have d1 := (b0.cell hg (p := ⟨g, r.length * 3 + 1, none⟩)).trans c1
  have d2 := (b0.cell hg (p := ⟨g, r.length * 3 + 2, none⟩)).trans c2
  rw [hI2] at d0 d1 d2 c0 c1 c2
  clear h hn hnm b0 hI2
  go_enter Tryz.func125, Tryz.ntmps125
  go_big_wp2
  refine bodyPost_ret (results_cell1 rfl _ _ w.heap.size TOp _ _ _ rfl (heap_alloc_new _ _) Tryz.underlying60 rfl (by kernel_rfl)) rfl ?_
  exact ⟨rfl, (Below.refl _ _).alloc (Nat.le_refl _) _⟩

set_option maxRecDepth 100000 in
set_option maxHeartbeats 1000000 in
theorem pop_any (w : World) (b : Nat) (ao : Option Addr) (cap n : Nat) (tv pa bv : Value) (s : BS) (o : Opd) (r : List Opd) (L : List NdV) (W : World) (hn : n = r.length + 1) (hn32 : n ≤ 4294967296) (hs : s.o = o :: r) (h : BAt w b tv (.slice ao n cap) pa bv s L W) :
    Calls Tryz.prog 126 #[.pointer (some ⟨b, 1, none⟩)] W fun e w' => e = .returned (.tuple #[]) ∧ BAt w b tv (.slice ao r.length cap) pa bv ⟨s.t, r, s.ws⟩ L w' ∧ OffB b W w' := by
  have hop := h.opens
  rw [hs, List.length_cons] at hop
  subst hn
  have HB := Lib.hid h
  have HO := Lib.hid (opens_pop hop)
  obtain ⟨⟨x0, x1, x2, x3⟩, y0, y1, y2, y3⟩ := local4 h.blk
  have h0 : (0 : Int) ≤ ((r.length + 1 : Nat) : Int) - 1 := by omega
  have hI : ((r.length + 1 : Nat) : Int) ≤ 4294967296 := by omega
  have hI2 : ((r.length + 1 : Nat) : Int) - 1 = (r.length : Int) := by omega
  have hcap : (r.length : Int) ≤ (cap : Int) := by
    rcases hop.2 with ⟨_, h'⟩ | ⟨_, _, _, e, _, _, hc, _⟩
    · omega
    · cases e; omega
  have hw : IntKind.i64.wrap (r.length : Int) = (r.length : Int) := IntWalk.i64_in _ (by omega)
  clear h hop hs
  go_enter Tryz.func126, Tryz.ntmps126
  go_big_wp2
  go_region
  all_goals
    go_end0
    exact ⟨rfl, (HB.out.setOpen HO.out).on (Below.refl _ _).drew, OffB.set W _⟩

theorem field0 (a : Int) (b : ByteArray) (c : Int) (w : World) : (Instr.field 60 (.agg #[.int .i64 a, .string b, .int .u8 c]) 0).run Tryz.prog w = .ok (.int .i64 a) w := by kernel_rfl
theorem field1 (a : Int) (b : ByteArray) (c : Int) (w : World) : (Instr.field 60 (.agg #[.int .i64 a, .string b, .int .u8 c]) 1).run Tryz.prog w = .ok (.string b) w := by kernel_rfl
theorem field2 (a : Int) (b : ByteArray) (c : Int) (w : World) : (Instr.field 60 (.agg #[.int .i64 a, .string b, .int .u8 c]) 2).run Tryz.prog w = .ok (.int .u8 c) w := by kernel_rfl
theorem opens_push {w : World} {base n : Nat} {v : Value} {o : Opd} {l : List Opd} (h : w.ownsRow base TOp 3 v n (opCells l.reverse ++ opCell o)) (hn : n = l.length + 1) : w.ownsRow base TOp 3 v (o :: l).length (opCells (o :: l).reverse) := by
  rw [List.reverse_cons, opCells_snoc, List.length_cons, ← hn]; exact h
theorem BAt.blkGrown {w W W2 : World} {b : Nat} {tv ov pa bv : Value} {s : BS} {L : List NdV} (h : BAt w b tv ov pa bv s L W) (hg : W.grownBy W2 ov.ownBlock) : W2.heap[b]? = some (.cells #[tv, ov, pa, bv] TBd (0, 0)) :=
  (hg.block b (Array.getElem?_eq_some_iff.1 h.blk).1 (fun e => own_ne h.opens h.blk (by decide) e.symm)).trans h.blk
/-- The row of open ones has grown. -/
theorem BAt.pushed {w W W2 : World} {b : Nat} {tv ov ov' pa bv : Value} {s : BS} {L : List NdV} {o : Opd} (h : BAt w b tv ov pa bv s L W) (hg : W.grownBy W2 ov.ownBlock) (ho : W2.ownsRow w.heap.size TOp 3 ov' (o :: s.o).length (opCells (o :: s.o).reverse)) :
    BAt w b tv ov' pa bv ⟨s.t, o :: s.o, s.ws⟩ L (W2.setCell ⟨b, 1, none⟩ ov') := by
  have hblk : W2.heap[b]? = some (.cells #[tv, ov, pa, bv] TBd (0, 0)) := (hg.block b (Array.getElem?_eq_some_iff.1 h.blk).1 (fun e => own_ne h.opens h.blk (by decide) e.symm)).trans h.blk
  have hb : Below w.heap.size w W2 := h.below.grown hg h.below.size (fun k hk => (World.ownsRow.lt h.opens k hk).1)
  refine ⟨hb.setCell h.le _, h.le, by have := heap_setCell_same W2 b 1 _ _ ov' hblk; simpa using this, ?_, h.spec, own_other ho hblk (by decide) (grown_set _ _ _ _), ?_⟩
  · exact (h.tree.beside h.opens (by decide) (by decide) (by decide) hg).other hblk (by decide) (by decide) (by decide) (grown_set _ _ _ _)
  · exact (h.words.beside h.opens (by decide) hg).other hblk (by decide) (grown_set _ _ _ _)
theorem Tryz.infoOp : (Tryz.prog.info? 60).map (fun i => (i.zero, i.size, i.bytes)) = some (some (.agg #[.int .i64 0, .string ⟨#[]⟩, .int .u8 0]), 3, 32) := by kernel_rfl

set_option maxRecDepth 100000 in
set_option maxHeartbeats 2000000 in
theorem push_any (w : World) (b : Nat) (ao : Option Addr) (cap n : Nat) (tv pa bv : Value) (s : BS) (nd k : Nat) (nm : ByteArray) (L : List NdV) (W : World) (hn : s.o.length = n) (hn32 : n ≤ 4294967296) (h : BAt w b tv (.slice ao n cap) pa bv s L W) :
    Calls Tryz.prog 91 #[.pointer (some ⟨b, 1, none⟩), .agg #[.int .i64 ((nd : Nat) : Int), .string nm, .int .u8 ((k : Nat) : Int)]] W fun e w' => e = .returned (.tuple #[]) ∧ (∃ ao' cap', BAt w b tv (.slice ao' (n + 1) cap') pa bv ⟨s.t, ⟨nd, bl nm, k⟩ :: s.o, s.ws⟩ L w') ∧ Keeps W w' := by
  have hblt := (Array.getElem?_eq_some_iff.1 h.blk).1
  have b1 : Below W.heap.size W (W.alloc (.cells #[.int .i64 ((nd : Nat) : Int), .string nm, .int .u8 ((k : Nat) : Int)] TOp)) := (Below.refl _ _).alloc (Nat.le_refl _) _
  have h1 := h.on b1
  obtain ⟨W1, hW1⟩ : ∃ W1, W.alloc (.cells #[.int .i64 ((nd : Nat) : Int), .string nm, .int .u8 ((k : Nat) : Int)] TOp) = W1 := ⟨_, rfl⟩
  have hl := heap_alloc_new W (.cells #[.int .i64 ((nd : Nat) : Int), .string nm, .int .u8 ((k : Nat) : Int)] TOp)
  rw [hW1] at h1 hl
  obtain ⟨B, hB⟩ : ∃ B, W.heap.size = B := ⟨_, rfl⟩
  rw [hB] at hl
  obtain ⟨⟨x0, x1, x2, x3⟩, y0, y1, y2, y3⟩ := local4 h1.blk
  have z0 : W1.cell? ⟨B, 0, none⟩ = some (.int .i64 ((nd : Nat) : Int)) := by rw [cell_of_row W1 B 0 _ _ _ hl]; rfl
  have z1 : W1.cell? ⟨B, 1, none⟩ = some (.string nm) := by rw [cell_of_row W1 B 1 _ _ _ hl]; rfl
  have z2 : W1.cell? ⟨B, 2, none⟩ = some (.int .u8 ((k : Nat) : Int)) := by rw [cell_of_row W1 B 2 _ _ _ hl]; rfl
  have HB := Lib.hid h1
  have HN := Lib.hid hn
  obtain ⟨i0, hi0, hz0, hz1, hz2⟩ := info_parts Tryz.infoOp
  have HG := Lib.hid (h1.on (w' := (W1.alloc (.cells #[.int .i64 ((nd : Nat) : Int), .string nm, .int .u8 ((k : Nat) : Int)] TOp)).drew) ((Below.refl _ _).alloc (Nat.le_refl _) _).drew)
  obtain ⟨⟨p0, p1, p2, p3⟩, q0, q1, q2, q3⟩ := local4 (h1.on (w' := W1.alloc (.cells #[.int .i64 ((nd : Nat) : Int), .string nm, .int .u8 ((k : Nat) : Int)] TOp)) ((Below.refl _ _).alloc (Nat.le_refl _) _)).blk
  have HK1 := Lib.hid ((hW1 ▸ Keeps.below b1 : Keeps W W1).trans (Keeps.below (((Below.refl W1.heap.size W1).alloc (Nat.le_refl _) (.cells #[.int .i64 ((nd : Nat) : Int), .string nm, .int .u8 ((k : Nat) : Int)] TOp)).drew)))
  have HNews : Hid ((W1.alloc (.cells #[.int .i64 ((nd : Nat) : Int), .string nm, .int .u8 ((k : Nat) : Int)] TOp)).drew.heap[W1.heap.size]? = some (.cells #[.int .i64 ((nd : Nat) : Int), .string nm, .int .u8 ((k : Nat) : Int)] TOp (0, 0))) := Lib.hid (heap_alloc_new W1 _)
  have H1c : Hid (∀ u ∈ [Value.int .i64 ((nd : Nat) : Int), Value.string nm, Value.int .u8 ((k : Nat) : Int)], u.oneCell' = true) := Lib.hid fun u hu => by simp only [List.mem_cons, List.not_mem_nil, or_false] at hu; rcases hu with rfl | rfl | rfl <;> rfl
  have HMx : Hid (n + 1 ≤ maxLen) := Lib.hid (by unfold maxLen; omega)
  have HOp := Lib.hid (show (W1.alloc (.cells #[.int .i64 ((nd : Nat) : Int), .string nm, .int .u8 ((k : Nat) : Int)] TOp)).drew.ownsRow w.heap.size TOp 3 (.slice ao n cap) n (opCells s.o.reverse) from by have := HG.out.opens; rwa [hn] at this)
  clear h h1 b1 hblt hl
  go_enter Tryz.func91, Tryz.ntmps91
  go_big_wp2
  go_region_law (refine step_append_lies _ rfl _ _ 62 rfl w.heap.size 60 i0 _ 3 32 Tryz.underlying62 hi0 hz0 hz1 hz2 rfl (by decide) _ n (opCells s.o.reverse) rfl HOp.out ⟨W1.heap.size, 0, none⟩ 1 1 [.int .i64 ((nd : Nat) : Int), .string nm, .int .u8 ((k : Nat) : Int)] rfl rfl (World.news_of_block HNews.out) H1c.out (by decide) HMx.out (by omega) HG.out.below.size _ rfl ?_; intro g cap' W2 hown hgrow _ _; obtain ⟨⟨u0, u1, u2, u3⟩, v0, v1, v2, v3⟩ := local4 (HG.out.blkGrown hgrow); have HOwn := Lib.hid hown; have HGr := Lib.hid hgrow; clear hown hgrow)
  all_goals
    go_end0
    refine ⟨rfl, ⟨some ⟨g, 0, none⟩, cap', ?_⟩, ((HK1.out.trans (Keeps.grown HOp.out (.inl rfl) HGr.out)).trans (Keeps.set (HG.out.blkGrown HGr.out) (.inl rfl) _))⟩
    have ho := HOwn.out
    rw [show [Value.int .i64 ((nd : Nat) : Int), Value.string nm, Value.int .u8 ((k : Nat) : Int)] = opCell ⟨nd, bl nm, k⟩ from rfl] at ho
    exact HG.out.pushed (o := ⟨nd, bl nm, k⟩) HGr.out (opens_push ho (by rw [hn]))

/-- The cells of an open one in the row, from the top down. -/
theorem opens_at {w : World} {base : Nat} {ao : Option Addr} {cap n : Nat} {l : List Opd} (h : w.ownsRow base TOp 3 (.slice ao n cap) n (opCells l.reverse)) (hn : n = l.length) {i : Nat} {o : Opd} (hi : i < n) (ho : l[n - 1 - i]? = some o) :
    ∃ g, ao = some ⟨g, 0, none⟩ ∧ w.cell? ⟨g, i * 3, none⟩ = some (.int .i64 ((o.node : Nat) : Int)) ∧ w.cell? ⟨g, i * 3 + 1, none⟩ = some (.string ⟨o.name.toArray⟩) ∧ w.cell? ⟨g, i * 3 + 2, none⟩ = some (.int .u8 ((o.kind : Nat) : Int)) := by
  have h' := h
  have hr : l.reverse[i]? = some o := by rw [List.getElem?_reverse (by omega), ← hn]; exact ho
  rcases h'.2 with ⟨_, hn⟩ | ⟨g, c, cur, e, _⟩
  · omega
  · cases e
    refine ⟨g, rfl, ?_, ?_, ?_⟩
    · have := opCells_at hr (c := 0) (by decide)
      rw [World.ownsRow.cellAt h (i * 3) (by omega)]; exact this
    · have := opCells_at hr (c := 1) (by decide)
      rw [World.ownsRow.cellAt h (i * 3 + 1) (by omega)]; exact this
    · have := opCells_at hr (c := 2) (by decide)
      rw [World.ownsRow.cellAt h (i * 3 + 2) (by omega)]; exact this

set_option maxRecDepth 100000 in
set_option maxHeartbeats 1000000 in
theorem endsP_any (k : Nat) (hk : k ≤ 8) (w : World) : Calls Tryz.prog 131 #[.int .u8 ((k : Nat) : Int)] w fun e w' => e = .returned (.bool (endsK k)) ∧ w = w' := by
  have : k = 0 ∨ k = 1 ∨ k = 2 ∨ k = 3 ∨ k = 4 ∨ k = 5 ∨ k = 6 ∨ k = 7 ∨ k = 8 := by omega
  rcases this with rfl | rfl | rfl | rfl | rfl | rfl | rfl | rfl | rfl
  all_goals
    go_enter Tryz.func131, Tryz.ntmps131
    go_big_wp2
    go_ret
    exact ⟨rfl, rfl⟩
set_option maxRecDepth 100000 in
set_option maxHeartbeats 1000000 in
theorem isVoid_any (k : Nat) (hk : k ≤ 8) (w : World) : Calls Tryz.prog 90 #[.int .u8 ((k : Nat) : Int)] w fun e w' => e = .returned (.bool (voidK k)) ∧ w = w' := by
  have : k = 0 ∨ k = 1 ∨ k = 2 ∨ k = 3 ∨ k = 4 ∨ k = 5 ∨ k = 6 ∨ k = 7 ∨ k = 8 := by omega
  rcases this with rfl | rfl | rfl | rfl | rfl | rfl | rfl | rfl | rfl
  all_goals
    go_enter Tryz.func90, Tryz.ntmps90
    go_big_wp2
    go_ret
    exact ⟨rfl, rfl⟩
theorem bl_eq {x y : ByteArray} (h : bl x = bl y) : x = y := ByteArray.ext (Array.toList_inj.1 h)
set_option maxRecDepth 100000 in
set_option maxHeartbeats 1000000 in
theorem isWall_any (nd k : Nat) (nm : ByteArray) (w : World) : Calls Tryz.prog 159 #[.agg #[.int .i64 ((nd : Nat) : Int), .string nm, .int .u8 ((k : Nat) : Int)]] w fun e w' => e = .returned (.bool (wallO ⟨nd, bl nm, k⟩)) ∧ Below w.heap.size w w' := by
  have hb : ∀ W, Below w.heap.size w W → Below w.heap.size w W := fun W h => h
  obtain ⟨z, hz⟩ : ∃ z, wallO ⟨nd, bl nm, k⟩ = z := ⟨_, rfl⟩
  rw [hz]
  have hz2 : ((k == 4) || ((k == 1) && !(bl nm == [100, 105, 118]))) = z := hz
  by_cases h4 : k = 4
  · have h4b : ((k : Int) == 4) = true := by rw [beq_iff_eq]; omega
    have : z = true := by rw [← hz2, h4]; rfl
    subst this
    clear hz hz2 hb h4
    go_enter Tryz.func159, Tryz.ntmps159
    go_big_wp2
    go_ret
    exact ⟨rfl, (Below.refl _ _).alloc (Nat.le_refl _) _⟩
  · have h4b : ((k : Int) == 4) = false := by rw [beq_eq_false_iff_ne]; omega
    by_cases h1 : k = 1
    · have h1b : ((k : Int) == 1) = true := by rw [beq_iff_eq]; omega
      by_cases hn : bl nm = [100, 105, 118]
      · have : z = false := by rw [← hz2, h1, hn]; rfl
        subst this
        have hnm : nm = ⟨#[100, 105, 118]⟩ := bl_eq hn
        subst hnm
        clear hz hz2 hb hn h4 h1
        go_enter Tryz.func159, Tryz.ntmps159
        go_big_wp2
        go_ret
        exact ⟨rfl, (Below.refl _ _).alloc (Nat.le_refl _) _⟩
      · have : z = true := by rw [← hz2, h1]; simp [hn]
        subst this
        have hn2 : ¬ nm.toList = [100, 105, 118] := by rw [Lib.toList_data]; exact hn
        have hn4 : (nm.toList == [100, 105, 118]) = false := beq_eq_false_iff_ne.2 hn2
        have hn5 : (nm.toList != [100, 105, 118]) = true := by rw [bne_iff_ne]; exact hn2
        clear hz hz2 hb hn h4 h1
        go_enter Tryz.func159, Tryz.ntmps159
        go_big_wp2
        go_ret
        exact ⟨rfl, (Below.refl _ _).alloc (Nat.le_refl _) _⟩
    · have h1b : ((k : Int) == 1) = false := by rw [beq_eq_false_iff_ne]; omega
      have : z = false := by rw [← hz2]; simp [h4, h1]
      subst this
      clear hz hz2 hb h4 h1
      go_enter Tryz.func159, Tryz.ntmps159
      go_big_wp2
      go_ret
      exact ⟨rfl, (Below.refl _ _).alloc (Nat.le_refl _) _⟩
theorem hasR_cons {k : Nat} {o : Opd} {r : List Opd} (hr : r ≠ []) : hasR k (o :: r) = if o.kind == k then true else if k == 3 && wallO o then false else hasR k r := by
  cases r with
  | nil => exact absurd rfl hr
  | cons x r => rfl

set_option maxRecDepth 100000 in
set_option maxHeartbeats 4000000 in
theorem has_any (ao : Option Addr) (cap n base k : Nat) (l : List Opd) (w : World) (hn : n = l.length) (hl : l ≠ []) (hn32 : n ≤ 4294967296) (h : w.ownsRow base TOp 3 (.slice ao n cap) n (opCells l.reverse)) :
    Calls Tryz.prog 132 #[.slice ao n cap, .int .u8 ((k : Nat) : Int)] w fun e w' => e = .returned (.bool (hasR k l)) ∧ Below w.heap.size w w' := by
  have hpos : 0 < n := by rw [hn]; exact List.length_pos_iff.2 hl
  have HR := Lib.hid h
  have HN := Lib.hid hn
  have hnI : (n : Int) ≤ 4294967296 := by omega
  obtain ⟨z, hz⟩ : ∃ z, hasR k l = z := ⟨_, rfl⟩
  have HZ := Lib.hid hz
  rw [hz]
  have hn1 : (n : Int) - 1 = ((n - 1 : Nat) : Int) := by omega
  have h1n : (1 : Int) ≤ n := by omega
  clear h hz hn
  go_enter Tryz.func132, Tryz.ntmps132
  go_big_wp2
  go_step3
  go_big_wp2
  go_step3
  go_big_wp2
  go_loopw [5] (fun v wr => ∃ i : Nat, v = .int .i64 (i : Nat) ∧ i < n ∧ Hid (Below w.heap.size w wr) ∧ Hid (hasR k (l.drop (n - 1 - i)) = z)) (fun v _ => (RowKit.intOf v).toNat)
  case atStart => exact ⟨n - 1, by first | rfl | (rw [hn1]) | go_num, by omega, Lib.hid (Below.refl _ _), Lib.hid (by rw [Nat.sub_self, List.drop_zero]; exact HZ.out)⟩
  case round =>
    obtain ⟨i, rfl, hi, HB, HS⟩ := hrel
    by_cases hi0 : 0 < i
    · have hiI : (0 : Int) < i := by omega
      have hinI : (i : Int) < n := by omega
      have hln : n = l.length := HN.out
      obtain ⟨o, ho⟩ : ∃ o, l[n - 1 - i]? = some o := ⟨l[n - 1 - i]'(by omega), by simp [show n - 1 - i < l.length by omega]⟩
      have hdr : l.drop (n - 1 - i) = o :: l.drop (n - 1 - (i - 1)) := by
        have hlt : n - 1 - i < l.length := by omega
        rw [List.drop_eq_getElem_cons hlt]
        rw [List.getElem?_eq_getElem hlt] at ho
        rw [Option.some.inj ho, show n - 1 - i + 1 = n - 1 - (i - 1) by omega]
      have hrne : l.drop (n - 1 - (i - 1)) ≠ [] := by
        intro e
        have := congrArg List.length e
        rw [List.length_drop] at this
        simp at this; omega
      have hst := HS.out
      rw [hdr, hasR_cons hrne] at hst
      obtain ⟨g, rfl, c0, c1, c2⟩ := opens_at (own_on HR.out HB.out) hln hi ho
      have hg := World.block_lt_of_cell? _ _ c0
      obtain ⟨⟨nd, nm, kd⟩, ho2⟩ : ∃ x, o = x := ⟨_, rfl⟩
      subst ho2
      obtain ⟨nb, hnb⟩ : ∃ nb : ByteArray, (⟨nm.toArray⟩ : ByteArray) = nb := ⟨_, rfl⟩
      have hbn : bl nb = nm := by rw [← hnb, bl_of]
      simp only at c0 c1 c2 hst
      rw [hnb] at c1
      have hi1 : (i : Int) - 1 = ((i - 1 : Nat) : Int) := by omega
      have h1i : (1 : Int) ≤ i := by omega
      by_cases hk : kd = k
      · subst hk
        have hzt : z = true := by rw [← hst]; simp
        subst hzt
        clear hst hdr hrne ho hln hbn hnb hi1
        go_big_wp2
        go_ret
        exact ⟨rfl, HB.out⟩
      · have hkb : ((kd : Int) == (k : Int)) = false := by rw [beq_eq_false_iff_ne]; omega
        have hkb2 : ((kd : Nat) == k) = false := beq_eq_false_iff_ne.2 hk
        rw [hkb2, if_neg (by decide)] at hst
        by_cases h3 : k = 3
        · have h3b : ((k : Int) == 3) = true := by rw [beq_iff_eq]; omega
          have h3b2 : ((k : Nat) == 3) = true := beq_iff_eq.2 h3
          have hW := Lib.hid fun W => isWall_any nd kd nb W
          rw [hbn] at hW
          rw [h3b2, Bool.true_and] at hst
          clear h3b2 h3
          cases hw : wallO ⟨nd, nm, kd⟩ with
          | true =>
            rw [hw] at hW hst
            have hzt : z = false := by rw [← hst]; rfl
            subst hzt
            clear hst hdr hrne ho hln hbn hnb hi1 hw hkb2
            go_big_wp2_with (go_at_call 159; refine (hW.out _).mono ?_; rintro e w1 ⟨rfl, hb1⟩)
            rw [Exit.noGoto_ret]
            go_ret
            exact ⟨rfl, HB.out.trans (hb1.mono HB.out.size)⟩
          | false =>
            rw [hw, if_neg (by decide)] at hst
            rw [hw] at hW
            have HS2 := Lib.hid hst
            clear hst hdr hrne ho hln hbn hnb hw hkb2
            go_big_wp2_with (go_at_call 159; refine (hW.out _).mono ?_; rintro e w1 ⟨rfl, hb1⟩)
            exact ⟨⟨i - 1, by first | rfl | (rw [hi1]) | go_num, by omega, Lib.hid (HB.out.trans (hb1.mono HB.out.size)), HS2⟩, by simp [RowKit.intOf]; omega⟩
        · have h3b : ((k : Int) == 3) = false := by rw [beq_eq_false_iff_ne]; omega
          have h3b2 : ((k : Nat) == 3) = false := beq_eq_false_iff_ne.2 h3
          rw [h3b2, Bool.false_and, if_neg (by decide)] at hst
          have HS2 := Lib.hid hst
          clear hst hdr hrne ho hln hbn hnb hkb2 h3b2
          go_big_wp2
          exact ⟨⟨i - 1, by first | rfl | (rw [hi1]) | go_num, by omega, HB, HS2⟩, by simp [RowKit.intOf]; omega⟩
    · obtain rfl : i = 0 := by omega
      have hz0 : z = false := by
        rw [← HS.out]
        have hlen := congrArg List.length (show l.drop (n - 1 - 0) = l.drop (n - 1 - 0) from rfl)
        have : (l.drop (n - 1 - 0)).length = 1 := by rw [List.length_drop]; have := HN.out; omega
        match hd : l.drop (n - 1 - 0), this with
        | [x], _ => rfl
      subst hz0
      go_big_wp2
      rw [Exit.noGoto_ret]
      go_ret
      exact ⟨rfl, HB.out⟩

set_option maxRecDepth 100000 in
set_option maxHeartbeats 4000000 in
theorem takes_any (ao : Option Addr) (cap n base k : Nat) (o : Opd) (r : List Opd) (w : World) (hk : k ≤ 8) (hn : n = r.length + 1) (hn32 : n ≤ 4294967296) (h : w.ownsRow base TOp 3 (.slice ao n cap) n (opCells (o :: r).reverse)) :
    Calls Tryz.prog 89 #[.slice ao n cap, .int .u8 ((k : Nat) : Int)] w fun e w' => e = .returned (.bool (takesL k (o :: r))) ∧ Below w.heap.size w w' := by
  have HE := Lib.hid fun W => endsP_any k hk W
  have hh := fun (j : Nat) W (hb : Below w.heap.size w W) => has_any ao cap n base j (o :: r) W (by rw [hn]; rfl) (by simp) hn32 (own_on h hb)
  have H2 : Hid (∀ W, Below w.heap.size w W → Calls Tryz.prog 132 #[.slice ao n cap, .int .u8 2] W fun e w' => e = .returned (.bool (hasR 2 (o :: r))) ∧ Below W.heap.size W w') := Lib.hid fun W hb => hh 2 W hb
  have HK := Lib.hid (hh k)
  have HT := Lib.hid fun W (hb : Below w.heap.size w W) => top_any ao cap n base o r W hn hn32 (own_on h hb)
  obtain ⟨z2, hz2⟩ : ∃ z, hasR 2 (o :: r) = z := ⟨_, rfl⟩
  obtain ⟨zk, hzk⟩ : ∃ z, hasR k (o :: r) = z := ⟨_, rfl⟩
  have hres : takesL k (o :: r) = if endsK k && z2 then false else if k == 3 || k == 6 then !zk else if k == 4 then !(o.kind == 4) else true := by unfold takesL; rw [hz2, hzk]; rfl
  rw [hres]
  rw [hz2] at H2
  rw [hzk] at HK
  obtain ⟨kd, hkd⟩ : ∃ kd, o.kind = kd := ⟨_, rfl⟩
  rw [hkd] at HT ⊢
  obtain ⟨nm, hnm⟩ : ∃ nm : ByteArray, (⟨o.name.toArray⟩ : ByteArray) = nm := ⟨_, rfl⟩
  rw [hnm] at HT
  clear hres hz2 hzk hh h hn hkd hnm
  have : k = 0 ∨ k = 1 ∨ k = 2 ∨ k = 3 ∨ k = 4 ∨ k = 5 ∨ k = 6 ∨ k = 7 ∨ k = 8 := by omega
  have hf := field2 ((o.node : Nat) : Int) nm ((kd : Nat) : Int)
  have h44 : Hid (kd = 4) ∧ (((kd : Nat) : Int) != 4) = false ∨ Hid (¬ kd = 4) ∧ (((kd : Nat) : Int) != 4) = true := by
    by_cases e : kd = 4
    · exact .inl ⟨Lib.hid e, by rw [e]; rfl⟩
    · exact .inr ⟨Lib.hid e, by rw [bne_iff_ne]; omega⟩
  rcases this with rfl | rfl | rfl | rfl | rfl | rfl | rfl | rfl | rfl
  all_goals
    rw [show endsK _ = _ from rfl] at HE
    cases z2 <;> rcases h44 with ⟨e4, f4⟩ | ⟨e4, f4⟩
  all_goals
    go_enter Tryz.func89, Tryz.ntmps89
    go_big_wp2_with (first
      | (go_at_call 131; refine (HE.out _).mono ?_; rintro e w1 ⟨rfl, rfl⟩)
      | (go_at_call_of 132 (Value.int .u8 2); refine (H2.out _ (Below.refl _ _)).mono ?_; rintro e w2 ⟨rfl, hb2⟩; have HB2 := Lib.hid hb2; clear hb2 H2)
      | (go_at_call 132; first
          | (refine (HK.out _ HB2.out).mono ?_; rintro e w3 ⟨rfl, hb3⟩; have HB3 := Lib.hid (HB2.out.trans (hb3.mono HB2.out.size)); clear hb3)
          | (refine (HK.out _ (Below.refl _ _)).mono ?_; rintro e w3 ⟨rfl, hb3⟩; have HB3 := Lib.hid hb3; clear hb3))
      | (go_at_call 125; first
          | (refine (HT.out _ HB2.out).mono ?_; rintro e w3 ⟨rfl, hb3⟩; have HB3 := Lib.hid (HB2.out.trans (hb3.mono HB2.out.size)); clear hb3)))
    go_ret
    first
      | exact ⟨rfl, Below.refl _ _⟩
      | exact ⟨rfl, HB2.out⟩
      | exact ⟨rfl, HB3.out⟩
      | exact ⟨by simp [e4.out], HB3.out⟩
end Go.Proofs.YtkfmfldkllkcbaaGreatDoor
namespace Go.Proofs.YtkfmfldkllkcbaaGreatDoor
open Go.RowKit Go.RunKit Go.CharrefKit Go.Lib Go.TokenKit Go.TreeKit

/-- Kinds in a row. -/
def KindsIn (w : World) (g : Nat) (ks : List Nat) : Prop := ∀ i x, ks[i]? = some x → w.cell? ⟨g, i, none⟩ = some (.int .u8 ((x : Nat) : Int))
theorem KindsIn.off {w w' : World} {b g : Nat} {ks : List Nat} (h : KindsIn w g ks) (ho : OffB b w w') (hne : g ≠ b) : KindsIn w' g ks := fun i x hx => by
  have a := h i x hx
  have hlt := World.block_lt_of_cell? _ _ a
  have e1 : w.heap[g]? = some w.heap[g] := Array.getElem?_eq_getElem hlt
  rw [World.cell?_of_block (w := w) (w' := w') (a := ⟨g, i, none⟩) (by rw [ho g _ e1 hne]; exact e1.symm)]
  exact a
/-- How many are open. -/
def openAt (b : Nat) (w : World) : Nat := match w.cell? ⟨b, 1, none⟩ with
  | some (.slice _ n _) => n
  | _ => 0
theorem BAt.openAt {w wr : World} {b n cap : Nat} {ao : Option Addr} {tv pa bv : Value} {s : BS} {L : List NdV} (h : BAt w b tv (.slice ao n cap) pa bv s L wr) : openAt b wr = n := by
  have := (local4 h.blk).1.2.1
  unfold Proofs.YtkfmfldkllkcbaaGreatDoor.openAt
  rw [this]
theorem KindsIn.on {w w' : World} {g : Nat} {ks : List Nat} (h : KindsIn w g ks) (hb : Below w.heap.size w w') : KindsIn w' g ks := fun i x hx => by
  have a := h i x hx
  rw [hb.cell (World.block_lt_of_cell? _ _ a)]; exact a

/-- Where a kind is among some. -/
def IdxK (ks : List Nat) (kd : Nat) (w : World) (e : Ending) (w' : World) : Prop := ∃ r : Int, e = .returned (.int .i64 r) ∧ decide (0 ≤ r) = ks.contains kd ∧ w = w'

set_option maxRecDepth 100000 in
set_option maxHeartbeats 1000000 in
theorem indexK_any (g n cap kd : Nat) (ks : List Nat) (hn : n = ks.length) (hn32 : n ≤ 65536) (w : World) (h : KindsIn w g ks) :
    Calls Tryz.prog 186 #[.slice (some ⟨g, 0, none⟩) n cap, .int .u8 ((kd : Nat) : Int)] w fun e w' => IdxK ks kd w e w' := by
  have HK := Lib.hid h
  have HN := Lib.hid hn
  clear h hn
  go_enter Tryz.func186, Tryz.ntmps186
  go_big_wp2
  go_loop [8] (fun v => ∃ i : Nat, v = .int .i64 (i : Nat) ∧ i ≤ n ∧ Hid (∀ j x, j < i → ks[j]? = some x → x ≠ kd)) (fun v => n - (RowKit.intOf v).toNat)
  case atStart => exact ⟨0, rfl, Nat.zero_le _, Lib.hid fun j x h => by omega⟩
  case round =>
    obtain ⟨i, rfl, hi, HNo⟩ := hrel
    by_cases hin : i < n
    · have hinI : (i : Int) < n := by omega
      obtain ⟨x, hx⟩ : ∃ x, ks[i]? = some x := ⟨ks[i]'(by have := HN.out; omega), by simp [show i < ks.length by have := HN.out; omega]⟩
      have c := HK.out i x hx
      have HX := Lib.hid hx
      clear hx
      by_cases he : x = kd
      · have heb : ((kd : Int) == (x : Int)) = true := by rw [beq_iff_eq]; omega
        have HE := Lib.hid he
        clear he
        go_big_wp2
        go_ret
        refine ⟨_, rfl, ?_, rfl⟩
        rw [List.contains_iff_mem.2 (by rw [← HE.out]; exact List.mem_of_getElem? HX.out)]
        simp
      · have heb : ((kd : Int) == (x : Int)) = false := by rw [beq_eq_false_iff_ne]; omega
        have HE := Lib.hid he
        clear he
        go_big_wp2
        refine ⟨⟨i + 1, by go_num, by omega, Lib.hid fun j y hj hy => ?_⟩, by simp [RowKit.intOf]; omega⟩
        by_cases e : j = i
        · subst e; rw [HX.out] at hy; cases hy; exact HE.out
        · exact HNo.out j y (by omega) hy
    · obtain rfl : i = n := by omega
      have hno : ks.contains kd = false := by
        rw [Bool.eq_false_iff]
        intro hc
        obtain ⟨j, hj⟩ := List.mem_iff_getElem?.1 (List.contains_iff_mem.1 hc)
        exact HNo.out j kd (by have := (List.getElem?_eq_some_iff.1 hj).1; have := HN.out; omega) hj rfl
      have HNo2 := Lib.hid hno
      clear hno
      go_big_wp2
      go_ret
      exact ⟨-1, rfl, by rw [HNo2.out]; rfl, rfl⟩
set_option maxRecDepth 100000 in
set_option maxHeartbeats 1000000 in
theorem containsK_any (g n cap kd : Nat) (ks : List Nat) (hn : n = ks.length) (hn32 : n ≤ 65536) (w : World) (h : KindsIn w g ks) :
    Calls Tryz.prog 160 #[.slice (some ⟨g, 0, none⟩) n cap, .int .u8 ((kd : Nat) : Int)] w fun e w' => e = .returned (.bool (ks.contains kd)) ∧ w = w' := by
  have HI := Lib.hid (indexK_any g n cap kd ks hn hn32 w h)
  clear h hn
  go_enter Tryz.func160, Tryz.ntmps160
  go_big_wp2_with (go_at_call 186; refine HI.out.mono ?_; rintro e w1 ⟨r, rfl, hr, rfl⟩)
  go_ret
  refine ⟨?_, rfl⟩
  rw [← hr]
  show Ending.returned (Value.bool (decide (kd ∈ ks))) = _
  rw [hr, List.contains_eq_mem]

set_option maxRecDepth 100000 in
set_option maxHeartbeats 2000000 in
theorem closeAll_any (w : World) (b g m cap0 : Nat) (ks : List Nat) (tv pa bv : Value) (s : BS) (L : List NdV) (W : World) (ao : Option Addr) (cap n : Nat) (hm : m = ks.length) (hm32 : m ≤ 65536) (h0 : ks.contains 0 = false) (hgb : g ≠ b) (hk : KindsIn W g ks) (hn : s.o.length = n) (hn32 : n ≤ 4294967296)
    (hroot : ∃ r, s.o = r ++ [⟨0, [], 0⟩]) (h : BAt w b tv (.slice ao n cap) pa bv s L W) :
    Calls Tryz.prog 133 #[.pointer (some ⟨b, 1, none⟩), .slice (some ⟨g, 0, none⟩) m cap0] W fun e w' => e = .returned (.tuple #[]) ∧ BAt w b tv (.slice ao (closeAllL ks s.o).length cap) pa bv ⟨s.t, closeAllL ks s.o, s.ws⟩ L w' ∧ OffB b W w' := by
  have H0 := Lib.hid (And.intro hroot (And.intro h (And.intro hk hn)))
  obtain ⟨l1, hl1⟩ : ∃ l, closeAllL ks s.o = l := ⟨_, rfl⟩
  rw [hl1]
  have HL := Lib.hid hl1
  have HMm := Lib.hid hm
  clear hroot h hk hn hl1 hm
  go_enter Tryz.func133, Tryz.ntmps133
  go_big_wp2
  go_loopw [] (fun wr => ∃ (l : List Opd) (n : Nat), Hid (∃ r, l = r ++ [⟨0, [], 0⟩]) ∧ Hid (BAt w b tv (.slice ao n cap) pa bv ⟨s.t, l, s.ws⟩ L wr) ∧ Hid (OffB b W wr) ∧ Hid (l.length = n) ∧ n ≤ 4294967296 ∧ Hid (closeAllL ks l = l1)) (fun wr => openAt b wr)
  case atStart => exact ⟨s.o, n, Lib.hid H0.out.1, Lib.hid H0.out.2.1, Lib.hid (OffB.refl _ _), Lib.hid H0.out.2.2.2, hn32, HL⟩
  case round =>
    obtain ⟨l, n, HR, HB, HO, HN, hn32, HC⟩ := hrel
    have hne : l ≠ [] := by obtain ⟨r, hr⟩ := HR.out; rw [hr]; simp
    cases hl : l with
    | nil => exact absurd hl hne
    | cons o r =>
      have hB := HB.out
      rw [hl] at hB
      have hlen := HN.out
      rw [hl, List.length_cons] at hlen
      have hop := hB.opens
      simp only [List.length_cons] at hop
      rw [hlen] at hop
      have HT := Lib.hid (top_any ao cap n w.heap.size o r wr hlen.symm hn32 hop)
      have HKi := Lib.hid fun w1 (hb : Below wr.heap.size wr w1) => containsK_any g m cap0 o.kind ks HMm.out hm32 w1 ((H0.out.2.2.1.off HO.out hgb).on hb)
      have HP := Lib.hid fun w1 (hb : Below wr.heap.size wr w1) => pop_any w b ao cap n tv pa bv ⟨s.t, o :: r, s.ws⟩ o r L w1 hlen.symm hn32 rfl (hB.on hb)
      obtain ⟨⟨x0, x1, x2, x3⟩, y0, y1, y2, y3⟩ := local4 hB.blk
      have hm0 := Lib.hid hB.openAt
      have hc := HC.out
      rw [hl] at hc
      have hroot := HR.out
      rw [hl] at hroot
      obtain ⟨kd, hkd⟩ : ∃ kd, o.kind = kd := ⟨_, rfl⟩
      obtain ⟨nm, hnm⟩ : ∃ nm : ByteArray, (⟨o.name.toArray⟩ : ByteArray) = nm := ⟨_, rfl⟩
      rw [hkd, hnm] at HT
      rw [hkd] at HKi
      have hf := field2 ((o.node : Nat) : Int) nm ((kd : Nat) : Int)
      have HBc := Lib.hid hB
      unfold closeAllL at hc
      rw [hkd] at hc
      cases hz : ks.contains kd with
      | true =>
        rw [hz, if_pos rfl] at hc
        rw [hz] at HKi
        have hr2 : ∃ q, r = q ++ [⟨0, [], 0⟩] := tail_root hroot (by
          show o.kind ≠ 0
          rw [hkd]
          intro e
          rw [e, h0] at hz; cases hz)
        have HR2 := Lib.hid hr2
        have HC2 := Lib.hid hc
        have HL2 := Lib.hid hlen
        clear hz hc hr2 hroot hop hB hlen hkd hnm hl hne
        go_big_wp2_with (first
          | (go_at_call 125; refine HT.out.mono ?_; rintro e w1 ⟨rfl, hb1⟩; have HB1 := Lib.hid hb1; clear hb1)
          | (go_at_call 160; refine (HKi.out _ HB1.out).mono ?_; rintro e w2 ⟨rfl, rfl⟩)
          | (go_at_call 126; refine (HP.out _ HB1.out).mono ?_; rintro e w3 ⟨rfl, hB3, ho3⟩; have HB3 := Lib.hid hB3; have HO3 := Lib.hid ((HO.out.trans (OffB.below HB1.out)).trans ho3); clear hB3 ho3))
        exact ⟨⟨r, _, HR2, HB3, HO3, Lib.hid rfl, by have := HL2.out; omega, HC2⟩, by rw [HB3.out.openAt, hm0.out]; have := HL2.out; omega⟩
      | false =>
        rw [hz, if_neg (by decide)] at hc
        rw [hz] at HKi
        have HC2 := Lib.hid hc
        have HL2 := Lib.hid hlen
        clear hz hc hroot hop hB hlen hkd hnm hl hne
        go_big_wp2_with (first
          | (go_at_call 125; refine HT.out.mono ?_; rintro e w1 ⟨rfl, hb1⟩; have HB1 := Lib.hid hb1; clear hb1)
          | (go_at_call 160; refine (HKi.out _ HB1.out).mono ?_; rintro e w2 ⟨rfl, rfl⟩))
        go_end0
        refine ⟨rfl, ?_, HO.out.trans (OffB.below HB1.out)⟩
        rw [← HC2.out, List.length_cons, HL2.out]
        exact HBc.out.on HB1.out

set_option maxRecDepth 100000 in
set_option maxHeartbeats 2000000 in
theorem closeOne_any (w : World) (b k : Nat) (tv pa bv : Value) (s : BS) (L : List NdV) (W : World) (ao : Option Addr) (cap n : Nat) (hne : s.o ≠ []) (hn : s.o.length = n) (hn32 : n ≤ 4294967296) (h : BAt w b tv (.slice ao n cap) pa bv s L W) :
    Calls Tryz.prog 161 #[.pointer (some ⟨b, 1, none⟩), .int .u8 ((k : Nat) : Int)] W fun e w' => e = .returned (.tuple #[]) ∧ BAt w b tv (.slice ao (closeOneL k s.o).length cap) pa bv ⟨s.t, closeOneL k s.o, s.ws⟩ L w' ∧ OffB b W w' := by
  cases hl : s.o with
  | nil => exact absurd hl hne
  | cons o r =>
    have hlen := hn
    rw [hl, List.length_cons] at hlen
    have hop := h.opens
    rw [hl] at hop
    simp only [List.length_cons] at hop
    rw [hlen] at hop
    have HT := Lib.hid (top_any ao cap n w.heap.size o r W hlen.symm hn32 hop)
    have HP := Lib.hid fun w1 (hb : Below W.heap.size W w1) => pop_any w b ao cap n tv pa bv s o r L w1 hlen.symm hn32 hl (h.on hb)
    obtain ⟨⟨x0, x1, x2, x3⟩, y0, y1, y2, y3⟩ := local4 h.blk
    obtain ⟨kd, hkd⟩ : ∃ kd, o.kind = kd := ⟨_, rfl⟩
    obtain ⟨nm, hnm⟩ : ∃ nm : ByteArray, (⟨o.name.toArray⟩ : ByteArray) = nm := ⟨_, rfl⟩
    rw [hkd, hnm] at HT
    have hf := field2 ((o.node : Nat) : Int) nm ((kd : Nat) : Int)
    have HB := Lib.hid h
    have HS : Hid (s = ⟨s.t, o :: r, s.ws⟩) := Lib.hid (by rw [← hl])
    have HLn := Lib.hid hlen
    have hcl : closeOneL k (o :: r) = if kd == k then r else o :: r := by unfold closeOneL; show (if o.kind == k then _ else _) = _; rw [hkd]; rfl
    rw [hcl]
    by_cases hz : kd = k
    · have hzb : ((kd : Int) == (k : Int)) = true := by rw [beq_iff_eq]; omega
      rw [if_pos (beq_iff_eq.2 hz)]
      clear hz hcl hnm hkd hop hlen hl hn h hne
      go_enter Tryz.func161, Tryz.ntmps161
      go_big_wp2_with (first
        | (go_at_call 125; refine HT.out.mono ?_; rintro e w1 ⟨rfl, hb1⟩; have HB1 := Lib.hid hb1; clear hb1)
        | (go_at_call 126; refine (HP.out _ HB1.out).mono ?_; rintro e w3 ⟨rfl, hB3, ho3⟩; have HB3 := Lib.hid hB3; have HO3 := Lib.hid ((OffB.below HB1.out).trans ho3); clear hB3 ho3))
      go_end0
      exact ⟨rfl, HB3.out, HO3.out⟩
    · have hzb : ((kd : Int) == (k : Int)) = false := by rw [beq_eq_false_iff_ne]; omega
      rw [if_neg (by rw [beq_iff_eq]; exact hz)]
      clear hz hcl hnm hkd hop hlen hl hn h hne
      go_enter Tryz.func161, Tryz.ntmps161
      go_big_wp2_with (first
        | (go_at_call 125; refine HT.out.mono ?_; rintro e w1 ⟨rfl, hb1⟩; have HB1 := Lib.hid hb1; clear hb1))
      go_end0
      refine ⟨rfl, ?_, OffB.below HB1.out⟩
      rw [show r.length + 1 = n from HLn.out, ← HS.out]
      exact HB.out.on HB1.out
theorem laidK (w : World) (ks : List Nat) : KindsIn (w.alloc (.cells (ks.map fun k => Value.int .u8 ((k : Nat) : Int)).toArray 5)) w.heap.size ks := fun i x hx => by
  rw [World.cell?_alloc_at _ _ _ _ rfl, List.getElem?_toArray, List.getElem?_map, hx]; rfl

set_option maxRecDepth 100000 in
set_option maxHeartbeats 4000000 in
theorem closeAhead_any (w : World) (b k : Nat) (tv pa bv : Value) (s : BS) (L : List NdV) (W : World) (ao : Option Addr) (cap n : Nat) (hk : k ≤ 8) (hr : ∃ r, s.o = r ++ [⟨0, [], 0⟩]) (hn : s.o.length = n) (hn32 : n ≤ 4294967296) (h : BAt w b tv (.slice ao n cap) pa bv s L W) :
    Calls Tryz.prog 134 #[.pointer (some ⟨b, 0, none⟩), .int .u8 ((k : Nat) : Int)] W fun e w' => e = .returned (.tuple #[]) ∧ BAt w b tv (.slice ao (closeAheadL k s.o).length cap) pa bv ⟨s.t, closeAheadL k s.o, s.ws⟩ L w' ∧ OffB b W w' := by
  have hb := (Array.getElem?_eq_some_iff.1 h.blk).1
  have hne : s.o ≠ [] := by obtain ⟨r, e⟩ := hr; rw [e]; simp
  have HB := Lib.hid h
  obtain ⟨⟨x0, x1, x2, x3⟩, y0, y1, y2, y3⟩ := local4 h.blk
  by_cases h3 : k = 3
  · subst h3
    have b1 : Below W.heap.size W (W.alloc (.cells #[.int .u8 2] TU8)) := (Below.refl _ _).alloc (Nat.le_refl _) _
    have HA := Lib.hid (closeAll_any w b W.heap.size 1 1 [2] tv pa bv s L (W.alloc (.cells #[.int .u8 2] TU8)) ao cap n rfl (by decide) (by decide) (by omega) (laidK W [2]) hn hn32 hr (h.on b1))
    have HC := Lib.hid fun w1 hB => closeOne_any w b 3 tv pa bv ⟨s.t, closeAllL [2] s.o, s.ws⟩ L w1 ao cap (closeAllL [2] s.o).length (root_ne (closeAll_root (ks := [2]) (by decide) hr)) rfl (by have := closeAll_le [2] s.o; omega) hB
    have HO1 := Lib.hid (OffB.below (b := b) b1)
    clear h hr hn hne b1 hb
    go_enter Tryz.func134, Tryz.ntmps134
    go_big_wp2_with (first
      | (go_at_call 133; refine HA.out.mono ?_; rintro e w1 ⟨rfl, hB1, ho1⟩; obtain ⟨⟨x0, x1, x2, x3⟩, y0, y1, y2, y3⟩ := local4 hB1.blk; have HB1 := Lib.hid hB1; have HO2 := Lib.hid (HO1.out.trans ho1); clear hB1 ho1)
      | (go_at_call 161; refine (HC.out _ HB1.out).mono ?_; rintro e w2 ⟨rfl, hB2, ho2⟩; have HB2 := Lib.hid hB2; have HO3 := Lib.hid (HO2.out.trans ho2); clear hB2 ho2))
    go_end0
    exact ⟨rfl, HB2.out, HO3.out⟩
  · have h3b : ((k : Int) == 3) = false := by rw [beq_eq_false_iff_ne]; omega
    have h3c : (k == 3) = false := beq_eq_false_iff_ne.2 h3
    have HE := Lib.hid fun w1 => endsP_any k hk w1
    have HC := Lib.hid fun w1 hB => closeOne_any w b 2 tv pa bv s L w1 ao cap n hne hn hn32 hB
    have hcl : closeAheadL k s.o = if endsK k then closeOneL 2 s.o else s.o := by unfold closeAheadL; rw [h3c]; rfl
    rw [hcl]
    have HN := Lib.hid hn
    cases hz : endsK k with
    | true =>
      rw [hz] at HE
      rw [if_pos rfl]
      clear h hr hn hne hb hcl h3c h3 hz
      go_enter Tryz.func134, Tryz.ntmps134
      go_big_wp2_with (first
        | (go_at_call 131; refine (HE.out _).mono ?_; rintro e w1 ⟨rfl, rfl⟩)
        | (go_at_call 161; refine (HC.out _ HB.out).mono ?_; rintro e w2 ⟨rfl, hB2, ho2⟩; have HB2 := Lib.hid hB2; have HO3 := Lib.hid ho2; clear hB2 ho2))
      go_end0
      exact ⟨rfl, HB2.out, HO3.out⟩
    | false =>
      rw [hz] at HE
      rw [if_neg (by decide)]
      clear h hr hn hne hb hcl h3c h3 hz
      go_enter Tryz.func134, Tryz.ntmps134
      go_big_wp2_with (first
        | (go_at_call 131; refine (HE.out _).mono ?_; rintro e w1 ⟨rfl, rfl⟩))
      go_end0
      exact ⟨rfl, by rw [HN.out]; exact HB.out, OffB.refl _ _⟩
end Go.Proofs.YtkfmfldkllkcbaaGreatDoor
namespace Go.Proofs.YtkfmfldkllkcbaaGreatDoor
open Go.RowKit Go.RunKit Go.CharrefKit Go.Lib Go.TokenKit Go.TreeKit

/-- What a step of the builder tells. -/
def ToldB (o : Except Nat BS) (w : World) (b : Nat) (W : World) (e : Ending) (w' : World) : Prop := match o with
  | .error x => e = .returned (.int .i64 ((x : Nat) : Int)) ∧ Below w.heap.size w w'
  | .ok s2 => e = .returned (.int .i64 0) ∧ Keeps W w' ∧ ∃ tv ao cap pa bv L, BAt w b tv (.slice ao s2.o.length cap) pa bv s2 L w'

set_option maxRecDepth 100000 in
set_option maxHeartbeats 4000000 in
theorem treeEnd_any (w : World) (b k : Nat) (name : ByteArray) (tv pa bv : Value) (s : BS) (L : List NdV) (W : World) (ao : Option Addr) (cap n : Nat) (hr : ∃ r, s.o = r ++ [⟨0, [], 0⟩]) (hn : s.o.length = n) (hn32 : n ≤ 4294967296) (h : BAt w b tv (.slice ao n cap) pa bv s L W) :
    Calls Tryz.prog 103 #[.pointer (some ⟨b, 0, none⟩), .string name, .int .u8 ((k : Nat) : Int)] W (ToldB (endTagL s (bl name) k) w b W) := by
  have hb := (Array.getElem?_eq_some_iff.1 h.blk).1
  have hblk0 := h.blk
  have HB := Lib.hid h
  obtain ⟨⟨x0, x1, x2, x3⟩, y0, y1, y2, y3⟩ := local4 h.blk
  have hroot := closeEnd_root (k := k) hr
  have hle := closeEnd_le k s.o
  obtain ⟨an, han⟩ : ∃ an, endTagL s (bl name) k = an := ⟨_, rfl⟩
  rw [han]
  have htell := han
  unfold endTagL at htell
  have hcl : closeEndL k s.o = if k == 1 then closeAllL [2, 3] s.o else if k == 3 then closeAllL [2] s.o else s.o := rfl
  obtain ⟨l, hl⟩ : ∃ l, closeEndL k s.o = l := ⟨_, rfl⟩
  rw [hl] at htell hroot hle hcl
  clear han hl
  cases l with
  | nil => exact absurd rfl (root_ne hroot)
  | cons o r =>
    obtain ⟨nmo, hnmo⟩ : ∃ x : ByteArray, (⟨o.name.toArray⟩ : ByteArray) = x := ⟨_, rfl⟩
    have hbo : bl nmo = o.name := by rw [← hnmo, bl_of]
    have HTop := Lib.hid fun (W1 w1 : World) (hB1 : BAt w b tv (.slice ao (o :: r).length cap) pa bv ⟨s.t, o :: r, s.ws⟩ L W1) (hb1 : Below W1.heap.size W1 w1) => top_any ao cap (r.length + 1) w.heap.size o r w1 rfl (by simp at hle; omega) (own_on hB1.opens hb1)
    have HPop := Lib.hid fun (W1 w1 : World) (hB1 : BAt w b tv (.slice ao (o :: r).length cap) pa bv ⟨s.t, o :: r, s.ws⟩ L W1) (hb1 : Below W1.heap.size W1 w1) => pop_any w b ao cap (r.length + 1) tv pa bv ⟨s.t, o :: r, s.ws⟩ o r L w1 rfl (by simp at hle; omega) rfl (hB1.on hb1)
    rw [hnmo] at HTop
    have hf := fun w => field1 ((o.node : Nat) : Int) nmo ((o.kind : Nat) : Int) w
    change (if o.name = bl name then Except.ok (⟨s.t, r, s.ws⟩ : BS) else .error 51) = an at htell
    have hlen : (o :: r).length = r.length + 1 := rfl
    clear hnmo
    have HBlk := Lib.hid hblk0
    by_cases k1 : k = 1
    · have kb1 : ((k : Int) == 1) = true := by rw [beq_iff_eq]; omega
      have hcl1 : closeAllL [2, 3] s.o = o :: r := by rw [hcl, if_pos (beq_iff_eq.2 k1)]
      have b1 : Below W.heap.size W (W.alloc (.cells #[.int .u8 2, .int .u8 3] TU8)) := (Below.refl _ _).alloc (Nat.le_refl _) _
      have HA := Lib.hid (closeAll_any w b W.heap.size 2 2 [2, 3] tv pa bv s L (W.alloc (.cells #[.int .u8 2, .int .u8 3] TU8)) ao cap n rfl (by decide) (by decide) (by omega) (laidK W [2, 3]) hn hn32 hr (h.on b1))
      have HO0 := Lib.hid (OffB.below (b := b) b1)
      have HCl := Lib.hid hcl1
      clear hcl1 b1 k1
      by_cases hne : nmo = name
      · subst hne
        rw [if_pos hbo.symm] at htell
        subst htell
        have hnb : (nmo.toList != nmo.toList) = false := by simp
        clear hr hn hb hroot hle hcl h hlen hblk0 hbo
        go_enter Tryz.func103, Tryz.ntmps103
        go_big_wp2_with (first
          | (go_at_call 133; refine HA.out.mono ?_; rintro e w1 ⟨rfl, hB1, ho1⟩; rw [HCl.out] at hB1; obtain ⟨⟨x0, x1, x2, x3⟩, y0, y1, y2, y3⟩ := local4 hB1.blk; simp only [List.length_cons] at x1; have HB1 := Lib.hid hB1; have HO1 := Lib.hid (HO0.out.trans ho1); clear hB1 ho1)
          | (go_at_call 125; refine (HTop.out _ _ HB1.out (Below.refl _ _)).mono ?_; rintro e w2 ⟨rfl, hb2⟩; have HB2 := Lib.hid hb2; clear hb2)
          | (go_at_call 126; refine (HPop.out _ _ HB1.out HB2.out).mono ?_; rintro e w3 ⟨rfl, hB3, ho3⟩; have HB3 := Lib.hid hB3; have HO3 := Lib.hid ((HO1.out.trans (OffB.below HB2.out)).trans ho3); clear hB3 ho3))
        go_ret
        exact ⟨rfl, HO3.out.keeps HBlk.out, tv, ao, cap, pa, bv, L, HB3.out⟩
      · have hne2 : ¬ bl nmo = bl name := fun e => hne (bl_eq e)
        rw [if_neg (fun e => hne2 (hbo.trans e))] at htell
        subst htell
        have hn2 : ¬ nmo.toList = name.toList := by rw [Lib.toList_data, Lib.toList_data]; exact hne2
        have hn4 : (nmo.toList != name.toList) = true := by rw [bne_iff_ne]; exact hn2
        have hn5 : (nmo.toList == name.toList) = false := beq_eq_false_iff_ne.2 hn2
        clear hr hn hb hroot hle hcl h hlen hne2 hne hblk0 hbo
        go_enter Tryz.func103, Tryz.ntmps103
        go_big_wp2_with (first
          | (go_at_call 133; refine HA.out.mono ?_; rintro e w1 ⟨rfl, hB1, ho1⟩; rw [HCl.out] at hB1; obtain ⟨⟨x0, x1, x2, x3⟩, y0, y1, y2, y3⟩ := local4 hB1.blk; simp only [List.length_cons] at x1; have HB1 := Lib.hid hB1; have HO1 := Lib.hid (HO0.out.trans ho1); clear hB1 ho1)
          | (go_at_call 125; refine (HTop.out _ _ HB1.out (Below.refl _ _)).mono ?_; rintro e w2 ⟨rfl, hb2⟩; have HB2 := Lib.hid hb2; clear hb2)
          | (go_at_call 126; refine (HPop.out _ _ HB1.out HB2.out).mono ?_; rintro e w3 ⟨rfl, hB3, ho3⟩; have HB3 := Lib.hid hB3; have HO3 := Lib.hid ((HO1.out.trans (OffB.below HB2.out)).trans ho3); clear hB3 ho3))
        go_ret
        exact ⟨rfl, HB1.out.below.trans (HB2.out.mono HB1.out.below.size)⟩
    · have kb1 : ((k : Int) == 1) = false := by rw [beq_eq_false_iff_ne]; omega
      by_cases k3 : k = 3
      · have kb3 : ((k : Int) == 3) = true := by rw [beq_iff_eq]; omega
        have hcl1 : closeAllL [2] s.o = o :: r := by rw [hcl, if_neg (by rw [beq_iff_eq]; exact k1), if_pos (beq_iff_eq.2 k3)]
        have b1 : Below W.heap.size W (W.alloc (.cells #[.int .u8 2] TU8)) := (Below.refl _ _).alloc (Nat.le_refl _) _
        have HA := Lib.hid (closeAll_any w b W.heap.size 1 1 [2] tv pa bv s L (W.alloc (.cells #[.int .u8 2] TU8)) ao cap n rfl (by decide) (by decide) (by omega) (laidK W [2]) hn hn32 hr (h.on b1))
        have HO0 := Lib.hid (OffB.below (b := b) b1)
        have HCl := Lib.hid hcl1
        clear hcl1 b1 k1 k3
        by_cases hne : nmo = name
        · subst hne
          rw [if_pos hbo.symm] at htell
          subst htell
          have hnb : (nmo.toList != nmo.toList) = false := by simp
          clear hr hn hb hroot hle hcl h hlen hblk0 hbo
          go_enter Tryz.func103, Tryz.ntmps103
          go_big_wp2_with (first
            | (go_at_call 133; refine HA.out.mono ?_; rintro e w1 ⟨rfl, hB1, ho1⟩; rw [HCl.out] at hB1; obtain ⟨⟨x0, x1, x2, x3⟩, y0, y1, y2, y3⟩ := local4 hB1.blk; simp only [List.length_cons] at x1; have HB1 := Lib.hid hB1; have HO1 := Lib.hid (HO0.out.trans ho1); clear hB1 ho1)
            | (go_at_call 125; refine (HTop.out _ _ HB1.out (Below.refl _ _)).mono ?_; rintro e w2 ⟨rfl, hb2⟩; have HB2 := Lib.hid hb2; clear hb2)
            | (go_at_call 126; refine (HPop.out _ _ HB1.out HB2.out).mono ?_; rintro e w3 ⟨rfl, hB3, ho3⟩; have HB3 := Lib.hid hB3; have HO3 := Lib.hid ((HO1.out.trans (OffB.below HB2.out)).trans ho3); clear hB3 ho3))
          go_ret
          exact ⟨rfl, HO3.out.keeps HBlk.out, tv, ao, cap, pa, bv, L, HB3.out⟩
        · have hne2 : ¬ bl nmo = bl name := fun e => hne (bl_eq e)
          rw [if_neg (fun e => hne2 (hbo.trans e))] at htell
          subst htell
          have hn2 : ¬ nmo.toList = name.toList := by rw [Lib.toList_data, Lib.toList_data]; exact hne2
          have hn4 : (nmo.toList != name.toList) = true := by rw [bne_iff_ne]; exact hn2
          have hn5 : (nmo.toList == name.toList) = false := beq_eq_false_iff_ne.2 hn2
          clear hr hn hb hroot hle hcl h hlen hne2 hne hblk0 hbo
          go_enter Tryz.func103, Tryz.ntmps103
          go_big_wp2_with (first
            | (go_at_call 133; refine HA.out.mono ?_; rintro e w1 ⟨rfl, hB1, ho1⟩; rw [HCl.out] at hB1; obtain ⟨⟨x0, x1, x2, x3⟩, y0, y1, y2, y3⟩ := local4 hB1.blk; simp only [List.length_cons] at x1; have HB1 := Lib.hid hB1; have HO1 := Lib.hid (HO0.out.trans ho1); clear hB1 ho1)
            | (go_at_call 125; refine (HTop.out _ _ HB1.out (Below.refl _ _)).mono ?_; rintro e w2 ⟨rfl, hb2⟩; have HB2 := Lib.hid hb2; clear hb2)
            | (go_at_call 126; refine (HPop.out _ _ HB1.out HB2.out).mono ?_; rintro e w3 ⟨rfl, hB3, ho3⟩; have HB3 := Lib.hid hB3; have HO3 := Lib.hid ((HO1.out.trans (OffB.below HB2.out)).trans ho3); clear hB3 ho3))
          go_ret
          exact ⟨rfl, HB1.out.below.trans (HB2.out.mono HB1.out.below.size)⟩
      · have kb3 : ((k : Int) == 3) = false := by rw [beq_eq_false_iff_ne]; omega
        have hcl1 : s.o = o :: r := by rw [hcl, if_neg (by rw [beq_iff_eq]; exact k1), if_neg (by rw [beq_iff_eq]; exact k3)]
        have hn2' : n = r.length + 1 := by rw [← hn, hcl1, hlen]
        have hB1 : BAt w b tv (.slice ao (o :: r).length cap) pa bv ⟨s.t, o :: r, s.ws⟩ L W := by
          rw [hlen, ← hn2', ← hcl1]; exact h
        rw [hn2'] at x1
        have HB1 := Lib.hid hB1
        have HO1 := Lib.hid (OffB.refl b W)
        clear hB1 hn2' hcl1 k1 k3
        by_cases hne : nmo = name
        · subst hne
          rw [if_pos hbo.symm] at htell
          subst htell
          have hnb : (nmo.toList != nmo.toList) = false := by simp
          clear hr hn hb hroot hle hcl h hlen hblk0 hbo
          go_enter Tryz.func103, Tryz.ntmps103
          go_big_wp2_with (first
            | (go_at_call 125; refine (HTop.out _ _ HB1.out (Below.refl _ _)).mono ?_; rintro e w2 ⟨rfl, hb2⟩; have HB2 := Lib.hid hb2; clear hb2)
            | (go_at_call 126; refine (HPop.out _ _ HB1.out HB2.out).mono ?_; rintro e w3 ⟨rfl, hB3, ho3⟩; have HB3 := Lib.hid hB3; have HO3 := Lib.hid ((HO1.out.trans (OffB.below HB2.out)).trans ho3); clear hB3 ho3))
          go_ret
          exact ⟨rfl, HO3.out.keeps HBlk.out, tv, ao, cap, pa, bv, L, HB3.out⟩
        · have hne2 : ¬ bl nmo = bl name := fun e => hne (bl_eq e)
          rw [if_neg (fun e => hne2 (hbo.trans e))] at htell
          subst htell
          have hn2 : ¬ nmo.toList = name.toList := by rw [Lib.toList_data, Lib.toList_data]; exact hne2
          have hn4 : (nmo.toList != name.toList) = true := by rw [bne_iff_ne]; exact hn2
          have hn5 : (nmo.toList == name.toList) = false := beq_eq_false_iff_ne.2 hn2
          clear hr hn hb hroot hle hcl h hlen hne2 hne hblk0 hbo
          go_enter Tryz.func103, Tryz.ntmps103
          go_big_wp2_with (first
            | (go_at_call 125; refine (HTop.out _ _ HB1.out (Below.refl _ _)).mono ?_; rintro e w2 ⟨rfl, hb2⟩; have HB2 := Lib.hid hb2; clear hb2)
            | (go_at_call 126; refine (HPop.out _ _ HB1.out HB2.out).mono ?_; rintro e w3 ⟨rfl, hB3, ho3⟩; have HB3 := Lib.hid hB3; have HO3 := Lib.hid ((HO1.out.trans (OffB.below HB2.out)).trans ho3); clear hB3 ho3))
          go_ret
          exact ⟨rfl, HB1.out.below.trans (HB2.out.mono HB1.out.below.size)⟩
end Go.Proofs.YtkfmfldkllkcbaaGreatDoor
namespace Go.Proofs.YtkfmfldkllkcbaaGreatDoor
open Go.RowKit Go.RunKit Go.CharrefKit Go.Lib Go.TokenKit Go.TreeKit

abbrev TSb : TypeId := 65
theorem liesBuilder2 : liesAt Tryz.prog Tryz.prog.depth TBd (4 / Tryz.prog.cellsOf TBd) 2 TSb 1 = true := by kernel_rfl
/-- The builder but for its words. -/
structure BA0 (w : World) (b : Nat) (tv ov pa bv : Value) (t : List Nd) (o : List Opd) (L : List NdV) (wr : World) : Prop where
  below : Below w.heap.size w wr
  le : w.heap.size ≤ b
  blk : wr.heap[b]? = some (.cells #[tv, ov, pa, bv] TBd (0, 0))
  tree : NdRow wr w.heap.size tv L
  spec : L.map (·.1) = t
  opens : wr.ownsRow w.heap.size TOp 3 ov o.length (opCells o.reverse)
theorem BAt.but {w wr : World} {b : Nat} {tv ov pa bv : Value} {s : BS} {L : List NdV} (h : BAt w b tv ov pa bv s L wr) : BA0 w b tv ov pa bv s.t s.o L wr := ⟨h.below, h.le, h.blk, h.tree, h.spec, h.opens⟩
theorem BA0.on {w wr w' : World} {b : Nat} {tv ov pa bv : Value} {t : List Nd} {o : List Opd} {L : List NdV} (h : BA0 w b tv ov pa bv t o L wr) (hb : Below wr.heap.size wr w') : BA0 w b tv ov pa bv t o L w' :=
  ⟨h.below.trans (hb.mono h.below.size), h.le, by rw [hb.block _ (Array.getElem?_eq_some_iff.1 h.blk).1]; exact h.blk, h.tree.on hb, h.spec, own_on h.opens hb⟩
/-- A change of one block of bytes. -/
theorem BA0.bytes {w wr w' : World} {b g : Nat} {tv ov pa bv : Value} {t : List Nd} {o : List Opd} {L : List NdV} {cs : Array Value} {fr : Nat × Nat} (h : BA0 w b tv ov pa bv t o L wr) (hg : wr.heap[g]? = some (.cells cs TU8 fr)) (hge : w.heap.size ≤ g) (hgr : wr.grownBy w' (some g)) : BA0 w b tv ov pa bv t o L w' :=
  ⟨h.below.grown hgr h.below.size (fun k hk => by cases hk; exact hge), h.le, by
    rw [hgr.block b (Array.getElem?_eq_some_iff.1 h.blk).1 (fun e => by
      cases e
      rw [h.blk] at hg
      simp only [Option.some.injEq, Obj.cells.injEq] at hg
      exact absurd hg.2.1 (by decide))]
    exact h.blk, h.tree.other hg (by decide) (by decide) (by decide) hgr, h.spec, own_other h.opens hg (by decide) hgr⟩
theorem Keeps.bytes {A B : World} {g : Nat} {cs : Array Value} {fr : Nat × Nat} (hg : A.heap[g]? = some (.cells cs TU8 fr)) (hgr : A.grownBy B (some g)) : Keeps A B := fun k cs' T' fr' hk _ _ _ _ h5 => by
  rw [hgr.block k (Array.getElem?_eq_some_iff.1 hk).1 (fun e => by
    cases e
    rw [hk] at hg
    cases hg
    exact h5 rfl)]
  exact hk
theorem words_slice {w : World} {base b : Nat} {pa bv : Value} {ws : Bytes} (h : WordsAt w base b pa bv ws) : ∃ ao cap, bv = .slice ao ws.length cap := by
  rcases h with ⟨_, rfl, rfl⟩ | ⟨_, _, h3⟩
  · exact ⟨none, 0, rfl⟩
  · rcases h3.2 with ⟨hv, h0⟩ | ⟨g, cap, cur, fz, hv, _⟩
    · exact ⟨none, 0, by rw [hv, h0]⟩
    · exact ⟨_, _, hv⟩

set_option maxRecDepth 100000 in
set_option maxHeartbeats 1000000 in
theorem wlen_any (b n cap : Nat) (ao : Option Addr) (tv ov pa : Value) (W : World) (hblk : W.heap[b]? = some (.cells #[tv, ov, pa, .slice ao n cap] TBd (0, 0))) :
    Calls Tryz.prog 71 #[.pointer (some ⟨b, 2, none⟩)] W fun e w' => e = .returned (.int .i64 ((n : Nat) : Int)) ∧ W = w' := by
  obtain ⟨⟨x0, x1, x2, x3⟩, y0, y1, y2, y3⟩ := local4 hblk
  go_enter Tryz.func71, Tryz.ntmps71
  go_big_wp2
  go_ret
  exact ⟨rfl, rfl⟩
set_option maxRecDepth 100000 in
set_option maxHeartbeats 1000000 in
theorem wreset_any (b : Nat) (tv ov pa bv : Value) (W : World) (hblk : W.heap[b]? = some (.cells #[tv, ov, pa, bv] TBd (0, 0))) :
    Calls Tryz.prog 72 #[.pointer (some ⟨b, 2, none⟩)] W fun e w' => e = .returned (.tuple #[]) ∧ w' = (W.setCell ⟨b, 2, none⟩ (.pointer none)).setCell ⟨b, 3, none⟩ (.slice none 0 0) := by
  obtain ⟨⟨x0, x1, x2, x3⟩, y0, y1, y2, y3⟩ := local4 hblk
  go_enter Tryz.func72, Tryz.ntmps72
  go_big_wp2
  go_end0
  exact ⟨rfl, rfl⟩
theorem underPtrB : Tryz.prog.underlying 63 = some (.pointer TSb) := by kernel_rfl
theorem underUnsafeB : Tryz.prog.underlying 142 = some .unsafePointer := by kernel_rfl
theorem sizeBuilderB : (Tryz.prog.info? TSb).map (·.size) = some 2 := by kernel_rfl
set_option maxRecDepth 100000 in
set_option maxHeartbeats 1000000 in
theorem wcheck_fresh (b : Nat) (tv ov bv : Value) (w : World) (hblk : w.heap[b]? = some (.cells #[tv, ov, .pointer none, bv] TBd (0, 0))) :
    Calls Tryz.prog 106 #[.pointer (some ⟨b, 2, none⟩)] w fun e w' => e = .returned (.tuple #[]) ∧ w' = w.setCell ⟨b, 2, none⟩ (.pointer (some ⟨b, 2, none⟩)) := by
  obtain ⟨j, hj, hjs⟩ := Option.map_eq_some_iff.1 sizeBuilderB
  obtain ⟨⟨x0, x1, x2, x3⟩, y0, y1, y2, y3⟩ := local4 hblk
  have hsh : w.shape? b = some (TBd, 4) := by simp [World.shape?, hblk]
  go_enter Tryz.func106, Tryz.ntmps106
  go_big_wp2
  rw [Lib.run_to_unsafe w ⟨b, 2, none⟩ underPtrB underUnsafeB hj (by rw [hjs]; decide) hsh (show 2 < 4 by decide)]
  simp only [Result.andThen]
  rw [Oper.upon_value]
  go_big_wp2
  rw [run_callFunc_extern Tryz.func138 (by kernel_rfl) (by kernel_rfl) (by kernel_rfl) (e := Extern.AbiNoEscape.same) (by kernel_rfl)]
  rw [Lib.run_noEscape]
  simp only [Result.andThen]
  rw [Oper.upon_value]
  go_big_wp2
  rw [Lib.run_from_unsafe w ⟨b, 2, none⟩ underUnsafeB underPtrB hj hsh liesBuilder2]
  simp only [Result.andThen]
  rw [Oper.upon_value]
  go_big_wp2
  go_end0
  exact ⟨rfl, rfl⟩
set_option maxRecDepth 100000 in
set_option maxHeartbeats 1000000 in
theorem wcheck_used (b : Nat) (tv ov bv : Value) (w : World) (hblk : w.heap[b]? = some (.cells #[tv, ov, .pointer (some ⟨b, 2, none⟩), bv] TBd (0, 0))) :
    Calls Tryz.prog 106 #[.pointer (some ⟨b, 2, none⟩)] w fun e w' => e = .returned (.tuple #[]) ∧ w' = w := by
  obtain ⟨j, hj, _⟩ := Option.map_eq_some_iff.1 sizeBuilderB
  obtain ⟨⟨x0, x1, x2, x3⟩, y0, y1, y2, y3⟩ := local4 hblk
  go_enter Tryz.func106, Tryz.ntmps106
  go_big_wp2
  rw [Lib.run_neq_ptr_same w _ underPtrB hj]
  go_big_wp2
  go_end0
  exact ⟨rfl, rfl⟩

theorem BA0.set {w wr : World} {b i : Nat} {tv ov pa bv pa' bv' v : Value} {t : List Nd} {o : List Opd} {L : List NdV} (h : BA0 w b tv ov pa bv t o L wr) (he : #[tv, ov, pa, bv].setIfInBounds i v = #[tv, ov, pa', bv']) : BA0 w b tv ov pa' bv' t o L (wr.setCell ⟨b, i, none⟩ v) :=
  ⟨h.below.setCell h.le _, h.le, by rw [heap_setCell_same wr b i _ _ v h.blk, he],
    h.tree.other h.blk (by decide) (by decide) (by decide) (grown_set _ _ _ _), h.spec, own_other h.opens h.blk (by decide) (grown_set _ _ _ _)⟩
theorem own_fset {w : World} {base b size n : Nat} {cs : Array Value} {T : TypeId} {v u : Value} {xs : List Value} {i : Nat} {fr : Nat × Nat} (h : w.ownsRowF base TU8 size u n xs) (hb : w.heap[b]? = some (.cells cs T fr)) (hT : T ≠ TU8) : (w.setCell ⟨b, i, none⟩ v).ownsRowF base TU8 size u n xs :=
  World.ownsRowF.kept h (grown_set _ _ _ _) (.inr (ownF_ne h hb hT))
theorem below_none {w w' : World} (hg : w.grownBy w' none) : Below w.heap.size w w' := ⟨hg.os, hg.tape, hg.output, hg.size, fun k hk => hg.block k hk (by simp)⟩
theorem BA0.grownF {w wr w' : World} {b n : Nat} {tv ov pa bv v2 : Value} {t : List Nd} {o : List Opd} {L : List NdV} {xs : List Value} (h : BA0 w b tv ov pa bv t o L wr) (h2 : wr.ownsRowF w.heap.size TU8 1 v2 n xs) (hg : wr.grownBy w' v2.ownBlock) : BA0 w b tv ov pa bv t o L w' ∧ Keeps wr w' := by
  rcases h2.2 with ⟨rfl, _⟩ | ⟨g, cap, cur, fz, rfl, hge, hgg, _⟩
  · exact ⟨h.on (below_none hg), Keeps.below (below_none hg)⟩
  · exact ⟨h.bytes hgg hge hg, Keeps.bytes hgg hg⟩
/-- WriteString of some bytes. -/
def ToldW (w : World) (b : Nat) (tv ov : Value) (s : BS) (d : ByteArray) (L : List NdV) (W : World) (e : Ending) (w' : World) : Prop :=
  e = .returned (.tuple #[.int .i64 ((d.size : Nat) : Int), .nilIface]) ∧ Keeps W w' ∧ ∃ pa bv, BAt w b tv ov pa bv ⟨s.t, s.o, s.ws ++ bl d⟩ L w'

set_option maxRecDepth 100000 in
set_option maxHeartbeats 4000000 in
theorem wwrite_any (w : World) (b : Nat) (d : ByteArray) (tv ov pa bv : Value) (s : BS) (L : List NdV) (W : World) (hd : bl d ≠ []) (hlen : s.ws.length + d.size ≤ 70368744177664) (h : BAt w b tv ov pa bv s L W) :
    Calls Tryz.prog 98 #[.pointer (some ⟨b, 2, none⟩), .string d] W (ToldW w b tv ov s d L W) := by
  obtain ⟨i0, hi, hz0, hz1, hz2⟩ := info_parts Tryz.infoByte
  -- behind copyCheck
  have hck : Calls Tryz.prog 106 #[.pointer (some ⟨b, 2, none⟩)] W fun e w' => e = .returned (.tuple #[]) ∧ BA0 w b tv ov (.pointer (some ⟨b, 2, none⟩)) bv s.t s.o L w' ∧ w'.ownsRowF w.heap.size TU8 1 bv s.ws.length (byteCells s.ws) ∧ Keeps W w' := by
    rcases h.words with ⟨h1, h2, h3⟩ | ⟨h1, h2, h3⟩
    · subst h1; subst h2
      refine (wcheck_fresh b tv ov (.slice none 0 0) W h.blk).mono ?_
      rintro e w' ⟨rfl, rfl⟩
      exact ⟨rfl, h.but.set rfl, by rw [h3]; exact World.ownsRowF_nil _ _ _ _, Keeps.set h.blk (.inl rfl) _⟩
    · subst h1
      refine (wcheck_used b tv ov bv W h.blk).mono ?_
      rintro e w' ⟨rfl, rfl⟩
      exact ⟨rfl, h.but, h3, Keeps.refl _⟩
  have HCk := Lib.hid hck
  obtain ⟨ws, hws⟩ : ∃ ws, s.ws = ws := ⟨_, rfl⟩
  rw [hws] at HCk hlen
  have HWs := Lib.hid hws
  have HD := Lib.hid hd
  have hds := bl_length d
  obtain ⟨ao0, cap0, hbv⟩ := words_slice h.words
  subst hbv
  rw [hws] at HCk
  have HDs := Lib.hid hds
  clear hck h hws hd hds
  go_enter Tryz.func98, Tryz.ntmps98
  go_big_wp2_with (first
    | (go_at_call 106; refine HCk.out.mono ?_; rintro e w1 ⟨rfl, hB1, hown, hk1⟩; obtain ⟨⟨x0, x1, x2, x3⟩, y0, y1, y2, y3⟩ := local4 hB1.blk; have HB1 := Lib.hid hB1; have HOwn := Lib.hid hown; have HK1 := Lib.hid hk1; clear hB1 hown hk1)
    | (at_builtin; refine Lib.wpList_append_own_stringF _ rfl _ _ 42 9 rfl w.heap.size TU8 i0 underBytes underString hi hz0 hz1 hz2 _ _ _ rfl HOwn.out d rfl ?c3 ?c4 ?c5 ?_))
  case c3 => unfold maxLen; omega
  case c4 => omega
  case c5 => exact HB1.out.below.size
  intro v' w2 hown' hgrow _
  obtain ⟨hB2, hK2⟩ := HB1.out.grownF HOwn.out hgrow
  obtain ⟨ao', cap', rfl⟩ : ∃ ao' cap', v' = .slice ao' (ws.length + d.size) cap' := by
    rcases hown'.2 with ⟨hv, h0⟩ | ⟨g, cap, cur, fz, hv, _⟩
    · exact ⟨none, 0, by rw [hv, h0]⟩
    · exact ⟨_, _, hv⟩
  clear x0 x1 x2 x3 y0 y1 y2 y3
  obtain ⟨⟨x0, x1, x2, x3⟩, y0, y1, y2, y3⟩ := local4 hB2.blk
  have HB2 := Lib.hid hB2
  have HK2 := Lib.hid ((HK1.out.trans hK2).trans (Keeps.set (i := 3) hB2.blk (.inl rfl) (.slice ao' (ws.length + d.size) cap')))
  have HOw2 := Lib.hid (own_fset (i := 3) (v := .slice ao' (ws.length + d.size) cap') hown' hB2.blk (by decide))
  clear hown' hgrow hB2 hK2
  go_big_wp2
  go_ret2
  have hf := HB2.out.set (i := 3) (v := .slice ao' (ws.length + d.size) cap') (pa' := .pointer (some ⟨b, 2, none⟩)) (bv' := .slice ao' (ws.length + d.size) cap') rfl
  refine ⟨rfl, HK2.out, .pointer (some ⟨b, 2, none⟩), .slice ao' (ws.length + d.size) cap', ⟨hf.below, hf.le, hf.blk, hf.tree, hf.spec, hf.opens, .inr ⟨rfl, ?_, ?_⟩⟩⟩
  · intro e
    exact HD.out (List.append_eq_nil_iff.1 e).2
  · show World.ownsRowF _ _ _ _ _ (s.ws ++ bl d).length (byteCells (s.ws ++ bl d))
    rw [HWs.out, List.length_append, HDs.out, show byteCells (ws ++ bl d) = byteCells ws ++ strCells d by simp [byteCells, strCells, bl]]
    exact HOw2.out

theorem freeze_other (w : World) (g n k : Nat) (h : k ≠ g) : (w.freeze ⟨g, 0, none⟩ n).heap[k]? = w.heap[k]? := by
  unfold World.freeze
  split
  · rfl
  · simp only [Array.getElem?_modify]
    rw [if_neg (fun e => h e.symm)]
theorem freeze_grown (w : World) (g n : Nat) : w.grownBy (w.freeze ⟨g, 0, none⟩ n) (some g) := by
  have hb := Lib.below_freeze (B := 0) (Below.refl 0 w) (p := ⟨g, 0, none⟩) (Nat.zero_le _) n
  exact ⟨hb.os, hb.tape, hb.output, hb.size, fun k _ hk => freeze_other w g n k (fun e => hk (by rw [e]))⟩
/-- Blocks of other types than bytes are as they were. -/
def KeepsU (W W' : World) : Prop := ∀ (k : Nat) (cs : Array Value) (T : TypeId) (fr : Nat × Nat), W.heap[k]? = some (.cells cs T fr) → T ≠ TU8 → W'.heap[k]? = some (.cells cs T fr)
theorem KeepsU.keeps {A B : World} (h : KeepsU A B) : Keeps A B := fun k cs T fr hk _ _ _ _ h5 => h k cs T fr hk h5
theorem KeepsU.bytes {A B : World} {g : Nat} {cs : Array Value} {fr : Nat × Nat} (hg : A.heap[g]? = some (.cells cs TU8 fr)) (hgr : A.grownBy B (some g)) : KeepsU A B := fun k cs' T' fr' hk h5 => by
  rw [hgr.block k (Array.getElem?_eq_some_iff.1 hk).1 (fun e => by
    cases e
    rw [hk] at hg
    cases hg
    exact h5 rfl)]
  exact hk
/-- Blocks are as they were, but the builder's, a row's, and bytes. -/
def Keeps3 (b : Nat) (v : Value) (W W' : World) : Prop := ∀ (k : Nat) (cs : Array Value) (T : TypeId) (fr : Nat × Nat), W.heap[k]? = some (.cells cs T fr) → k ≠ b → v.ownBlock ≠ some k → T ≠ TU8 → W'.heap[k]? = some (.cells cs T fr)
theorem Keeps3.refl (b : Nat) (v : Value) (W : World) : Keeps3 b v W W := fun _ _ _ _ h _ _ _ => h
theorem Keeps3.trans {b : Nat} {v : Value} {A B C : World} (h : Keeps3 b v A B) (k : Keeps3 b v B C) : Keeps3 b v A C := fun i cs T fr hi h1 h2 h3 => k i cs T fr (h i cs T fr hi h1 h2 h3) h1 h2 h3
theorem Keeps3.ofU {b : Nat} {v : Value} {A B : World} (h : KeepsU A B) : Keeps3 b v A B := fun i cs T fr hi _ _ h3 => h i cs T fr hi h3
theorem Keeps3.set {b : Nat} {v u : Value} {A : World} {g i : Nat} (hg : g = b ∨ v.ownBlock = some g) : Keeps3 b v A (A.setCell ⟨g, i, none⟩ u) := fun k cs T fr hk h1 h2 _ => by
  rw [heap_setCell_other _ _ _ _ (by
    show k ≠ g
    intro e
    subst e
    rcases hg with hg | hg
    · exact h1 hg
    · exact h2 hg)]
  exact hk
theorem underPtrU8 : Tryz.prog.underlying 125 = some (.pointer TU8) := by kernel_rfl
theorem cellsU8 : Tryz.prog.cellsOf TU8 = 1 := by kernel_rfl
/-- String of some bytes. -/
def ToldS (w : World) (b : Nat) (tv ov pa bv : Value) (s : BS) (L : List NdV) (W : World) (e : Ending) (w' : World) : Prop :=
  e = .returned (.string ⟨s.ws.toArray⟩) ∧ BA0 w b tv ov pa bv s.t s.o L w' ∧ KeepsU W w'

set_option maxRecDepth 100000 in
set_option maxHeartbeats 4000000 in
theorem wstring_any (w : World) (b : Nat) (tv ov pa bv : Value) (s : BS) (L : List NdV) (W : World) (hs : s.ws ≠ []) (h : BAt w b tv ov pa bv s L W) :
    Calls Tryz.prog 63 #[.pointer (some ⟨b, 2, none⟩)] W (ToldS w b tv ov pa bv s L W) := by
  obtain ⟨_, _, hown⟩ : pa = .pointer (some ⟨b, 2, none⟩) ∧ s.ws ≠ [] ∧ W.ownsRowF w.heap.size TU8 1 bv s.ws.length (byteCells s.ws) := by
    rcases h.words with ⟨_, _, h3⟩ | h3
    · exact absurd h3 hs
    · exact h3
  have hB := h.but
  have hbk := h.blk
  obtain ⟨l, hl⟩ : ∃ l, s.ws = l := ⟨_, rfl⟩
  unfold ToldS
  rw [hl] at hown hs ⊢
  have hl0 : l.length ≠ 0 := by simpa using hs
  obtain ⟨g, cap, cur, fz, rfl, hbg, hg, hfz, hnc, hcm, hcs, htake⟩ : ∃ g cap cur fz, bv = .slice (some ⟨g, 0, none⟩) l.length cap ∧ w.heap.size ≤ g ∧ W.heap[g]? = some (.cells cur TU8 fz) ∧ fz.2 ≤ l.length * 1 ∧ l.length ≤ cap ∧ cap ≤ maxLen ∧ cur.size = cap * 1 ∧ cur.toList.take (l.length * 1) = byteCells l := by
    rcases hown.2 with ⟨_, hz⟩ | ⟨g, cap, cur, fz, hv, r⟩
    · exact absurd hz hl0
    · exact ⟨g, cap, cur, fz, hv, r⟩
  have c1 : W.drew.cell? ⟨b, 3, none⟩ = some (.slice (some ⟨g, 0, none⟩) l.length cap) := (local4 (W := W.drew) hbk).1.2.2.2
  have c2 : W.cell? ⟨b, 3, none⟩ = some (.slice (some ⟨g, 0, none⟩) l.length cap) := (local4 hbk).1.2.2.2
  have hSD : (Builtin.unsafeSliceData_ #[42] 125 #[.slice (some ⟨g, 0, none⟩) l.length cap]).run Tryz.prog W.drew = .ok (.pointer (some ⟨g, 0, none⟩)) W.drew :=
    Lib.run_unsafeSliceData_row _ _ _ _ _ _ (by omega)
  have hUS : (Builtin.unsafeString_ #[125, 3] 9 #[.pointer (some ⟨g, 0, none⟩), .int .i64 l.length]).run Tryz.prog W.drew = .ok (.string ⟨l.toArray⟩) (W.drew.freeze ⟨g, 0, none⟩ l.length) := by
    refine Lib.run_unsafeString_row W.drew 125 3 9 TU8 underPtrU8 cellsU8 g cur.size (by have hg' : W.drew.heap[g]? = some (.cells cur TU8 fz) := hg; simp [World.shape?, hg']) l hs (by omega) (by unfold maxLen at hcm; omega) ?_
    intro j x hx
    have := hown.cells (g := g) rfl j (.int .u8 x.toNat) (by simp [Lib.byteCells, hx])
    exact this
  have hB1 := (hB.on (Below.refl _ _).drew).bytes (w' := W.drew.freeze ⟨g, 0, none⟩ l.length) hg hbg (freeze_grown _ _ _)
  have hK1 : KeepsU W (W.drew.freeze ⟨g, 0, none⟩ l.length) := KeepsU.bytes (A := W.drew) hg (freeze_grown _ _ _)
  have HB1 := Lib.hid hB1
  have HK1 := Lib.hid hK1
  clear h hB hbk hown hg hfz hcs htake hB1 hK1 hl
  go_enter Tryz.func63, Tryz.ntmps63
  go_big_wp2
  go_region
  all_goals (go_big_wp2; go_ret; exact ⟨rfl, HB1.out, HK1.out⟩)
end Go.Proofs.YtkfmfldkllkcbaaGreatDoor
namespace Go.Proofs.YtkfmfldkllkcbaaGreatDoor
open Go.RowKit Go.RunKit Go.CharrefKit Go.Lib Go.TokenKit Go.TreeKit

/-- A node's data written over. -/
theorem NdRow.data {w : World} {base n cap g : Nat} {L : List NdV} {k : Nat} {x : NdV} (d : Bytes) (h : NdRow w base (.slice (some ⟨g, 0, none⟩) n cap) L) (hx : L[k]? = some x) :
    NdRow (w.setCell ⟨g, k * 6 + 3, none⟩ (.string ⟨d.toArray⟩)) base (.slice (some ⟨g, 0, none⟩) n cap) (L.set k ({ x.1 with data := d }, x.2)) := by
  have hk := (List.getElem?_eq_some_iff.1 hx).1
  have hn : n = L.length := by
    rcases h.row.2 with ⟨e, _⟩ | ⟨_, _, _, e, _⟩
    · cases e
    · cases e; rfl
  subst hn
  obtain ⟨h1, h2⟩ := World.ownsRow.stored h.row (k * 6 + 3) (.string ⟨d.toArray⟩)
  rw [ndCells_set (y := ({ x.1 with data := d }, x.2)) hx (by decide) rfl] at h1
  have hgg : ∃ cur, w.heap[g]? = some (.cells cur TNd (0, 0)) := by
    rcases h.row.2 with ⟨e, _⟩ | ⟨_, _, cur, e, _, hg, _⟩
    · cases e
    · cases e; exact ⟨cur, hg⟩
  obtain ⟨cur, hgg⟩ := hgg
  have hsub : ∀ y, y ∈ L.set k ({ x.1 with data := d }, x.2) → ∃ z, z ∈ L ∧ y.1.attrs = z.1.attrs ∧ y.1.kids = z.1.kids ∧ y.2 = z.2 := fun y hy => by
    rcases List.mem_or_eq_of_mem_set hy with hy | rfl
    · exact ⟨y, hy, rfl, rfl, rfl⟩
    · exact ⟨x, List.mem_of_getElem? hx, rfl, rfl, rfl⟩
  refine ⟨by rw [List.length_set]; exact h1, fun y hy => ?_, fun y hy => ?_, fun i j y z hi hj hne q hq => ?_⟩
  · obtain ⟨z, hz, e1, e2, e3⟩ := hsub y hy
    rw [e1, e3]; exact own_other (h.attrs z hz) hgg (by decide) h2
  · obtain ⟨z, hz, e1, e2, e3⟩ := hsub y hy
    rw [e2, e3]; exact own_other (h.kids z hz) hgg (by decide) h2
  · have key : ∀ (i : Nat) (y : NdV), (L.set k ({ x.1 with data := d }, x.2))[i]? = some y → ∃ y', L[i]? = some y' ∧ y'.2.2 = y.2.2 := fun i y hi => by
      rw [List.getElem?_set] at hi
      split at hi
      · rename_i e; subst e
        cases hi; exact ⟨x, hx, rfl⟩
      · exact ⟨y, hi, rfl⟩
    obtain ⟨y', hy', ey⟩ := key i y hi
    obtain ⟨z', hz', ez⟩ := key j z hj
    rw [← ey] at hq
    rw [← ez]
    exact h.apart i j y' z' hy' hz' hne q hq
theorem tree_cells {w : World} {base n cap : Nat} {ao : Option Addr} {L : List NdV} {k : Nat} {x : NdV} (h : NdRow w base (.slice ao n cap) L) (hx : L[k]? = some x) : ∃ g cur, ao = some ⟨g, 0, none⟩ ∧ w.heap[g]? = some (.cells cur TNd (0, 0)) ∧ base ≤ g ∧
    (w.cell? ⟨g, k * 6, none⟩ = some (.int .u8 ((x.1.kind : Nat) : Int)) ∧ w.cell? ⟨g, k * 6 + 1, none⟩ = some (.string ⟨x.1.name.toArray⟩) ∧ w.cell? ⟨g, k * 6 + 2, none⟩ = some x.2.1 ∧ w.cell? ⟨g, k * 6 + 3, none⟩ = some (.string ⟨x.1.data.toArray⟩) ∧ w.cell? ⟨g, k * 6 + 4, none⟩ = some (.int .i64 x.1.up) ∧ w.cell? ⟨g, k * 6 + 5, none⟩ = some x.2.2) ∧
    (w.frozen? ⟨g, k * 6 + 3, none⟩ = false ∧ w.frozen? ⟨g, k * 6 + 5, none⟩ = false) := by
  have hk := (List.getElem?_eq_some_iff.1 hx).1
  have h' := h.row
  rcases h'.2 with ⟨_, hn⟩ | ⟨g, c, cur, e, hb, hg, _⟩
  · omega
  · cases e
    have at_ := fun (c : Nat) (hc : c < 6) => (World.ownsRow.cellAt h' (k * 6 + c) (by omega)).trans (ndCells_at hx hc)
    exact ⟨g, cur, rfl, hg, hb, ⟨at_ 0 (by decide), at_ 1 (by decide), at_ 2 (by decide), at_ 3 (by decide), at_ 4 (by decide), at_ 5 (by decide)⟩, frozen_of_row w g _ _ _ hg, frozen_of_row w g _ _ _ hg⟩
theorem BA0.data {w wr : World} {b n cap g k : Nat} {ov pa bv : Value} {t : List Nd} {o : List Opd} {L : List NdV} {x : NdV} (d : Bytes) (h : BA0 w b (.slice (some ⟨g, 0, none⟩) n cap) ov pa bv t o L wr) (hx : L[k]? = some x) :
    BA0 w b (.slice (some ⟨g, 0, none⟩) n cap) ov pa bv (t.modify k fun m => { m with data := d }) o (L.set k ({ x.1 with data := d }, x.2)) (wr.setCell ⟨g, k * 6 + 3, none⟩ (.string ⟨d.toArray⟩)) ∧ Keeps wr (wr.setCell ⟨g, k * 6 + 3, none⟩ (.string ⟨d.toArray⟩)) ∧ Keeps3 b (.slice (some ⟨g, 0, none⟩) n cap) wr (wr.setCell ⟨g, k * 6 + 3, none⟩ (.string ⟨d.toArray⟩)) := by
  obtain ⟨g', cur, e, hg, hbg, _⟩ := tree_cells h.tree hx
  cases e
  refine ⟨⟨h.below.setCell hbg _, h.le, ?_, h.tree.data d hx, ?_, own_other h.opens hg (by decide) (grown_set _ _ _ _)⟩, Keeps.set hg (.inr rfl) _, Keeps3.set (.inr rfl)⟩
  · rw [heap_setCell_other _ _ _ _ (by
      show b ≠ g
      intro e
      subst e
      rw [h.blk] at hg
      simp only [Option.some.injEq, Obj.cells.injEq] at hg
      exact absurd hg.2.1 (by decide))]
    exact h.blk
  · rw [List.map_set, ← h.spec]
    apply List.ext_getElem?
    intro i
    rw [List.getElem?_set, List.getElem?_modify]
    have hk := (List.getElem?_eq_some_iff.1 hx).1
    by_cases e : k = i
    · subst e
      rw [if_pos rfl, if_pos (by rw [List.length_map]; exact hk), List.getElem?_map, hx]
      simp
    · rw [if_neg e]
      simp [e]
/-- What endText leaves. -/
def ToldF (w : World) (b : Nat) (tv ov : Value) (s : BS) (W : World) (e : Ending) (w' : World) : Prop :=
  e = .returned (.tuple #[]) ∧ Keeps W w' ∧ Keeps3 b tv W w' ∧ ∃ pa bv L, BAt w b tv ov pa bv (flushL s) L w'

set_option maxRecDepth 100000 in
set_option maxHeartbeats 4000000 in
theorem endText_any (w : World) (b : Nat) (tv ov pa bv : Value) (s : BS) (L : List NdV) (W : World) (hwf : 0 < s.t.length) (hfew : s.t.length ≤ 16384) (h : BAt w b tv ov pa bv s L W) :
    Calls Tryz.prog 43 #[.pointer (some ⟨b, 0, none⟩)] W (ToldF w b tv ov s W) := by
  obtain ⟨ao0, cap0, hbv⟩ := words_slice h.words
  subst hbv
  have hLl := h.len
  obtain ⟨⟨x0, x1, x2, x3⟩, y0, y1, y2, y3⟩ := local4 h.blk
  by_cases hw : s.ws = []
  · have HLn := Lib.hid (wlen_any b s.ws.length cap0 ao0 tv ov pa W h.blk)
    rw [hw] at HLn
    have hfl : flushL s = s := by unfold flushL; rw [if_pos hw]
    have HB := Lib.hid h
    unfold ToldF
    rw [hfl]
    clear h hw hLl hwf hfl
    go_enter Tryz.func43, Tryz.ntmps43
    go_big_wp2_with (go_at_call 71; refine HLn.out.mono ?_; rintro e w1 ⟨rfl, rfl⟩)
    go_end0
    exact ⟨rfl, Keeps.refl _, Keeps3.refl _ _ _, pa, _, L, HB.out⟩
  · have HLn := Lib.hid (wlen_any b s.ws.length cap0 ao0 tv ov pa W h.blk)
    obtain ⟨m, hm⟩ : ∃ m, s.ws.length = m := ⟨_, rfl⟩
    rw [hm] at HLn x3
    have hm0 : (0 : Int) < m := by have := List.length_pos_iff.2 hw; omega
    obtain ⟨k, hk⟩ : ∃ k, L.length = k + 1 := ⟨L.length - 1, by omega⟩
    obtain ⟨x, hx⟩ : ∃ x, L[k]? = some x := ⟨L[k]'(by omega), by simp [show k < L.length by omega]⟩
    obtain ⟨ao, cap, htv⟩ := sliceOf h.tree.row
    subst htv
    obtain ⟨g, cur, rfl, hg, hbg, ⟨c0, c1, c2, c3, c4, c5⟩, f3, f5⟩ := tree_cells h.tree hx
    rw [hk] at x0
    have hkI : ((k + 1 : Nat) : Int) - 1 = (k : Int) := by omega
    have hkw : IntKind.i64.wrap (k : Int) = (k : Int) := IntWalk.i64_in _ (by omega)
    have hkl : (k : Int) < (k : Int) + 1 := by omega
    have hk0 : (0 : Int) ≤ (k : Int) := by omega
    have HB := Lib.hid h
    have HS := Lib.hid fun W1 (hB1 : BAt w b (.slice (some ⟨g, 0, none⟩) L.length cap) ov pa (.slice ao0 s.ws.length cap0) s L W1) => wstring_any w b _ ov pa _ s L W1 hw hB1
    have HBd := Lib.hid (h.on (w' := W.drew) (Below.refl _ _).drew)
    rw [hk, hm] at HS HBd
    have HX := Lib.hid hx
    have hfl : flushL s = ⟨s.t.modify k fun m => { m with data := s.ws }, s.o, []⟩ := by
      unfold flushL
      rw [if_neg hw, show s.t.length - 1 = k by rw [← hLl, hk]; rfl]
    obtain ⟨d, hd⟩ : ∃ d : ByteArray, (⟨s.ws.toArray⟩ : ByteArray) = d := ⟨_, rfl⟩
    unfold ToldS at HS
    rw [hd] at HS
    have HDt := Lib.hid fun W1 (hB1 : BA0 w b (.slice (some ⟨g, 0, none⟩) (k + 1) cap) ov pa (.slice ao0 m cap0) s.t s.o L W1) => hB1.data s.ws HX.out
    rw [hd] at HDt
    unfold ToldF
    rw [hfl, hk]
    clear h hw hLl hwf hfew hfl hk hm hx hd hg
    go_enter Tryz.func43, Tryz.ntmps43
    go_big_wp2_with (go_at_call 71; refine HLn.out.mono ?_; rintro e w1 ⟨rfl, rfl⟩)
    go_region_law (go_simp; go_at_call 63; refine (HS.out _ HBd.out).mono ?_; rintro e w1 ⟨rfl, hB1, hk1⟩; obtain ⟨⟨p0, p1, p2, p3⟩, q0, q1, q2, q3⟩ := local4 hB1.blk; obtain ⟨g', cur', eg, hg1, hbg1, ⟨d0, d1, d2, d3, d4, d5⟩, j3, j5⟩ := tree_cells hB1.tree HX.out; cases eg; have HB1 := Lib.hid hB1; have HK1 := Lib.hid hk1; clear hB1 hk1 hg1)
    all_goals
      obtain ⟨hB2, hk2, hk3⟩ := HDt.out _ HB1.out
      have HB2 := Lib.hid hB2
      have HK2 := Lib.hid (HK1.out.keeps.trans hk2)
      have HK3 := Lib.hid (Keeps3.trans (Keeps3.ofU HK1.out) hk3)
      have HR := Lib.hid (wreset_any b _ ov pa _ _ hB2.blk)
      clear hB2 hk2 hk3
      go_big_wp2_with (go_at_call 72; refine HR.out.mono ?_; rintro e w3 ⟨rfl, rfl⟩)
      go_end0
      have hf := (HB2.out.set (i := 2) (v := .pointer none) (pa' := .pointer none) (bv' := .slice ao0 m cap0) rfl).set (i := 3) (v := .slice none 0 0) (pa' := .pointer none) (bv' := .slice none 0 0) rfl
      have hkk := (Keeps.set (i := 2) HB2.out.blk (.inl rfl) (.pointer none)).trans (Keeps.set (i := 3) (HB2.out.set (i := 2) (v := .pointer none) (pa' := .pointer none) (bv' := .slice ao0 m cap0) rfl).blk (.inl rfl) (.slice none 0 0))
      exact ⟨rfl, HK2.out.trans hkk, (HK3.out.trans (Keeps3.set (.inl rfl))).trans (Keeps3.set (.inl rfl)), .pointer none, .slice none 0 0, _, ⟨hf.below, hf.le, hf.blk, hf.tree, hf.spec, hf.opens, .inl ⟨rfl, rfl, rfl⟩⟩⟩
end Go.Proofs.YtkfmfldkllkcbaaGreatDoor
namespace Go.Proofs.YtkfmfldkllkcbaaGreatDoor
open Go.RowKit Go.RunKit Go.CharrefKit Go.Lib Go.TokenKit Go.TreeKit

theorem own_ne_own {w : World} {base base2 size size2 n n2 : Nat} {e e2 : TypeId} {v v2 : Value} {xs xs2 : List Value} (h : w.ownsRow base e size v n xs) (h2 : w.ownsRow base2 e2 size2 v2 n2 xs2) (hT : e2 ≠ e) {g : Nat} (hg : v2.ownBlock = some g) : v.ownBlock ≠ some g := by
  rcases h2.2 with ⟨rfl, _⟩ | ⟨g', cap, cur, rfl, _, hgg, _⟩
  · simp [Value.ownBlock] at hg
  · simp only [Value.ownBlock, Option.some.injEq] at hg
    subst hg
    exact own_ne h hgg hT
/-- One child more of a node. -/
theorem NdRow.kid {w W2 : World} {base n cap g m q c k : Nat} {L : List NdV} {u : Nat} {x : NdV} (h : NdRow w base (.slice (some ⟨g, 0, none⟩) n cap) L) (hx : L[u]? = some x) (hm : x.1.kids.length = m)
    (hgr : w.grownBy W2 x.2.2.ownBlock) (hown : W2.ownsRow base TIn 1 (.slice (some ⟨q, 0, none⟩) (m + 1) c) (m + 1) (intCells x.1.kids ++ [.int .i64 ((k : Nat) : Int)])) (hat : x.2.2.ownBlock = some q ∨ q = w.heap.size) :
    NdRow (W2.setCell ⟨g, u * 6 + 5, none⟩ (.slice (some ⟨q, 0, none⟩) (m + 1) c)) base (.slice (some ⟨g, 0, none⟩) n cap) (L.set u ({ x.1 with kids := x.1.kids ++ [k] }, (x.2.1, .slice (some ⟨q, 0, none⟩) (m + 1) c))) := by
  have hu := (List.getElem?_eq_some_iff.1 hx).1
  have hxm := List.mem_of_getElem? hx
  have hn : n = L.length := by
    rcases h.row.2 with ⟨e, _⟩ | ⟨_, _, _, e, _⟩
    · cases e
    · cases e; rfl
  subst hn
  have hrow2 := own_beside h.row (h.kids x hxm) (by decide) hgr
  obtain ⟨h1, h2⟩ := World.ownsRow.stored hrow2 (u * 6 + 5) (.slice (some ⟨q, 0, none⟩) (m + 1) c)
  rw [ndCells_set (y := ({ x.1 with kids := x.1.kids ++ [k] }, (x.2.1, .slice (some ⟨q, 0, none⟩) (m + 1) c))) hx (by decide) rfl] at h1
  have hgg : ∃ cur, W2.heap[g]? = some (.cells cur TNd (0, 0)) := by
    rcases hrow2.2 with ⟨e, _⟩ | ⟨_, _, cur, e, _, hg, _⟩
    · cases e
    · cases e; exact ⟨cur, hg⟩
  obtain ⟨cur, hgg⟩ := hgg
  have hnew : (.slice (some ⟨q, 0, none⟩) (m + 1) c : Value).ownBlock = some q := rfl
  have key : ∀ (i : Nat) (y : NdV), (L.set u ({ x.1 with kids := x.1.kids ++ [k] }, (x.2.1, .slice (some ⟨q, 0, none⟩) (m + 1) c)))[i]? = some y → (i = u ∧ y = ({ x.1 with kids := x.1.kids ++ [k] }, (x.2.1, .slice (some ⟨q, 0, none⟩) (m + 1) c))) ∨ (i ≠ u ∧ L[i]? = some y) := fun i y hi => by
    rw [List.getElem?_set] at hi
    split at hi
    · rename_i e; subst e
      cases hi; exact .inl ⟨rfl, rfl⟩
    · rename_i e; exact .inr ⟨fun e' => e e'.symm, hi⟩
  have far : ∀ (i : Nat) (y : NdV), i ≠ u → L[i]? = some y → y.2.2.ownBlock ≠ some q := fun i y hne hi => by
    rcases hat with ha | ha
    · exact h.apart u i x y hx hi (fun e => hne e.symm) q ha
    · intro e
      have := (World.ownsRow.lt (h.kids y (List.mem_of_getElem? hi)) q e).2
      omega
  refine ⟨by rw [List.length_set]; exact h1, fun y hy => ?_, fun y hy => ?_, fun i j y z hi hj hne p hp => ?_⟩
  · obtain ⟨i, hi⟩ := List.mem_iff_getElem?.1 hy
    rcases key i y hi with ⟨_, rfl⟩ | ⟨_, hi⟩
    · exact own_other (own_beside (h.attrs x hxm) (h.kids x hxm) (by decide) hgr) hgg (by decide) h2
    · exact own_other (own_beside (h.attrs y (List.mem_of_getElem? hi)) (h.kids x hxm) (by decide) hgr) hgg (by decide) h2
  · obtain ⟨i, hi⟩ := List.mem_iff_getElem?.1 hy
    rcases key i y hi with ⟨_, rfl⟩ | ⟨hne, hi⟩
    · refine own_other ?_ hgg (by decide) h2
      show W2.ownsRow base TIn 1 (.slice (some ⟨q, 0, none⟩) (m + 1) c) (x.1.kids ++ [k]).length (intCells (x.1.kids ++ [k]))
      rw [List.length_append, hm, intCells_snoc]; exact hown
    · refine own_other (World.ownsRow.kept (h.kids y (List.mem_of_getElem? hi)) hgr ?_) hgg (by decide) h2
      cases hv : x.2.2.ownBlock with
      | none => cases y.2.2.ownBlock <;> simp
      | some p => exact .inr (h.apart u i x y hx hi (fun e => hne e.symm) p hv)
  · rcases key i y hi with ⟨rfl, rfl⟩ | ⟨hi1, hi2⟩
    · rcases key j z hj with ⟨rfl, rfl⟩ | ⟨hj1, hj2⟩
      · exact absurd rfl hne
      · have : p = q := by rw [show (_ : Value).ownBlock = some q from hnew] at hp; exact (Option.some.inj hp).symm
        rw [this]; exact far j z hj1 hj2
    · rcases key j z hj with ⟨rfl, rfl⟩ | ⟨hj1, hj2⟩
      · intro e
        have : p = q := by rw [show (_ : Value).ownBlock = some q from hnew] at e; exact (Option.some.inj e).symm
        rw [this] at hp
        exact far i y hi1 hi2 hp
      · exact h.apart i j y z hi2 hj2 hne p hp
/-- One node more. -/
theorem NdRow.snoc {w W2 : World} {base : Nat} {v v' : Value} {L : List NdV} {x : NdV} (h : NdRow w base v L) (hx : AtRow w base x.2.1 x.1.attrs) (hk : x.1.kids = []) (hkv : x.2.2 = .slice none 0 0) (hgr : w.grownBy W2 v.ownBlock)
    (hown : W2.ownsRow base TNd 6 v' (L.length + 1) (ndCells L ++ ndCell x)) : NdRow W2 base v' (L ++ [x]) := by
  have keep : ∀ {e : TypeId} {size n : Nat} {u : Value} {xs : List Value}, w.ownsRow base e size u n xs → TNd ≠ e → W2.ownsRow base e size u n xs := fun ho hT => own_beside ho h.row hT hgr
  have hnone : x.2.2.ownBlock = none := by rw [hkv]; rfl
  refine ⟨by rw [ndCells_snoc, List.length_append]; exact hown, fun y hy => ?_, fun y hy => ?_, fun i j y z hi hj hne p hp => ?_⟩
  · rcases List.mem_append.1 hy with hy | hy
    · exact keep (h.attrs y hy) (by decide)
    · rw [List.mem_singleton] at hy; subst hy; exact keep hx (by decide)
  · rcases List.mem_append.1 hy with hy | hy
    · exact keep (h.kids y hy) (by decide)
    · rw [List.mem_singleton] at hy; subst hy
      rw [hkv, hk]; exact World.ownsRow_nil _ _ _ _
  · rw [List.getElem?_append] at hi hj
    split at hi
    · split at hj
      · exact h.apart i j y z hi hj hne p hp
      · have : z = x := by
          have := List.mem_of_getElem? hj; simpa using this
        rw [this, hnone]; simp
    · have : y = x := by
        have := List.mem_of_getElem? hi; simpa using this
      rw [this, hnone] at hp; cases hp

theorem modify_set {L : List NdV} {t : List Nd} {u : Nat} {x : NdV} {f : Nd → Nd} {p : Value × Value} (hs : L.map (·.1) = t) (hx : L[u]? = some x) : (L.set u (f x.1, p)).map (·.1) = t.modify u f := by
  rw [List.map_set, ← hs]
  apply List.ext_getElem?
  intro i
  rw [List.getElem?_set, List.getElem?_modify]
  have hk := (List.getElem?_eq_some_iff.1 hx).1
  by_cases e : u = i
  · subst e
    rw [if_pos rfl, if_pos (by rw [List.length_map]; exact hk), List.getElem?_map, hx]
    simp
  · rw [if_neg e]
    simp [e]
/-- One child more. -/
theorem BAt.kid {w W W2 : World} {b n cap g m q c u k : Nat} {ov pa bv : Value} {s : BS} {L : List NdV} {x : NdV} (h : BAt w b (.slice (some ⟨g, 0, none⟩) n cap) ov pa bv s L W) (hx : L[u]? = some x) (hm : x.1.kids.length = m)
    (hgr : W.grownBy W2 x.2.2.ownBlock) (hown : W2.ownsRow w.heap.size TIn 1 (.slice (some ⟨q, 0, none⟩) (m + 1) c) (m + 1) (intCells x.1.kids ++ [.int .i64 ((k : Nat) : Int)])) (hat : x.2.2.ownBlock = some q ∨ q = W.heap.size) :
    BAt w b (.slice (some ⟨g, 0, none⟩) n cap) ov pa bv ⟨s.t.modify u (fun n => { n with kids := n.kids ++ [k] }), s.o, s.ws⟩ (L.set u ({ x.1 with kids := x.1.kids ++ [k] }, (x.2.1, .slice (some ⟨q, 0, none⟩) (m + 1) c))) (W2.setCell ⟨g, u * 6 + 5, none⟩ (.slice (some ⟨q, 0, none⟩) (m + 1) c)) := by
  have hk := h.tree.kids x (List.mem_of_getElem? hx)
  obtain ⟨g', cur, e, hg, hbg, _⟩ := tree_cells h.tree hx
  cases e
  have hblk : W2.heap[b]? = some (.cells #[.slice (some ⟨g, 0, none⟩) n cap, ov, pa, bv] TBd (0, 0)) := by
    rw [hgr.block b (Array.getElem?_eq_some_iff.1 h.blk).1 (fun e => own_ne hk h.blk (by decide) e.symm)]; exact h.blk
  have hg2 : W2.heap[g]? = some (.cells cur TNd (0, 0)) := by
    rw [hgr.block g (Array.getElem?_eq_some_iff.1 hg).1 (fun e => own_ne hk hg (by decide) e.symm)]; exact hg
  have hbl : Below w.heap.size w W2 := h.below.grown hgr h.below.size (fun p hp => (World.ownsRow.lt hk p hp).1)
  have hgb : b ≠ g := by
    intro e
    subst e
    rw [h.blk] at hg
    simp only [Option.some.injEq, Obj.cells.injEq] at hg
    exact absurd hg.2.1 (by decide)
  exact ⟨hbl.setCell hbg _, h.le, by rw [heap_setCell_other _ _ _ _ (by exact hgb)]; exact hblk, h.tree.kid hx hm hgr hown hat, modify_set (f := fun n => { n with kids := n.kids ++ [k] }) h.spec hx,
    own_other (own_beside h.opens hk (by decide) hgr) hg2 (by decide) (grown_set _ _ _ _), (h.words.beside hk (by decide) hgr).other hg2 (by decide) (grown_set _ _ _ _)⟩
/-- One node more. -/
theorem BAt.node {w W W2 : World} {b : Nat} {tv tv' ov pa bv : Value} {s : BS} {L : List NdV} {x : NdV} (h : BAt w b tv ov pa bv s L W) (hx : AtRow W w.heap.size x.2.1 x.1.attrs) (hk : x.1.kids = []) (hkv : x.2.2 = .slice none 0 0) (hgr : W.grownBy W2 tv.ownBlock)
    (hown : W2.ownsRow w.heap.size TNd 6 tv' (L.length + 1) (ndCells L ++ ndCell x)) : BAt w b tv' ov pa bv ⟨s.t ++ [x.1], s.o, s.ws⟩ (L ++ [x]) (W2.setCell ⟨b, 0, none⟩ tv') := by
  have hblk : W2.heap[b]? = some (.cells #[tv, ov, pa, bv] TBd (0, 0)) := by
    rw [hgr.block b (Array.getElem?_eq_some_iff.1 h.blk).1 (fun e => own_ne h.tree.row h.blk (by decide) e.symm)]; exact h.blk
  have hbl : Below w.heap.size w W2 := h.below.grown hgr h.below.size (fun p hp => (World.ownsRow.lt h.tree.row p hp).1)
  have hn := h.tree.snoc hx hk hkv hgr hown
  exact ⟨hbl.setCell h.le _, h.le, by have := heap_setCell_same W2 b 0 _ _ tv' hblk; simpa using this, hn.other hblk (by decide) (by decide) (by decide) (grown_set _ _ _ _), by rw [List.map_append, h.spec]; rfl,
    own_other (own_beside h.opens h.tree.row (by decide) hgr) hblk (by decide) (grown_set _ _ _ _), (h.words.beside h.tree.row (by decide) hgr).other hblk (by decide) (grown_set _ _ _ _)⟩
/-- A node's own block beside the tree. -/
theorem BAt.box {w W : World} {b g i : Nat} {tv ov pa bv : Value} {s : BS} {L : List NdV} {cs : Array Value} {fr : Nat × Nat} (h : BAt w b tv ov pa bv s L W) (hg : W.heap[g]? = some (.cells cs TNd fr)) (htv : tv.ownBlock ≠ some g) (hge : w.heap.size ≤ g) (v : Value) : BAt w b tv ov pa bv s L (W.setCell ⟨g, i, none⟩ v) := by
  have hgb : b ≠ g := by
    intro e
    subst e
    rw [h.blk] at hg
    simp only [Option.some.injEq, Obj.cells.injEq] at hg
    exact absurd hg.2.1 (by decide)
  refine ⟨h.below.setCell hge _, h.le, by rw [heap_setCell_other _ _ _ _ (by exact hgb)]; exact h.blk, ⟨World.ownsRow.kept h.tree.row (grown_set _ _ _ _) (.inr htv), fun x hx => own_other (h.tree.attrs x hx) hg (by decide) (grown_set _ _ _ _), fun x hx => own_other (h.tree.kids x hx) hg (by decide) (grown_set _ _ _ _), h.tree.apart⟩, h.spec, own_other h.opens hg (by decide) (grown_set _ _ _ _), h.words.other hg (by decide) (grown_set _ _ _ _)⟩
theorem row_cell {w : World} {base n cap g k c : Nat} {L : List NdV} {x : NdV} (h : w.ownsRow base TNd 6 (.slice (some ⟨g, 0, none⟩) n cap) n (ndCells L)) (hn : n = L.length) (hx : L[k]? = some x) (hc : c < 6) : w.cell? ⟨g, k * 6 + c, none⟩ = (ndCell x)[c]? ∧ w.frozen? ⟨g, k * 6 + c, none⟩ = false := by
  have hk := (List.getElem?_eq_some_iff.1 hx).1
  exact ⟨(World.ownsRow.cellAt h (k * 6 + c) (by omega)).trans (ndCells_at hx hc), World.ownsRow.frozenAt h _⟩
theorem local6 {W : World} {g : Nat} {a0 a1 a2 a3 a4 a5 : Value} {T : TypeId} (h : W.heap[g]? = some (.cells #[a0, a1, a2, a3, a4, a5] T (0, 0))) :
    (W.cell? ⟨g, 0, none⟩ = some a0 ∧ W.cell? ⟨g, 1, none⟩ = some a1 ∧ W.cell? ⟨g, 2, none⟩ = some a2 ∧ W.cell? ⟨g, 3, none⟩ = some a3 ∧ W.cell? ⟨g, 4, none⟩ = some a4 ∧ W.cell? ⟨g, 5, none⟩ = some a5) ∧ W.frozen? ⟨g, 4, none⟩ = false :=
  ⟨⟨by simp [World.cell?, h], by simp [World.cell?, h], by simp [World.cell?, h], by simp [World.cell?, h], by simp [World.cell?, h], by simp [World.cell?, h]⟩, frozen_of_row W g 4 _ _ h⟩
theorem Tryz.infoInt : (Tryz.prog.info? 3).map (fun i => (i.zero, i.size, i.bytes)) = some (some (.int .i64 0), 1, 8) := by kernel_rfl
theorem Tryz.infoNode : (Tryz.prog.info? 38).map (fun i => (i.zero, i.size, i.bytes)) = some (some (.agg #[.int .u8 0, .string ⟨#[]⟩, .slice none 0 0, .string ⟨#[]⟩, .int .i64 0, .slice none 0 0]), 6, 96) := by kernel_rfl
theorem AtRow.keeps {w w' : World} {base : Nat} {v : Value} {l : List At} (h : AtRow w base v l) (hk : Keeps w w') : AtRow w' base v l := by
  refine ⟨h.1, ?_⟩
  rcases h.2 with h2 | ⟨g, cap, cur, e, hb, hg, rest⟩
  · exact .inl h2
  · exact .inr ⟨g, cap, cur, e, hb, hk g cur TAt (0, 0) hg (by decide) (by decide) (by decide) (by decide) (by decide), rest⟩
theorem BAt.kidFacts {w W W2 : World} {b n cap g u : Nat} {ov pa bv kv : Value} {s : BS} {L : List NdV} {x : NdV} (h : BAt w b (.slice (some ⟨g, 0, none⟩) n cap) ov pa bv s L W) (hx : L[u]? = some x) (hkv : x.2.2 = kv) (hgr : W.grownBy W2 kv.ownBlock) :
    W2.heap[b]? = some (.cells #[.slice (some ⟨g, 0, none⟩) n cap, ov, pa, bv] TBd (0, 0)) ∧ W2.cell? ⟨g, u * 6 + 5, none⟩ = some kv ∧ W2.frozen? ⟨g, u * 6 + 5, none⟩ = false ∧ (∀ (k : Nat) (cs : Array Value) (fr : Nat × Nat), W.heap[k]? = some (.cells cs TNd fr) → W2.heap[k]? = some (.cells cs TNd fr)) ∧ Keeps W W2 := by
  subst hkv
  have hk := h.tree.kids x (List.mem_of_getElem? hx)
  obtain ⟨g', cur, e, hg, hbg, ⟨_, _, _, _, _, c5⟩, _⟩ := tree_cells h.tree hx
  cases e
  have hall : ∀ (k : Nat) (cs : Array Value) (T : TypeId) (fr : Nat × Nat), W.heap[k]? = some (.cells cs T fr) → T ≠ TIn → W2.heap[k]? = some (.cells cs T fr) := fun k cs T fr hkk hT => by
    rw [hgr.block k (Array.getElem?_eq_some_iff.1 hkk).1 (fun e => own_ne hk hkk hT e.symm)]; exact hkk
  have hg2 := hall g cur TNd (0, 0) hg (by decide)
  refine ⟨hall b _ TBd _ h.blk (by decide), ?_, frozen_of_row W2 g _ _ _ hg2, fun k cs fr hkk => hall k cs TNd fr hkk (by decide), Keeps.grown hk (.inr (.inr rfl)) hgr⟩
  rw [World.cell?_of_block (w := W) (w' := W2) (a := ⟨g, u * 6 + 5, none⟩) (by rw [hg2, hg])]
  exact c5
theorem BAt.nodeFacts {w W W2 : World} {b : Nat} {tv ov pa bv : Value} {s : BS} {L : List NdV} (h : BAt w b tv ov pa bv s L W) (hgr : W.grownBy W2 tv.ownBlock) : W2.heap[b]? = some (.cells #[tv, ov, pa, bv] TBd (0, 0)) ∧ Keeps W W2 :=
  ⟨by rw [hgr.block b (Array.getElem?_eq_some_iff.1 h.blk).1 (fun e => own_ne h.tree.row h.blk (by decide) e.symm)]; exact h.blk, Keeps.grown h.tree.row (.inr (.inl rfl)) hgr⟩
end Go.Proofs.YtkfmfldkllkcbaaGreatDoor
namespace Go
section
variable {P : Program} {ops : Array Oper} {Q : Exit → Act → World → Prop} {md : Region.Mode} {S : World → Prop}
theorem at_drop {i : Nat} {o : Oper} {rest : List Oper} (h : ops.toList.drop i = o :: rest) : ops[i]? = some o := by
  have h1 : (ops.toList.drop i)[0]? = some o := by rw [h]; rfl
  rw [List.getElem?_drop] at h1
  simpa using h1
/-- An operation that yields in every world that meets the condition, taken first. -/
theorem takeD {i : Nat} {oi : Oper} {rest : List Oper} {v : Value} {fuel : Nat} {listed : Array Bool} {a : Act} {w : World} (hi : ops.toList.drop i = oi :: rest)
    (hs : Region.noSelect ops = true) (hf : Region.free md ops listed i = true) (hr : (Region.ready md ops listed).contains i = true)
    (hQ : ∀ c a w, Q (.panic c) (a.put oi.dst v) w → Q (.panic c) a w) (hy : YieldsIf P ops S oi v a) (hS : S w)
    (h : wpAnyH P md ops Q S fuel (listed.setIfInBounds i true) (a.put oi.dst v) w) : wpAnyH P md ops Q S (fuel + 1) listed a w := wpAnyH_take (at_drop hi) hs hf hr hQ hy hS h
theorem readyD {fuel : Nat} {listed : Array Bool} {a : Act} {w : World} {i : Nat} {o : Oper} {rest : List Oper} {rs : List Nat} (ho : ops.toList.drop i = o :: rest)
    (h : ∀ K' : Act → World → Prop, Shut (∀ a w, S w → (S w → wpAnyH P md ops Q S fuel (listed.setIfInBounds i true) a w) → K' a w) → if Region.wanted o (yielded ops a.tmps) = true then Oper.wp P o a w K' Q else K' (a.put o.dst undef) w)
    (hs : AllReadyH P md ops Q S fuel listed a w rs) : AllReadyH P md ops Q S fuel listed a w (i :: rs) := AllReadyH.cons (at_drop ho) h hs
end
end Go
namespace Go.Proofs.YtkfmfldkllkcbaaGreatDoor
open Go.RowKit Go.RunKit Go.CharrefKit Go.Lib Go.TokenKit Go.TreeKit

set_option maxRecDepth 100000 in
set_option maxHeartbeats 8000000 in
theorem add_any (w : World) (b k : Nat) (nm : ByteArray) (ao2 : Option Addr) (m2 c2 : Nat) (ats : List At) (tv ov pa bv : Value) (s : BS) (L : List NdV) (W : World) (hwf : WF s) (h200 : s.o.length ≤ 65536) (hat : AtRow W w.heap.size (.slice ao2 m2 c2) ats) (h : BAt w b tv ov pa bv s L W) :
    Calls Tryz.prog 102 #[.pointer (some ⟨b, 0, none⟩), .agg #[.int .u8 ((k : Nat) : Int), .string nm, .slice ao2 m2 c2, .string ⟨#[]⟩, .int .i64 0, .slice none 0 0]] W (ToldB (addL s ⟨k, bl nm, ats, [], 0, []⟩) w b W) := by
  obtain ⟨aot, capt, htv⟩ := sliceOf h.tree.row
  subst htv
  obtain ⟨aoo, capo, hov⟩ := sliceOf h.opens
  subst hov
  have hLl := h.len
  have hbs := (Array.getElem?_eq_some_iff.1 h.blk).1
  obtain ⟨nt, hnt⟩ : ∃ nt, L.length = nt := ⟨_, rfl⟩
  obtain ⟨no, hno⟩ : ∃ no, s.o.length = no := ⟨_, rfl⟩
  have b1 : Below W.heap.size W (W.alloc (.cells #[.int .u8 ((k : Nat) : Int), .string nm, .slice ao2 m2 c2, .string ⟨#[]⟩, .int .i64 0, .slice none 0 0] TNd)) := (Below.refl _ _).alloc (Nat.le_refl _) _
  have h1 := h.on b1
  rw [hnt, hno] at h1
  obtain ⟨⟨x0, x1, x2, x3⟩, y0, y1, y2, y3⟩ := local4 h1.blk
  by_cases hbig : 16384 ≤ nt
  · have hI : (16384 : Int) ≤ nt := by omega
    have ha : addL s ⟨k, bl nm, ats, [], 0, []⟩ = .error 3 := by unfold addL; rw [if_pos (by omega)]
    rw [ha]
    have HB := Lib.hid h1
    clear h h1 hat hwf ha b1 hLl hnt hno
    go_enter Tryz.func102, Tryz.ntmps102
    go_big_wp2
    go_ret
    exact ⟨rfl, HB.out.below⟩
  · have hI : ¬ (16384 : Int) ≤ nt := by omega
    have ha : addL s ⟨k, bl nm, ats, [], 0, []⟩ = .ok ⟨((flushL s).t.modify (topO s.o).node (fun m => { m with kids := m.kids ++ [nt] })) ++ [⟨k, bl nm, ats, [], ((topO s.o).node : Nat), []⟩], s.o, []⟩ := by
      unfold addL; rw [if_neg (by omega), ← hLl, hnt]
    rw [ha]
    have hE := endText_any w b (.slice aot nt capt) (.slice aoo no capo) pa bv s L _ hwf.pos hwf.few h1
    have HE := Lib.hid hE
    have hg0 : aot ≠ some ⟨W.heap.size, 0, none⟩ ∧ (Value.slice aot nt capt).ownBlock ≠ some W.heap.size := by
      have hlt := World.ownsRow.lt h.tree.row
      rw [hnt] at hlt
      have : (Value.slice aot nt capt).ownBlock ≠ some W.heap.size := fun e => by have := (hlt _ e).2; omega
      refine ⟨fun e => this (by rw [e]; rfl), this⟩
    have HG0 := Lib.hid hg0
    have hbg : W.heap.size ≠ b := by omega
    have hbox : (W.alloc (.cells #[.int .u8 ((k : Nat) : Int), .string nm, .slice ao2 m2 c2, .string ⟨#[]⟩, .int .i64 0, .slice none 0 0] TNd)).heap[W.heap.size]? = some (.cells #[.int .u8 ((k : Nat) : Int), .string nm, .slice ao2 m2 c2, .string ⟨#[]⟩, .int .i64 0, .slice none 0 0] TNd (0, 0)) := heap_alloc_new W _
    have HBox := Lib.hid hbox
    have HAt := Lib.hid (hat.on b1)
    have HK1 := Lib.hid (Keeps.below b1)
    have hge : w.heap.size ≤ W.heap.size := h.below.size
    cases hso : s.o with
    | nil => exact absurd hso hwf.ne
    | cons o r =>
      have hu : o.node < s.t.length := hwf.nodes o (by rw [hso]; simp)
      rw [hLl] at hnt
      have hol : no = r.length + 1 := by rw [← hno, hso]; rfl
      obtain ⟨s1, hs1⟩ : ∃ s1, flushL s = s1 := ⟨_, rfl⟩
      have hs1o : s1.o = o :: r := by rw [← hs1, flush_o, hso]
      have hs1w : s1.ws = [] := by rw [← hs1, flush_ws]
      have hs1l : s1.t.length = nt := by rw [← hs1, flush_len, hnt]
      unfold ToldF at HE
      rw [hs1] at HE ⊢
      rw [show (topO (o :: r)).node = o.node from rfl]
      obtain ⟨u, hue⟩ : ∃ u, o.node = u := ⟨_, rfl⟩
      rw [hue] at hu ⊢
      rw [hnt] at hu
      have HS1 := Lib.hid (And.intro hs1o (And.intro hs1w hs1l))
      have HKn := Lib.hid (show ∀ n, n ∈ s1.t → n.kids.length ≤ nt from by rw [← hs1l, ← hs1]; exact hwf.flush.kids)
      have HUe := Lib.hid hue
      have HOl := Lib.hid hol
      have hol32 : no ≤ 4294967296 := by omega
      have huI : (u : Int) < nt := by omega
      have hu0 : (0 : Int) ≤ (u : Int) := by omega
      obtain ⟨j0, ij0, jz0, jz1, jz2⟩ := info_parts Tryz.infoInt
      obtain ⟨i0, hi0, hz0, hz1, hz2⟩ := info_parts Tryz.infoNode
      clear h h1 hE ha hat b1 hwf hLl hnt hno hso hs1 hs1o hs1w hs1l hue hg0 hbox hol hbig
      go_enter Tryz.func102, Tryz.ntmps102
      go_big_wp2_with (first
        | (go_at_call 43
           refine HE.out.mono ?_
           rintro e w1 ⟨rfl, hk, hk3, pa1, bv1, L1, hB1⟩
           have hbox1 := hk3 _ _ _ _ HBox.out hbg HG0.out.2 (by decide)
           obtain ⟨⟨x0, x1, x2, x3⟩, y0, y1, y2, y3⟩ := local4 hB1.blk
           have HT := Lib.hid (top_any aoo capo no w.heap.size o r w1 HOl.out hol32 (by have := hB1.opens; rw [HS1.out.1] at this; rw [HOl.out] at this ⊢; exact this))
           rw [HUe.out] at HT
           have HB1 := Lib.hid hB1
           have HKa := Lib.hid (HK1.out.trans hk)
           have HBox1 := Lib.hid hbox1
           have HAt1 := Lib.hid (HAt.out.keeps hk)
           clear hk hk3 hB1 hbox1)
        | (go_at_call 125
           refine HT.out.mono ?_
           rintro e w2 ⟨rfl, hb2⟩
           have hB2 := HB1.out.on hb2
           have hbox2 := (hb2.block _ (Array.getElem?_eq_some_iff.1 HBox1.out).1).trans HBox1.out
           clear x0 x1 x2 x3 y0 y1 y2 y3
           obtain ⟨⟨x0, x1, x2, x3⟩, y0, y1, y2, y3⟩ := local4 hB2.blk
           obtain ⟨⟨z0, z1, z2, z3, z4, z5⟩, zf⟩ := local6 hbox2
           have hf := field0 ((u : Nat) : Int) ⟨o.name.toArray⟩ ((o.kind : Nat) : Int)
           have HB2 := Lib.hid hB2
           have HBox2 := Lib.hid hbox2
           have HKb := Lib.hid (HKa.out.trans (Keeps.below hb2))
           have HAt2 := Lib.hid (HAt1.out.on hb2)
           clear hb2 hB2 hbox2))
      have hB3 := HB2.out.box (i := 4) HBox2.out HG0.out.2 hge (.int .i64 ((u : Nat) : Int))
      have hbox3 : (w2.setCell ⟨W.heap.size, 4, none⟩ (.int .i64 ((u : Nat) : Int))).heap[W.heap.size]? = some (.cells #[.int .u8 ((k : Nat) : Int), .string nm, .slice ao2 m2 c2, .string ⟨#[]⟩, .int .i64 ((u : Nat) : Int), .slice none 0 0] TNd (0, 0)) := by
        have := heap_setCell_same w2 W.heap.size 4 _ _ (.int .i64 ((u : Nat) : Int)) HBox2.out
        simpa using this
      have hK3 := HKb.out.trans (Keeps.set (i := 4) HBox2.out (.inr rfl) (.int .i64 ((u : Nat) : Int)))
      have hAt3 : AtRow (w2.setCell ⟨W.heap.size, 4, none⟩ (.int .i64 ((u : Nat) : Int))) w.heap.size (.slice ao2 m2 c2) ats := own_other HAt2.out HBox2.out (by decide) (grown_set _ _ _ _)
      clear x0 x1 x2 x3 y0 y1 y2 y3 z0 z1 z2 z3 z4 z5 zf
      generalize w2.setCell ⟨W.heap.size, 4, none⟩ (.int .i64 ((u : Nat) : Int)) = W3 at *
      generalize W.heap.size = g0 at *
      obtain ⟨x, hx⟩ : ∃ x, L1[u]? = some x := ⟨L1[u]'(by have := hB3.len; have := HS1.out.2.2; omega), by simp [show u < L1.length by have := hB3.len; have := HS1.out.2.2; omega]⟩
      obtain ⟨gt, cur, rfl, hg, hbg', ⟨c0, c1, c2', c3, c4, c5⟩, f3, f5⟩ := tree_cells hB3.tree hx
      have hkr := hB3.tree.kids x (List.mem_of_getElem? hx)
      obtain ⟨ka, kc, hkv⟩ := sliceOf hkr
      obtain ⟨m, hm⟩ : ∃ m, x.1.kids.length = m := ⟨_, rfl⟩
      rw [hm] at hkv hkr
      rw [hkv] at c5 hkr
      have hxl := hx
      obtain ⟨⟨x0, x1, x2, x3⟩, y0, y1, y2, y3⟩ := local4 hB3.blk
      obtain ⟨⟨z0, z1, z2, z3, z4, z5⟩, zf⟩ := local6 hbox3
      -- the children's row, a number laid
      have bA : Below W3.heap.size W3 (W3.alloc (.cells #[.int .i64 ((nt : Nat) : Int)] TIn)) := (Below.refl _ _).alloc (Nat.le_refl _) _
      obtain ⟨⟨p0, p1, p2, p3⟩, _⟩ := local4 (hB3.on bA).blk
      have hboxA := (bA.block _ (Array.getElem?_eq_some_iff.1 hbox3).1).trans hbox3
      obtain ⟨⟨_, _, _, _, s4, _⟩, _⟩ := local6 hboxA
      have c5A := (bA.cell (p := ⟨gt, u * 6 + 5, none⟩) (Array.getElem?_eq_some_iff.1 hg).1).trans c5
      have hKA := own_on hkr (bA.drew)
      have HKA := Lib.hid hKA
      have HNews : Hid ((W3.alloc (.cells #[.int .i64 ((nt : Nat) : Int)] TIn)).drew.heap[W3.heap.size]? = some (.cells #[.int .i64 ((nt : Nat) : Int)] TIn (0, 0))) := Lib.hid (heap_alloc_new W3 _)
      have H1c : Hid (∀ v ∈ [Value.int .i64 ((nt : Nat) : Int)], v.oneCell' = true) := Lib.hid fun v hv => by simp only [List.mem_cons, List.not_mem_nil, or_false] at hv; subst hv; rfl
      have hm16 : m ≤ 16384 := by
        have := HKn.out x.1 (by rw [← hB3.spec]; exact List.mem_map_of_mem (List.mem_of_getElem? hx))
        omega
      have HMx : Hid (m + 1 ≤ maxLen) := Lib.hid (by unfold maxLen; omega)
      have HBA := Lib.hid (hB3.on bA.drew)
      have HX := Lib.hid hx
      have HBl := Lib.hid (show L1.length = nt from by have := hB3.len; have := HS1.out.2.2; omega)
      have HMm := Lib.hid hm
      have HKv := Lib.hid hkv
      have HboxA := Lib.hid (show (W3.alloc (.cells #[.int .i64 ((nt : Nat) : Int)] TIn)).drew.heap[g0]? = _ from hboxA)
      have HKc := Lib.hid (hK3.trans (Keeps.below bA.drew))
      have HAt4 := Lib.hid (hAt3.on bA.drew)
      have hutn : ((u : Nat) : Int).toNat = u := by omega
      clear hB3 hbox3 hK3 hAt3 hg bA hKA hkr hkv hm hx hxl hboxA
      have hbgt : ¬ b = gt := by
        intro e
        have h1 := HBA.out.blk
        obtain ⟨g', cur', e', hg', _⟩ := tree_cells HBA.out.tree HX.out
        cases e'
        rw [e] at h1
        rw [h1] at hg'
        simp only [Option.some.injEq, Obj.cells.injEq] at hg'
        exact absurd hg'.2.1 (by decide)
      have hg0gt : ¬ g0 = gt := by
        intro e
        subst e
        exact HG0.out.2 rfl
      have hgtb : ¬ gt = b := fun e => hbgt e.symm
      have hgtg0 : ¬ gt = g0 := fun e => hg0gt e.symm
      refine wp_region_held_drew (S := fun w' => w'.cell? ⟨b, 0, none⟩ = some (.slice (some ⟨gt, 0, none⟩) nt capt) ∧ w'.cell? ⟨g0, 4, none⟩ = some (.int .i64 ((u : Nat) : Int))) (by kernel_rfl) ⟨x0, z4⟩ (fun hHeld => ?_)
      refine takeD (i := 0) (v := ?vza0) (Eq.refl _) (by kernel_rfl) (by kernel_rfl) (by kernel_rfl) (fun _ _ _ h => h) (Or.inl ⟨by rfl, ?yza0⟩) (by assumption) ?rza0
      case yza0 => (intro w' hSw; (try dsimp only at hSw); go_simp; first | done | with_reducible rfl)
      try simp only [Act.put, List.setIfInBounds_toArray, List.set_cons_zero, List.set_cons_succ]
      refine takeD (i := 1) (v := ?vza1) (Eq.refl _) (by kernel_rfl) (by kernel_rfl) (by kernel_rfl) (fun _ _ _ h => h) (Or.inl ⟨by rfl, ?yza1⟩) (by assumption) ?rza1
      case yza1 => (intro w' hSw; (try dsimp only at hSw); go_simp; first | done | with_reducible rfl)
      try simp only [Act.put, List.setIfInBounds_toArray, List.set_cons_zero, List.set_cons_succ]
      refine takeD (i := 2) (v := ?vza2) (Eq.refl _) (by kernel_rfl) (by kernel_rfl) (by kernel_rfl) (fun _ _ _ h => h) (Or.inl ⟨by rfl, ?yza2⟩) (by assumption) ?rza2
      case yza2 => (intro w' hSw; (try dsimp only at hSw); go_simp; first | done | with_reducible rfl)
      try simp only [Act.put, List.setIfInBounds_toArray, List.set_cons_zero, List.set_cons_succ]
      refine takeD (i := 3) (v := ?vza3) (Eq.refl _) (by kernel_rfl) (by kernel_rfl) (by kernel_rfl) (fun _ _ _ h => h) (Or.inl ⟨by rfl, ?yza3⟩) (by assumption) ?rza3
      case yza3 => (intro w' hSw; (try dsimp only at hSw); go_simp; first | done | with_reducible rfl)
      try simp only [Act.put, List.setIfInBounds_toArray, List.set_cons_zero, List.set_cons_succ]
      refine takeD (i := 4) (v := ?vza4) (Eq.refl _) (by kernel_rfl) (by kernel_rfl) (by kernel_rfl) (fun _ _ _ h => h) (Or.inl ⟨by rfl, ?yza4⟩) (by assumption) ?rza4
      case yza4 => (intro w' hSw; (try dsimp only at hSw); go_simp; first | done | with_reducible rfl)
      try simp only [Act.put, List.setIfInBounds_toArray, List.set_cons_zero, List.set_cons_succ]
      refine takeD (i := 5) (v := ?vza5) (Eq.refl _) (by kernel_rfl) (by kernel_rfl) (by kernel_rfl) (fun _ _ _ h => h) (Or.inl ⟨by rfl, ?yza5⟩) (by assumption) ?rza5
      case yza5 => (intro w' hSw; (try dsimp only at hSw); go_simp; first | done | with_reducible rfl)
      try simp only [Act.put, List.setIfInBounds_toArray, List.set_cons_zero, List.set_cons_succ]
      refine takeD (i := 6) (v := ?vza6) (Eq.refl _) (by kernel_rfl) (by kernel_rfl) (by kernel_rfl) (fun _ _ _ h => h) (Or.inl ⟨by rfl, ?yza6⟩) (by assumption) ?rza6
      case yza6 => (intro w' hSw; (try dsimp only at hSw); go_simp; first | done | with_reducible rfl)
      try simp only [Act.put, List.setIfInBounds_toArray, List.set_cons_zero, List.set_cons_succ]
      refine takeD (i := 7) (v := ?vza7) (Eq.refl _) (by kernel_rfl) (by kernel_rfl) (by kernel_rfl) (fun _ _ _ h => h) (Or.inl ⟨by rfl, ?yza7⟩) (by assumption) ?rza7
      case yza7 => (intro w' hSw; (try dsimp only at hSw); go_simp; first | done | with_reducible rfl)
      try simp only [Act.put, List.setIfInBounds_toArray, List.set_cons_zero, List.set_cons_succ]
      refine takeD (i := 8) (v := ?vza8) (Eq.refl _) (by kernel_rfl) (by kernel_rfl) (by kernel_rfl) (fun _ _ _ h => h) (Or.inl ⟨by rfl, ?yza8⟩) (by assumption) ?rza8
      case yza8 => (intro w' hSw; (try dsimp only at hSw); go_simp; first | done | with_reducible rfl)
      try simp only [Act.put, List.setIfInBounds_toArray, List.set_cons_zero, List.set_cons_succ]
      refine takeD (i := 9) (v := ?vza9) (Eq.refl _) (by kernel_rfl) (by kernel_rfl) (by kernel_rfl) (fun _ _ _ h => h) (Or.inl ⟨by rfl, ?yza9⟩) (by assumption) ?rza9
      case yza9 => (intro w' hSw; (try dsimp only at hSw); go_simp; first | done | with_reducible rfl)
      try simp only [Act.put, List.setIfInBounds_toArray, List.set_cons_zero, List.set_cons_succ]
      refine takeD (i := 10) (v := ?vza10) (Eq.refl _) (by kernel_rfl) (by kernel_rfl) (by kernel_rfl) (fun _ _ _ h => h) (Or.inl ⟨by rfl, ?yza10⟩) (by assumption) ?rza10
      case yza10 => (intro w' hSw; (try dsimp only at hSw); go_simp; first | done | with_reducible rfl)
      try simp only [Act.put, List.setIfInBounds_toArray, List.set_cons_zero, List.set_cons_succ]
      refine takeD (i := 11) (v := ?vza11) (Eq.refl _) (by kernel_rfl) (by kernel_rfl) (by kernel_rfl) (fun _ _ _ h => h) (Or.inl ⟨by rfl, ?yza11⟩) (by assumption) ?rza11
      case yza11 => (intro w' hSw; (try dsimp only at hSw); go_simp; first | done | with_reducible rfl)
      try simp only [Act.put, List.setIfInBounds_toArray, List.set_cons_zero, List.set_cons_succ]
      refine takeD (i := 12) (v := ?vza12) (Eq.refl _) (by kernel_rfl) (by kernel_rfl) (by kernel_rfl) (fun _ _ _ h => h) (Or.inl ⟨by rfl, ?yza12⟩) (by assumption) ?rza12
      case yza12 => (intro w' hSw; (try dsimp only at hSw); go_simp; first | done | with_reducible rfl)
      try simp only [Act.put, List.setIfInBounds_toArray, List.set_cons_zero, List.set_cons_succ]
      refine takeD (i := 13) (v := ?vza13) (Eq.refl _) (by kernel_rfl) (by kernel_rfl) (by kernel_rfl) (fun _ _ _ h => h) (Or.inl ⟨by rfl, ?yza13⟩) (by assumption) ?rza13
      case yza13 => (intro w' hSw; (try dsimp only at hSw); go_simp; first | done | with_reducible rfl)
      try simp only [Act.put, List.setIfInBounds_toArray, List.set_cons_zero, List.set_cons_succ]
      refine takeD (i := 15) (v := ?vza15) (Eq.refl _) (by kernel_rfl) (by kernel_rfl) (by kernel_rfl) (fun _ _ _ h => h) (Or.inl ⟨by rfl, ?yza15⟩) (by assumption) ?rza15
      case yza15 => (intro w' hSw; (try dsimp only at hSw); go_simp; first | done | with_reducible rfl)
      try simp only [Act.put, List.setIfInBounds_toArray, List.set_cons_zero, List.set_cons_succ]
      refine takeD (i := 16) (v := ?vza16) (Eq.refl _) (by kernel_rfl) (by kernel_rfl) (by kernel_rfl) (fun _ _ _ h => h) (Or.inl ⟨by rfl, ?yza16⟩) (by assumption) ?rza16
      case yza16 => (intro w' hSw; (try dsimp only at hSw); go_simp; first | done | with_reducible rfl)
      try simp only [Act.put, List.setIfInBounds_toArray, List.set_cons_zero, List.set_cons_succ]
      refine takeD (i := 17) (v := ?vza17) (Eq.refl _) (by kernel_rfl) (by kernel_rfl) (by kernel_rfl) (fun _ _ _ h => h) (Or.inl ⟨by rfl, ?yza17⟩) (by assumption) ?rza17
      case yza17 => (intro w' hSw; (try dsimp only at hSw); go_simp; first | done | with_reducible rfl)
      try simp only [Act.put, List.setIfInBounds_toArray, List.set_cons_zero, List.set_cons_succ]
      refine takeD (i := 18) (v := ?vza18) (Eq.refl _) (by kernel_rfl) (by kernel_rfl) (by kernel_rfl) (fun _ _ _ h => h) (Or.inl ⟨by rfl, ?yza18⟩) (by assumption) ?rza18
      case yza18 => (intro w' hSw; (try dsimp only at hSw); go_simp; first | done | with_reducible rfl)
      try simp only [Act.put, List.setIfInBounds_toArray, List.set_cons_zero, List.set_cons_succ]
      refine takeD (i := 19) (v := ?vza19) (Eq.refl _) (by kernel_rfl) (by kernel_rfl) (by kernel_rfl) (fun _ _ _ h => h) (Or.inl ⟨by rfl, ?yza19⟩) (by assumption) ?rza19
      case yza19 => (intro w' hSw; (try dsimp only at hSw); go_simp; first | done | with_reducible rfl)
      try simp only [Act.put, List.setIfInBounds_toArray, List.set_cons_zero, List.set_cons_succ]
      refine wpAnyH_ready (rs := [14, 20]) (by kernel_rfl) (by simp) (readyD (i := 14) (Eq.refl _) (fun K hK => ?bz1) (readyD (i := 20) (Eq.refl _) (fun K hK => ?bz2) AllReadyH.nil))
      case' bz1 =>
        go_simp
        refine hK.out _ _ ⟨x0, z4⟩ (fun hHeld3 => ?_)
        clear hK K
        try simp only [Act.put, List.setIfInBounds_toArray, List.set_cons_zero, List.set_cons_succ]
        refine wpAnyH_ready (rs := [20]) (by kernel_rfl) (by simp) (readyD (i := 20) (Eq.refl _) (fun K hK => ?_) AllReadyH.nil)
        go_simp
        refine hK.out _ _ ⟨p0, s4⟩ (fun hHeld4 => ?_)
        clear hK K
        try simp only [Act.put, List.setIfInBounds_toArray, List.set_cons_zero, List.set_cons_succ]
        refine wpAnyH_ready (rs := [21]) (by kernel_rfl) (by simp) (readyD (i := 21) (Eq.refl _) (fun K hK => ?_) AllReadyH.nil)
        refine step_append_lies _ rfl _ _ 36 rfl w.heap.size 3 j0 _ 1 8 Tryz.underlying36 ij0 jz0 jz1 jz2 rfl (by decide) _ m (intCells x.1.kids) rfl HKA.out ⟨W3.heap.size, 0, none⟩ 1 1 [.int .i64 ((nt : Nat) : Int)] rfl rfl (World.news_of_block HNews.out) H1c.out (by decide) HMx.out (by omega) HBA.out.below.size _ rfl ?_
        intro q qc W5 hown hgrow hq _
        obtain ⟨e1, e2, e3, e4, e5⟩ := HBA.out.kidFacts HX.out HKv.out hgrow
        obtain ⟨⟨v0, v1, v2, v3⟩, w0, w1, w2, w3⟩ := local4 e1
        have hb5 := e4 _ _ _ HboxA.out
        obtain ⟨⟨t0, t1, t2, t3, t4, t5⟩, tf⟩ := local6 hb5
        have HOwn := Lib.hid hown
        have HGrow := Lib.hid hgrow
        have HQ := Lib.hid hq
        have Hb5 := Lib.hid hb5
        have HK5 := Lib.hid e5
        clear hown hgrow hq e1 e4 e5 hb5
        refine hK.out _ _ ⟨v0, t4⟩ (fun hHeld5 => ?_)
        clear hK K
        try simp only [Act.put, List.setIfInBounds_toArray, List.set_cons_zero, List.set_cons_succ]
        refine takeD (i := 22) (v := ?vzb22) (Eq.refl _) (by kernel_rfl) (by kernel_rfl) (by kernel_rfl) (fun _ _ _ h => h) (Or.inl ⟨by rfl, ?yzb22⟩) (by assumption) ?rzb22
        case yzb22 => (intro w' hSw; (try dsimp only at hSw); go_simp; first | done | with_reducible rfl)
        try simp only [Act.put, List.setIfInBounds_toArray, List.set_cons_zero, List.set_cons_succ]
        refine takeD (i := 23) (v := ?vzb23) (Eq.refl _) (by kernel_rfl) (by kernel_rfl) (by kernel_rfl) (fun _ _ _ h => h) (Or.inl ⟨by rfl, ?yzb23⟩) (by assumption) ?rzb23
        case yzb23 => (intro w' hSw; (try dsimp only at hSw); go_simp; first | done | with_reducible rfl)
        try simp only [Act.put, List.setIfInBounds_toArray, List.set_cons_zero, List.set_cons_succ]
        refine wpAnyH_ready (rs := [24]) (by kernel_rfl) (by simp) (readyD (i := 24) (Eq.refl _) (fun K hK => ?_) AllReadyH.nil)
        go_simp
        refine hK.out _ _ (by go_keep) (fun hHeld6 => ?_)
        clear hK K
        try simp only [Act.put, List.setIfInBounds_toArray, List.set_cons_zero, List.set_cons_succ]
        refine wpAnyH_done (by kernel_rfl) ?_ _
      case' bz2 =>
        go_simp
        refine hK.out _ _ ⟨p0, s4⟩ (fun hHeld3 => ?_)
        clear hK K
        try simp only [Act.put, List.setIfInBounds_toArray, List.set_cons_zero, List.set_cons_succ]
        refine wpAnyH_ready (rs := [14]) (by kernel_rfl) (by simp) (readyD (i := 14) (Eq.refl _) (fun K hK => ?_) AllReadyH.nil)
        go_simp
        refine hK.out _ _ ⟨p0, s4⟩ (fun hHeld4 => ?_)
        clear hK K
        try simp only [Act.put, List.setIfInBounds_toArray, List.set_cons_zero, List.set_cons_succ]
        refine wpAnyH_ready (rs := [21]) (by kernel_rfl) (by simp) (readyD (i := 21) (Eq.refl _) (fun K hK => ?_) AllReadyH.nil)
        refine step_append_lies _ rfl _ _ 36 rfl w.heap.size 3 j0 _ 1 8 Tryz.underlying36 ij0 jz0 jz1 jz2 rfl (by decide) _ m (intCells x.1.kids) rfl HKA.out ⟨W3.heap.size, 0, none⟩ 1 1 [.int .i64 ((nt : Nat) : Int)] rfl rfl (World.news_of_block HNews.out) H1c.out (by decide) HMx.out (by omega) HBA.out.below.size _ rfl ?_
        intro q qc W5 hown hgrow hq _
        obtain ⟨e1, e2, e3, e4, e5⟩ := HBA.out.kidFacts HX.out HKv.out hgrow
        obtain ⟨⟨v0, v1, v2, v3⟩, w0, w1, w2, w3⟩ := local4 e1
        have hb5 := e4 _ _ _ HboxA.out
        obtain ⟨⟨t0, t1, t2, t3, t4, t5⟩, tf⟩ := local6 hb5
        have HOwn := Lib.hid hown
        have HGrow := Lib.hid hgrow
        have HQ := Lib.hid hq
        have Hb5 := Lib.hid hb5
        have HK5 := Lib.hid e5
        clear hown hgrow hq e1 e4 e5 hb5
        refine hK.out _ _ ⟨v0, t4⟩ (fun hHeld5 => ?_)
        clear hK K
        try simp only [Act.put, List.setIfInBounds_toArray, List.set_cons_zero, List.set_cons_succ]
        refine takeD (i := 22) (v := ?vzc22) (Eq.refl _) (by kernel_rfl) (by kernel_rfl) (by kernel_rfl) (fun _ _ _ h => h) (Or.inl ⟨by rfl, ?yzc22⟩) (by assumption) ?rzc22
        case yzc22 => (intro w' hSw; (try dsimp only at hSw); go_simp; first | done | with_reducible rfl)
        try simp only [Act.put, List.setIfInBounds_toArray, List.set_cons_zero, List.set_cons_succ]
        refine takeD (i := 23) (v := ?vzc23) (Eq.refl _) (by kernel_rfl) (by kernel_rfl) (by kernel_rfl) (fun _ _ _ h => h) (Or.inl ⟨by rfl, ?yzc23⟩) (by assumption) ?rzc23
        case yzc23 => (intro w' hSw; (try dsimp only at hSw); go_simp; first | done | with_reducible rfl)
        try simp only [Act.put, List.setIfInBounds_toArray, List.set_cons_zero, List.set_cons_succ]
        refine wpAnyH_ready (rs := [24]) (by kernel_rfl) (by simp) (readyD (i := 24) (Eq.refl _) (fun K hK => ?_) AllReadyH.nil)
        go_simp
        refine hK.out _ _ (by go_keep) (fun hHeld6 => ?_)
        clear hK K
        try simp only [Act.put, List.setIfInBounds_toArray, List.set_cons_zero, List.set_cons_succ]
        refine wpAnyH_done (by kernel_rfl) ?_ _
      all_goals
        obtain ⟨g', cur', e', hgt, _⟩ := tree_cells HBA.out.tree HX.out
        cases e'
        have hgt5 := (show W5.heap[gt]? = _ from by
          obtain ⟨_, _, _, e4, _⟩ := HBA.out.kidFacts HX.out HKv.out HGrow.out
          exact e4 _ _ _ hgt)
        have hB6 := HBA.out.kid HX.out HMm.out (by rw [HKv.out]; exact HGrow.out) HOwn.out (by rw [HKv.out]; exact HQ.out)
        have hbox6 : (W5.setCell ⟨gt, u * 6 + 5, none⟩ (.slice (some ⟨q, 0, none⟩) (m + 1) qc)).heap[g0]? = some (.cells #[.int .u8 ((k : Nat) : Int), .string nm, .slice ao2 m2 c2, .string ⟨#[]⟩, .int .i64 ((u : Nat) : Int), .slice none 0 0] TNd (0, 0)) := by rw [heap_setCell_other _ _ _ _ (by exact hg0gt)]; exact Hb5.out
        have hKs : Keeps W5 (W5.setCell ⟨gt, u * 6 + 5, none⟩ (.slice (some ⟨q, 0, none⟩) (m + 1) qc)) := Keeps.set (i := u * 6 + 5) hgt5 (.inr rfl) _
        have hK6 := HKc.out.trans (HK5.out.trans hKs)
        have hAt6 := (HAt4.out.keeps HK5.out).keeps hKs
        have hTag : (Value.slice (some ⟨gt, 0, none⟩) nt capt).ownBlock ≠ some g0 := HG0.out.2
        clear hgt5 hKs hgt HAt4 HKc HBA HboxA HNews HKA HK5 HGrow HQ HOwn Hb5 H1c
        generalize W5.setCell ⟨gt, u * 6 + 5, none⟩ (.slice (some ⟨q, 0, none⟩) (m + 1) qc) = W6 at *
        clear x0 x1 x2 x3 y0 y1 y2 y3 z0 z1 z2 z3 z4 z5 zf p0 p1 p2 p3 s4 c5A c5 c0 c1 c2' c3 c4 f3 f5
        obtain ⟨L6, hL6⟩ : ∃ L6, L1.set u ({ x.1 with kids := x.1.kids ++ [nt] }, (x.2.1, .slice (some ⟨q, 0, none⟩) (m + 1) qc)) = L6 := ⟨_, rfl⟩
        have hl6 : L6.length = nt := by rw [← hL6, List.length_set]; exact HBl.out
        rw [hL6] at hB6
        have HL6 := Lib.hid hl6
        clear hL6 hl6
        obtain ⟨⟨x0, x1, x2, x3⟩, y0, y1, y2, y3⟩ := local4 hB6.blk
        obtain ⟨⟨z0, z1, z2, z3, z4, z5⟩, zf⟩ := local6 hbox6
        have bN : Below W6.heap.size W6 (W6.alloc (.cells #[.int .u8 ((k : Nat) : Int), .string nm, .slice ao2 m2 c2, .string ⟨#[]⟩, .int .i64 ((u : Nat) : Int), .slice none 0 0] TNd)) := (Below.refl _ _).alloc (Nat.le_refl _) _
        obtain ⟨⟨p0, p1, p2, p3⟩, q0, q1, q2, q3⟩ := local4 (hB6.on bN).blk
        have hboxN := (bN.block _ (Array.getElem?_eq_some_iff.1 hbox6).1).trans hbox6
        obtain ⟨⟨s0, s1', s2, s3, s4, s5⟩, sf⟩ := local6 hboxN
        have HG := Lib.hid (hB6.on bN.drew)
        have HNews : Hid ((W6.alloc (.cells #[.int .u8 ((k : Nat) : Int), .string nm, .slice ao2 m2 c2, .string ⟨#[]⟩, .int .i64 ((u : Nat) : Int), .slice none 0 0] TNd)).drew.heap[W6.heap.size]? = some (.cells #[.int .u8 ((k : Nat) : Int), .string nm, .slice ao2 m2 c2, .string ⟨#[]⟩, .int .i64 ((u : Nat) : Int), .slice none 0 0] TNd (0, 0))) := Lib.hid (heap_alloc_new W6 _)
        have H1c : Hid (∀ v ∈ [Value.int .u8 ((k : Nat) : Int), .string nm, .slice ao2 m2 c2, .string ⟨#[]⟩, .int .i64 ((u : Nat) : Int), .slice none 0 0], v.oneCell' = true) := Lib.hid fun v hv => by
          simp only [List.mem_cons, List.not_mem_nil, or_false] at hv
          rcases hv with rfl | rfl | rfl | rfl | rfl | rfl <;> rfl
        have HMx2 : Hid (nt + 1 ≤ maxLen) := Lib.hid (by unfold maxLen; omega)
        have HNd := Lib.hid (show (W6.alloc (.cells #[.int .u8 ((k : Nat) : Int), .string nm, .slice ao2 m2 c2, .string ⟨#[]⟩, .int .i64 ((u : Nat) : Int), .slice none 0 0] TNd)).drew.ownsRow w.heap.size TNd 6 (.slice (some ⟨gt, 0, none⟩) nt capt) nt (ndCells L6) from by have := HG.out.tree.row; rw [HL6.out] at this; exact this)
        have HAt := Lib.hid (hAt6.on bN.drew)
        have HK := Lib.hid (hK6.trans (Keeps.below bN.drew))
        clear hB6 hbox6 hboxN bN hAt6 hK6
        go_big_wp2
        go_region_law (refine step_append_lies _ rfl _ _ 28 rfl w.heap.size 38 i0 _ 6 96 Tryz.underlying28 hi0 hz0 hz1 hz2 rfl (by decide) _ nt (ndCells L6) rfl HNd.out ⟨W6.heap.size, 0, none⟩ 1 1 [.int .u8 ((k : Nat) : Int), .string nm, .slice ao2 m2 c2, .string ⟨#[]⟩, .int .i64 ((u : Nat) : Int), .slice none 0 0] rfl rfl (World.news_of_block HNews.out) H1c.out (by decide) HMx2.out (by omega) HG.out.below.size _ rfl ?_; intro q2 qc2 W7 hown hgrow _ _; obtain ⟨e1, e2⟩ := HG.out.nodeFacts hgrow; obtain ⟨⟨u0, u1, u2, u3⟩, v0, v1, v2, v3⟩ := local4 e1; have HOwn := Lib.hid hown; have HGr := Lib.hid hgrow; have HE1 := Lib.hid e1; have HE2 := Lib.hid e2; clear hown hgrow e1 e2)
        all_goals
          have hN := HG.out.node (x := (⟨k, bl nm, ats, [], ((u : Nat) : Int), []⟩, (.slice ao2 m2 c2, .slice none 0 0))) HAt.out rfl rfl HGr.out (by rw [HL6.out]; exact HOwn.out)
          have e0 : (o :: r).length = no := by rw [HOl.out]; rfl
          rw [HS1.out.1, HS1.out.2.1, ← e0] at hN
          have HN := Lib.hid hN
          have hKe := (HK.out.trans HE2.out).trans (Keeps.set (i := 0) HE1.out (.inl rfl) (.slice (some ⟨q2, 0, none⟩) (nt + 1) qc2))
          have HKe := Lib.hid hKe
          clear hN hKe e0
          go_big_wp2
          go_ret
          exact ⟨rfl, HKe.out, _, aoo, capo, _, _, _, HN.out⟩
end Go.Proofs.YtkfmfldkllkcbaaGreatDoor
namespace Go.Proofs.YtkfmfldkllkcbaaGreatDoor
open Go.RowKit Go.RunKit Go.CharrefKit Go.Lib Go.TokenKit Go.TreeKit

set_option maxRecDepth 100000 in
set_option maxHeartbeats 4000000 in
theorem atText_any (w : World) (b : Nat) (tv ov pa bv : Value) (s : BS) (L : List NdV) (W : World) (hwf : WF s) (h200 : s.o.length ≤ 65536) (h : BAt w b tv ov pa bv s L W) :
    Calls Tryz.prog 101 #[.pointer (some ⟨b, 0, none⟩)] W fun e w' => e = .returned (.bool (atTextL s)) ∧ Below W.heap.size W w' := by
  obtain ⟨aoo, capo, hov⟩ := sliceOf h.opens
  subst hov
  have hLl := h.len
  have hpos := hwf.pos
  have hfew := hwf.few
  obtain ⟨k, hk⟩ : ∃ k, L.length = k + 1 := ⟨L.length - 1, by omega⟩
  obtain ⟨x, hx⟩ : ∃ x, L[k]? = some x := ⟨L[k]'(by omega), by simp [show k < L.length by omega]⟩
  obtain ⟨ao, cap, htv⟩ := sliceOf h.tree.row
  subst htv
  obtain ⟨g, cur, rfl, hg, hbg, ⟨c0, c1, c2, c3, c4, c5⟩, f3, f5⟩ := tree_cells h.tree hx
  obtain ⟨a2, n2, hv2⟩ := sliceOf (h.tree.attrs x (List.mem_of_getElem? hx))
  obtain ⟨a5, n5, hv5⟩ := sliceOf (h.tree.kids x (List.mem_of_getElem? hx))
  obtain ⟨m2, hm2⟩ : ∃ m2, x.1.attrs.length = m2 := ⟨_, rfl⟩
  obtain ⟨m5, hm5⟩ : ∃ m5, x.1.kids.length = m5 := ⟨_, rfl⟩
  rw [hv2, hm2] at c2
  rw [hv5, hm5] at c5
  have hlast : s.t.getLast? = some x.1 := by
    rw [← h.spec, List.getLast?_map, List.getLast?_eq_getElem?, hk, Nat.add_sub_cancel, hx]; rfl
  obtain ⟨⟨x0, x1, x2, x3⟩, y0, y1, y2, y3⟩ := local4 h.blk
  cases hso : s.o with
  | nil => exact absurd hso hwf.ne
  | cons o r =>
    have hat : atTextL s = (x.1.kind == 2 && x.1.up == ((o.node : Nat) : Int)) := by
      unfold atTextL; rw [hlast, hso]; rfl
    rw [hat]
    obtain ⟨no, hno⟩ : ∃ no, s.o.length = no := ⟨_, rfl⟩
    rw [hno] at x1
    have hol : no = r.length + 1 := by rw [← hno, hso]; rfl
    have HT := Lib.hid fun W1 (hb : Below W.heap.size W W1) => top_any aoo capo no w.heap.size o r W1 hol (by omega) (by have := own_on h.opens hb; rw [hno, hso] at this; exact this)
    rw [hk] at x0
    have hkI : ((k + 1 : Nat) : Int) - 1 = (k : Int) := by omega
    have hkw : IntKind.i64.wrap (k : Int) = (k : Int) := IntWalk.i64_in _ (by omega)
    have hkl : (k : Int) < (k : Int) + 1 := by omega
    have hk0 : (0 : Int) ≤ (k : Int) := by omega
    have hf := field0 ((o.node : Nat) : Int) ⟨o.name.toArray⟩ ((o.kind : Nat) : Int)
    obtain ⟨kd, hkd⟩ : ∃ kd, x.1.kind = kd := ⟨_, rfl⟩
    obtain ⟨up, hup⟩ : ∃ up, x.1.up = up := ⟨_, rfl⟩
    rw [hkd] at c0 ⊢
    rw [hup] at c4 ⊢
    have hgl := World.block_lt_of_cell? _ _ c0
    have hbl := World.block_lt_of_cell? _ _ x0
    have hn1 : ¬ W.heap.size = b := by have : b < W.heap.size := hbl; omega
    have hn2 : ¬ W.heap.size = g := by have : g < W.heap.size := hgl; omega
    by_cases h2 : kd = 2
    · subst h2
      rw [show ((2 : Nat) == 2 && up == ((o.node : Nat) : Int)) = decide (up = ((o.node : Nat) : Int)) by rw [Bool.eq_iff_iff]; simp]
      clear h hwf h200 hat hlast hso hno hol hkd hup hm2 hm5 hv2 hv5 hx hk hLl hpos hfew
      go_enter Tryz.func101, Tryz.ntmps101
      go_big_wp2
      go_region_held3 (fun w' => w'.cell? ⟨b, 0, none⟩ = some (.slice (some ⟨g, 0, none⟩) (k + 1) cap) ∧ w'.cell? ⟨g, k * 6, none⟩ = some (.int .u8 ((2 : Nat) : Int)) ∧ w'.cell? ⟨g, k * 6 + 1, none⟩ = some (.string ⟨x.1.name.toArray⟩) ∧ w'.cell? ⟨g, k * 6 + 2, none⟩ = some (.slice a2 m2 n2) ∧ w'.cell? ⟨g, k * 6 + 3, none⟩ = some (.string ⟨x.1.data.toArray⟩) ∧ w'.cell? ⟨g, k * 6 + 4, none⟩ = some (.int .i64 up) ∧ w'.cell? ⟨g, k * 6 + 5, none⟩ = some (.slice a5 m5 n5))
        (first | exact ⟨x0, c0, c1, c2, c3, c4, c5⟩ | go_keep) (fail)
      have b1 : Below W.heap.size W (W.alloc (.cells #[.int .u8 ((2 : Nat) : Int), .string ⟨x.1.name.toArray⟩, .slice a2 m2 n2, .string ⟨x.1.data.toArray⟩, .int .i64 up, .slice a5 m5 n5] TNd)).drew := ((Below.refl _ _).alloc (Nat.le_refl _) _).drew
      have hnew : (W.alloc (.cells #[.int .u8 ((2 : Nat) : Int), .string ⟨x.1.name.toArray⟩, .slice a2 m2 n2, .string ⟨x.1.data.toArray⟩, .int .i64 up, .slice a5 m5 n5] TNd)).drew.heap[W.heap.size]? = some (.cells #[.int .u8 ((2 : Nat) : Int), .string ⟨x.1.name.toArray⟩, .slice a2 m2 n2, .string ⟨x.1.data.toArray⟩, .int .i64 up, .slice a5 m5 n5] TNd (0, 0)) := heap_alloc_new W _
      obtain ⟨⟨z0, z1, z2, z3, z4, z5⟩, zf⟩ := local6 hnew
      have x1n := (b1.cell (p := ⟨b, 1, none⟩) hbl).trans x1
      have HB1 := Lib.hid b1
      have HNew := Lib.hid hnew
      clear x0 x1 x2 x3 y0 y1 y2 y3 c0 c1 c2 c3 c4 c5 f3 f5 hn1 hn2 hg b1 hnew
      generalize (W.alloc (.cells #[.int .u8 ((2 : Nat) : Int), .string ⟨x.1.name.toArray⟩, .slice a2 m2 n2, .string ⟨x.1.data.toArray⟩, .int .i64 up, .slice a5 m5 n5] TNd)).drew = W1 at *
      obtain ⟨B, hB⟩ : ∃ B, W.heap.size = B := ⟨_, rfl⟩
      rw [hB] at z0 z1 z2 z3 z4 z5 zf ⊢
      have HHB := Lib.hid hB
      clear hB
      go_big_wp2
      go_region_law (go_simp; go_at_call 125; refine (HT.out _ HB1.out.drew).mono ?_; rintro e w2 ⟨rfl, hb2⟩; have v4 := (hb2.cell (p := ⟨B, 4, none⟩) (World.block_lt_of_cell? _ _ z4)).trans z4; have HB2 := Lib.hid hb2; clear hb2)
      all_goals
        go_big_wp2
        go_ret
        exact ⟨rfl, HB1.out.drew.trans (HB2.out.mono HB1.out.size)⟩
    · have h2I : (((kd : Nat) : Int) = 2) = False := eq_false (by omega)
      have h2D : decide (((kd : Nat) : Int) = 2) = false := decide_eq_false (by omega)
      have h2B : (((kd : Nat) : Int) == 2) = false := by rw [beq_eq_false_iff_ne]; omega
      rw [show (kd == 2) = false by simp [h2], Bool.false_and]
      clear h hwf h200 hat hlast hso hno hol hkd hup hm2 hm5 hv2 hv5 hx hk hLl hpos hfew HT
      go_enter Tryz.func101, Tryz.ntmps101
      go_big_wp2
      go_region_held3 (fun w' => w'.cell? ⟨b, 0, none⟩ = some (.slice (some ⟨g, 0, none⟩) (k + 1) cap) ∧ w'.cell? ⟨g, k * 6, none⟩ = some (.int .u8 ((kd : Nat) : Int)) ∧ w'.cell? ⟨g, k * 6 + 1, none⟩ = some (.string ⟨x.1.name.toArray⟩) ∧ w'.cell? ⟨g, k * 6 + 2, none⟩ = some (.slice a2 m2 n2) ∧ w'.cell? ⟨g, k * 6 + 3, none⟩ = some (.string ⟨x.1.data.toArray⟩) ∧ w'.cell? ⟨g, k * 6 + 4, none⟩ = some (.int .i64 up) ∧ w'.cell? ⟨g, k * 6 + 5, none⟩ = some (.slice a5 m5 n5))
        (first | exact ⟨x0, c0, c1, c2, c3, c4, c5⟩ | go_keep) (fail)
      have b1 : Below W.heap.size W (W.alloc (.cells #[.int .u8 ((kd : Nat) : Int), .string ⟨x.1.name.toArray⟩, .slice a2 m2 n2, .string ⟨x.1.data.toArray⟩, .int .i64 up, .slice a5 m5 n5] TNd)).drew := ((Below.refl _ _).alloc (Nat.le_refl _) _).drew
      have hnew : (W.alloc (.cells #[.int .u8 ((kd : Nat) : Int), .string ⟨x.1.name.toArray⟩, .slice a2 m2 n2, .string ⟨x.1.data.toArray⟩, .int .i64 up, .slice a5 m5 n5] TNd)).drew.heap[W.heap.size]? = some (.cells #[.int .u8 ((kd : Nat) : Int), .string ⟨x.1.name.toArray⟩, .slice a2 m2 n2, .string ⟨x.1.data.toArray⟩, .int .i64 up, .slice a5 m5 n5] TNd (0, 0)) := heap_alloc_new W _
      obtain ⟨⟨z0, z1, z2, z3, z4, z5⟩, zf⟩ := local6 hnew
      have x1n := (b1.cell (p := ⟨b, 1, none⟩) hbl).trans x1
      have HB1 := Lib.hid b1
      have HNew := Lib.hid hnew
      clear x0 x1 x2 x3 y0 y1 y2 y3 c0 c1 c2 c3 c4 c5 f3 f5 hn1 hn2 hg b1 hnew
      generalize (W.alloc (.cells #[.int .u8 ((kd : Nat) : Int), .string ⟨x.1.name.toArray⟩, .slice a2 m2 n2, .string ⟨x.1.data.toArray⟩, .int .i64 up, .slice a5 m5 n5] TNd)).drew = W1 at *
      obtain ⟨B, hB⟩ : ∃ B, W.heap.size = B := ⟨_, rfl⟩
      rw [hB] at z0 z1 z2 z3 z4 z5 zf ⊢
      have HHB := Lib.hid hB
      clear hB
      go_big_wp2
      go_quiet (fail)
      go_big_wp2
      go_ret
      exact ⟨rfl, below_drewN HB1.out _⟩
end Go.Proofs.YtkfmfldkllkcbaaGreatDoor
namespace Go.Proofs.YtkfmfldkllkcbaaGreatDoor
open Go.RowKit Go.RunKit Go.CharrefKit Go.Lib Go.TokenKit Go.TreeKit

set_option maxRecDepth 100000 in
set_option maxHeartbeats 4000000 in
theorem text_any (w : World) (b : Nat) (d : ByteArray) (tv ov pa bv : Value) (s : BS) (L : List NdV) (W : World) (hwf : WF s) (h200 : s.o.length ≤ 65536) (hlen : s.ws.length + d.size ≤ 70368744177664) (h : BAt w b tv ov pa bv s L W) :
    Calls Tryz.prog 69 #[.pointer (some ⟨b, 0, none⟩), .string d] W (ToldB (textL s (bl d)) w b W) := by
  obtain ⟨aoo, capo, hov⟩ := sliceOf h.opens
  subst hov
  by_cases hd : bl d = []
  · have hde : d = ⟨#[]⟩ := bl_eq (by rw [hd]; rfl)
    subst hde
    have ht : textL s (bl ⟨#[]⟩) = .ok s := by unfold textL; rw [if_pos hd]
    rw [ht]
    have HB := Lib.hid h
    clear h hwf h200 hlen hd ht
    go_enter Tryz.func69, Tryz.ntmps69
    go_big_wp2
    go_ret
    exact ⟨rfl, Keeps.refl _, _, _, _, _, _, _, HB.out⟩
  · have hq : d.toList.isEmpty = false := by rw [Lib.toList_data]; cases hc : bl d with | nil => exact absurd hc hd | cons a l => rw [show d.data.toList = a :: l from hc]; rfl
    have hq2 : ¬ d = ⟨#[]⟩ := fun e => hd (by rw [e]; rfl)
    have HA := Lib.hid (atText_any w b _ _ _ _ s L W hwf h200 h)
    cases hat : atTextL s with
    | true =>
      have ht : textL s (bl d) = .ok ⟨s.t, s.o, s.ws ++ bl d⟩ := by unfold textL; rw [if_neg hd, if_pos hat]
      rw [ht]
      rw [hat] at HA
      have HW := Lib.hid fun W1 (hb : Below W.heap.size W W1) => wwrite_any w b d _ _ _ _ s L W1 hd hlen (h.on hb)
      have HS := Lib.hid (show (⟨s.t, s.o, s.ws ++ bl d⟩ : BS).o.length = s.o.length from rfl)
      clear h hwf h200 hlen hd ht hat
      go_enter Tryz.func69, Tryz.ntmps69
      go_big_wp2_with (first
        | (go_at_call 101; refine HA.out.mono ?_; rintro e w1 ⟨rfl, hb1⟩; have HB1 := Lib.hid hb1; clear hb1)
        | (go_at_call 98; refine (HW.out _ HB1.out).mono ?_; rintro e w2 ⟨rfl, hk2, pa2, bv2, hB2⟩; have HK2 := Lib.hid ((Keeps.below HB1.out).trans hk2); have HB2 := Lib.hid hB2; clear hk2 hB2))
      go_ret
      exact ⟨rfl, HK2.out, _, _, _, _, _, _, HB2.out⟩
    | false =>
      rw [hat] at HA
      have hrow : ∀ W1 : World, AtRow W1 w.heap.size (.slice none 0 0) [] := fun W1 => World.ownsRow_nil _ _ _ _
      have HD := Lib.hid fun W1 (hb : Below W.heap.size W W1) => add_any w b 2 ⟨#[]⟩ none 0 0 [] _ _ _ _ s L W1 hwf h200 (hrow W1) (h.on hb)
      by_cases hbig : 16384 ≤ s.t.length
      · have ha : addL s textNd = .error 3 := by unfold addL; rw [if_pos hbig]
        have ht : textL s (bl d) = .error 3 := by unfold textL; rw [if_neg hd, if_neg (by rw [hat]; decide), ha]
        rw [ht]
        have ha2 : addL s ⟨2, bl ⟨#[]⟩, [], [], 0, []⟩ = .error 3 := ha
        rw [ha2] at HD
        clear h hwf h200 hlen hd ht hat ha ha2 hrow hbig
        go_enter Tryz.func69, Tryz.ntmps69
        go_big_wp2_with (first
          | (go_at_call 101; refine HA.out.mono ?_; rintro e w1 ⟨rfl, hb1⟩; have HB1 := Lib.hid hb1; clear hb1)
          | (go_at_call 102; refine (HD.out _ HB1.out).mono ?_; rintro e w2 ⟨rfl, hb2⟩; have HB2 := Lib.hid hb2; clear hb2))
        go_ret
        exact ⟨rfl, HB2.out⟩
      · obtain ⟨s2, ha⟩ : ∃ s2, addL s textNd = .ok s2 := ⟨_, by unfold addL; rw [if_neg hbig]⟩
        have ht : textL s (bl d) = .ok ⟨s2.t, s2.o, s2.ws ++ bl d⟩ := by unfold textL; rw [if_neg hd, if_neg (by rw [hat]; decide), ha]
        rw [ht]
        have hws : s2.ws = [] := by
          unfold addL at ha
          rw [if_neg hbig] at ha
          cases ha; rfl
        have ha2 : addL s ⟨2, bl ⟨#[]⟩, [], [], 0, []⟩ = .ok s2 := ha
        rw [ha2] at HD
        have HW := Lib.hid fun (tv2 : Value) (ao2 : Option Addr) (cap2 : Nat) (pa2 bv2 : Value) (L2 : List NdV) (W1 : World) (hB : BAt w b tv2 (.slice ao2 s2.o.length cap2) pa2 bv2 s2 L2 W1) => wwrite_any w b d _ _ _ _ s2 L2 W1 hd (by rw [hws]; simp only [List.length_nil]; omega) hB
        clear h hwf h200 hlen hd ht hat ha ha2 hrow hbig hws
        go_enter Tryz.func69, Tryz.ntmps69
        go_big_wp2_with (first
          | (go_at_call 101; refine HA.out.mono ?_; rintro e w1 ⟨rfl, hb1⟩; have HB1 := Lib.hid hb1; clear hb1)
          | (go_at_call 102; refine (HD.out _ HB1.out).mono ?_; rintro e w2 ⟨rfl, hk2, tv2, ao2, cap2, pa2, bv2, L2, hB2⟩; have HK2 := Lib.hid ((Keeps.below HB1.out).trans hk2); have HB2 := Lib.hid hB2; clear hk2 hB2)
          | (go_at_call 98; refine (HW.out _ _ _ _ _ _ _ HB2.out).mono ?_; rintro e w3 ⟨rfl, hk3, pa3, bv3, hB3⟩; have HK3 := Lib.hid (HK2.out.trans hk3); have HB3 := Lib.hid hB3; clear hk3 hB3))
        go_ret
        exact ⟨rfl, HK3.out, _, _, _, _, _, _, HB3.out⟩
end Go.Proofs.YtkfmfldkllkcbaaGreatDoor
namespace Go.Proofs.YtkfmfldkllkcbaaGreatDoor
open Go.RowKit Go.RunKit Go.CharrefKit Go.Lib Go.TokenKit Go.TreeKit

/-- What is held at the loop's head: k attributes cloned. -/
structure CloneAt (w : World) (l : List At) (k : Nat) (v : Value) (wr : World) : Prop where
  below : Below w.heap.size w wr
  row : AtRow wr w.heap.size v (l.take k)

set_option maxRecDepth 100000 in
set_option maxHeartbeats 4000000 in
theorem cloneAttrs_any (l : List At) (ao : Option Addr) (cap n : Nat) (w : World) (hn : l.length = n) (hn32 : n ≤ 4294967296) (hsz : ∀ a, a ∈ l → a.1.length ≤ 70368744177664 ∧ a.2.length ≤ 70368744177664) (h : AtReads w ao l) :
    Calls Tryz.prog 136 #[.slice ao n cap] w fun e w' => ∃ ao2 cap2, e = .returned (.slice ao2 n cap2) ∧ Below w.heap.size w w' ∧ AtRow w' w.heap.size (.slice ao2 n cap2) l := by
  have HR := Lib.hid h
  have HN := Lib.hid hn
  have HZ := Lib.hid hsz
  obtain ⟨i0, hi0, hz0, hz1, hz2⟩ := info_parts Tryz.infoAttr
  have T0 : Hid (CloneAt w l 0 (.slice none 0 0) w) := Lib.hid ⟨Below.refl _ _, World.ownsRow_nil _ _ _ _⟩
  clear h hn hsz
  go_enter Tryz.func136, Tryz.ntmps136
  go_big_wp2
  go_loopw [3, 8] (fun v i wr => ∃ (k : Nat) (ao2 : Option Addr) (cap2 : Nat), v = .slice ao2 k cap2 ∧ i = .int .i64 (k : Nat) ∧ k ≤ n ∧ Hid (CloneAt w l k (.slice ao2 k cap2) wr)) (fun _ i _ => n - (RowKit.intOf i).toNat)
  case atStart => exact ⟨0, none, 0, rfl, rfl, Nat.zero_le _, T0⟩
  case round =>
    clear T0
    obtain ⟨k, ao2, cap2, rfl, rfl, hkn, HT⟩ := hrel
    by_cases hlt : k < n
    · have hltI : (k : Int) < n := by omega
      have hk0 : (0 : Int) ≤ k := by omega
      obtain ⟨a, ha⟩ : ∃ a, l[k]? = some a := ⟨l[k]'(by rw [HN.out]; exact hlt), by simp [show k < l.length by rw [HN.out]; exact hlt]⟩
      obtain ⟨g, hg, c0, c1⟩ := (HR.out.on HT.out.below).at_ k a ha
      subst hg
      obtain ⟨hs1, hs2⟩ := HZ.out a (List.mem_of_getElem? ha)
      obtain ⟨an, han⟩ : ∃ an : ByteArray, (⟨a.1.toArray⟩ : ByteArray) = an := ⟨_, rfl⟩
      obtain ⟨av, hav⟩ : ∃ av : ByteArray, (⟨a.2.toArray⟩ : ByteArray) = av := ⟨_, rfl⟩
      rw [han] at c0
      rw [hav] at c1
      have HCn := Lib.hid fun W => clone_any an W (by rw [← han, ← bl_length, bl_of]; omega)
      have HCv := Lib.hid fun W => clone_any av W (by rw [← hav, ← bl_length, bl_of]; omega)
      have htk : l.take (k + 1) = l.take k ++ [(bl an, bl av)] := by
        rw [List.take_add_one, ha, ← han, ← hav, bl_of, bl_of]; rfl
      have HTk := Lib.hid htk
      have htl : (l.take k).length = k := by rw [List.length_take, HN.out]; omega
      have hrow := HT.out.row
      unfold AtRow at hrow
      rw [htl] at hrow
      have HRow := Lib.hid hrow
      clear han hav ha htk hrow hs1 hs2 htl
      go_big_wp2
      have b1 : Below wr.heap.size wr (wr.alloc (.cells #[.string an, .string av] TAt)) := (Below.refl _ _).alloc (Nat.le_refl _) _
      have hnew : (wr.alloc (.cells #[.string an, .string av] TAt)).heap[wr.heap.size]? = some (.cells #[.string an, .string av] TAt (0, 0)) := heap_alloc_new wr _
      have hps : wr.heap.size < (wr.alloc (.cells #[.string an, .string av] TAt)).heap.size := by simp
      have hpne : (Value.slice ao2 k cap2).ownBlock ≠ some wr.heap.size := fun e => by have := (World.ownsRow.lt HRow.out _ e).2; omega
      obtain ⟨z0, z1, _, _⟩ := local2 hnew
      have HB1 := Lib.hid b1
      have HNw := Lib.hid hnew
      have HNe := Lib.hid hpne
      have HPs := Lib.hid hps
      clear c0 c1 b1 hnew hps hpne
      generalize wr.alloc (.cells #[.string an, .string av] TAt) = W1 at *
      obtain ⟨p, hp⟩ : ∃ p, wr.heap.size = p := ⟨_, rfl⟩
      have HP := Lib.hid hp
      rw [hp] at z0 z1 HNw HNe HPs ⊢
      clear hp
      go_region_held3 (fun w' => w'.cell? ⟨p, 0, none⟩ = some (.string an) ∧ w'.cell? ⟨p, 1, none⟩ = some (.string av))
        (first | exact ⟨z0, z1⟩ | exact ⟨s0, s1⟩ | exact ⟨r0, r1⟩ | exact ⟨q0, q1⟩ | exact ⟨v0, v1⟩)
        (first
          | (go_at_call_of 135 (Value.string an); refine (HCn.out _).mono ?_; rintro e w3 ⟨rfl, hb3⟩; have hn3 := (hb3.block p HPs.out).trans HNw.out; obtain ⟨s0, s1, _, _⟩ := local2 hn3; have HN3 := Lib.hid hn3; have HB3 := Lib.hid hb3; clear hb3 hn3 HCn)
          | (go_at_call_of 135 (Value.string av); refine (HCv.out _).mono ?_; rintro e w4 ⟨rfl, hb4⟩; have hn4 := (hb4.block p (Array.getElem?_eq_some_iff.1 HN3.out).1).trans HN3.out; obtain ⟨r0, r1, _, _⟩ := local2 hn4; have hb5 : Below wr.heap.size wr (w4.alloc (.cells #[.string an, .string av] TAt)) := (HB1.out.drew.trans ((HB3.out.trans (hb4.mono HB3.out.size)).mono HB1.out.size)).alloc (Nat.le_trans HB1.out.size (Nat.le_trans HB3.out.size hb4.size)) _; have hn5 := (((Below.refl w4.heap.size w4).alloc (Nat.le_refl _) (.cells #[.string an, .string av] TAt)).block p (Array.getElem?_eq_some_iff.1 hn4).1).trans hn4; obtain ⟨q0, q1, _, _⟩ := local2 hn5; have HB5 := Lib.hid hb5; have HN5 := Lib.hid hn5; have HRow5 := Lib.hid (own_on HRow.out hb5); have HNews : Hid ((w4.alloc (.cells #[.string an, .string av] TAt)).heap[w4.heap.size]? = some (.cells #[.string an, .string av] TAt (0, 0))) := Lib.hid (heap_alloc_new w4 _); clear hb4 hn4 hb5 hn5 HCv)
          | (refine step_append_lies _ rfl _ _ 23 rfl w.heap.size 40 i0 _ 2 32 Tryz.underlying23 hi0 hz0 hz1 hz2 rfl (by decide) _ k (attrCells (l.take k)) rfl HRow5.out ⟨w4.heap.size, 0, none⟩ 1 1 [.string an, .string av] rfl rfl (World.news_of_block HNews.out) (fun u hu => by simp only [List.mem_cons, List.not_mem_nil, or_false] at hu; rcases hu with rfl | rfl <;> rfl) (by decide) (by unfold maxLen; omega) (by omega) (Nat.le_trans HT.out.below.size HB5.out.size) _ rfl ?_; intro gq qc W5 hown hgrow _ _; have hn6 := (hgrow.block p (Array.getElem?_eq_some_iff.1 HN5.out).1 (fun e => HNe.out e.symm)).trans HN5.out; obtain ⟨v0, v1, _, _⟩ := local2 hn6; have HOwn := Lib.hid hown; have HGr := Lib.hid hgrow; clear hown hgrow hn6))
      have hB6 : Below w.heap.size w W5 := (HT.out.below.trans (HB5.out.mono HT.out.below.size)).grown HGr.out (Nat.le_trans HT.out.below.size HB5.out.size) (fun q hq => (World.ownsRow.lt HRow5.out q hq).1)
      have hrow6 : AtRow W5 w.heap.size (.slice (some ⟨gq, 0, none⟩) (k + 1) qc) (l.take (k + 1)) := by
        have e := HOwn.out
        unfold AtRow
        rw [HTk.out, attrCells_snoc, List.length_append, List.length_take, HN.out, Nat.min_eq_left hkn]
        exact e
      have HF := Lib.hid (CloneAt.mk hB6 hrow6)
      clear hB6 hrow6
      go_big_wp2
      exact ⟨⟨k + 1, _, qc, rfl, by simp, by omega, HF⟩, by simp [RowKit.intOf]; omega⟩
    · have hltI : ¬ (k : Int) < n := by omega
      have hkn2 : k = n := by omega
      subst hkn2
      have hfin : AtRow wr w.heap.size (.slice ao2 k cap2) l := by
        have := HT.out.row
        rwa [List.take_of_length_le (by rw [HN.out]; exact Nat.le_refl _)] at this
      have HF := Lib.hid hfin
      clear hfin
      go_big_wp2
      go_ret
      exact ⟨ao2, cap2, rfl, HT.out.below, HF.out⟩
end Go.Proofs.YtkfmfldkllkcbaaGreatDoor
namespace Go.Proofs.YtkfmfldkllkcbaaGreatDoor
open Go.RowKit Go.RunKit Go.CharrefKit Go.Lib Go.TokenKit Go.TreeKit

theorem AtRow.lower {w : World} {base base2 : Nat} {v : Value} {l : List At} (h : AtRow w base v l) (hb : base2 ≤ base) : AtRow w base2 v l := by
  refine ⟨h.1, ?_⟩
  rcases h.2 with h2 | ⟨g, cap, cur, e, hg, rest⟩
  · exact .inl h2
  · exact .inr ⟨g, cap, cur, e, Nat.le_trans hb hg, rest⟩
set_option maxRecDepth 100000 in
set_option maxHeartbeats 4000000 in
/-- add where the tree is full. -/
theorem addFull_any (w : World) (b k nt capt : Nat) (nm : ByteArray) (ao2 aot : Option Addr) (m2 c2 : Nat) (ov pa bv : Value) (s : BS) (L : List NdV) (W : World) (hbig : 16384 ≤ nt) (h : BAt w b (.slice aot nt capt) ov pa bv s L W) :
    Calls Tryz.prog 102 #[.pointer (some ⟨b, 0, none⟩), .agg #[.int .u8 ((k : Nat) : Int), .string nm, .slice ao2 m2 c2, .string ⟨#[]⟩, .int .i64 0, .slice none 0 0]] W fun e w' => e = .returned (.int .i64 3) ∧ Below W.heap.size W w' := by
  have hI : (16384 : Int) ≤ nt := by omega
  have b1 : Below W.heap.size W (W.alloc (.cells #[.int .u8 ((k : Nat) : Int), .string nm, .slice ao2 m2 c2, .string ⟨#[]⟩, .int .i64 0, .slice none 0 0] TNd)) := (Below.refl _ _).alloc (Nat.le_refl _) _
  obtain ⟨⟨x0, x1, x2, x3⟩, y0, y1, y2, y3⟩ := local4 (h.on b1).blk
  have HB := Lib.hid b1
  clear h b1
  go_enter Tryz.func102, Tryz.ntmps102
  go_big_wp2
  go_ret
  exact ⟨rfl, HB.out⟩

set_option maxRecDepth 100000 in
set_option maxHeartbeats 8000000 in
theorem treeStart_any (w : World) (b tk kd n cap : Nat) (nm dt : ByteArray) (ao : Option Addr) (sf : Bool) (ats : List At) (tv ov pa bv : Value) (s : BS) (L : List NdV) (W : World) (hwf : WF s) (h200 : s.o.length ≤ 65536) (hk : kd ≤ 8) (hn : ats.length = n) (hn32 : n ≤ 4294967296)
    (hsz : ∀ a, a ∈ ats → a.1.length ≤ 70368744177664 ∧ a.2.length ≤ 70368744177664) (hnm : nm.size ≤ 70368744177664) (hats : ∀ W', Keeps W W' → AtReads W' ao ats) (h : BAt w b tv ov pa bv s L W) :
    Calls Tryz.prog 104 #[.pointer (some ⟨b, 0, none⟩), .agg #[.int .u8 ((tk : Nat) : Int), .string nm, .slice ao n cap, .bool sf, .string dt], .int .u8 ((kd : Nat) : Int)] W (ToldB (startL s ⟨tk, bl nm, ats, sf, bl dt⟩ kd) w b W) := by
  obtain ⟨aoo, capo, hov⟩ := sliceOf h.opens
  subst hov
  obtain ⟨aot, capt, htv⟩ := sliceOf h.tree.row
  subst htv
  obtain ⟨nt, hnt⟩ : ∃ nt, L.length = nt := ⟨_, rfl⟩
  rw [hnt] at h
  have hbW := (Array.getElem?_eq_some_iff.1 h.blk).1
  have HV := Lib.hid fun W1 => isVoid_any kd hk W1
  have b1 : Below W.heap.size W (W.alloc (.cells #[.int .u8 ((tk : Nat) : Int), .string nm, .slice ao n cap, .bool sf, .string dt] TTk)) := (Below.refl _ _).alloc (Nat.le_refl _) _
  have hnew : (W.alloc (.cells #[.int .u8 ((tk : Nat) : Int), .string nm, .slice ao n cap, .bool sf, .string dt] TTk)).heap[W.heap.size]? = some (.cells #[.int .u8 ((tk : Nat) : Int), .string nm, .slice ao n cap, .bool sf, .string dt] TTk (0, 0)) := heap_alloc_new W _
  obtain ⟨⟨z0, z1, z2, z3, z4⟩, _⟩ := local5 hnew
  by_cases hc1 : (sf && !voidK kd) = true
  · have ht : startL s ⟨tk, bl nm, ats, sf, bl dt⟩ kd = .error 51 := by unfold startL; rw [if_pos hc1]
    rw [ht]
    have HB1 := Lib.hid (h.below.trans (b1.mono h.below.size))
    rw [Bool.and_eq_true, Bool.not_eq_true'] at hc1
    obtain ⟨hsf, hvk⟩ := hc1
    subst hsf
    rw [hvk] at HV
    clear h hwf h200 hsz hnm hats ht b1 hnew hn hvk
    go_enter Tryz.func104, Tryz.ntmps104
    go_big_wp2_with (go_at_call 90; refine (HV.out _).mono ?_; rintro e w1 ⟨rfl, rfl⟩)
    go_ret
    exact ⟨rfl, HB1.out⟩
  · have hwf1 : WF ⟨s.t, closeAheadL kd s.o, s.ws⟩ := hwf.close (closeAhead_root hwf.root) closeAhead_sub
    have hle := closeAhead_le kd s.o
    obtain ⟨o1, ho1⟩ : ∃ o1, closeAheadL kd s.o = o1 := ⟨_, rfl⟩
    obtain ⟨n0, hn0⟩ : ∃ n0, s.o.length = n0 := ⟨_, rfl⟩
    obtain ⟨n1, hn1⟩ : ∃ n1, o1.length = n1 := ⟨_, rfl⟩
    have HC := Lib.hid fun W1 (hb : Below W.heap.size W W1) => closeAhead_any w b kd (.slice aot nt capt) pa bv s L W1 aoo capo n0 hk hwf.root hn0 (by omega) (by have := h.on hb; rwa [hn0] at this)
    rw [ho1, hn1] at HC
    rw [ho1] at hwf1
    rw [ho1, hn1, hn0] at hle
    have hn1s : n1 ≤ 65536 := by omega
    cases ho : o1 with
    | nil => exact absurd ho hwf1.ne
    | cons o' r' =>
    have hor : n1 = r'.length + 1 := by rw [← hn1, ho]; rfl
    have HT := Lib.hid fun W2 (hB : BAt w b (.slice aot nt capt) (.slice aoo n1 capo) pa bv ⟨s.t, o1, s.ws⟩ L W2) => takes_any aoo capo n1 w.heap.size kd o' r' W2 hk hor (by omega) (by have := hB.opens; rw [hn1, ho] at this; exact this)
    have HNew := Lib.hid hnew
    have HB1 := Lib.hid b1
    have hPb : W.heap.size ≠ b := by omega
    have HBel := Lib.hid h.below
    by_cases hc2 : takesL kd (o' :: r') = true
    · rw [hc2] at HT
      by_cases hc3 : 200 < n1
      · have ht : startL s ⟨tk, bl nm, ats, sf, bl dt⟩ kd = .error 52 := by
          unfold startL
          rw [if_neg hc1, ho1, ho, if_neg (by rw [hc2]; decide), if_pos (by rw [← ho, hn1]; exact hc3)]
        have hc3I : (200 : Int) < n1 := by omega
        rw [ht]
        have hsv : sf = false ∨ (sf = true ∧ voidK kd = true) := by cases sf <;> cases hv : voidK kd <;> simp_all
        clear h hwf h200 hsz hnm hats ht b1 hnew hn hc1 hc2 hc3 hwf1 hle ho1 hn0 hn1 ho hor hbW
        rcases hsv with rfl | ⟨rfl, hvk⟩
        all_goals (try rw [hvk] at HV)
        all_goals
          go_enter Tryz.func104, Tryz.ntmps104
          go_big_wp2_with (first
            | (go_at_call 90; refine (HV.out _).mono ?_; rintro e w1 ⟨rfl, rfl⟩)
            | (go_at_call 134; refine (HC.out _ HB1.out).mono ?_; rintro e w2 ⟨rfl, hB2, ho2⟩; have hp2 := ho2 _ _ HNew.out hPb; clear z0 z1 z2 z3 z4; obtain ⟨⟨z0, z1, z2, z3, z4⟩, _⟩ := local5 hp2; obtain ⟨⟨x0, x1, x2, x3⟩, y0, y1, y2, y3⟩ := local4 hB2.blk; have HB2 := Lib.hid hB2; clear hB2 ho2 hp2)
            | (go_at_call 89; refine (HT.out _ HB2.out).mono ?_; rintro e w3 ⟨rfl, hb3⟩; have hB3 := HB2.out.on hb3; clear x0 x1 x2 x3 y0 y1 y2 y3; obtain ⟨⟨x0, x1, x2, x3⟩, y0, y1, y2, y3⟩ := local4 hB3.blk; have HB3 := Lib.hid hB3; clear hb3 hB3))
          go_ret
          exact ⟨rfl, HB3.out.below⟩
      · have hc3I : ¬ (200 : Int) < n1 := by omega
        have hLl := h.len
        rw [hnt] at hLl
        have hst : startL s ⟨tk, bl nm, ats, sf, bl dt⟩ kd = (match addL ⟨s.t, o1, s.ws⟩ ⟨1, bl nm, ats, [], 0, []⟩ with
            | .error e => .error e
            | .ok s2 => .ok (if voidK kd then s2 else ⟨s2.t, ⟨nt, bl nm, kd⟩ :: s2.o, s2.ws⟩)) := by
          unfold startL
          rw [if_neg hc1, ho1, if_neg (by rw [ho, hc2]; decide), if_neg (by rw [hn1]; exact hc3), hLl]
          rfl
        have HCl := Lib.hid fun W1 => clone_any nm W1 (by omega)
        have HCa := Lib.hid fun W1 (hkk : Keeps W W1) => cloneAttrs_any ats ao cap n W1 hn hn32 hsz (hats W1 hkk)
        have HAdd := Lib.hid fun W1 ao2 c2 (hrow : AtRow W1 w.heap.size (.slice ao2 n c2) ats) (hB : BAt w b (.slice aot nt capt) (.slice aoo n1 capo) pa bv ⟨s.t, o1, s.ws⟩ L W1) => add_any w b 1 nm ao2 n c2 ats (.slice aot nt capt) (.slice aoo n1 capo) pa bv ⟨s.t, o1, s.ws⟩ L W1 hwf1 (by show o1.length ≤ 65536; omega) hrow hB
        have hBk : (W.alloc (.cells #[.int .u8 ((tk : Nat) : Int), .string nm, .slice ao n cap, .bool sf, .string dt] TTk)).heap[b]? = some (.cells #[.slice aot nt capt, .slice aoo n0 capo, pa, bv] TBd (0, 0)) := by
          have := (h.on b1).blk; rwa [hn0] at this
        have HBk := Lib.hid hBk
        have h3 : (sf = false ∧ voidK kd = false) ∨ (sf = false ∧ voidK kd = true) ∨ (sf = true ∧ voidK kd = true) := by cases sf <;> cases hv : voidK kd <;> simp_all
        by_cases hbig : 16384 ≤ nt
        · have ha : addL ⟨s.t, o1, s.ws⟩ ⟨1, bl nm, ats, [], 0, []⟩ = .error 3 := by unfold addL; rw [if_pos (by rw [← hLl]; exact hbig)]
          have ht : startL s ⟨tk, bl nm, ats, sf, bl dt⟩ kd = .error 3 := by rw [hst, ha]
          rw [ht]
          have HAdd := Lib.hid fun W1 ao2 c2 (hB : BAt w b (.slice aot nt capt) (.slice aoo n1 capo) pa bv ⟨s.t, o1, s.ws⟩ L W1) => addFull_any w b 1 nt capt nm ao2 aot n c2 (.slice aoo n1 capo) pa bv ⟨s.t, o1, s.ws⟩ L W1 hbig hB
          clear h hwf h200 hsz hnm hats b1 hnew hn hc1 hc2 hc3 hwf1 hle ho1 hn0 hn1 ho hor hbW hLl hBk hst ht ha hbig
          rcases h3 with ⟨rfl, hvk⟩ | ⟨rfl, hvk⟩ | ⟨rfl, hvk⟩
          all_goals (rw [hvk] at HV; clear hvk)
          all_goals
            go_enter Tryz.func104, Tryz.ntmps104
            go_big_wp2_with (first
              | (go_at_call 90; refine (HV.out _).mono ?_; rintro e w1 ⟨rfl, rfl⟩)
              | (go_at_call 134; refine (HC.out _ HB1.out).mono ?_; rintro e w2 ⟨rfl, hB2, ho2⟩; have hp2 := ho2 _ _ HNew.out hPb; clear z0 z1 z2 z3 z4; obtain ⟨⟨z0, z1, z2, z3, z4⟩, _⟩ := local5 hp2; obtain ⟨⟨x0, x1, x2, x3⟩, y0, y1, y2, y3⟩ := local4 hB2.blk; have HB2 := Lib.hid hB2; have HP2 := Lib.hid hp2; have HK2 := Lib.hid ((Keeps.below HB1.out).trans (ho2.keeps HBk.out)); clear hB2 ho2 hp2)
              | (go_at_call 89; refine (HT.out _ HB2.out).mono ?_; rintro e w3 ⟨rfl, hb3⟩; have hB3 := HB2.out.on hb3; clear x0 x1 x2 x3 y0 y1 y2 y3 z0 z1 z2 z3 z4; obtain ⟨⟨x0, x1, x2, x3⟩, y0, y1, y2, y3⟩ := local4 hB3.blk; have hp3 := (hb3.block _ (Array.getElem?_eq_some_iff.1 HP2.out).1).trans HP2.out; obtain ⟨⟨z0, z1, z2, z3, z4⟩, _⟩ := local5 hp3; have HB3 := Lib.hid hB3; have HP3 := Lib.hid hp3; have HK3 := Lib.hid (HK2.out.trans (Keeps.below hb3)); clear hb3 hB3 hp3))
            go_region_held3 (fun w' => w'.cell? ⟨W.heap.size, 1, none⟩ = some (.string nm) ∧ w'.cell? ⟨W.heap.size, 2, none⟩ = some (.slice ao n cap))
              (first | exact ⟨z1, z2⟩ | exact ⟨u1, u2⟩ | exact ⟨v1, v2⟩ | exact ⟨r1, r2⟩)
              (first
                | (go_at_call 135; refine (HCl.out _).mono ?_; rintro e w4 ⟨rfl, hb4⟩; have hd4 : Below w3.heap.size w3 w4 := ((Below.refl w3.heap.size w3).drew).trans hb4; have hp4 := (hd4.block _ (Array.getElem?_eq_some_iff.1 HP3.out).1).trans HP3.out; obtain ⟨⟨u0, u1, u2, u3, u4⟩, _⟩ := local5 hp4; have HP4 := Lib.hid hp4; have HB4 := Lib.hid (HB3.out.on hd4); have HK4 := Lib.hid (HK3.out.trans (Keeps.below hd4)); clear hb4 hd4 hp4)
                | (go_at_call 136; refine (HCa.out _ HK4.out).mono ?_; rintro e w5 ⟨ao2, cap2, rfl, hb5, hrow5⟩; have hp5 := (hb5.block _ (Array.getElem?_eq_some_iff.1 HP4.out).1).trans HP4.out; obtain ⟨⟨v0, v1, v2, v3, v4⟩, _⟩ := local5 hp5; have HP5 := Lib.hid hp5; have HB5 := Lib.hid (HB4.out.on hb5); have HK5 := Lib.hid (HK4.out.trans (Keeps.below hb5)); have HRow5 := Lib.hid (hrow5.lower HB4.out.below.size); clear hb5 hp5 hrow5)
                | (go_at_call 102; refine (HAdd.out _ _ _ HB5.out).mono ?_; rintro e w6 ⟨rfl, hb6⟩; have hp6 := (hb6.block _ (Array.getElem?_eq_some_iff.1 HP5.out).1).trans HP5.out; obtain ⟨⟨r0, r1, r2, r3, r4⟩, _⟩ := local5 hp6; have HB6 := Lib.hid (HB5.out.on hb6); clear hb6 hp6))
            go_big_wp2
            go_ret
            exact ⟨rfl, HB6.out.below⟩
        · obtain ⟨s2, ha⟩ : ∃ s2, addL ⟨s.t, o1, s.ws⟩ ⟨1, bl nm, ats, [], 0, []⟩ = .ok s2 := ⟨_, by unfold addL; rw [if_neg (by rw [← hLl]; exact hbig)]⟩
          have hs2o : s2.o.length = n1 := by
            have e := ha
            unfold addL at e
            rw [if_neg (by rw [← hLl]; exact hbig)] at e
            cases e
            exact hn1
          have ht : startL s ⟨tk, bl nm, ats, sf, bl dt⟩ kd = .ok (if voidK kd then s2 else ⟨s2.t, ⟨nt, bl nm, kd⟩ :: s2.o, s2.ws⟩) := by rw [hst, ha]
          rw [ht]
          rw [ha] at HAdd
          unfold ToldB at HAdd
          have HPush := Lib.hid fun (tv6 : Value) (ao6 : Option Addr) (cap6 : Nat) (pa6 bv6 : Value) (L6 : List NdV) (W6 : World) (hB : BAt w b tv6 (.slice ao6 s2.o.length cap6) pa6 bv6 s2 L6 W6) => push_any w b ao6 cap6 s2.o.length tv6 pa6 bv6 s2 nt kd nm L6 W6 rfl (by omega) hB
          clear h hwf h200 hsz hnm hats b1 hnew hn hc1 hc2 hc3 hwf1 hle ho1 hn0 hn1 ho hor hbW hLl hBk hst ht ha hbig hs2o
          rcases h3 with ⟨rfl, hvk⟩ | ⟨rfl, hvk⟩ | ⟨rfl, hvk⟩
          all_goals (rw [hvk] at HV ⊢; clear hvk)
          case inl =>
            go_enter Tryz.func104, Tryz.ntmps104
            go_big_wp2_with (first
              | (go_at_call 90; refine (HV.out _).mono ?_; rintro e w1 ⟨rfl, rfl⟩)
              | (go_at_call 134; refine (HC.out _ HB1.out).mono ?_; rintro e w2 ⟨rfl, hB2, ho2⟩; have hp2 := ho2 _ _ HNew.out hPb; clear z0 z1 z2 z3 z4; obtain ⟨⟨z0, z1, z2, z3, z4⟩, _⟩ := local5 hp2; obtain ⟨⟨x0, x1, x2, x3⟩, y0, y1, y2, y3⟩ := local4 hB2.blk; have HB2 := Lib.hid hB2; have HP2 := Lib.hid hp2; have HK2 := Lib.hid ((Keeps.below HB1.out).trans (ho2.keeps HBk.out)); clear hB2 ho2 hp2)
              | (go_at_call 89; refine (HT.out _ HB2.out).mono ?_; rintro e w3 ⟨rfl, hb3⟩; have hB3 := HB2.out.on hb3; clear x0 x1 x2 x3 y0 y1 y2 y3 z0 z1 z2 z3 z4; obtain ⟨⟨x0, x1, x2, x3⟩, y0, y1, y2, y3⟩ := local4 hB3.blk; have hp3 := (hb3.block _ (Array.getElem?_eq_some_iff.1 HP2.out).1).trans HP2.out; obtain ⟨⟨z0, z1, z2, z3, z4⟩, _⟩ := local5 hp3; have HB3 := Lib.hid hB3; have HP3 := Lib.hid hp3; have HK3 := Lib.hid (HK2.out.trans (Keeps.below hb3)); clear hb3 hB3 hp3))
            go_region_held3 (fun w' => w'.cell? ⟨W.heap.size, 1, none⟩ = some (.string nm) ∧ w'.cell? ⟨W.heap.size, 2, none⟩ = some (.slice ao n cap))
              (first | exact ⟨z1, z2⟩ | exact ⟨u1, u2⟩ | exact ⟨v1, v2⟩ | exact ⟨r1, r2⟩)
              (first
                | (go_at_call 135; refine (HCl.out _).mono ?_; rintro e w4 ⟨rfl, hb4⟩; have hd4 : Below w3.heap.size w3 w4 := ((Below.refl w3.heap.size w3).drew).trans hb4; have hp4 := (hd4.block _ (Array.getElem?_eq_some_iff.1 HP3.out).1).trans HP3.out; obtain ⟨⟨u0, u1, u2, u3, u4⟩, _⟩ := local5 hp4; have HP4 := Lib.hid hp4; have HB4 := Lib.hid (HB3.out.on hd4); have HK4 := Lib.hid (HK3.out.trans (Keeps.below hd4)); clear hb4 hd4 hp4)
                | (go_at_call 136; refine (HCa.out _ HK4.out).mono ?_; rintro e w5 ⟨ao2, cap2, rfl, hb5, hrow5⟩; have hp5 := (hb5.block _ (Array.getElem?_eq_some_iff.1 HP4.out).1).trans HP4.out; obtain ⟨⟨v0, v1, v2, v3, v4⟩, _⟩ := local5 hp5; have HP5 := Lib.hid hp5; have HB5 := Lib.hid (HB4.out.on hb5); have HK5 := Lib.hid (HK4.out.trans (Keeps.below hb5)); have HRow5 := Lib.hid (hrow5.lower HB4.out.below.size); clear hb5 hp5 hrow5)
                | (go_at_call 102; refine (HAdd.out _ _ _ HRow5.out HB5.out).mono ?_; rintro e w6 ⟨rfl, hk6, tv6, ao6, cap6, pa6, bv6, L6, hB6⟩; have hp6 := hk6 _ _ _ _ HP5.out (by decide) (by decide) (by decide) (by decide) (by decide); obtain ⟨⟨r0, r1, r2, r3, r4⟩, _⟩ := local5 hp6; obtain ⟨⟨m0, m1, m2, m3⟩, _⟩ := local4 hB6.blk; have HB6 := Lib.hid hB6; have HK6 := Lib.hid (HK5.out.trans hk6); clear hk6 hB6 hp6))
            go_big_wp2_with (first
              | (go_at_call 90; refine (HV.out _).mono ?_; rintro e w1 ⟨rfl, rfl⟩))
            go_region_law (go_simp; go_at_call 91; refine (HPush.out _ _ _ _ _ _ _ (HB6.out.on ((Below.refl w6.heap.size w6).drew))).mono ?_; rintro e w7 ⟨rfl, ⟨ao7, cap7, hB7⟩, hk7⟩; have HB7 := Lib.hid hB7; have HK7 := Lib.hid ((HK6.out.trans (Keeps.below ((Below.refl w6.heap.size w6).drew))).trans hk7); clear hB7 hk7)
            go_big_wp2
            go_ret
            exact ⟨rfl, HK7.out, _, ao7, cap7, _, _, _, HB7.out⟩
          all_goals
            go_enter Tryz.func104, Tryz.ntmps104
            go_big_wp2_with (first
              | (go_at_call 90; refine (HV.out _).mono ?_; rintro e w1 ⟨rfl, rfl⟩)
              | (go_at_call 134; refine (HC.out _ HB1.out).mono ?_; rintro e w2 ⟨rfl, hB2, ho2⟩; have hp2 := ho2 _ _ HNew.out hPb; clear z0 z1 z2 z3 z4; obtain ⟨⟨z0, z1, z2, z3, z4⟩, _⟩ := local5 hp2; obtain ⟨⟨x0, x1, x2, x3⟩, y0, y1, y2, y3⟩ := local4 hB2.blk; have HB2 := Lib.hid hB2; have HP2 := Lib.hid hp2; have HK2 := Lib.hid ((Keeps.below HB1.out).trans (ho2.keeps HBk.out)); clear hB2 ho2 hp2)
              | (go_at_call 89; refine (HT.out _ HB2.out).mono ?_; rintro e w3 ⟨rfl, hb3⟩; have hB3 := HB2.out.on hb3; clear x0 x1 x2 x3 y0 y1 y2 y3 z0 z1 z2 z3 z4; obtain ⟨⟨x0, x1, x2, x3⟩, y0, y1, y2, y3⟩ := local4 hB3.blk; have hp3 := (hb3.block _ (Array.getElem?_eq_some_iff.1 HP2.out).1).trans HP2.out; obtain ⟨⟨z0, z1, z2, z3, z4⟩, _⟩ := local5 hp3; have HB3 := Lib.hid hB3; have HP3 := Lib.hid hp3; have HK3 := Lib.hid (HK2.out.trans (Keeps.below hb3)); clear hb3 hB3 hp3))
            go_region_held3 (fun w' => w'.cell? ⟨W.heap.size, 1, none⟩ = some (.string nm) ∧ w'.cell? ⟨W.heap.size, 2, none⟩ = some (.slice ao n cap))
              (first | exact ⟨z1, z2⟩ | exact ⟨u1, u2⟩ | exact ⟨v1, v2⟩ | exact ⟨r1, r2⟩)
              (first
                | (go_at_call 135; refine (HCl.out _).mono ?_; rintro e w4 ⟨rfl, hb4⟩; have hd4 : Below w3.heap.size w3 w4 := ((Below.refl w3.heap.size w3).drew).trans hb4; have hp4 := (hd4.block _ (Array.getElem?_eq_some_iff.1 HP3.out).1).trans HP3.out; obtain ⟨⟨u0, u1, u2, u3, u4⟩, _⟩ := local5 hp4; have HP4 := Lib.hid hp4; have HB4 := Lib.hid (HB3.out.on hd4); have HK4 := Lib.hid (HK3.out.trans (Keeps.below hd4)); clear hb4 hd4 hp4)
                | (go_at_call 136; refine (HCa.out _ HK4.out).mono ?_; rintro e w5 ⟨ao2, cap2, rfl, hb5, hrow5⟩; have hp5 := (hb5.block _ (Array.getElem?_eq_some_iff.1 HP4.out).1).trans HP4.out; obtain ⟨⟨v0, v1, v2, v3, v4⟩, _⟩ := local5 hp5; have HP5 := Lib.hid hp5; have HB5 := Lib.hid (HB4.out.on hb5); have HK5 := Lib.hid (HK4.out.trans (Keeps.below hb5)); have HRow5 := Lib.hid (hrow5.lower HB4.out.below.size); clear hb5 hp5 hrow5)
                | (go_at_call 102; refine (HAdd.out _ _ _ HRow5.out HB5.out).mono ?_; rintro e w6 ⟨rfl, hk6, tv6, ao6, cap6, pa6, bv6, L6, hB6⟩; have hp6 := hk6 _ _ _ _ HP5.out (by decide) (by decide) (by decide) (by decide) (by decide); obtain ⟨⟨r0, r1, r2, r3, r4⟩, _⟩ := local5 hp6; obtain ⟨⟨m0, m1, m2, m3⟩, _⟩ := local4 hB6.blk; have HB6 := Lib.hid hB6; have HK6 := Lib.hid (HK5.out.trans hk6); clear hk6 hB6 hp6))
            go_big_wp2_with (first
              | (go_at_call 90; refine (HV.out _).mono ?_; rintro e w1 ⟨rfl, rfl⟩))
            go_ret
            exact ⟨rfl, HK6.out, _, _, _, _, _, _, HB6.out⟩
    · have hc2f : takesL kd (o' :: r') = false := by simpa using hc2
      rw [hc2f] at HT
      have ht : startL s ⟨tk, bl nm, ats, sf, bl dt⟩ kd = .error 51 := by
        unfold startL
        rw [if_neg hc1, ho1, ho, if_pos (by rw [hc2f]; decide)]
      rw [ht]
      have hsv : sf = false ∨ (sf = true ∧ voidK kd = true) := by cases sf <;> cases hv : voidK kd <;> simp_all
      clear h hwf h200 hsz hnm hats ht b1 hnew hn hc1 hc2 hc2f hwf1 hle ho1 hn0 hn1 ho hor hbW
      rcases hsv with rfl | ⟨rfl, hvk⟩
      all_goals (try rw [hvk] at HV)
      all_goals
        go_enter Tryz.func104, Tryz.ntmps104
        go_big_wp2_with (first
          | (go_at_call 90; refine (HV.out _).mono ?_; rintro e w1 ⟨rfl, rfl⟩)
          | (go_at_call 134; refine (HC.out _ HB1.out).mono ?_; rintro e w2 ⟨rfl, hB2, ho2⟩; have hp2 := ho2 _ _ HNew.out hPb; clear z0 z1 z2 z3 z4; obtain ⟨⟨z0, z1, z2, z3, z4⟩, _⟩ := local5 hp2; obtain ⟨⟨x0, x1, x2, x3⟩, y0, y1, y2, y3⟩ := local4 hB2.blk; have HB2 := Lib.hid hB2; clear hB2 ho2 hp2)
          | (go_at_call 89; refine (HT.out _ HB2.out).mono ?_; rintro e w3 ⟨rfl, hb3⟩; have hB3 := HB2.out.on hb3; clear x0 x1 x2 x3 y0 y1 y2 y3; obtain ⟨⟨x0, x1, x2, x3⟩, y0, y1, y2, y3⟩ := local4 hB3.blk; have HB3 := Lib.hid hB3; clear hb3 hB3))
        go_ret
        exact ⟨rfl, HB3.out.below⟩
end Go.Proofs.YtkfmfldkllkcbaaGreatDoor
namespace Go.Proofs.YtkfmfldkllkcbaaGreatDoor
open Go.RowKit Go.RunKit Go.CharrefKit Go.Lib Go.TokenKit Go.TreeKit

set_option maxRecDepth 100000 in
set_option maxHeartbeats 2000000 in
theorem kind0 (w : World) : Calls Tryz.prog 25 #[.string ⟨#[100, 105, 118]⟩] w fun e w' => e = .returned (.int .u8 1) ∧ w = w' := by
  go_enter Tryz.func25, Tryz.ntmps25
  go_big_wp2
  go_ret
  exact ⟨rfl, rfl⟩
set_option maxRecDepth 100000 in
set_option maxHeartbeats 2000000 in
theorem kind1 (w : World) : Calls Tryz.prog 25 #[.string ⟨#[117, 108]⟩] w fun e w' => e = .returned (.int .u8 1) ∧ w = w' := by
  go_enter Tryz.func25, Tryz.ntmps25
  go_big_wp2
  go_ret
  exact ⟨rfl, rfl⟩
set_option maxRecDepth 100000 in
set_option maxHeartbeats 2000000 in
theorem kind2 (w : World) : Calls Tryz.prog 25 #[.string ⟨#[111, 108]⟩] w fun e w' => e = .returned (.int .u8 1) ∧ w = w' := by
  go_enter Tryz.func25, Tryz.ntmps25
  go_big_wp2
  go_ret
  exact ⟨rfl, rfl⟩
set_option maxRecDepth 100000 in
set_option maxHeartbeats 2000000 in
theorem kind3 (w : World) : Calls Tryz.prog 25 #[.string ⟨#[115, 101, 99, 116, 105, 111, 110]⟩] w fun e w' => e = .returned (.int .u8 1) ∧ w = w' := by
  go_enter Tryz.func25, Tryz.ntmps25
  go_big_wp2
  go_ret
  exact ⟨rfl, rfl⟩
set_option maxRecDepth 100000 in
set_option maxHeartbeats 2000000 in
theorem kind4 (w : World) : Calls Tryz.prog 25 #[.string ⟨#[97, 114, 116, 105, 99, 108, 101]⟩] w fun e w' => e = .returned (.int .u8 1) ∧ w = w' := by
  go_enter Tryz.func25, Tryz.ntmps25
  go_big_wp2
  go_ret
  exact ⟨rfl, rfl⟩
set_option maxRecDepth 100000 in
set_option maxHeartbeats 2000000 in
theorem kind5 (w : World) : Calls Tryz.prog 25 #[.string ⟨#[104, 101, 97, 100, 101, 114]⟩] w fun e w' => e = .returned (.int .u8 1) ∧ w = w' := by
  go_enter Tryz.func25, Tryz.ntmps25
  go_big_wp2
  go_ret
  exact ⟨rfl, rfl⟩
set_option maxRecDepth 100000 in
set_option maxHeartbeats 2000000 in
theorem kind6 (w : World) : Calls Tryz.prog 25 #[.string ⟨#[102, 111, 111, 116, 101, 114]⟩] w fun e w' => e = .returned (.int .u8 1) ∧ w = w' := by
  go_enter Tryz.func25, Tryz.ntmps25
  go_big_wp2
  go_ret
  exact ⟨rfl, rfl⟩
set_option maxRecDepth 100000 in
set_option maxHeartbeats 2000000 in
theorem kind7 (w : World) : Calls Tryz.prog 25 #[.string ⟨#[109, 97, 105, 110]⟩] w fun e w' => e = .returned (.int .u8 1) ∧ w = w' := by
  go_enter Tryz.func25, Tryz.ntmps25
  go_big_wp2
  go_ret
  exact ⟨rfl, rfl⟩
set_option maxRecDepth 100000 in
set_option maxHeartbeats 2000000 in
theorem kind8 (w : World) : Calls Tryz.prog 25 #[.string ⟨#[110, 97, 118]⟩] w fun e w' => e = .returned (.int .u8 1) ∧ w = w' := by
  go_enter Tryz.func25, Tryz.ntmps25
  go_big_wp2
  go_ret
  exact ⟨rfl, rfl⟩
set_option maxRecDepth 100000 in
set_option maxHeartbeats 2000000 in
theorem kind9 (w : World) : Calls Tryz.prog 25 #[.string ⟨#[97, 115, 105, 100, 101]⟩] w fun e w' => e = .returned (.int .u8 1) ∧ w = w' := by
  go_enter Tryz.func25, Tryz.ntmps25
  go_big_wp2
  go_ret
  exact ⟨rfl, rfl⟩
set_option maxRecDepth 100000 in
set_option maxHeartbeats 2000000 in
theorem kind10 (w : World) : Calls Tryz.prog 25 #[.string ⟨#[98, 108, 111, 99, 107, 113, 117, 111, 116, 101]⟩] w fun e w' => e = .returned (.int .u8 1) ∧ w = w' := by
  go_enter Tryz.func25, Tryz.ntmps25
  go_big_wp2
  go_ret
  exact ⟨rfl, rfl⟩
set_option maxRecDepth 100000 in
set_option maxHeartbeats 2000000 in
theorem kind11 (w : World) : Calls Tryz.prog 25 #[.string ⟨#[102, 105, 103, 117, 114, 101]⟩] w fun e w' => e = .returned (.int .u8 1) ∧ w = w' := by
  go_enter Tryz.func25, Tryz.ntmps25
  go_big_wp2
  go_ret
  exact ⟨rfl, rfl⟩
set_option maxRecDepth 100000 in
set_option maxHeartbeats 2000000 in
theorem kind12 (w : World) : Calls Tryz.prog 25 #[.string ⟨#[112]⟩] w fun e w' => e = .returned (.int .u8 2) ∧ w = w' := by
  go_enter Tryz.func25, Tryz.ntmps25
  go_big_wp2
  go_ret
  exact ⟨rfl, rfl⟩
set_option maxRecDepth 100000 in
set_option maxHeartbeats 2000000 in
theorem kind13 (w : World) : Calls Tryz.prog 25 #[.string ⟨#[108, 105]⟩] w fun e w' => e = .returned (.int .u8 3) ∧ w = w' := by
  go_enter Tryz.func25, Tryz.ntmps25
  go_big_wp2
  go_ret
  exact ⟨rfl, rfl⟩
set_option maxRecDepth 100000 in
set_option maxHeartbeats 2000000 in
theorem kind14 (w : World) : Calls Tryz.prog 25 #[.string ⟨#[104, 49]⟩] w fun e w' => e = .returned (.int .u8 4) ∧ w = w' := by
  go_enter Tryz.func25, Tryz.ntmps25
  go_big_wp2
  go_ret
  exact ⟨rfl, rfl⟩
set_option maxRecDepth 100000 in
set_option maxHeartbeats 2000000 in
theorem kind15 (w : World) : Calls Tryz.prog 25 #[.string ⟨#[104, 50]⟩] w fun e w' => e = .returned (.int .u8 4) ∧ w = w' := by
  go_enter Tryz.func25, Tryz.ntmps25
  go_big_wp2
  go_ret
  exact ⟨rfl, rfl⟩
set_option maxRecDepth 100000 in
set_option maxHeartbeats 2000000 in
theorem kind16 (w : World) : Calls Tryz.prog 25 #[.string ⟨#[104, 51]⟩] w fun e w' => e = .returned (.int .u8 4) ∧ w = w' := by
  go_enter Tryz.func25, Tryz.ntmps25
  go_big_wp2
  go_ret
  exact ⟨rfl, rfl⟩
set_option maxRecDepth 100000 in
set_option maxHeartbeats 2000000 in
theorem kind17 (w : World) : Calls Tryz.prog 25 #[.string ⟨#[104, 52]⟩] w fun e w' => e = .returned (.int .u8 4) ∧ w = w' := by
  go_enter Tryz.func25, Tryz.ntmps25
  go_big_wp2
  go_ret
  exact ⟨rfl, rfl⟩
set_option maxRecDepth 100000 in
set_option maxHeartbeats 2000000 in
theorem kind18 (w : World) : Calls Tryz.prog 25 #[.string ⟨#[104, 53]⟩] w fun e w' => e = .returned (.int .u8 4) ∧ w = w' := by
  go_enter Tryz.func25, Tryz.ntmps25
  go_big_wp2
  go_ret
  exact ⟨rfl, rfl⟩
set_option maxRecDepth 100000 in
set_option maxHeartbeats 2000000 in
theorem kind19 (w : World) : Calls Tryz.prog 25 #[.string ⟨#[104, 54]⟩] w fun e w' => e = .returned (.int .u8 4) ∧ w = w' := by
  go_enter Tryz.func25, Tryz.ntmps25
  go_big_wp2
  go_ret
  exact ⟨rfl, rfl⟩
set_option maxRecDepth 100000 in
set_option maxHeartbeats 2000000 in
theorem kind20 (w : World) : Calls Tryz.prog 25 #[.string ⟨#[115, 112, 97, 110]⟩] w fun e w' => e = .returned (.int .u8 5) ∧ w = w' := by
  go_enter Tryz.func25, Tryz.ntmps25
  go_big_wp2
  go_ret
  exact ⟨rfl, rfl⟩
set_option maxRecDepth 100000 in
set_option maxHeartbeats 2000000 in
theorem kind21 (w : World) : Calls Tryz.prog 25 #[.string ⟨#[98]⟩] w fun e w' => e = .returned (.int .u8 5) ∧ w = w' := by
  go_enter Tryz.func25, Tryz.ntmps25
  go_big_wp2
  go_ret
  exact ⟨rfl, rfl⟩
set_option maxRecDepth 100000 in
set_option maxHeartbeats 2000000 in
theorem kind22 (w : World) : Calls Tryz.prog 25 #[.string ⟨#[105]⟩] w fun e w' => e = .returned (.int .u8 5) ∧ w = w' := by
  go_enter Tryz.func25, Tryz.ntmps25
  go_big_wp2
  go_ret
  exact ⟨rfl, rfl⟩
set_option maxRecDepth 100000 in
set_option maxHeartbeats 2000000 in
theorem kind23 (w : World) : Calls Tryz.prog 25 #[.string ⟨#[101, 109]⟩] w fun e w' => e = .returned (.int .u8 5) ∧ w = w' := by
  go_enter Tryz.func25, Tryz.ntmps25
  go_big_wp2
  go_ret
  exact ⟨rfl, rfl⟩
set_option maxRecDepth 100000 in
set_option maxHeartbeats 2000000 in
theorem kind24 (w : World) : Calls Tryz.prog 25 #[.string ⟨#[115, 116, 114, 111, 110, 103]⟩] w fun e w' => e = .returned (.int .u8 5) ∧ w = w' := by
  go_enter Tryz.func25, Tryz.ntmps25
  go_big_wp2
  go_ret
  exact ⟨rfl, rfl⟩
set_option maxRecDepth 100000 in
set_option maxHeartbeats 2000000 in
theorem kind25 (w : World) : Calls Tryz.prog 25 #[.string ⟨#[117]⟩] w fun e w' => e = .returned (.int .u8 5) ∧ w = w' := by
  go_enter Tryz.func25, Tryz.ntmps25
  go_big_wp2
  go_ret
  exact ⟨rfl, rfl⟩
set_option maxRecDepth 100000 in
set_option maxHeartbeats 2000000 in
theorem kind26 (w : World) : Calls Tryz.prog 25 #[.string ⟨#[115]⟩] w fun e w' => e = .returned (.int .u8 5) ∧ w = w' := by
  go_enter Tryz.func25, Tryz.ntmps25
  go_big_wp2
  go_ret
  exact ⟨rfl, rfl⟩
set_option maxRecDepth 100000 in
set_option maxHeartbeats 2000000 in
theorem kind27 (w : World) : Calls Tryz.prog 25 #[.string ⟨#[115, 109, 97, 108, 108]⟩] w fun e w' => e = .returned (.int .u8 5) ∧ w = w' := by
  go_enter Tryz.func25, Tryz.ntmps25
  go_big_wp2
  go_ret
  exact ⟨rfl, rfl⟩
set_option maxRecDepth 100000 in
set_option maxHeartbeats 2000000 in
theorem kind28 (w : World) : Calls Tryz.prog 25 #[.string ⟨#[99, 111, 100, 101]⟩] w fun e w' => e = .returned (.int .u8 5) ∧ w = w' := by
  go_enter Tryz.func25, Tryz.ntmps25
  go_big_wp2
  go_ret
  exact ⟨rfl, rfl⟩
set_option maxRecDepth 100000 in
set_option maxHeartbeats 2000000 in
theorem kind29 (w : World) : Calls Tryz.prog 25 #[.string ⟨#[98, 100, 105]⟩] w fun e w' => e = .returned (.int .u8 5) ∧ w = w' := by
  go_enter Tryz.func25, Tryz.ntmps25
  go_big_wp2
  go_ret
  exact ⟨rfl, rfl⟩
set_option maxRecDepth 100000 in
set_option maxHeartbeats 2000000 in
theorem kind30 (w : World) : Calls Tryz.prog 25 #[.string ⟨#[98, 100, 111]⟩] w fun e w' => e = .returned (.int .u8 5) ∧ w = w' := by
  go_enter Tryz.func25, Tryz.ntmps25
  go_big_wp2
  go_ret
  exact ⟨rfl, rfl⟩
set_option maxRecDepth 100000 in
set_option maxHeartbeats 2000000 in
theorem kind31 (w : World) : Calls Tryz.prog 25 #[.string ⟨#[97, 98, 98, 114]⟩] w fun e w' => e = .returned (.int .u8 5) ∧ w = w' := by
  go_enter Tryz.func25, Tryz.ntmps25
  go_big_wp2
  go_ret
  exact ⟨rfl, rfl⟩
set_option maxRecDepth 100000 in
set_option maxHeartbeats 2000000 in
theorem kind32 (w : World) : Calls Tryz.prog 25 #[.string ⟨#[99, 105, 116, 101]⟩] w fun e w' => e = .returned (.int .u8 5) ∧ w = w' := by
  go_enter Tryz.func25, Tryz.ntmps25
  go_big_wp2
  go_ret
  exact ⟨rfl, rfl⟩
set_option maxRecDepth 100000 in
set_option maxHeartbeats 2000000 in
theorem kind33 (w : World) : Calls Tryz.prog 25 #[.string ⟨#[113]⟩] w fun e w' => e = .returned (.int .u8 5) ∧ w = w' := by
  go_enter Tryz.func25, Tryz.ntmps25
  go_big_wp2
  go_ret
  exact ⟨rfl, rfl⟩
set_option maxRecDepth 100000 in
set_option maxHeartbeats 2000000 in
theorem kind34 (w : World) : Calls Tryz.prog 25 #[.string ⟨#[115, 117, 98]⟩] w fun e w' => e = .returned (.int .u8 5) ∧ w = w' := by
  go_enter Tryz.func25, Tryz.ntmps25
  go_big_wp2
  go_ret
  exact ⟨rfl, rfl⟩
set_option maxRecDepth 100000 in
set_option maxHeartbeats 2000000 in
theorem kind35 (w : World) : Calls Tryz.prog 25 #[.string ⟨#[115, 117, 112]⟩] w fun e w' => e = .returned (.int .u8 5) ∧ w = w' := by
  go_enter Tryz.func25, Tryz.ntmps25
  go_big_wp2
  go_ret
  exact ⟨rfl, rfl⟩
set_option maxRecDepth 100000 in
set_option maxHeartbeats 2000000 in
theorem kind36 (w : World) : Calls Tryz.prog 25 #[.string ⟨#[109, 97, 114, 107]⟩] w fun e w' => e = .returned (.int .u8 5) ∧ w = w' := by
  go_enter Tryz.func25, Tryz.ntmps25
  go_big_wp2
  go_ret
  exact ⟨rfl, rfl⟩
set_option maxRecDepth 100000 in
set_option maxHeartbeats 2000000 in
theorem kind37 (w : World) : Calls Tryz.prog 25 #[.string ⟨#[97]⟩] w fun e w' => e = .returned (.int .u8 6) ∧ w = w' := by
  go_enter Tryz.func25, Tryz.ntmps25
  go_big_wp2
  go_ret
  exact ⟨rfl, rfl⟩
set_option maxRecDepth 100000 in
set_option maxHeartbeats 2000000 in
theorem kind38 (w : World) : Calls Tryz.prog 25 #[.string ⟨#[98, 114]⟩] w fun e w' => e = .returned (.int .u8 7) ∧ w = w' := by
  go_enter Tryz.func25, Tryz.ntmps25
  go_big_wp2
  go_ret
  exact ⟨rfl, rfl⟩
set_option maxRecDepth 100000 in
set_option maxHeartbeats 2000000 in
theorem kind39 (w : World) : Calls Tryz.prog 25 #[.string ⟨#[119, 98, 114]⟩] w fun e w' => e = .returned (.int .u8 7) ∧ w = w' := by
  go_enter Tryz.func25, Tryz.ntmps25
  go_big_wp2
  go_ret
  exact ⟨rfl, rfl⟩
set_option maxRecDepth 100000 in
set_option maxHeartbeats 2000000 in
theorem kind40 (w : World) : Calls Tryz.prog 25 #[.string ⟨#[104, 114]⟩] w fun e w' => e = .returned (.int .u8 8) ∧ w = w' := by
  go_enter Tryz.func25, Tryz.ntmps25
  go_big_wp2
  go_ret
  exact ⟨rfl, rfl⟩
set_option maxRecDepth 100000 in
set_option maxHeartbeats 8000000 in
theorem kindNone (nm : ByteArray) (w : World) (h0 : ¬ bl nm = [100, 105, 118]) (h1 : ¬ bl nm = [117, 108]) (h2 : ¬ bl nm = [111, 108]) (h3 : ¬ bl nm = [115, 101, 99, 116, 105, 111, 110]) (h4 : ¬ bl nm = [97, 114, 116, 105, 99, 108, 101]) (h5 : ¬ bl nm = [104, 101, 97, 100, 101, 114]) (h6 : ¬ bl nm = [102, 111, 111, 116, 101, 114]) (h7 : ¬ bl nm = [109, 97, 105, 110]) (h8 : ¬ bl nm = [110, 97, 118]) (h9 : ¬ bl nm = [97, 115, 105, 100, 101]) (h10 : ¬ bl nm = [98, 108, 111, 99, 107, 113, 117, 111, 116, 101]) (h11 : ¬ bl nm = [102, 105, 103, 117, 114, 101]) (h12 : ¬ bl nm = [112]) (h13 : ¬ bl nm = [108, 105]) (h14 : ¬ bl nm = [104, 49]) (h15 : ¬ bl nm = [104, 50]) (h16 : ¬ bl nm = [104, 51]) (h17 : ¬ bl nm = [104, 52]) (h18 : ¬ bl nm = [104, 53]) (h19 : ¬ bl nm = [104, 54]) (h20 : ¬ bl nm = [115, 112, 97, 110]) (h21 : ¬ bl nm = [98]) (h22 : ¬ bl nm = [105]) (h23 : ¬ bl nm = [101, 109]) (h24 : ¬ bl nm = [115, 116, 114, 111, 110, 103]) (h25 : ¬ bl nm = [117]) (h26 : ¬ bl nm = [115]) (h27 : ¬ bl nm = [115, 109, 97, 108, 108]) (h28 : ¬ bl nm = [99, 111, 100, 101]) (h29 : ¬ bl nm = [98, 100, 105]) (h30 : ¬ bl nm = [98, 100, 111]) (h31 : ¬ bl nm = [97, 98, 98, 114]) (h32 : ¬ bl nm = [99, 105, 116, 101]) (h33 : ¬ bl nm = [113]) (h34 : ¬ bl nm = [115, 117, 98]) (h35 : ¬ bl nm = [115, 117, 112]) (h36 : ¬ bl nm = [109, 97, 114, 107]) (h37 : ¬ bl nm = [97]) (h38 : ¬ bl nm = [98, 114]) (h39 : ¬ bl nm = [119, 98, 114]) (h40 : ¬ bl nm = [104, 114]) : Calls Tryz.prog 25 #[.string nm] w fun e w' => e = .returned (.int .u8 0) ∧ w = w' := by
  rw [show bl nm = nm.toList from (Lib.toList_data nm).symm] at h0
  have g0 : (nm.toList == [100, 105, 118]) = false := beq_eq_false_iff_ne.2 h0
  rw [show bl nm = nm.toList from (Lib.toList_data nm).symm] at h1
  have g1 : (nm.toList == [117, 108]) = false := beq_eq_false_iff_ne.2 h1
  rw [show bl nm = nm.toList from (Lib.toList_data nm).symm] at h2
  have g2 : (nm.toList == [111, 108]) = false := beq_eq_false_iff_ne.2 h2
  rw [show bl nm = nm.toList from (Lib.toList_data nm).symm] at h3
  have g3 : (nm.toList == [115, 101, 99, 116, 105, 111, 110]) = false := beq_eq_false_iff_ne.2 h3
  rw [show bl nm = nm.toList from (Lib.toList_data nm).symm] at h4
  have g4 : (nm.toList == [97, 114, 116, 105, 99, 108, 101]) = false := beq_eq_false_iff_ne.2 h4
  rw [show bl nm = nm.toList from (Lib.toList_data nm).symm] at h5
  have g5 : (nm.toList == [104, 101, 97, 100, 101, 114]) = false := beq_eq_false_iff_ne.2 h5
  rw [show bl nm = nm.toList from (Lib.toList_data nm).symm] at h6
  have g6 : (nm.toList == [102, 111, 111, 116, 101, 114]) = false := beq_eq_false_iff_ne.2 h6
  rw [show bl nm = nm.toList from (Lib.toList_data nm).symm] at h7
  have g7 : (nm.toList == [109, 97, 105, 110]) = false := beq_eq_false_iff_ne.2 h7
  rw [show bl nm = nm.toList from (Lib.toList_data nm).symm] at h8
  have g8 : (nm.toList == [110, 97, 118]) = false := beq_eq_false_iff_ne.2 h8
  rw [show bl nm = nm.toList from (Lib.toList_data nm).symm] at h9
  have g9 : (nm.toList == [97, 115, 105, 100, 101]) = false := beq_eq_false_iff_ne.2 h9
  rw [show bl nm = nm.toList from (Lib.toList_data nm).symm] at h10
  have g10 : (nm.toList == [98, 108, 111, 99, 107, 113, 117, 111, 116, 101]) = false := beq_eq_false_iff_ne.2 h10
  rw [show bl nm = nm.toList from (Lib.toList_data nm).symm] at h11
  have g11 : (nm.toList == [102, 105, 103, 117, 114, 101]) = false := beq_eq_false_iff_ne.2 h11
  rw [show bl nm = nm.toList from (Lib.toList_data nm).symm] at h12
  have g12 : (nm.toList == [112]) = false := beq_eq_false_iff_ne.2 h12
  rw [show bl nm = nm.toList from (Lib.toList_data nm).symm] at h13
  have g13 : (nm.toList == [108, 105]) = false := beq_eq_false_iff_ne.2 h13
  rw [show bl nm = nm.toList from (Lib.toList_data nm).symm] at h14
  have g14 : (nm.toList == [104, 49]) = false := beq_eq_false_iff_ne.2 h14
  rw [show bl nm = nm.toList from (Lib.toList_data nm).symm] at h15
  have g15 : (nm.toList == [104, 50]) = false := beq_eq_false_iff_ne.2 h15
  rw [show bl nm = nm.toList from (Lib.toList_data nm).symm] at h16
  have g16 : (nm.toList == [104, 51]) = false := beq_eq_false_iff_ne.2 h16
  rw [show bl nm = nm.toList from (Lib.toList_data nm).symm] at h17
  have g17 : (nm.toList == [104, 52]) = false := beq_eq_false_iff_ne.2 h17
  rw [show bl nm = nm.toList from (Lib.toList_data nm).symm] at h18
  have g18 : (nm.toList == [104, 53]) = false := beq_eq_false_iff_ne.2 h18
  rw [show bl nm = nm.toList from (Lib.toList_data nm).symm] at h19
  have g19 : (nm.toList == [104, 54]) = false := beq_eq_false_iff_ne.2 h19
  rw [show bl nm = nm.toList from (Lib.toList_data nm).symm] at h20
  have g20 : (nm.toList == [115, 112, 97, 110]) = false := beq_eq_false_iff_ne.2 h20
  rw [show bl nm = nm.toList from (Lib.toList_data nm).symm] at h21
  have g21 : (nm.toList == [98]) = false := beq_eq_false_iff_ne.2 h21
  rw [show bl nm = nm.toList from (Lib.toList_data nm).symm] at h22
  have g22 : (nm.toList == [105]) = false := beq_eq_false_iff_ne.2 h22
  rw [show bl nm = nm.toList from (Lib.toList_data nm).symm] at h23
  have g23 : (nm.toList == [101, 109]) = false := beq_eq_false_iff_ne.2 h23
  rw [show bl nm = nm.toList from (Lib.toList_data nm).symm] at h24
  have g24 : (nm.toList == [115, 116, 114, 111, 110, 103]) = false := beq_eq_false_iff_ne.2 h24
  rw [show bl nm = nm.toList from (Lib.toList_data nm).symm] at h25
  have g25 : (nm.toList == [117]) = false := beq_eq_false_iff_ne.2 h25
  rw [show bl nm = nm.toList from (Lib.toList_data nm).symm] at h26
  have g26 : (nm.toList == [115]) = false := beq_eq_false_iff_ne.2 h26
  rw [show bl nm = nm.toList from (Lib.toList_data nm).symm] at h27
  have g27 : (nm.toList == [115, 109, 97, 108, 108]) = false := beq_eq_false_iff_ne.2 h27
  rw [show bl nm = nm.toList from (Lib.toList_data nm).symm] at h28
  have g28 : (nm.toList == [99, 111, 100, 101]) = false := beq_eq_false_iff_ne.2 h28
  rw [show bl nm = nm.toList from (Lib.toList_data nm).symm] at h29
  have g29 : (nm.toList == [98, 100, 105]) = false := beq_eq_false_iff_ne.2 h29
  rw [show bl nm = nm.toList from (Lib.toList_data nm).symm] at h30
  have g30 : (nm.toList == [98, 100, 111]) = false := beq_eq_false_iff_ne.2 h30
  rw [show bl nm = nm.toList from (Lib.toList_data nm).symm] at h31
  have g31 : (nm.toList == [97, 98, 98, 114]) = false := beq_eq_false_iff_ne.2 h31
  rw [show bl nm = nm.toList from (Lib.toList_data nm).symm] at h32
  have g32 : (nm.toList == [99, 105, 116, 101]) = false := beq_eq_false_iff_ne.2 h32
  rw [show bl nm = nm.toList from (Lib.toList_data nm).symm] at h33
  have g33 : (nm.toList == [113]) = false := beq_eq_false_iff_ne.2 h33
  rw [show bl nm = nm.toList from (Lib.toList_data nm).symm] at h34
  have g34 : (nm.toList == [115, 117, 98]) = false := beq_eq_false_iff_ne.2 h34
  rw [show bl nm = nm.toList from (Lib.toList_data nm).symm] at h35
  have g35 : (nm.toList == [115, 117, 112]) = false := beq_eq_false_iff_ne.2 h35
  rw [show bl nm = nm.toList from (Lib.toList_data nm).symm] at h36
  have g36 : (nm.toList == [109, 97, 114, 107]) = false := beq_eq_false_iff_ne.2 h36
  rw [show bl nm = nm.toList from (Lib.toList_data nm).symm] at h37
  have g37 : (nm.toList == [97]) = false := beq_eq_false_iff_ne.2 h37
  rw [show bl nm = nm.toList from (Lib.toList_data nm).symm] at h38
  have g38 : (nm.toList == [98, 114]) = false := beq_eq_false_iff_ne.2 h38
  rw [show bl nm = nm.toList from (Lib.toList_data nm).symm] at h39
  have g39 : (nm.toList == [119, 98, 114]) = false := beq_eq_false_iff_ne.2 h39
  rw [show bl nm = nm.toList from (Lib.toList_data nm).symm] at h40
  have g40 : (nm.toList == [104, 114]) = false := beq_eq_false_iff_ne.2 h40
  go_enter Tryz.func25, Tryz.ntmps25
  go_big_wp2
  go_ret
  exact ⟨rfl, rfl⟩
theorem kind_any (nm : ByteArray) (w : World) : Calls Tryz.prog 25 #[.string nm] w fun e w' => e = .returned (.int .u8 ((kindL (bl nm) : Nat) : Int)) ∧ w = w' := by
  by_cases h0 : bl nm = [100, 105, 118]
  · rw [h0, show nm = ⟨#[100, 105, 118]⟩ from bl_eq h0]
    exact kind0 w
  by_cases h1 : bl nm = [117, 108]
  · rw [h1, show nm = ⟨#[117, 108]⟩ from bl_eq h1]
    exact kind1 w
  by_cases h2 : bl nm = [111, 108]
  · rw [h2, show nm = ⟨#[111, 108]⟩ from bl_eq h2]
    exact kind2 w
  by_cases h3 : bl nm = [115, 101, 99, 116, 105, 111, 110]
  · rw [h3, show nm = ⟨#[115, 101, 99, 116, 105, 111, 110]⟩ from bl_eq h3]
    exact kind3 w
  by_cases h4 : bl nm = [97, 114, 116, 105, 99, 108, 101]
  · rw [h4, show nm = ⟨#[97, 114, 116, 105, 99, 108, 101]⟩ from bl_eq h4]
    exact kind4 w
  by_cases h5 : bl nm = [104, 101, 97, 100, 101, 114]
  · rw [h5, show nm = ⟨#[104, 101, 97, 100, 101, 114]⟩ from bl_eq h5]
    exact kind5 w
  by_cases h6 : bl nm = [102, 111, 111, 116, 101, 114]
  · rw [h6, show nm = ⟨#[102, 111, 111, 116, 101, 114]⟩ from bl_eq h6]
    exact kind6 w
  by_cases h7 : bl nm = [109, 97, 105, 110]
  · rw [h7, show nm = ⟨#[109, 97, 105, 110]⟩ from bl_eq h7]
    exact kind7 w
  by_cases h8 : bl nm = [110, 97, 118]
  · rw [h8, show nm = ⟨#[110, 97, 118]⟩ from bl_eq h8]
    exact kind8 w
  by_cases h9 : bl nm = [97, 115, 105, 100, 101]
  · rw [h9, show nm = ⟨#[97, 115, 105, 100, 101]⟩ from bl_eq h9]
    exact kind9 w
  by_cases h10 : bl nm = [98, 108, 111, 99, 107, 113, 117, 111, 116, 101]
  · rw [h10, show nm = ⟨#[98, 108, 111, 99, 107, 113, 117, 111, 116, 101]⟩ from bl_eq h10]
    exact kind10 w
  by_cases h11 : bl nm = [102, 105, 103, 117, 114, 101]
  · rw [h11, show nm = ⟨#[102, 105, 103, 117, 114, 101]⟩ from bl_eq h11]
    exact kind11 w
  by_cases h12 : bl nm = [112]
  · rw [h12, show nm = ⟨#[112]⟩ from bl_eq h12]
    exact kind12 w
  by_cases h13 : bl nm = [108, 105]
  · rw [h13, show nm = ⟨#[108, 105]⟩ from bl_eq h13]
    exact kind13 w
  by_cases h14 : bl nm = [104, 49]
  · rw [h14, show nm = ⟨#[104, 49]⟩ from bl_eq h14]
    exact kind14 w
  by_cases h15 : bl nm = [104, 50]
  · rw [h15, show nm = ⟨#[104, 50]⟩ from bl_eq h15]
    exact kind15 w
  by_cases h16 : bl nm = [104, 51]
  · rw [h16, show nm = ⟨#[104, 51]⟩ from bl_eq h16]
    exact kind16 w
  by_cases h17 : bl nm = [104, 52]
  · rw [h17, show nm = ⟨#[104, 52]⟩ from bl_eq h17]
    exact kind17 w
  by_cases h18 : bl nm = [104, 53]
  · rw [h18, show nm = ⟨#[104, 53]⟩ from bl_eq h18]
    exact kind18 w
  by_cases h19 : bl nm = [104, 54]
  · rw [h19, show nm = ⟨#[104, 54]⟩ from bl_eq h19]
    exact kind19 w
  by_cases h20 : bl nm = [115, 112, 97, 110]
  · rw [h20, show nm = ⟨#[115, 112, 97, 110]⟩ from bl_eq h20]
    exact kind20 w
  by_cases h21 : bl nm = [98]
  · rw [h21, show nm = ⟨#[98]⟩ from bl_eq h21]
    exact kind21 w
  by_cases h22 : bl nm = [105]
  · rw [h22, show nm = ⟨#[105]⟩ from bl_eq h22]
    exact kind22 w
  by_cases h23 : bl nm = [101, 109]
  · rw [h23, show nm = ⟨#[101, 109]⟩ from bl_eq h23]
    exact kind23 w
  by_cases h24 : bl nm = [115, 116, 114, 111, 110, 103]
  · rw [h24, show nm = ⟨#[115, 116, 114, 111, 110, 103]⟩ from bl_eq h24]
    exact kind24 w
  by_cases h25 : bl nm = [117]
  · rw [h25, show nm = ⟨#[117]⟩ from bl_eq h25]
    exact kind25 w
  by_cases h26 : bl nm = [115]
  · rw [h26, show nm = ⟨#[115]⟩ from bl_eq h26]
    exact kind26 w
  by_cases h27 : bl nm = [115, 109, 97, 108, 108]
  · rw [h27, show nm = ⟨#[115, 109, 97, 108, 108]⟩ from bl_eq h27]
    exact kind27 w
  by_cases h28 : bl nm = [99, 111, 100, 101]
  · rw [h28, show nm = ⟨#[99, 111, 100, 101]⟩ from bl_eq h28]
    exact kind28 w
  by_cases h29 : bl nm = [98, 100, 105]
  · rw [h29, show nm = ⟨#[98, 100, 105]⟩ from bl_eq h29]
    exact kind29 w
  by_cases h30 : bl nm = [98, 100, 111]
  · rw [h30, show nm = ⟨#[98, 100, 111]⟩ from bl_eq h30]
    exact kind30 w
  by_cases h31 : bl nm = [97, 98, 98, 114]
  · rw [h31, show nm = ⟨#[97, 98, 98, 114]⟩ from bl_eq h31]
    exact kind31 w
  by_cases h32 : bl nm = [99, 105, 116, 101]
  · rw [h32, show nm = ⟨#[99, 105, 116, 101]⟩ from bl_eq h32]
    exact kind32 w
  by_cases h33 : bl nm = [113]
  · rw [h33, show nm = ⟨#[113]⟩ from bl_eq h33]
    exact kind33 w
  by_cases h34 : bl nm = [115, 117, 98]
  · rw [h34, show nm = ⟨#[115, 117, 98]⟩ from bl_eq h34]
    exact kind34 w
  by_cases h35 : bl nm = [115, 117, 112]
  · rw [h35, show nm = ⟨#[115, 117, 112]⟩ from bl_eq h35]
    exact kind35 w
  by_cases h36 : bl nm = [109, 97, 114, 107]
  · rw [h36, show nm = ⟨#[109, 97, 114, 107]⟩ from bl_eq h36]
    exact kind36 w
  by_cases h37 : bl nm = [97]
  · rw [h37, show nm = ⟨#[97]⟩ from bl_eq h37]
    exact kind37 w
  by_cases h38 : bl nm = [98, 114]
  · rw [h38, show nm = ⟨#[98, 114]⟩ from bl_eq h38]
    exact kind38 w
  by_cases h39 : bl nm = [119, 98, 114]
  · rw [h39, show nm = ⟨#[119, 98, 114]⟩ from bl_eq h39]
    exact kind39 w
  by_cases h40 : bl nm = [104, 114]
  · rw [h40, show nm = ⟨#[104, 114]⟩ from bl_eq h40]
    exact kind40 w
  have h0' : kindL (bl nm) = 0 := by
    unfold kindL
    rw [show (kindTab.find? fun p => p.1 == bl nm) = none from ?_]
    · rfl
    · rw [List.find?_eq_none]
      intro p hp
      simp only [kindTab, List.mem_cons, List.not_mem_nil, or_false] at hp
      rcases hp with rfl | rfl | rfl | rfl | rfl | rfl | rfl | rfl | rfl | rfl | rfl | rfl | rfl | rfl | rfl | rfl | rfl | rfl | rfl | rfl | rfl | rfl | rfl | rfl | rfl | rfl | rfl | rfl | rfl | rfl | rfl | rfl | rfl | rfl | rfl | rfl | rfl | rfl | rfl | rfl | rfl
      all_goals (simp only [beq_iff_eq]; intro e; exact absurd e.symm (by assumption))
  rw [h0']
  exact kindNone nm w h0 h1 h2 h3 h4 h5 h6 h7 h8 h9 h10 h11 h12 h13 h14 h15 h16 h17 h18 h19 h20 h21 h22 h23 h24 h25 h26 h27 h28 h29 h30 h31 h32 h33 h34 h35 h36 h37 h38 h39 h40
end Go.Proofs.YtkfmfldkllkcbaaGreatDoor
namespace Go.Proofs.YtkfmfldkllkcbaaGreatDoor
open Go.RowKit Go.RunKit Go.CharrefKit Go.Lib Go.TokenKit Go.TreeKit

theorem ToldB.from_ {o : Except Nat BS} {w W W1 w' : World} {b : Nat} {e : Ending} (h : ToldB o w b W1 e w') (hk : Keeps W W1) : ToldB o w b W e w' := by
  unfold ToldB at h ⊢
  cases o with
  | error x => exact h
  | ok s2 => exact ⟨h.1, hk.trans h.2.1, h.2.2⟩
theorem ToldB.ret {o : Except Nat BS} {w W w' : World} {b : Nat} {e : Ending} (h : ToldB o w b W e w') : ∃ x : Nat, e = .returned (.int .i64 ((x : Nat) : Int)) := by
  unfold ToldB at h
  cases o with
  | error x => exact ⟨x, h.1⟩
  | ok s2 => exact ⟨0, h.1⟩
/-- What is asked of a token's attributes. -/
structure AtsIn (W : World) (ao : Option Addr) (n : Nat) (ats : List At) : Prop where
  len : ats.length = n
  few : n ≤ 4294967296
  size : ∀ a, a ∈ ats → a.1.length ≤ 70368744177664 ∧ a.2.length ≤ 70368744177664
  reads : ∀ W', Keeps W W' → AtReads W' ao ats
theorem AtsIn.on {W W1 : World} {ao : Option Addr} {n : Nat} {ats : List At} (h : AtsIn W ao n ats) (hk : Keeps W W1) : AtsIn W1 ao n ats := ⟨h.len, h.few, h.size, fun W' h' => h.reads W' (hk.trans h')⟩

set_option maxRecDepth 100000 in
set_option maxHeartbeats 8000000 in
theorem treeTag_any (w : World) (b tk n cap : Nat) (nm dt : ByteArray) (ao : Option Addr) (sf : Bool) (ats : List At) (tv ov pa bv : Value) (s : BS) (L : List NdV) (W : World) (hwf : WF s) (h200 : s.o.length ≤ 65536)
    (hats : AtsIn W ao n ats) (hnm : nm.size ≤ 70368744177664) (h : BAt w b tv ov pa bv s L W) :
    Calls Tryz.prog 70 #[.pointer (some ⟨b, 0, none⟩), .agg #[.int .u8 ((tk : Nat) : Int), .string nm, .slice ao n cap, .bool sf, .string dt]] W (ToldB (tagB s ⟨tk, bl nm, ats, sf, bl dt⟩) w b W) := by
  have HKd := Lib.hid fun W1 => kind_any nm W1
  have b1 : Below W.heap.size W (W.alloc (.cells #[.int .u8 ((tk : Nat) : Int), .string nm, .slice ao n cap, .bool sf, .string dt] TTk)) := (Below.refl _ _).alloc (Nat.le_refl _) _
  have hnew : (W.alloc (.cells #[.int .u8 ((tk : Nat) : Int), .string nm, .slice ao n cap, .bool sf, .string dt] TTk)).heap[W.heap.size]? = some (.cells #[.int .u8 ((tk : Nat) : Int), .string nm, .slice ao n cap, .bool sf, .string dt] TTk (0, 0)) := heap_alloc_new W _
  obtain ⟨⟨z0, z1, z2, z3, z4⟩, _⟩ := local5 hnew
  obtain ⟨kk, hkk⟩ : ∃ kk, kindL (bl nm) = kk := ⟨_, rfl⟩
  have hk8 : kk ≤ 8 := hkk ▸ kind_le (bl nm)
  rw [hkk] at HKd
  by_cases h0 : kk = 0
  · subst h0
    have ht : tagB s ⟨tk, bl nm, ats, sf, bl dt⟩ = .error 50 := by unfold tagB; rw [if_pos (by show (kindL (bl nm) == 0) = true; rw [hkk]; rfl)]
    rw [ht]
    have HB1 := Lib.hid (h.below.trans (b1.mono h.below.size))
    clear h hwf h200 hats hnm ht b1 hnew hkk hk8
    go_enter Tryz.func70, Tryz.ntmps70
    go_big_wp2_with (go_at_call 25; refine (HKd.out _).mono ?_; rintro e w1 ⟨rfl, rfl⟩)
    go_ret
    exact ⟨rfl, HB1.out⟩
  · have h0I : ((kk : Int) = 0) = False := eq_false (by omega)
    have h0B : ((kk : Int) == 0) = false := by rw [beq_eq_false_iff_ne]; omega
    have hkb : (kindL (bl nm) == 0) = false := by rw [hkk]; simp [h0]
    by_cases h2 : tk = 2
    · subst h2
      have ht : tagB s ⟨2, bl nm, ats, sf, bl dt⟩ = endTagL s (bl nm) kk := by
        unfold tagB
        rw [if_neg (by show ¬ (kindL (bl nm) == 0) = true; rw [hkb]; decide), if_pos (by rfl)]
        show endTagL s (bl nm) (kindL (bl nm)) = _
        rw [hkk]
      rw [ht]
      obtain ⟨aoo, capo, hov⟩ := sliceOf h.opens
      subst hov
      have HE := Lib.hid fun W1 (hb : Below W.heap.size W W1) => treeEnd_any w b kk nm tv pa bv s L W1 aoo capo s.o.length hwf.root rfl (by omega) (h.on hb)
      have HB1 := Lib.hid b1
      clear h hwf h200 hats hnm ht b1 hnew hkk hkb
      go_enter Tryz.func70, Tryz.ntmps70
      go_big_wp2_with (first
        | (go_at_call 25; refine (HKd.out _).mono ?_; rintro e w1 ⟨rfl, rfl⟩)
        | (go_at_call 103; refine (HE.out _ HB1.out).mono ?_; intro e w2 ht2; obtain ⟨x2, hx2⟩ := ht2.ret; subst hx2; have HT2 := Lib.hid ht2; clear ht2))
      go_ret
      exact HT2.out.from_ (Keeps.below HB1.out)
    · have h2I : ((tk : Int) = 2) = False := eq_false (by omega)
      have h2B : ((tk : Int) == 2) = false := by rw [beq_eq_false_iff_ne]; omega
      have ht : tagB s ⟨tk, bl nm, ats, sf, bl dt⟩ = startL s ⟨tk, bl nm, ats, sf, bl dt⟩ kk := by
        unfold tagB
        rw [if_neg (by show ¬ (kindL (bl nm) == 0) = true; rw [hkb]; decide), if_neg (by show ¬ (tk == 2) = true; simp [h2])]
        show startL s _ (kindL (bl nm)) = _
        rw [hkk]
      rw [ht]
      have HS := Lib.hid fun W1 (hb : Below W.heap.size W W1) => treeStart_any w b tk kk n cap nm dt ao sf ats tv ov pa bv s L W1 hwf h200 hk8 hats.len hats.few hats.size hnm (hats.on (Keeps.below hb)).reads (h.on hb)
      have HB1 := Lib.hid b1
      clear h hwf h200 hats hnm ht b1 hnew hkk hkb
      go_enter Tryz.func70, Tryz.ntmps70
      go_big_wp2_with (first
        | (go_at_call 25; refine (HKd.out _).mono ?_; rintro e w1 ⟨rfl, rfl⟩)
        | (go_at_call 104; refine (HS.out _ HB1.out).mono ?_; intro e w2 ht2; obtain ⟨x2, hx2⟩ := ht2.ret; subst hx2; have HT2 := Lib.hid ht2; clear ht2))
      go_ret
      exact HT2.out.from_ (Keeps.below HB1.out)
end Go.Proofs.YtkfmfldkllkcbaaGreatDoor
namespace Go.Proofs.YtkfmfldkllkcbaaGreatDoor
open Go.RowKit Go.RunKit Go.CharrefKit Go.Lib Go.TokenKit Go.TreeKit

set_option maxRecDepth 100000 in
set_option maxHeartbeats 8000000 in
theorem treeTake_any (w : World) (b tk n cap : Nat) (nm dt : ByteArray) (ao : Option Addr) (sf first : Bool) (ats : List At) (tv ov pa bv : Value) (s : BS) (L : List NdV) (W : World) (hwf : WF s) (h200 : s.o.length ≤ 65536)
    (hats : AtsIn W ao n ats) (hnm : nm.size ≤ 70368744177664) (hlen : s.ws.length + dt.size ≤ 70368744177664) (h : BAt w b tv ov pa bv s L W) :
    Calls Tryz.prog 42 #[.pointer (some ⟨b, 0, none⟩), .agg #[.int .u8 ((tk : Nat) : Int), .string nm, .slice ao n cap, .bool sf, .string dt], .bool first] W (ToldB (takeB s ⟨tk, bl nm, ats, sf, bl dt⟩ first) w b W) := by
  have b1 : Below W.heap.size W (W.alloc (.cells #[.int .u8 ((tk : Nat) : Int), .string nm, .slice ao n cap, .bool sf, .string dt] TTk)) := (Below.refl _ _).alloc (Nat.le_refl _) _
  have hnew : (W.alloc (.cells #[.int .u8 ((tk : Nat) : Int), .string nm, .slice ao n cap, .bool sf, .string dt] TTk)).heap[W.heap.size]? = some (.cells #[.int .u8 ((tk : Nat) : Int), .string nm, .slice ao n cap, .bool sf, .string dt] TTk (0, 0)) := heap_alloc_new W _
  obtain ⟨⟨z0, z1, z2, z3, z4⟩, _⟩ := local5 hnew
  have hok : ∀ W1 : World, Below W.heap.size W W1 → ToldB (.ok s) w b W (.returned (.int .i64 0)) W1 := fun W1 hb => by
    obtain ⟨aoo, capo, hov⟩ := sliceOf h.opens
    subst hov
    exact ⟨rfl, Keeps.below hb, _, aoo, capo, _, _, _, h.on hb⟩
  by_cases h5 : tk = 5
  · subst h5
    cases first with
    | true =>
      have ht : takeB s ⟨5, bl nm, ats, sf, bl dt⟩ true = .ok s := rfl
      rw [ht]
      have HO := Lib.hid (hok _ b1)
      clear h hwf h200 hats hnm hlen ht b1 hnew hok
      go_enter Tryz.func42, Tryz.ntmps42
      go_big_wp2
      go_ret
      exact HO.out
    | false =>
      have ht : takeB s ⟨5, bl nm, ats, sf, bl dt⟩ false = .error 51 := rfl
      rw [ht]
      have HB1 := Lib.hid (h.below.trans (b1.mono h.below.size))
      clear h hwf h200 hats hnm hlen ht b1 hnew hok
      go_enter Tryz.func42, Tryz.ntmps42
      go_big_wp2
      go_ret
      exact ⟨rfl, HB1.out⟩
  · by_cases h3 : tk = 3
    · subst h3
      have ht : takeB s ⟨3, bl nm, ats, sf, bl dt⟩ first = textL s (bl dt) := rfl
      rw [ht]
      have HX := Lib.hid fun W1 (hb : Below W.heap.size W W1) => text_any w b dt tv ov pa bv s L W1 hwf h200 hlen (h.on hb)
      have HB1 := Lib.hid b1
      clear h hwf h200 hats hnm hlen ht b1 hnew hok h5
      go_enter Tryz.func42, Tryz.ntmps42
      go_big_wp2_with (first
        | (go_at_call 69; refine (HX.out _ HB1.out).mono ?_; intro e w2 ht2; obtain ⟨x2, hx2⟩ := ht2.ret; subst hx2; have HT2 := Lib.hid ht2; clear ht2))
      go_ret
      exact HT2.out.from_ (Keeps.below HB1.out)
    · by_cases h12 : tk = 1 ∨ tk = 2
      · have ht : takeB s ⟨tk, bl nm, ats, sf, bl dt⟩ first = tagB s ⟨tk, bl nm, ats, sf, bl dt⟩ := by rcases h12 with rfl | rfl <;> rfl
        rw [ht]
        have HX := Lib.hid fun W1 (hb : Below W.heap.size W W1) => treeTag_any w b tk n cap nm dt ao sf ats tv ov pa bv s L W1 hwf h200 (hats.on (Keeps.below hb)) hnm (h.on hb)
        have HB1 := Lib.hid b1
        clear h hwf h200 hats hnm hlen ht b1 hnew hok h5 h3
        rcases h12 with rfl | rfl
        all_goals
          go_enter Tryz.func42, Tryz.ntmps42
          go_big_wp2_with (first
            | (go_at_call 70; refine (HX.out _ HB1.out).mono ?_; intro e w2 ht2; obtain ⟨x2, hx2⟩ := ht2.ret; subst hx2; have HT2 := Lib.hid ht2; clear ht2))
          go_ret
          exact HT2.out.from_ (Keeps.below HB1.out)
      · have h1 : ¬ tk = 1 := fun e => h12 (.inl e)
        have h2 : ¬ tk = 2 := fun e => h12 (.inr e)
        have ht : takeB s ⟨tk, bl nm, ats, sf, bl dt⟩ first = .ok s := by
          unfold takeB
          rw [if_neg (by show ¬ (tk == 5) = true; simp [h5]), if_neg (by show ¬ (tk == 3) = true; simp [h3]), if_neg (by show ¬ (tk == 1 || tk == 2) = true; simp [h1, h2])]
        rw [ht]
        have HO := Lib.hid (hok _ b1)
        have g1 : ((tk : Int) == 1) = false := by rw [beq_eq_false_iff_ne]; omega
        have g2 : ((tk : Int) == 2) = false := by rw [beq_eq_false_iff_ne]; omega
        have g3 : ((tk : Int) == 3) = false := by rw [beq_eq_false_iff_ne]; omega
        have g5 : ((tk : Int) == 5) = false := by rw [beq_eq_false_iff_ne]; omega
        clear h hwf h200 hats hnm hlen ht b1 hnew hok h1 h2 h3 h5 h12
        go_enter Tryz.func42, Tryz.ntmps42
        go_big_wp2
        go_ret
        exact HO.out
end Go.Proofs.YtkfmfldkllkcbaaGreatDoor
namespace Go.TreeKit
open Go Go.Lib Go.TokenKit
theorem text_bounds {s s2 : BS} {d : Bytes} (h : s.o.length ≤ 201) (ha : textL s d = .ok s2) : s2.o.length ≤ 201 ∧ s2.ws.length ≤ s.ws.length + d.length := by
  unfold textL at ha
  split at ha
  · cases ha; exact ⟨h, Nat.le_add_right _ _⟩
  · split at ha
    · cases ha; exact ⟨h, by rw [List.length_append]; exact Nat.le_refl _⟩
    · split at ha
      · cases ha
      · rename_i s3 h3
        cases ha
        obtain ⟨h1, h2, h3', h4⟩ := addL_len h3
        exact ⟨by rw [h2]; exact h, by rw [h3']; simp⟩
theorem start_bounds {s s2 : BS} {t : Tok} {k : Nat} (ha : startL s t k = .ok s2) : s2.o.length ≤ 201 ∧ s2.ws.length ≤ s.ws.length + t.data.length := by
  unfold startL at ha
  split at ha
  · cases ha
  · split at ha
    · cases ha
    · split at ha
      · cases ha
      · rename_i hl
        split at ha
        · cases ha
        · rename_i s3 h3
          obtain ⟨h1, h2, h3', h4⟩ := addL_len h3
          cases ha
          split
          · exact ⟨by rw [h2]; show (closeAheadL k s.o).length ≤ 201; omega, by rw [h3']; simp⟩
          · exact ⟨by show (_ :: s3.o).length ≤ 201; rw [List.length_cons, h2]; show (closeAheadL k s.o).length + 1 ≤ 201; omega, by show s3.ws.length ≤ _; rw [h3']; simp⟩
theorem endTag_bounds {s s2 : BS} {name d : Bytes} {k : Nat} (h : s.o.length ≤ 201) (ha : endTagL s name k = .ok s2) : s2.o.length ≤ 201 ∧ s2.ws.length ≤ s.ws.length + d.length := by
  unfold endTagL at ha
  split at ha
  · cases ha
    have := closeEnd_le k s.o
    exact ⟨by show (closeEndL k s.o).tail.length ≤ 201; rw [List.length_tail]; omega, Nat.le_add_right _ _⟩
  · cases ha
theorem take_bounds {s s2 : BS} {t : Tok} {f : Bool} (h : s.o.length ≤ 201) (ha : takeB s t f = .ok s2) : s2.o.length ≤ 201 ∧ s2.ws.length ≤ s.ws.length + t.data.length := by
  unfold takeB at ha
  split at ha
  · split at ha
    · cases ha; exact ⟨h, Nat.le_add_right _ _⟩
    · cases ha
  · split at ha
    · exact text_bounds h ha
    · split at ha
      · unfold tagB at ha
        split at ha
        · cases ha
        · split at ha
          · exact endTag_bounds h ha
          · exact start_bounds ha
      · cases ha; exact ⟨h, Nat.le_add_right _ _⟩
/-- The data's lengths in all. -/
def dataSum (l : List Tok) : Nat := (l.map fun t => t.data.length).foldr (· + ·) 0
theorem dataSum_cons (t : Tok) (l : List Tok) : dataSum (t :: l) = t.data.length + dataSum l := rfl
theorem dataSum_drop : ∀ (l : List Tok) (k : Nat) (t : Tok), l[k]? = some t → dataSum (l.drop k) = t.data.length + dataSum (l.drop (k + 1))
  | [], k, t, h => by simp at h
  | x :: r, 0, t, h => by
    simp only [List.getElem?_cons_zero, Option.some.injEq] at h
    subst h; rfl
  | x :: r, k + 1, t, h => by
    have := dataSum_drop r k t (by simpa using h)
    simpa using this
theorem buildF_step {k : Nat} {s : BS} {l : List Tok} {t : Tok} (h : l[k]? = some t) : buildF k s (l.drop k) = (match takeB s t (k == 0) with
    | .error e => .error (e, k)
    | .ok s2 => buildF (k + 1) s2 (l.drop (k + 1))) := by
  have hk := (List.getElem?_eq_some_iff.1 h).1
  have e : l.drop k = t :: l.drop (k + 1) := by
    rw [List.drop_eq_getElem_cons hk, (List.getElem?_eq_some_iff.1 h).2]
  rw [e]
  rfl
/-- The state at the loop's head. -/
structure LoopB (l : List Tok) (k : Nat) (s : BS) : Prop where
  wf : WF s
  open_ : s.o.length ≤ 201
  words : s.ws.length + dataSum (l.drop k) ≤ dataSum l
  spec : buildF k s (l.drop k) = buildF 0 beginB l
theorem LoopB.begin_ (l : List Tok) : LoopB l 0 beginB := ⟨WF.begin_, by decide, by show 0 + dataSum l ≤ _; omega, rfl⟩
theorem LoopB.step {l : List Tok} {k : Nat} {s s2 : BS} {t : Tok} (h : LoopB l k s) (ht : l[k]? = some t) (ha : takeB s t (k == 0) = .ok s2) : LoopB l (k + 1) s2 := by
  have hb := take_bounds h.open_ ha
  have hd := dataSum_drop l k t ht
  have hw := h.words
  refine ⟨h.wf.take ha, hb.1, by omega, ?_⟩
  rw [← h.spec, buildF_step ht, ha]
theorem LoopB.stop {l : List Tok} {k x : Nat} {s : BS} {t : Tok} (h : LoopB l k s) (ht : l[k]? = some t) (ha : takeB s t (k == 0) = .error x) : buildL l = ([], x, k) := by
  unfold buildL
  rw [← h.spec, buildF_step ht, ha]
theorem LoopB.done {l : List Tok} {s : BS} (h : LoopB l l.length s) : buildL l = ((flushL s).t, 0, 0) := by
  unfold buildL
  rw [← h.spec, List.drop_length]
  rfl
theorem takeB_err {s : BS} {t : Tok} {f : Bool} {x : Nat} (h : takeB s t f = .error x) : x = 3 ∨ x = 50 ∨ x = 51 ∨ x = 52 := by
  have hadd : ∀ (s : BS) (n : Nd) (y : Nat), addL s n = .error y → y = 3 := fun s n y hy => by
    unfold addL at hy
    split at hy
    · cases hy; rfl
    · cases hy
  unfold takeB at h
  split at h
  · split at h
    · cases h
    · cases h; exact .inr (.inr (.inl rfl))
  · split at h
    · unfold textL at h
      split at h
      · cases h
      · split at h
        · cases h
        · split at h
          · rename_i e he
            cases h
            exact .inl (hadd _ _ _ he)
          · cases h
    · split at h
      · unfold tagB at h
        split at h
        · cases h; exact .inr (.inl rfl)
        · split at h
          · unfold endTagL at h
            split at h
            · cases h
            · cases h; exact .inr (.inr (.inl rfl))
          · unfold startL at h
            split at h
            · cases h; exact .inr (.inr (.inl rfl))
            · split at h
              · cases h; exact .inr (.inr (.inl rfl))
              · split at h
                · cases h; exact .inr (.inr (.inr rfl))
                · split at h
                  · rename_i e he
                    cases h
                    exact .inl (hadd _ _ _ he)
                  · cases h
      · cases h
end Go.TreeKit
namespace Go.Proofs.YtkfmfldkllkcbaaGreatDoor
open Go.RowKit Go.RunKit Go.CharrefKit Go.Lib Go.TokenKit Go.TreeKit

/-- What is asked of the tokens. -/
structure TksIn (W : World) (ao : Option Addr) (n : Nat) (l : List Tok) : Prop where
  len : l.length = n
  few : n ≤ 4294967296
  sum : dataSum l ≤ 70368744177664
  name : ∀ t, t ∈ l → t.name.length ≤ 70368744177664
  reads : ∀ W', Keeps W W' → ∀ k t, l[k]? = some t → ∃ g a2 c2, ao = some ⟨g, 0, none⟩ ∧ W'.cell? ⟨g, k * 5, none⟩ = some (.int .u8 ((t.kind : Nat) : Int)) ∧ W'.cell? ⟨g, k * 5 + 1, none⟩ = some (.string ⟨t.name.toArray⟩) ∧ W'.cell? ⟨g, k * 5 + 2, none⟩ = some (.slice a2 t.attrs.length c2) ∧ W'.cell? ⟨g, k * 5 + 3, none⟩ = some (.bool t.self) ∧ W'.cell? ⟨g, k * 5 + 4, none⟩ = some (.string ⟨t.data.toArray⟩) ∧ AtsIn W' a2 t.attrs.length t.attrs

theorem NdRow.nil (w : World) (base : Nat) : NdRow w base (.slice none 0 0) [] := ⟨World.ownsRow_nil _ _ _ _, fun x h => (by cases h), fun x h => (by cases h), fun i j x y hi => (by simp at hi)⟩
/-- The builder's beginning in memory. -/
theorem BAt.begin_ {w W : World} {g h b : Nat} (hb : Below w.heap.size w W) (h1 : w.heap.size ≤ g) (h2 : w.heap.size ≤ h) (h3 : w.heap.size ≤ b)
    (hg : W.heap[g]? = some (.cells #[.int .u8 0, .string ⟨#[]⟩, .slice none 0 0, .string ⟨#[]⟩, .int .i64 (-1), .slice none 0 0] TNd (0, 0))) (hh : W.heap[h]? = some (.cells #[.int .i64 0, .string ⟨#[]⟩, .int .u8 0] TOp (0, 0)))
    (hbb : W.heap[b]? = some (.cells #[.slice (some ⟨g, 0, none⟩) 1 1, .slice (some ⟨h, 0, none⟩) 1 1, .pointer none, .slice none 0 0] TBd (0, 0))) :
    BAt w b (.slice (some ⟨g, 0, none⟩) 1 1) (.slice (some ⟨h, 0, none⟩) beginB.o.length 1) (.pointer none) (.slice none 0 0) beginB [(rootNd, (.slice none 0 0, .slice none 0 0))] W := by
  refine ⟨hb, h3, hbb, ⟨⟨rfl, .inr ⟨g, 1, _, rfl, h1, hg, Nat.le_refl _, by decide, rfl, rfl⟩⟩, fun x hx => ?_, fun x hx => ?_, fun i j x y hi hj hne p hp => ?_⟩, rfl, ⟨rfl, .inr ⟨h, 1, _, rfl, h2, hh, Nat.le_refl _, by decide, rfl, rfl⟩⟩, .inl ⟨rfl, rfl, rfl⟩⟩
  · rw [List.mem_singleton] at hx; subst hx; exact World.ownsRow_nil _ _ _ _
  · rw [List.mem_singleton] at hx; subst hx; exact World.ownsRow_nil _ _ _ _
  · have := List.mem_of_getElem? hi
    rw [List.mem_singleton] at this
    subst this
    cases hp

set_option maxRecDepth 100000 in
set_option maxHeartbeats 8000000 in
theorem build_any (l : List Tok) (ao : Option Addr) (cap n : Nat) (w : World) (h : TksIn w ao n l) :
    Calls Tryz.prog 16 #[.slice ao n cap] w fun e w' => ∃ v L er pl, e = .returned (.tuple #[v, .int .i64 ((er : Nat) : Int), .int .i64 ((pl : Nat) : Int)]) ∧ Below w.heap.size w w' ∧ NdRow w' w.heap.size v L ∧ (L.map (·.1), er, pl) = buildL l := by
  have H := Lib.hid h
  have hn32 := h.few
  have hlen := h.len
  have T0 : Hid (BAt w (w.heap.size + 1 + 1) (.slice (some ⟨w.heap.size, 0, none⟩) 1 1) (.slice (some ⟨w.heap.size + 1, 0, none⟩) beginB.o.length 1) (.pointer none) (.slice none 0 0) beginB [(rootNd, (.slice none 0 0, .slice none 0 0))] (((w.alloc (.cells #[.int .u8 0, .string ⟨#[]⟩, .slice none 0 0, .string ⟨#[]⟩, .int .i64 (-1), .slice none 0 0] TNd)).alloc (.cells #[.int .i64 0, .string ⟨#[]⟩, .int .u8 0] TOp)).alloc (.cells #[.slice (some ⟨w.heap.size, 0, none⟩) 1 1, .slice (some ⟨w.heap.size + 1, 0, none⟩) 1 1, .pointer none, .slice none 0 0] TBd))) := Lib.hid (by
    have e0 := heap_alloc_new w (.cells #[.int .u8 0, .string ⟨#[]⟩, .slice none 0 0, .string ⟨#[]⟩, .int .i64 (-1), .slice none 0 0] TNd)
    have b1 : Below w.heap.size w (w.alloc (.cells #[.int .u8 0, .string ⟨#[]⟩, .slice none 0 0, .string ⟨#[]⟩, .int .i64 (-1), .slice none 0 0] TNd)) := (Below.refl _ _).alloc (Nat.le_refl _) _
    have s1 : (w.alloc (.cells #[.int .u8 0, .string ⟨#[]⟩, .slice none 0 0, .string ⟨#[]⟩, .int .i64 (-1), .slice none 0 0] TNd)).heap.size = w.heap.size + 1 := by simp
    generalize w.alloc (.cells #[.int .u8 0, .string ⟨#[]⟩, .slice none 0 0, .string ⟨#[]⟩, .int .i64 (-1), .slice none 0 0] TNd) = W1 at *
    have e1 := heap_alloc_new W1 (.cells #[.int .i64 0, .string ⟨#[]⟩, .int .u8 0] TOp)
    have b2 : Below W1.heap.size W1 (W1.alloc (.cells #[.int .i64 0, .string ⟨#[]⟩, .int .u8 0] TOp)) := (Below.refl _ _).alloc (Nat.le_refl _) _
    have s2 : (W1.alloc (.cells #[.int .i64 0, .string ⟨#[]⟩, .int .u8 0] TOp)).heap.size = w.heap.size + 1 + 1 := by simp [s1]
    have e02 := (b2.block _ (by rw [s1]; exact Nat.lt_succ_self _)).trans e0
    generalize W1.alloc (.cells #[.int .i64 0, .string ⟨#[]⟩, .int .u8 0] TOp) = W2 at *
    rw [s1] at e1
    have b3 : Below W2.heap.size W2 (W2.alloc (.cells #[.slice (some ⟨w.heap.size, 0, none⟩) 1 1, .slice (some ⟨w.heap.size + 1, 0, none⟩) 1 1, .pointer none, .slice none 0 0] TBd)) := (Below.refl _ _).alloc (Nat.le_refl _) _
    have e3 := heap_alloc_new W2 (.cells #[.slice (some ⟨w.heap.size, 0, none⟩) 1 1, .slice (some ⟨w.heap.size + 1, 0, none⟩) 1 1, .pointer none, .slice none 0 0] TBd)
    rw [s2] at e3
    have e03 := (b3.block w.heap.size (by rw [s2]; omega)).trans e02
    have e13 := (b3.block (w.heap.size + 1) (by rw [s2]; omega)).trans e1
    exact BAt.begin_ (b1.trans ((b2.trans (b3.mono (by rw [s2, s1]; omega))).mono (by rw [s1]; omega))) (Nat.le_refl _) (by omega) (by omega) e03 e13 e3)
  have K0 : Hid (Keeps w (((w.alloc (.cells #[.int .u8 0, .string ⟨#[]⟩, .slice none 0 0, .string ⟨#[]⟩, .int .i64 (-1), .slice none 0 0] TNd)).alloc (.cells #[.int .i64 0, .string ⟨#[]⟩, .int .u8 0] TOp)).alloc (.cells #[.slice (some ⟨w.heap.size, 0, none⟩) 1 1, .slice (some ⟨w.heap.size + 1, 0, none⟩) 1 1, .pointer none, .slice none 0 0] TBd))) := Lib.hid (Keeps.below T0.out.below)
  have L0 := Lib.hid (LoopB.begin_ l)
  have HLen := Lib.hid hlen
  obtain ⟨an, han⟩ : ∃ an, buildL l = an := ⟨_, rfl⟩
  have HAn := Lib.hid han
  rw [han]
  clear h hlen han
  go_enter Tryz.func16, Tryz.ntmps16
  go_big_wp2
  generalize ((w.alloc (.cells #[.int .u8 0, .string ⟨#[]⟩, .slice none 0 0, .string ⟨#[]⟩, .int .i64 (-1), .slice none 0 0] TNd)).alloc (.cells #[.int .i64 0, .string ⟨#[]⟩, .int .u8 0] TOp)).alloc (.cells #[.slice (some ⟨w.heap.size, 0, none⟩) 1 1, .slice (some ⟨w.heap.size + 1, 0, none⟩) 1 1, .pointer none, .slice none 0 0] TBd) = W0 at *
  obtain ⟨b, hb⟩ : ∃ b, w.heap.size + 1 + 1 = b := ⟨_, rfl⟩
  rw [hb] at T0 ⊢
  clear hb
  go_loopw [16] (fun i wr => ∃ (k : Nat) (s : BS) (tv : Value) (ao2 : Option Addr) (cap2 : Nat) (pa bv : Value) (L : List NdV), i = .int .i64 (k : Nat) ∧ k ≤ n ∧ Hid (LoopB l k s) ∧ Hid (BAt w b tv (.slice ao2 s.o.length cap2) pa bv s L wr) ∧ Hid (Keeps w wr)) (fun i _ => n - (RowKit.intOf i).toNat)
  case atStart => exact ⟨0, beginB, _, _, 1, _, _, _, rfl, Nat.zero_le _, L0, T0, K0⟩
  case round =>
    clear T0 K0 L0
    obtain ⟨k, s, tv, ao2, cap2, pa, bv, L, rfl, hkn, HL, HB, HK⟩ := hrel
    by_cases hlt : k < n
    · have hltI : (k : Int) < n := by omega
      have hk0 : (0 : Int) ≤ k := by omega
      obtain ⟨t, ht⟩ : ∃ t, l[k]? = some t := ⟨l[k]'(by rw [HLen.out]; exact hlt), by simp [show k < l.length by rw [HLen.out]; exact hlt]⟩
      obtain ⟨g, a2, c2, hg, c0, c1, c2', c3, c4, hats⟩ := H.out.reads wr HK.out k t ht
      subst hg
      have hnml := H.out.name t (List.mem_of_getElem? ht)
      have hdl := dataSum_drop l k t ht
      have hws := HL.out.words
      have hsm := H.out.sum
      obtain ⟨nm, hnm⟩ : ∃ nm : ByteArray, (⟨t.name.toArray⟩ : ByteArray) = nm := ⟨_, rfl⟩
      obtain ⟨dt, hdt⟩ : ∃ dt : ByteArray, (⟨t.data.toArray⟩ : ByteArray) = dt := ⟨_, rfl⟩
      have hnb : bl nm = t.name := by rw [← hnm, bl_of]
      have hdb : bl dt = t.data := by rw [← hdt, bl_of]
      rw [hnm] at c1
      rw [hdt] at c4
      obtain ⟨m, hm⟩ : ∃ m, t.attrs.length = m := ⟨_, rfl⟩
      rw [hm] at c2' hats
      obtain ⟨z, hz⟩ : ∃ z, ((k : Int) == 0) = z := ⟨_, rfl⟩
      have hzn : (k == 0) = z := by rw [← hz, Bool.eq_iff_iff, beq_iff_eq, beq_iff_eq]; omega
      have hzd : decide ((k : Int) = 0) = z := by rw [← hz]; rfl
      have hwss : s.ws.length + dt.size ≤ 70368744177664 := by rw [← bl_length, hdb]; omega
      have HTk := Lib.hid fun W1 (hb1 : Below wr.heap.size wr W1) => treeTake_any w b t.kind m c2 nm dt a2 t.self z t.attrs tv (.slice ao2 s.o.length cap2) pa bv s L W1 HL.out.wf (by have := HL.out.open_; omega) (hats.on (Keeps.below hb1)) (by rw [← bl_length, hnb]; exact hnml) hwss (HB.out.on hb1)
      rw [hnb, hdb, show (⟨t.kind, t.name, t.attrs, t.self, t.data⟩ : Tok) = t from rfl] at HTk
      have Ht := Lib.hid ht
      have HZ := Lib.hid hzn
      obtain ⟨kd, hkd⟩ : ∃ kd, t.kind = kd := ⟨_, rfl⟩
      obtain ⟨sf, hsf⟩ : ∃ sf, t.self = sf := ⟨_, rfl⟩
      rw [hkd] at c0 HTk
      rw [hsf] at c3 HTk
      have b1 : Below wr.heap.size wr (wr.alloc (.cells #[.int .u8 ((kd : Nat) : Int), .string nm, .slice a2 m c2, .bool sf, .string dt] TTk)) := (Below.refl _ _).alloc (Nat.le_refl _) _
      have HB1 := Lib.hid b1
      clear ht hnml hdl hws hsm hnm hdt hnb hdb hm hzn hwss hats hkd hsf b1
      cases ho : takeB s t z with
      | error x =>
        rw [ho] at HTk
        unfold ToldB at HTk
        have hx := takeB_err ho
        have hx0 : ((x : Int) = 0) = False := eq_false (by omega)
        have hxB : ((x : Int) == 0) = false := by rw [beq_eq_false_iff_ne]; omega
        have hxN : ((x : Int) != 0) = true := by rw [bne_iff_ne]; omega
        have hfin := HL.out.stop Ht.out (by rw [HZ.out]; exact ho)
        rw [HAn.out] at hfin
        have HF := Lib.hid hfin
        clear hfin ho hx
        go_big_wp2_with (first
          | (go_at_call 42; refine (HTk.out _ HB1.out).mono ?_; rintro e w2 ⟨rfl, hb2⟩; have HB2 := Lib.hid hb2; clear hb2))
        go_ret3
        exact ⟨_, [], x, k, rfl, HB2.out, NdRow.nil _ _, HF.out.symm⟩
      | ok s2 =>
        rw [ho] at HTk
        unfold ToldB at HTk
        have HL2 := Lib.hid (HL.out.step Ht.out (by rw [HZ.out]; exact ho))
        clear ho
        go_big_wp2_with (first
          | (go_at_call 42; refine (HTk.out _ HB1.out).mono ?_; rintro e w2 ⟨rfl, hk2, tv2, ao3, cap3, pa2, bv2, L2, hB2⟩; have HK2 := Lib.hid ((HK.out.trans (Keeps.below HB1.out)).trans hk2); have HB2 := Lib.hid hB2; clear hk2 hB2))
        exact ⟨⟨k + 1, s2, tv2, ao3, cap3, pa2, bv2, L2, by simp, by omega, HL2, HB2, HK2⟩, by simp [RowKit.intOf] <;> omega⟩
    · have hltI : ¬ (k : Int) < n := by omega
      have hkn2 : k = n := by omega
      subst hkn2
      obtain ⟨aot, capt, htv⟩ := sliceOf HB.out.tree.row
      subst htv
      have HE := Lib.hid (endText_any w b _ _ pa bv s L wr HL.out.wf.pos HL.out.wf.few HB.out)
      have hfin : an = ((flushL s).t, 0, 0) := by
        have e := HL.out
        rw [← HLen.out] at e
        rw [← HAn.out]
        exact e.done
      have HF := Lib.hid hfin
      clear hfin
      unfold ToldF at HE
      go_big_wp2_with (first
        | (go_at_call 43; refine HE.out.mono ?_; rintro e w2 ⟨rfl, hk2, hk3, pa2, bv2, L2, hB2⟩; obtain ⟨⟨x0, x1, x2, x3⟩, y0, y1, y2, y3⟩ := local4 hB2.blk; have HB2 := Lib.hid hB2; clear hk2 hk3 hB2))
      go_ret3
      exact ⟨_, L2, 0, 0, rfl, HB2.out.below, HB2.out.tree, by rw [HF.out, ← HB2.out.spec]⟩
end Go.Proofs.YtkfmfldkllkcbaaGreatDoor
namespace Go.Proofs.YtkfmfldkllkcbaaGreatDoor
open Go.RowKit Go.RunKit Go.CharrefKit Go.Lib Go.TokenKit Go.TreeKit

theorem AtsIn.of {W : World} {base : Nat} {v : Value} {l : List At} (h : AtRow W base v l) (hn : l.length ≤ 4294967296) (hs : ∀ a, a ∈ l → a.1.length ≤ 70368744177664 ∧ a.2.length ≤ 70368744177664) : ∃ ao cap, v = .slice ao l.length cap ∧ AtsIn W ao l.length l := by
  obtain ⟨ao, cap, hv, _⟩ := h.reads
  refine ⟨ao, cap, hv, rfl, hn, hs, fun W' hk => ?_⟩
  obtain ⟨ao2, cap2, hv2, h2⟩ := (h.keeps hk).reads
  rw [hv] at hv2
  cases hv2
  exact h2
theorem own_keeps {W W' : World} {base size n : Nat} {v : Value} {xs : List Value} {T : TypeId} (h : W.ownsRow base T size v n xs) (hk : Keeps W W') (h1 : T ≠ TBd) (h2 : T ≠ TOp) (h3 : T ≠ TNd) (h4 : T ≠ TIn) (h5 : T ≠ TU8) : W'.ownsRow base T size v n xs := by
  refine ⟨h.1, ?_⟩
  rcases h.2 with h' | ⟨g, cap, cur, e, hb, hg, rest⟩
  · exact .inl h'
  · exact .inr ⟨g, cap, cur, e, hb, hk g cur T (0, 0) hg h1 h2 h3 h4 h5, rest⟩
theorem TksIn.of {W : World} {base : Nat} {v : Value} {L : List (Tok × Value)} (h : TkRow TTk W base v L) (hn : L.length ≤ 4294967296) (hsum : dataSum (L.map (·.1)) ≤ 70368744177664) (hname : ∀ t, t ∈ L.map (·.1) → t.name.length ≤ 70368744177664)
    (hat : ∀ t, t ∈ L.map (·.1) → t.attrs.length ≤ 4294967296 ∧ ∀ a, a ∈ t.attrs → a.1.length ≤ 70368744177664 ∧ a.2.length ≤ 70368744177664) : ∃ ao cap, v = .slice ao L.length cap ∧ TksIn W ao L.length (L.map (·.1)) := by
  obtain ⟨ao, cap, hv⟩ := sliceOf h.row
  subst hv
  refine ⟨ao, cap, rfl, by rw [List.length_map], hn, hsum, hname, fun W' hk k t ht => ?_⟩
  rw [List.getElem?_map, Option.map_eq_some_iff] at ht
  obtain ⟨x, hx, rfl⟩ := ht
  have hxm := List.mem_of_getElem? hx
  have hkl := (List.getElem?_eq_some_iff.1 hx).1
  have hrow := own_keeps h.row hk (by decide) (by decide) (by decide) (by decide) (by decide)
  obtain ⟨hl, ha⟩ := hat x.1 (List.mem_map_of_mem hxm)
  obtain ⟨a2, c2, hv2, hin⟩ := AtsIn.of ((h.sub x hxm).keeps hk) hl ha
  obtain ⟨e0, e1, e2, e3, e4⟩ := tkCells_at hx
  rw [hv2] at e2
  rcases hrow.2 with ⟨_, hn0⟩ | ⟨g, cp, cur, e, _⟩
  · omega
  · cases e
    refine ⟨g, a2, c2, rfl, ?_, ?_, ?_, ?_, ?_, hin⟩
    · rw [World.ownsRow.cellAt hrow (k * 5) (by omega)]; exact e0
    · rw [World.ownsRow.cellAt hrow (k * 5 + 1) (by omega)]; exact e1
    · rw [World.ownsRow.cellAt hrow (k * 5 + 2) (by omega)]; exact e2
    · rw [World.ownsRow.cellAt hrow (k * 5 + 3) (by omega)]; exact e3
    · rw [World.ownsRow.cellAt hrow (k * 5 + 4) (by omega)]; exact e4
end Go.Proofs.YtkfmfldkllkcbaaGreatDoor
namespace Go.TreeKit
open Go Go.Lib Go.TokenKit
theorem toks_count : ∀ (n p : Nat) (l : Bytes) (ts : List Tok), l.length ≤ n → toksAt p l = .ok ts → ts.length ≤ l.length
  | 0, p, l, ts, hn, h => by
    have : l = [] := List.length_eq_zero_iff.1 (by omega)
    subst this
    rw [toksAt_nil] at h
    cases h; exact Nat.le_refl _
  | n + 1, p, l, ts, hn, h => by
    by_cases hl : l = []
    · subst hl
      rw [toksAt_nil] at h
      cases h; exact Nat.le_refl _
    · rw [toksAt_step p hl] at h
      split at h
      · cases h
      · rename_i t r ho
        have hr := one_len hl ho
        split at h
        · cases h
        · rename_i ts2 h2
          cases h
          have := toks_count n _ r ts2 (by omega) h2
          simp only [List.length_cons]
          omega
/-- A fact of each token that 'oneL' tells of a part of the text is one of all of them. -/
theorem toks_all {P : Tok → Prop} {N : Nat} (hP : ∀ (l r : Bytes) (t : Tok), l.length ≤ N → oneL l = .ok (t, r) → P t) : ∀ (n p : Nat) (l : Bytes) (ts : List Tok), l.length ≤ n → l.length ≤ N → toksAt p l = .ok ts → ∀ t, t ∈ ts → P t
  | 0, p, l, ts, hn, _, h => by
    have : l = [] := List.length_eq_zero_iff.1 (by omega)
    subst this
    rw [toksAt_nil] at h
    cases h
    intro t ht; cases ht
  | n + 1, p, l, ts, hn, hN, h => by
    by_cases hl : l = []
    · subst hl
      rw [toksAt_nil] at h
      cases h
      intro t ht; cases ht
    · rw [toksAt_step p hl] at h
      split at h
      · cases h
      · rename_i t r ho
        have hr := one_len hl ho
        split at h
        · cases h
        · rename_i ts2 h2
          cases h
          intro y hy
          rcases List.mem_cons.1 hy with rfl | hy
          · exact hP l r _ hN ho
          · exact toks_all hP n _ r ts2 (by omega) (by omega) h2 y hy
/-- The sum of the data, given a bound on each. -/
theorem dataSum_le {B : Nat} : ∀ (l : List Tok), (∀ t, t ∈ l → t.data.length ≤ B) → dataSum l ≤ l.length * B
  | [], _ => Nat.zero_le _
  | t :: r, h => by
    have h1 := h t (by simp)
    have h2 := dataSum_le r (fun y hy => h y (by simp [hy]))
    rw [dataSum_cons, List.length_cons, Nat.add_mul, Nat.one_mul]
    omega
end Go.TreeKit
namespace Go.TreeKit
open Go Go.Lib Go.TokenKit Go.CharrefKit
theorem decodeF_len2 : ∀ (f : Nat) (attr : Bool) (l : List UInt8), (decodeF f attr l).length ≤ 4 * l.length
  | 0, _, l => by unfold decodeF; simp
  | f + 1, attr, [] => by simp [decodeF]
  | f + 1, attr, b :: r => by
    unfold decodeF
    split
    · rename_i h
      have hl := findL_len h
      rw [show (nats (b :: r)).length = (b :: r).length by simp [nats]] at hl
      have h1 := encodeRune_len (((findL attr (nats (b :: r))).char : Nat) : Int)
      have h2 := decodeF_len2 f attr ((b :: r).drop (findL attr (nats (b :: r))).len)
      rw [List.length_drop] at h2
      rw [List.length_append]
      omega
    · have h2 := decodeF_len2 f attr r
      simp only [List.length_cons]
      omega
theorem decodeL_len2 (attr : Bool) (l : List UInt8) : (decodeL attr l).length ≤ 4 * l.length := decodeF_len2 _ _ _
theorem before_len (stops l : Bytes) : (before stops l).length ≤ l.length := (List.takeWhile_sublist _).length_le
theorem small_len (l : Bytes) : (smallL l).length = l.length := by unfold smallL; simp
theorem value_le {l v r : Bytes} (h : valueL l = some (v, r)) : v.length ≤ l.length := by
  unfold valueL at h
  split at h
  · cases h
  · rename_i b r'
    have hq : ∀ q, quotedL q r' = some (v, r) → v.length ≤ (b :: r').length := fun q hh => by
      unfold quotedL at hh
      split at hh
      · cases hh
        have := before_len [q] r'
        simp only [List.length_cons]; omega
      · cases hh
    split at h
    · exact hq _ h
    · split at h
      · exact hq _ h
      · split at h
        · cases h
        · cases h; exact before_len _ _
theorem attr_le {l r : Bytes} {a : At} (h : attrL l = some (a, r)) : a.1.length ≤ l.length ∧ a.2.length ≤ 4 * l.length := by
  have hn : (smallL (before nameStops l)).length ≤ l.length := by rw [small_len]; exact before_len _ _
  have hs : (skipL (behind nameStops l)).length ≤ l.length := Nat.le_trans (skip_len _) (behind_len _ _)
  unfold attrL at h
  simp only at h
  split at h
  · cases h
  · split at h
    · cases h; exact ⟨hn, by simp⟩
    · rename_i b r' he
      rw [he] at hs
      simp only [List.length_cons] at hs
      split at h
      · split at h
        · cases h
        · rename_i v r2 hv
          cases h
          have h1 := value_le hv
          have h2 := skip_len r'
          have h3 := decodeL_len2 true v
          exact ⟨hn, by show (decodeL true v).length ≤ _; omega⟩
      · cases h; exact ⟨hn, by simp⟩
theorem attrs_le {N : Nat} : ∀ (f : Nat) (xs : List At) (l r : Bytes) (as2 : List At) (sf : Bool), l.length ≤ N → (∀ a, a ∈ xs → a.1.length ≤ N ∧ a.2.length ≤ 4 * N) → xs.length ≤ 16 → attrsF f xs l = .ok (as2, sf, r) → as2.length ≤ 16 ∧ ∀ a, a ∈ as2 → a.1.length ≤ N ∧ a.2.length ≤ 4 * N
  | 0, xs, l, r, as2, sf, hl, ha, h16, h => by unfold attrsF at h; cases h
  | f + 1, xs, l, r, as2, sf, hl, ha, h16, h => by
    unfold attrsF at h
    have hk := skip_len l
    split at h
    · cases h
    · rename_i b r1 he
      rw [he] at hk
      split at h
      · cases h; exact ⟨h16, ha⟩
      · split at h
        · split at h
          · cases h
          · split at h
            · cases h; exact ⟨h16, ha⟩
            · cases h
        · split at h
          · cases h
          · rename_i a r2 hat
            have h1 := attr_le hat
            have h2 := attr_len hat
            split at h
            · cases h
            · split at h
              · cases h
              · rename_i hlt
                refine attrs_le f _ r2 r as2 sf (by omega) (fun y hy => ?_) (by rw [List.length_append]; simp; omega) h
                rcases List.mem_append.1 hy with hy | hy
                · exact ha y hy
                · rw [List.mem_singleton] at hy; subst hy
                  exact ⟨by omega, by omega⟩
/-- What a token of a text of at most N bytes is bounded by. -/
structure TokLe (N : Nat) (t : Tok) : Prop where
  name : t.name.length ≤ N
  few : t.attrs.length ≤ 16
  attrs : ∀ a, a ∈ t.attrs → a.1.length ≤ N ∧ a.2.length ≤ 4 * N
  data : t.data.length ≤ 4 * N
theorem tag_le {N k : Nat} {l r : Bytes} {t : Tok} (hl : l.length ≤ N) (h : tagL k l = .ok (t, r)) : TokLe N t := by
  unfold tagL at h
  split at h
  · split at h
    · cases h
    · rename_i xs self r' ha
      cases h
      have hb := behind_len tagStops l
      have hn := before_len tagStops l
      have h2 := attrs_le (N := N) _ _ _ _ _ _ (by omega) (fun a ha => by cases ha) (by simp) ha
      exact ⟨by show (smallL _).length ≤ N; rw [small_len]; omega, h2.1, h2.2, by simp⟩
  · cases h
theorem end_le {N : Nat} {l r : Bytes} {t : Tok} (hl : l.length ≤ N) (h : endL l = .ok (t, r)) : TokLe N t := by
  cases l with
  | nil => cases h
  | cons b s =>
    rw [endL] at h
    split at h
    · split at h
      · cases h
      · rename_i t' r' ht
        split at h
        · cases h
        · cases h
          exact tag_le hl ht
    · cases h
theorem cut_le (l p : Bytes) : (cut l p).1.length ≤ l.length := by
  unfold cut
  split
  · exact (List.take_sublist _ _).length_le
  · exact Nat.le_refl _
theorem one_le {N : Nat} {l r : Bytes} {t : Tok} (hl : l.length ≤ N) (h : oneL l = .ok (t, r)) : TokLe N t := by
  unfold oneL at h
  split at h
  · split at h
    · exact tag_le (by rw [List.length_drop]; omega) h
    · split at h
      · exact end_le (by rw [List.length_drop]; omega) h
      · split at h
        · unfold commentL at h
          split at h
          · cases h
            have h1 := cut_le (l.drop 4) [45, 45, 62]
            rw [List.length_drop] at h1
            exact ⟨by simp, by simp, fun a ha => (by cases ha), by show (cut (l.drop 4) [45, 45, 62]).1.length ≤ _; omega⟩
          · cases h
        · split at h
          · unfold doctypeL at h
            split at h
            · cases h
              have h1 := cut_le (l.drop 9) [62]
              rw [List.length_drop] at h1
              have h2 := Go.Proofs.YtkfmfldkllkcbaaGreatDoor.trimS_len (cut (l.drop 9) [62]).1 blanks
              exact ⟨by simp, by simp, fun a ha => (by cases ha), by show (trimS (cut (l.drop 9) [62]).1 blanks).length ≤ _; omega⟩
            · cases h
          · cases h
  · cases h
    have h1 := decodeL_len2 false (l.take (wordsN l))
    rw [List.length_take] at h1
    exact ⟨by simp, by simp, fun a ha => (by cases ha), by show (decodeL false (l.take (wordsN l))).length ≤ _; omega⟩
theorem answer_le {l : Bytes} : (answerL l).1.length ≤ 65536 ∧ ∀ t, t ∈ (answerL l).1 → TokLe 65536 t := by
  unfold answerL
  split
  · exact ⟨by simp, fun t ht => by cases ht⟩
  · rename_i hn
    split
    · exact ⟨by simp, fun t ht => by cases ht⟩
    · split
      · exact ⟨by simp, fun t ht => by cases ht⟩
      · rename_i ts hts
        have hts2 : toksAt 0 l = .ok ts := hts
        have h1 := toks_count _ 0 l ts (Nat.le_refl _) hts2
        exact ⟨by show ts.length ≤ _; omega, toks_all (N := 65536) (fun l' r t hl' ho => one_le hl' ho) _ 0 l ts (Nat.le_refl _) (by omega) hts2⟩
end Go.TreeKit
namespace Go.TreeKit
open Go Go.Lib Go.TokenKit Go.RowKit
theorem maxSum {l : Bytes} : dataSum (answerL l).1 ≤ 70368744177664 := by
  have h := answer_le (l := l)
  have h1 := dataSum_le (B := 4 * 65536) (answerL l).1 (fun t ht => (h.2 t ht).data)
  have h2 := Nat.mul_le_mul_right (4 * 65536) h.1
  omega
/-- P5.3: the tree, the error, its place; d: what Decode tells. -/
def parseL (d : Except Nat Bytes) : List Nd × Nat × Nat := match d with
  | .error x => ([], x, 0)
  | .ok t => if (answerL t).2.1 = 0 then buildL (answerL t).1 else ([], (answerL t).2.1, (answerL t).2.2)
/-- What Decode tells, in memory. -/
def ToldU (d : Except Nat Bytes) (w : World) (e : Ending) (w' : World) : Prop := match d with
  | .error x => (∃ s : ByteArray, e = .returned (.tuple #[.string s, .int .i64 ((x : Nat) : Int)])) ∧ x ≠ 0 ∧ Below w.heap.size w w'
  | .ok t => e = .returned (.tuple #[.string ⟨t.toArray⟩, .int .i64 0]) ∧ Below w.heap.size w w'
end Go.TreeKit
namespace Go.Proofs.YtkfmfldkllkcbaaGreatDoor
open Go.RowKit Go.RunKit Go.CharrefKit Go.Lib Go.TokenKit Go.TreeKit

theorem NdRow.lower {w : World} {base base2 : Nat} {v : Value} {L : List NdV} (h : NdRow w base v L) (hb : base2 ≤ base) : NdRow w base2 v L := by
  have low : ∀ {e : TypeId} {size n : Nat} {u : Value} {xs : List Value}, w.ownsRow base e size u n xs → w.ownsRow base2 e size u n xs := fun ho => by
    refine ⟨ho.1, ?_⟩
    rcases ho.2 with h' | ⟨g, cap, cur, e, hg, rest⟩
    · exact .inl h'
    · exact .inr ⟨g, cap, cur, e, Nat.le_trans hb hg, rest⟩
  exact ⟨low h.row, fun x hx => low (h.attrs x hx), fun x hx => low (h.kids x hx), h.apart⟩

set_option maxRecDepth 100000 in
set_option maxHeartbeats 4000000 in
theorem parse_of (d : Except Nat Bytes) (ao : Option Addr) (cap n : Nat) (w : World) (hM : Maxed w w.heap.size) (hD : Calls Tryz.prog 48 #[.slice ao n cap] w (ToldU d w)) :
    Calls Tryz.prog 20 #[.slice ao n cap] w fun e w' => ∃ v L er pl, e = .returned (.tuple #[v, .int .i64 ((er : Nat) : Int), .int .i64 ((pl : Nat) : Int)]) ∧ Below w.heap.size w w' ∧ NdRow w' w.heap.size v L ∧ (L.map (·.1), er, pl) = parseL d := by
  have HD := Lib.hid hD
  have HM := Lib.hid hM
  clear hD hM
  unfold ToldU at HD
  cases d with
  | error x =>
    by_cases hx : x = 0
    · subst hx
      go_enter Tryz.func20, Tryz.ntmps20
      go_big_wp2_with (go_at_call 48; refine HD.out.mono ?_; rintro e w1 ⟨⟨s, rfl⟩, hx, hb1⟩; exact absurd rfl hx)
    · have hx0 : ((x : Int) = 0) = False := eq_false (by omega)
      have hxB : ((x : Int) == 0) = false := by rw [beq_eq_false_iff_ne]; omega
      have hxN : ((x : Int) != 0) = true := by rw [bne_iff_ne]; omega
      clear hx
      go_enter Tryz.func20, Tryz.ntmps20
      go_big_wp2_with (go_at_call 48; refine HD.out.mono ?_; rintro e w1 ⟨⟨s, rfl⟩, hx, hb1⟩; have HB1 := Lib.hid hb1; clear hb1 hx)
      go_ret3
      exact ⟨_, [], x, 0, rfl, HB1.out, NdRow.nil _ _, rfl⟩
  | ok t =>
    have HT := Lib.hid fun W1 (hb : Below w.heap.size w W1) => tokens_any ⟨t.toArray⟩ W1 (HM.out.at_ hb (Nat.le_refl _) |> fun h => ⟨h.ex, Nat.lt_of_lt_of_le HM.out.lt hb.size⟩)
    rw [bl_of] at HT
    obtain ⟨an, han⟩ : ∃ an, answerL t = an := ⟨_, rfl⟩
    have hle := answer_le (l := t)
    have hsum := maxSum (l := t)
    rw [han] at HT hle hsum
    obtain ⟨ts, er, pl⟩ := an
    have hpl : parseL (.ok t) = if er = 0 then buildL ts else ([], er, pl) := by unfold parseL; simp only [han]
    rw [hpl]
    have HLe := Lib.hid hle
    have HSm := Lib.hid hsum
    clear han hle hsum hpl
    by_cases he : er = 0
    · subst he
      rw [if_pos rfl]
      go_enter Tryz.func20, Tryz.ntmps20
      go_big_wp2_with (first
        | (go_at_call 48; refine HD.out.mono ?_; rintro e w1 ⟨rfl, hb1⟩; have HB1 := Lib.hid hb1; clear hb1)
        | (go_at_call 49
           go_loud (
             refine (HT.out _ HB1.out).mono ?_
             rintro e w2 ⟨v, L, er2, pl2, rfl, hb2, hrow, heq⟩
             simp only [Prod.mk.injEq] at heq
             obtain ⟨h1, h2, h3⟩ := heq
             subst h2
             subst h3
             subst h1
             obtain ⟨ao2, cap2, hv, hin⟩ := TksIn.of hrow (by have := HLe.out.1; rw [List.length_map] at this; omega) HSm.out (fun t ht => by have := (HLe.out.2 t ht).name; omega) (fun t ht => ⟨by have := (HLe.out.2 t ht).few; omega, fun a ha => by have := (HLe.out.2 t ht).attrs a ha; omega⟩)
             subst hv
             have HBd := Lib.hid (build_any _ ao2 cap2 _ w2 hin)
             have HB2 := Lib.hid (HB1.out.trans (hb2.mono HB1.out.size))
             clear hrow hin hb2))
        | (go_at_call 16; refine HBd.out.mono ?_; rintro e w3 ⟨v3, L3, er3, pl3, rfl, hb3, hr3, he3⟩; have HB3 := Lib.hid (HB2.out.trans (hb3.mono HB2.out.size)); have HR3 := Lib.hid (hr3.lower HB2.out.size); have HE3 := Lib.hid he3; clear hb3 hr3 he3))
      go_ret3
      exact ⟨v3, L3, er3, pl3, rfl, HB3.out, HR3.out, HE3.out⟩
    · rw [if_neg he]
      have hx0 : ((er : Int) = 0) = False := eq_false (by omega)
      have hxB : ((er : Int) == 0) = false := by rw [beq_eq_false_iff_ne]; omega
      have hxN : ((er : Int) != 0) = true := by rw [bne_iff_ne]; omega
      clear he
      go_enter Tryz.func20, Tryz.ntmps20
      go_big_wp2_with (first
        | (go_at_call 48; refine HD.out.mono ?_; rintro e w1 ⟨rfl, hb1⟩; have HB1 := Lib.hid hb1; clear hb1)
        | (go_at_call 49; refine (HT.out _ HB1.out).mono ?_; rintro e w2 ⟨v, L, er2, pl2, rfl, hb2, hrow, heq⟩; simp only [Prod.mk.injEq] at heq; obtain ⟨h1, h2, h3⟩ := heq; subst h2; subst h3; obtain ⟨ao2, cap2, hv⟩ := sliceOf hrow.row; subst hv; have HB2 := Lib.hid (HB1.out.trans (hb2.mono HB1.out.size)); clear hrow hb2 h1))
      go_ret3
      exact ⟨_, [], er2, pl2, rfl, HB2.out, NdRow.nil _ _, rfl⟩
end Go.Proofs.YtkfmfldkllkcbaaGreatDoor
