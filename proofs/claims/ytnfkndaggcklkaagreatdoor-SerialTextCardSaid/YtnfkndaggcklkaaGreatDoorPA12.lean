/-
  The builder of package tree: a node more. Conditions: the words are no more than 2^46 bytes.
  add of the builder of package tree. Conditions: the words are no more than 2^46 bytes.
-/
import Derived.Test.YtnfkndaggcklkaaGreatDoorPA11
import Derived.Deep.RegionHeld
namespace Go.Proofs.YtnfkndaggcklkaaGreatDoor
open Go.RowKit Go.RunKit Go.CharrefKit Go.Lib Go.TokenKit Go.TreeKit

/-- One child more of a node. -/
theorem NdRow.kid {w W2 : World} {base n cap g m q c k : Nat} {L : List NdV} {u : Nat} {x : NdV} (h : NdRow w base (.slice (some ⟨g, 0, none⟩) n cap) L) (hx : L[u]? = some x) (hm : x.1.kids.length = m)
    (hgr : w.grownBy W2 x.2.2.ownBlock) (hown : W2.ownsRow base TIn 1 (.slice (some ⟨q, 0, none⟩) (m + 1) c) (m + 1) (intCells x.1.kids ++ [.int .i64 ((k : Nat) : Int)])) (hat : x.2.2.ownBlock = some q ∨ q = w.heap.size) :
    NdRow (W2.setCell ⟨g, u * 6 + 5, none⟩ (.slice (some ⟨q, 0, none⟩) (m + 1) c)) base (.slice (some ⟨g, 0, none⟩) n cap) (L.set u ({ x.1 with kids := x.1.kids ++ [k] }, (x.2.1, .slice (some ⟨q, 0, none⟩) (m + 1) c))) := by
  have hu := (List.getElem?_eq_some_iff.1 hx).1
  have hxm := List.mem_of_getElem? hx
  have hn : n = L.length := by
    rcases h.row.2 with ⟨e, _⟩ | ⟨_, _, _, e, _⟩
    · cases e
    · cases e; rfl
  subst hn
  have hrow2 := own_beside h.row (h.kids x hxm) (by decide) hgr
  obtain ⟨h1, h2⟩ := World.ownsRow.stored hrow2 (u * 6 + 5) (.slice (some ⟨q, 0, none⟩) (m + 1) c)
  rw [ndCells_set (y := ({ x.1 with kids := x.1.kids ++ [k] }, (x.2.1, .slice (some ⟨q, 0, none⟩) (m + 1) c))) hx (by decide) rfl] at h1
  have hgg : ∃ cur, W2.heap[g]? = some (.cells cur TNd (0, 0)) := by
    rcases hrow2.2 with ⟨e, _⟩ | ⟨_, _, cur, e, _, hg, _⟩
    · cases e
    · cases e; exact ⟨cur, hg⟩
  obtain ⟨cur, hgg⟩ := hgg
  have hnew : (.slice (some ⟨q, 0, none⟩) (m + 1) c : Value).ownBlock = some q := rfl
  have key : ∀ (i : Nat) (y : NdV), (L.set u ({ x.1 with kids := x.1.kids ++ [k] }, (x.2.1, .slice (some ⟨q, 0, none⟩) (m + 1) c)))[i]? = some y → (i = u ∧ y = ({ x.1 with kids := x.1.kids ++ [k] }, (x.2.1, .slice (some ⟨q, 0, none⟩) (m + 1) c))) ∨ (i ≠ u ∧ L[i]? = some y) := fun i y hi => by
    rw [List.getElem?_set] at hi
    split at hi
    · rename_i e; subst e
      cases hi; exact .inl ⟨rfl, rfl⟩
    · rename_i e; exact .inr ⟨fun e' => e e'.symm, hi⟩
  have far : ∀ (i : Nat) (y : NdV), i ≠ u → L[i]? = some y → y.2.2.ownBlock ≠ some q := fun i y hne hi => by
    rcases hat with ha | ha
    · exact h.apart u i x y hx hi (fun e => hne e.symm) q ha
    · intro e
      have := (World.ownsRow.lt (h.kids y (List.mem_of_getElem? hi)) q e).2
      omega
  refine ⟨by rw [List.length_set]; exact h1, fun y hy => ?_, fun y hy => ?_, fun i j y z hi hj hne p hp => ?_⟩
  · obtain ⟨i, hi⟩ := List.mem_iff_getElem?.1 hy
    rcases key i y hi with ⟨_, rfl⟩ | ⟨_, hi⟩
    · exact own_other (own_beside (h.attrs x hxm) (h.kids x hxm) (by decide) hgr) hgg (by decide) h2
    · exact own_other (own_beside (h.attrs y (List.mem_of_getElem? hi)) (h.kids x hxm) (by decide) hgr) hgg (by decide) h2
  · obtain ⟨i, hi⟩ := List.mem_iff_getElem?.1 hy
    rcases key i y hi with ⟨_, rfl⟩ | ⟨hne, hi⟩
    · refine own_other ?_ hgg (by decide) h2
      show W2.ownsRow base TIn 1 (.slice (some ⟨q, 0, none⟩) (m + 1) c) (x.1.kids ++ [k]).length (intCells (x.1.kids ++ [k]))
      rw [List.length_append, hm, intCells_snoc]; exact hown
    · refine own_other (World.ownsRow.kept (h.kids y (List.mem_of_getElem? hi)) hgr ?_) hgg (by decide) h2
      cases hv : x.2.2.ownBlock with
      | none => cases y.2.2.ownBlock <;> simp
      | some p => exact .inr (h.apart u i x y hx hi (fun e => hne e.symm) p hv)
  · rcases key i y hi with ⟨rfl, rfl⟩ | ⟨hi1, hi2⟩
    · rcases key j z hj with ⟨rfl, rfl⟩ | ⟨hj1, hj2⟩
      · exact absurd rfl hne
      · have : p = q := by rw [show (_ : Value).ownBlock = some q from hnew] at hp; exact (Option.some.inj hp).symm
        rw [this]; exact far j z hj1 hj2
    · rcases key j z hj with ⟨rfl, rfl⟩ | ⟨hj1, hj2⟩
      · intro e
        have : p = q := by rw [show (_ : Value).ownBlock = some q from hnew] at e; exact (Option.some.inj e).symm
        rw [this] at hp
        exact far i y hi1 hi2 hp
      · exact h.apart i j y z hi2 hj2 hne p hp
/-- One node more. -/
theorem NdRow.snoc {w W2 : World} {base : Nat} {v v' : Value} {L : List NdV} {x : NdV} (h : NdRow w base v L) (hx : AtRow w base x.2.1 x.1.attrs) (hk : x.1.kids = []) (hkv : x.2.2 = .slice none 0 0) (hgr : w.grownBy W2 v.ownBlock)
    (hown : W2.ownsRow base TNd 6 v' (L.length + 1) (ndCells L ++ ndCell x)) : NdRow W2 base v' (L ++ [x]) := by
  have keep : ∀ {e : TypeId} {size n : Nat} {u : Value} {xs : List Value}, w.ownsRow base e size u n xs → TNd ≠ e → W2.ownsRow base e size u n xs := fun ho hT => own_beside ho h.row hT hgr
  have hnone : x.2.2.ownBlock = none := by rw [hkv]; rfl
  refine ⟨by rw [ndCells_snoc, List.length_append]; exact hown, fun y hy => ?_, fun y hy => ?_, fun i j y z hi hj hne p hp => ?_⟩
  · rcases List.mem_append.1 hy with hy | hy
    · exact keep (h.attrs y hy) (by decide)
    · rw [List.mem_singleton] at hy; subst hy; exact keep hx (by decide)
  · rcases List.mem_append.1 hy with hy | hy
    · exact keep (h.kids y hy) (by decide)
    · rw [List.mem_singleton] at hy; subst hy
      rw [hkv, hk]; exact World.ownsRow_nil _ _ _ _
  · rw [List.getElem?_append] at hi hj
    split at hi
    · split at hj
      · exact h.apart i j y z hi hj hne p hp
      · have : z = x := by
          have := List.mem_of_getElem? hj; simpa using this
        rw [this, hnone]; simp
    · have : y = x := by
        have := List.mem_of_getElem? hi; simpa using this
      rw [this, hnone] at hp; cases hp

theorem modify_set {L : List NdV} {t : List Nd} {u : Nat} {x : NdV} {f : Nd → Nd} {p : Value × Value} (hs : L.map (·.1) = t) (hx : L[u]? = some x) : (L.set u (f x.1, p)).map (·.1) = t.modify u f := by
  rw [List.map_set, ← hs]
  apply List.ext_getElem?
  intro i
  rw [List.getElem?_set, List.getElem?_modify]
  have hk := (List.getElem?_eq_some_iff.1 hx).1
  by_cases e : u = i
  · subst e
    rw [if_pos rfl, if_pos (by rw [List.length_map]; exact hk), List.getElem?_map, hx]
    simp
  · rw [if_neg e]
    simp [e]
/-- One child more. -/
theorem BAt.kid {w W W2 : World} {b n cap g m q c u k : Nat} {ov pa bv : Value} {s : BS} {L : List NdV} {x : NdV} (h : BAt w b (.slice (some ⟨g, 0, none⟩) n cap) ov pa bv s L W) (hx : L[u]? = some x) (hm : x.1.kids.length = m)
    (hgr : W.grownBy W2 x.2.2.ownBlock) (hown : W2.ownsRow w.heap.size TIn 1 (.slice (some ⟨q, 0, none⟩) (m + 1) c) (m + 1) (intCells x.1.kids ++ [.int .i64 ((k : Nat) : Int)])) (hat : x.2.2.ownBlock = some q ∨ q = W.heap.size) :
    BAt w b (.slice (some ⟨g, 0, none⟩) n cap) ov pa bv ⟨s.t.modify u (fun n => { n with kids := n.kids ++ [k] }), s.o, s.ws⟩ (L.set u ({ x.1 with kids := x.1.kids ++ [k] }, (x.2.1, .slice (some ⟨q, 0, none⟩) (m + 1) c))) (W2.setCell ⟨g, u * 6 + 5, none⟩ (.slice (some ⟨q, 0, none⟩) (m + 1) c)) := by
  have hk := h.tree.kids x (List.mem_of_getElem? hx)
  obtain ⟨g', cur, e, hg, hbg, _⟩ := tree_cells h.tree hx
  cases e
  have hblk : W2.heap[b]? = some (.cells #[.slice (some ⟨g, 0, none⟩) n cap, ov, pa, bv] TBd (0, 0)) := by
    rw [hgr.block b (Array.getElem?_eq_some_iff.1 h.blk).1 (fun e => own_ne hk h.blk (by decide) e.symm)]; exact h.blk
  have hg2 : W2.heap[g]? = some (.cells cur TNd (0, 0)) := by
    rw [hgr.block g (Array.getElem?_eq_some_iff.1 hg).1 (fun e => own_ne hk hg (by decide) e.symm)]; exact hg
  have hbl : Below w.heap.size w W2 := h.below.grown hgr h.below.size (fun p hp => (World.ownsRow.lt hk p hp).1)
  have hgb : b ≠ g := by
    intro e
    subst e
    rw [h.blk] at hg
    simp only [Option.some.injEq, Obj.cells.injEq] at hg
    exact absurd hg.2.1 (by decide)
  exact ⟨hbl.setCell hbg _, h.le, by rw [heap_setCell_other _ _ _ _ (by exact hgb)]; exact hblk, h.tree.kid hx hm hgr hown hat, modify_set (f := fun n => { n with kids := n.kids ++ [k] }) h.spec hx,
    own_other (own_beside h.opens hk (by decide) hgr) hg2 (by decide) (grown_set _ _ _ _), (h.words.beside hk (by decide) hgr).other hg2 (by decide) (grown_set _ _ _ _)⟩
/-- One node more. -/
theorem BAt.node {w W W2 : World} {b : Nat} {tv tv' ov pa bv : Value} {s : BS} {L : List NdV} {x : NdV} (h : BAt w b tv ov pa bv s L W) (hx : AtRow W w.heap.size x.2.1 x.1.attrs) (hk : x.1.kids = []) (hkv : x.2.2 = .slice none 0 0) (hgr : W.grownBy W2 tv.ownBlock)
    (hown : W2.ownsRow w.heap.size TNd 6 tv' (L.length + 1) (ndCells L ++ ndCell x)) : BAt w b tv' ov pa bv ⟨s.t ++ [x.1], s.o, s.ws⟩ (L ++ [x]) (W2.setCell ⟨b, 0, none⟩ tv') := by
  have hblk : W2.heap[b]? = some (.cells #[tv, ov, pa, bv] TBd (0, 0)) := by
    rw [hgr.block b (Array.getElem?_eq_some_iff.1 h.blk).1 (fun e => own_ne h.tree.row h.blk (by decide) e.symm)]; exact h.blk
  have hbl : Below w.heap.size w W2 := h.below.grown hgr h.below.size (fun p hp => (World.ownsRow.lt h.tree.row p hp).1)
  have hn := h.tree.snoc hx hk hkv hgr hown
  exact ⟨hbl.setCell h.le _, h.le, by have := heap_setCell_same W2 b 0 _ _ tv' hblk; simpa using this, hn.other hblk (by decide) (by decide) (by decide) (grown_set _ _ _ _), by rw [List.map_append, h.spec]; rfl,
    own_other (own_beside h.opens h.tree.row (by decide) hgr) hblk (by decide) (grown_set _ _ _ _), (h.words.beside h.tree.row (by decide) hgr).other hblk (by decide) (grown_set _ _ _ _)⟩
/-- A node's own block beside the tree. -/
theorem BAt.box {w W : World} {b g i : Nat} {tv ov pa bv : Value} {s : BS} {L : List NdV} {cs : Array Value} {fr : Nat × Nat} (h : BAt w b tv ov pa bv s L W) (hg : W.heap[g]? = some (.cells cs TNd fr)) (htv : tv.ownBlock ≠ some g) (hge : w.heap.size ≤ g) (v : Value) : BAt w b tv ov pa bv s L (W.setCell ⟨g, i, none⟩ v) := by
  have hgb : b ≠ g := by
    intro e
    subst e
    rw [h.blk] at hg
    simp only [Option.some.injEq, Obj.cells.injEq] at hg
    exact absurd hg.2.1 (by decide)
  refine ⟨h.below.setCell hge _, h.le, by rw [heap_setCell_other _ _ _ _ (by exact hgb)]; exact h.blk, ⟨World.ownsRow.kept h.tree.row (grown_set _ _ _ _) (.inr htv), fun x hx => own_other (h.tree.attrs x hx) hg (by decide) (grown_set _ _ _ _), fun x hx => own_other (h.tree.kids x hx) hg (by decide) (grown_set _ _ _ _), h.tree.apart⟩, h.spec, own_other h.opens hg (by decide) (grown_set _ _ _ _), h.words.other hg (by decide) (grown_set _ _ _ _)⟩
theorem local6 {W : World} {g : Nat} {a0 a1 a2 a3 a4 a5 : Value} {T : TypeId} (h : W.heap[g]? = some (.cells #[a0, a1, a2, a3, a4, a5] T (0, 0))) :
    (W.cell? ⟨g, 0, none⟩ = some a0 ∧ W.cell? ⟨g, 1, none⟩ = some a1 ∧ W.cell? ⟨g, 2, none⟩ = some a2 ∧ W.cell? ⟨g, 3, none⟩ = some a3 ∧ W.cell? ⟨g, 4, none⟩ = some a4 ∧ W.cell? ⟨g, 5, none⟩ = some a5) ∧ W.frozen? ⟨g, 4, none⟩ = false :=
  ⟨⟨by simp [World.cell?, h], by simp [World.cell?, h], by simp [World.cell?, h], by simp [World.cell?, h], by simp [World.cell?, h], by simp [World.cell?, h]⟩, frozen_of_row W g 4 _ _ h⟩
theorem Tryz.infoInt : (Tryz.prog.info? 3).map (fun i => (i.zero, i.size, i.bytes)) = some (some (.int .i64 0), 1, 8) := by kernel_rfl
theorem Tryz.infoNode : (Tryz.prog.info? 38).map (fun i => (i.zero, i.size, i.bytes)) = some (some (.agg #[.int .u8 0, .string ⟨#[]⟩, .slice none 0 0, .string ⟨#[]⟩, .int .i64 0, .slice none 0 0]), 6, 96) := by kernel_rfl
theorem AtRow.keeps {w w' : World} {base : Nat} {v : Value} {l : List At} (h : AtRow w base v l) (hk : Keeps w w') : AtRow w' base v l := by
  refine ⟨h.1, ?_⟩
  rcases h.2 with h2 | ⟨g, cap, cur, e, hb, hg, rest⟩
  · exact .inl h2
  · exact .inr ⟨g, cap, cur, e, hb, hk g cur TAt (0, 0) hg (by decide) (by decide) (by decide) (by decide) (by decide), rest⟩
theorem BAt.kidFacts {w W W2 : World} {b n cap g u : Nat} {ov pa bv kv : Value} {s : BS} {L : List NdV} {x : NdV} (h : BAt w b (.slice (some ⟨g, 0, none⟩) n cap) ov pa bv s L W) (hx : L[u]? = some x) (hkv : x.2.2 = kv) (hgr : W.grownBy W2 kv.ownBlock) :
    W2.heap[b]? = some (.cells #[.slice (some ⟨g, 0, none⟩) n cap, ov, pa, bv] TBd (0, 0)) ∧ W2.cell? ⟨g, u * 6 + 5, none⟩ = some kv ∧ W2.frozen? ⟨g, u * 6 + 5, none⟩ = false ∧ (∀ (k : Nat) (cs : Array Value) (fr : Nat × Nat), W.heap[k]? = some (.cells cs TNd fr) → W2.heap[k]? = some (.cells cs TNd fr)) ∧ Keeps W W2 := by
  subst hkv
  have hk := h.tree.kids x (List.mem_of_getElem? hx)
  obtain ⟨g', cur, e, hg, hbg, ⟨_, _, _, _, _, c5⟩, _⟩ := tree_cells h.tree hx
  cases e
  have hall : ∀ (k : Nat) (cs : Array Value) (T : TypeId) (fr : Nat × Nat), W.heap[k]? = some (.cells cs T fr) → T ≠ TIn → W2.heap[k]? = some (.cells cs T fr) := fun k cs T fr hkk hT => by
    rw [hgr.block k (Array.getElem?_eq_some_iff.1 hkk).1 (fun e => own_ne hk hkk hT e.symm)]; exact hkk
  have hg2 := hall g cur TNd (0, 0) hg (by decide)
  refine ⟨hall b _ TBd _ h.blk (by decide), ?_, frozen_of_row W2 g _ _ _ hg2, fun k cs fr hkk => hall k cs TNd fr hkk (by decide), Keeps.grown hk (.inr (.inr rfl)) hgr⟩
  rw [World.cell?_of_block (w := W) (w' := W2) (a := ⟨g, u * 6 + 5, none⟩) (by rw [hg2, hg])]
  exact c5
theorem BAt.nodeFacts {w W W2 : World} {b : Nat} {tv ov pa bv : Value} {s : BS} {L : List NdV} (h : BAt w b tv ov pa bv s L W) (hgr : W.grownBy W2 tv.ownBlock) : W2.heap[b]? = some (.cells #[tv, ov, pa, bv] TBd (0, 0)) ∧ Keeps W W2 :=
  ⟨by rw [hgr.block b (Array.getElem?_eq_some_iff.1 h.blk).1 (fun e => own_ne h.tree.row h.blk (by decide) e.symm)]; exact h.blk, Keeps.grown h.tree.row (.inr (.inl rfl)) hgr⟩
end Go.Proofs.YtnfkndaggcklkaaGreatDoor

namespace Go
section
variable {P : Program} {ops : Array Oper} {Q : Exit → Act → World → Prop} {md : Region.Mode} {S : World → Prop}
theorem at_drop {i : Nat} {o : Oper} {rest : List Oper} (h : ops.toList.drop i = o :: rest) : ops[i]? = some o := by
  have h1 : (ops.toList.drop i)[0]? = some o := by rw [h]; rfl
  rw [List.getElem?_drop] at h1
  simpa using h1
/-- An operation that yields in every world that meets the condition, taken first. -/
theorem takeD {i : Nat} {oi : Oper} {rest : List Oper} {v : Value} {fuel : Nat} {listed : Array Bool} {a : Act} {w : World} (hi : ops.toList.drop i = oi :: rest)
    (hs : Region.noSelect ops = true) (hf : Region.free md ops listed i = true) (hr : (Region.ready md ops listed).contains i = true)
    (hQ : ∀ c a w, Q (.panic c) (a.put oi.dst v) w → Q (.panic c) a w) (hy : YieldsIf P ops S oi v a) (hS : S w)
    (h : wpAnyH P md ops Q S fuel (listed.setIfInBounds i true) (a.put oi.dst v) w) : wpAnyH P md ops Q S (fuel + 1) listed a w := wpAnyH_take (at_drop hi) hs hf hr hQ hy hS h
theorem readyD {fuel : Nat} {listed : Array Bool} {a : Act} {w : World} {i : Nat} {o : Oper} {rest : List Oper} {rs : List Nat} (ho : ops.toList.drop i = o :: rest)
    (h : ∀ K' : Act → World → Prop, Shut (∀ a w, S w → (S w → wpAnyH P md ops Q S fuel (listed.setIfInBounds i true) a w) → K' a w) → if Region.wanted o (yielded ops a.tmps) = true then Oper.wp P o a w K' Q else K' (a.put o.dst undef) w)
    (hs : AllReadyH P md ops Q S fuel listed a w rs) : AllReadyH P md ops Q S fuel listed a w (i :: rs) := AllReadyH.cons (at_drop ho) h hs
end
end Go
namespace Go.Proofs.YtnfkndaggcklkaaGreatDoor
open Go.RowKit Go.RunKit Go.CharrefKit Go.Lib Go.TokenKit Go.TreeKit

set_option maxRecDepth 100000 in
set_option maxHeartbeats 8000000 in
theorem add_any (w : World) (b k : Nat) (nm : ByteArray) (ao2 : Option Addr) (m2 c2 : Nat) (ats : List At) (tv ov pa bv : Value) (s : BS) (L : List NdV) (W : World) (hwf : WF s) (h200 : s.o.length ≤ 65536) (hat : AtRow W w.heap.size (.slice ao2 m2 c2) ats) (h : BAt w b tv ov pa bv s L W) :
    Calls Tryz.prog 97 #[.pointer (some ⟨b, 0, none⟩), .agg #[.int .u8 ((k : Nat) : Int), .string nm, .slice ao2 m2 c2, .string ⟨#[]⟩, .int .i64 0, .slice none 0 0]] W (ToldB (addL s ⟨k, bl nm, ats, [], 0, []⟩) w b W) := by
  obtain ⟨aot, capt, htv⟩ := sliceOf h.tree.row
  subst htv
  obtain ⟨aoo, capo, hov⟩ := sliceOf h.opens
  subst hov
  have hLl := h.len
  have hbs := (Array.getElem?_eq_some_iff.1 h.blk).1
  obtain ⟨nt, hnt⟩ : ∃ nt, L.length = nt := ⟨_, rfl⟩
  obtain ⟨no, hno⟩ : ∃ no, s.o.length = no := ⟨_, rfl⟩
  have b1 : Below W.heap.size W (W.alloc (.cells #[.int .u8 ((k : Nat) : Int), .string nm, .slice ao2 m2 c2, .string ⟨#[]⟩, .int .i64 0, .slice none 0 0] TNd)) := (Below.refl _ _).alloc (Nat.le_refl _) _
  have h1 := h.on b1
  rw [hnt, hno] at h1
  obtain ⟨⟨x0, x1, x2, x3⟩, y0, y1, y2, y3⟩ := local4 h1.blk
  by_cases hbig : 16384 ≤ nt
  · have hI : (16384 : Int) ≤ nt := by omega
    have ha : addL s ⟨k, bl nm, ats, [], 0, []⟩ = .error 3 := by unfold addL; rw [if_pos (by omega)]
    rw [ha]
    have HB := Lib.hid h1
    clear h h1 hat hwf ha b1 hLl hnt hno
    go_enter Tryz.func97, Tryz.ntmps97
    go_big_wp2
    go_ret
    exact ⟨rfl, HB.out.below⟩
  · have hI : ¬ (16384 : Int) ≤ nt := by omega
    have ha : addL s ⟨k, bl nm, ats, [], 0, []⟩ = .ok ⟨((flushL s).t.modify (topO s.o).node (fun m => { m with kids := m.kids ++ [nt] })) ++ [⟨k, bl nm, ats, [], ((topO s.o).node : Nat), []⟩], s.o, []⟩ := by
      unfold addL; rw [if_neg (by omega), ← hLl, hnt]
    rw [ha]
    have hE := endText_any w b (.slice aot nt capt) (.slice aoo no capo) pa bv s L _ hwf.pos hwf.few h1
    have HE := Lib.hid hE
    have hg0 : aot ≠ some ⟨W.heap.size, 0, none⟩ ∧ (Value.slice aot nt capt).ownBlock ≠ some W.heap.size := by
      have hlt := World.ownsRow.lt h.tree.row
      rw [hnt] at hlt
      have : (Value.slice aot nt capt).ownBlock ≠ some W.heap.size := fun e => by have := (hlt _ e).2; omega
      refine ⟨fun e => this (by rw [e]; rfl), this⟩
    have HG0 := Lib.hid hg0
    have hbg : W.heap.size ≠ b := by omega
    have hbox : (W.alloc (.cells #[.int .u8 ((k : Nat) : Int), .string nm, .slice ao2 m2 c2, .string ⟨#[]⟩, .int .i64 0, .slice none 0 0] TNd)).heap[W.heap.size]? = some (.cells #[.int .u8 ((k : Nat) : Int), .string nm, .slice ao2 m2 c2, .string ⟨#[]⟩, .int .i64 0, .slice none 0 0] TNd (0, 0)) := heap_alloc_new W _
    have HBox := Lib.hid hbox
    have HAt := Lib.hid (hat.on b1)
    have HK1 := Lib.hid (Keeps.below b1)
    have hge : w.heap.size ≤ W.heap.size := h.below.size
    cases hso : s.o with
    | nil => exact absurd hso hwf.ne
    | cons o r =>
      have hu : o.node < s.t.length := hwf.nodes o (by rw [hso]; simp)
      rw [hLl] at hnt
      have hol : no = r.length + 1 := by rw [← hno, hso]; rfl
      obtain ⟨s1, hs1⟩ : ∃ s1, flushL s = s1 := ⟨_, rfl⟩
      have hs1o : s1.o = o :: r := by rw [← hs1, flush_o, hso]
      have hs1w : s1.ws = [] := by rw [← hs1, flush_ws]
      have hs1l : s1.t.length = nt := by rw [← hs1, flush_len, hnt]
      unfold ToldF at HE
      rw [hs1] at HE ⊢
      rw [show (topO (o :: r)).node = o.node from rfl]
      obtain ⟨u, hue⟩ : ∃ u, o.node = u := ⟨_, rfl⟩
      rw [hue] at hu ⊢
      rw [hnt] at hu
      have HS1 := Lib.hid (And.intro hs1o (And.intro hs1w hs1l))
      have HKn := Lib.hid (show ∀ n, n ∈ s1.t → n.kids.length ≤ nt from by rw [← hs1l, ← hs1]; exact hwf.flush.kids)
      have HUe := Lib.hid hue
      have HOl := Lib.hid hol
      have hol32 : no ≤ 4294967296 := by omega
      have huI : (u : Int) < nt := by omega
      have hu0 : (0 : Int) ≤ (u : Int) := by omega
      obtain ⟨j0, ij0, jz0, jz1, jz2⟩ := info_parts Tryz.infoInt
      obtain ⟨i0, hi0, hz0, hz1, hz2⟩ := info_parts Tryz.infoNode
      clear h h1 hE ha hat b1 hwf hLl hnt hno hso hs1 hs1o hs1w hs1l hue hg0 hbox hol hbig
      go_enter Tryz.func97, Tryz.ntmps97
      go_big_wp2_with (first
        | (go_at_call 36
           refine HE.out.mono ?_
           rintro e w1 ⟨rfl, hk, hk3, pa1, bv1, L1, hB1⟩
           have hbox1 := hk3 _ _ _ _ HBox.out hbg HG0.out.2 (by decide)
           obtain ⟨⟨x0, x1, x2, x3⟩, y0, y1, y2, y3⟩ := local4 hB1.blk
           have HT := Lib.hid (top_any aoo capo no w.heap.size o r w1 HOl.out hol32 (by have := hB1.opens; rw [HS1.out.1] at this; rw [HOl.out] at this ⊢; exact this))
           rw [HUe.out] at HT
           have HB1 := Lib.hid hB1
           have HKa := Lib.hid (HK1.out.trans hk)
           have HBox1 := Lib.hid hbox1
           have HAt1 := Lib.hid (HAt.out.keeps hk)
           clear hk hk3 hB1 hbox1)
        | (go_at_call 121
           refine HT.out.mono ?_
           rintro e w2 ⟨rfl, hb2⟩
           have hB2 := HB1.out.on hb2
           have hbox2 := (hb2.block _ (Array.getElem?_eq_some_iff.1 HBox1.out).1).trans HBox1.out
           clear x0 x1 x2 x3 y0 y1 y2 y3
           obtain ⟨⟨x0, x1, x2, x3⟩, y0, y1, y2, y3⟩ := local4 hB2.blk
           obtain ⟨⟨z0, z1, z2, z3, z4, z5⟩, zf⟩ := local6 hbox2
           have hf := field0 ((u : Nat) : Int) ⟨o.name.toArray⟩ ((o.kind : Nat) : Int)
           have HB2 := Lib.hid hB2
           have HBox2 := Lib.hid hbox2
           have HKb := Lib.hid (HKa.out.trans (Keeps.below hb2))
           have HAt2 := Lib.hid (HAt1.out.on hb2)
           clear hb2 hB2 hbox2))
      have hB3 := HB2.out.box (i := 4) HBox2.out HG0.out.2 hge (.int .i64 ((u : Nat) : Int))
      have hbox3 : (w2.setCell ⟨W.heap.size, 4, none⟩ (.int .i64 ((u : Nat) : Int))).heap[W.heap.size]? = some (.cells #[.int .u8 ((k : Nat) : Int), .string nm, .slice ao2 m2 c2, .string ⟨#[]⟩, .int .i64 ((u : Nat) : Int), .slice none 0 0] TNd (0, 0)) := by
        have := heap_setCell_same w2 W.heap.size 4 _ _ (.int .i64 ((u : Nat) : Int)) HBox2.out
        simpa using this
      have hK3 := HKb.out.trans (Keeps.set (i := 4) HBox2.out (.inr rfl) (.int .i64 ((u : Nat) : Int)))
      have hAt3 : AtRow (w2.setCell ⟨W.heap.size, 4, none⟩ (.int .i64 ((u : Nat) : Int))) w.heap.size (.slice ao2 m2 c2) ats := own_other HAt2.out HBox2.out (by decide) (grown_set _ _ _ _)
      clear x0 x1 x2 x3 y0 y1 y2 y3 z0 z1 z2 z3 z4 z5 zf
      generalize w2.setCell ⟨W.heap.size, 4, none⟩ (.int .i64 ((u : Nat) : Int)) = W3 at *
      generalize W.heap.size = g0 at *
      obtain ⟨x, hx⟩ : ∃ x, L1[u]? = some x := ⟨L1[u]'(by have := hB3.len; have := HS1.out.2.2; omega), by simp [show u < L1.length by have := hB3.len; have := HS1.out.2.2; omega]⟩
      obtain ⟨gt, cur, rfl, hg, hbg', ⟨c0, c1, c2', c3, c4, c5⟩, f3, f5⟩ := tree_cells hB3.tree hx
      have hkr := hB3.tree.kids x (List.mem_of_getElem? hx)
      obtain ⟨ka, kc, hkv⟩ := sliceOf hkr
      obtain ⟨m, hm⟩ : ∃ m, x.1.kids.length = m := ⟨_, rfl⟩
      rw [hm] at hkv hkr
      rw [hkv] at c5 hkr
      have hxl := hx
      obtain ⟨⟨x0, x1, x2, x3⟩, y0, y1, y2, y3⟩ := local4 hB3.blk
      obtain ⟨⟨z0, z1, z2, z3, z4, z5⟩, zf⟩ := local6 hbox3
      -- the children's row, a number laid
      have bA : Below W3.heap.size W3 (W3.alloc (.cells #[.int .i64 ((nt : Nat) : Int)] TIn)) := (Below.refl _ _).alloc (Nat.le_refl _) _
      obtain ⟨⟨p0, p1, p2, p3⟩, _⟩ := local4 (hB3.on bA).blk
      have hboxA := (bA.block _ (Array.getElem?_eq_some_iff.1 hbox3).1).trans hbox3
      obtain ⟨⟨_, _, _, _, s4, _⟩, _⟩ := local6 hboxA
      have c5A := (bA.cell (p := ⟨gt, u * 6 + 5, none⟩) (Array.getElem?_eq_some_iff.1 hg).1).trans c5
      have hKA := own_on hkr (bA.drew)
      have HKA := Lib.hid hKA
      have HNews : Hid ((W3.alloc (.cells #[.int .i64 ((nt : Nat) : Int)] TIn)).drew.heap[W3.heap.size]? = some (.cells #[.int .i64 ((nt : Nat) : Int)] TIn (0, 0))) := Lib.hid (heap_alloc_new W3 _)
      have H1c : Hid (∀ v ∈ [Value.int .i64 ((nt : Nat) : Int)], v.oneCell' = true) := Lib.hid fun v hv => by simp only [List.mem_cons, List.not_mem_nil, or_false] at hv; subst hv; rfl
      have hm16 : m ≤ 16384 := by
        have := HKn.out x.1 (by rw [← hB3.spec]; exact List.mem_map_of_mem (List.mem_of_getElem? hx))
        omega
      have HMx : Hid (m + 1 ≤ maxLen) := Lib.hid (by unfold maxLen; omega)
      have HBA := Lib.hid (hB3.on bA.drew)
      have HX := Lib.hid hx
      have HBl := Lib.hid (show L1.length = nt from by have := hB3.len; have := HS1.out.2.2; omega)
      have HMm := Lib.hid hm
      have HKv := Lib.hid hkv
      have HboxA := Lib.hid (show (W3.alloc (.cells #[.int .i64 ((nt : Nat) : Int)] TIn)).drew.heap[g0]? = _ from hboxA)
      have HKc := Lib.hid (hK3.trans (Keeps.below bA.drew))
      have HAt4 := Lib.hid (hAt3.on bA.drew)
      have hutn : ((u : Nat) : Int).toNat = u := by omega
      clear hB3 hbox3 hK3 hAt3 hg bA hKA hkr hkv hm hx hxl hboxA
      have hbgt : ¬ b = gt := by
        intro e
        have h1 := HBA.out.blk
        obtain ⟨g', cur', e', hg', _⟩ := tree_cells HBA.out.tree HX.out
        cases e'
        rw [e] at h1
        rw [h1] at hg'
        simp only [Option.some.injEq, Obj.cells.injEq] at hg'
        exact absurd hg'.2.1 (by decide)
      have hg0gt : ¬ g0 = gt := by
        intro e
        subst e
        exact HG0.out.2 rfl
      have hgtb : ¬ gt = b := fun e => hbgt e.symm
      have hgtg0 : ¬ gt = g0 := fun e => hg0gt e.symm
      refine wp_region_held_drew (S := fun w' => w'.cell? ⟨b, 0, none⟩ = some (.slice (some ⟨gt, 0, none⟩) nt capt) ∧ w'.cell? ⟨g0, 4, none⟩ = some (.int .i64 ((u : Nat) : Int))) (by kernel_rfl) ⟨x0, z4⟩ (fun hHeld => ?_)
      refine takeD (i := 0) (v := ?vza0) (Eq.refl _) (by kernel_rfl) (by kernel_rfl) (by kernel_rfl) (fun _ _ _ h => h) (Or.inl ⟨by rfl, ?yza0⟩) (by assumption) ?rza0
      case yza0 => (intro w' hSw; (try dsimp only at hSw); go_simp; first | done | with_reducible rfl)
      try simp only [Act.put, List.setIfInBounds_toArray, List.set_cons_zero, List.set_cons_succ]
      refine takeD (i := 1) (v := ?vza1) (Eq.refl _) (by kernel_rfl) (by kernel_rfl) (by kernel_rfl) (fun _ _ _ h => h) (Or.inl ⟨by rfl, ?yza1⟩) (by assumption) ?rza1
      case yza1 => (intro w' hSw; (try dsimp only at hSw); go_simp; first | done | with_reducible rfl)
      try simp only [Act.put, List.setIfInBounds_toArray, List.set_cons_zero, List.set_cons_succ]
      refine takeD (i := 2) (v := ?vza2) (Eq.refl _) (by kernel_rfl) (by kernel_rfl) (by kernel_rfl) (fun _ _ _ h => h) (Or.inl ⟨by rfl, ?yza2⟩) (by assumption) ?rza2
      case yza2 => (intro w' hSw; (try dsimp only at hSw); go_simp; first | done | with_reducible rfl)
      try simp only [Act.put, List.setIfInBounds_toArray, List.set_cons_zero, List.set_cons_succ]
      refine takeD (i := 3) (v := ?vza3) (Eq.refl _) (by kernel_rfl) (by kernel_rfl) (by kernel_rfl) (fun _ _ _ h => h) (Or.inl ⟨by rfl, ?yza3⟩) (by assumption) ?rza3
      case yza3 => (intro w' hSw; (try dsimp only at hSw); go_simp; first | done | with_reducible rfl)
      try simp only [Act.put, List.setIfInBounds_toArray, List.set_cons_zero, List.set_cons_succ]
      refine takeD (i := 4) (v := ?vza4) (Eq.refl _) (by kernel_rfl) (by kernel_rfl) (by kernel_rfl) (fun _ _ _ h => h) (Or.inl ⟨by rfl, ?yza4⟩) (by assumption) ?rza4
      case yza4 => (intro w' hSw; (try dsimp only at hSw); go_simp; first | done | with_reducible rfl)
      try simp only [Act.put, List.setIfInBounds_toArray, List.set_cons_zero, List.set_cons_succ]
      refine takeD (i := 5) (v := ?vza5) (Eq.refl _) (by kernel_rfl) (by kernel_rfl) (by kernel_rfl) (fun _ _ _ h => h) (Or.inl ⟨by rfl, ?yza5⟩) (by assumption) ?rza5
      case yza5 => (intro w' hSw; (try dsimp only at hSw); go_simp; first | done | with_reducible rfl)
      try simp only [Act.put, List.setIfInBounds_toArray, List.set_cons_zero, List.set_cons_succ]
      refine takeD (i := 6) (v := ?vza6) (Eq.refl _) (by kernel_rfl) (by kernel_rfl) (by kernel_rfl) (fun _ _ _ h => h) (Or.inl ⟨by rfl, ?yza6⟩) (by assumption) ?rza6
      case yza6 => (intro w' hSw; (try dsimp only at hSw); go_simp; first | done | with_reducible rfl)
      try simp only [Act.put, List.setIfInBounds_toArray, List.set_cons_zero, List.set_cons_succ]
      refine takeD (i := 7) (v := ?vza7) (Eq.refl _) (by kernel_rfl) (by kernel_rfl) (by kernel_rfl) (fun _ _ _ h => h) (Or.inl ⟨by rfl, ?yza7⟩) (by assumption) ?rza7
      case yza7 => (intro w' hSw; (try dsimp only at hSw); go_simp; first | done | with_reducible rfl)
      try simp only [Act.put, List.setIfInBounds_toArray, List.set_cons_zero, List.set_cons_succ]
      refine takeD (i := 8) (v := ?vza8) (Eq.refl _) (by kernel_rfl) (by kernel_rfl) (by kernel_rfl) (fun _ _ _ h => h) (Or.inl ⟨by rfl, ?yza8⟩) (by assumption) ?rza8
      case yza8 => (intro w' hSw; (try dsimp only at hSw); go_simp; first | done | with_reducible rfl)
      try simp only [Act.put, List.setIfInBounds_toArray, List.set_cons_zero, List.set_cons_succ]
      refine takeD (i := 9) (v := ?vza9) (Eq.refl _) (by kernel_rfl) (by kernel_rfl) (by kernel_rfl) (fun _ _ _ h => h) (Or.inl ⟨by rfl, ?yza9⟩) (by assumption) ?rza9
      case yza9 => (intro w' hSw; (try dsimp only at hSw); go_simp; first | done | with_reducible rfl)
      try simp only [Act.put, List.setIfInBounds_toArray, List.set_cons_zero, List.set_cons_succ]
      refine takeD (i := 10) (v := ?vza10) (Eq.refl _) (by kernel_rfl) (by kernel_rfl) (by kernel_rfl) (fun _ _ _ h => h) (Or.inl ⟨by rfl, ?yza10⟩) (by assumption) ?rza10
      case yza10 => (intro w' hSw; (try dsimp only at hSw); go_simp; first | done | with_reducible rfl)
      try simp only [Act.put, List.setIfInBounds_toArray, List.set_cons_zero, List.set_cons_succ]
      refine takeD (i := 11) (v := ?vza11) (Eq.refl _) (by kernel_rfl) (by kernel_rfl) (by kernel_rfl) (fun _ _ _ h => h) (Or.inl ⟨by rfl, ?yza11⟩) (by assumption) ?rza11
      case yza11 => (intro w' hSw; (try dsimp only at hSw); go_simp; first | done | with_reducible rfl)
      try simp only [Act.put, List.setIfInBounds_toArray, List.set_cons_zero, List.set_cons_succ]
      refine takeD (i := 12) (v := ?vza12) (Eq.refl _) (by kernel_rfl) (by kernel_rfl) (by kernel_rfl) (fun _ _ _ h => h) (Or.inl ⟨by rfl, ?yza12⟩) (by assumption) ?rza12
      case yza12 => (intro w' hSw; (try dsimp only at hSw); go_simp; first | done | with_reducible rfl)
      try simp only [Act.put, List.setIfInBounds_toArray, List.set_cons_zero, List.set_cons_succ]
      refine takeD (i := 13) (v := ?vza13) (Eq.refl _) (by kernel_rfl) (by kernel_rfl) (by kernel_rfl) (fun _ _ _ h => h) (Or.inl ⟨by rfl, ?yza13⟩) (by assumption) ?rza13
      case yza13 => (intro w' hSw; (try dsimp only at hSw); go_simp; first | done | with_reducible rfl)
      try simp only [Act.put, List.setIfInBounds_toArray, List.set_cons_zero, List.set_cons_succ]
      refine takeD (i := 15) (v := ?vza15) (Eq.refl _) (by kernel_rfl) (by kernel_rfl) (by kernel_rfl) (fun _ _ _ h => h) (Or.inl ⟨by rfl, ?yza15⟩) (by assumption) ?rza15
      case yza15 => (intro w' hSw; (try dsimp only at hSw); go_simp; first | done | with_reducible rfl)
      try simp only [Act.put, List.setIfInBounds_toArray, List.set_cons_zero, List.set_cons_succ]
      refine takeD (i := 16) (v := ?vza16) (Eq.refl _) (by kernel_rfl) (by kernel_rfl) (by kernel_rfl) (fun _ _ _ h => h) (Or.inl ⟨by rfl, ?yza16⟩) (by assumption) ?rza16
      case yza16 => (intro w' hSw; (try dsimp only at hSw); go_simp; first | done | with_reducible rfl)
      try simp only [Act.put, List.setIfInBounds_toArray, List.set_cons_zero, List.set_cons_succ]
      refine takeD (i := 17) (v := ?vza17) (Eq.refl _) (by kernel_rfl) (by kernel_rfl) (by kernel_rfl) (fun _ _ _ h => h) (Or.inl ⟨by rfl, ?yza17⟩) (by assumption) ?rza17
      case yza17 => (intro w' hSw; (try dsimp only at hSw); go_simp; first | done | with_reducible rfl)
      try simp only [Act.put, List.setIfInBounds_toArray, List.set_cons_zero, List.set_cons_succ]
      refine takeD (i := 18) (v := ?vza18) (Eq.refl _) (by kernel_rfl) (by kernel_rfl) (by kernel_rfl) (fun _ _ _ h => h) (Or.inl ⟨by rfl, ?yza18⟩) (by assumption) ?rza18
      case yza18 => (intro w' hSw; (try dsimp only at hSw); go_simp; first | done | with_reducible rfl)
      try simp only [Act.put, List.setIfInBounds_toArray, List.set_cons_zero, List.set_cons_succ]
      refine takeD (i := 19) (v := ?vza19) (Eq.refl _) (by kernel_rfl) (by kernel_rfl) (by kernel_rfl) (fun _ _ _ h => h) (Or.inl ⟨by rfl, ?yza19⟩) (by assumption) ?rza19
      case yza19 => (intro w' hSw; (try dsimp only at hSw); go_simp; first | done | with_reducible rfl)
      try simp only [Act.put, List.setIfInBounds_toArray, List.set_cons_zero, List.set_cons_succ]
      refine wpAnyH_ready (rs := [14, 20]) (by kernel_rfl) (by simp) (readyD (i := 14) (Eq.refl _) (fun K hK => ?bz1) (readyD (i := 20) (Eq.refl _) (fun K hK => ?bz2) AllReadyH.nil))
      case' bz1 =>
        go_simp
        refine hK.out _ _ ⟨x0, z4⟩ (fun hHeld3 => ?_)
        clear hK K
        try simp only [Act.put, List.setIfInBounds_toArray, List.set_cons_zero, List.set_cons_succ]
        refine wpAnyH_ready (rs := [20]) (by kernel_rfl) (by simp) (readyD (i := 20) (Eq.refl _) (fun K hK => ?_) AllReadyH.nil)
        go_simp
        refine hK.out _ _ ⟨p0, s4⟩ (fun hHeld4 => ?_)
        clear hK K
        try simp only [Act.put, List.setIfInBounds_toArray, List.set_cons_zero, List.set_cons_succ]
        refine wpAnyH_ready (rs := [21]) (by kernel_rfl) (by simp) (readyD (i := 21) (Eq.refl _) (fun K hK => ?_) AllReadyH.nil)
        refine step_append_lies _ rfl _ _ 36 rfl w.heap.size 3 j0 _ 1 8 Tryz.underlying36 ij0 jz0 jz1 jz2 rfl (by decide) _ m (intCells x.1.kids) rfl HKA.out ⟨W3.heap.size, 0, none⟩ 1 1 [.int .i64 ((nt : Nat) : Int)] rfl rfl (World.news_of_block HNews.out) H1c.out (by decide) HMx.out (by omega) HBA.out.below.size _ rfl ?_
        intro q qc W5 hown hgrow hq _
        obtain ⟨e1, e2, e3, e4, e5⟩ := HBA.out.kidFacts HX.out HKv.out hgrow
        obtain ⟨⟨v0, v1, v2, v3⟩, w0, w1, w2, w3⟩ := local4 e1
        have hb5 := e4 _ _ _ HboxA.out
        obtain ⟨⟨t0, t1, t2, t3, t4, t5⟩, tf⟩ := local6 hb5
        have HOwn := Lib.hid hown
        have HGrow := Lib.hid hgrow
        have HQ := Lib.hid hq
        have Hb5 := Lib.hid hb5
        have HK5 := Lib.hid e5
        clear hown hgrow hq e1 e4 e5 hb5
        refine hK.out _ _ ⟨v0, t4⟩ (fun hHeld5 => ?_)
        clear hK K
        try simp only [Act.put, List.setIfInBounds_toArray, List.set_cons_zero, List.set_cons_succ]
        refine takeD (i := 22) (v := ?vzb22) (Eq.refl _) (by kernel_rfl) (by kernel_rfl) (by kernel_rfl) (fun _ _ _ h => h) (Or.inl ⟨by rfl, ?yzb22⟩) (by assumption) ?rzb22
        case yzb22 => (intro w' hSw; (try dsimp only at hSw); go_simp; first | done | with_reducible rfl)
        try simp only [Act.put, List.setIfInBounds_toArray, List.set_cons_zero, List.set_cons_succ]
        refine takeD (i := 23) (v := ?vzb23) (Eq.refl _) (by kernel_rfl) (by kernel_rfl) (by kernel_rfl) (fun _ _ _ h => h) (Or.inl ⟨by rfl, ?yzb23⟩) (by assumption) ?rzb23
        case yzb23 => (intro w' hSw; (try dsimp only at hSw); go_simp; first | done | with_reducible rfl)
        try simp only [Act.put, List.setIfInBounds_toArray, List.set_cons_zero, List.set_cons_succ]
        refine wpAnyH_ready (rs := [24]) (by kernel_rfl) (by simp) (readyD (i := 24) (Eq.refl _) (fun K hK => ?_) AllReadyH.nil)
        go_simp
        refine hK.out _ _ (by go_keep) (fun hHeld6 => ?_)
        clear hK K
        try simp only [Act.put, List.setIfInBounds_toArray, List.set_cons_zero, List.set_cons_succ]
        refine wpAnyH_done (by kernel_rfl) ?_ _
      case' bz2 =>
        go_simp
        refine hK.out _ _ ⟨p0, s4⟩ (fun hHeld3 => ?_)
        clear hK K
        try simp only [Act.put, List.setIfInBounds_toArray, List.set_cons_zero, List.set_cons_succ]
        refine wpAnyH_ready (rs := [14]) (by kernel_rfl) (by simp) (readyD (i := 14) (Eq.refl _) (fun K hK => ?_) AllReadyH.nil)
        go_simp
        refine hK.out _ _ ⟨p0, s4⟩ (fun hHeld4 => ?_)
        clear hK K
        try simp only [Act.put, List.setIfInBounds_toArray, List.set_cons_zero, List.set_cons_succ]
        refine wpAnyH_ready (rs := [21]) (by kernel_rfl) (by simp) (readyD (i := 21) (Eq.refl _) (fun K hK => ?_) AllReadyH.nil)
        refine step_append_lies _ rfl _ _ 36 rfl w.heap.size 3 j0 _ 1 8 Tryz.underlying36 ij0 jz0 jz1 jz2 rfl (by decide) _ m (intCells x.1.kids) rfl HKA.out ⟨W3.heap.size, 0, none⟩ 1 1 [.int .i64 ((nt : Nat) : Int)] rfl rfl (World.news_of_block HNews.out) H1c.out (by decide) HMx.out (by omega) HBA.out.below.size _ rfl ?_
        intro q qc W5 hown hgrow hq _
        obtain ⟨e1, e2, e3, e4, e5⟩ := HBA.out.kidFacts HX.out HKv.out hgrow
        obtain ⟨⟨v0, v1, v2, v3⟩, w0, w1, w2, w3⟩ := local4 e1
        have hb5 := e4 _ _ _ HboxA.out
        obtain ⟨⟨t0, t1, t2, t3, t4, t5⟩, tf⟩ := local6 hb5
        have HOwn := Lib.hid hown
        have HGrow := Lib.hid hgrow
        have HQ := Lib.hid hq
        have Hb5 := Lib.hid hb5
        have HK5 := Lib.hid e5
        clear hown hgrow hq e1 e4 e5 hb5
        refine hK.out _ _ ⟨v0, t4⟩ (fun hHeld5 => ?_)
        clear hK K
        try simp only [Act.put, List.setIfInBounds_toArray, List.set_cons_zero, List.set_cons_succ]
        refine takeD (i := 22) (v := ?vzc22) (Eq.refl _) (by kernel_rfl) (by kernel_rfl) (by kernel_rfl) (fun _ _ _ h => h) (Or.inl ⟨by rfl, ?yzc22⟩) (by assumption) ?rzc22
        case yzc22 => (intro w' hSw; (try dsimp only at hSw); go_simp; first | done | with_reducible rfl)
        try simp only [Act.put, List.setIfInBounds_toArray, List.set_cons_zero, List.set_cons_succ]
        refine takeD (i := 23) (v := ?vzc23) (Eq.refl _) (by kernel_rfl) (by kernel_rfl) (by kernel_rfl) (fun _ _ _ h => h) (Or.inl ⟨by rfl, ?yzc23⟩) (by assumption) ?rzc23
        case yzc23 => (intro w' hSw; (try dsimp only at hSw); go_simp; first | done | with_reducible rfl)
        try simp only [Act.put, List.setIfInBounds_toArray, List.set_cons_zero, List.set_cons_succ]
        refine wpAnyH_ready (rs := [24]) (by kernel_rfl) (by simp) (readyD (i := 24) (Eq.refl _) (fun K hK => ?_) AllReadyH.nil)
        go_simp
        refine hK.out _ _ (by go_keep) (fun hHeld6 => ?_)
        clear hK K
        try simp only [Act.put, List.setIfInBounds_toArray, List.set_cons_zero, List.set_cons_succ]
        refine wpAnyH_done (by kernel_rfl) ?_ _
      all_goals
        obtain ⟨g', cur', e', hgt, _⟩ := tree_cells HBA.out.tree HX.out
        cases e'
        have hgt5 := (show W5.heap[gt]? = _ from by
          obtain ⟨_, _, _, e4, _⟩ := HBA.out.kidFacts HX.out HKv.out HGrow.out
          exact e4 _ _ _ hgt)
        have hB6 := HBA.out.kid HX.out HMm.out (by rw [HKv.out]; exact HGrow.out) HOwn.out (by rw [HKv.out]; exact HQ.out)
        have hbox6 : (W5.setCell ⟨gt, u * 6 + 5, none⟩ (.slice (some ⟨q, 0, none⟩) (m + 1) qc)).heap[g0]? = some (.cells #[.int .u8 ((k : Nat) : Int), .string nm, .slice ao2 m2 c2, .string ⟨#[]⟩, .int .i64 ((u : Nat) : Int), .slice none 0 0] TNd (0, 0)) := by rw [heap_setCell_other _ _ _ _ (by exact hg0gt)]; exact Hb5.out
        have hKs : Keeps W5 (W5.setCell ⟨gt, u * 6 + 5, none⟩ (.slice (some ⟨q, 0, none⟩) (m + 1) qc)) := Keeps.set (i := u * 6 + 5) hgt5 (.inr rfl) _
        have hK6 := HKc.out.trans (HK5.out.trans hKs)
        have hAt6 := (HAt4.out.keeps HK5.out).keeps hKs
        have hTag : (Value.slice (some ⟨gt, 0, none⟩) nt capt).ownBlock ≠ some g0 := HG0.out.2
        clear hgt5 hKs hgt HAt4 HKc HBA HboxA HNews HKA HK5 HGrow HQ HOwn Hb5 H1c
        generalize W5.setCell ⟨gt, u * 6 + 5, none⟩ (.slice (some ⟨q, 0, none⟩) (m + 1) qc) = W6 at *
        clear x0 x1 x2 x3 y0 y1 y2 y3 z0 z1 z2 z3 z4 z5 zf p0 p1 p2 p3 s4 c5A c5 c0 c1 c2' c3 c4 f3 f5
        obtain ⟨L6, hL6⟩ : ∃ L6, L1.set u ({ x.1 with kids := x.1.kids ++ [nt] }, (x.2.1, .slice (some ⟨q, 0, none⟩) (m + 1) qc)) = L6 := ⟨_, rfl⟩
        have hl6 : L6.length = nt := by rw [← hL6, List.length_set]; exact HBl.out
        rw [hL6] at hB6
        have HL6 := Lib.hid hl6
        clear hL6 hl6
        obtain ⟨⟨x0, x1, x2, x3⟩, y0, y1, y2, y3⟩ := local4 hB6.blk
        obtain ⟨⟨z0, z1, z2, z3, z4, z5⟩, zf⟩ := local6 hbox6
        have bN : Below W6.heap.size W6 (W6.alloc (.cells #[.int .u8 ((k : Nat) : Int), .string nm, .slice ao2 m2 c2, .string ⟨#[]⟩, .int .i64 ((u : Nat) : Int), .slice none 0 0] TNd)) := (Below.refl _ _).alloc (Nat.le_refl _) _
        obtain ⟨⟨p0, p1, p2, p3⟩, q0, q1, q2, q3⟩ := local4 (hB6.on bN).blk
        have hboxN := (bN.block _ (Array.getElem?_eq_some_iff.1 hbox6).1).trans hbox6
        obtain ⟨⟨s0, s1', s2, s3, s4, s5⟩, sf⟩ := local6 hboxN
        have HG := Lib.hid (hB6.on bN.drew)
        have HNews : Hid ((W6.alloc (.cells #[.int .u8 ((k : Nat) : Int), .string nm, .slice ao2 m2 c2, .string ⟨#[]⟩, .int .i64 ((u : Nat) : Int), .slice none 0 0] TNd)).drew.heap[W6.heap.size]? = some (.cells #[.int .u8 ((k : Nat) : Int), .string nm, .slice ao2 m2 c2, .string ⟨#[]⟩, .int .i64 ((u : Nat) : Int), .slice none 0 0] TNd (0, 0))) := Lib.hid (heap_alloc_new W6 _)
        have H1c : Hid (∀ v ∈ [Value.int .u8 ((k : Nat) : Int), .string nm, .slice ao2 m2 c2, .string ⟨#[]⟩, .int .i64 ((u : Nat) : Int), .slice none 0 0], v.oneCell' = true) := Lib.hid fun v hv => by
          simp only [List.mem_cons, List.not_mem_nil, or_false] at hv
          rcases hv with rfl | rfl | rfl | rfl | rfl | rfl <;> rfl
        have HMx2 : Hid (nt + 1 ≤ maxLen) := Lib.hid (by unfold maxLen; omega)
        have HNd := Lib.hid (show (W6.alloc (.cells #[.int .u8 ((k : Nat) : Int), .string nm, .slice ao2 m2 c2, .string ⟨#[]⟩, .int .i64 ((u : Nat) : Int), .slice none 0 0] TNd)).drew.ownsRow w.heap.size TNd 6 (.slice (some ⟨gt, 0, none⟩) nt capt) nt (ndCells L6) from by have := HG.out.tree.row; rw [HL6.out] at this; exact this)
        have HAt := Lib.hid (hAt6.on bN.drew)
        have HK := Lib.hid (hK6.trans (Keeps.below bN.drew))
        clear hB6 hbox6 hboxN bN hAt6 hK6
        go_big_wp2
        go_region_law (refine step_append_lies _ rfl _ _ 28 rfl w.heap.size 38 i0 _ 6 96 Tryz.underlying28 hi0 hz0 hz1 hz2 rfl (by decide) _ nt (ndCells L6) rfl HNd.out ⟨W6.heap.size, 0, none⟩ 1 1 [.int .u8 ((k : Nat) : Int), .string nm, .slice ao2 m2 c2, .string ⟨#[]⟩, .int .i64 ((u : Nat) : Int), .slice none 0 0] rfl rfl (World.news_of_block HNews.out) H1c.out (by decide) HMx2.out (by omega) HG.out.below.size _ rfl ?_; intro q2 qc2 W7 hown hgrow _ _; obtain ⟨e1, e2⟩ := HG.out.nodeFacts hgrow; obtain ⟨⟨u0, u1, u2, u3⟩, v0, v1, v2, v3⟩ := local4 e1; have HOwn := Lib.hid hown; have HGr := Lib.hid hgrow; have HE1 := Lib.hid e1; have HE2 := Lib.hid e2; clear hown hgrow e1 e2)
        all_goals
          have hN := HG.out.node (x := (⟨k, bl nm, ats, [], ((u : Nat) : Int), []⟩, (.slice ao2 m2 c2, .slice none 0 0))) HAt.out rfl rfl HGr.out (by rw [HL6.out]; exact HOwn.out)
          have e0 : (o :: r).length = no := by rw [HOl.out]; rfl
          rw [HS1.out.1, HS1.out.2.1, ← e0] at hN
          have HN := Lib.hid hN
          have hKe := (HK.out.trans HE2.out).trans (Keeps.set (i := 0) HE1.out (.inl rfl) (.slice (some ⟨q2, 0, none⟩) (nt + 1) qc2))
          have HKe := Lib.hid hKe
          clear hN hKe e0
          go_big_wp2
          go_ret
          exact ⟨rfl, HKe.out, _, aoo, capo, _, _, _, HN.out⟩
end Go.Proofs.YtnfkndaggcklkaaGreatDoor

