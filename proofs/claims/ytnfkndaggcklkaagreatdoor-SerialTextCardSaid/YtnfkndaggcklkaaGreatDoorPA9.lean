/-
  Tokens of package token: it tells what the document says. Conditions: the library's variable MaxLen holds a number.
  Trees in memory: a row of nodes, each one's attributes and children in rows of their own; the builder's block. No conditions.
-/
import Derived.Test.YtnfkndaggcklkaaGreatDoorPA8
import Derived.Test.YtnfkndaggcklkaaGreatDoorRMath
import Derived.Laws.OwnMore
import Derived.Lib.FrozenHead
namespace Go.Proofs.YtnfkndaggcklkaaGreatDoor
open Go.RowKit Go.RunKit Go.CharrefKit Go.Lib Go.TokenKit

def tkCells (L : List (Tok × Value)) : List Value := L.flatMap fun x => [.int .u8 ((x.1.kind : Nat) : Int), .string ⟨x.1.name.toArray⟩, x.2, .bool x.1.self, .string ⟨x.1.data.toArray⟩]
theorem tkCells_cons (x : Tok × Value) (L : List (Tok × Value)) : tkCells (x :: L) = .int .u8 ((x.1.kind : Nat) : Int) :: .string ⟨x.1.name.toArray⟩ :: x.2 :: .bool x.1.self :: .string ⟨x.1.data.toArray⟩ :: tkCells L := rfl
theorem tkCells_snoc (L : List (Tok × Value)) (x : Tok × Value) : tkCells (L ++ [x]) = tkCells L ++ [.int .u8 ((x.1.kind : Nat) : Int), .string ⟨x.1.name.toArray⟩, x.2, .bool x.1.self, .string ⟨x.1.data.toArray⟩] := by simp [tkCells]
theorem tkCells_at : ∀ {L : List (Tok × Value)} {k : Nat} {x : Tok × Value}, L[k]? = some x →
    (tkCells L)[k * 5]? = some (.int .u8 ((x.1.kind : Nat) : Int)) ∧ (tkCells L)[k * 5 + 1]? = some (.string ⟨x.1.name.toArray⟩) ∧ (tkCells L)[k * 5 + 2]? = some x.2 ∧ (tkCells L)[k * 5 + 3]? = some (.bool x.1.self) ∧ (tkCells L)[k * 5 + 4]? = some (.string ⟨x.1.data.toArray⟩)
  | [], k, x, h => by simp at h
  | y :: r, 0, x, h => by
    simp only [List.getElem?_cons_zero, Option.some.injEq] at h
    subst h
    exact ⟨rfl, rfl, rfl, rfl, rfl⟩
  | y :: r, k + 1, x, h => by
    have := tkCells_at (L := r) (k := k) (x := x) (by simpa using h)
    rw [tkCells_cons, show (k + 1) * 5 = k * 5 + 1 + 1 + 1 + 1 + 1 by omega]
    simpa using this
/-- Tokens in memory: a row, and each one's attributes. -/
structure TkRow (T : TypeId) (w : World) (base : Nat) (v : Value) (L : List (Tok × Value)) : Prop where
  row : w.ownsRow base T 5 v L.length (tkCells L)
  sub : ∀ x, x ∈ L → AtRow w base x.2 x.1.attrs
theorem TkRow.nil (T : TypeId) (w : World) (base : Nat) : TkRow T w base (.slice none 0 0) [] := ⟨World.ownsRow_nil _ _ _ _, fun x h => by cases h⟩
theorem own_on {w w' : World} {base : Nat} {e : TypeId} {size : Nat} {v : Value} {n : Nat} {xs : List Value} (h : w.ownsRow base e size v n xs) (hb : Below w.heap.size w w') : w'.ownsRow base e size v n xs :=
  World.ownsRow.kept h (grown_below hb none) (by cases v.ownBlock <;> simp)
theorem TkRow.on {T : TypeId} {w w' : World} {base : Nat} {v : Value} {L : List (Tok × Value)} (h : TkRow T w base v L) (hb : Below w.heap.size w w') : TkRow T w' base v L := ⟨own_on h.row hb, fun x hx => (h.sub x hx).on hb⟩
theorem own_ne {w : World} {base k size n : Nat} {e T : TypeId} {v : Value} {xs : List Value} {cs : Array Value} {fr : Nat × Nat} (h : w.ownsRow base e size v n xs) (hk : w.heap[k]? = some (.cells cs T fr)) (hT : T ≠ e) : v.ownBlock ≠ some k := by
  intro ee
  rcases h.2 with ⟨rfl, _⟩ | ⟨g, cap, cur, rfl, _, hg, _⟩
  · simp [Value.ownBlock] at ee
  · simp only [Value.ownBlock, Option.some.injEq] at ee
    subst ee
    rw [hk] at hg
    simp only [Option.some.injEq, Obj.cells.injEq] at hg
    exact hT hg.2.1
/-- The reader moves on: the rows stay. -/
theorem TkRow.moved {T : TypeId} {w w' : World} {base b : Nat} {c c' : ByteArray} {v : Value} {L : List (Tok × Value)} (h : TkRow T w base v L) (hr : RB w b c) (hT : TRd ≠ T) (hm : Moved w b c' w') : TkRow T w' base v L :=
  ⟨World.ownsRow.kept h.row hm.grown (.inr (own_ne h.row hr hT)), fun x hx => (h.sub x hx).kept hr (by decide) hm.grown⟩
/-- One token more. -/
theorem TkRow.grew {T : TypeId} {w w' : World} {base : Nat} {v v' : Value} {L : List (Tok × Value)} {x : Tok × Value} (h : TkRow T w base v L) (hx : AtRow w base x.2 x.1.attrs) (hT : T ≠ TAt) (hg : w.grownBy w' v.ownBlock) (hown : w'.ownsRow base T 5 v' (L.length + 1) (tkCells L ++ [.int .u8 ((x.1.kind : Nat) : Int), .string ⟨x.1.name.toArray⟩, x.2, .bool x.1.self, .string ⟨x.1.data.toArray⟩])) :
    TkRow T w' base v' (L ++ [x]) := by
  have hk : ∀ y : Tok × Value, AtRow w base y.2 y.1.attrs → AtRow w' base y.2 y.1.attrs := fun y hy => by
    rcases h.row.2 with ⟨rfl, _⟩ | ⟨g, cap, cur, rfl, _, hgg, _⟩
    · exact World.ownsRow.kept hy hg (by cases hv : y.2.ownBlock <;> simp [Value.ownBlock])
    · exact hy.kept hgg hT hg
  refine ⟨?_, fun y hy => ?_⟩
  · rw [tkCells_snoc, List.length_append]; exact hown
  · rcases List.mem_append.1 hy with hy | hy
    · exact hk y (h.sub y hy)
    · simp only [List.mem_singleton] at hy
      subst hy
      exact hk _ hx
theorem Maxed.at_ {w W : World} {b : Nat} (h : Maxed w w.heap.size) (hb : Below w.heap.size w W) (hB : w.heap.size ≤ b) : Maxed W b := by
  obtain ⟨m, hm⟩ := h.ex
  refine ⟨⟨m, ?_⟩, Nat.lt_of_lt_of_le h.lt hB⟩
  rw [hb.cell (World.block_lt_of_cell? _ _ hm)]; exact hm
theorem Tryz.infoTok : (Tryz.prog.info? 25).map (fun i => (i.zero, i.size, i.bytes)) = some (some (.agg #[.int .u8 0, .string ⟨#[]⟩, .slice none 0 0, .bool false, .string ⟨#[]⟩]), 5, 72) := by kernel_rfl
theorem oneL_err {l : Bytes} {x : Nat} (h : oneL l = .error x) : x = 40 ∨ x = 41 ∨ x = 3 ∨ x = 43 := by
  unfold oneL at h
  split at h
  · split at h
    · have := tagL_err h; omega
    · split at h
      · cases hd : l.drop 2 with
        | nil => rw [hd] at h; simp only [endL, Except.error.injEq] at h; omega
        | cons b r =>
          rw [hd, endL_cons] at h
          split at h
          · split at h
            · rename_i e he
              simp only [Except.error.injEq] at h
              have := tagL_err he
              omega
            · split at h
              · simp only [Except.error.injEq] at h; omega
              · cases h
          · simp only [Except.error.injEq] at h; omega
      · split at h
        · unfold commentL at h
          split at h
          · cases h
          · simp only [Except.error.injEq] at h; omega
        · split at h
          · unfold doctypeL at h
            split at h
            · cases h
            · simp only [Except.error.injEq] at h; omega
          · simp only [Except.error.injEq] at h; omega
  · cases h
/-- What is told at last, out of what was told so far. -/
def joinT (d : List Tok) : Except (Nat × Nat) (List Tok) → Except (Nat × Nat) (List Tok)
  | .ok ts => .ok (d ++ ts)
  | .error x => .error x
theorem joinT_nil (o : Except (Nat × Nat) (List Tok)) : joinT [] o = o := by cases o <;> rfl
theorem joinT_err {d : List Tok} {p : Nat} {l : Bytes} {x : Nat} (hl : l ≠ []) (h : oneL l = .error x) : joinT d (toksAt p l) = .error (x, p) := by rw [toksAt_step p hl, h]; rfl
theorem joinT_ok {d : List Tok} {p : Nat} {l r : Bytes} {t : Tok} (hl : l ≠ []) (h : oneL l = .ok (t, r)) : joinT d (toksAt p l) = joinT (d ++ [t]) (toksAt (p + (l.length - r.length)) r) := by
  rw [toksAt_step p hl, h]
  simp only
  cases toksAt (p + (l.length - r.length)) r with
  | error x => rfl
  | ok ts => simp [joinT]
/-- What is held at the loop's head. -/
structure ToksAt (w : World) (b : Nat) (s cur : ByteArray) (v : Value) (L : List (Tok × Value)) (wr : World) : Prop where
  below : Below w.heap.size w wr
  rest : RB wr b cur
  row : TkRow TTk wr w.heap.size v L
  size : L.length + cur.size ≤ s.size
  spec : joinT (L.map (·.1)) (toksAt (s.size - cur.size) (bl cur)) = toksAt 0 (bl s)
  le : w.heap.size ≤ b

set_option maxRecDepth 100000 in
set_option maxHeartbeats 1000000 in
theorem tokens_any (s : ByteArray) (w : World) (hM : Maxed w w.heap.size) :
    Calls Tryz.prog 42 #[.string s] w fun e w' => ∃ v L er pl, e = .returned (.tuple #[v, .int .i64 ((er : Nat) : Int), .int .i64 ((pl : Nat) : Int)]) ∧ Below w.heap.size w w' ∧ TkRow TTk w' w.heap.size v L ∧ (L.map (·.1), er, pl) = answerL (bl s) := by
  have hlen := bl_length s
  by_cases hbig : 65536 < s.size
  · have hI : (65536 : Int) < s.size := by omega
    have ha : answerL (bl s) = ([], 3, 0) := by unfold answerL; rw [if_pos (by rw [hlen]; exact hbig)]
    rw [ha]
    go_enter Tryz.func42, Tryz.ntmps42
    go_big_wp2
    go_ret3
    exact ⟨_, [], 3, 0, rfl, Below.refl _ _, TkRow.nil _ _ _, rfl⟩
  · have hI : ¬ (65536 : Int) < s.size := by omega
    have HI : Hid (∀ W, Calls Tryz.prog 76 #[.string s, .int .u8 0] W fun e w'' => e = .returned (.int .i64 (Lib.indexByte (bl s) 0)) ∧ W = w'') :=
      Lib.hid fun W => (Tryz.strings_IndexByte s 0 W).mono fun e w1 ⟨h1, h2⟩ => ⟨h1, h2.symm⟩
    by_cases hz : Lib.indexByte (bl s) 0 = -1
    · have ha : answerL (bl s) = (match toksAt 0 (bl s) with
          | .error (e, p) => ([], e, p)
          | .ok ts => (ts, 0, 0)) := by
        have hc : (bl s).contains 0 = false := by rw [contains_iff_indexByte, hz]; rfl
        unfold answerL
        rw [if_neg (by rw [hlen]; exact hbig), hc]; rfl
      have HAns := Lib.hid ha
      rw [hz] at HI
      obtain ⟨an, han⟩ : ∃ an, answerL (bl s) = an := ⟨_, rfl⟩
      rw [han] at HAns ⊢
      have HMx := Lib.hid hM
      have T0 : Hid (ToksAt w w.heap.size s s (.slice none 0 0) [] (w.alloc (.cells #[.string s] TRd))) := Lib.hid ⟨(Below.refl _ _).alloc (Nat.le_refl _) _, heap_alloc_new w _, TkRow.nil _ _ _, by simp, by rw [Nat.sub_self]; exact joinT_nil _, Nat.le_refl _⟩
      clear hM hz ha han
      go_enter Tryz.func42, Tryz.ntmps42
      go_big_wp2_with (go_at_call 76; refine (HI.out _).mono ?_; rintro e w1 ⟨rfl, rfl⟩)
      go_loopw [6] (fun v wr => ∃ (cur : ByteArray) (L : List (Tok × Value)), Hid (ToksAt w w.heap.size s cur v L wr) ∧ cur.size ≤ s.size) (fun _ wr => restAt w.heap.size wr)
      case atStart => exact ⟨s, [], T0, Nat.le_refl _⟩
      case round =>
        clear T0
        obtain ⟨cur, L, HT, hcs⟩ := hrel
        obtain ⟨ao, cap, hv⟩ := sliceOf HT.out.row.row
        subst hv
        have hcell := HT.out.rest.cell
        have hra := HT.out.rest.restAt
        cases hb : bl cur with
        | nil =>
          have hE : cur.toList = [] := by rw [Lib.toList_data]; exact hb
          have hE1 : cur.toList.isEmpty = true := by simp [hE]
          have hfin : an = (L.map (·.1), 0, 0) := by
            have h1 := HAns.out
            have h2 := HT.out.spec
            rw [hb, toksAt_nil] at h2
            rw [← h2] at h1
            rw [h1]
            simp [joinT]
          have HF := Lib.hid hfin
          clear hb hfin
          go_big_wp2
          go_ret3
          exact ⟨_, L, 0, 0, rfl, HT.out.below, HT.out.row, HF.out.symm⟩
        | cons x t =>
          have hne0 : ¬ cur.toList = [] := by rw [Lib.toList_data]; intro h; rw [show cur.data.toList = bl cur from rfl, hb] at h; cases h
          have hne1 : cur.toList.isEmpty = false := by simpa using hne0
          have hpos : 0 < cur.size := by rw [← bl_length, hb]; simp
          have hbne : bl cur ≠ [] := by rw [hb]; simp
          have HN := Lib.hid (next_any w.heap.size cur (by omega) hpos wr HT.out.rest)
          clear hb
          have hsub : (cur.size : Int) ≤ s.size := by omega
          go_big_wp2_with (first
            | (go_at_call 77; refine HN.out.mono ?_; rintro e w2 ⟨f, rfl, hb2, hf⟩; have ef := hf.enters))
          have hread := hf.reads w2 (HT.out.rest.on hb2) (HMx.out.at_ (HT.out.below.trans (hb2.mono HT.out.below.size)) (Nat.le_refl _))
          have hB2 := HT.out.below.trans (hb2.mono HT.out.below.size)
          have HT2 := Lib.hid (HT.out.row.on hb2)
          have hRB2 := HT.out.rest.on hb2
          cases ho : oneL (bl cur) with
          | error y =>
            rw [ho] at hread
            have hy0 : ¬ y = 0 := by have := oneL_err ho; omega
            have hyI : ¬ (y : Int) = 0 := by omega
            have hfin : an = ([], y, s.size - cur.size) := by
              have h1 := HAns.out
              have h2 := HT.out.spec
              rw [joinT_err hbne ho] at h2
              rw [← h2] at h1
              exact h1
            have HF := Lib.hid hfin
            clear ho hfin hbne hf
            refine hread.mono ?_
            rintro e w3 ⟨k, n, ao2, m2, cap2, sf, d, er, c, rfl, hm3, hK⟩
            obtain ⟨hK1, hK2, hK3, hK4, hK5, hK6, hK7, hK8⟩ := hK
            subst hK1; subst hK2; subst hK3; subst hK4; subst hK5; subst hK6; subst hK7; subst hK8
            have HB3 := Lib.hid (hm3.below hB2 (Nat.le_refl _))
            clear hm3 hread
            go_big_wp2
            go_ret3
            exact ⟨_, [], y, s.size - cur.size, by rw [show ((s.size - cur.size : Nat) : Int) = (s.size : Int) - (cur.size : Int) by omega]; rfl, HB3.out.trans ((Below.refl w3.heap.size w3).alloc (Nat.le_refl _) _ |>.mono HB3.out.size), TkRow.nil _ _ _, HF.out.symm⟩
          | ok y =>
            obtain ⟨tk, r⟩ := y
            rw [ho] at hread
            have hrl := one_len hbne ho
            rw [bl_length] at hrl
            have hsp := HT.out.spec
            rw [joinT_ok hbne ho, bl_length] at hsp
            have HSp := Lib.hid hsp
            clear ho hsp hbne hf
            refine hread.mono ?_
            rintro e w3 ⟨k, n, ao2, m2, cap2, sf, d, er, c, rfl, hm3, hK⟩
            have her : er = 0 := hK.1
            subst her
            have HK := Lib.hid hK
            have HB3 := Lib.hid (hm3.below hB2 (Nat.le_refl _))
            have HR3 := Lib.hid hm3.rest
            have HT3 := Lib.hid (HT2.out.moved hRB2 (by decide) hm3)
            have hbe4 : Below w3.heap.size w3 (w3.alloc (.cells #[.int .u8 ((k : Nat) : Int), .string n, .slice ao2 m2 cap2, .bool sf, .string d] 25)) := (Below.refl _ _).alloc (Nat.le_refl _) _
            have hbe5 : Below w3.heap.size w3 ((w3.alloc (.cells #[.int .u8 ((k : Nat) : Int), .string n, .slice ao2 m2 cap2, .bool sf, .string d] 25)).alloc (.cells #[.int .u8 ((k : Nat) : Int), .string n, .slice ao2 m2 cap2, .bool sf, .string d] 25)) := hbe4.alloc (by simp) _
            have HT5 := Lib.hid (HT3.out.on hbe5)
            have HB5 := Lib.hid hbe5
            obtain ⟨i0, hi0, hz0, hz1, hz2⟩ := info_parts Tryz.infoTok
            clear hm3 hread hK hbe4 hbe5
            go_big_wp2_with (at_builtin; refine wpList_append_own_at _ rfl _ _ 22 rfl w.heap.size 25 i0 _ 5 72 Tryz.underlying22 hi0 hz0 hz1 hz2 rfl (by decide) _ L.length (tkCells L) rfl HT5.out.row ⟨w3.heap.size + 1, 0, none⟩ 1 1 [.int .u8 ((k : Nat) : Int), .string n, .slice ao2 m2 cap2, .bool sf, .string d] rfl ?c1 ?c2 ?c3 ?c4 ?c5 ?c6 ?_)
            case c1 => rfl
            case c2 =>
              have := news_alloc (w3.alloc (.cells #[.int .u8 ((k : Nat) : Int), .string n, .slice ao2 m2 cap2, .bool sf, .string d] 25)) [.int .u8 ((k : Nat) : Int), .string n, .slice ao2 m2 cap2, .bool sf, .string d] 25
              rwa [show (w3.alloc (.cells #[.int .u8 ((k : Nat) : Int), .string n, .slice ao2 m2 cap2, .bool sf, .string d] 25)).heap.size = w3.heap.size + 1 by simp] at this
            case c3 => intro u hu; simp only [List.mem_cons, List.not_mem_nil, or_false] at hu; rcases hu with rfl | rfl | rfl | rfl | rfl <;> rfl
            case c4 => have := HT.out.size; unfold maxLen; omega
            case c5 => have := HT.out.size; omega
            case c6 => have := HB3.out.size; have := HB5.out.size; omega
            intro v' W hown' hgrow _ _
            have hbW : Below w.heap.size w W := (HB3.out.trans (HB5.out.mono HB3.out.size)).grown hgrow (by have := HB3.out.size; have := HB5.out.size; omega) (fun q hq => (World.ownsRow.lt HT5.out.row q hq).1)
            have hrbW : RB W w.heap.size c := by
              have h5 := HR3.out.on HB5.out
              exact (hgrow.block _ h5.lt (fun e => own_ne HT5.out.row h5 (by decide) e.symm)).trans h5
            obtain ⟨_, hc, hk1, hn1, hat, hsf, hd1⟩ := HK.out
            subst hc; subst hk1; subst hn1; subst hsf; subst hd1
            have hrow := HT5.out.grew (x := (tk, .slice ao2 m2 cap2)) ((hat.mono hB2.size).on HB5.out) (by decide) hgrow hown'
            have hsz2 : (⟨r.toArray⟩ : ByteArray).size = r.length := by rw [← bl_length, bl_of]
            have hTA : Hid (ToksAt w w.heap.size s ⟨r.toArray⟩ v' (L ++ [(tk, .slice ao2 m2 cap2)]) W) := Lib.hid ⟨hbW, hrbW, hrow, by
                rw [hsz2, List.length_append]; have := HT.out.size; simp; omega, by
                rw [hsz2, bl_of, List.map_append, ← HSp.out, show s.size - cur.size + (cur.size - r.length) = s.size - r.length by omega]; rfl, Nat.le_refl _⟩
            clear hown' hgrow hbW hrbW hrow hat
            go_big_wp2
            exact ⟨⟨_, _, hTA, by rw [hsz2]; omega⟩, by rw [hTA.out.rest.restAt, hra, hsz2]; omega⟩
    · obtain ⟨p, hp⟩ : ∃ p : Nat, Lib.indexByte (bl s) 0 = (p : Int) := ⟨(Lib.indexByte (bl s) 0).toNat, by have := Lib.indexByte_ge (bl s) 0; omega⟩
      have ha : answerL (bl s) = ([], 42, p) := by
        have hp2 := hp
        rw [← indexAny_one] at hp2
        obtain ⟨h1, h2, h3⟩ := any_some hp2
        have hc : (bl s).contains 0 = true := by rw [contains_iff_indexByte, hp]; simp
        unfold answerL
        rw [if_neg (by rw [hlen]; exact hbig), if_pos hc, h2, List.length_take, Nat.min_eq_left (Nat.le_of_lt h1)]
      rw [ha]
      rw [hp] at HI
      clear hp hz ha
      go_enter Tryz.func42, Tryz.ntmps42
      go_big_wp2_with (go_at_call 76; refine (HI.out _).mono ?_; rintro e w1 ⟨rfl, rfl⟩)
      go_ret3
      exact ⟨_, [], 42, p, rfl, Below.refl _ _, TkRow.nil _ _ _, rfl⟩
end Go.Proofs.YtnfkndaggcklkaaGreatDoor

namespace Go.Proofs.YtnfkndaggcklkaaGreatDoor
open Go.RowKit Go.RunKit Go.CharrefKit Go.Lib Go.TokenKit Go.TreeKit

abbrev TNd : TypeId := 38
abbrev TIn : TypeId := 3
abbrev TU8 : TypeId := 5
abbrev TOp : TypeId := 57
abbrev TBd : TypeId := 64

def intCells (l : List Nat) : List Value := l.map fun k => .int .i64 ((k : Nat) : Int)
theorem intCells_snoc (l : List Nat) (k : Nat) : intCells (l ++ [k]) = intCells l ++ [.int .i64 ((k : Nat) : Int)] := by simp [intCells]
abbrev NdV := Nd × Value × Value
def ndCell (x : NdV) : List Value := [.int .u8 ((x.1.kind : Nat) : Int), .string ⟨x.1.name.toArray⟩, x.2.1, .string ⟨x.1.data.toArray⟩, .int .i64 x.1.up, x.2.2]
def ndCells (L : List NdV) : List Value := L.flatMap ndCell
theorem ndCells_cons (x : NdV) (L : List NdV) : ndCells (x :: L) = ndCell x ++ ndCells L := rfl
theorem ndCells_snoc (L : List NdV) (x : NdV) : ndCells (L ++ [x]) = ndCells L ++ ndCell x := by simp [ndCells]
theorem ndCells_at : ∀ {L : List NdV} {k : Nat} {x : NdV} {c : Nat}, L[k]? = some x → c < 6 → (ndCells L)[k * 6 + c]? = (ndCell x)[c]?
  | [], k, x, c, h, _ => by simp at h
  | y :: r, 0, x, c, h, hc => by
    simp only [List.getElem?_cons_zero, Option.some.injEq] at h
    subst h
    rw [ndCells_cons, Nat.zero_mul, Nat.zero_add, List.getElem?_append_left (by exact hc)]
  | y :: r, k + 1, x, c, h, hc => by
    have := ndCells_at (L := r) (k := k) (x := x) (c := c) (by simpa using h) hc
    rw [ndCells_cons, List.getElem?_append_right (by show 6 ≤ _; omega)]
    rw [show (k + 1) * 6 + c - (ndCell y).length = k * 6 + c by show (k + 1) * 6 + c - 6 = _; omega]
    exact this
/-- A cell of one node written over. -/
theorem ndCells_set : ∀ {L : List NdV} {k : Nat} {x y : NdV} {c : Nat} {u : Value}, L[k]? = some x → c < 6 → (ndCell x).set c u = ndCell y → (ndCells L).set (k * 6 + c) u = ndCells (L.set k y)
  | [], k, x, y, c, u, h, _, _ => by simp at h
  | z :: r, 0, x, y, c, u, h, hc, he => by
    simp only [List.getElem?_cons_zero, Option.some.injEq] at h
    subst h
    rw [ndCells_cons, Nat.zero_mul, Nat.zero_add, List.set_append_left _ _ (by exact hc), he]
    rfl
  | z :: r, k + 1, x, y, c, u, h, hc, he => by
    have := ndCells_set (L := r) (k := k) (x := x) (y := y) (c := c) (u := u) (by simpa using h) hc he
    rw [ndCells_cons, List.set_append_right _ _ (by show 6 ≤ _; omega)]
    rw [show (k + 1) * 6 + c - (ndCell z).length = k * 6 + c by show (k + 1) * 6 + c - 6 = _; omega, this]
    rfl
def opCell (o : Opd) : List Value := [.int .i64 ((o.node : Nat) : Int), .string ⟨o.name.toArray⟩, .int .u8 ((o.kind : Nat) : Int)]
def opCells (l : List Opd) : List Value := l.flatMap opCell
theorem opCells_cons (o : Opd) (l : List Opd) : opCells (o :: l) = opCell o ++ opCells l := rfl
theorem opCells_snoc (l : List Opd) (o : Opd) : opCells (l ++ [o]) = opCells l ++ opCell o := by simp [opCells]
theorem opCells_len (l : List Opd) : (opCells l).length = l.length * 3 := by
  induction l with
  | nil => rfl
  | cons x r ih => rw [opCells_cons, List.length_append, ih, List.length_cons]; show 3 + _ = _; omega
theorem opCells_at : ∀ {l : List Opd} {k : Nat} {o : Opd} {c : Nat}, l[k]? = some o → c < 3 → (opCells l)[k * 3 + c]? = (opCell o)[c]?
  | [], k, x, c, h, _ => by simp at h
  | y :: r, 0, x, c, h, hc => by
    simp only [List.getElem?_cons_zero, Option.some.injEq] at h
    subst h
    rw [opCells_cons, Nat.zero_mul, Nat.zero_add, List.getElem?_append_left (by exact hc)]
  | y :: r, k + 1, x, c, h, hc => by
    have := opCells_at (l := r) (k := k) (o := x) (c := c) (by simpa using h) hc
    rw [opCells_cons, List.getElem?_append_right (by show 3 ≤ _; omega)]
    rw [show (k + 1) * 3 + c - (opCell y).length = k * 3 + c by show (k + 1) * 3 + c - 3 = _; omega]
    exact this

/-- Rows of another type than a block's stay, when that block alone changes. -/
theorem own_other {w w' : World} {base size n k : Nat} {e T : TypeId} {v : Value} {xs : List Value} {cs : Array Value} {fr : Nat × Nat} (h : w.ownsRow base e size v n xs) (hk : w.heap[k]? = some (.cells cs T fr)) (hT : T ≠ e) (hg : w.grownBy w' (some k)) : w'.ownsRow base e size v n xs :=
  World.ownsRow.kept h hg (.inr (own_ne h hk hT))
/-- Rows of another type than a row's stay, when that row alone changes. -/
theorem own_beside {w w' : World} {base base2 size size2 n n2 : Nat} {e e2 : TypeId} {v v2 : Value} {xs xs2 : List Value} (h : w.ownsRow base e size v n xs) (h2 : w.ownsRow base2 e2 size2 v2 n2 xs2) (hT : e2 ≠ e) (hg : w.grownBy w' v2.ownBlock) : w'.ownsRow base e size v n xs := by
  rcases h2.2 with ⟨rfl, _⟩ | ⟨g, cap, cur, rfl, _, hgg, _⟩
  · exact World.ownsRow.kept h hg (by cases v.ownBlock <;> simp [Value.ownBlock])
  · exact own_other h hgg hT hg
/-- A tree in memory. -/
structure NdRow (w : World) (base : Nat) (v : Value) (L : List NdV) : Prop where
  row : w.ownsRow base TNd 6 v L.length (ndCells L)
  attrs : ∀ x, x ∈ L → AtRow w base x.2.1 x.1.attrs
  kids : ∀ x, x ∈ L → w.ownsRow base TIn 1 x.2.2 x.1.kids.length (intCells x.1.kids)
  apart : ∀ (i j : Nat) (x y : NdV), L[i]? = some x → L[j]? = some y → i ≠ j → ∀ g, x.2.2.ownBlock = some g → y.2.2.ownBlock ≠ some g
theorem NdRow.on {w w' : World} {base : Nat} {v : Value} {L : List NdV} (h : NdRow w base v L) (hb : Below w.heap.size w w') : NdRow w' base v L :=
  ⟨own_on h.row hb, fun x hx => (h.attrs x hx).on hb, fun x hx => own_on (h.kids x hx) hb, h.apart⟩
theorem NdRow.other {w w' : World} {base k : Nat} {v : Value} {L : List NdV} {T : TypeId} {cs : Array Value} {fr : Nat × Nat} (h : NdRow w base v L) (hk : w.heap[k]? = some (.cells cs T fr)) (h1 : T ≠ TNd) (h2 : T ≠ TAt) (h3 : T ≠ TIn) (hg : w.grownBy w' (some k)) : NdRow w' base v L :=
  ⟨own_other h.row hk h1 hg, fun x hx => own_other (h.attrs x hx) hk h2 hg, fun x hx => own_other (h.kids x hx) hk h3 hg, h.apart⟩
theorem NdRow.beside {w w' : World} {base base2 size2 n2 : Nat} {v v2 : Value} {L : List NdV} {e2 : TypeId} {xs2 : List Value} (h : NdRow w base v L) (hk : w.ownsRow base2 e2 size2 v2 n2 xs2) (h1 : e2 ≠ TNd) (h2 : e2 ≠ TAt) (h3 : e2 ≠ TIn) (hg : w.grownBy w' v2.ownBlock) : NdRow w' base v L :=
  ⟨own_beside h.row hk h1 hg, fun x hx => own_beside (h.attrs x hx) hk h2 hg, fun x hx => own_beside (h.kids x hx) hk h3 hg, h.apart⟩
/-- The words under way, in a builder at an address. -/
def WordsAt (w : World) (base b : Nat) (pa bv : Value) (ws : Bytes) : Prop :=
  (pa = .pointer none ∧ bv = .slice none 0 0 ∧ ws = []) ∨ (pa = .pointer (some ⟨b, 2, none⟩) ∧ ws ≠ [] ∧ w.ownsRowF base TU8 1 bv ws.length (byteCells ws))
theorem ownF_ne {w : World} {base k size n : Nat} {e T : TypeId} {v : Value} {xs : List Value} {cs : Array Value} {fr : Nat × Nat} (h : w.ownsRowF base e size v n xs) (hk : w.heap[k]? = some (.cells cs T fr)) (hT : T ≠ e) : v.ownBlock ≠ some k := by
  intro ee
  rcases h.2 with ⟨rfl, _⟩ | ⟨g, cap, cur, fz, rfl, _, hg, _⟩
  · simp [Value.ownBlock] at ee
  · simp only [Value.ownBlock, Option.some.injEq] at ee
    subst ee
    rw [hk] at hg
    simp only [Option.some.injEq, Obj.cells.injEq] at hg
    exact hT hg.2.1
theorem WordsAt.other {w w' : World} {base b k : Nat} {pa bv : Value} {ws : Bytes} {T : TypeId} {cs : Array Value} {fr : Nat × Nat} (h : WordsAt w base b pa bv ws) (hk : w.heap[k]? = some (.cells cs T fr)) (hT : T ≠ TU8) (hg : w.grownBy w' (some k)) : WordsAt w' base b pa bv ws := by
  rcases h with h | ⟨h1, h2, h3⟩
  · exact .inl h
  · exact .inr ⟨h1, h2, World.ownsRowF.kept h3 hg (.inr (ownF_ne h3 hk hT))⟩
theorem WordsAt.beside {w w' : World} {base b base2 size2 n2 : Nat} {pa bv v2 : Value} {ws : Bytes} {e2 : TypeId} {xs2 : List Value} (h : WordsAt w base b pa bv ws) (hk : w.ownsRow base2 e2 size2 v2 n2 xs2) (hT : e2 ≠ TU8) (hg : w.grownBy w' v2.ownBlock) : WordsAt w' base b pa bv ws := by
  rcases h with h | ⟨h1, h2, h3⟩
  · exact .inl h
  · refine .inr ⟨h1, h2, ?_⟩
    rcases hk.2 with ⟨rfl, _⟩ | ⟨g, cap, cur, rfl, _, hgg, _⟩
    · exact World.ownsRowF.kept h3 hg (by cases bv.ownBlock <;> simp [Value.ownBlock])
    · exact World.ownsRowF.kept h3 hg (.inr (ownF_ne h3 hgg hT))
theorem WordsAt.on {w w' : World} {base b : Nat} {pa bv : Value} {ws : Bytes} (h : WordsAt w base b pa bv ws) (hb : Below w.heap.size w w') : WordsAt w' base b pa bv ws := by
  rcases h with h | ⟨h1, h2, h3⟩
  · exact .inl h
  · exact .inr ⟨h1, h2, World.ownsRowF.kept h3 (grown_below hb none) (by cases bv.ownBlock <;> simp)⟩
/-- The builder in memory. -/
structure BAt (w : World) (b : Nat) (tv ov pa bv : Value) (s : BS) (L : List NdV) (wr : World) : Prop where
  below : Below w.heap.size w wr
  le : w.heap.size ≤ b
  blk : wr.heap[b]? = some (.cells #[tv, ov, pa, bv] TBd (0, 0))
  tree : NdRow wr w.heap.size tv L
  spec : L.map (·.1) = s.t
  opens : wr.ownsRow w.heap.size TOp 3 ov s.o.length (opCells s.o.reverse)
  words : WordsAt wr w.heap.size b pa bv s.ws
theorem BAt.on {w wr w' : World} {b : Nat} {tv ov pa bv : Value} {s : BS} {L : List NdV} (h : BAt w b tv ov pa bv s L wr) (hb : Below wr.heap.size wr w') : BAt w b tv ov pa bv s L w' :=
  ⟨h.below.trans (hb.mono h.below.size), h.le, by rw [hb.block _ (Array.getElem?_eq_some_iff.1 h.blk).1]; exact h.blk, h.tree.on hb, h.spec, own_on h.opens hb, h.words.on hb⟩
theorem BAt.len {w wr : World} {b : Nat} {tv ov pa bv : Value} {s : BS} {L : List NdV} (h : BAt w b tv ov pa bv s L wr) : L.length = s.t.length := by rw [← h.spec, List.length_map]
theorem local4 {W : World} {g : Nat} {a0 a1 a2 a3 : Value} {T : TypeId} (h : W.heap[g]? = some (.cells #[a0, a1, a2, a3] T (0, 0))) :
    (W.cell? ⟨g, 0, none⟩ = some a0 ∧ W.cell? ⟨g, 1, none⟩ = some a1 ∧ W.cell? ⟨g, 2, none⟩ = some a2 ∧ W.cell? ⟨g, 3, none⟩ = some a3) ∧
    (W.frozen? ⟨g, 0, none⟩ = false ∧ W.frozen? ⟨g, 1, none⟩ = false ∧ W.frozen? ⟨g, 2, none⟩ = false ∧ W.frozen? ⟨g, 3, none⟩ = false) :=
  ⟨⟨by simp [World.cell?, h], by simp [World.cell?, h], by simp [World.cell?, h], by simp [World.cell?, h]⟩, frozen_of_row W g 0 _ _ h, frozen_of_row W g 1 _ _ h, frozen_of_row W g 2 _ _ h, frozen_of_row W g 3 _ _ h⟩
/-- Other open ones. -/
theorem BAt.setOpen {w wr : World} {b : Nat} {tv ov pa bv ov' : Value} {s : BS} {L : List NdV} {o' : List Opd} (h : BAt w b tv ov pa bv s L wr) (ho : wr.ownsRow w.heap.size TOp 3 ov' o'.length (opCells o'.reverse)) :
    BAt w b tv ov' pa bv ⟨s.t, o', s.ws⟩ L (wr.setCell ⟨b, 1, none⟩ ov') :=
  ⟨h.below.setCell h.le _, h.le, by have := heap_setCell_same wr b 1 _ _ ov' h.blk; simpa using this,
    h.tree.other h.blk (by decide) (by decide) (by decide) (grown_set _ _ _ _), h.spec, own_other ho h.blk (by decide) (grown_set _ _ _ _), h.words.other h.blk (by decide) (grown_set _ _ _ _)⟩
/-- The row without its last one. -/
theorem opens_pop {w : World} {base : Nat} {ao : Option Addr} {cap : Nat} {o : Opd} {r : List Opd} (h : w.ownsRow base TOp 3 (.slice ao (r.length + 1) cap) (r.length + 1) (opCells (o :: r).reverse)) : w.ownsRow base TOp 3 (.slice ao r.length cap) r.length (opCells r.reverse) := by
  refine ⟨by rw [opCells_len, List.length_reverse], ?_⟩
  rcases h.2 with ⟨_, hn⟩ | ⟨g, c, cur, e, hb, hg, hc, hm, hs, ht⟩
  · omega
  · cases e
    refine .inr ⟨g, cap, cur, rfl, hb, hg, by omega, hm, hs, ?_⟩
    rw [List.reverse_cons, opCells_snoc] at ht
    have h2 := congrArg (List.take (r.length * 3)) ht
    rw [List.take_take, Nat.min_eq_left (by omega), List.take_left' (by rw [opCells_len, List.length_reverse])] at h2
    exact h2
/-- The cells of the top. -/
theorem opens_top {w : World} {base : Nat} {ao : Option Addr} {cap n : Nat} {o : Opd} {r : List Opd} (h : w.ownsRow base TOp 3 (.slice ao n cap) n (opCells (o :: r).reverse)) (hn : n = r.length + 1) :
    ∃ g, ao = some ⟨g, 0, none⟩ ∧ w.cell? ⟨g, r.length * 3, none⟩ = some (.int .i64 ((o.node : Nat) : Int)) ∧ w.cell? ⟨g, r.length * 3 + 1, none⟩ = some (.string ⟨o.name.toArray⟩) ∧ w.cell? ⟨g, r.length * 3 + 2, none⟩ = some (.int .u8 ((o.kind : Nat) : Int)) := by
  subst hn
  have h' := h
  have hr : (o :: r).reverse[r.length]? = some o := by rw [List.reverse_cons]; simp
  rcases h'.2 with ⟨_, hn⟩ | ⟨g, c, cur, e, _⟩
  · omega
  · cases e
    refine ⟨g, rfl, ?_, ?_, ?_⟩
    · have := opCells_at hr (c := 0) (by decide)
      rw [World.ownsRow.cellAt h (r.length * 3) (by omega)]; exact this
    · have := opCells_at hr (c := 1) (by decide)
      rw [World.ownsRow.cellAt h (r.length * 3 + 1) (by omega)]; exact this
    · have := opCells_at hr (c := 2) (by decide)
      rw [World.ownsRow.cellAt h (r.length * 3 + 2) (by omega)]; exact this
/-- Blocks of other types than the builder's are as they were. -/
def Keeps (W W' : World) : Prop := ∀ (k : Nat) (cs : Array Value) (T : TypeId) (fr : Nat × Nat), W.heap[k]? = some (.cells cs T fr) → T ≠ TBd → T ≠ TOp → T ≠ TNd → T ≠ TIn → T ≠ TU8 → W'.heap[k]? = some (.cells cs T fr)
theorem Keeps.refl (W : World) : Keeps W W := fun _ _ _ _ h _ _ _ _ _ => h
theorem Keeps.trans {A B C : World} (h : Keeps A B) (k : Keeps B C) : Keeps A C := fun i cs T fr hi h1 h2 h3 h4 h5 => k i cs T fr (h i cs T fr hi h1 h2 h3 h4 h5) h1 h2 h3 h4 h5
theorem Keeps.below {A B : World} (h : Below A.heap.size A B) : Keeps A B := fun i cs T fr hi _ _ _ _ _ => by rw [h.block i (Array.getElem?_eq_some_iff.1 hi).1]; exact hi
theorem Keeps.grown {A B : World} {base size n : Nat} {e : TypeId} {v : Value} {xs : List Value} (h : A.ownsRow base e size v n xs) (he : e = TOp ∨ e = TNd ∨ e = TIn) (hg : A.grownBy B v.ownBlock) : Keeps A B := fun i cs T fr hi _ h2 h3 h4 _ => by
  rw [hg.block i (Array.getElem?_eq_some_iff.1 hi).1 (fun ee => own_ne h hi (by rcases he with rfl | rfl | rfl <;> assumption) ee.symm)]
  exact hi
theorem Keeps.set {A : World} {b i : Nat} {cs : Array Value} {T : TypeId} {fr : Nat × Nat} (hb : A.heap[b]? = some (.cells cs T fr)) (hT : T = TBd ∨ T = TNd) (v : Value) : Keeps A (A.setCell ⟨b, i, none⟩ v) := fun k cs' T' fr' hk h1 _ h3 _ _ => by
  rw [heap_setCell_other _ _ _ _ (by
    show k ≠ b
    intro e
    subst e
    rw [hb] at hk
    cases hk
    rcases hT with rfl | rfl
    · exact h1 rfl
    · exact h3 rfl)]
  exact hk
/-- All blocks but one are as they were. -/
def OffB (b : Nat) (W W' : World) : Prop := ∀ (k : Nat) (o : Obj), W.heap[k]? = some o → k ≠ b → W'.heap[k]? = some o
theorem OffB.refl (b : Nat) (W : World) : OffB b W W := fun _ _ h _ => h
theorem OffB.trans {b : Nat} {A B C : World} (h : OffB b A B) (k : OffB b B C) : OffB b A C := fun i o hi hne => k i o (h i o hi hne) hne
theorem OffB.below {b : Nat} {A B : World} (h : Below A.heap.size A B) : OffB b A B := fun i o hi _ => by rw [h.block i (Array.getElem?_eq_some_iff.1 hi).1]; exact hi
theorem OffB.set {b i : Nat} (W : World) (v : Value) : OffB b W (W.setCell ⟨b, i, none⟩ v) := fun k o hk hne => by rw [heap_setCell_other _ _ _ _ (by exact hne)]; exact hk
theorem OffB.keeps {b : Nat} {A B : World} {cs : Array Value} {fr : Nat × Nat} (h : OffB b A B) (hb : A.heap[b]? = some (.cells cs TBd fr)) : Keeps A B := fun k cs' T' fr' hk h1 _ _ _ _ => h k _ hk (by
  intro e
  subst e
  rw [hb] at hk
  cases hk
  exact h1 rfl)
end Go.Proofs.YtnfkndaggcklkaaGreatDoor

