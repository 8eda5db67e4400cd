/-
  The reader of package token: an attribute. Conditions: texts are no longer than 2^31 bytes.
-/
import Derived.Test.YtfjphhmbnhglcaaGreatDoorTAttr
import Derived.Laws.ResultCell
import Derived.Laws.Rows
namespace Go.TokenKit
open Go Go.Lib Go.CharrefKit
theorem quoted_size {q : UInt8} {l x r : Bytes} (h : quotedL q l = some (x, r)) : x.length ≤ l.length := by
  unfold quotedL at h
  split at h
  · simp only [Option.some.injEq, Prod.mk.injEq] at h
    rw [← h.1]
    have := before_len [q] l
    omega
  · cases h
theorem valueL_size {l x r : Bytes} (h : valueL l = some (x, r)) : x.length ≤ l.length := by
  cases l with
  | nil => cases h
  | cons b t =>
    rw [valueL] at h
    split at h
    · have := quoted_size h; simp only [List.length_cons]; omega
    · split at h
      · have := quoted_size h; simp only [List.length_cons]; omega
      · split at h
        · cases h
        · simp only [Option.some.injEq, Prod.mk.injEq] at h
          rw [← h.1]
          have := before_len plainStops (b :: t)
          omega
theorem attrL_bad {l n : Bytes} (hn : n = smallL (before nameStops l)) (h : n = [] ∨ wordL [45, 95] n = false) : attrL l = none := by
  unfold attrL
  simp only [← hn]
  rw [if_pos (by rcases h with h | h <;> simp [h])]
theorem attrL_bare {l n r : Bytes} (hn : n = smallL (before nameStops l)) (hr : r = skipL (behind nameStops l)) (h1 : n ≠ []) (h2 : wordL [45, 95] n = true) (h3 : hasPrefix r [61] = false) : attrL l = some ((n, []), r) := by
  unfold attrL
  simp only [← hn, ← hr]
  rw [if_neg (by simp [h1, h2])]
  cases r with
  | nil => rfl
  | cons b t =>
    rw [hasPrefix_one] at h3
    have : b ≠ 61 := by simpa using h3
    simp only [this, if_false]
theorem attrL_value {l n r : Bytes} (hn : n = smallL (before nameStops l)) (hr : r = skipL (behind nameStops l)) (h1 : n ≠ []) (h2 : wordL [45, 95] n = true) (h3 : hasPrefix r [61] = true) :
    attrL l = match valueL (skipL (trimPrefix r [61])) with
      | none => none
      | some (v, r'') => some ((n, decodeL true v), r'') := by
  unfold attrL
  simp only [← hn, ← hr]
  rw [if_neg (by simp [h1, h2])]
  rw [hasPrefix_one] at h3
  rw [trimPrefix_one]
  cases r with
  | nil => simp at h3
  | cons b t =>
    have : b = 61 := by simpa using h3
    subst this
    simp only [List.head?_cons, if_true, List.drop_succ_cons, List.drop_zero]
    rfl
/-- What the reader of an attribute tells, against the document's. -/
def ToldA (o : Option (At × Bytes)) (n v : ByteArray) (e : Int) (c : ByteArray) : Prop := match o with
  | none => e = 41
  | some ((x, y), r) => e = 0 ∧ n = ⟨x.toArray⟩ ∧ v = ⟨y.toArray⟩ ∧ c = ⟨r.toArray⟩
end Go.TokenKit
namespace Go.Proofs.YtfjphhmbnhglcaaGreatDoor
open Go.RowKit Go.RunKit Go.CharrefKit Go.Lib Go.TokenKit

abbrev TAt : TypeId := 35
theorem results_row_tmp {P : Program} {fn : Func} {p u : Tmp} {ty : TypeId} (h : fn.results = #[.cell p ty, .tmp u]) (tmps : Array Value) (w : World) (g : Nat) (t : TypeId) (cs : Array Value) (fr : Nat × Nat) (d : TypeDesc)
    (hp : tmps.getD p undef = .pointer (some ⟨g, 0, none⟩)) (hg : w.heap[g]? = some (.cells cs t fr))
    (hu : P.underlying ty = some d) (hd : (match d with | .struct _ | .array _ _ => true | _ => false) = true) (hi : (P.info? ty).map (·.size) = some cs.size) :
    (results fn tmps).run P w = .ok (.tuple #[.agg cs, tmps.getD u undef]) w := by
  rw [results_cell_tmp h, hp]
  simp [asAddr, run_loadVar_row w g t ty cs fr d hg hu hd hi, Result.andThen]

theorem size_le {x : ByteArray} {l : List UInt8} (h : bl x = l) {n : Nat} (hl : l.length ≤ n) : x.size ≤ n := by rw [← bl_length, h]; exact hl
theorem small_len (l : List UInt8) : (smallL l).length = l.length := by simp [smallL]
theorem trimPrefix_len (l p : List UInt8) : (trimPrefix l p).length ≤ l.length := by
  unfold trimPrefix; split <;> simp
theorem below_of_old {w W : World} {b : Nat} {c : ByteArray} {g : Nat} {o : Obj} (h : Moved w b c W) (hg : w.heap[g]? = some o) (hne : g ≠ b) : W.heap[g]? = some o := by
  rw [h.grown.block g (Array.getElem?_eq_some_iff.1 hg).1 (by simpa using hne)]; exact hg

theorem toldV_size {l : List UInt8} {v c : ByteArray} {ok : Bool} (h : ToldV (valueL l) v ok c) (hok : ok = true) : v.size ≤ l.length := by
  cases hv : valueL l with
  | none => rw [hv] at h; exact absurd (hok.symm.trans h) (by decide)
  | some x =>
    obtain ⟨x, r⟩ := x
    rw [hv] at h
    have hx : x.length ≤ l.length := valueL_size hv
    rw [h.2.1, ← bl_length, bl_of]; exact hx
theorem Moved.newset {w W : World} {b g i : Nat} {c : ByteArray} {v : Value} (h : Moved w b c W) (hg : w.heap.size ≤ g) (hne : g ≠ b) : Moved w b c (W.setCell ⟨g, i, none⟩ v) :=
  ⟨⟨h.grown.os, h.grown.tape, h.grown.output, by simpa [World.setCell] using h.grown.size, fun k hk hn => (heap_setCell_other W ⟨g, i, none⟩ k v (by show k ≠ g; omega)).trans (h.grown.block k hk hn)⟩,
    (heap_setCell_other W ⟨g, i, none⟩ b v (by show b ≠ g; omega)).trans h.rest⟩
theorem set2 {W : World} {g : Nat} {a c x y : Value} {T : TypeId} (h : W.heap[g]? = some (.cells #[a, c] T (0, 0))) :
    ((W.setCell ⟨g, 0, none⟩ x).setCell ⟨g, 1, none⟩ y).heap[g]? = some (.cells #[x, y] T (0, 0)) := by
  have := heap_setCell_same _ g 1 _ _ y (heap_setCell_same W g 0 _ _ x h)
  simpa using this
theorem dec_room {v c4 cur : ByteArray} {ok : Bool} (h : ok = true → v.size ≤ (bl c4).length) (hk : (!ok) = false) (h4 : c4.size ≤ cur.size) (hs : cur.size ≤ 4294967280) : v.size ≤ 1099511627776 := by
  have := h (by simpa using hk)
  rw [bl_length] at this
  omega
theorem local2 {W : World} {g : Nat} {a c : Value} {T : TypeId} (h : W.heap[g]? = some (.cells #[a, c] T (0, 0))) :
    W.cell? ⟨g, 0, none⟩ = some a ∧ W.cell? ⟨g, 1, none⟩ = some c ∧ W.frozen? ⟨g, 0, none⟩ = false ∧ W.frozen? ⟨g, 1, none⟩ = false :=
  ⟨by simp [World.cell?, h], by simp [World.cell?, h], frozen_of_row W g 0 _ _ h, frozen_of_row W g 1 _ _ h⟩
set_option maxRecDepth 100000 in
set_option maxHeartbeats 2000000 in
theorem attribute_any (b : Nat) (cur : ByteArray) (hsz : cur.size ≤ 4294967280) (w : World) (h : RB w b cur) (hm : Maxed w b) :
    Calls Tryz.prog 138 #[.pointer (some ⟨b, 0, none⟩)] w fun e w' => ∃ n v er c, e = .returned (.tuple #[.agg #[.string n, .string v], .int .i64 er]) ∧ Moved w b c w' ∧ ToldA (attrL (bl cur)) n v er c := by
  have hbl := bl_length cur
  have hlt := h.lt
  obtain ⟨nm0, hnm0, e0⟩ : ∃ x : ByteArray, x = ⟨(before nameStops (bl cur)).toArray⟩ ∧ bl x = before nameStops (bl cur) := ⟨_, rfl, bl_of _⟩
  obtain ⟨c1, hc1, f1⟩ : ∃ x : ByteArray, x = ⟨(behind nameStops (bl cur)).toArray⟩ ∧ bl x = behind nameStops (bl cur) := ⟨_, rfl, bl_of _⟩
  obtain ⟨nm, hnm, e1⟩ : ∃ x : ByteArray, x = ⟨(smallL (bl nm0)).toArray⟩ ∧ bl x = smallL (bl nm0) := ⟨_, rfl, bl_of _⟩
  obtain ⟨c2, hc2, f2⟩ : ∃ x : ByteArray, x = ⟨(skipL (bl c1)).toArray⟩ ∧ bl x = skipL (bl c1) := ⟨_, rfl, bl_of _⟩
  obtain ⟨c3, hc3, f3⟩ : ∃ x : ByteArray, x = ⟨(Lib.trimPrefix (bl c2) [61]).toArray⟩ ∧ bl x = Lib.trimPrefix (bl c2) [61] := ⟨_, rfl, bl_of _⟩
  obtain ⟨c4, hc4, f4⟩ : ∃ x : ByteArray, x = ⟨(skipL (bl c3)).toArray⟩ ∧ bl x = skipL (bl c3) := ⟨_, rfl, bl_of _⟩
  have l0 := before_len nameStops (bl cur)
  have l2 := skip_len (bl c1)
  rw [← f2] at l2
  have l3 := trimPrefix_len (bl c2) [61]
  rw [← f3] at l3
  have l4 := skip_len (bl c3)
  rw [← f4] at l4
  rw [← f1] at l0
  have sn0 : nm0.size ≤ cur.size := by rw [← bl_length, e0]; omega
  have sn : nm.size ≤ cur.size := by rw [← bl_length, e1, small_len, bl_length]; exact sn0
  have s4 : c4.size ≤ cur.size := by rw [← bl_length]; omega
  have HU : Hid (∀ w, RB w b cur → _) := Lib.hid fun w h => takeUpTo_any b cur ⟨#[9, 10, 12, 32, 61, 47, 62]⟩ (by decide) (by decide) (ascii_of_all (by decide)) hsz w h
  rw [show bl (⟨#[9, 10, 12, 32, 61, 47, 62]⟩ : ByteArray) = nameStops from rfl, ← hnm0, ← hc1] at HU
  have HS := Lib.hid fun w => small_any nm0 (by omega) w
  rw [← hnm] at HS
  obtain ⟨z, HZ⟩ : ∃ z, Hid (wordL [45, 95] (bl nm) = z) := ⟨_, Lib.hid rfl⟩
  have HW := Lib.hid fun w => isWord_any nm ⟨#[45, 95]⟩ (by omega) w
  rw [show wordL (bl (⟨#[45, 95]⟩ : ByteArray)) (bl nm) = z from HZ.out] at HW
  have HL1 := Lib.hid fun w h => leave_any b c1 w h
  rw [← hc2] at HL1
  obtain ⟨p, HP⟩ : ∃ p, Hid (Lib.hasPrefix (bl c2) [61] = p) := ⟨_, Lib.hid rfl⟩
  have HT := Lib.hid fun w h => took_any b c2 ⟨#[61]⟩ w h
  rw [show bl (⟨#[61]⟩ : ByteArray) = [61] from rfl, HP.out, ← hc3] at HT
  have HL2 := Lib.hid fun w h => leave_any b c3 w h
  rw [← hc4] at HL2
  have HV := Lib.hid fun w h hm => value_any b c4 (by omega) w h hm
  have HE := Lib.hid (And.intro e0 (And.intro e1 (And.intro f1 (And.intro f2 (And.intro f3 (And.intro f4 (And.intro hc2 hc3)))))))
  have hne : w.heap.size ≠ b := by omega
  have H0 : Hid (Moved w b cur (w.alloc (.cells #[.string ⟨#[]⟩, .string ⟨#[]⟩] TAt))) := Lib.hid ((Moved.refl h).on ((Below.refl _ _).alloc (Nat.le_refl _) _))
  have G0 : Hid ((w.alloc (.cells #[.string ⟨#[]⟩, .string ⟨#[]⟩] TAt)).heap[w.heap.size]? = some (.cells #[.string ⟨#[]⟩, .string ⟨#[]⟩] TAt (0, 0))) := Lib.hid (heap_alloc_new w _)
  have hcell := H0.out.rest.cell
  have HM0 := Lib.hid (hm.below ((Below.refl w.heap.size w).alloc (Nat.le_refl _) (.cells #[.string ⟨#[]⟩, .string ⟨#[]⟩] TAt)))
  clear hnm0 e0 hc1 f1 hnm e1 hc2 f2 hc3 f3 hc4 f4 l0 l2 l3 l4 hbl h hm
  go_enter Tryz.func138, Tryz.ntmps138
  go_big_wp2_with (first
    | (go_at_call 134; refine (HU.out _ H0.out.rest).mono ?_; rintro e w1 ⟨rfl, hm1⟩)
    | (go_at_call 66; refine (HS.out _).mono ?_; rintro e w2 ⟨rfl, hb2⟩; have hg2 := (hm1.on hb2); obtain ⟨hx0, hx1, hz0, hz1⟩ := local2 (below_of_old hg2 G0.out hne))
    | (go_at_call 135; refine (HW.out _).mono ?_; rintro e w3 ⟨rfl, rfl⟩)
    | (go_at_call 136; refine (HL1.out _ hg2.rest).mono ?_; rintro e w4 ⟨rfl, hm4⟩; have hg4 := hg2.trans hm4; clear HL1)
    | (go_at_call 137; refine (HT.out _ hg4.rest).mono ?_; rintro e w5 ⟨rfl, hm5⟩; have hg5 := hg4.trans hm5; clear hx0 hx1 hz0 hz1; obtain ⟨hx0, hx1, hz0, hz1⟩ := local2 (below_of_old hg5 G0.out hne))
    | (go_at_call 136; refine (HL2.out _ hg5.rest).mono ?_; rintro e w6 ⟨rfl, hm6⟩; have hg6 := hg5.trans hm6)
    | (go_at_call 170; refine (HV.out _ hg6.rest (HM0.out.grown hg6.grown)).mono ?_; rintro e w7 ⟨v, ok, c, rfl, hm7, hv⟩; have hvs := toldV_size hv; have hg7 := hg6.trans hm7; clear hx0 hx1 hz0 hz1; obtain ⟨hx0, hx1, hz0, hz1⟩ := local2 (below_of_old hg7 G0.out hne))
    | (go_at_call 100; refine (decode_any true v (dec_room hvs (by assumption) s4 hsz) _).mono ?_; rintro e w8 ⟨rfl, hb8⟩; have hg8 := hg7.on hb8; clear hx0 hx1 hz0 hz1; obtain ⟨hx0, hx1, hz0, hz1⟩ := local2 (below_of_old hg8 G0.out hne)))
  all_goals
    obtain ⟨e0, e1, f1, f2, f3, f4, hc2, hc3⟩ := HE.out
    have hn : bl nm = smallL (before nameStops (bl cur)) := by rw [e1, e0]
    have hr : bl c2 = skipL (behind nameStops (bl cur)) := by rw [f2, f1]
    have hW0 : Below w.heap.size w (w.alloc (.cells #[.string ⟨#[]⟩, .string ⟨#[]⟩] TAt)) := (Below.refl _ _).alloc (Nat.le_refl _) _
  · rename_i hE
    rw [Lib.toList_data] at hE
    refine bodyPost_ret (results_row_tmp rfl _ _ w.heap.size TAt _ _ _ rfl (set2 (below_of_old hg2 G0.out hne)) Tryz.underlying35 rfl (by kernel_rfl)) rfl ?_
    refine ⟨_, _, _, c1, rfl, ((hg2.from_ hW0).newset (Nat.le_refl _) hne).newset (Nat.le_refl _) hne, ?_⟩
    rw [attrL_bad hn (.inl hE)]; rfl
  · rename_i hE hO
    rw [Lib.toList_data] at hE
    refine bodyPost_ret (results_row_tmp rfl _ _ w.heap.size TAt _ _ _ rfl (set2 (below_of_old hg2 G0.out hne)) Tryz.underlying35 rfl (by kernel_rfl)) rfl ?_
    refine ⟨_, _, _, c1, rfl, ((hg2.from_ hW0).newset (Nat.le_refl _) hne).newset (Nat.le_refl _) hne, ?_⟩
    have hz : z = false := by
      rcases hO with hO | hO
      · rw [Lib.toList_data] at hO; exact absurd (by simpa using hO) hE
      · simpa using hO
    rw [attrL_bad hn (.inr (HZ.out.trans hz))]; rfl
  · have hE : ¬ nm.toList = [] := by assumption
    have hO : nm.toList.isEmpty = false ∧ (!z) = false := by assumption
    have hp : (!p) = true := by assumption
    rw [Lib.toList_data] at hE
    have hz : z = true := by simpa using hO.2
    have hp : p = false := by simpa using hp
    refine bodyPost_ret (results_row_tmp rfl _ _ w.heap.size TAt _ _ _ rfl (set2 (below_of_old hg5 G0.out hne)) Tryz.underlying35 rfl (by kernel_rfl)) rfl ?_
    refine ⟨_, _, _, c3, rfl, ((hg5.from_ hW0).newset (Nat.le_refl _) hne).newset (Nat.le_refl _) hne, ?_⟩
    rw [attrL_bare hn hr hE (HZ.out.trans hz) (HP.out.trans hp)]
    refine ⟨rfl, rfl, rfl, ?_⟩
    rw [hc3]
    unfold Lib.trimPrefix
    rw [HP.out, hp]; rfl
  · have hE : ¬ nm.toList = [] := by assumption
    have hO : nm.toList.isEmpty = false ∧ (!z) = false := by assumption
    have hp : (!p) = false := by assumption
    have hok : (!ok) = true := by assumption
    rw [Lib.toList_data] at hE
    have hz : z = true := by simpa using hO.2
    have hp : p = true := by simpa using hp
    have hok : ok = false := by simpa using hok
    refine bodyPost_ret (results_row_tmp rfl _ _ w.heap.size TAt _ _ _ rfl (set2 (below_of_old hg7 G0.out hne)) Tryz.underlying35 rfl (by kernel_rfl)) rfl ?_
    refine ⟨_, _, _, c, rfl, ((hg7.from_ hW0).newset (Nat.le_refl _) hne).newset (Nat.le_refl _) hne, ?_⟩
    rw [attrL_value hn hr hE (HZ.out.trans hz) (HP.out.trans hp), ← f3, ← f4]
    cases hvl : valueL (bl c4) with
    | none => rfl
    | some x =>
      rw [hvl] at hv
      exact absurd (hok.symm.trans hv.1) (by decide)
  · have hE : ¬ nm.toList = [] := by assumption
    have hO : nm.toList.isEmpty = false ∧ (!z) = false := by assumption
    have hp : (!p) = false := by assumption
    have hok : (!ok) = false := by assumption
    rw [Lib.toList_data] at hE
    have hz : z = true := by simpa using hO.2
    have hp : p = true := by simpa using hp
    have hok : ok = true := by simpa using hok
    refine bodyPost_ret (results_row_tmp rfl _ _ w.heap.size TAt _ _ _ rfl (set2 (below_of_old hg8 G0.out hne)) Tryz.underlying35 rfl (by kernel_rfl)) rfl ?_
    refine ⟨_, _, _, c, rfl, ((hg8.from_ hW0).newset (Nat.le_refl _) hne).newset (Nat.le_refl _) hne, ?_⟩
    rw [attrL_value hn hr hE (HZ.out.trans hz) (HP.out.trans hp), ← f3, ← f4]
    cases hvl : valueL (bl c4) with
    | none =>
      rw [hvl] at hv
      exact absurd (hok.symm.trans hv) (by decide)
    | some x =>
      obtain ⟨x, r⟩ := x
      rw [hvl] at hv
      obtain ⟨_, hv2, hv3⟩ := hv
      exact ⟨rfl, rfl, by rw [hv2, bl_of], hv3⟩
end Go.Proofs.YtfjphhmbnhglcaaGreatDoor
