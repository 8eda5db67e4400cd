/-
  SerialSafe: what is escaped has no sign that would end it. Conditions: the library's two tables hold what its text lays.
-/
import Derived.Test.YtkfmfldkllkcbabDoorSWorks
import Derived.Test.YtkfmfldkllkcbabDoorSLaw2
namespace Go.SerialKit
open Go Go.Lib Go.UtfKit Go.CharrefKit Go.TokenKit Go.TreeKit
def beg6 : List ByteArray := [⟨#[38, 97, 109, 112, 59]⟩, ⟨#[38, 108, 116, 59]⟩, ⟨#[38, 103, 116, 59]⟩, ⟨#[38, 110, 98, 115, 112, 59]⟩, ⟨#[38, 35, 49, 51, 59]⟩, ⟨#[38, 113, 117, 111, 116, 59]⟩]
def hitB (s x : ByteArray) : Bool := decide (bl x = (bl s).take x.size)
def begB (s : ByteArray) : Bool := beg6.any (hitB s)
def goodB (attr : Bool) (b : UInt8) : Bool := b != 13 && (if attr = true then b != 34 else b != 60 && b != 62)
def begL (l : Bytes) : Bool := beg6.any fun x => (bl x).isPrefixOf l
def safeL (attr : Bool) : Bytes → Bool
  | [] => true
  | b :: r => goodB attr b && (b != 38 || begL (b :: r)) && safeL attr r
theorem bl_cut (s : ByteArray) (i k : Nat) : bl (s.extract i k) = ((bl s).drop i).take (k - i) := by
  simp [bl, List.extract]
theorem safe_ref {attr : Bool} {c : UInt8} {cs t : Bytes} (h1 : begL (c :: cs ++ t) = true) (h2 : goodB attr c = true) (h3 : (cs.all fun b => goodB attr b && b != 38) = true) (ht : safeL attr t = true) : safeL attr (c :: cs ++ t) = true := by
  have hrest : ∀ cs : Bytes, (cs.all fun b => goodB attr b && b != 38) = true → safeL attr (cs ++ t) = true := by
    intro cs
    induction cs with
    | nil => intro _; exact ht
    | cons b r ih =>
      intro h
      simp only [List.all_cons, Bool.and_eq_true] at h
      rw [List.cons_append, safeL, h.1.1, h.1.2, ih (by simpa using h.2)]
      rfl
  rw [List.cons_append] at h1 ⊢
  rw [safeL, h1, h2, hrest cs h3]
  simp
theorem safe_one {attr : Bool} {x : UInt8} {t : Bytes} (ht : safeL attr t = true) : safeL attr (oneE attr x ++ t) = true := by
  unfold oneE
  by_cases h1 : x = 38
  · rw [if_pos h1]; cases attr <;> exact safe_ref rfl (by decide) (by decide) ht
  rw [if_neg h1]
  by_cases h2 : x = 13
  · rw [if_pos h2]; cases attr <;> exact safe_ref rfl (by decide) (by decide) ht
  rw [if_neg h2]
  by_cases h3 : x = 60 ∧ attr = false
  · rw [if_pos h3, h3.2]; rw [h3.2] at ht; exact safe_ref rfl (by decide) (by decide) ht
  rw [if_neg h3]
  by_cases h4 : x = 62 ∧ attr = false
  · rw [if_pos h4, h4.2]; rw [h4.2] at ht; exact safe_ref rfl (by decide) (by decide) ht
  rw [if_neg h4]
  by_cases h5 : x = 34 ∧ attr = true
  · rw [if_pos h5, h5.2]; rw [h5.2] at ht; exact safe_ref rfl (by decide) (by decide) ht
  rw [if_neg h5]
  have hg : goodB attr x = true := by
    unfold goodB
    cases attr
    · simp at h3 h4; simp [h2, h3, h4]
    · simp at h5; simp [h2, h5]
  rw [List.singleton_append, safeL, hg, ht, show (x != 38) = true by simpa using h1]
  rfl
theorem safe_all {attr : Bool} : ∀ l : Bytes, safeL attr (escR attr l) = true
  | [] => rfl
  | [x] => by
    have := safe_one (attr := attr) (x := x) (t := []) rfl
    rw [List.append_nil] at this
    exact this
  | x :: y :: r => by
    rw [escR]
    split
    · have := safe_all (attr := attr) r
      cases attr <;> exact safe_ref rfl (by decide) (by decide) this
    · exact safe_one (safe_all (attr := attr) (y :: r))
theorem safe_at {attr : Bool} : ∀ {l : Bytes}, safeL attr l = true → ∀ (i : Nat) (b : UInt8), l[i]? = some b → goodB attr b = true ∧ (b = 38 → begL (l.drop i) = true)
  | [], _, i, b, h => by simp at h
  | c :: r, hs, i, b, h => by
    rw [safeL] at hs
    simp only [Bool.and_eq_true, Bool.or_eq_true] at hs
    cases i with
    | zero =>
      simp only [List.getElem?_cons_zero, Option.some.injEq] at h
      subst h
      refine ⟨hs.1.1, fun e => ?_⟩
      rcases hs.1.2 with h | h
      · rw [e] at h; cases h
      · exact h
    | succ i => exact safe_at hs.2 i b (by simpa using h)
theorem hit_prefix {s x : ByteArray} (h : (bl x).isPrefixOf (bl s) = true) : hitB s x = true := by
  have := List.prefix_iff_eq_take.1 (List.isPrefixOf_iff_prefix.1 h)
  rw [bl_length] at this
  exact decide_eq_true this
theorem begB_of {s : ByteArray} (h : begL (bl s) = true) : begB s = true := by
  obtain ⟨x, hx, hp⟩ := List.any_eq_true.1 h
  exact List.any_eq_true.2 ⟨x, hx, hit_prefix hp⟩
theorem beg_step {s x : ByteArray} {k : Nat} (hk : beg6[k]? = some x) : (beg6.drop k).any (hitB s) = (hitB s x || (beg6.drop (k + 1)).any (hitB s)) := by
  obtain ⟨h1, h2⟩ := List.getElem?_eq_some_iff.1 hk
  rw [List.drop_eq_getElem_cons h1, List.any_cons, h2]
end Go.SerialKit
namespace Go.Proofs.YtkfmfldkllkcbabDoor
open Go.RowKit Go.RunKit Go.UtfKit Go.CharrefKit Go.Lib Go.TokenKit Go.TreeKit Go.SerialKit

theorem beg_cells (w : World) (T : TypeId) : ∀ k x, beg6[k]? = some x → (w.alloc (.cells #[.string ⟨#[38, 97, 109, 112, 59]⟩, .string ⟨#[38, 108, 116, 59]⟩, .string ⟨#[38, 103, 116, 59]⟩, .string ⟨#[38, 110, 98, 115, 112, 59]⟩, .string ⟨#[38, 35, 49, 51, 59]⟩, .string ⟨#[38, 113, 117, 111, 116, 59]⟩] T)).cell? ⟨w.heap.size, k, none⟩ = some (.string x) := by
  intro k x h
  rw [cell_of_row _ w.heap.size k _ _ _ (heap_alloc_new w _)]
  match k, h with
  | 0, h => cases h; rfl
  | 1, h => cases h; rfl
  | 2, h => cases h; rfl
  | 3, h => cases h; rfl
  | 4, h => cases h; rfl
  | 5, h => cases h; rfl

set_option maxRecDepth 100000 in
set_option maxHeartbeats 2000000 in
theorem begins_any (s : ByteArray) (w : World) : Calls Tryd.prog 13 #[.string s] w fun e w' => e = .returned (.bool (begB s)) ∧ Below w.heap.size w w' := by
  have HC := Lib.hid (beg_cells w 9)
  have HB := Lib.hid ((Below.refl w.heap.size w).alloc (Nat.le_refl _) (.cells #[.string ⟨#[38, 97, 109, 112, 59]⟩, .string ⟨#[38, 108, 116, 59]⟩, .string ⟨#[38, 103, 116, 59]⟩, .string ⟨#[38, 110, 98, 115, 112, 59]⟩, .string ⟨#[38, 35, 49, 51, 59]⟩, .string ⟨#[38, 113, 117, 111, 116, 59]⟩] 9))
  obtain ⟨W, hW⟩ : ∃ W, w.alloc (.cells #[.string ⟨#[38, 97, 109, 112, 59]⟩, .string ⟨#[38, 108, 116, 59]⟩, .string ⟨#[38, 103, 116, 59]⟩, .string ⟨#[38, 110, 98, 115, 112, 59]⟩, .string ⟨#[38, 35, 49, 51, 59]⟩, .string ⟨#[38, 113, 117, 111, 116, 59]⟩] 9) = W := ⟨_, rfl⟩
  rw [hW] at HC HB
  obtain ⟨g, hg⟩ : ∃ g, w.heap.size = g := ⟨_, rfl⟩
  rw [hg] at HC
  have HWW := Lib.hid hW
  have HGG := Lib.hid hg
  clear hW hg
  go_enter Tryd.func13, Tryd.ntmps13
  go_big_wp2
  rw [HWW.out, HGG.out]
  clear HWW HGG
  go_loopw [4] (fun v wr => ∃ k : Nat, v = .int .i64 (k : Nat) ∧ k ≤ 6 ∧ Hid (begB s = (beg6.drop k).any (hitB s)) ∧ Below W.heap.size W wr) (fun v _ => 6 - (RowKit.intOf v).toNat)
  case atStart => exact ⟨0, rfl, by omega, Lib.hid rfl, Below.refl _ _⟩
  case round =>
    obtain ⟨k, rfl, hk, HI, hbw⟩ := hrel
    have HBW := Lib.hid hbw
    have HB2 := Lib.hid (HB.out.trans (hbw.mono HB.out.size))
    clear hbw
    by_cases hlt : k < 6
    · have hltI : (k : Int) < 6 := by omega
      obtain ⟨x, hx⟩ : ∃ x, beg6[k]? = some x := ⟨_, List.getElem?_eq_getElem (show k < beg6.length from hlt)⟩
      have hcx : wr.cell? ⟨g, k, none⟩ = some (.string x) := by rw [HBW.out.cell (World.block_lt_of_cell? _ _ (HC.out k x hx))]; exact HC.out k x hx
      have hstep := beg_step (s := s) hx
      rw [← HI.out] at hstep
      have hxs : x.size ≤ 6 := by
        have hall : (beg6.all fun x => decide (x.size ≤ 6)) = true := by decide
        simpa using List.all_eq_true.1 hall x (List.mem_of_getElem? hx)
      clear hx
      by_cases hsz : x.size ≤ s.size
      · have hszI : (x.size : Int) ≤ s.size := by omega
        obtain ⟨y, hy⟩ : ∃ y, s.extract 0 x.size = y := ⟨_, rfl⟩
        have hyl : bl y = (bl s).take x.size := by rw [← hy, bl_cut]; simp
        by_cases he : y = x
        · subst he
          have hh : hitB s y = true := decide_eq_true hyl
          rw [hh, Bool.true_or] at hstep
          have HF := Lib.hid hstep
          clear hstep hh hyl HI hk
          go_wp2
          all_goals (try go_quiet (fail))
          go_wp2
          go_ret
          exact ⟨ret1_eq (congrArg Value.bool HF.out.symm), below_drewN HB2.out _⟩
        · have hn : ¬ bl y = bl x := fun e => he (bl_eq e)
          have hn2 : ¬ y.toList = x.toList := by rw [Lib.toList_data, Lib.toList_data]; exact hn
          have hn4 : (y.toList == x.toList) = false := beq_eq_false_iff_ne.2 hn2
          have hh : hitB s x = false := decide_eq_false (fun e => hn (by rw [hyl]; exact e.symm))
          rw [hh, Bool.false_or] at hstep
          have HF := Lib.hid hstep
          clear hstep hh hyl HI hk hn
          go_wp2
          all_goals (try go_quiet (fail))
          go_wp2
          exact ⟨⟨k + 1, by go_num, by omega, HF, below_drewN HBW.out _⟩, by simp [RowKit.intOf]; omega⟩
      · have hszI : ((x.size : Int) ≤ s.size) = False := eq_false (by omega)
        have hh : hitB s x = false := decide_eq_false (fun e => by
          have := congrArg List.length e
          rw [List.length_take, bl_length, bl_length] at this
          omega)
        rw [hh, Bool.false_or] at hstep
        have HF := Lib.hid hstep
        clear hstep hh HI hk
        go_wp2
        all_goals (try go_quiet (fail))
        go_wp2
        exact ⟨⟨k + 1, by go_num, by omega, HF, below_drewN HBW.out _⟩, by simp [RowKit.intOf]; omega⟩
    · have hltI : ((k : Int) < 6) = False := eq_false (by omega)
      have hF : begB s = false := by rw [HI.out, show k = 6 by omega]; rfl
      have HF := Lib.hid hF
      clear hF
      go_wp2
      go_ret
      exact ⟨ret1_eq (congrArg Value.bool HF.out.symm), HB2.out⟩
/-- What is told of a byte of an escaped text. -/
structure SafeAt (attr : Bool) (t : ByteArray) (W : World) (i : Nat) (b : UInt8) : Prop where
  good : goodB attr b = true
  call : b = 38 → Calls Tryd.prog 13 #[.string (t.extract i t.size)] W fun e w' => e = .returned (.bool true) ∧ Below W.heap.size W w'
theorem safe_here {attr : Bool} {t : ByteArray} (hs : safeL attr (bl t) = true) (W : World) {i : Nat} {b : UInt8} (h : (bl t)[i]? = some b) : SafeAt attr t W i b := by
  obtain ⟨h1, h2⟩ := safe_at hs i b h
  refine ⟨h1, fun e => ?_⟩
  have hl : bl (t.extract i t.size) = (bl t).drop i := by
    rw [bl_cut, List.take_of_length_le (by rw [List.length_drop, bl_length]; omega)]
  have hb : begB (t.extract i t.size) = true := begB_of (by rw [hl]; exact h2 e)
  have := begins_any (t.extract i t.size) W
  rw [hb] at this
  exact this

set_option maxRecDepth 100000 in
set_option maxHeartbeats 4000000 in
theorem lawSafe (s : ByteArray) (w : World) (hv : VTabs w) : Calls Tryd.prog 5 #[.string s] w fun e w' => e = .returned (.bool true) ∧ Below w.heap.size w w' := by
  have HW := Lib.hid fun (W : World) (hb : Below w.heap.size w W) => works06_any W (hv.on hb)
  clear hv
  by_cases hbig : 3000 < s.size
  · have hI : (3000 : Int) < s.size := by omega
    go_enter Tryd.func5, Tryd.ntmps5
    go_big_wp2_with (go_at_call 10; refine (HW.out _ (Below.refl _ _)).mono ?_; rintro e w1 ⟨rfl, hb1⟩)
    go_ret
    exact ⟨rfl, hb1⟩
  have hI : ((3000 : Int) < s.size) = False := eq_false (by omega)
  have hT := fun W => escText_any s (by omega) W
  have hA := fun W => escAttr_any s (by omega) W
  have s1 := esc_size (attr := false) (a := s)
  have s2 := esc_size (attr := true) (a := s)
  have f1 : safeL false (bl (⟨(escR false (bl s)).toArray⟩ : ByteArray)) = true := by
    rw [show bl (⟨(escR false (bl s)).toArray⟩ : ByteArray) = escR false (bl s) by simp [bl]]
    exact safe_all _
  have f2 : safeL true (bl (⟨(escR true (bl s)).toArray⟩ : ByteArray)) = true := by
    rw [show bl (⟨(escR true (bl s)).toArray⟩ : ByteArray) = escR true (bl s) by simp [bl]]
    exact safe_all _
  generalize (⟨(escR false (bl s)).toArray⟩ : ByteArray) = t at *
  generalize (⟨(escR true (bl s)).toArray⟩ : ByteArray) = v at *
  have HT := Lib.hid hT
  have HA := Lib.hid hA
  have SA := Lib.hid fun (W : World) (i : Nat) (b : UInt8) => safe_here (attr := false) (t := t) f1 W (i := i) (b := b)
  have SB := Lib.hid fun (W : World) (i : Nat) (b : UInt8) => safe_here (attr := true) (t := v) f2 W (i := i) (b := b)
  have ht18 : t.size ≤ 18000 := by omega
  have hv18 : v.size ≤ 18000 := by omega
  clear hT hA s1 s2 f1 f2 hbig
  go_enter Tryd.func5, Tryd.ntmps5
  go_big_wp2_with (first
    | (go_at_call 7; refine (HT.out _).mono ?_; clear HT; rintro e w2 ⟨rfl, hb2⟩; have HB2 := Lib.hid hb2; clear hb2)
    | (go_at_call 9; refine (HA.out _).mono ?_; clear HA; rintro e w4 ⟨rfl, hb4⟩; have HB4 := Lib.hid (HB2.out.trans (hb4.mono HB2.out.size)); clear hb4 HB2))
  go_loopw [5] (fun i wr => ∃ k : Nat, i = .int .i64 (k : Nat) ∧ k ≤ t.size ∧ Below w.heap.size w wr) (fun i _ => t.size - (RowKit.intOf i).toNat)
  case atStart => exact ⟨0, rfl, by omega, HB4.out⟩
  case round =>
    clear HB4
    obtain ⟨k, rfl, hk, hb⟩ := hrel
    have HBk := Lib.hid hb
    clear hb
    by_cases hlt : k < t.size
    · have hltI : (k : Int) < t.size := by omega
      have hkI : (k : Int) ≤ t.size := by omega
      obtain ⟨x, hx⟩ : ∃ x : UInt8, t[k]'hlt = x := ⟨_, rfl⟩
      have hxl : (bl t)[k]? = some x := by rw [← hx]; exact Lib.data_getElem? t k hlt
      have hsafe := SA.out wr k x hxl
      have hg := hsafe.good
      have HCall := Lib.hid hsafe.call
      have hx256 := x.toNat_lt
      have nat : ∀ {k : Nat}, k < 256 → x ≠ UInt8.ofNat k → ¬ x.toNat = k := fun hk h e => h (UInt8.toNat_inj.1 (by rw [e]; simp; omega))
      unfold goodB at hg
      simp only [Bool.false_eq_true, if_false, Bool.and_eq_true, bne_iff_ne] at hg
      have n13 := nat (k := 13) (by omega) hg.1
      have n60 := nat (k := 60) (by omega) hg.2.1
      have n62 := nat (k := 62) (by omega) hg.2.2
      have i13 : ((x.toNat : Int) == 13) = false := by rw [beq_eq_false_iff_ne]; omega
      have i60 : ((x.toNat : Int) == 60) = false := by rw [beq_eq_false_iff_ne]; omega
      have i62 : ((x.toNat : Int) == 62) = false := by rw [beq_eq_false_iff_ne]; omega
      have j13 : ((x.toNat : Int) = 13) = False := eq_false (by omega)
      have j60 : ((x.toNat : Int) = 60) = False := eq_false (by omega)
      have j62 : ((x.toNat : Int) = 62) = False := eq_false (by omega)
      by_cases h38 : x = 38
      · subst h38
        have HC := Lib.hid (HCall.out rfl)
        clear hxl hsafe hg HCall nat n13 n60 n62 i13 i60 i62 j13 j60 j62
        go_big_wp2_with (go_at_call 13; refine HC.out.mono ?_; rintro e w5 ⟨rfl, hb5⟩)
        exact ⟨⟨k + 1, by go_num, by omega, HBk.out.trans (hb5.mono HBk.out.size)⟩, by simp [RowKit.intOf]; omega⟩
      · have n38 := nat (k := 38) (by omega) h38
        have i38 : ((x.toNat : Int) == 38) = false := by rw [beq_eq_false_iff_ne]; omega
        have j38 : ((x.toNat : Int) = 38) = False := eq_false (by omega)
        clear hxl hsafe hg HCall nat n13 n60 n62 n38 h38
        go_big_wp2
        exact ⟨⟨k + 1, by go_num, by omega, HBk.out⟩, by simp [RowKit.intOf]; omega⟩
    · have hltI : ((k : Int) < t.size) = False := eq_false (by omega)
      go_big_wp2
      clear hltI hlt hk SA
      go_loopw [6] (fun i wr => ∃ k : Nat, i = .int .i64 (k : Nat) ∧ k ≤ v.size ∧ Below w.heap.size w wr) (fun i _ => v.size - (RowKit.intOf i).toNat)
      case atStart => exact ⟨0, rfl, by omega, HBk.out⟩
      case round =>
        clear HBk
        obtain ⟨k2, rfl, hk, hb⟩ := hrel
        have HBk := Lib.hid hb
        clear hb
        by_cases hlt : k2 < v.size
        · have hltI : (k2 : Int) < v.size := by omega
          have hkI : (k2 : Int) ≤ v.size := by omega
          obtain ⟨x, hx⟩ : ∃ x : UInt8, v[k2]'hlt = x := ⟨_, rfl⟩
          have hxl : (bl v)[k2]? = some x := by rw [← hx]; exact Lib.data_getElem? v k2 hlt
          have hsafe := SB.out wr k2 x hxl
          have hg := hsafe.good
          have HCall := Lib.hid hsafe.call
          have hx256 := x.toNat_lt
          have nat : ∀ {k : Nat}, k < 256 → x ≠ UInt8.ofNat k → ¬ x.toNat = k := fun hk h e => h (UInt8.toNat_inj.1 (by rw [e]; simp; omega))
          unfold goodB at hg
          simp only [if_true, Bool.and_eq_true, bne_iff_ne] at hg
          have n13 := nat (k := 13) (by omega) hg.1
          have n34 := nat (k := 34) (by omega) hg.2
          have i13 : ((x.toNat : Int) == 13) = false := by rw [beq_eq_false_iff_ne]; omega
          have i34 : ((x.toNat : Int) == 34) = false := by rw [beq_eq_false_iff_ne]; omega
          have j13 : ((x.toNat : Int) = 13) = False := eq_false (by omega)
          have j34 : ((x.toNat : Int) = 34) = False := eq_false (by omega)
          by_cases h38 : x = 38
          · subst h38
            have HC := Lib.hid (HCall.out rfl)
            clear hxl hsafe hg HCall nat n13 n34 i13 i34 j13 j34
            go_big_wp2_with (go_at_call 13; refine HC.out.mono ?_; rintro e w5 ⟨rfl, hb5⟩)
            exact ⟨⟨k2 + 1, by go_num, by omega, HBk.out.trans (hb5.mono HBk.out.size)⟩, by simp [RowKit.intOf]; omega⟩
          · have n38 := nat (k := 38) (by omega) h38
            have i38 : ((x.toNat : Int) == 38) = false := by rw [beq_eq_false_iff_ne]; omega
            have j38 : ((x.toNat : Int) = 38) = False := eq_false (by omega)
            clear hxl hsafe hg HCall nat n13 n34 n38 h38
            go_big_wp2
            exact ⟨⟨k2 + 1, by go_num, by omega, HBk.out⟩, by simp [RowKit.intOf]; omega⟩
        · have hltI : ((k2 : Int) < v.size) = False := eq_false (by omega)
          go_big_wp2_with (go_at_call 10; refine (HW.out _ HBk.out).mono ?_; rintro e w6 ⟨rfl, hb6⟩)
          go_ret
          exact ⟨rfl, HBk.out.trans (hb6.mono HBk.out.size)⟩
end Go.Proofs.YtkfmfldkllkcbabDoor

