/-
  Tags of any name. Conditions: the library's variable MaxLen holds a number.
-/
import Derived.Test.YtegpjojfmainoaaDoorTMath2
import Derived.Test.YtegpjojfmainoaaDoorTRefS
namespace Go.Proofs.YtegpjojfmainoaaDoor
open Go.RowKit Go.RunKit Go.CharrefKit Go.Lib Go.TokenKit

theorem tags_text (v : ByteArray) : bl (⟨#[60]⟩ ++ v ++ ⟨#[62, 60, 47]⟩ ++ v ++ ⟨#[62, 60]⟩ ++ v ++ ⟨#[47, 62]⟩) = tagsText (bl v) := by
  have h : ∀ a b : ByteArray, bl (a ++ b) = bl a ++ bl b := fun a b => by simp [bl]
  simp only [h]
  show [60] ++ bl v ++ [62, 60, 47] ++ bl v ++ [62, 60] ++ bl v ++ [47, 62] = _
  simp [tagsText]

set_option maxRecDepth 100000 in
set_option maxHeartbeats 4000000 in
theorem lawTags (s : ByteArray) (w : World) (hM : Maxed w w.heap.size) : Calls Tryd.prog 5 #[.string s] w fun e w' => e = .returned (.bool true) ∧ Below w.heap.size w w' := by
  have HW := Lib.hid fun w1 (hb : Below w.heap.size w w1) => works_any w1 (maxed_on hM hb)
  by_cases hbig : 200 < s.size
  · have hI : (200 : Int) < s.size := by omega
    go_enter Tryd.func5, Tryd.ntmps5
    go_big_wp2_with (go_at_call 7; refine (HW.out _ (Below.refl _ _)).mono ?_; rintro e w1 ⟨rfl, hb1⟩)
    go_ret
    exact ⟨rfl, hb1⟩
  have hI : ¬ (200 : Int) < s.size := by omega
  have hlen := bl_length s
  cases hb : bl s with
  | nil =>
    have hE : s.toList = [] := by rw [Lib.toList_data]; exact hb
    have hE1 : s.toList.isEmpty = true := by simp [hE]
    clear hb
    go_enter Tryd.func5, Tryd.ntmps5
    go_big_wp2_with (go_at_call 7; refine (HW.out _ (Below.refl _ _)).mono ?_; rintro e w1 ⟨rfl, hb1⟩)
    go_ret
    exact ⟨rfl, hb1⟩
  | cons x n =>
    have hE : ¬ s.toList = [] := by rw [Lib.toList_data]; intro h; rw [show s.data.toList = bl s from rfl, hb] at h; cases h
    have hE1 : s.toList.isEmpty = false := by simpa using hE
    have h0 : 0 < s.size := by rw [← hlen, hb]; simp
    have h0I : (0 : Int) < s.size := by omega
    have hx0 : s[0]'h0 = x := by
      have := Lib.data_getElem? s 0 h0
      rw [show s.data.toList = bl s from rfl, hb] at this
      simpa using this.symm
    have HL0 := Lib.hid (refLetter_any x.toNat x.toNat_lt)
    cases hl : isLet x.toNat with
    | false =>
      rw [hl] at HL0
      clear hb hE hlen
      go_enter Tryd.func5, Tryd.ntmps5
      go_big_wp2_with (first
        | (go_at_call 12; refine (HL0.out _).mono ?_; rintro e w1 ⟨rfl, rfl⟩)
        | (go_at_call 7; refine (HW.out _ (Below.refl _ _)).mono ?_; rintro e w1 ⟨rfl, hb1⟩))
      go_ret
      exact ⟨rfl, hb1⟩
    | true =>
      rw [hl] at HL0
      have HM := Lib.hid hM
      have HLX : Hid (isLet x.toNat = true) := Lib.hid hl
      have HB := Lib.hid hb
      clear hb hE hM hl
      go_enter Tryd.func5, Tryd.ntmps5
      go_big_wp2_with (go_at_call 12; refine (HL0.out _).mono ?_; rintro e w1 ⟨rfl, rfl⟩)
      go_loop [3] (fun v => ∃ i : Nat, v = .int .i64 (i : Nat) ∧ i ≤ s.size ∧ Hid (∀ j b, j < i → (bl s)[j]? = some b → nameB b = true)) (fun v => s.size - (RowKit.intOf v).toNat)
      case atStart => exact ⟨0, rfl, Nat.zero_le _, Lib.hid fun j b h => by omega⟩
      case round =>
        obtain ⟨i, rfl, his, HA⟩ := hrel
        by_cases hi : i < s.size
        · have hII : (i : Int) < s.size := by omega
          obtain ⟨y, hy⟩ : ∃ y : UInt8, s[i]'hi = y := ⟨_, rfl⟩
          have hyl : (bl s)[i]? = some y := by rw [← hy]; exact Lib.data_getElem? s i hi
          have HY := Lib.hid hyl
          have HL := Lib.hid (refLetter_any y.toNat y.toNat_lt)
          have HD := Lib.hid (refDigit_any y.toNat y.toNat_lt)
          have hn : nameB y = (isLet y.toNat || isNum y.toNat) := rfl
          clear hyl
          cases hz1 : isLet y.toNat with
          | true =>
            rw [hz1] at HL hn
            have HN : Hid (nameB y = true) := Lib.hid hn
            clear hz1 hn HD
            go_big_wp2_with (go_at_call 12; refine (HL.out _).mono ?_; rintro e w1 ⟨rfl, rfl⟩)
            refine ⟨⟨i + 1, rfl, by omega, Lib.hid fun j b hj hb => ?_⟩, by simp [RowKit.intOf]; omega⟩
            by_cases e : j = i
            · subst e; rw [HY.out] at hb; cases hb; exact HN.out
            · exact HA.out j b (by omega) hb
          | false =>
            cases hz2 : isNum y.toNat with
            | true =>
              rw [hz1] at HL hn
              rw [hz2] at HD hn
              have HN : Hid (nameB y = true) := Lib.hid hn
              clear hz1 hz2 hn
              go_big_wp2_with (first
                | (go_at_call 12; refine (HL.out _).mono ?_; rintro e w1 ⟨rfl, rfl⟩)
                | (go_at_call 13; refine (HD.out _).mono ?_; rintro e w1 ⟨rfl, rfl⟩))
              refine ⟨⟨i + 1, rfl, by omega, Lib.hid fun j b hj hb => ?_⟩, by simp [RowKit.intOf]; omega⟩
              by_cases e : j = i
              · subst e; rw [HY.out] at hb; cases hb; exact HN.out
              · exact HA.out j b (by omega) hb
            | false =>
              rw [hz1] at HL hn
              rw [hz2] at HD hn
              clear hz1 hz2 hn
              go_big_wp2_with (first
                | (go_at_call 12; refine (HL.out _).mono ?_; rintro e w1 ⟨rfl, rfl⟩)
                | (go_at_call 13; refine (HD.out _).mono ?_; rintro e w1 ⟨rfl, rfl⟩)
                | (go_at_call 7; refine (HW.out _ (Below.refl _ _)).mono ?_; rintro e w1 ⟨rfl, hb1⟩))
              go_ret
              exact ⟨rfl, hb1⟩
        · obtain rfl : i = s.size := by omega
          have hname : ∀ b, b ∈ x :: n → nameB b = true := fun b hbm => by
            obtain ⟨j, hj⟩ := List.mem_iff_getElem?.1 hbm
            rw [← HB.out] at hj
            exact HA.out j b (by rw [← hlen]; exact (List.getElem?_eq_some_iff.1 hj).1) hj
          have htold := tags_told HLX.out hname (by rw [← HB.out, hlen]; omega)
          rw [← HB.out, ← tags_text] at htold
          obtain ⟨nm, hnm⟩ : ∃ nm, smallL (bl s) = nm := ⟨_, rfl⟩
          have HS := Lib.hid (refSmall_any s (by omega))
          rw [hnm] at htold HS
          have HT := Lib.hid fun w1 (hb : Below w.heap.size w w1) => tokens_at (n := 3) htold rfl w1 (maxed_on HM.out hb)
          clear htold hname HA hnm
          go_big_wp2_with (first
            | (go_at_call 14; refine (HS.out _).mono ?_; rintro e w1 ⟨rfl, hb1⟩; have HB1 := Lib.hid hb1; clear hb1)
            | (go_at_call 8
               go_loud (
                 refine (HT.out _ HB1.out).mono ?_
                 rintro e w2 ⟨ao, cap, L, rfl, hb2, hrow, hr, hL⟩
                 have HB2 := Lib.hid (HB1.out.trans (hb2.mono HB1.out.size))
                 obtain ⟨u, v, z, rfl⟩ := map_three hL
                 obtain ⟨g, rfl, a0, a1, a2, a3, a4⟩ := hr.at_ 0 _ rfl
                 obtain ⟨g', hg', b0, b1, b2, b3, b4⟩ := hr.at_ 1 _ rfl
                 cases hg'
                 obtain ⟨g', hg', c0, c1, c2, c3, c4⟩ := hr.at_ 2 _ rfl
                 cases hg'
                 obtain ⟨ao1, cap1, hu, _⟩ := (hrow.sub _ List.mem_cons_self).reads
                 obtain ⟨ao2, cap2, hv, _⟩ := (hrow.sub _ (List.mem_cons_of_mem _ List.mem_cons_self)).reads
                 obtain ⟨ao3, cap3, hz, _⟩ := (hrow.sub _ (List.mem_cons_of_mem _ (List.mem_cons_of_mem _ List.mem_cons_self))).reads
                 obtain rfl : u = .slice ao1 0 cap1 := hu
                 obtain rfl : v = .slice ao2 0 cap2 := hv
                 obtain rfl : z = .slice ao3 0 cap3 := hz
                 clear hb2 hr hL hrow)))
          go_loop [8] (fun v => ∃ k : Nat, v = .int .i64 (k : Nat) ∧ k ≤ 3) (fun v => 3 - (RowKit.intOf v).toNat)
          case atStart => exact ⟨0, rfl, by omega⟩
          case round =>
            obtain ⟨k, rfl, hk⟩ := hrel
            obtain rfl | rfl | rfl | rfl : k = 0 ∨ k = 1 ∨ k = 2 ∨ k = 3 := by omega
            · go_big_wp2
              exact ⟨⟨1, rfl, by omega⟩, by simp [RowKit.intOf]⟩
            · go_big_wp2
              exact ⟨⟨2, rfl, by omega⟩, by simp [RowKit.intOf]⟩
            · go_big_wp2
              exact ⟨⟨3, rfl, by omega⟩, by simp [RowKit.intOf]⟩
            · go_big_wp2_with (go_at_call 7; refine (HW.out _ HB2.out).mono ?_; rintro e w3 ⟨rfl, hb3⟩)
              go_ret
              exact ⟨rfl, HB2.out.trans (hb3.mono HB2.out.size)⟩
end Go.Proofs.YtegpjojfmainoaaDoor
