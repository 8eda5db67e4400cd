/-
  The law on names. Conditions: the library's variable MaxLen holds a number, its two tables what its text lays.
-/
import Derived.Test.YtkfmfldkllkcbaaGreatDoorRKindR
import Derived.Test.YtkfmfldkllkcbaaGreatDoorRWorks
import Derived.Test.YtkfmfldkllkcbaaGreatDoorRTags
import Derived.Test.YtkfmfldkllkcbaaGreatDoorRPlain
import Derived.Test.YtkfmfldkllkcbaaGreatDoorTRefS
namespace Go.Proofs.YtkfmfldkllkcbaaGreatDoor
open Go.RowKit Go.RunKit Go.CharrefKit Go.Lib Go.TokenKit Go.TreeKit

theorem bl_add (a b : ByteArray) : bl (a ++ b) = bl a ++ bl b := by simp [bl]
theorem nm_bytes (v : ByteArray) : bl (⟨#[120, 60]⟩ ++ v ++ ⟨#[62]⟩) = nmText (bl v) := by
  simp only [bl_add]
  show [120, 60] ++ bl v ++ [62] = _
  simp [nmText]
theorem nm_parsed {v : ByteArray} {x : UInt8} {n : Bytes} (hv : bl v = x :: n) (hx : isL x = true) (h : ∀ b, b ∈ x :: n → nameB b = true) (hl : v.size ≤ 200) :
    parseL (decL (⟨#[120, 60]⟩ ++ v ++ ⟨#[62]⟩)) = if kindL (smallL (bl v)) = 0 then ([], 50, 1) else (nmTree (smallL (bl v)), 0, 0) := by
  have hall : ∀ b, b ∈ bl (⟨#[120, 60]⟩ ++ v ++ ⟨#[62]⟩) → b.toNat < 128 ∧ b.toNat ≠ 13 := fun b hb => by
    rw [nm_bytes, hv] at hb
    unfold nmText at hb
    rw [List.mem_cons, List.mem_cons, List.mem_append, List.mem_singleton] at hb
    rcases hb with rfl | rfl | hb | rfl
    · decide
    · decide
    · exact (name_stops b (h b hb)).2.2
    · decide
  have hs : (⟨#[120, 60]⟩ ++ v ++ ⟨#[62]⟩ : ByteArray).size ≤ 65536 := by
    rw [ByteArray.size_append, ByteArray.size_append]
    show 2 + v.size + 1 ≤ _
    omega
  have hlen : (x :: n).length ≤ 200 := by rw [← hv, bl_length]; exact hl
  rw [decL_plain hs (fun b hb => (hall b hb).2) (ascii_ok fun b hb => (hall b hb).1), nm_bytes, hv]
  unfold parseL
  simp only [nm_told hx h hlen]
  rw [if_pos trivial]
  exact nm_built (x :: n)

set_option maxRecDepth 100000 in
set_option maxHeartbeats 4000000 in
theorem lawNames (s : ByteArray) (w : World) (ht : U.Tabs w) (hM : Maxed w w.heap.size) : Calls Tryz.prog 10 #[.string s] w fun e w' => e = .returned (.bool true) ∧ Below w.heap.size w w' := by
  have HW := Lib.hid fun w1 (hb : Below w.heap.size w w1) => works05_any w1 (ht.on hb) (maxed_on hM hb)
  by_cases hbig : 100 < s.size
  · have hI : (100 : Int) < s.size := by omega
    go_enter Tryz.func10, Tryz.ntmps10
    go_big_wp2_with (go_at_call 15; refine (HW.out _ (Below.refl _ _)).mono ?_; rintro e w1 ⟨rfl, hb1⟩)
    go_ret
    exact ⟨rfl, hb1⟩
  have hI : ¬ (100 : Int) < s.size := by omega
  have hlen := bl_length s
  cases hb : bl s with
  | nil =>
    have hE : s.toList = [] := by rw [Lib.toList_data]; exact hb
    have hE1 : s.toList.isEmpty = true := by simp [hE]
    clear hb
    go_enter Tryz.func10, Tryz.ntmps10
    go_big_wp2_with (go_at_call 15; refine (HW.out _ (Below.refl _ _)).mono ?_; rintro e w1 ⟨rfl, hb1⟩)
    go_ret
    exact ⟨rfl, hb1⟩
  | cons x n =>
    have hE : ¬ s.toList = [] := by rw [Lib.toList_data]; intro h; rw [show s.data.toList = bl s from rfl, hb] at h; cases h
    have hE1 : s.toList.isEmpty = false := by simpa using hE
    have h0 : 0 < s.size := by rw [← hlen, hb]; simp
    have h0I : (0 : Int) < s.size := by omega
    have hx0 : s[0]'h0 = x := by
      have := Lib.data_getElem? s 0 h0
      rw [show s.data.toList = bl s from rfl, hb] at this
      simpa using this.symm
    have HL0 := Lib.hid (letter04_any x.toNat x.toNat_lt)
    cases hl : isLet x.toNat with
    | false =>
      rw [hl] at HL0
      clear hb hE hlen
      go_enter Tryz.func10, Tryz.ntmps10
      go_big_wp2_with (first
        | (go_at_call 32; refine (HL0.out _).mono ?_; rintro e w1 ⟨rfl, rfl⟩)
        | (go_at_call 15; refine (HW.out _ (Below.refl _ _)).mono ?_; rintro e w1 ⟨rfl, hb1⟩))
      go_ret
      exact ⟨rfl, hb1⟩
    | true =>
      rw [hl] at HL0
      have HM := Lib.hid hM
      have HT := Lib.hid ht
      have HLX : Hid (isLet x.toNat = true) := Lib.hid hl
      have HB := Lib.hid hb
      clear hb hE hM hl ht
      go_enter Tryz.func10, Tryz.ntmps10
      go_big_wp2_with (go_at_call 32; refine (HL0.out _).mono ?_; rintro e w1 ⟨rfl, rfl⟩)
      go_loop [3] (fun v => ∃ i : Nat, v = .int .i64 (i : Nat) ∧ i ≤ s.size ∧ Hid (∀ j b, j < i → (bl s)[j]? = some b → nameB b = true)) (fun v => s.size - (RowKit.intOf v).toNat)
      case atStart => exact ⟨0, rfl, Nat.zero_le _, Lib.hid fun j b h => by omega⟩
      case round =>
        obtain ⟨i, rfl, his, HA⟩ := hrel
        by_cases hi : i < s.size
        · have hII : (i : Int) < s.size := by omega
          obtain ⟨y, hy⟩ : ∃ y : UInt8, s[i]'hi = y := ⟨_, rfl⟩
          have hyl : (bl s)[i]? = some y := by rw [← hy]; exact Lib.data_getElem? s i hi
          have HY := Lib.hid hyl
          have HL := Lib.hid (letter04_any y.toNat y.toNat_lt)
          have HD := Lib.hid (digit04_any y.toNat y.toNat_lt)
          have hn : nameB y = (isLet y.toNat || isNum y.toNat) := rfl
          clear hyl
          cases hz1 : isLet y.toNat with
          | true =>
            rw [hz1] at HL hn
            have HN : Hid (nameB y = true) := Lib.hid hn
            clear hz1 hn HD
            go_big_wp2_with (go_at_call 32; refine (HL.out _).mono ?_; rintro e w1 ⟨rfl, rfl⟩)
            refine ⟨⟨i + 1, rfl, by omega, Lib.hid fun j b hj hb => ?_⟩, by simp [RowKit.intOf]; omega⟩
            by_cases e : j = i
            · subst e; rw [HY.out] at hb; cases hb; exact HN.out
            · exact HA.out j b (by omega) hb
          | false =>
            cases hz2 : isNum y.toNat with
            | true =>
              rw [hz1] at HL hn
              rw [hz2] at HD hn
              have HN : Hid (nameB y = true) := Lib.hid hn
              clear hz1 hz2 hn
              go_big_wp2_with (first
                | (go_at_call 32; refine (HL.out _).mono ?_; rintro e w1 ⟨rfl, rfl⟩)
                | (go_at_call 33; refine (HD.out _).mono ?_; rintro e w1 ⟨rfl, rfl⟩))
              refine ⟨⟨i + 1, rfl, by omega, Lib.hid fun j b hj hb => ?_⟩, by simp [RowKit.intOf]; omega⟩
              by_cases e : j = i
              · subst e; rw [HY.out] at hb; cases hb; exact HN.out
              · exact HA.out j b (by omega) hb
            | false =>
              rw [hz1] at HL hn
              rw [hz2] at HD hn
              clear hz1 hz2 hn
              go_big_wp2_with (first
                | (go_at_call 32; refine (HL.out _).mono ?_; rintro e w1 ⟨rfl, rfl⟩)
                | (go_at_call 33; refine (HD.out _).mono ?_; rintro e w1 ⟨rfl, rfl⟩)
                | (go_at_call 15; refine (HW.out _ (Below.refl _ _)).mono ?_; rintro e w1 ⟨rfl, hb1⟩))
              go_ret
              exact ⟨rfl, hb1⟩
        · obtain rfl : i = s.size := by omega
          have hname : ∀ b, b ∈ x :: n → nameB b = true := fun b hbm => by
            obtain ⟨j, hj⟩ := List.mem_iff_getElem?.1 hbm
            rw [← HB.out] at hj
            exact HA.out j b (by rw [← hlen]; exact (List.getElem?_eq_some_iff.1 hj).1) hj
          have hp := nm_parsed HB.out HLX.out hname (by omega)
          obtain ⟨nm, hnm⟩ : ∃ nm, smallL (bl s) = nm := ⟨_, rfl⟩
          have HS := Lib.hid (refSmall_any s (by omega))
          rw [hnm] at hp HS
          have hK := fun W => kindR_any ⟨nm.toArray⟩ W
          simp only [kindR_eq, bl_of] at hK
          have hsz : (⟨#[120, 60]⟩ ++ s ++ ⟨#[62]⟩ : ByteArray).size = s.size + 3 := by
            rw [ByteArray.size_append, ByteArray.size_append]
            show 2 + s.size + 1 = _
            omega
          have hlong : Hid (s.size ≤ 100) := Lib.hid (by omega)
          have HC := Lib.hid fun w1 => made_bytes w1 (⟨#[120, 60]⟩ ++ s ++ ⟨#[62]⟩) _ hsz
          clear hname HA hnm hsz
          have hs1 : ((9223372036854775807 : Int) < 2 + (s.size : Int)) = False := eq_false (by omega)
          have hs2 : ((9223372036854775807 : Int) < 2 + (s.size : Int) + 1) = False := eq_false (by omega)
          by_cases hk0 : kindL nm = 0
          · rw [if_pos hk0] at hp
            rw [hk0] at hK
            have HK := Lib.hid hK
            have HP := Lib.hid fun w1 (hb : Below w.heap.size w w1) (cap : Nat) (a : Option Addr) (hy : BytesAt w1 a (s.size + 3) (⟨#[120, 60]⟩ ++ s ++ ⟨#[62]⟩)) => parse_at hp (m := 0) rfl cap hy (HT.out.on hb) (maxed_on HM.out hb)
            clear hp hK hk0
            go_big_wp2_with (first
              | (go_at_call 34
                 go_loud (
                   refine (HS.out _).mono ?_
                   rintro e w1 ⟨rfl, hb1⟩
                   obtain ⟨gc, w2, hc, hb2, hby⟩ := HC.out w1
                   have HB1 := Lib.hid hb1
                   have HB2 := Lib.hid (hb1.trans (hb2.mono hb1.size))
                   have HQ := Lib.hid (HP.out w2 HB2.out gc _ hby)
                   clear hb1 hb2 hby))
              | (go_at_call 26; refine (HK.out _).mono ?_; rintro e w1 ⟨rfl, rfl⟩)
              | (go_at_call 20
                 go_loud (
                   refine HQ.out.mono ?_
                   rintro e w3 ⟨ao, cap', L, rfl, hb3, _, _, _⟩
                   have HB3 := Lib.hid (HB2.out.trans (hb3.mono HB2.out.size))
                   clear hb3))
              | (go_at_call 15; refine (HW.out _ HB3.out).mono ?_; rintro e w4 ⟨rfl, hb4⟩))
            go_ret
            exact ⟨rfl, HB3.out.trans (hb4.mono HB3.out.size)⟩
          · rw [if_neg hk0] at hp
            obtain ⟨k, hk⟩ : ∃ k, kindL nm = k := ⟨_, rfl⟩
            rw [hk] at hK hk0
            have hkI : (((k : Nat) : Int) = 0) = False := eq_false (by omega)
            have hkB : (((k : Nat) : Int) == 0) = false := by rw [beq_eq_false_iff_ne]; omega
            have HK := Lib.hid hK
            have HP := Lib.hid fun w1 (hb : Below w.heap.size w w1) (cap : Nat) (a : Option Addr) (hy : BytesAt w1 a (s.size + 3) (⟨#[120, 60]⟩ ++ s ++ ⟨#[62]⟩)) => parse_at hp (m := 3) rfl cap hy (HT.out.on hb) (maxed_on HM.out hb)
            clear hp hK hk0 hk
            go_big_wp2_with (first
              | (go_at_call 34
                 go_loud (
                   refine (HS.out _).mono ?_
                   rintro e w1 ⟨rfl, hb1⟩
                   obtain ⟨gc, w2, hc, hb2, hby⟩ := HC.out w1
                   have HB1 := Lib.hid hb1
                   have HB2 := Lib.hid (hb1.trans (hb2.mono hb1.size))
                   have HQ := Lib.hid (HP.out w2 HB2.out gc _ hby)
                   clear hb1 hb2 hby HP HC))
              | (go_at_call 26; refine (HK.out _).mono ?_; rintro e w1 ⟨rfl, rfl⟩)
              | (go_at_call 20
                 go_loud (
                   refine HQ.out.mono ?_
                   rintro e w3 ⟨ao, cap', L, rfl, hb3, hr, hrd, hL⟩
                   have HB3 := Lib.hid (HB2.out.trans (hb3.mono HB2.out.size))
                   obtain ⟨u2, v2, x2⟩ := map_at hL (k := 2) rfl
                   obtain ⟨g, rfl, a0, a1, a2, a3, a4, a5⟩ := hrd.at_ 2 _ x2
                   obtain ⟨ak, ck, ek, _⟩ := (hr.kidsAt x2).at_
                   obtain rfl : v2 = .slice ak 0 ck := ek
                   have d1 : ∀ q : Over w3, q.out.cell? ⟨g, 13, none⟩ = some (.string ⟨nm.toArray⟩) := fun q => q.cell a1
                   have d5 : ∀ q : Over w3, q.out.cell? ⟨g, 17, none⟩ = some (.slice ak 0 ck) := fun q => q.cell a5
                   clear hb3 hr hrd hL x2 a0 a1 a2 a3 a4 a5 HQ)))
            refine wp_region_below (by kernel_rfl) (by kernel_rfl) ?_
            repeat (go_big_quiet_step (first
              | (go_at_call 34; exact calls_over (HS.out _))
              | (go_at_call 15; exact calls_over (HW.out _ (HB3.out.trans (Below.mono (Over.below _) HB3.out.size))))))
            refine wpQuiet_nil ?_
            intro _ hw'
            obtain ⟨q, hw''⟩ := hw'
            subst hw''
            go_wp2
            go_ret
            exact ⟨rfl, HB3.out.trans (q.below.mono HB3.out.size)⟩
end Go.Proofs.YtkfmfldkllkcbaaGreatDoor
