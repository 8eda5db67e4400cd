/-
  The law on texts that a comment cuts. Conditions: both texts together are no longer than 2^48 bytes (their sum is reckoned ahead of all else); the library's variable MaxLen holds a number, its two tables what its text lays.
-/
import Derived.Test.YtkfmfldkllkcbaaGreatDoorRWell
import Derived.Test.YtkfmfldkllkcbaaGreatDoorRWorks
import Derived.Test.YtkfmfldkllkcbaaGreatDoorRTags
import Derived.Test.YtkfmfldkllkcbaaGreatDoorRPlain
namespace Go.Proofs.YtkfmfldkllkcbaaGreatDoor
open Go.RowKit Go.RunKit Go.CharrefKit Go.Lib Go.TokenKit Go.TreeKit

theorem bl_join (a b : ByteArray) : bl (a ++ b) = bl a ++ bl b := by simp [bl]
theorem enc_zero {z : Int} (h : z ≠ 0) : ∀ x ∈ encodeRuneZ z, x ≠ 0 := by
  intro x hx
  by_cases c0 : z < 0 ∨ (55296 ≤ z ∧ z ≤ 57343) ∨ 1114111 < z
  · rw [encodeRuneZ_bad c0] at hx
    simp at hx; omega
  by_cases c1 : z < 128
  · rw [encodeRuneZ_one (by omega) (by omega)] at hx
    simp at hx; omega
  by_cases c2 : z < 2048
  · rw [encodeRuneZ_two (by omega) (by omega)] at hx
    simp at hx; omega
  by_cases c3 : z < 65536
  · rw [encodeRuneZ_three (by omega)] at hx
    simp at hx; omega
  · rw [encodeRuneZ_four (by omega) (by omega)] at hx
    simp at hx; omega
theorem well_from (s : ByteArray) : ∀ (f i : Nat), s.size - i ≤ f → i ≤ s.size → (∀ p, p ∈ UtfKit.partsFrom s i → wellP p = true) → ∀ b, b ∈ (bl s).drop i → b ≠ 0
  | 0, i, hf, hi, _, b, hb => by
    rw [List.drop_eq_nil_of_le (by rw [bl_length]; omega)] at hb
    cases hb
  | f + 1, i, hf, hi, hok, b, hb => by
    by_cases h : i < s.size
    · have hl := UtfKit.cutAt_len s i h
      rw [UtfKit.partsFrom_step s i h] at hok
      have ho := hok _ (List.mem_cons_self)
      unfold wellP at ho
      simp only [Bool.and_eq_true, decide_eq_true_eq] at ho
      have he := U.encode_at s i h ho.1
      have e : (s.extract i (i + (UtfKit.cutAt s i).len)).data.toList = ((bl s).drop i).take (UtfKit.cutAt s i).len := by
        simp [bl, List.extract]
      rw [← List.take_append_drop (UtfKit.cutAt s i).len ((bl s).drop i), List.mem_append, ← e, ← he, List.drop_drop] at hb
      rcases hb with hb | hb
      · unfold encodeRune at hb
        obtain ⟨y, hy, rfl⟩ := List.mem_map.1 hb
        have h1 := enc_zero (z := ((UtfKit.cutAt s i).char : Nat)) (by have := ho.2; omega) y hy
        have h2 := encodeRuneZ_byte _ y hy
        intro e0
        have := congrArg UInt8.toNat e0
        simp at this
        omega
      · exact well_from s f _ (by omega) hl.2 (fun p hp => hok p (List.mem_cons_of_mem _ hp)) b hb
    · rw [List.drop_eq_nil_of_le (by rw [bl_length]; omega)] at hb
      cases hb
theorem well_zero {s : ByteArray} (h : wellL s = true) : ∀ b, b ∈ bl s → b ≠ 0 := fun b hb =>
  well_from s s.size 0 (by omega) (Nat.zero_le _) (fun p hp => List.all_eq_true.1 h p hp) b (by simpa using hb)
def cmMid : ByteArray := ⟨#[60, 33, 45, 45, 120, 45, 45, 62]⟩
theorem cm_bytes (a b : ByteArray) : bl (a ++ cmMid ++ b) = cmText (bl a) (bl b) := by
  simp only [bl_join]
  show bl a ++ [60, 33, 45, 45, 120, 45, 45, 62] ++ bl b = _
  simp [cmText]
theorem cm_parsed {a b : ByteArray} (ha : a.size ≤ 1000) (hb : b.size ≤ 1000) (hwa : wellL a = true) (hwb : wellL b = true) (hne : bl a ++ bl b ≠ []) (h : ∀ x, x ∈ bl a ++ bl b → x ≠ 60 ∧ x ≠ 38 ∧ x.toNat ≠ 13) :
    parseL (decL (a ++ cmMid ++ b)) = (oneTree (bl a ++ bl b), 0, 0) := by
  have hmid : ∀ x, x ∈ bl cmMid → x.toNat < 128 ∧ x.toNat ≠ 13 := by
    intro x hx
    have : ([60, 33, 45, 45, 120, 45, 45, 62] : List UInt8).all (fun x => decide (x.toNat < 128) && !decide (x.toNat = 13)) = true := by decide
    have := List.all_eq_true.1 this x hx
    simpa using this
  have h13 : ∀ x, x ∈ bl (a ++ cmMid ++ b) → x.toNat ≠ 13 := fun x hx => by
    rw [bl_join, bl_join, List.mem_append, List.mem_append] at hx
    rcases hx with (hx | hx) | hx
    · exact (h x (List.mem_append_left _ hx)).2.2
    · exact (hmid x hx).2
    · exact (h x (List.mem_append_right _ hx)).2.2
  have hok : ∀ p, p ∈ UtfKit.parts (a ++ cmMid ++ b) → p.ok = true := by
    have hm : ∀ p, p ∈ UtfKit.parts cmMid → p.ok = true := ascii_ok fun x hx => (hmid x hx).1
    have e1 := UtfKit.parts_append a cmMid (well_ok hwa)
    have e2 := UtfKit.parts_append (a ++ cmMid) b (fun p hp => by
      rw [e1, List.mem_append] at hp
      rcases hp with hp | hp
      · exact well_ok hwa p hp
      · exact hm p hp)
    intro p hp
    rw [e2, e1, List.mem_append, List.mem_append] at hp
    rcases hp with (hp | hp) | hp
    · exact well_ok hwa p hp
    · exact hm p hp
    · exact well_ok hwb p hp
  have hs : (a ++ cmMid ++ b).size ≤ 65536 := by
    rw [ByteArray.size_append, ByteArray.size_append]
    show a.size + 8 + b.size ≤ _
    omega
  have hla := bl_length a
  have hlb := bl_length b
  rw [decL_plain hs h13 hok, cm_bytes]
  unfold parseL
  simp only [cm_told (a := bl a) (b := bl b) (fun x hx => ⟨(h x (List.mem_append_left _ hx)).1, (h x (List.mem_append_left _ hx)).2.1, well_zero hwa x hx⟩) (fun x hx => ⟨(h x (List.mem_append_right _ hx)).1, (h x (List.mem_append_right _ hx)).2.1, well_zero hwb x hx⟩) (by omega) (by omega)]
  rw [if_pos trivial]
  exact cm_built hne

set_option maxRecDepth 100000 in
set_option maxHeartbeats 4000000 in
theorem lawTexts (a b : ByteArray) (hab : a.size + b.size ≤ 281474976702464) (w : World) (ht : U.Tabs w) (hM : Maxed w w.heap.size) : Calls Tryz.prog 9 #[.string a, .string b] w fun e w' => e = .returned (.bool true) ∧ Below w.heap.size w w' := by
  have HW := Lib.hid fun w1 (hb : Below w.heap.size w w1) => works05_any w1 (ht.on hb) (maxed_on hM hb)
  have hsum : ((9223372036854775807 : Int) < (a.size : Int) + (b.size : Int)) = False := eq_false (by omega)
  have HM := Lib.hid hM
  have HT := Lib.hid ht
  clear hM ht
  by_cases hbig : 1000 < a.size
  · have hI : (1000 : Int) < a.size := by omega
    go_enter Tryz.func9, Tryz.ntmps9
    go_big_wp2_with (go_at_call 15; refine (HW.out _ (Below.refl _ _)).mono ?_; rintro e w1 ⟨rfl, hb1⟩)
    go_ret
    exact ⟨rfl, hb1⟩
  have hI : ((1000 : Int) < a.size) = False := eq_false (by omega)
  by_cases hbig2 : 1000 < b.size
  · have hI2 : (1000 : Int) < b.size := by omega
    go_enter Tryz.func9, Tryz.ntmps9
    go_big_wp2_with (go_at_call 15; refine (HW.out _ (Below.refl _ _)).mono ?_; rintro e w1 ⟨rfl, hb1⟩)
    go_ret
    exact ⟨rfl, hb1⟩
  have hI2 : ((1000 : Int) < b.size) = False := eq_false (by omega)
  obtain ⟨s, hs⟩ : ∃ s, a ++ b = s := ⟨_, rfl⟩
  have hlen := bl_length s
  have hbs : bl s = bl a ++ bl b := by rw [← hs, bl_join]
  have hsz : s.size = a.size + b.size := by rw [← hs, ByteArray.size_append]
  by_cases hE : bl s = []
  · have hE0 : s.toList = [] := by rw [Lib.toList_data]; exact hE
    have hE1 : s.toList.isEmpty = true := by simp [hE0]
    have hE2 : (s.toList == []) = true := by simp [hE0]
    clear hE hbs hlen hsz
    go_enter Tryz.func9, Tryz.ntmps9
    go_big_wp2_with (go_at_call 15; refine (HW.out _ (Below.refl _ _)).mono ?_; rintro e w1 ⟨rfl, hb1⟩)
    go_ret
    exact ⟨rfl, hb1⟩
  have hE1 : s.toList.isEmpty = false := by rw [Lib.toList_data]; cases h : s.data.toList with
    | nil => exact absurd h hE
    | cons x r => rfl
  have hE2 : (s.toList == []) = false := by rw [Lib.toList_data]; exact beq_eq_false_iff_ne.2 hE
  have hWA := fun W => refWell05_any a W (by omega)
  have hWB := fun W => refWell05_any b W (by omega)
  have HBs := Lib.hid hbs
  have HSz := Lib.hid hsz
  have HE := Lib.hid hE
  have HS := Lib.hid hs
  clear hE hbs
  cases hwa : wellL a with
  | false =>
    rw [hwa] at hWA
    have HWA := Lib.hid hWA
    clear hWA hWB hwa hlen hsz
    go_enter Tryz.func9, Tryz.ntmps9
    go_big_wp2_with (first
      | (go_at_call 31; refine (HWA.out _).mono ?_; rintro e w1 ⟨rfl, hb1⟩; have HB1 := Lib.hid hb1; clear hb1)
      | (go_at_call 15; refine (HW.out _ HB1.out).mono ?_; rintro e w2 ⟨rfl, hb2⟩))
    go_ret
    exact ⟨rfl, HB1.out.trans (hb2.mono HB1.out.size)⟩
  | true =>
    rw [hwa] at hWA
    have HWA := Lib.hid hWA
    cases hwb : wellL b with
    | false =>
      rw [hwb] at hWB
      have HWB := Lib.hid hWB
      clear hWA hWB hwa hwb hlen hsz
      go_enter Tryz.func9, Tryz.ntmps9
      go_big_wp2_with (first
        | (go_at_call 31; refine (HWA.out _).mono ?_; clear HWA; rintro e w1 ⟨rfl, hb1⟩; have HB1 := Lib.hid hb1; clear hb1)
        | (go_at_call 31; refine (HWB.out _).mono ?_; clear HWB; rintro e w1' ⟨rfl, hb1⟩; have HB2 := Lib.hid (HB1.out.trans (hb1.mono HB1.out.size)); clear hb1)
        | (go_at_call 15; refine (HW.out _ HB2.out).mono ?_; rintro e w2 ⟨rfl, hb2⟩))
      go_ret
      exact ⟨rfl, HB2.out.trans (hb2.mono HB2.out.size)⟩
    | true =>
      rw [hwb] at hWB
      have HWB := Lib.hid hWB
      have HA := Lib.hid hwa
      have HBw := Lib.hid hwb
      clear hWA hWB hwa hwb
      go_enter Tryz.func9, Tryz.ntmps9
      go_big_wp2_with (first
        | (go_at_call 31; refine (HWA.out _).mono ?_; clear HWA; rintro e w1 ⟨rfl, hb1⟩; have HB1 := Lib.hid hb1; clear hb1)
        | (go_at_call 31; refine (HWB.out _).mono ?_; clear HWB; rintro e w1' ⟨rfl, hb1⟩; have HB2 := Lib.hid (HB1.out.trans (hb1.mono HB1.out.size)); clear hb1))
      go_loop [6] (fun v => ∃ i : Nat, v = .int .i64 (i : Nat) ∧ i ≤ s.size ∧ Hid (∀ j x, j < i → (bl s)[j]? = some x → x ≠ 60 ∧ x ≠ 38 ∧ x.toNat ≠ 13)) (fun v => s.size - (RowKit.intOf v).toNat)
      case atStart => exact ⟨0, rfl, Nat.zero_le _, Lib.hid fun j b h => by omega⟩
      case round =>
        obtain ⟨i, rfl, his, HN⟩ := hrel
        by_cases hi : i < s.size
        · have hII : (i : Int) < s.size := by omega
          obtain ⟨y, hy⟩ : ∃ y : UInt8, s[i]'hi = y := ⟨_, rfl⟩
          have hyl : (bl s)[i]? = some y := by rw [← hy]; exact Lib.data_getElem? s i hi
          have HY := Lib.hid hyl
          clear hyl
          by_cases c60 : y = 60
          · subst c60
            go_big_wp2_with (go_at_call 15; refine (HW.out _ HB2.out).mono ?_; rintro e w2 ⟨rfl, hb2⟩)
            go_ret
            exact ⟨rfl, HB2.out.trans (hb2.mono HB2.out.size)⟩
          by_cases c38 : y = 38
          · subst c38
            go_big_wp2_with (go_at_call 15; refine (HW.out _ HB2.out).mono ?_; rintro e w2 ⟨rfl, hb2⟩)
            go_ret
            exact ⟨rfl, HB2.out.trans (hb2.mono HB2.out.size)⟩
          by_cases c13 : y = 13
          · subst c13
            go_big_wp2_with (go_at_call 15; refine (HW.out _ HB2.out).mono ?_; rintro e w2 ⟨rfl, hb2⟩)
            go_ret
            exact ⟨rfl, HB2.out.trans (hb2.mono HB2.out.size)⟩
          have n60 : ¬ y.toNat = 60 := fun e => c60 (UInt8.toNat_inj.1 (by simpa using e))
          have n38 : ¬ y.toNat = 38 := fun e => c38 (UInt8.toNat_inj.1 (by simpa using e))
          have n13 : ¬ y.toNat = 13 := fun e => c13 (UInt8.toNat_inj.1 (by simpa using e))
          have i60 : ¬ (y.toNat : Int) = 60 := by omega
          have b60 : ((y.toNat : Int) == 60) = false := by rw [beq_eq_false_iff_ne]; omega
          have i38 : ¬ (y.toNat : Int) = 38 := by omega
          have b38 : ((y.toNat : Int) == 38) = false := by rw [beq_eq_false_iff_ne]; omega
          have i13 : ¬ (y.toNat : Int) = 13 := by omega
          have b13 : ((y.toNat : Int) == 13) = false := by rw [beq_eq_false_iff_ne]; omega
          have HNx : Hid (∀ j x, j < i + 1 → (bl s)[j]? = some x → x ≠ 60 ∧ x ≠ 38 ∧ x.toNat ≠ 13) := Lib.hid fun j x hj hx => by
            by_cases e : j = i
            · subst e; rw [HY.out] at hx; cases hx; exact ⟨c60, c38, n13⟩
            · exact HN.out j x (by omega) hx
          clear c60 c38 c13 n60 n38 n13
          go_big_wp2
          exact ⟨⟨i + 1, by go_num, by omega, HNx⟩, by simp [RowKit.intOf]; omega⟩
        · obtain rfl : i = s.size := by omega
          have hno : ∀ x, x ∈ bl a ++ bl b → x ≠ 60 ∧ x ≠ 38 ∧ x.toNat ≠ 13 := fun x hx => by
            rw [← HBs.out] at hx
            obtain ⟨j, hj⟩ := List.mem_iff_getElem?.1 hx
            exact HN.out j x (by rw [← hlen]; exact (List.getElem?_eq_some_iff.1 hj).1) hj
          have hp := cm_parsed (a := a) (b := b) (by omega) (by omega) HA.out HBw.out (by rw [← HBs.out]; exact HE.out) hno
          have hst : (⟨(bl a ++ bl b).toArray⟩ : ByteArray) = s := by rw [← HBs.out]; rfl
          unfold cmMid at hp
          have hsz2 : (a ++ ⟨#[60, 33, 45, 45, 120, 45, 45, 62]⟩ ++ b : ByteArray).size = a.size + 8 + b.size := by
            rw [ByteArray.size_append, ByteArray.size_append]
            rfl
          obtain ⟨gc, w2, hc, hb2, hby⟩ := made_bytes w1' (a ++ ⟨#[60, 33, 45, 45, 120, 45, 45, 62]⟩ ++ b) _ hsz2
          have HB3 := Lib.hid (HB2.out.trans (hb2.mono HB2.out.size))
          have HP := Lib.hid (parse_at hp (m := 2) rfl gc hby (HT.out.on HB3.out) (maxed_on HM.out HB3.out))
          have hs1 : ((9223372036854775807 : Int) < (a.size : Int) + 8) = False := eq_false (by omega)
          have hs2 : ((9223372036854775807 : Int) < (a.size : Int) + 8 + (b.size : Int)) = False := eq_false (by omega)
          have hltI : ((s.size : Int) < s.size) = False := eq_false (by omega)
          clear hno hp hsz2 hb2 hby HN
          go_big_wp2_with (first
            | (go_at_call 20
               go_loud (
                 refine HP.out.mono ?_
                 rintro e w3 ⟨ao, cap', L, rfl, hb3, hr, hrd, hL⟩
                 have HB4 := Lib.hid (HB3.out.trans (hb3.mono HB3.out.size))
                 obtain ⟨u1, v1, x1⟩ := map_at hL (k := 1) rfl
                 obtain ⟨g, rfl, a0, a1, a2, a3, a4, a5⟩ := hrd.at_ 1 _ x1
                 simp only [hst] at a3
                 clear hb3 hr hrd hL x1 HP))
            | (go_at_call 15; refine (HW.out _ HB4.out).mono ?_; rintro e w4 ⟨rfl, hb4⟩))
          go_ret
          exact ⟨rfl, HB4.out.trans (hb4.mono HB4.out.size)⟩
end Go.Proofs.YtkfmfldkllkcbaaGreatDoor
