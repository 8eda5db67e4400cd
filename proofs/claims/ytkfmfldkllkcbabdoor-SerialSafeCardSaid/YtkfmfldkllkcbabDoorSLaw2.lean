/-
  SerialJoins: what two strings are escaped to, one behind the other. Conditions: the library's two tables hold what its text lays.
-/
import Derived.Test.YtkfmfldkllkcbabDoorSWorks
import Derived.Test.YtkfmfldkllkcbabDoorRWell
import Derived.Test.YtkfmfldkllkcbabDoorRLaw3
namespace Go.SerialKit
open Go Go.Lib Go.TokenKit Go.TreeKit
theorem escR_append {attr : Bool} : ∀ (a b : Bytes), (∀ r, b ≠ 160 :: r) → escR attr (a ++ b) = escR attr a ++ escR attr b
  | [], b, _ => by rw [List.nil_append]; rw [show escR attr [] = [] from rfl, List.nil_append]
  | [x], [], _ => by rw [List.append_nil, show escR attr [] = [] from rfl, List.append_nil]
  | [x], c :: r, h => by
    rw [List.singleton_append, escR_not (fun e => h r (by rw [e]))]
    rfl
  | x :: y :: r, b, h => by
    rw [show x :: y :: r ++ b = x :: y :: (r ++ b) from rfl]
    by_cases hxy : x = 194 ∧ y = 160
    · rw [escR, if_pos hxy, escR_append r b h, escR, if_pos hxy, List.append_assoc]
    · rw [escR, if_neg hxy, show y :: (r ++ b) = (y :: r) ++ b from rfl, escR_append (y :: r) b h, escR, if_neg hxy, List.append_assoc]
theorem oneE_len (attr : Bool) (b : UInt8) : (oneE attr b).length ≤ 6 := by
  unfold oneE
  repeat' split
  all_goals first | decide | simp
theorem escR_len {attr : Bool} : ∀ a : Bytes, (escR attr a).length ≤ 6 * a.length
  | [] => Nat.zero_le _
  | [x] => by
    have := oneE_len attr x
    change (oneE attr x).length ≤ 6
    exact this
  | x :: y :: r => by
    rw [escR]
    split
    · have := escR_len (attr := attr) r
      have h : nbspB.length ≤ 6 := by decide
      simp only [List.length_append, List.length_cons]
      omega
    · have := escR_len (attr := attr) (y :: r)
      have h := oneE_len attr x
      simp only [List.length_append, List.length_cons] at this ⊢
      omega
end Go.SerialKit
namespace Go.Proofs.YtkfmfldkllkcbabDoor
open Go.RowKit Go.RunKit Go.UtfKit Go.CharrefKit Go.Lib Go.TokenKit Go.TreeKit Go.SerialKit

set_option maxRecDepth 100000 in
theorem well_head {s : ByteArray} (h : wellL s = true) : ∀ r, bl s ≠ 160 :: r := by
  intro r e
  have hs : 0 < s.size := by
    have := congrArg List.length e
    rw [bl_length] at this
    simp at this
    omega
  obtain ⟨b, hb, hv⟩ := byte_drop hs
  rw [List.drop_zero, e] at hb
  have hb160 : b = 160 := (List.cons.inj hb).1.symm
  rw [hb160] at hv
  have hv' : byteAt s 0 = 160 := hv
  have hok : (cutAt s 0).ok = true := well_ok h _ (by
    have := partsFrom_step s 0 hs
    change cutAt s 0 ∈ partsFrom s 0
    rw [this]
    exact List.mem_cons_self)
  have h1 : ¬ byteAt s 0 < 128 := by omega
  have h2 : byteAt s 0 < 194 := by omega
  have : (cutAt s 0).ok = false := by simp only [cutAt, cutN, h1, h2, if_true, if_false]
  rw [this] at hok
  cases hok
set_option maxRecDepth 100000 in
theorem esc_join {attr : Bool} {a b : ByteArray} (h : wellL b = true) : (⟨(escR attr (bl (a ++ b))).toArray⟩ : ByteArray) = ⟨(escR attr (bl a)).toArray⟩ ++ ⟨(escR attr (bl b)).toArray⟩ := by
  rw [bl_join, escR_append _ _ (well_head h)]
  apply ByteArray.ext
  simp
theorem esc_size {attr : Bool} {a : ByteArray} : (⟨(escR attr (bl a)).toArray⟩ : ByteArray).size ≤ 6 * a.size := by
  have := escR_len (attr := attr) (bl a)
  rw [bl_length] at this
  change (escR attr (bl a)).toArray.size ≤ _
  rw [List.size_toArray]
  exact this

set_option maxRecDepth 100000 in
set_option maxHeartbeats 2000000 in
theorem lawJoins (a b : ByteArray) (w : World) (hv : VTabs w) : Calls Tryd.prog 6 #[.string a, .string b] w fun e w' => e = .returned (.bool true) ∧ Below w.heap.size w w' := by
  have HW := Lib.hid fun (W : World) (hb : Below w.heap.size w W) => works06_any W (hv.on hb)
  clear hv
  by_cases hbig : 2000 < a.size
  · have hI : (2000 : Int) < a.size := by omega
    go_enter Tryd.func6, Tryd.ntmps6
    go_big_wp2_with (go_at_call 10; refine (HW.out _ (Below.refl _ _)).mono ?_; rintro e w1 ⟨rfl, hb1⟩)
    go_ret
    exact ⟨rfl, hb1⟩
  have hI : ((2000 : Int) < a.size) = False := eq_false (by omega)
  by_cases hbig2 : 2000 < b.size
  · have hI2 : (2000 : Int) < b.size := by omega
    go_enter Tryd.func6, Tryd.ntmps6
    go_big_wp2_with (go_at_call 10; refine (HW.out _ (Below.refl _ _)).mono ?_; rintro e w1 ⟨rfl, hb1⟩)
    go_ret
    exact ⟨rfl, hb1⟩
  have hI2 : ((2000 : Int) < b.size) = False := eq_false (by omega)
  have hWA := fun W => refWell05_any a W (by omega)
  have hWB := fun W => refWell05_any b W (by omega)
  cases hwa : wellL a with
  | false =>
    rw [hwa] at hWA
    have HWA := Lib.hid hWA
    clear hWA hWB hwa
    go_enter Tryd.func6, Tryd.ntmps6
    go_big_wp2_with (first
      | (go_at_call 11; refine (HWA.out _).mono ?_; rintro e w1 ⟨rfl, hb1⟩; have HB1 := Lib.hid hb1; clear hb1)
      | (go_at_call 10; refine (HW.out _ HB1.out).mono ?_; rintro e w2 ⟨rfl, hb2⟩))
    go_ret
    exact ⟨rfl, HB1.out.trans (hb2.mono HB1.out.size)⟩
  | true =>
    rw [hwa] at hWA
    have HWA := Lib.hid hWA
    cases hwb : wellL b with
    | false =>
      rw [hwb] at hWB
      have HWB := Lib.hid hWB
      clear hWA hWB hwa hwb
      go_enter Tryd.func6, Tryd.ntmps6
      go_big_wp2_with (first
        | (go_at_call 11; refine (HWA.out _).mono ?_; clear HWA; rintro e w1 ⟨rfl, hb1⟩; have HB1 := Lib.hid hb1; clear hb1)
        | (go_at_call 11; refine (HWB.out _).mono ?_; clear HWB; rintro e w1' ⟨rfl, hb1⟩; have HB2 := Lib.hid (HB1.out.trans (hb1.mono HB1.out.size)); clear hb1)
        | (go_at_call 10; refine (HW.out _ HB2.out).mono ?_; rintro e w2 ⟨rfl, hb2⟩))
      go_ret
      exact ⟨rfl, HB2.out.trans (hb2.mono HB2.out.size)⟩
    | true =>
      rw [hwb] at hWB
      have HWB := Lib.hid hWB
      have hsum : (9223372036854775807 < a.size + b.size) = False := eq_false (by omega)
      have hab : (a ++ b).size ≤ 1048576 := by rw [ByteArray.size_append]; omega
      have hTab := fun W => escText_any (a ++ b) hab W
      have hAab := fun W => escAttr_any (a ++ b) hab W
      rw [esc_join hwb] at hTab hAab
      have hTa := fun W => escText_any a (by omega) W
      have hTb := fun W => escText_any b (by omega) W
      have hAa := fun W => escAttr_any a (by omega) W
      have hAb := fun W => escAttr_any b (by omega) W
      have s1 := esc_size (attr := false) (a := a)
      have s2 := esc_size (attr := false) (a := b)
      have s3 := esc_size (attr := true) (a := a)
      have s4 := esc_size (attr := true) (a := b)
      generalize (⟨(escR false (bl a)).toArray⟩ : ByteArray) = ta at *
      generalize (⟨(escR false (bl b)).toArray⟩ : ByteArray) = tb at *
      generalize (⟨(escR true (bl a)).toArray⟩ : ByteArray) = va at *
      generalize (⟨(escR true (bl b)).toArray⟩ : ByteArray) = vb at *
      have hsum1 : (9223372036854775807 < ta.size + tb.size) = False := eq_false (by omega)
      have hsum2 : (9223372036854775807 < va.size + vb.size) = False := eq_false (by omega)
      have HTab := Lib.hid hTab
      have HAab := Lib.hid hAab
      have HTa := Lib.hid hTa
      have HTb := Lib.hid hTb
      have HAa := Lib.hid hAa
      have HAb := Lib.hid hAb
      clear hWA hWB hwa hwb hTab hAab hTa hTb hAa hAb s1 s2 s3 s4 hab hbig hbig2
      go_enter Tryd.func6, Tryd.ntmps6
      go_big_wp2_with (first
        | (go_at_call 11; refine (HWA.out _).mono ?_; clear HWA; rintro e w1 ⟨rfl, hb1⟩; have HB1 := Lib.hid hb1; clear hb1)
        | (go_at_call 11; refine (HWB.out _).mono ?_; clear HWB; rintro e w2 ⟨rfl, hb2⟩; have HB2 := Lib.hid (HB1.out.trans (hb2.mono HB1.out.size)); clear hb2)
        | (go_at_call 7; refine (HTab.out _).mono ?_; clear HTab; rintro e w3 ⟨rfl, hb3⟩; have HB3 := Lib.hid (HB2.out.trans (hb3.mono HB2.out.size)); clear hb3)
        | (go_at_call 7; refine (HTa.out _).mono ?_; clear HTa; rintro e w4 ⟨rfl, hb4⟩; have HB4 := Lib.hid (HB3.out.trans (hb4.mono HB3.out.size)); clear hb4)
        | (go_at_call 7; refine (HTb.out _).mono ?_; clear HTb; rintro e w5 ⟨rfl, hb5⟩; have HB5 := Lib.hid (HB4.out.trans (hb5.mono HB4.out.size)); clear hb5)
        | (go_at_call 9; refine (HAab.out _).mono ?_; clear HAab; rintro e w6 ⟨rfl, hb6⟩; have HB6 := Lib.hid (HB5.out.trans (hb6.mono HB5.out.size)); clear hb6)
        | (go_at_call 9; refine (HAa.out _).mono ?_; clear HAa; rintro e w7 ⟨rfl, hb7⟩; have HB7 := Lib.hid (HB6.out.trans (hb7.mono HB6.out.size)); clear hb7)
        | (go_at_call 9; refine (HAb.out _).mono ?_; clear HAb; rintro e w8 ⟨rfl, hb8⟩; have HB8 := Lib.hid (HB7.out.trans (hb8.mono HB7.out.size)); clear hb8)
        | (go_at_call 10; refine (HW.out _ HB8.out).mono ?_; rintro e w9 ⟨rfl, hb9⟩))
      go_ret
      exact ⟨rfl, HB8.out.trans (hb9.mono HB8.out.size)⟩
end Go.Proofs.YtkfmfldkllkcbabDoor

