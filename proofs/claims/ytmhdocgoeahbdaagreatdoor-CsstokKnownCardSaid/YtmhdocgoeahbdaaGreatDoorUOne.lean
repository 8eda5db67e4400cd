/-
  The document's bytes of a character, and of a row of them. No conditions.
-/
import Derived.Test.YtmhdocgoeahbdaaGreatDoorUWorks
import Derived.Test.YtmhdocgoeahbdaaGreatDoorUCut2
namespace Go.Proofs.YtmhdocgoeahbdaaGreatDoor.U
open Go.RowKit Go.RunKit Go.UtfKit Go.Lib

theorem wraps_u8 (n : Int) (h₀ : 0 ≤ n) (h₁ : n < 2 ^ 8) : IntKind.u8.wrap n = n := by
  rw [IntKind.wrap_u8]; omega
theorem low_u8 (x : Int) (h0 : 0 ≤ x) (h1 : x < 2147483648) : bits .or .u8 128 (bits .and .i32 x 63 % 256) = 128 + x % 64 := by
  have ha := bits_mask .i32 31 (by decide) wraps_i32 6 (by decide) x h0 (by omega)
  have e : ((2 : Int) ^ 6 - 1) = 63 := by decide
  have e2 : ((2 : Int) ^ 6) = 64 := by decide
  rw [e, e2] at ha
  rw [ha]
  obtain ⟨n, hn⟩ : ∃ n : Nat, x % 64 % 256 = n := ⟨(x % 64).toNat, by omega⟩
  have hlt : n < 64 := by omega
  rw [hn]
  have ho := (bits_nat .u8 8 (by decide) wraps_u8 128 n (by decide) (by omega)).2
  have e3 := Nat.two_pow_add_eq_or_of_lt (show n < 2 ^ 7 by omega) 1
  have e4 : (128 ||| n : Nat) = 128 + n := by
    have : (2 ^ 7 * 1 : Nat) = 128 := by decide
    rw [this] at e3
    exact e3.symm
  rw [e4] at ho
  have e5 : ((128 : Nat) : Int) = 128 := rfl
  rw [e5] at ho
  rw [ho]
  omega

set_option maxRecDepth 100000 in
set_option maxHeartbeats 2000000 in
theorem one_any (r : Int) (hr : -2147483648 ≤ r ∧ r ≤ 2147483647) (w : World) :
    Calls Tryz.prog 84 #[.int .i32 r] w fun e w' => e = .returned (.slice (some ⟨w.heap.size, 0, none⟩) (runeCells r).length (runeCells r).length) ∧ w' = w.alloc (.cells (runeCells r).toArray 5) := by
  have fin : ∀ (l : List Int), encodeRuneZ r = l → ∀ (cells : Array Value) (n : Nat), cells = (l.map fun x => Value.int .u8 x).toArray → n = l.length → ∀ (e : Ending) (w' : World), e = .returned (.slice (some ⟨w.heap.size, 0, none⟩) n n) → w' = w.alloc (.cells cells 5) →
      e = .returned (.slice (some ⟨w.heap.size, 0, none⟩) (runeCells r).length (runeCells r).length) ∧ w' = w.alloc (.cells (runeCells r).toArray 5) := by
    intro l hl cells n hc hn e w' he hw
    have h1 : runeCells r = l.map fun x => Value.int .u8 x := by unfold runeCells; rw [hl]
    rw [h1, he, hw, hc, hn]
    simp
  have FIN := Lib.hid fin
  clear fin
  by_cases c0 : r < 0
  · have E : Hid (encodeRuneZ r = [239, 191, 189]) := Lib.hid (by unfold encodeRuneZ; rw [if_neg (by omega), if_neg (by omega), if_neg (by omega), if_neg (by omega)])
    go_enter Tryz.func84, Tryz.ntmps84
    go_wp2
    go_ret
    exact FIN.out _ E.out _ 3 rfl rfl _ _ rfl rfl
  have d0 := eq_false c0
  by_cases c1 : 1114111 < r
  · have E : Hid (encodeRuneZ r = [239, 191, 189]) := Lib.hid (by unfold encodeRuneZ; rw [if_neg (by omega), if_neg (by omega), if_neg (by omega), if_neg (by omega)])
    go_enter Tryz.func84, Tryz.ntmps84
    go_wp2
    go_ret
    exact FIN.out _ E.out _ 3 rfl rfl _ _ rfl rfl
  have d1 := eq_false c1
  by_cases c2 : 55296 ≤ r ∧ r ≤ 57343
  · obtain ⟨s1, s2⟩ := c2
    have E : Hid (encodeRuneZ r = [239, 191, 189]) := Lib.hid (by unfold encodeRuneZ; rw [if_neg (by omega), if_neg (by omega), if_neg (by omega), if_neg (by omega)])
    go_enter Tryz.func84, Tryz.ntmps84
    go_wp2
    go_ret
    exact FIN.out _ E.out _ 3 rfl rfl _ _ rfl rfl
  by_cases c3 : r < 128
  · have E : Hid (encodeRuneZ r = [r]) := Lib.hid (encodeRuneZ_one (by omega) (by omega))
    have d2 := eq_false (show ¬ (55296 : Int) ≤ r by omega)
    have m : Hid (r % 256 = r) := Lib.hid (by omega)
    go_enter Tryz.func84, Tryz.ntmps84
    go_wp2
    go_ret
    refine FIN.out _ E.out _ 1 ?_ rfl _ _ rfl rfl
    first | rfl | (rw [m.out]; rfl)
  have d3 := eq_false c3
  by_cases c4 : r < 2048
  · have E : Hid (encodeRuneZ r = [192 + r / 64, 128 + r % 64]) := Lib.hid (encodeRuneZ_two (by omega) (by omega))
    have d2 := eq_false (show ¬ (55296 : Int) ≤ r by omega)
    have L1 := Lib.hid (low_u8 r (by omega) (by omega))
    go_enter Tryz.func84, Tryz.ntmps84
    go_wp2
    go_ret
    refine FIN.out _ E.out _ 2 ?_ rfl _ _ rfl rfl
    rw [L1.out]
    rfl
  have d4 := eq_false c4
  by_cases c5 : r < 65536
  · have E : Hid (encodeRuneZ r = [224 + r / 4096, 128 + r / 64 % 64, 128 + r % 64]) := Lib.hid (encodeRuneZ_three (by omega))
    have L1 := Lib.hid (low_u8 r (by omega) (by omega))
    have L2 := Lib.hid (low_u8 (r / 64) (by omega) (by omega))
    by_cases c6 : 55296 ≤ r
    · have d6 := eq_false (show ¬ r ≤ 57343 by omega)
      go_enter Tryz.func84, Tryz.ntmps84
      go_wp2
      go_ret
      refine FIN.out _ E.out _ 3 ?_ rfl _ _ rfl rfl
      rw [L1.out, L2.out]
      rfl
    · have d6 := eq_false c6
      go_enter Tryz.func84, Tryz.ntmps84
      go_wp2
      go_ret
      refine FIN.out _ E.out _ 3 ?_ rfl _ _ rfl rfl
      rw [L1.out, L2.out]
      rfl
  · have E : Hid (encodeRuneZ r = [240 + r / 262144, 128 + r / 4096 % 64, 128 + r / 64 % 64, 128 + r % 64]) := Lib.hid (encodeRuneZ_four (by omega) (by omega))
    have d5 := eq_false c5
    have d6 : (55296 : Int) ≤ r := by omega
    have d7 := eq_false (show ¬ r ≤ 57343 by omega)
    have L1 := Lib.hid (low_u8 r (by omega) (by omega))
    have L2 := Lib.hid (low_u8 (r / 64) (by omega) (by omega))
    have L3 := Lib.hid (low_u8 (r / 4096) (by omega) (by omega))
    go_enter Tryz.func84, Tryz.ntmps84
    go_wp2
    go_ret
    refine FIN.out _ E.out _ 4 ?_ rfl _ _ rfl rfl
    rw [L1.out, L2.out, L3.out]
    rfl
end Go.Proofs.YtmhdocgoeahbdaaGreatDoor.U

