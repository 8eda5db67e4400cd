/-
  The document's cut of a text's first part. No conditions.
-/
import Derived.Test.YtmhdocgoeahbdaaGreatDoorUMath2
import Derived.Test.YtmhdocgoeahbdaaGreatDoorRows
import Derived.Test.YtmhdocgoeahbdaaGreatDoorKit
import Derived.Test.YtmhdocgoeahbdaaGreatDoorPure
import Derived.Test.YtmhdocgoeahbdaaGreatDoorUFull
namespace Go.Proofs.YtmhdocgoeahbdaaGreatDoor.U
open Go.RowKit Go.RunKit Go.UtfKit Go.Lib

/-- How many bytes a part has that begins so; 0: none does. -/
def sizeR (b : Nat) : Nat := if b < 128 then 1 else if b < 194 then 0 else if b < 224 then 2 else if b < 240 then 3 else if b < 245 then 4 else 0

set_option maxRecDepth 100000 in
set_option maxHeartbeats 1000000 in
theorem size_any (b : Nat) (hb : b < 256) (w : World) : Calls Tryz.prog 91 #[.int .u8 (b : Nat)] w fun e w' => e = .returned (.int .i64 (sizeR b : Nat)) ∧ w = w' := by
  by_cases c1 : b < 128
  · have E : Hid (sizeR b = 1) := Lib.hid (by simp [sizeR, c1])
    have d1 : (b : Int) < 128 := by omega
    go_enter Tryz.func91, Tryz.ntmps91
    go_wp2
    go_ret
    rw [E.out]; exact ⟨rfl, rfl⟩
  have d1 := eq_false (show ¬ (b : Int) < 128 by omega)
  by_cases c2 : b < 194
  · have E : Hid (sizeR b = 0) := Lib.hid (by simp [sizeR, c1, c2])
    have d2 := eq_false (show ¬ (194 : Int) ≤ b by omega)
    have d3 := eq_false (show ¬ (224 : Int) ≤ b by omega)
    have d4 := eq_false (show ¬ (240 : Int) ≤ b by omega)
    go_enter Tryz.func91, Tryz.ntmps91
    go_wp2
    go_ret
    rw [E.out]; exact ⟨rfl, rfl⟩
  have d2 : (194 : Int) ≤ b := by omega
  by_cases c3 : b < 224
  · have E : Hid (sizeR b = 2) := Lib.hid (by simp [sizeR, c1, c2, c3])
    have d3 : (b : Int) ≤ 223 := by omega
    go_enter Tryz.func91, Tryz.ntmps91
    go_wp2
    go_ret
    rw [E.out]; exact ⟨rfl, rfl⟩
  have d3 : (224 : Int) ≤ b := by omega
  have d3' := eq_false (show ¬ (b : Int) ≤ 223 by omega)
  by_cases c4 : b < 240
  · have E : Hid (sizeR b = 3) := Lib.hid (by simp [sizeR, c1, c2, c3, c4])
    have d4 : (b : Int) ≤ 239 := by omega
    go_enter Tryz.func91, Tryz.ntmps91
    go_wp2
    go_ret
    rw [E.out]; exact ⟨rfl, rfl⟩
  have d4 : (240 : Int) ≤ b := by omega
  have d4' := eq_false (show ¬ (b : Int) ≤ 239 by omega)
  by_cases c5 : b < 245
  · have E : Hid (sizeR b = 4) := Lib.hid (by simp [sizeR, c1, c2, c3, c4, c5])
    have d5 : (b : Int) ≤ 244 := by omega
    go_enter Tryz.func91, Tryz.ntmps91
    go_wp2
    go_ret
    rw [E.out]; exact ⟨rfl, rfl⟩
  · have E : Hid (sizeR b = 0) := Lib.hid (by simp [sizeR, c1, c2, c3, c4, c5])
    have d5 := eq_false (show ¬ (b : Int) ≤ 244 by omega)
    go_enter Tryz.func91, Tryz.ntmps91
    go_wp2
    go_ret
    rw [E.out]; exact ⟨rfl, rfl⟩

set_option maxRecDepth 100000 in
set_option maxHeartbeats 2000000 in
theorem second_any (a b : Nat) (w : World) : Calls Tryz.prog 92 #[.int .u8 (a : Nat), .int .u8 (b : Nat)] w fun e w' => e = .returned (.bool (sec a b)) ∧ w = w' := by
  have key : ∀ (lo hi : Nat), sec a b = decide (lo ≤ b ∧ b ≤ hi) → ((lo : Int) ≤ b ∧ (b : Int) ≤ hi ∧ sec a b = true) ∨ (¬ (lo : Int) ≤ b ∧ sec a b = false) ∨ ((lo : Int) ≤ b ∧ ¬ (b : Int) ≤ hi ∧ sec a b = false) := by
    intro lo hi h
    rw [h]
    by_cases h1 : lo ≤ b
    · by_cases h2 : b ≤ hi
      · exact .inl ⟨by omega, by omega, by simp [h1, h2]⟩
      · exact .inr (.inr ⟨by omega, by omega, by simp [h2]⟩)
    · exact .inr (.inl ⟨by omega, by simp [h1]⟩)
  by_cases c0 : a = 224
  · subst c0
    rcases key 160 191 rfl with ⟨h1, h2, h3⟩ | ⟨h1, h3⟩ | ⟨h1, h2, h3⟩
    all_goals
      rw [h3]
      clear h3 key
      first | (have h1' := eq_false h1) | skip
      first | (have h2' := eq_false h2) | skip
      go_enter Tryz.func92, Tryz.ntmps92
      go_wp2
      go_ret
      refine ⟨ret1_eq ?_, rfl⟩
      first | rfl | (simp; omega)
  have e0 := eq_false (show ¬ (a : Int) = 224 by omega)
  by_cases c1 : a = 237
  · subst c1
    rcases key 128 159 rfl with ⟨h1, h2, h3⟩ | ⟨h1, h3⟩ | ⟨h1, h2, h3⟩
    all_goals
      rw [h3]
      clear h3 key
      first | (have h1' := eq_false h1) | skip
      first | (have h2' := eq_false h2) | skip
      go_enter Tryz.func92, Tryz.ntmps92
      go_wp2
      go_ret
      refine ⟨ret1_eq ?_, rfl⟩
      first | rfl | (simp; omega)
  have e1 := eq_false (show ¬ (a : Int) = 237 by omega)
  by_cases c2 : a = 240
  · subst c2
    rcases key 144 191 rfl with ⟨h1, h2, h3⟩ | ⟨h1, h3⟩ | ⟨h1, h2, h3⟩
    all_goals
      rw [h3]
      clear h3 key
      first | (have h1' := eq_false h1) | skip
      first | (have h2' := eq_false h2) | skip
      go_enter Tryz.func92, Tryz.ntmps92
      go_wp2
      go_ret
      refine ⟨ret1_eq ?_, rfl⟩
      first | rfl | (simp; omega)
  have e2 := eq_false (show ¬ (a : Int) = 240 by omega)
  by_cases c3 : a = 244
  · subst c3
    rcases key 128 143 rfl with ⟨h1, h2, h3⟩ | ⟨h1, h3⟩ | ⟨h1, h2, h3⟩
    all_goals
      rw [h3]
      clear h3 key
      first | (have h1' := eq_false h1) | skip
      first | (have h2' := eq_false h2) | skip
      go_enter Tryz.func92, Tryz.ntmps92
      go_wp2
      go_ret
      refine ⟨ret1_eq ?_, rfl⟩
      first | rfl | (simp; omega)
  have e3 := eq_false (show ¬ (a : Int) = 244 by omega)
  rcases key 128 191 (by unfold sec; rw [if_neg c0, if_neg c1, if_neg c2, if_neg c3]) with ⟨h1, h2, h3⟩ | ⟨h1, h3⟩ | ⟨h1, h2, h3⟩
  all_goals
    rw [h3]
    clear h3 key
    first | (have h1' := eq_false h1) | skip
    first | (have h2' := eq_false h2) | skip
    go_enter Tryz.func92, Tryz.ntmps92
    go_wp2
    go_ret
    refine ⟨ret1_eq ?_, rfl⟩
    first | rfl | (simp; omega)
end Go.Proofs.YtmhdocgoeahbdaaGreatDoor.U

