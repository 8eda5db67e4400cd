/-
  The document's own functions of one byte; the beginning of a text. No conditions.
-/
import Derived.Test.YtfjphhmbnhglcaaGreatDoorCByte
namespace Go.Proofs.YtfjphhmbnhglcaaGreatDoor
open Go.RowKit Go.RunKit Go.CharrefKit Go.Lib

set_option maxRecDepth 100000 in
set_option maxHeartbeats 1000000 in
theorem refDigit_any (b : Nat) (hb : b < 256) (w : World) :
    Calls Tryz.prog 179 #[.int .u8 (b : Nat)] w fun e w' => e = .returned (.int .i32 (refDigV b)) ∧ w = w' := by
  by_cases h1 : (48 : Int) ≤ b <;> by_cases h2 : (b : Int) ≤ 57 <;> by_cases h3 : (97 : Int) ≤ b <;> by_cases h4 : (b : Int) ≤ 102 <;> by_cases h5 : (65 : Int) ≤ b <;> by_cases h6 : (b : Int) ≤ 70
  all_goals (try (exfalso; omega))
  all_goals
    go_enter Tryz.func179, Tryz.ntmps179
    go_wp2
    go_ret
    refine ⟨ret1_eq (congrArg (Value.int IntKind.i32) ?_), rfl⟩
    have hd := digitV_cases b
    try unfold refDigV
    (try split) <;> omega

set_option maxRecDepth 100000 in
set_option maxHeartbeats 1000000 in
theorem alnum_any (b : Nat) (hb : b < 256) (w : World) :
    Calls Tryz.prog 154 #[.int .u8 (b : Nat)] w fun e w' => e = .returned (.bool (isLet b || isNum b)) ∧ w = w' := by
  by_cases h1 : (97 : Int) ≤ b <;> by_cases h2 : (b : Int) ≤ 122 <;> by_cases h3 : (65 : Int) ≤ b <;> by_cases h4 : (b : Int) ≤ 90 <;> by_cases h5 : (48 : Int) ≤ b <;> by_cases h6 : (b : Int) ≤ 57
  all_goals (try (exfalso; omega))
  all_goals
    go_enter Tryz.func154, Tryz.ntmps154
    go_wp2
    go_ret
    refine ⟨ret1_eq (congrArg Value.bool ?_), rfl⟩
    unfold isLet isNum
    simp
    try omega

set_option maxRecDepth 100000 in
set_option maxHeartbeats 1000000 in
theorem begins_any (s p : ByteArray) (w : World) :
    Calls Tryz.prog 151 #[.string s, .string p] w fun e w' => e = .returned (.bool (hasPre s p)) ∧ w = w' := by
  by_cases h : (p.size : Int) ≤ s.size
  · go_enter Tryz.func151, Tryz.ntmps151
    go_wp2
    go_ret
    exact ⟨ret1_eq (congrArg Value.bool (hasPre_yes s p)), rfl⟩
  · have hF := eq_false h
    go_enter Tryz.func151, Tryz.ntmps151
    go_wp2
    go_ret
    exact ⟨ret1_eq (congrArg Value.bool (hasPre_no (by omega)).symm), rfl⟩

end Go.Proofs.YtfjphhmbnhglcaaGreatDoor
