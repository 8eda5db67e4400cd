/-
  What a character is: package csstok, and the document's. No conditions.
-/
import Derived.Test.YtmhdocgoeahbdaaGreatDoorQRd
namespace Go.Proofs.YtmhdocgoeahbdaaGreatDoor
open Go.RowKit Go.RunKit Go.Lib Go.CssKit

set_option maxRecDepth 100000 in
set_option maxHeartbeats 1000000 in
theorem isDigit7_any (c : Int) (w : World) :
    Calls Tryz.prog 88 #[.int .i32 c] w fun e w' => e = .returned (.bool (isDg c)) ∧ w = w' := by
  by_cases h1 : (48 : Int) ≤ c <;> by_cases h2 : c ≤ 57
  all_goals (try (exfalso; omega))
  all_goals
    go_enter Tryz.func88, Tryz.ntmps88
    go_big_wp2
    go_ret
    refine ⟨ret1_eq (congrArg Value.bool ?_), rfl⟩
    unfold isDg
    rw [Bool.eq_iff_iff]
    try simp
    try omega
set_option maxRecDepth 100000 in
set_option maxHeartbeats 1000000 in
theorem isWhite7_any (c : Int) (w : World) :
    Calls Tryz.prog 69 #[.int .i32 c] w fun e w' => e = .returned (.bool (isW c)) ∧ w = w' := by
  by_cases h1 : c = 9 <;> by_cases h2 : c = 10
  all_goals (try (exfalso; omega))
  all_goals
    go_enter Tryz.func69, Tryz.ntmps69
    go_big_wp2
    go_ret
    refine ⟨ret1_eq (congrArg Value.bool ?_), rfl⟩
    unfold isW
    rw [Bool.eq_iff_iff]
    try simp
    try omega
set_option maxRecDepth 100000 in
set_option maxHeartbeats 1000000 in
theorem beginsName_any (c : Int) (w : World) :
    Calls Tryz.prog 96 #[.int .i32 c] w fun e w' => e = .returned (.bool (begC c)) ∧ w = w' := by
  by_cases h1 : (97 : Int) ≤ c <;> by_cases h2 : c ≤ 122 <;> by_cases h3 : (65 : Int) ≤ c <;> by_cases h4 : c ≤ 90 <;> by_cases h5 : c = 95
  all_goals (try (exfalso; omega))
  all_goals
    go_enter Tryz.func96, Tryz.ntmps96
    go_big_wp2
    go_ret
    refine ⟨ret1_eq (congrArg Value.bool ?_), rfl⟩
    unfold begC
    rw [Bool.eq_iff_iff]
    try simp
    try omega
set_option maxRecDepth 100000 in
set_option maxHeartbeats 1000000 in
theorem refDigit_any (c : Int) (w : World) :
    Calls Tryz.prog 82 #[.int .i32 c] w fun e w' => e = .returned (.bool (isDg c)) ∧ w = w' := by
  by_cases h1 : (48 : Int) ≤ c <;> by_cases h2 : c ≤ 57
  all_goals (try (exfalso; omega))
  all_goals
    go_enter Tryz.func82, Tryz.ntmps82
    go_big_wp2
    go_ret
    refine ⟨ret1_eq (congrArg Value.bool ?_), rfl⟩
    unfold isDg
    rw [Bool.eq_iff_iff]
    try simp
    try omega
set_option maxRecDepth 100000 in
set_option maxHeartbeats 1000000 in
theorem refWhite_any (c : Int) (w : World) :
    Calls Tryz.prog 46 #[.int .i32 c] w fun e w' => e = .returned (.bool (isW c)) ∧ w = w' := by
  by_cases h1 : c = 9 <;> by_cases h2 : c = 10
  all_goals (try (exfalso; omega))
  all_goals
    go_enter Tryz.func46, Tryz.ntmps46
    go_big_wp2
    go_ret
    refine ⟨ret1_eq (congrArg Value.bool ?_), rfl⟩
    unfold isW
    rw [Bool.eq_iff_iff]
    try simp
    try omega
set_option maxRecDepth 100000 in
set_option maxHeartbeats 1000000 in
theorem refBegins_any (c : Int) (w : World) :
    Calls Tryz.prog 81 #[.int .i32 c] w fun e w' => e = .returned (.bool (begC c)) ∧ w = w' := by
  by_cases h1 : (97 : Int) ≤ c <;> by_cases h2 : c ≤ 122 <;> by_cases h3 : (65 : Int) ≤ c <;> by_cases h4 : c ≤ 90 <;> by_cases h5 : c = 95
  all_goals (try (exfalso; omega))
  all_goals
    go_enter Tryz.func81, Tryz.ntmps81
    go_big_wp2
    go_ret
    refine ⟨ret1_eq (congrArg Value.bool ?_), rfl⟩
    unfold begC
    rw [Bool.eq_iff_iff]
    try simp
    try omega
set_option maxRecDepth 100000 in
set_option maxHeartbeats 1000000 in
theorem isOfName_any (c : Int) (w : World) :
    Calls Tryz.prog 72 #[.int .i32 c] w fun e w' => e = .returned (.bool (nameC c)) ∧ w = w' := by
  have HB := Lib.hid (beginsName_any c)
  have HD := Lib.hid (isDigit7_any c)
  unfold nameC
  generalize begC c = x at *
  generalize isDg c = y at *
  cases x <;> cases y
  all_goals
    go_enter Tryz.func72, Tryz.ntmps72
    go_big_wp2_with (first
      | (go_at_call 96; refine (HB.out _).mono ?_; rintro e w1 ⟨rfl, rfl⟩)
      | (go_at_call 88; refine (HD.out _).mono ?_; rintro e w1 ⟨rfl, rfl⟩))
    go_ret
    refine ⟨ret1_eq (congrArg Value.bool ?_), rfl⟩
    simp
set_option maxRecDepth 100000 in
set_option maxHeartbeats 1000000 in
theorem refNames_any (c : Int) (w : World) :
    Calls Tryz.prog 48 #[.int .i32 c] w fun e w' => e = .returned (.bool (nameC c)) ∧ w = w' := by
  have HB := Lib.hid (refBegins_any c)
  have HD := Lib.hid (refDigit_any c)
  unfold nameC
  generalize begC c = x at *
  generalize isDg c = y at *
  cases x <;> cases y
  all_goals
    go_enter Tryz.func48, Tryz.ntmps48
    go_big_wp2_with (first
      | (go_at_call 81; refine (HB.out _).mono ?_; rintro e w1 ⟨rfl, rfl⟩)
      | (go_at_call 82; refine (HD.out _).mono ?_; rintro e w1 ⟨rfl, rfl⟩))
    go_ret
    refine ⟨ret1_eq (congrArg Value.bool ?_), rfl⟩
    simp
theorem hex_cases (c : Int) : (hexC c = c - 48 ∧ 48 ≤ c ∧ c ≤ 57) ∨ (hexC c = c - 87 ∧ 97 ≤ c ∧ c ≤ 102) ∨ (hexC c = c - 55 ∧ 65 ≤ c ∧ c ≤ 70) ∨ (hexC c = -1 ∧ ¬ (48 ≤ c ∧ c ≤ 57) ∧ ¬ (97 ≤ c ∧ c ≤ 102) ∧ ¬ (65 ≤ c ∧ c ≤ 70)) := by
  unfold hexC
  repeat' split
  all_goals omega
def hexW (c : Int) : Int := if 0 ≤ hexC c then hexC c else 0
set_option maxRecDepth 100000 in
set_option maxHeartbeats 2000000 in
theorem hexDigit_any (c : Int) (w : World) :
    Calls Tryz.prog 105 #[.int .i32 c] w fun e w' => e = .returned (.tuple #[.int .i32 (hexW c), .bool (decide (0 ≤ hexC c))]) ∧ w = w' := by
  have HD := Lib.hid (isDigit7_any c)
  have HH := Lib.hid (hex_cases c)
  cases hd : isDg c with
  | true =>
    have h2 : 48 ≤ c ∧ c ≤ 57 := by simpa [isDg] using hd
    rw [hd] at HD
    have e2 : IntKind.i32.wrap (c - 48) = c - 48 := by rw [IntKind.wrap_i32]; omega
    have h3 : hexC c = c - 48 := by rcases HH.out with h | h | h | h <;> omega
    have h4 : hexW c = c - 48 := by unfold hexW; rw [h3, if_pos (by omega)]
    have h5 : decide (0 ≤ hexC c) = true := by rw [h3]; simp; omega
    rw [h4, h5]
    clear hd h3 h4 h5
    go_enter Tryz.func105, Tryz.ntmps105
    go_big_wp2_with (go_at_call 88; refine (HD.out _).mono ?_; rintro e w1 ⟨rfl, rfl⟩)
    go_ret2
    exact ⟨rfl, rfl⟩
  | false =>
    have h2 : ¬ (48 ≤ c ∧ c ≤ 57) := by intro h; rw [show isDg c = true by simp [isDg, h]] at hd; cases hd
    rw [hd] at HD
    clear hd
    by_cases a : 97 ≤ c ∧ c ≤ 102
    · have h3 : hexC c = c - 87 := by rcases HH.out with h | h | h | h <;> omega
      have h4 : hexW c = c - 97 + 10 := by unfold hexW; rw [h3, if_pos (by omega)]; omega
      have h5 : decide (0 ≤ hexC c) = true := by rw [h3]; simp; omega
      rw [h4, h5]
      obtain ⟨a1, a2⟩ := a
      clear h3 h4 h5
      go_enter Tryz.func105, Tryz.ntmps105
      go_big_wp2_with (go_at_call 88; refine (HD.out _).mono ?_; rintro e w1 ⟨rfl, rfl⟩)
      go_ret2
      exact ⟨rfl, rfl⟩
    by_cases b : 65 ≤ c ∧ c ≤ 70
    · have h3 : hexC c = c - 55 := by rcases HH.out with h | h | h | h <;> omega
      have h4 : hexW c = c - 65 + 10 := by unfold hexW; rw [h3, if_pos (by omega)]; omega
      have h5 : decide (0 ≤ hexC c) = true := by rw [h3]; simp; omega
      rw [h4, h5]
      obtain ⟨a1, a2⟩ := b
      have a3 : c < 97 := by omega
      clear h3 h4 h5
      go_enter Tryz.func105, Tryz.ntmps105
      go_big_wp2_with (go_at_call 88; refine (HD.out _).mono ?_; rintro e w1 ⟨rfl, rfl⟩)
      go_ret2
      exact ⟨rfl, rfl⟩
    · have h3 : hexC c = -1 := by rcases HH.out with h | h | h | h <;> omega
      have h4 : hexW c = 0 := by unfold hexW; rw [h3, if_neg (by omega)]
      have h5 : decide (0 ≤ hexC c) = false := by rw [h3]; decide
      rw [h4, h5]
      clear h3 h4 h5
      by_cases c1 : 97 ≤ c <;> by_cases c2 : c ≤ 102 <;> by_cases c3 : 65 ≤ c <;> by_cases c4 : c ≤ 70
      all_goals (try (exfalso; omega))
      all_goals
        go_enter Tryz.func105, Tryz.ntmps105
        go_big_wp2_with (go_at_call 88; refine (HD.out _).mono ?_; rintro e w1 ⟨rfl, rfl⟩)
        go_ret2
        exact ⟨rfl, rfl⟩
set_option maxRecDepth 100000 in
set_option maxHeartbeats 2000000 in
theorem base16_any (c : Int) (w : World) :
    Calls Tryz.prog 100 #[.int .i32 c] w fun e w' => e = .returned (.int .i32 (hexC c)) ∧ w = w' := by
  have HD := Lib.hid (refDigit_any c)
  have HH := Lib.hid (hex_cases c)
  cases hd : isDg c with
  | true =>
    have h2 : 48 ≤ c ∧ c ≤ 57 := by simpa [isDg] using hd
    rw [hd] at HD
    have h3 : hexC c = c - 48 := by rcases HH.out with h | h | h | h <;> omega
    rw [h3]
    clear hd h3
    go_enter Tryz.func100, Tryz.ntmps100
    go_big_wp2_with (go_at_call 82; refine (HD.out _).mono ?_; rintro e w1 ⟨rfl, rfl⟩)
    go_ret
    exact ⟨rfl, rfl⟩
  | false =>
    have h2 : ¬ (48 ≤ c ∧ c ≤ 57) := by intro h; rw [show isDg c = true by simp [isDg, h]] at hd; cases hd
    rw [hd] at HD
    clear hd
    by_cases a : 97 ≤ c ∧ c ≤ 102
    · have h3 : hexC c = c - 97 + 10 := by rcases HH.out with h | h | h | h <;> omega
      rw [h3]
      obtain ⟨a1, a2⟩ := a
      clear h3
      go_enter Tryz.func100, Tryz.ntmps100
      go_big_wp2_with (go_at_call 82; refine (HD.out _).mono ?_; rintro e w1 ⟨rfl, rfl⟩)
      go_ret
      exact ⟨rfl, rfl⟩
    by_cases b : 65 ≤ c ∧ c ≤ 70
    · have h3 : hexC c = c - 65 + 10 := by rcases HH.out with h | h | h | h <;> omega
      rw [h3]
      obtain ⟨a1, a2⟩ := b
      have a3 : c < 97 := by omega
      clear h3
      go_enter Tryz.func100, Tryz.ntmps100
      go_big_wp2_with (go_at_call 82; refine (HD.out _).mono ?_; rintro e w1 ⟨rfl, rfl⟩)
      go_ret
      exact ⟨rfl, rfl⟩
    · have h3 : hexC c = -1 := by rcases HH.out with h | h | h | h <;> omega
      rw [h3]
      clear h3
      by_cases c1 : 97 ≤ c <;> by_cases c2 : c ≤ 102 <;> by_cases c3 : 65 ≤ c <;> by_cases c4 : c ≤ 70
      all_goals (try (exfalso; omega))
      all_goals
        go_enter Tryz.func100, Tryz.ntmps100
        go_big_wp2_with (go_at_call 82; refine (HD.out _).mono ?_; rintro e w1 ⟨rfl, rfl⟩)
        go_ret
        exact ⟨rfl, rfl⟩
end Go.Proofs.YtmhdocgoeahbdaaGreatDoor
