/-
  The reader of package csstok: took, take, escapeStands, nameBegins. Conditions: signs are of ASCII.
-/
import Derived.Test.YtmhdocgoeahbdaaGreatDoorQChar
import Derived.Deep.RegionHeld3
import Derived.Sort.AtCall
namespace Go.CssKit
open Go Go.Lib
/-- Do these bytes stand here, from the i-th character on? -/
def startsC (l : Chars) : List UInt8 → Nat → Bool
  | [], _ => true
  | c :: r, i => if at_ l i = ((c.toNat : Nat) : Int) then startsC l r (i + 1) else false
end Go.CssKit
namespace Go.Proofs.YtmhdocgoeahbdaaGreatDoor
open Go.RowKit Go.RunKit Go.Lib Go.CssKit

set_option maxRecDepth 100000 in
set_option maxHeartbeats 1000000 in
theorem escStands_any (b g n : Nat) (l : Chars) (w : World) (h : RC w b g l) (hn : n ≤ 1099511627776) :
    Calls Tryz.prog 73 #[.pointer (some ⟨b, 0, none⟩), .int .i64 ((n : Nat) : Int)] w fun e w' => e = .returned (.bool (escAt l n)) ∧ w = w' := by
  have H0 := Lib.hid (at_any b g n l w h (by omega))
  have H1 := at_any b g (n + 1) l w h (by omega)
  rw [show ((n + 1 : Nat) : Int) = (n : Int) + 1 by omega] at H1
  have HH1 := Lib.hid H1
  unfold escAt
  generalize at_ l n = x at *
  generalize at_ l (n + 1) = y at *
  clear h H1
  by_cases h1 : x = 92 <;> by_cases h2 : y = 10
  all_goals
    have b1 : (x == 92) = decide (x = 92) := by rw [Bool.eq_iff_iff]; simp
    have b2 : (y == 10) = decide (y = 10) := by rw [Bool.eq_iff_iff]; simp
    have b3 : (y != 10) = !decide (y = 10) := by rw [Bool.eq_iff_iff]; simp
    rw [b1, b2]
    go_enter Tryz.func73, Tryz.ntmps73
    go_big_wp2_with (first
      | (go_at_call_of 70 (Value.int .i64 ((n : Nat) : Int)); refine H0.out.mono ?_; rintro e w1 ⟨rfl, rfl⟩)
      | (go_at_call 70; refine HH1.out.mono ?_; rintro e w1 ⟨rfl, rfl⟩))
    go_ret
    refine ⟨ret1_eq (congrArg Value.bool ?_), rfl⟩
    simp [h1, h2]
theorem at0_any (b g : Nat) (l : Chars) (w : World) (h : RC w b g l) : Calls Tryz.prog 70 #[.pointer (some ⟨b, 0, none⟩), .int .i64 0] w fun e w' => e = .returned (.int .i32 (at_ l 0)) ∧ w = w' := at_any b g 0 l w h (by omega)
theorem at1_any (b g : Nat) (l : Chars) (w : World) (h : RC w b g l) : Calls Tryz.prog 70 #[.pointer (some ⟨b, 0, none⟩), .int .i64 1] w fun e w' => e = .returned (.int .i32 (at_ l 1)) ∧ w = w' := at_any b g 1 l w h (by omega)
theorem atS_any (b g n : Nat) (l : Chars) (w : World) (h : RC w b g l) (hn : n ≤ 1099511627776) : Calls Tryz.prog 70 #[.pointer (some ⟨b, 0, none⟩), .int .i64 ((n : Int) + 1)] w fun e w' => e = .returned (.int .i32 (at_ l (n + 1))) ∧ w = w' := by
  have := at_any b g (n + 1) l w h (by omega)
  rw [show ((n + 1 : Nat) : Int) = (n : Int) + 1 by omega] at this
  exact this
theorem pass1_any (b g : Nat) (l : Chars) (w : World) (h : RC w b g l) : Calls Tryz.prog 44 #[.pointer (some ⟨b, 0, none⟩), .int .i64 1] w fun e w' => e = .returned (.tuple #[]) ∧ MC w b g (l.drop 1) w' := pass_any b g 1 l w h (by omega)
theorem pass2_any (b g : Nat) (l : Chars) (w : World) (h : RC w b g l) : Calls Tryz.prog 44 #[.pointer (some ⟨b, 0, none⟩), .int .i64 2] w fun e w' => e = .returned (.tuple #[]) ∧ MC w b g (l.drop 2) w' := pass_any b g 2 l w h (by omega)
theorem esc0_any (b g : Nat) (l : Chars) (w : World) (h : RC w b g l) : Calls Tryz.prog 73 #[.pointer (some ⟨b, 0, none⟩), .int .i64 0] w fun e w' => e = .returned (.bool (escAt l 0)) ∧ w = w' := escStands_any b g 0 l w h (by omega)
theorem esc1_any (b g : Nat) (l : Chars) (w : World) (h : RC w b g l) : Calls Tryz.prog 73 #[.pointer (some ⟨b, 0, none⟩), .int .i64 1] w fun e w' => e = .returned (.bool (escAt l 1)) ∧ w = w' := escStands_any b g 1 l w h (by omega)

set_option maxRecDepth 100000 in
set_option maxHeartbeats 1000000 in
theorem nameBegins_any (b g n : Nat) (l : Chars) (w : World) (h : RC w b g l) (hn : n ≤ 1000) :
    Calls Tryz.prog 74 #[.pointer (some ⟨b, 0, none⟩), .int .i64 ((n : Nat) : Int)] w fun e w' => e = .returned (.bool (nameAt l n)) ∧ w = w' := by
  have H0 := Lib.hid (at_any b g n l w h (by omega))
  have HH1 := Lib.hid (atS_any b g n l w h (by omega))
  have HE0 := Lib.hid (escStands_any b g n l w h (by omega))
  have H1 := escStands_any b g (n + 1) l w h (by omega)
  rw [show ((n + 1 : Nat) : Int) = (n : Int) + 1 by omega] at H1
  have HE1 := Lib.hid H1
  have HB0 := Lib.hid (beginsName_any (at_ l n))
  have HB1 := Lib.hid (beginsName_any (at_ l (n + 1)))
  unfold nameAt
  generalize at_ l n = x at *
  generalize at_ l (n + 1) = y at *
  generalize escAt l n = u at *
  generalize escAt l (n + 1) = v at *
  generalize begC x = p at *
  generalize begC y = q at *
  clear h H1
  by_cases h1 : x = 45
  · have b1 : (x == 45) = true := by rw [h1]; rfl
    have b2 : (x != 45) = false := by rw [h1]; rfl
    by_cases h2 : y = 45
    · subst h1; subst h2
      clear HB0 HB1 HE0 HE1
      go_enter Tryz.func74, Tryz.ntmps74
      go_big_wp2_with (first
        | (go_at_call_of 70 (Value.int .i64 ((n : Nat) : Int)); refine H0.out.mono ?_; rintro e w1 ⟨rfl, rfl⟩)
        | (go_at_call 70; refine HH1.out.mono ?_; rintro e w1 ⟨rfl, rfl⟩))
      go_ret
      exact ⟨rfl, rfl⟩
    · have b3 : (y == 45) = false := by rw [beq_eq_false_iff_ne]; exact h2
      rw [if_pos h1, b3]
      clear HB0
      cases q <;> cases v
      all_goals
        go_enter Tryz.func74, Tryz.ntmps74
        go_big_wp2_with (first
          | (go_at_call_of 70 (Value.int .i64 ((n : Nat) : Int)); refine H0.out.mono ?_; rintro e w1 ⟨rfl, rfl⟩)
          | (go_at_call 70; refine HH1.out.mono ?_; rintro e w1 ⟨rfl, rfl⟩)
          | (go_at_call 96; refine (HB1.out _).mono ?_; rintro e w1 ⟨rfl, rfl⟩)
          | (go_at_call 73; refine HE1.out.mono ?_; rintro e w1 ⟨rfl, rfl⟩))
        go_ret
        exact ⟨rfl, rfl⟩
  · have b1 : (x == 45) = false := by rw [beq_eq_false_iff_ne]; exact h1
    have b2 : (x != 45) = true := by rw [bne_iff_ne]; exact h1
    rw [if_neg h1]
    clear HB1 HE1 HH1
    cases p <;> cases u
    all_goals
      go_enter Tryz.func74, Tryz.ntmps74
      go_big_wp2_with (first
        | (go_at_call 70; refine H0.out.mono ?_; rintro e w1 ⟨rfl, rfl⟩)
        | (go_at_call 96; refine (HB0.out _).mono ?_; rintro e w1 ⟨rfl, rfl⟩)
        | (go_at_call 73; refine HE0.out.mono ?_; rintro e w1 ⟨rfl, rfl⟩))
      go_ret
      exact ⟨rfl, rfl⟩
theorem nameB0_any (b g : Nat) (l : Chars) (w : World) (h : RC w b g l) : Calls Tryz.prog 74 #[.pointer (some ⟨b, 0, none⟩), .int .i64 0] w fun e w' => e = .returned (.bool (nameAt l 0)) ∧ w = w' := nameBegins_any b g 0 l w h (by omega)
theorem nameB1_any (b g : Nat) (l : Chars) (w : World) (h : RC w b g l) : Calls Tryz.prog 74 #[.pointer (some ⟨b, 0, none⟩), .int .i64 1] w fun e w' => e = .returned (.bool (nameAt l 1)) ∧ w = w' := nameBegins_any b g 1 l w h (by omega)

set_option maxRecDepth 100000 in
set_option maxHeartbeats 1000000 in
theorem behindSign_any (b g n : Nat) (l : Chars) (w : World) (h : RC w b g l) (hn : n ≤ 2199023255552) :
    Calls Tryz.prog 97 #[.pointer (some ⟨b, 0, none⟩), .int .i64 ((n : Nat) : Int)] w fun e w' => e = .returned (.int .i64 ((signN l n : Nat) : Int)) ∧ w = w' := by
  have H0 := Lib.hid (at_any b g n l w h (by omega))
  unfold signN
  generalize at_ l n = x at *
  clear h
  by_cases h1 : x = 43 <;> by_cases h2 : x = 45
  all_goals (try (exfalso; omega))
  all_goals
    first | rw [if_pos (Or.inl h1)] | rw [if_pos (Or.inr h2)] | rw [if_neg (fun e => e.elim h1 h2)]
    have b1 : (x == 43) = decide (x = 43) := by rw [Bool.eq_iff_iff]; simp
    have b2 : (x == 45) = decide (x = 45) := by rw [Bool.eq_iff_iff]; simp
    go_enter Tryz.func97, Tryz.ntmps97
    go_big_wp2_with (go_at_call 70; refine H0.out.mono ?_; rintro e w1 ⟨rfl, rfl⟩)
    go_ret
    exact ⟨rfl, rfl⟩
end Go.Proofs.YtmhdocgoeahbdaaGreatDoor
