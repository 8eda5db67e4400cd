/-
  The stage's theorem and the law on ASCII, walked: each hands back true. No conditions.
-/
import Derived.Test.YtjnjkmbgdhmbcaaLaw2
import Derived.Sort.AtCall
namespace Go.Proofs.Ytjnjkmbgdhmbcaa
open Go.RowKit Go.RunKit

/-- The characters of the couples. -/
def coupled : List Int := refTwos.flatMap (fun p => [p.1, p.2])
theorem hit_coupled {r : Int} (h : coupled.contains r = false) : refTwos.find? (hit r) = none ∧ refPairs.find? (hit r) = none := by
  have hn : ∀ p ∈ refTwos, hit r p = false := by
    intro p hp
    cases hh : hit r p with
    | false => rfl
    | true =>
      have hm : r ∈ coupled := by
        refine List.mem_flatMap.2 ⟨p, hp, ?_⟩
        simp only [hit, Bool.or_eq_true, beq_iff_eq] at hh
        simp [hh]
      simp [hm] at h
  exact ⟨List.find?_eq_none.2 fun p hp => by simp [hn p hp], List.find?_eq_none.2 fun p hp => by simp [hn p (List.mem_append_right _ hp)]⟩

def space (r : Int) : Bool := r == 9 || r == 10 || r == 12 || r == 13 || r == 32

/-- What the stage's theorem asks of a coupled character. -/
def pairOk (r : Int) : Bool :=
  let m := refMirror r
  let back := refMirror m.1
  let a := refBracket r
  let b := refBracket m.1
  back.1 == r && m.2 && back.2 && m.1 != r && !space r && (!a.2.2 || (b.2.2 && a.1 == b.1 && a.2.1 != b.2.1 && refClass r == 14))
theorem pairs_ok : coupled.all pairOk = true := by kernel_rfl
theorem classes_ok : refRanges.all (fun x => decide (1 ≤ x.2.2) && decide (x.2.2 ≤ 23)) = true := by kernel_rfl
theorem class_bounds (r : Int) : 1 ≤ refClass r ∧ refClass r ≤ 23 := by
  rw [refClass_eq]
  cases h : refRanges.find? (within r) with
  | none => exact ⟨by decide, by decide⟩
  | some x =>
    have hx := List.all_eq_true.1 classes_ok x (List.mem_of_find?_eq_some h)
    simp only [Bool.and_eq_true, decide_eq_true_eq] at hx
    exact hx
theorem spaces_ok : [9, 10, 12, 13, 32].all (fun r : Int => refClass r == 13 || refClass r == 12 || refClass r == 11) = true := by kernel_rfl
theorem space_class {r : Int} (h : space r = true) : r ≤ 32 ∧ (refClass r = 13 ∨ refClass r = 12 ∨ refClass r = 11) := by
  simp only [space, Bool.or_eq_true, beq_iff_eq] at h
  have hm : r ∈ [9, 10, 12, 13, 32] := by simp; omega
  have := List.all_eq_true.1 spaces_ok r hm
  simp only [Bool.or_eq_true, beq_iff_eq] at this
  exact ⟨by omega, by omega⟩

set_option maxRecDepth 100000 in
set_option maxHeartbeats 2000000 in
theorem lawPairs (r : Int) (w : World) : Calls Try.prog 6 #[.int .i32 r] w fun e w' => e = .returned (.bool true) ∧ Below w.heap.size w w' := by
  have hb0 := Below.refl w.heap.size w
  have hcl := class_bounds r
  generalize hc : refClass r = c at hcl
  have HC := Lib.hid (fun w => class_at hc w)
  have hspc := @space_class r
  rw [hc] at hspc
  have HS := Lib.hid (fun w => space_any r w)
  have hse : (r == 9 || r == 10 || r == 12 || r == 13 || r == 32) = space r := rfl
  rw [hse] at HS
  cases hco : coupled.contains r with
  | false =>
    obtain ⟨h1, h2⟩ := hit_coupled hco
    have hm : refMirror r = (r, false) := by unfold refMirror; rw [h1]; rfl
    have hbr : refBracket r = (0, false, false) := by unfold refBracket; rw [h2]; rfl
    have HM := Lib.hid (fun w => mirror_at hm w)
    have HB := Lib.hid (fun w => bracket_at hbr w)
    clear hm hbr h1 h2 hc hse hco
    cases hsp : space r with
    | true =>
      rw [hsp] at HS
      obtain ⟨hle, hor⟩ := hspc hsp
      clear hspc hsp
      rcases hor with rfl | rfl | rfl
      all_goals
        go_enter Try.func6, Try.ntmps6
        go_wp2_with (first
          | (go_at_call 13; refine (from_base (by assumption) (HB.out _)).mono ?_; rintro e w' ⟨rfl, hb⟩)
          | (go_at_call 15; refine (from_base (by assumption) (HM.out _)).mono ?_; rintro e w' ⟨rfl, hb⟩)
          | (go_at_call 10; refine (from_base (by assumption) (HC.out _)).mono ?_; rintro e w' ⟨rfl, hb⟩)
          | (go_at_call 17; refine (from_same (by assumption) (HS.out _)).mono ?_; rintro e w' ⟨rfl, hb⟩)
          | (go_at_call 12; refine (from_base (by assumption) (works_any _)).mono ?_; rintro e w' ⟨rfl, hb⟩))
        go_ret
        exact ⟨rfl, by assumption⟩
    | false =>
      rw [hsp] at HS
      clear hspc hsp
      obtain ⟨hc1, hc2⟩ := hcl
      go_enter Try.func6, Try.ntmps6
      go_wp2_with (first
        | (go_at_call 13; refine (from_base (by assumption) (HB.out _)).mono ?_; rintro e w' ⟨rfl, hb⟩)
        | (go_at_call 15; refine (from_base (by assumption) (HM.out _)).mono ?_; rintro e w' ⟨rfl, hb⟩)
        | (go_at_call 10; refine (from_base (by assumption) (HC.out _)).mono ?_; rintro e w' ⟨rfl, hb⟩)
        | (go_at_call 17; refine (from_same (by assumption) (HS.out _)).mono ?_; rintro e w' ⟨rfl, hb⟩)
        | (go_at_call 12; refine (from_base (by assumption) (works_any _)).mono ?_; rintro e w' ⟨rfl, hb⟩))
      go_ret
      exact ⟨rfl, by assumption⟩
  | true =>
    have hok := List.all_eq_true.1 pairs_ok r (by simpa using hco)
    unfold pairOk at hok
    generalize hm : refMirror r = m at hok
    obtain ⟨m, ok⟩ := m
    generalize hbk : refMirror m = k at hok
    obtain ⟨back, is⟩ := k
    generalize hbr : refBracket r = x at hok
    obtain ⟨a, op, br⟩ := x
    generalize hbr2 : refBracket m = y at hok
    obtain ⟨b, first, other⟩ := y
    rw [hc] at hok
    simp only [hbk, hbr2, Bool.and_eq_true, beq_iff_eq, bne_iff_ne, Bool.or_eq_true, Bool.not_eq_eq_eq_not, Bool.not_true] at hok
    obtain ⟨⟨⟨⟨⟨rfl, rfl⟩, rfl⟩, hne⟩, hsp⟩, hbr3⟩ := hok
    have HM := Lib.hid (fun w => mirror_at hm w)
    have HK := Lib.hid (fun w => mirror_at hbk w)
    have HB := Lib.hid (fun w => bracket_at hbr w)
    have HB2 := Lib.hid (fun w => bracket_at hbr2 w)
    rw [hsp] at HS
    clear hm hbk hbr hbr2 hc hse hco hspc hsp
    obtain ⟨hc1, hc2⟩ := hcl
    have hne' : ¬ back = m := fun e => hne e.symm
    cases br with
    | true =>
      obtain ⟨⟨⟨rfl, rfl⟩, hop⟩, rfl⟩ : (((other = true ∧ a = b) ∧ op ≠ first) ∧ c = 14) := by simpa using hbr3
      clear hbr3
      cases op <;> cases first <;> first | (exact absurd rfl hop) | skip
      all_goals
        go_enter Try.func6, Try.ntmps6
        go_wp2_with (first
          | (go_at_call_of 13 (Value.int .i32 back); refine (from_base (by assumption) (HB.out _)).mono ?_; rintro e w' ⟨rfl, hb⟩)
          | (go_at_call_of 13 (Value.int .i32 m); refine (from_base (by assumption) (HB2.out _)).mono ?_; rintro e w' ⟨rfl, hb⟩)
          | (go_at_call_of 15 (Value.int .i32 back); refine (from_base (by assumption) (HM.out _)).mono ?_; rintro e w' ⟨rfl, hb⟩)
          | (go_at_call_of 15 (Value.int .i32 m); refine (from_base (by assumption) (HK.out _)).mono ?_; rintro e w' ⟨rfl, hb⟩)
          | (go_at_call 10; refine (from_base (by assumption) (HC.out _)).mono ?_; rintro e w' ⟨rfl, hb⟩)
          | (go_at_call 17; refine (from_same (by assumption) (HS.out _)).mono ?_; rintro e w' ⟨rfl, hb⟩)
          | (go_at_call 12; refine (from_base (by assumption) (works_any _)).mono ?_; rintro e w' ⟨rfl, hb⟩))
        go_ret
        exact ⟨rfl, by assumption⟩
    | false =>
      clear hbr3
      go_enter Try.func6, Try.ntmps6
      go_wp2_with (first
        | (go_at_call_of 13 (Value.int .i32 back); refine (from_base (by assumption) (HB.out _)).mono ?_; rintro e w' ⟨rfl, hb⟩)
        | (go_at_call_of 13 (Value.int .i32 m); refine (from_base (by assumption) (HB2.out _)).mono ?_; rintro e w' ⟨rfl, hb⟩)
        | (go_at_call_of 15 (Value.int .i32 back); refine (from_base (by assumption) (HM.out _)).mono ?_; rintro e w' ⟨rfl, hb⟩)
        | (go_at_call_of 15 (Value.int .i32 m); refine (from_base (by assumption) (HK.out _)).mono ?_; rintro e w' ⟨rfl, hb⟩)
        | (go_at_call 10; refine (from_base (by assumption) (HC.out _)).mono ?_; rintro e w' ⟨rfl, hb⟩)
        | (go_at_call 17; refine (from_same (by assumption) (HS.out _)).mono ?_; rintro e w' ⟨rfl, hb⟩)
        | (go_at_call 12; refine (from_base (by assumption) (works_any _)).mono ?_; rintro e w' ⟨rfl, hb⟩))
      go_ret
      exact ⟨rfl, by assumption⟩
end Go.Proofs.Ytjnjkmbgdhmbcaa
