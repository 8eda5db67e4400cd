/-
  The printer of package csstok: which characters would be misread. No conditions.
-/
import Derived.Test.YtmhdocgoeahbdaaGreatDoorQPr
namespace Go.CssKit
open Go Go.Lib
def misFirst (l : Chars) (i : Nat) : Bool := if at_ l i = 45 then l.length == 1 else isDg (at_ l i) && (i == 0 || i == 1 && at_ l 0 == 45)
def misUnit (l : Chars) (i : Nat) : Bool := if i = 0 ∧ (at_ l 0 = 101 ∨ at_ l 0 = 69) then (if at_ l 1 = 45 then isDg (at_ l 2) else isDg (at_ l 1)) else misFirst l i
/-- Which kinds may join one ahead. -/
def joinsK (k : Nat) : Bool := k == 2 || k == 3 || k == 8 || k == 9 || k == 10 || k == 12 || k == 14
end Go.CssKit
namespace Go.Proofs.YtmhdocgoeahbdaaGreatDoor
open Go.RowKit Go.RunKit Go.UtfKit Go.Lib Go.CssKit

/-- These characters lie here. -/
structure SeeC (w : World) (g o : Nat) (l : Chars) : Prop where
  cell : ∀ j z, l[j]? = some z → w.cell? ⟨g, o + j, none⟩ = some (.int .i32 z)
theorem SeeC.at {w : World} {g o : Nat} {l : Chars} (h : SeeC w g o l) {i : Nat} (hi : i < l.length) : w.cell? ⟨g, o + i, none⟩ = some (.int .i32 (at_ l i)) := by
  rw [h.cell i (l[i]) (List.getElem?_eq_getElem hi)]
  unfold at_
  rw [List.getD_eq_getElem?_getD, List.getElem?_eq_getElem hi]
  rfl
theorem SeeC.on {w w' : World} {g o : Nat} {l : Chars} (h : SeeC w g o l) (hb : Below w.heap.size w w') : SeeC w' g o l :=
  ⟨fun j z hz => by rw [hb.cell (World.block_lt_of_cell? _ _ (h.cell j z hz))]; exact h.cell j z hz⟩

set_option maxRecDepth 100000 in
set_option maxHeartbeats 2000000 in
theorem misFirst_any (g o cap i : Nat) (l : Chars) (w : World) (h : SeeC w g o l) (hi : i < l.length) :
    Calls Tryz.prog 59 #[.slice (some ⟨g, o, none⟩) l.length cap, .int .i64 ((i : Nat) : Int)] w fun e w' => e = .returned (.bool (misFirst l i)) ∧ w = w' := by
  have c1 := h.at hi
  have c0 := h.at (i := 0) (by omega)
  rw [Nat.add_zero] at c0
  have HD := Lib.hid (isDigit7_any (at_ l i))
  have hxy : i = 0 → at_ l i = at_ l 0 := fun e => by rw [e]
  unfold misFirst
  generalize at_ l i = x at *
  generalize at_ l 0 = y at *
  generalize isDg x = p at *
  obtain ⟨n, hn⟩ : ∃ n, l.length = n := ⟨_, rfl⟩
  rw [hn] at hi ⊢
  have hiI : (i : Int) < n := by omega
  have h0I : (0 : Int) < n := by omega
  clear h hn hi
  by_cases h1 : x = 45
  · subst h1
    rw [if_pos rfl]
    clear HD hxy
    go_enter Tryz.func59, Tryz.ntmps59
    go_big_wp2
    go_ret
    refine ⟨ret1_eq (congrArg Value.bool ?_), rfl⟩
    rw [Bool.eq_iff_iff]
    simp
    try omega
  · rw [if_neg h1]
    have b1 : (x == 45) = false := by rw [beq_eq_false_iff_ne]; exact h1
    cases p
    · clear hxy
      go_enter Tryz.func59, Tryz.ntmps59
      go_big_wp2_with (go_at_call 88; refine (HD.out _).mono ?_; rintro e w1 ⟨rfl, rfl⟩)
      go_ret
      exact ⟨rfl, rfl⟩
    · by_cases h3 : i = 0
      · have hy : y = x := (hxy h3).symm
        subst h3
        subst y
        clear hxy
        go_enter Tryz.func59, Tryz.ntmps59
        go_big_wp2_with (go_at_call 88; refine (HD.out _).mono ?_; rintro e w1 ⟨rfl, rfl⟩)
        go_ret
        exact ⟨rfl, rfl⟩
      · have hz : ((i : Int) == 0) = false := by rw [beq_eq_false_iff_ne]; omega
        have hz2 : ((i : Int) = 0) = False := eq_false (by omega)
        have hz3 : (i = 0) = False := eq_false h3
        have b3 : (i == 0) = false := by rw [beq_eq_false_iff_ne]; exact h3
        clear hxy
        by_cases h4 : i = 1
        · subst h4
          have b2 : (y == 45) = decide (y = 45) := by rw [Bool.eq_iff_iff]; simp
          go_enter Tryz.func59, Tryz.ntmps59
          go_big_wp2_with (go_at_call 88; refine (HD.out _).mono ?_; rintro e w1 ⟨rfl, rfl⟩)
          go_ret
          refine ⟨ret1_eq (congrArg Value.bool ?_), rfl⟩
          rw [Bool.eq_iff_iff]
          simp
        · have hw : ((i : Int) == 1) = false := by rw [beq_eq_false_iff_ne]; omega
          have hw2 : ((i : Int) = 1) = False := eq_false (by omega)
          have hw3 : (i = 1) = False := eq_false h4
          go_enter Tryz.func59, Tryz.ntmps59
          go_big_wp2_with (go_at_call 88; refine (HD.out _).mono ?_; rintro e w1 ⟨rfl, rfl⟩)
          go_ret
          refine ⟨ret1_eq (congrArg Value.bool ?_), rfl⟩
          rw [Bool.eq_iff_iff]
          simp [h3, h4]
theorem misNever_any (v : Value) (i : Int) (w : World) : Calls Tryz.prog 89 #[v, .int .i64 i] w fun e w' => e = .returned (.bool false) ∧ w = w' := by
  go_enter Tryz.func89, Tryz.ntmps89
  go_wp2
  go_ret
  exact ⟨rfl, rfl⟩
theorem at_over {l : Chars} {i : Nat} (h : l.length ≤ i) : at_ l i = -1 := by unfold at_; rw [List.getD_eq_getElem?_getD, List.getElem?_eq_none h]; rfl

set_option maxRecDepth 100000 in
set_option maxHeartbeats 2000000 in
theorem misUnit_any (g o cap i : Nat) (l : Chars) (w : World) (h : SeeC w g o l) (hi : i < l.length) (hcap : l.length ≤ cap) :
    Calls Tryz.prog 63 #[.slice (some ⟨g, o, none⟩) l.length cap, .int .i64 ((i : Nat) : Int)] w fun e w' => e = .returned (.bool (misUnit l i)) ∧ w = w' := by
  have c0 := h.at (i := 0) (by omega)
  rw [Nat.add_zero] at c0
  have HF := Lib.hid (misFirst_any g o cap i l w h hi)
  unfold misUnit
  by_cases hc : i = 0 ∧ (at_ l 0 = 101 ∨ at_ l 0 = 69)
  · rw [if_pos hc]
    obtain ⟨rfl, hc⟩ := hc
    have c1 := fun hh : 1 < l.length => h.at hh
    have c2 := fun hh : 2 < l.length => h.at hh
    have HD1 := Lib.hid (isDigit7_any (at_ l 1))
    have HD2 := Lib.hid (isDigit7_any (at_ l 2))
    have o1 := fun hh : l.length ≤ 1 => at_over hh
    have o2 := fun hh : l.length ≤ 2 => at_over hh
    generalize at_ l 0 = x at *
    generalize at_ l 1 = y at *
    generalize at_ l 2 = z at *
    obtain ⟨n, hn⟩ : ∃ n, l.length = n := ⟨_, rfl⟩
    rw [hn] at hi hcap c1 c2 o1 o2 ⊢
    clear h hn HF
    by_cases h1 : n = 1
    · subst h1
      have e1 : y = -1 := o1 (by omega)
      rw [if_neg (show ¬ y = 45 by omega), e1]
      rcases hc with rfl | rfl
      all_goals
        clear c1 c2 o1 o2 HD1 HD2 e1
        go_enter Tryz.func63, Tryz.ntmps63
        go_big_wp2
        all_goals go_ret
        all_goals exact ⟨rfl, rfl⟩
    · have c1 := c1 (by omega)
      have hI : (1 : Int) < n := by omega
      have hI1 : (0 : Int) < n - 1 := by omega
      have n1 : 0 < n - 1 := by omega
      have cn : ¬ cap = 1 := by omega
      by_cases h45 : y = 45
      · rw [if_pos h45]
        by_cases h2 : n = 2
        · subst h2
          have e1 : z = -1 := o2 (by omega)
          rw [e1]
          subst h45
          rcases hc with rfl | rfl
          all_goals
            clear c2 o1 o2 HD1 HD2 e1
            go_enter Tryz.func63, Tryz.ntmps63
            go_big_wp2
            all_goals go_ret
            all_goals exact ⟨rfl, rfl⟩
        · have c2 := c2 (by omega)
          have c2' : w.cell? ⟨g, o + 1 + 1, none⟩ = some (.int .i32 z) := c2
          have hI2 : (1 : Int) < n - 1 := by omega
          have hI3 : (0 : Int) < n - 1 - 1 := by omega
          have n2 : 0 < n - 1 - 1 := by omega
          have cn2 : ¬ cap - 1 = 1 := by omega
          subst h45
          generalize isDg z = p at *
          rcases hc with rfl | rfl
          all_goals
            clear o1 o2 HD1
            go_enter Tryz.func63, Tryz.ntmps63
            go_big_wp2_with (go_at_call 88; refine (HD2.out _).mono ?_; rintro e w1 ⟨rfl, rfl⟩)
            all_goals go_ret
            all_goals exact ⟨rfl, rfl⟩
      · rw [if_neg h45]
        have b45 : (y == 45) = false := by rw [beq_eq_false_iff_ne]; exact h45
        generalize isDg y = p at *
        rcases hc with rfl | rfl
        all_goals
          clear o1 o2 HD2 c2
          go_enter Tryz.func63, Tryz.ntmps63
          go_big_wp2_with (go_at_call 88; refine (HD1.out _).mono ?_; rintro e w1 ⟨rfl, rfl⟩)
          all_goals go_ret
          all_goals exact ⟨rfl, rfl⟩
  · rw [if_neg hc]
    generalize misFirst l i = p at *
    generalize at_ l 0 = x at *
    obtain ⟨n, hn⟩ : ∃ n, l.length = n := ⟨_, rfl⟩
    rw [hn] at hi hcap HF ⊢
    have h0I : (0 : Int) < n := by omega
    clear h hn
    by_cases h0 : i = 0
    · subst h0
      have b1 : (x == 101) = false := by rw [beq_eq_false_iff_ne]; intro e; exact hc ⟨rfl, .inl e⟩
      have b2 : (x == 69) = false := by rw [beq_eq_false_iff_ne]; intro e; exact hc ⟨rfl, .inr e⟩
      clear hc
      go_enter Tryz.func63, Tryz.ntmps63
      go_big_wp2_with (go_at_call 59; refine HF.out.mono ?_; rintro e w1 ⟨rfl, rfl⟩)
      go_ret
      exact ⟨rfl, rfl⟩
    · have hz : ((i : Int) == 0) = false := by rw [beq_eq_false_iff_ne]; omega
      have hz2 : ((i : Int) = 0) = False := eq_false (by omega)
      have hz3 : (i = 0) = False := eq_false h0
      clear hc
      go_enter Tryz.func63, Tryz.ntmps63
      go_big_wp2_with (go_at_call 59; refine HF.out.mono ?_; rintro e w1 ⟨rfl, rfl⟩)
      go_ret
      exact ⟨rfl, rfl⟩
set_option maxRecDepth 100000 in
set_option maxHeartbeats 2000000 in
theorem joins_any (k : Nat) (w : World) :
    Calls Tryz.prog 55 #[.int .u8 ((k : Nat) : Int)] w fun e w' => e = .returned (.bool (joinsK k)) ∧ w = w' := by
  by_cases h : k < 15
  · have := fun (j : Nat) (hj : j < 15) (hjk : j = k) => hjk
    match k, h with
    | 0, _ | 1, _ | 2, _ | 3, _ | 4, _ | 5, _ | 6, _ | 7, _ | 8, _ | 9, _ | 10, _ | 11, _ | 12, _ | 13, _ | 14, _ =>
      go_enter Tryz.func55, Tryz.ntmps55
      go_big_wp2
      all_goals go_ret
      all_goals exact ⟨rfl, rfl⟩
  · have d : ∀ j : Nat, j < 15 → ((k : Int) == (j : Int)) = false := fun j hj => by rw [beq_eq_false_iff_ne]; omega
    have d2 := d 2 (by omega)
    have d3 := d 3 (by omega)
    have d8 := d 8 (by omega)
    have d9 := d 9 (by omega)
    have d10 := d 10 (by omega)
    have d12 := d 12 (by omega)
    have d14 := d 14 (by omega)
    rw [show joinsK k = false by unfold joinsK; simp; omega]
    clear d
    go_enter Tryz.func55, Tryz.ntmps55
    go_big_wp2
    all_goals go_ret
    all_goals exact ⟨rfl, rfl⟩
end Go.Proofs.YtmhdocgoeahbdaaGreatDoor
