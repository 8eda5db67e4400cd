/-
  The document's answers of layer 1: what each of them comes to. No conditions.
-/
import Derived.Test.YtjnjkmbgdhmbcaaTab
namespace Go.Proofs.Ytjnjkmbgdhmbcaa
open Go.RowKit Go.RunKit

def hit (r : Int) (p : Int × Int) : Bool := r == p.1 || r == p.2
def canon (b : Int) : Int := if b = 9002 then 12297 else b
def bracketOf (r : Int) : Option (Int × Int) → Int × Bool × Bool
  | some p => (canon p.2, r == p.1, true)
  | none => (0, false, false)
def refBracket (r : Int) : Int × Bool × Bool := bracketOf r (refPairs.find? (hit r))

theorem refPairs_block (w : World) : ∀ k p, refPairs[k]? = some p → (w.alloc (.cells (cells2 refPairs).toArray 54)).cell? ⟨w.heap.size, k * 2, none⟩ = some (.int .i32 p.1) ∧ (w.alloc (.cells (cells2 refPairs).toArray 54)).cell? ⟨w.heap.size, k * 2 + 1, none⟩ = some (.int .i32 p.2) := by
  intro k p hk
  have := cells2_at hk
  exact ⟨by simp [go_sem, this.1], by simp [go_sem, this.2]⟩
theorem refRanges_block (w : World) : ∀ k p, refRanges[k]? = some p → (w.alloc (.cells (cells3 refRanges).toArray 26)).cell? ⟨w.heap.size, k * 3, none⟩ = some (.int .i32 p.1) ∧ (w.alloc (.cells (cells3 refRanges).toArray 26)).cell? ⟨w.heap.size, k * 3 + 1, none⟩ = some (.int .i32 p.2.1) ∧ (w.alloc (.cells (cells3 refRanges).toArray 26)).cell? ⟨w.heap.size, k * 3 + 2, none⟩ = some (.int .u8 p.2.2) := by
  intro k p hk
  have := cells3_at hk
  exact ⟨by simp [go_sem, this.1], by simp [go_sem, this.2.1], by simp [go_sem, this.2.2]⟩

set_option maxRecDepth 100000 in
set_option maxHeartbeats 1000000 in
theorem refBracket_any (r : Int) (w : World) :
    Calls Try.prog 14 #[.int .i32 r] w fun e w' => e = .returned (.tuple #[.int .i32 (refBracket r).1, .bool (refBracket r).2.1, .bool (refBracket r).2.2]) ∧ Below w.heap.size w w' := by
  go_enter Try.func14, Try.ntmps14
  go_wp2_with (go_at_call 25; refine (calls_of_run (refPairs_run _)).mono ?_; rintro e w' ⟨rfl, rfl⟩)
  have hb : Below w.heap.size w (w.alloc (.cells (cells2 refPairs).toArray 54)) := (Below.refl _ _).alloc (Nat.le_refl _) _
  have HA := Lib.hid (refPairs_block w)
  generalize w.alloc (.cells (cells2 refPairs).toArray 54) = W at *
  go_loop [6] (fun i => ∃ k : Nat, k ≤ 23 ∧ i = .int .i64 k ∧ NoneTill (hit r) refPairs k) (fun i => 23 - (intOf i).toNat)
  case atStart => exact ⟨0, by omega, rfl, noneTill_zero _ _⟩
  case round =>
    obtain ⟨k, hk, rfl, hno⟩ := hrel
    have Hn := Lib.hid hno; clear hno
    by_cases hlt : k < 23
    · obtain ⟨⟨p1, p2⟩, hp⟩ := some_at refPairs_len hlt
      obtain ⟨a, b⟩ := HA.out k _ hp
      have Hp := Lib.hid hp; clear hp
      go_wp2
      all_goals (try go_quiet (fail))
      all_goals (try go_wp2)
      case roundEnd => exact ⟨⟨k + 1, by omega, by go_num, noneTill_succ Hn.out Hp.out (by simp_all [hit])⟩, by simp [intOf]; omega⟩
      all_goals (go_ret3; have e : refBracket r = bracketOf r (some (p1, p2)) := congrArg _ (find_at Hn.out Hp.out (by simp_all [hit])); rw [e])
      all_goals (refine ⟨ret3_eq ?_ ?_ ?_, below_drewN hb _⟩ <;> first | rfl | (simp_all [bracketOf, canon]; done))
    · go_wp2
      go_ret3
      have e : refBracket r = bracketOf r none := congrArg _ (find_not Hn.out (by rw [refPairs_len]; omega))
      rw [e]
      exact ⟨rfl, hb⟩

def letter (r : Int) : Bool := decide (65 ≤ r ∧ r ≤ 90) || decide (97 ≤ r ∧ r ≤ 122)
def within (r : Int) (x : Int × Int × Int) : Bool := decide (x.1 ≤ r ∧ r ≤ x.2.1)
def classOf : Option (Int × Int × Int) → Int
  | some x => x.2.2
  | none => 1
def refClass (r : Int) : Int := if letter r then 1 else classOf (refRanges.find? (within r))

set_option maxRecDepth 100000 in
set_option maxHeartbeats 1000000 in
theorem refClass_any (r : Int) (w : World) :
    Calls Try.prog 11 #[.int .i32 r] w fun e w' => e = .returned (.int .u8 (refClass r)) ∧ Below w.heap.size w w' := by
  cases hl : letter r with
  | true =>
    have e : refClass r = 1 := by simp [refClass, hl]
    have E := Lib.hid e; clear e
    simp only [letter, Bool.or_eq_true, decide_eq_true_eq] at hl
    rcases hl with ⟨h1, h2⟩ | ⟨h1, h2⟩
    all_goals
      go_enter Try.func11, Try.ntmps11
      go_wp2
      go_ret
      rw [E.out]
      exact ⟨rfl, Below.refl _ _⟩
  | false =>
    have e : refClass r = classOf (refRanges.find? (within r)) := by simp [refClass, hl]
    have E := Lib.hid e; clear e
    simp only [letter, Bool.or_eq_false_iff, decide_eq_false_iff_not] at hl
    obtain ⟨h1, h2⟩ := hl
    go_enter Try.func11, Try.ntmps11
    go_wp2_with (go_at_call 9; refine (calls_of_run (refRanges_run _)).mono ?_; rintro e w' ⟨rfl, rfl⟩)
    all_goals
      clear h1 h2
      have hb : Below w.heap.size w (w.alloc (.cells (cells3 refRanges).toArray 26)) := (Below.refl _ _).alloc (Nat.le_refl _) _
      have HA := Lib.hid (refRanges_block w)
      generalize w.alloc (.cells (cells3 refRanges).toArray 26) = W at *
      go_wp2
      go_loop [4] (fun i => ∃ k : Nat, k ≤ 146 ∧ i = .int .i64 k ∧ NoneTill (within r) refRanges k) (fun i => 146 - (intOf i).toNat)
      case atStart => exact ⟨0, by omega, rfl, noneTill_zero _ _⟩
      case round =>
        obtain ⟨k, hk, rfl, hno⟩ := hrel
        have Hn := Lib.hid hno; clear hno
        by_cases hlt : k < 146
        · obtain ⟨⟨p1, p2, p3⟩, hp⟩ := some_at refRanges_len hlt
          obtain ⟨a, b, c⟩ := HA.out k _ hp
          have Hp := Lib.hid hp; clear hp
          go_wp2
          case roundEnd => exact ⟨⟨k + 1, by omega, by go_num, noneTill_succ Hn.out Hp.out (by simp_all [within] <;> omega)⟩, by simp [intOf]; omega⟩
          case roundEnd => exact ⟨⟨k + 1, by omega, by go_num, noneTill_succ Hn.out Hp.out (by simp_all [within] <;> omega)⟩, by simp [intOf]; omega⟩
          go_ret
          have e : refClass r = classOf (some (p1, p2, p3)) := E.out.trans (congrArg _ (find_at Hn.out Hp.out (by simp_all [within] <;> omega)))
          rw [e]
          exact ⟨rfl, hb⟩
        · go_wp2
          go_ret
          have e : refClass r = classOf none := E.out.trans (congrArg _ (find_not Hn.out (by rw [refRanges_len]; omega)))
          rw [e]
          exact ⟨rfl, hb⟩

set_option maxHeartbeats 400000 in
theorem refSpace_any (r : Int) (w : World) :
    Calls Try.prog 18 #[.int .i32 r] w fun e w' => e = .returned (.bool (r == 9 || r == 10 || r == 12 || r == 13 || r == 32)) ∧ w = w' := by
  go_enter Try.func18, Try.ntmps18
  go_wp2
  all_goals go_ret
  all_goals simp_all

def refTwos : List (Int × Int) := refOthers ++ refPairs
theorem refTwos_len : refTwos.length = 30 := by rfl
def mirrorOf (r : Int) : Option (Int × Int) → Int × Bool
  | some p => (if r = p.1 then p.2 else p.1, true)
  | none => (r, false)
def refMirror (r : Int) : Int × Bool := mirrorOf r (refTwos.find? (hit r))

theorem Try.infoTwo : (Try.prog.info? 54).map (fun i => (i.zero, i.size, i.bytes)) = some (some (.agg #[.int .i32 0, .int .i32 0]), 2, 8) := by kernel_rfl
theorem Try.underTwos : Try.prog.underlying 51 = some (.slice 54) := by kernel_rfl

set_option maxRecDepth 100000 in
set_option maxHeartbeats 1000000 in
theorem refMirror_any (r : Int) (w : World) :
    Calls Try.prog 16 #[.int .i32 r] w fun e w' => e = .returned (.tuple #[.int .i32 (refMirror r).1, .bool (refMirror r).2]) ∧ Below w.heap.size w w' := by
  obtain ⟨i0, hi, hz0, hz1, hz2⟩ := info_parts Try.infoTwo
  have hown : ((w.alloc (.cells (cells2 refOthers).toArray 54)).alloc (.cells (cells2 refPairs).toArray 54)).ownsRow w.heap.size 54 2 (.slice (some ⟨w.heap.size, 0, none⟩) 7 7) 7 (cells2 refOthers) :=
    World.ownsRow.alloc ⟨by rfl, .inr ⟨w.heap.size, 7, (cells2 refOthers).toArray, rfl, Nat.le_refl _, heap_alloc_new w _, by omega, by unfold maxLen; omega, by rfl, by rfl⟩⟩ _
  have HO := Lib.hid hown; clear hown
  go_enter Try.func16, Try.ntmps16
  go_wp2_with (first
    | (go_at_call 25; refine (calls_of_run (refPairs_run _)).mono ?_; rintro e w' ⟨rfl, rfl⟩)
    | (at_builtin; refine wpList_append_own _ rfl _ _ 51 rfl w.heap.size 54 i0 _ 2 8 Try.underTwos hi hz0 hz1 hz2 rfl (by decide) _ 7 (cells2 refOthers) rfl HO.out ⟨w.heap.size + 1, 0, none⟩ 23 23 (cells2 refPairs) rfl ?c1 ?c2 ?c3 ?c4 ?c5 ?c6 ?_))
  case c1 => rfl
  case c2 =>
    intro j u hu
    have hj : j < (cells2 refPairs).length := by
      rcases Nat.lt_or_ge j (cells2 refPairs).length with h | h
      · exact h
      · rw [List.getElem?_eq_none h] at hu; cases hu
    simpa [go_sem] using hu
  case c3 => exact cells2_one _
  case c4 => unfold maxLen; omega
  case c5 => omega
  case c6 => simp [go_sem]; omega
  intro v' W hown' hgrow _
  rw [← cells2_append] at hown'
  have hb : Below w.heap.size w W := (((Below.refl _ _).alloc (Nat.le_refl _) _).alloc (by simp) _).grown hgrow (by simp; omega) (fun k hk => by cases hk; exact Nat.le_refl _)
  obtain ⟨g, hv⟩ : ∃ g cap, v' = .slice (some ⟨g, 0, none⟩) 30 cap := by
    obtain ⟨_, ⟨_, h⟩ | ⟨g, cap, _, h, _⟩⟩ := hown'
    · omega
    · exact ⟨g, cap, h⟩
  obtain ⟨cap, rfl⟩ := hv
  have hcell := hown'.cells rfl
  have HA : Hid (∀ k p, refTwos[k]? = some p → W.cell? ⟨g, k * 2, none⟩ = some (.int .i32 p.1) ∧ W.cell? ⟨g, k * 2 + 1, none⟩ = some (.int .i32 p.2)) := Lib.hid fun k p h => by
    have h2 := cells2_at h
    have h3 := hcell _ _ h2.1
    have h4 := hcell _ _ h2.2
    rw [add_at] at h3 h4
    exact ⟨h3, h4⟩
  clear hown' hgrow hcell HO
  go_wp2
  go_loop [5] (fun i => ∃ k : Nat, k ≤ 30 ∧ i = .int .i64 k ∧ NoneTill (hit r) refTwos k) (fun i => 30 - (intOf i).toNat)
  case atStart => exact ⟨0, by omega, rfl, noneTill_zero _ _⟩
  case round =>
    obtain ⟨k, hk, rfl, hno⟩ := hrel
    have Hn := Lib.hid hno; clear hno
    by_cases hlt : k < 30
    · obtain ⟨⟨p1, p2⟩, hp⟩ := some_at refTwos_len hlt
      obtain ⟨a, b⟩ := HA.out k _ hp
      have Hp := Lib.hid hp; clear hp
      go_wp2
      all_goals (try go_quiet (fail))
      all_goals (try go_wp2)
      case roundEnd => exact ⟨⟨k + 1, by omega, by go_num, noneTill_succ Hn.out Hp.out (by simp_all [hit])⟩, by simp [intOf]; omega⟩
      all_goals (go_ret2; have e : refMirror r = mirrorOf r (some (p1, p2)) := congrArg _ (find_at Hn.out Hp.out (by simp_all [hit])); rw [e])
      all_goals (refine ⟨ret2_eq ?_ ?_, ?_⟩ <;> first | exact hb | rfl | (simp_all [mirrorOf]; done))
    · go_wp2
      go_ret2
      have e : refMirror r = mirrorOf r none := congrArg _ (find_not Hn.out (by rw [refTwos_len]; omega))
      rw [e]
      exact ⟨rfl, hb⟩
end Go.Proofs.Ytjnjkmbgdhmbcaa
