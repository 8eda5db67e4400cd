/-
  Bracket, other and Mirror of props: they hand back what the document's answers do. No conditions.
-/
import Derived.Test.YtjnjkmbgdhmbcaaOwnTab
namespace Go.Proofs.Ytjnjkmbgdhmbcaa
open Go.RowKit Go.RunKit

theorem cells2_extract {l : List (Int × Int)} {k : Nat} {p : Int × Int} (h : l[k]? = some p) : (cells2 l).toArray.extract (k * 2) (k * 2 + 2) = #[.int .i32 p.1, .int .i32 p.2] := by
  have h2 := cells2_at h
  have hlen : k * 2 + 2 ≤ (cells2 l).length := by
    rw [cells2_length]
    have : k < l.length := by
      rcases Nat.lt_or_ge k l.length with h' | h'
      · exact h'
      · rw [List.getElem?_eq_none h'] at h; cases h
    omega
  apply Array.ext_getElem?
  intro i
  rw [Array.getElem?_extract]
  simp only [List.size_toArray, List.getElem?_toArray]
  rw [Nat.min_eq_left hlen]
  by_cases h0 : i = 0
  · subst h0; simp [h2.1]
  · by_cases h1 : i = 1
    · subst h1; simp [h2.2]
    · rw [if_neg (by omega)]
      symm
      apply List.getElem?_eq_none
      simp; omega

theorem aggCouple (w : World) : (isAgg 47).run Try.prog w = .ok true w := agg_of (by kernel_rfl) w
theorem sizeCouple : (Try.prog.info? 47).map (·.size) = some 2 := by kernel_rfl
theorem index23 {k : Nat} (hk : k < 23) {p : Int × Int} {cs : Array Value} (h : cs.extract (k * 2) (k * 2 + 2) = #[.int .i32 p.1, .int .i32 p.2]) (w : World) :
    (Instr.index 48 (.agg cs) (.int .i64 (k : Int))).run Try.prog w = .ok (.agg #[.int .i32 p.1, .int .i32 p.2]) w := by
  exact run_index_part under23 aggCouple sizeCouple hk h w
theorem index7 {k : Nat} (hk : k < 7) {p : Int × Int} {cs : Array Value} (h : cs.extract (k * 2) (k * 2 + 2) = #[.int .i32 p.1, .int .i32 p.2]) (w : World) :
    (Instr.index 55 (.agg cs) (.int .i64 (k : Int))).run Try.prog w = .ok (.agg #[.int .i32 p.1, .int .i32 p.2]) w := by
  exact run_index_part under7 aggCouple sizeCouple hk h w

set_option maxRecDepth 100000 in
set_option maxHeartbeats 1000000 in
theorem bracket_any (r : Int) (w : World) :
    Calls Try.prog 13 #[.int .i32 r] w fun e w' => e = .returned (.tuple #[.int .i32 (refBracket r).1, .bool (refBracket r).2.1, .bool (refBracket r).2.2]) ∧ Below w.heap.size w w' := by
  go_enter Try.func13, Try.ntmps13
  go_wp2_with (go_at_call 23; refine (brackets_any _).mono ?_; rintro e w' ⟨rfl, rfl⟩)
  have hb : Below w.heap.size w (w.alloc (.cells (cells2 refPairs).toArray 48)) := (Below.refl _ _).alloc (Nat.le_refl _) _
  generalize w.alloc (.cells (cells2 refPairs).toArray 48) = W at *
  have HE : Hid (∀ k p, refPairs[k]? = some p → (cells2 refPairs).toArray.extract (k * 2) (k * 2 + 2) = #[.int .i32 p.1, .int .i32 p.2]) := Lib.hid fun k p h => cells2_extract h
  generalize (cells2 refPairs).toArray = cs at *
  go_loopw [8] (fun i wr => ∃ k : Nat, k ≤ 23 ∧ i = .int .i64 k ∧ NoneTill (hit r) refPairs k ∧ Below w.heap.size w wr) (fun i _ => 23 - (intOf i).toNat)
  case atStart => exact ⟨0, by omega, rfl, noneTill_zero _ _, hb⟩
  case round =>
    obtain ⟨k, hk, rfl, hno, hbw⟩ := hrel
    clear hb
    have Hn := Lib.hid hno; clear hno
    have HB := Lib.hid hbw; clear hbw
    by_cases hlt : k < 23
    · obtain ⟨⟨p1, p2⟩, hp⟩ := some_at refPairs_len hlt
      have a := index23 hlt (HE.out k _ hp)
      have Hp := Lib.hid hp; clear hp
      go_wp2
      all_goals (try go_quiet (first | (go_at_call 24; exact Calls.quiet_of_same ((canonical_any _ _).mono fun _ _ h => ⟨h.1, h.2.symm⟩))))
      all_goals (try go_wp2)
      case roundEnd => exact ⟨⟨k + 1, by omega, by go_num, noneTill_succ Hn.out Hp.out (by simp_all [hit]), HB.out.alloc HB.out.size _⟩, by simp [intOf]; omega⟩
      all_goals (go_ret3; have e : refBracket r = bracketOf r (some (p1, p2)) := congrArg _ (find_at Hn.out Hp.out (by simp_all [hit])); rw [e])
      all_goals (refine ⟨ret3_eq ?_ ?_ ?_, below_drewN (HB.out.alloc HB.out.size _) _⟩ <;> first | rfl | (simp_all [bracketOf, canon]; done))
    · go_wp2
      go_ret3
      have e : refBracket r = bracketOf r none := congrArg _ (find_not Hn.out (by rw [refPairs_len]; omega))
      rw [e]
      exact ⟨rfl, HB.out⟩

/-- What the other one of a couple is; whether a character is one of the two. -/
def otherOf (p : Int × Int) (r : Int) : Int × Bool := if r = p.1 then (p.2, true) else if r = p.2 then (p.1, true) else (r, false)

theorem other_any (a b r : Int) (w : World) :
    Calls Try.prog 26 #[.agg #[.int .i32 a, .int .i32 b], .int .i32 r] w fun e w' => e = .returned (.tuple #[.int .i32 (otherOf (a, b) r).1, .bool (otherOf (a, b) r).2]) ∧ Below w.heap.size w w' := by
  have hb : Below w.heap.size w (w.alloc (.cells #[.int .i32 a, .int .i32 b] 47)) := (Below.refl _ _).alloc (Nat.le_refl _) _
  go_enter Try.func26, Try.ntmps26
  go_wp2
  all_goals go_ret2
  all_goals (refine ⟨ret2_eq ?_ ?_, hb⟩ <;> simp_all [otherOf])
end Go.Proofs.Ytjnjkmbgdhmbcaa
