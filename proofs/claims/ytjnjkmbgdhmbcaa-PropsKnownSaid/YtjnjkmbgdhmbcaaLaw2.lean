/-
  The laws of layer 1 with more in them, walked: each hands back true. No conditions.
-/
import Derived.Test.YtjnjkmbgdhmbcaaLaw
import Derived.Test.YtjnjkmbgdhmbcaaBelow
namespace Go.Proofs.Ytjnjkmbgdhmbcaa
open Go.RowKit Go.RunKit

set_option maxRecDepth 100000 in
set_option maxHeartbeats 2000000 in
theorem lawClasses (r c : Int) (hc : 0 ≤ c ∧ c ≤ 255) (w : World) : Calls Try.prog 3 #[.int .i32 r, .int .u8 c] w fun e w' => e = .returned (.bool true) ∧ Below w.heap.size w w' := by
  obtain ⟨n, rfl⟩ : ∃ n : Nat, c = n := ⟨c.toNat, by omega⟩
  have hk : n % 146 < 146 := Nat.mod_lt _ (by omega)
  obtain ⟨⟨p1, p2, p3⟩, hp⟩ := some_at refRanges_len hk
  obtain ⟨x1, x2, x3⟩ := refRanges_block w _ _ hp
  go_enter Try.func3, Try.ntmps3
  go_wp2_with (go_at_call 9; refine (calls_of_run (refRanges_run _)).mono ?_; rintro e w' ⟨rfl, rfl⟩)
  have hb : Below w.heap.size w ((w.alloc (.cells (cells3 refRanges).toArray 26)).alloc (.cells #[.int .i32 p1, .int .i32 p2, .int .u8 p3] 26)) := ((Below.refl _ _).alloc (Nat.le_refl _) _).alloc (by simp) _
  have c1 : ((w.alloc (.cells (cells3 refRanges).toArray 26)).alloc (.cells #[.int .i32 p1, .int .i32 p2, .int .u8 p3] 26)).cell? ⟨w.heap.size + 1, 0, none⟩ = some (.int .i32 p1) := by
    rw [World.cell?_alloc_at _ _ _ _ (by simp)]; rfl
  have c2 : ((w.alloc (.cells (cells3 refRanges).toArray 26)).alloc (.cells #[.int .i32 p1, .int .i32 p2, .int .u8 p3] 26)).cell? ⟨w.heap.size + 1, 1, none⟩ = some (.int .i32 p2) := by
    rw [World.cell?_alloc_at _ _ _ _ (by simp)]; rfl
  clear x1 x2 x3 hp
  generalize (w.alloc (.cells (cells3 refRanges).toArray 26)).alloc (.cells #[.int .i32 p1, .int .i32 p2, .int .u8 p3] 26) = W at *
  generalize hB : w.heap.size + 1 = b at *
  go_loopw [7] (fun i wr => ∃ j : Int, -1 ≤ j ∧ j ≤ 2 ∧ i = .int .i32 j ∧ Below w.heap.size w wr ∧ wr.cell? ⟨b, 0, none⟩ = some (.int .i32 p1) ∧ wr.cell? ⟨b, 1, none⟩ = some (.int .i32 p2)) (fun i _ => (2 - intOf i).toNat)
  case atStart => exact ⟨-1, by omega, by omega, rfl, hb, c1, c2⟩
  case round =>
    clear hb c1 c2
    obtain ⟨j, hj1, hj2, rfl, hb, c1, c2⟩ := hrel
    by_cases hj : j ≤ 1
    · go_wp2
      have d1 : ∀ p : Over wr, p.out.cell? ⟨b, 0, none⟩ = some (.int .i32 p1) := fun p => p.cell c1
      have d2 : ∀ p : Over wr, p.out.cell? ⟨b, 1, none⟩ = some (.int .i32 p2) := fun p => p.cell c2
      by_cases h1 : -2147483648 < r
      · by_cases h2 : r < 2147483647
        · refine wp_region_below (by kernel_rfl) (by kernel_rfl) ?_
          repeat (go_big_quiet_step (first | (go_at_call 10; exact calls_over (class_any _ _)) | (go_at_call 11; exact calls_over (refClass_any _ _))))
          refine wpQuiet_nil ?_
          intro _ hw'
          obtain ⟨q, hw''⟩ := hw'
          subst hw''
          go_wp2
          exact ⟨⟨j + 1, by omega, by omega, by go_num, hb.trans (q.below.mono hb.size), d1 q, d2 q⟩, by simp [intOf]; omega⟩
        · refine wp_region_below (by kernel_rfl) (by kernel_rfl) ?_
          repeat (go_big_quiet_step (first | (go_at_call 10; exact calls_over (class_any _ _)) | (go_at_call 11; exact calls_over (refClass_any _ _))))
          refine wpQuiet_nil ?_
          intro _ hw'
          obtain ⟨q, hw''⟩ := hw'
          subst hw''
          go_wp2
          exact ⟨⟨j + 1, by omega, by omega, by go_num, hb.trans (q.below.mono hb.size), d1 q, d2 q⟩, by simp [intOf]; omega⟩
      · refine wp_region_below (by kernel_rfl) (by kernel_rfl) ?_
        repeat (go_big_quiet_step (first | (go_at_call 10; exact calls_over (class_any _ _)) | (go_at_call 11; exact calls_over (refClass_any _ _))))
        refine wpQuiet_nil ?_
        intro _ hw'
        obtain ⟨q, hw''⟩ := hw'
        subst hw''
        go_wp2
        exact ⟨⟨j + 1, by omega, by omega, by go_num, hb.trans (q.below.mono hb.size), d1 q, d2 q⟩, by simp [intOf]; omega⟩
    · go_wp2_with (first
        | (go_at_call 10; refine (from_base (by assumption) (class_any _ _)).mono ?_; rintro e w' ⟨rfl, hb⟩)
        | (go_at_call 11; refine (from_base (by assumption) (refClass_any _ _)).mono ?_; rintro e w' ⟨rfl, hb⟩)
        | (go_at_call 12; refine (from_base (by assumption) (works_any _)).mono ?_; rintro e w' ⟨rfl, hb⟩))
      go_ret
      exact ⟨rfl, by assumption⟩
end Go.Proofs.Ytjnjkmbgdhmbcaa
