/-
  The examples of the chapter, and every character of the closed statement, walked: true. No conditions.
-/
import Derived.Test.YtjnjkmbgdhmbcaaLaw3
namespace Go.Proofs.Ytjnjkmbgdhmbcaa
open Go.RowKit Go.RunKit

/-- The examples' characters, with their classes. -/
def rowPairs : List (Int × Int) := [(0x28, 14), (0x5D0, 2), (0x627, 3), (0x661, 7), (0x31, 4), (0x20, 13), (0x2067, 21), (0x300, 9), (0x41, 1), (-1, 1), (0x10FFFF, 1), (0x2B, 5), (0x24, 6), (0x2C, 8), (9, 12), (10, 11), (0x200B, 10), (0x202A, 15), (0x202B, 16),
  (0x202D, 17), (0x202E, 18), (0x202C, 19), (0x2066, 20), (0x2068, 22), (0x2069, 23), (0x200E, 1), (0x200F, 2), (0xFEFF, 10)]
theorem rowPairs_len : rowPairs.length = 28 := by rfl
theorem row_ok : rowPairs.all (fun p => refClass p.1 == p.2) = true := by kernel_rfl
def rowChars : List Value := rowPairs.map fun p => .int .i32 p.1
def rowClasses : List Value := rowPairs.map fun p => .int .u8 p.2

theorem row_run (w : World) : runFun Try.prog 12 19 #[] w =
    some (.tuple #[.slice (some ⟨w.heap.size, 0, none⟩) 28 28, .slice (some ⟨(w.alloc (.cells rowChars.toArray 21)).heap.size, 0, none⟩) 28 28], (w.alloc (.cells rowChars.toArray 21)).alloc (.cells rowClasses.toArray 24)) := by kernel_rfl

theorem row_cells (w : World) : ∀ k p, rowPairs[k]? = some p → ((w.alloc (.cells rowChars.toArray 21)).alloc (.cells rowClasses.toArray 24)).cell? ⟨w.heap.size, k, none⟩ = some (.int .i32 p.1) ∧
    ((w.alloc (.cells rowChars.toArray 21)).alloc (.cells rowClasses.toArray 24)).cell? ⟨w.heap.size + 1, k, none⟩ = some (.int .u8 p.2) := by
  intro k p hk
  refine ⟨?_, ?_⟩
  · rw [World.cell?_alloc_past _ _ _ (by simp), World.cell?_alloc_at _ _ _ _ rfl]; simp [rowChars, hk]
  · rw [World.cell?_alloc_at _ _ _ _ (by simp)]; simp [rowClasses, hk]

set_option maxRecDepth 100000 in
set_option maxHeartbeats 2000000 in
theorem lawKnown (w : World) : Calls Try.prog 8 #[] w fun e w' => e = .returned (.bool true) ∧ Below w.heap.size w w' := by
  have HA := Lib.hid (row_cells w)
  have hb : Below w.heap.size w ((w.alloc (.cells rowChars.toArray 21)).alloc (.cells rowClasses.toArray 24)) := ((Below.refl _ _).alloc (Nat.le_refl _) _).alloc (by simp) _
  have H1 := Lib.hid (show refBracket 9001 = (12297, true, true) by kernel_rfl)
  have H2 := Lib.hid (show refBracket 9002 = (12297, false, true) by kernel_rfl)
  have H3 := Lib.hid (show refMirror 9001 = (9002, true) by kernel_rfl)
  have H4 := Lib.hid (show refBracket 60 = (0, false, false) by kernel_rfl)
  go_enter Try.func8, Try.ntmps8
  go_wp2_with (go_at_call 19; refine (calls_of_run (row_run _)).mono ?_; rintro e w' ⟨rfl, rfl⟩)
  generalize (w.alloc (.cells rowChars.toArray 21)).alloc (.cells rowClasses.toArray 24) = W at *
  generalize w.heap.size + 1 = b2 at *
  go_loopw [3] (fun i wr => ∃ k : Nat, k ≤ 28 ∧ i = .int .i64 k ∧ Below w.heap.size w wr ∧ Hid (∀ k p, rowPairs[k]? = some p → wr.cell? ⟨w.heap.size, k, none⟩ = some (.int .i32 p.1) ∧ wr.cell? ⟨b2, k, none⟩ = some (.int .u8 p.2))) (fun i _ => 28 - (intOf i).toNat)
  case atStart => exact ⟨0, by omega, rfl, hb, HA⟩
  case round =>
    clear hb HA
    obtain ⟨k, hk, rfl, hb, HA⟩ := hrel
    by_cases hlt : k < 28
    · obtain ⟨⟨p1, p2⟩, hp⟩ := some_at rowPairs_len hlt
      obtain ⟨c1, c2⟩ := HA.out k _ hp
      have d1 : ∀ p : Over wr, p.out.cell? ⟨w.heap.size, k, none⟩ = some (.int .i32 p1) := fun p => p.cell c1
      have d2 : ∀ p : Over wr, p.out.cell? ⟨b2, k, none⟩ = some (.int .u8 p2) := fun p => p.cell c2
      have hcl : refClass p1 = p2 := by
        have := List.all_eq_true.1 row_ok _ (List.mem_of_getElem? hp)
        simpa using this
      have HC := Lib.hid (fun w => class_at hcl w)
      clear c1 c2 hp hcl
      go_wp2
      refine wp_region_below (by kernel_rfl) (by kernel_rfl) ?_
      repeat (go_big_quiet_step (first | (go_at_call 10; exact calls_over (HC.out _))))
      refine wpQuiet_nil ?_
      intro _ hw'
      obtain ⟨q, hw''⟩ := hw'
      subst hw''
      go_wp2
      exact ⟨⟨k + 1, by omega, by go_num, hb.trans (q.below.mono hb.size), Lib.hid fun k p h => ⟨q.cell (HA.out k p h).1, q.cell (HA.out k p h).2⟩⟩, by simp [intOf]; omega⟩
    · clear HA
      go_wp2
      go_loopw [4] (fun i wr => ∃ j : Int, -20 ≤ j ∧ j ≤ 1179700 ∧ i = .int .i32 j ∧ Below w.heap.size w wr) (fun i _ => (1179700 - intOf i).toNat)
      case atStart => exact ⟨-20, by omega, by omega, rfl, hb⟩
      case round =>
        clear hb
        obtain ⟨j, hj1, hj2, rfl, hb⟩ := hrel
        by_cases hlt : j < 1179648
        · by_cases hbig : 12544 < j
          all_goals
            go_wp2_with (first
              | (go_at_call 5; refine (from_base (by assumption) (lawMirrors _ _)).mono ?_; rintro e w' ⟨rfl, hb⟩)
              | (go_at_call 4; refine (from_base (by assumption) (lawBrackets _ _)).mono ?_; rintro e w' ⟨rfl, hb⟩)
              | (go_at_call 10; refine (from_base (by assumption) (class_any _ _)).mono ?_; rintro e w' ⟨rfl, hb⟩)
              | (go_at_call 11; refine (from_base (by assumption) (refClass_any _ _)).mono ?_; rintro e w' ⟨rfl, hb⟩))
            first
              | exact ⟨⟨j + 9 + 1, by omega, by omega, rfl, by assumption⟩, by simp [intOf]; omega⟩
              | exact ⟨⟨j + 1, by omega, by omega, rfl, by assumption⟩, by simp [intOf]; omega⟩
        · go_wp2_with (first
            | (go_at_call_of 13 (Value.int .i32 9001); refine (from_base (by assumption) (bracket_at H1.out _)).mono ?_; rintro e w' ⟨rfl, hb⟩)
            | (go_at_call_of 13 (Value.int .i32 9002); refine (from_base (by assumption) (bracket_at H2.out _)).mono ?_; rintro e w' ⟨rfl, hb⟩)
            | (go_at_call_of 13 (Value.int .i32 60); refine (from_base (by assumption) (bracket_at H4.out _)).mono ?_; rintro e w' ⟨rfl, hb⟩)
            | (go_at_call 15; refine (from_base (by assumption) (mirror_at H3.out _)).mono ?_; rintro e w' ⟨rfl, hb⟩)
            | (go_at_call 12; refine (from_base (by assumption) (works_any _)).mono ?_; rintro e w' ⟨rfl, hb⟩))
          go_ret
          exact ⟨rfl, by assumption⟩
end Go.Proofs.Ytjnjkmbgdhmbcaa
