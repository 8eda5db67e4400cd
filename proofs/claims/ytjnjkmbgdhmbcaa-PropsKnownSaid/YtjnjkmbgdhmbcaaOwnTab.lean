/-
  The tables of props: what its functions hand back. No conditions.
-/
import Derived.Test.YtjnjkmbgdhmbcaaOwn
import Derived.Test.YtjnjkmbgdhmbcaaLit
import Derived.KernelRfl
namespace Go.Proofs.Ytjnjkmbgdhmbcaa
open Go.RowKit Go.RunKit

def ownOthers : List (Int × Int) := refOthers
def oldCells (n : Nat) : Array Value := Array.replicate n (.int .i32 0)
def oldCells3 : Nat → List Value
  | 0 => []
  | n + 1 => .int .i32 0 :: .int .i32 0 :: .int .u8 0 :: oldCells3 n

theorem brackets_lit (w : World) : litOf Try.prog 23 w = some (48, .pointer (some ⟨w.heap.size, 0, none⟩), .agg (cells2 refPairs).toArray, w.alloc (.cells (oldCells 46) 48)) := by kernel_rfl
theorem mirrors_lit (w : World) : litOf Try.prog 27 w = some (55, .pointer (some ⟨w.heap.size, 0, none⟩), .agg (cells2 refOthers).toArray, w.alloc (.cells (oldCells 14) 55)) := by kernel_rfl
theorem under23 : Try.prog.underlying 48 = some (.array 23 47) := by kernel_rfl
theorem under7 : Try.prog.underlying 55 = some (.array 7 47) := by kernel_rfl
theorem size23 : (Try.prog.info? 48).map (·.size) = some 46 := by kernel_rfl
theorem size7 : (Try.prog.info? 55).map (·.size) = some 14 := by kernel_rfl

theorem brackets_any (w : World) : Calls Try.prog 23 #[] w fun e w' => e = .returned (.agg (cells2 refPairs).toArray) ∧ w' = w.alloc (.cells (cells2 refPairs).toArray 48) :=
  calls_of_lit (brackets_lit w) under23 rfl size23 (by rfl) (by kernel_rfl)
theorem mirrors_any (w : World) : Calls Try.prog 27 #[] w fun e w' => e = .returned (.agg (cells2 refOthers).toArray) ∧ w' = w.alloc (.cells (cells2 refOthers).toArray 55) :=
  calls_of_lit (mirrors_lit w) under7 rfl size7 (by rfl) (by kernel_rfl)

theorem ranges_lit (w : World) : litOf Try.prog 20 w = some (42, .pointer (some ⟨w.heap.size, 0, none⟩), .agg (cells3 refRanges).toArray, w.alloc (.cells (oldCells3 146).toArray 42)) := by kernel_rfl
theorem under146 : Try.prog.underlying 42 = some (.array 146 41) := by kernel_rfl
theorem size146 : (Try.prog.info? 42).map (·.size) = some 438 := by kernel_rfl
set_option maxRecDepth 10000 in
theorem ranges_any (w : World) : Calls Try.prog 20 #[] w fun e w' => e = .returned (.agg (cells3 refRanges).toArray) ∧ w' = w.alloc (.cells (cells3 refRanges).toArray 42) :=
  calls_of_lit (ranges_lit w) under146 rfl size146 (by rfl) (by kernel_rfl)
end Go.Proofs.Ytjnjkmbgdhmbcaa
