/-
  The program's own functions of layer 1: what each of them comes to. Conditions: the two tables hold what the text lays.
-/
import Derived.Test.YtjnjkmbgdhmbcaaRef
namespace Go.Proofs.Ytjnjkmbgdhmbcaa
open Go.RowKit Go.RunKit

theorem canonical_any (r : Int) (w : World) :
    Calls Try.prog 24 #[.int .i32 r] w fun e w' => e = .returned (.int .i32 (canon r)) ∧ w = w' := by
  go_enter Try.func24, Try.ntmps24
  go_wp2
  all_goals go_ret
  all_goals simp_all [canon]

theorem space_any (r : Int) (w : World) :
    Calls Try.prog 17 #[.int .i32 r] w fun e w' => e = .returned (.bool (r == 9 || r == 10 || r == 12 || r == 13 || r == 32)) ∧ w = w' := by
  go_enter Try.func17, Try.ntmps17
  go_wp2
  all_goals go_ret
  all_goals simp_all

end Go.Proofs.Ytjnjkmbgdhmbcaa
