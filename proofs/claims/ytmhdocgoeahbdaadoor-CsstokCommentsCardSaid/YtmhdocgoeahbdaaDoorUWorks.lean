/-
  String of utf; the law's short look at all three functions. Conditions: the library's two tables hold what its text lays.
-/
import Derived.Test.YtmhdocgoeahbdaaDoorShelf
import Derived.Test.YtmhdocgoeahbdaaDoorUEach
import Derived.Test.YtmhdocgoeahbdaaDoorURunes
import Derived.Test.YtmhdocgoeahbdaaDoorBelow
import Derived.Laws.Cover4
import Derived.Laws.IdiomStrings
import Derived.Lib.SlBytesConst
import Derived.Lib.QuoteLoop
import Derived.Shelf.Strings.BuilderRune
namespace Go.Proofs.YtmhdocgoeahbdaaDoor.U
open Go.RowKit Go.RunKit Go.UtfKit Go.Lib Go.Shelf

theorem underRune : Tryd.prog.underlying 21 = some (.int .i32) := by kernel_rfl
theorem underString : Tryd.prog.underlying 9 = some .string := by kernel_rfl
theorem underBytes : Tryd.prog.underlying 42 = some (.slice 5) := by kernel_rfl

set_option maxRecDepth 100000 in
set_option maxHeartbeats 1000000 in
theorem string_any (a : Addr) (cap : Nat) (zs : List Int) (w : World) (hc : ∀ j, j < zs.length → w.cell? (a.add j) = some (.int .i32 (zs.getD j 0))) :
    Calls Tryd.prog 56 #[.slice (some a) zs.length cap] w fun e w' => e = .returned (.string (runesBytes zs)) ∧ w = w' := by
  have hcv := run_convert_runes (P := Tryd.prog) w 32 9 21 a zs.length cap zs (Nat.le_refl _) Tryd.underRunes underRune underString hc
  rw [List.take_length] at hcv
  clear hc
  generalize runesBytes zs = t at *
  generalize zs.length = n at *
  go_enter Tryd.func56, Tryd.ntmps56
  go_wp2
  go_ret
  exact ⟨rfl, rfl⟩

end Go.Proofs.YtmhdocgoeahbdaaDoor.U

