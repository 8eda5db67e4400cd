/-
  String of utf; the law's short look at all three functions. Conditions: the library's two tables hold what its text lays.
-/
import Derived.Test.YtmhdocgoeahbdaaGreatDoorShelf
import Derived.Test.YtmhdocgoeahbdaaGreatDoorUEach
import Derived.Test.YtmhdocgoeahbdaaGreatDoorURunes
import Derived.Test.YtmhdocgoeahbdaaGreatDoorBelow
import Derived.Laws.Cover4
import Derived.Laws.IdiomStrings
import Derived.Lib.SlBytesConst
import Derived.Lib.QuoteLoop
import Derived.Shelf.Strings.BuilderRune
namespace Go.Proofs.YtmhdocgoeahbdaaGreatDoor.U
open Go.RowKit Go.RunKit Go.UtfKit Go.Lib Go.Shelf

theorem underByte : Tryz.prog.underlying 5 = some (.int .u8) := by kernel_rfl
theorem underRune : Tryz.prog.underlying 21 = some (.int .i32) := by kernel_rfl
theorem underString : Tryz.prog.underlying 9 = some .string := by kernel_rfl
theorem underBytes : Tryz.prog.underlying 55 = some (.slice 5) := by kernel_rfl

set_option maxRecDepth 100000 in
set_option maxHeartbeats 1000000 in
theorem string_any (a : Addr) (cap : Nat) (zs : List Int) (w : World) (hc : ∀ j, j < zs.length → w.cell? (a.add j) = some (.int .i32 (zs.getD j 0))) :
    Calls Tryz.prog 94 #[.slice (some a) zs.length cap] w fun e w' => e = .returned (.string (runesBytes zs)) ∧ w = w' := by
  have hcv := run_convert_runes (P := Tryz.prog) w 41 9 21 a zs.length cap zs (Nat.le_refl _) Tryz.underRunes underRune underString hc
  rw [List.take_length] at hcv
  clear hc
  generalize runesBytes zs = t at *
  generalize zs.length = n at *
  go_enter Tryz.func94, Tryz.ntmps94
  go_wp2
  go_ret
  exact ⟨rfl, rfl⟩

end Go.Proofs.YtmhdocgoeahbdaaGreatDoor.U

