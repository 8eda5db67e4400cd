/-
  Runes of utf hands back the characters of the parts. Conditions: the library's two tables hold what its text lays; the text is no longer than 2^40 bytes.
-/
import Derived.Test.YtkfmfldkllkcbabDoorUEach
import Derived.KernelRfl
namespace Go.Proofs.YtkfmfldkllkcbabDoor.U
open Go.RowKit Go.RunKit Go.UtfKit Go.Lib

theorem Tryd.underRunes : Tryd.prog.underlying 56 = some (.slice 21) := by kernel_rfl

end Go.Proofs.YtkfmfldkllkcbabDoor.U

