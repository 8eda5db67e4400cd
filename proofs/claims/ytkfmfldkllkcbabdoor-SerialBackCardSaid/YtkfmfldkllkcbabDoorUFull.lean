/-
  utf8.FullRuneInString: whether bytes begin with a whole part. Conditions: the library's two tables hold what its text lays.
-/
import Derived.Test.YtkfmfldkllkcbabDoorUMath2
import Derived.Test.YtkfmfldkllkcbabDoorRows
import Derived.Test.YtkfmfldkllkcbabDoorKit
namespace Go.Proofs.YtkfmfldkllkcbabDoor.U
open Go.RowKit Go.RunKit Go.UtfKit Go.Lib

theorem byteAt_get (s : ByteArray) (i : Nat) (h : i < s.size) : byteAt s i = (s[i]'h).toNat := by
  unfold byteAt
  congr 1
  simp [ByteArray.get!, getElem!_pos, h]
  rfl

end Go.Proofs.YtkfmfldkllkcbabDoor.U

