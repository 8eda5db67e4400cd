/-
  A character as a text, and texts as rows of bytes. No conditions.
-/
import Derived.Test.YtkfmfldkllkcbabDoorCBuild
import Derived.Laws.Cover4
import Derived.Laws.IdiomStrings
import Derived.Lib.QuoteLoop
namespace Go.CharrefKit
open Go Go.Lib
/-- The bytes of a text. -/
def bl (s : ByteArray) : List UInt8 := s.data.toList
theorem bl_length (s : ByteArray) : (bl s).length = s.size := by simp [bl]
theorem bl_of (l : List UInt8) : bl ⟨l.toArray⟩ = l := by simp [bl]
theorem bl_drop (s : ByteArray) (i : Nat) : bl (s.extract i s.size) = (bl s).drop i := by
  simp [bl, List.extract, List.take_of_length_le]
end Go.CharrefKit
namespace Go.Proofs.YtkfmfldkllkcbabDoor
open Go.RowKit Go.RunKit Go.CharrefKit Go.Lib

end Go.Proofs.YtkfmfldkllkcbabDoor

