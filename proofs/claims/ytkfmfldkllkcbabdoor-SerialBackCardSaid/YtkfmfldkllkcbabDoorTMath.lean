/-
  Tokens over lists of bytes: the document's answer, by definition. No conditions.
-/
import Derived.Test.YtkfmfldkllkcbabDoorCMath
import Derived.Lib.IndexMore
import Derived.Lib.Strings
import Derived.Lib.SlTrimSet
namespace Go.TokenKit
open Go Go.Lib Go.CharrefKit

abbrev Bytes := List UInt8
def behind (stops l : Bytes) : Bytes := l.dropWhile fun b => !stops.contains b
abbrev At := Bytes × Bytes
/-! What is read is shorter. -/
theorem cut_len (l p : Bytes) : (cut l p).2.1.length ≤ l.length := by
  unfold cut
  split
  · simp
  · simp
end Go.TokenKit

