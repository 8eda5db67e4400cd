/-
  The reader of package token, step by step: take, takeUpTo, leaveOutBlanks, took, quoted. Conditions: texts are no longer than 2^31 bytes.
-/
import Derived.Test.YtkfmfldkllkcbabDoorTMath
import Derived.Test.YtkfmfldkllkcbabDoorTAny
import Derived.Laws.IdiomStrings
namespace Go.TokenKit
open Go Go.Lib
end Go.TokenKit
namespace Go.Proofs.YtkfmfldkllkcbabDoor
open Go.RowKit Go.RunKit Go.CharrefKit Go.Lib Go.TokenKit

theorem grown_below {w w' : World} (h : Below w.heap.size w w') (row : Option Nat) : w.grownBy w' row := ⟨h.os, h.tape, h.output, h.size, fun k hk _ => h.block k hk⟩
end Go.Proofs.YtkfmfldkllkcbabDoor

