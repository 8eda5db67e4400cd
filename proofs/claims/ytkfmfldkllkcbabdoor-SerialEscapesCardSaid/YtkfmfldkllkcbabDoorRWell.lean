/-
  Is a text well-formed, and without the character 0: the document's way. No conditions.
-/
import Derived.Test.YtkfmfldkllkcbabDoorUMath2
import Derived.Test.YtkfmfldkllkcbabDoorRows
import Derived.Test.YtkfmfldkllkcbabDoorKit
import Derived.Test.YtkfmfldkllkcbabDoorUFull
import Derived.Test.YtkfmfldkllkcbabDoorUEach
import Derived.Test.YtkfmfldkllkcbabDoorRWords
import Derived.Test.YtkfmfldkllkcbabDoorRKind
import Derived.Test.YtkfmfldkllkcbabDoorUDec2
import Derived.Laws.BitsLemmas
import Derived.Laws.Bits64
import Derived.Laws.IdiomStrings
import Derived.Lib.SlBytesConst
import Derived.Deep.RegionHeld3
import Derived.Deep.RegionHeld3
import Derived.Deep.RegionHeld3
import Derived.Deep.RegionHeld
import Derived.Lib.RuneBytes
namespace Go.Proofs.YtkfmfldkllkcbabDoor
open Go.RowKit Go.RunKit Go.UtfKit Go.CharrefKit Go.Lib Go.TokenKit Go.TreeKit

/-- Parts that are well-formed, none of them the character 0. -/
def wellP (p : Part) : Bool := p.ok && decide (p.char ≠ 0)
def wellL (s : ByteArray) : Bool := (parts s).all wellP

theorem well_ok {s : ByteArray} (h : wellL s = true) : ∀ p, p ∈ parts s → p.ok = true := fun p hp => by
  have := List.all_eq_true.1 h p hp
  unfold wellP at this
  simp only [Bool.and_eq_true] at this
  exact this.1
end Go.Proofs.YtkfmfldkllkcbabDoor

