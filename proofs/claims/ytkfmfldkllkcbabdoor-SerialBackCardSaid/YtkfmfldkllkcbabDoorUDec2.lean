/-
  Decode of utf: what it tells of bytes. Conditions: the library's two tables hold what its text lays.
-/
import Derived.Test.YtkfmfldkllkcbabDoorUDec
import Derived.Test.YtkfmfldkllkcbabDoorKit
import Derived.Lib.QuoteLoop
namespace Go.Proofs.YtkfmfldkllkcbabDoor.U
open Go.RowKit Go.RunKit Go.UtfKit Go.Lib Go.Shelf

theorem parts_mem (s : ByteArray) : ∀ (f i : Nat) (p : Part), p ∈ partsF s f i → ∃ j, j < s.size ∧ p = cutAt s j
  | 0, _, _, h => by simp [partsF] at h
  | f + 1, i, p, h => by
    unfold partsF at h
    split at h
    · rcases List.mem_cons.1 h with rfl | h
      · exact ⟨i, by assumption, rfl⟩
      · exact parts_mem s f _ p h
    · simp at h
end Go.Proofs.YtkfmfldkllkcbabDoor.U

