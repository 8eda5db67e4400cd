/-
  The reader of package token: a tag. Conditions: texts are no longer than 2^31 bytes.
-/
import Derived.Test.YtkfmfldkllkcbabDoorTRead
import Derived.Test.YtkfmfldkllkcbabDoorCDec
import Derived.Maps.AppendAt
import Derived.Shelf.Abstract
import Derived.Laws.OwnMore
import Derived.Laws.ResultCell
import Derived.Laws.Rows
import Derived.Sort.AtCall
namespace Go.TokenKit
open Go Go.Lib Go.CharrefKit
end Go.TokenKit
namespace Go.Proofs.YtkfmfldkllkcbabDoor
open Go.RowKit Go.RunKit Go.CharrefKit Go.Lib Go.TokenKit

theorem grown_set (w : World) (g i : Nat) (v : Value) : w.grownBy (w.setCell ⟨g, i, none⟩ v) (some g) :=
  ⟨rfl, rfl, rfl, by simp [World.setCell], fun k _ hk => heap_setCell_other w ⟨g, i, none⟩ k v (fun e => hk (by rw [show k = g from e]))⟩
theorem sliceOf {w : World} {base : Nat} {e : TypeId} {size : Nat} {v : Value} {n : Nat} {xs : List Value} (h : w.ownsRow base e size v n xs) : ∃ a cap, v = .slice a n cap := by
  rcases h.2 with ⟨rfl, rfl⟩ | ⟨g, cap, cur, rfl, _⟩
  · exact ⟨_, _, rfl⟩
  · exact ⟨_, _, rfl⟩
end Go.Proofs.YtkfmfldkllkcbabDoor

