/-
  Decode of utf: the closure that takes the parts, and what is told. Conditions: the library's two tables hold what its text lays.
-/
import Derived.Test.YtkfmfldkllkcbabDoorShelf
import Derived.Test.YtkfmfldkllkcbabDoorUEach
import Derived.Test.YtkfmfldkllkcbabDoorURunes
import Derived.Shelf.Strings.BuilderRune
namespace Go.Proofs.YtkfmfldkllkcbabDoor.U
open Go.RowKit Go.RunKit Go.UtfKit Go.Lib Go.Shelf

theorem builderAt_blocks {T e : TypeId} {B b : Nat} {p : Value} {bs : List Value} {w w' : World} (h : BuilderAtF T e B b p bs w) (hk : ∀ (k : Nat) (c : Array Value) (t : TypeId) (fr : Nat × Nat), (k = b ∨ t = e) → w.heap[k]? = some (Obj.cells c t fr) → w'.heap[k]? = some (Obj.cells c t fr)) : BuilderAtF T e B b p bs w' := by
  obtain ⟨hB, v, hb, hown, hne⟩ := h
  refine ⟨hB, v, hk _ _ _ _ (.inl rfl) hb, ⟨hown.1, ?_⟩, hne⟩
  rcases hown.2 with h | ⟨g, cap, cur, fz, e1, e2, e3, e4⟩
  · exact .inl h
  · exact .inr ⟨g, cap, cur, fz, e1, e2, hk _ _ _ _ (.inr rfl) e3, e4⟩
theorem isBuilder_blocks {T e : TypeId} {B b : Nat} {bs : List Value} {w w' : World} (h : IsBuilderF T e B b bs w) (hk : ∀ (k : Nat) (c : Array Value) (t : TypeId) (fr : Nat × Nat), (k = b ∨ t = e) → w.heap[k]? = some (Obj.cells c t fr) → w'.heap[k]? = some (Obj.cells c t fr)) : IsBuilderF T e B b bs w' :=
  h.imp (fun h => builderAt_blocks h hk) (fun h => builderAt_blocks h hk)

end Go.Proofs.YtkfmfldkllkcbabDoor.U

