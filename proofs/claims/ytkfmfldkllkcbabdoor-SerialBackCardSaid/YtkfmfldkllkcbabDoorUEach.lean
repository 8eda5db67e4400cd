/-
  eachPart of utf hands on the character of each part of a text, whatever the closure that takes them. Conditions: what the closure keeps is not turned by what lies beside it; the library's two tables hold what its text lays.
-/
import Derived.Test.YtkfmfldkllkcbabDoorUFull
import Derived.Deep.LoopGhost
import Derived.Shelf.Abstract
import Derived.Lib.OthersKept
namespace Go.Proofs.YtkfmfldkllkcbabDoor.U
open Go.RowKit Go.RunKit Go.UtfKit Go.Lib Go.Shelf

/-- A world in which iterators may have gone on, and blocks have been laid: all below n0, and all cells, are as they were. -/
structure Beside (n0 : Nat) (w w' : World) : Prop where
  os : w'.os = w.os
  tape : w'.tape = w.tape
  output : w'.output = w.output
  size : w.heap.size ≤ w'.heap.size
  low : ∀ k : Nat, k < n0 → w'.heap[k]? = w.heap[k]?
  cells : ∀ (k : Nat) (c : Array Value) (t : TypeId) (fr : Nat × Nat), w.heap[k]? = some (Obj.cells c t fr) → w'.heap[k]? = some (Obj.cells c t fr)
theorem Beside.of_below {n0 : Nat} {w w' : World} (h : Below w.heap.size w w') (hn : n0 ≤ w.heap.size) : Beside n0 w w' :=
  ⟨h.os, h.tape, h.output, h.size, fun k hk => h.block k (by omega), fun k c t fr hk => by
    have hlt : k < w.heap.size := (Array.getElem?_eq_some_iff.1 hk).1
    rw [h.block k hlt]; exact hk⟩
theorem Beside.iterAt {n0 : Nat} {w : World} {k pos pos' : Nat} {s : ByteArray} (hk : w.heap[k]? = some (Obj.stringIter s pos)) (hn : n0 ≤ k) : Beside n0 w (w.iterAt k s pos') :=
  ⟨rfl, rfl, rfl, by rw [iterAt_size]; exact Nat.le_refl _, fun j hj => iterAt_other w k j s pos' (by omega), fun j c t fr hj => by
    by_cases e : j = k
    · subst e; rw [hk] at hj; cases hj
    · rw [iterAt_other w k j s pos' e]; exact hj⟩

theorem byteAt_drop (s : ByteArray) (pos i : Nat) : byteAt (s.extract pos s.size) i = byteAt s (pos + i) := by
  by_cases h : pos + i < s.size
  · have h1 : i < (s.extract pos s.size).size := by simp; omega
    rw [byteAt_get _ _ h1, byteAt_get s _ h]
    congr 1
    simp [ByteArray.getElem_extract]
  · have h1 : ¬ i < (s.extract pos s.size).size := by simp; omega
    have e : ∀ (t : ByteArray) (j : Nat), ¬ j < t.size → byteAt t j = 0 := fun t j hj => by
      unfold byteAt
      have : t.data[j]! = default := getElem!_neg _ _ hj
      show (t.data[j]!).toNat = 0
      rw [this]; rfl
    rw [e _ _ h1, e _ _ h]
end Go.Proofs.YtkfmfldkllkcbabDoor.U

