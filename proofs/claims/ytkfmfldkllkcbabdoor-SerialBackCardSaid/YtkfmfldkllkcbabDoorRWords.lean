/-
  The words under way: strings.Builder within the builder of package tree. Conditions: the words are no more than 2^46 bytes.
-/
import Derived.Test.YtkfmfldkllkcbabDoorRStack
namespace Go.Proofs.YtkfmfldkllkcbabDoor
open Go.RowKit Go.RunKit Go.CharrefKit Go.Lib Go.TokenKit Go.TreeKit

abbrev TSb : TypeId := 46
theorem underPtrB : Tryd.prog.underlying 44 = some (.pointer TSb) := by kernel_rfl
theorem underUnsafeB : Tryd.prog.underlying 75 = some .unsafePointer := by kernel_rfl
theorem sizeBuilderB : (Tryd.prog.info? TSb).map (·.size) = some 2 := by kernel_rfl
theorem own_fset {w : World} {base b size n : Nat} {cs : Array Value} {T : TypeId} {v u : Value} {xs : List Value} {i : Nat} {fr : Nat × Nat} (h : w.ownsRowF base TU8 size u n xs) (hb : w.heap[b]? = some (.cells cs T fr)) (hT : T ≠ TU8) : (w.setCell ⟨b, i, none⟩ v).ownsRowF base TU8 size u n xs :=
  World.ownsRowF.kept h (grown_set _ _ _ _) (.inr (ownF_ne h hb hT))
theorem below_none {w w' : World} (hg : w.grownBy w' none) : Below w.heap.size w w' := ⟨hg.os, hg.tape, hg.output, hg.size, fun k hk => hg.block k hk (by simp)⟩
theorem freeze_other (w : World) (g n k : Nat) (h : k ≠ g) : (w.freeze ⟨g, 0, none⟩ n).heap[k]? = w.heap[k]? := by
  unfold World.freeze
  split
  · rfl
  · simp only [Array.getElem?_modify]
    rw [if_neg (fun e => h e.symm)]
theorem freeze_grown (w : World) (g n : Nat) : w.grownBy (w.freeze ⟨g, 0, none⟩ n) (some g) := by
  have hb := Lib.below_freeze (B := 0) (Below.refl 0 w) (p := ⟨g, 0, none⟩) (Nat.zero_le _) n
  exact ⟨hb.os, hb.tape, hb.output, hb.size, fun k _ hk => freeze_other w g n k (fun e => hk (by rw [e]))⟩
theorem underPtrU8 : Tryd.prog.underlying 68 = some (.pointer TU8) := by kernel_rfl
theorem cellsU8 : Tryd.prog.cellsOf TU8 = 1 := by kernel_rfl
end Go.Proofs.YtkfmfldkllkcbabDoor

