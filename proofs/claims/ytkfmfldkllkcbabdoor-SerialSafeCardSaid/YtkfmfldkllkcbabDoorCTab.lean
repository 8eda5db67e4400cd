/-
  The names of the program, looked up by halves. No conditions.
-/
import Derived.Test.YtkfmfldkllkcbabDoorCMath
import Derived.Test.YtkfmfldkllkcbabDoorKit
import Derived.Test.YtkfmfldkllkcbabDoorShelf
import Derived.Deep.LoopGhost
import Derived.Deep.Draws
import Derived.Shelf.Abstract
import Derived.Deep.CutBlock
import Derived.Laws.Strings
import Derived.Laws.Cover1
import Derived.Deep.WholeRow
namespace Go.CharrefKit
open Go
/-- The order of texts is one. -/
theorem less_trans : ∀ {a b c : List UInt8}, Op.bytesLess a b = true → Op.bytesLess b c = true → Op.bytesLess a c = true
  | _, [], _, h, _ => by simp [Op.bytesLess] at h
  | _, _ :: _, [], _, h => by simp [Op.bytesLess] at h
  | [], _ :: _, _ :: _, _, _ => rfl
  | x :: a, y :: b, z :: c, h1, h2 => by
    simp only [Op.bytesLess, Bool.or_eq_true, decide_eq_true_eq, Bool.and_eq_true, beq_iff_eq] at h1 h2 ⊢
    rcases h1 with h1 | ⟨rfl, h1⟩
    · rcases h2 with h2 | ⟨rfl, h2⟩
      · exact .inl (UInt8.lt_trans h1 h2)
      · exact .inl h1
    · rcases h2 with h2 | ⟨rfl, h2⟩
      · exact .inl h2
      · exact .inr ⟨rfl, less_trans h1 h2⟩
def bytesOf (l : List Nat) : List UInt8 := l.map Nat.toUInt8
theorem rising_table : ((List.range 58).all fun i => Op.bytesLess (bytesOf (tabC.getD i ([], 0, false)).1) (bytesOf (tabC.getD (i + 1) ([], 0, false)).1)) = true := by kernel_rfl
theorem rising {i j : Nat} (hij : i < j) (hj : j < 59) : Op.bytesLess (bytesOf (tabC.getD i ([], 0, false)).1) (bytesOf (tabC.getD j ([], 0, false)).1) = true := by
  induction j with
  | zero => omega
  | succ j ih =>
    have hs := List.all_eq_true.1 rising_table j (List.mem_range.2 (by omega))
    by_cases e : i = j
    · subst e; exact hs
    · exact less_trans (ih (by omega) (by omega)) hs
end Go.CharrefKit
namespace Go.Proofs.YtkfmfldkllkcbabDoor
open Go.RowKit Go.RunKit Go.CharrefKit Go.Lib

end Go.Proofs.YtkfmfldkllkcbabDoor

