/-
  Small lemmas for walks: what stands at a place of a list, the first that fits, results of two and three parts. No conditions.
-/
import Derived.WalkSpells
import Derived.WalkLawsBesides
import Derived.Deep.QuietTactic
import Derived.BigQuiet
import Derived.Lib.Hide
import Derived.WalkSmall
import Derived.WalkKit
namespace Go.RunKit
open Go Go.RowKit

theorem ret1_eq {a a' : Value} (h1 : a = a') : Ending.returned a = .returned a' := by rw [h1]
theorem add_at (g j : Nat) : (⟨g, 0, none⟩ : Addr).add j = ⟨g, j, none⟩ := by
  unfold Addr.add
  by_cases h : j = 0
  · subst h; rfl
  · simp [h]
theorem some_at {α : Type} {l : List α} {k n : Nat} (hn : l.length = n) (h : k < n) : ∃ x, l[k]? = some x := ⟨l[k]'(by omega), by simp⟩
end Go.RunKit

