/-
  Small lemmas for walks: what stands at a place of a list, the first that fits, results of two and three parts. No conditions.
-/
import Derived.Test.YtkfmfldkllkcbaaGreatDoorLib
import Derived.WalkSpells
import Derived.WalkLawsBesides
import Derived.Deep.QuietTactic
import Derived.BigQuiet
import Derived.Lib.Hide
import Derived.WalkSmall
namespace Go.RunKit
open Go Go.RowKit

theorem ret1_eq {a a' : Value} (h1 : a = a') : Ending.returned a = .returned a' := by rw [h1]
theorem ret2_eq {a b a' b' : Value} (h1 : a = a') (h2 : b = b') : Ending.returned (.tuple #[a, b]) = .returned (.tuple #[a', b']) := by rw [h1, h2]
theorem ret3_eq {a b c a' b' c' : Value} (h1 : a = a') (h2 : b = b') (h3 : c = c') : Ending.returned (.tuple #[a, b, c]) = .returned (.tuple #[a', b', c']) := by rw [h1, h2, h3]

/-- None of the first k fits. -/
def NoneTill {α : Type} (p : α → Bool) (l : List α) (k : Nat) : Prop := ∀ j x, j < k → l[j]? = some x → p x = false
theorem noneTill_zero {α : Type} (p : α → Bool) (l : List α) : NoneTill p l 0 := fun _ _ h => by omega
theorem noneTill_succ {α : Type} {p : α → Bool} {l : List α} {k : Nat} {x : α} (hno : NoneTill p l k) (hx : l[k]? = some x) (h : p x = false) : NoneTill p l (k + 1) := by
  intro j y hj hy
  by_cases e : j = k
  · subst e; rw [hx] at hy; cases hy; exact h
  · exact hno j y (by omega) hy
theorem find_at {α : Type} {p : α → Bool} : ∀ {l : List α} {k : Nat} {x : α}, NoneTill p l k → l[k]? = some x → p x = true → l.find? p = some x := by
  intro l
  induction l with
  | nil => intro k x _ hk; simp at hk
  | cons y r ih =>
    intro k x hno hx h
    cases k with
    | zero => simp only [List.getElem?_cons_zero, Option.some.injEq] at hx; subst hx; simp [List.find?, h]
    | succ k =>
      have h0 := hno 0 y (by omega) (by simp)
      simp only [List.getElem?_cons_succ] at hx
      rw [List.find?_cons_of_neg (by simp [h0])]
      exact ih (fun j z hj hz => hno (j + 1) z (by omega) (by simpa using hz)) hx h
theorem find_not {α : Type} {p : α → Bool} {l : List α} {k : Nat} (hno : NoneTill p l k) (hk : l.length ≤ k) : l.find? p = none := by
  rw [List.find?_eq_none]
  intro x hx
  obtain ⟨j, hj, rfl⟩ := List.getElem_of_mem hx
  simp [hno j l[j] (by omega) (by simp)]

def cells3 : List (Int × Int × Int) → List Value
  | [] => []
  | (a, b, c) :: r => .int .i32 a :: .int .i32 b :: .int .u8 c :: cells3 r
def cells2 : List (Int × Int) → List Value
  | [] => []
  | (a, b) :: r => .int .i32 a :: .int .i32 b :: cells2 r
theorem cells2_length (l : List (Int × Int)) : (cells2 l).length = l.length * 2 := by
  induction l with
  | nil => rfl
  | cons p r ih => obtain ⟨a, b⟩ := p; simp [cells2, ih]; omega
theorem cells2_append (l m : List (Int × Int)) : cells2 (l ++ m) = cells2 l ++ cells2 m := by
  induction l with
  | nil => rfl
  | cons p r ih => obtain ⟨a, b⟩ := p; simp [cells2, ih]
theorem cells2_one (l : List (Int × Int)) : ∀ u ∈ cells2 l, u.oneCell' = true := by
  induction l with
  | nil => intro u h; simp [cells2] at h
  | cons p r ih =>
    obtain ⟨a, b⟩ := p
    intro u h
    simp only [cells2, List.mem_cons] at h
    rcases h with rfl | rfl | h
    · rfl
    · rfl
    · exact ih u h
theorem cells2_at {l : List (Int × Int)} : ∀ {k : Nat} {p : Int × Int}, l[k]? = some p → (cells2 l)[k * 2]? = some (.int .i32 p.1) ∧ (cells2 l)[k * 2 + 1]? = some (.int .i32 p.2) := by
  induction l with
  | nil => intro k p h; simp at h
  | cons x r ih =>
    obtain ⟨a, b⟩ := x
    intro k p h
    cases k with
    | zero => simp only [List.getElem?_cons_zero, Option.some.injEq] at h; subst h; exact ⟨rfl, rfl⟩
    | succ k =>
      have := ih (k := k) (p := p) (by simpa using h)
      rw [show (k + 1) * 2 = k * 2 + 1 + 1 from by omega]
      simpa [cells2] using this
theorem cells3_at {l : List (Int × Int × Int)} : ∀ {k : Nat} {p : Int × Int × Int}, l[k]? = some p → (cells3 l)[k * 3]? = some (.int .i32 p.1) ∧ (cells3 l)[k * 3 + 1]? = some (.int .i32 p.2.1) ∧ (cells3 l)[k * 3 + 2]? = some (.int .u8 p.2.2) := by
  induction l with
  | nil => intro k p h; simp at h
  | cons x r ih =>
    obtain ⟨a, b, c⟩ := x
    intro k p h
    cases k with
    | zero => simp only [List.getElem?_cons_zero, Option.some.injEq] at h; subst h; exact ⟨rfl, rfl, rfl⟩
    | succ k =>
      have := ih (k := k) (p := p) (by simpa using h)
      rw [show (k + 1) * 3 = k * 3 + 1 + 1 + 1 from by omega]
      simpa [cells3] using this
theorem add_at (g j : Nat) : (⟨g, 0, none⟩ : Addr).add j = ⟨g, j, none⟩ := by
  unfold Addr.add
  by_cases h : j = 0
  · subst h; rfl
  · simp [h]
theorem some_at {α : Type} {l : List α} {k n : Nat} (hn : l.length = n) (h : k < n) : ∃ x, l[k]? = some x := ⟨l[k]'(by omega), by simp⟩
end Go.RunKit
