/-
  The document's cut of a text's first part: it is 'cutAt'. No conditions.
-/
import Derived.Test.YtmhdocgoeahbdaaGreatDoorUCut
import Derived.Test.YtmhdocgoeahbdaaGreatDoorBelow
import Derived.Laws.BitsLemmas
import Derived.Laws.Bits64
namespace Go.Proofs.YtmhdocgoeahbdaaGreatDoor.U
open Go.RowKit Go.RunKit Go.UtfKit Go.Lib

def partCells (p : Part) : Array Value := #[.int .i32 (p.char : Nat), .int .i64 (p.len : Nat), .bool p.ok]

/-- The character so far, behind i bytes of n. -/
def soFar (s : ByteArray) (n : Nat) : Nat → Nat
  | 0 => 0
  | 1 => byteAt s 0 % (if n = 2 then 32 else if n = 3 then 16 else 8)
  | i + 1 => soFar s n i * 64 + byteAt s i % 64
/-- The bytes behind the first, up to i, go on a part. -/
def Tails (s : ByteArray) (i : Nat) : Prop := ∀ j, 1 ≤ j → j < i → j < s.size ∧ (j = 1 → sec (byteAt s 0) (byteAt s 1) = true) ∧ tailB (byteAt s j) = true

theorem tails_one (s : ByteArray) : Tails s 1 := fun j h1 h2 => by omega
theorem tails_succ {s : ByteArray} {k : Nat} (hk : 1 ≤ k) (h : Tails s k) (h1 : k < s.size) (h2 : k = 1 → sec (byteAt s 0) (byteAt s 1) = true) (h3 : tailB (byteAt s k) = true) : Tails s (k + 1) := by
  intro j hj1 hj2
  by_cases e : j = k
  · subst e; exact ⟨h1, h2, h3⟩
  · exact h j hj1 (by omega)
theorem tails_not {s : ByteArray} {k : Nat} (hk : 1 ≤ k) (h : ¬ k < s.size ∨ (k = 1 ∧ sec (byteAt s 0) (byteAt s 1) = false) ∨ tailB (byteAt s k) = false) : ¬ Tails s (k + 1) := by
  intro ht
  obtain ⟨h1, h2, h3⟩ := ht k hk (by omega)
  rcases h with h | ⟨e, h⟩ | h
  · exact h h1
  · rw [h2 e] at h; cases h
  · rw [h3] at h; cases h

/-- A block of three cells of the call's own, and what a store of three leaves there. -/
def three (w : World) (b : Nat) (T : TypeId) (x y z : Value) : Prop := w.heap[b]? = some (Obj.cells #[x, y, z] T (0, 0))
theorem three_store {w : World} {b : Nat} {T : TypeId} {x y z x' y' z' : Value} (h : three w b T x y z) : three (((w.setCell ⟨b, 0, none⟩ x').setCell ⟨b, 1, none⟩ y').setCell ⟨b, 2, none⟩ z') b T x' y' z' := by
  unfold three at h ⊢
  simp [World.setCell, Array.getElem?_modify, h]
theorem three_cells {w : World} {b : Nat} {T : TypeId} {x y z : Value} (h : three w b T x y z) : w.cell? ⟨b, 0, none⟩ = some x ∧ w.cell? ⟨b, 1, none⟩ = some y ∧ w.cell? ⟨b, 2, none⟩ = some z ∧
    w.frozen? ⟨b, 0, none⟩ = false ∧ w.frozen? ⟨b, 1, none⟩ = false ∧ w.frozen? ⟨b, 2, none⟩ = false := by
  unfold three at h
  refine ⟨?_, ?_, ?_, frozen_of_row _ _ _ _ _ h, frozen_of_row _ _ _ _ _ h, frozen_of_row _ _ _ _ _ h⟩
  all_goals rw [cell_of_row _ _ _ _ _ _ h]; rfl

theorem wraps_i32 (n : Int) (h₀ : 0 ≤ n) (h₁ : n < 2 ^ 31) : IntKind.i32.wrap n = n := by
  rw [IntKind.wrap_i32]; omega
theorem and_low (b j : Nat) (hb : b < 256) (hj : j ≤ 8) : bits .and .i32 (b : Int) (((2 ^ j - 1 : Nat)) : Int) = ((b % 2 ^ j : Nat) : Int) := by
  have hp : 2 ^ j ≤ 2 ^ 8 := Nat.pow_le_pow_right (by decide) hj
  have h := (bits_nat .i32 31 (by decide) wraps_i32 b (2 ^ j - 1) (by omega) (by omega)).1
  rw [Nat.and_two_pow_sub_one_eq_mod] at h
  exact h
theorem or_low (x c : Nat) (hx : x < 16777216) : bits .or .i32 (wrap32 ((x : Int) * 64)) ((c : Int) % 64) = ((x * 64 + c % 64 : Nat) : Int) := by
  have e1 : wrap32 ((x : Int) * 64) = ((x * 64 : Nat) : Int) := by rw [IntWalk.wrap32_in _ ⟨by omega, by omega⟩]; push_cast; rfl
  have e2 : ((c : Int) % 64) = ((c % 64 : Nat) : Int) := by omega
  rw [e1, e2, (bits_nat .i32 31 (by decide) wraps_i32 (x * 64) (c % 64) (by omega) (by omega)).2]
  congr 1
  have h := Nat.shiftLeft_add_eq_or_of_lt (show c % 64 < 2 ^ 6 by omega) x
  rw [Nat.shiftLeft_eq] at h
  exact h.symm
theorem soFar_lt (s : ByteArray) (n : Nat) : soFar s n 1 < 32 ∧ soFar s n 2 < 2048 ∧ soFar s n 3 < 131072 ∧ soFar s n 4 < 8388608 := by
  have h1 : soFar s n 1 < 32 := by
    have e : soFar s n 1 = byteAt s 0 % (if n = 2 then 32 else if n = 3 then 16 else 8) := rfl
    rw [e]
    repeat' split
    all_goals omega
  have h2 : soFar s n 2 = soFar s n 1 * 64 + byteAt s 1 % 64 := rfl
  have h3 : soFar s n 3 = soFar s n 2 * 64 + byteAt s 2 % 64 := rfl
  have h4 : soFar s n 4 = soFar s n 3 * 64 + byteAt s 3 % 64 := rfl
  omega
theorem soFar_small (s : ByteArray) (n k : Nat) (hk : 1 ≤ k) (hk4 : k ≤ 4) : soFar s n k < 16777216 := by
  have := soFar_lt s n
  rcases (by omega : k = 1 ∨ k = 2 ∨ k = 3 ∨ k = 4) with rfl | rfl | rfl | rfl <;> omega
theorem soFar_succ (s : ByteArray) (n k : Nat) (hk : 1 ≤ k) : soFar s n (k + 1) = soFar s n k * 64 + byteAt s k % 64 := by
  obtain ⟨j, rfl⟩ : ∃ j, k = j + 1 := ⟨k - 1, by omega⟩
  rfl
theorem partAgg : (Tryz.prog.underlying 84).any (fun d => match d with | .struct _ | .array _ _ => true | _ => false) = true := by kernel_rfl
theorem partSize : (Tryz.prog.info? 84).map (·.size) = some 3 := by kernel_rfl
theorem part_results {fn : Func} (h : fn.results = #[.cell 2 84]) (tmps : Array Value) (w : World) (b : Nat) (x y z : Value) (hp : tmps.getD 2 undef = .pointer (some ⟨b, 0, none⟩)) (hc : three w b 84 x y z) :
    (results fn tmps).run Tryz.prog w = .ok (.agg #[x, y, z]) w := by
  cases hd : Tryz.prog.underlying 84 with
  | none => have := partAgg; rw [hd] at this; cases this
  | some d =>
    have ha := partAgg
    rw [hd] at ha
    exact results_cell_row h tmps w b _ _ _ d hp hc hd (by cases d <;> first | rfl | cases ha) partSize

end Go.Proofs.YtmhdocgoeahbdaaGreatDoor.U

