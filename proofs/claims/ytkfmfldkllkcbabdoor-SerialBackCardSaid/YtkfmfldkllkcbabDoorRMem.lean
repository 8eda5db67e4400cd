/-
  Trees in memory: a row of nodes, each one's attributes and children in rows of their own; the builder's block. No conditions.
-/
import Derived.Test.YtkfmfldkllkcbabDoorRMath
import Derived.Test.YtkfmfldkllkcbabDoorTToks
import Derived.Laws.OwnMore
import Derived.Lib.FrozenHead
namespace Go.Proofs.YtkfmfldkllkcbabDoor
open Go.RowKit Go.RunKit Go.CharrefKit Go.Lib Go.TokenKit Go.TreeKit

abbrev TU8 : TypeId := 5
abbrev TOp : TypeId := 93
def opCell (o : Opd) : List Value := [.int .i64 ((o.node : Nat) : Int), .string ⟨o.name.toArray⟩, .int .u8 ((o.kind : Nat) : Int)]
def opCells (l : List Opd) : List Value := l.flatMap opCell
theorem opCells_cons (o : Opd) (l : List Opd) : opCells (o :: l) = opCell o ++ opCells l := rfl
theorem opCells_snoc (l : List Opd) (o : Opd) : opCells (l ++ [o]) = opCells l ++ opCell o := by simp [opCells]
theorem opCells_len (l : List Opd) : (opCells l).length = l.length * 3 := by
  induction l with
  | nil => rfl
  | cons x r ih => rw [opCells_cons, List.length_append, ih, List.length_cons]; show 3 + _ = _; omega
theorem opCells_at : ∀ {l : List Opd} {k : Nat} {o : Opd} {c : Nat}, l[k]? = some o → c < 3 → (opCells l)[k * 3 + c]? = (opCell o)[c]?
  | [], k, x, c, h, _ => by simp at h
  | y :: r, 0, x, c, h, hc => by
    simp only [List.getElem?_cons_zero, Option.some.injEq] at h
    subst h
    rw [opCells_cons, Nat.zero_mul, Nat.zero_add, List.getElem?_append_left (by exact hc)]
  | y :: r, k + 1, x, c, h, hc => by
    have := opCells_at (l := r) (k := k) (o := x) (c := c) (by simpa using h) hc
    rw [opCells_cons, List.getElem?_append_right (by show 3 ≤ _; omega)]
    rw [show (k + 1) * 3 + c - (opCell y).length = k * 3 + c by show (k + 1) * 3 + c - 3 = _; omega]
    exact this

/-- Rows of another type than a block's stay, when that block alone changes. -/
theorem own_other {w w' : World} {base size n k : Nat} {e T : TypeId} {v : Value} {xs : List Value} {cs : Array Value} {fr : Nat × Nat} (h : w.ownsRow base e size v n xs) (hk : w.heap[k]? = some (.cells cs T fr)) (hT : T ≠ e) (hg : w.grownBy w' (some k)) : w'.ownsRow base e size v n xs :=
  World.ownsRow.kept h hg (.inr (own_ne h hk hT))
theorem ownF_ne {w : World} {base k size n : Nat} {e T : TypeId} {v : Value} {xs : List Value} {cs : Array Value} {fr : Nat × Nat} (h : w.ownsRowF base e size v n xs) (hk : w.heap[k]? = some (.cells cs T fr)) (hT : T ≠ e) : v.ownBlock ≠ some k := by
  intro ee
  rcases h.2 with ⟨rfl, _⟩ | ⟨g, cap, cur, fz, rfl, _, hg, _⟩
  · simp [Value.ownBlock] at ee
  · simp only [Value.ownBlock, Option.some.injEq] at ee
    subst ee
    rw [hk] at hg
    simp only [Option.some.injEq, Obj.cells.injEq] at hg
    exact hT hg.2.1
/-- The row without its last one. -/
theorem opens_pop {w : World} {base : Nat} {ao : Option Addr} {cap : Nat} {o : Opd} {r : List Opd} (h : w.ownsRow base TOp 3 (.slice ao (r.length + 1) cap) (r.length + 1) (opCells (o :: r).reverse)) : w.ownsRow base TOp 3 (.slice ao r.length cap) r.length (opCells r.reverse) := by
  refine ⟨by rw [opCells_len, List.length_reverse], ?_⟩
  rcases h.2 with ⟨_, hn⟩ | ⟨g, c, cur, e, hb, hg, hc, hm, hs, ht⟩
  · omega
  · cases e
    refine .inr ⟨g, cap, cur, rfl, hb, hg, by omega, hm, hs, ?_⟩
    rw [List.reverse_cons, opCells_snoc] at ht
    have h2 := congrArg (List.take (r.length * 3)) ht
    rw [List.take_take, Nat.min_eq_left (by omega), List.take_left' (by rw [opCells_len, List.length_reverse])] at h2
    exact h2
/-- The cells of the top. -/
theorem opens_top {w : World} {base : Nat} {ao : Option Addr} {cap n : Nat} {o : Opd} {r : List Opd} (h : w.ownsRow base TOp 3 (.slice ao n cap) n (opCells (o :: r).reverse)) (hn : n = r.length + 1) :
    ∃ g, ao = some ⟨g, 0, none⟩ ∧ w.cell? ⟨g, r.length * 3, none⟩ = some (.int .i64 ((o.node : Nat) : Int)) ∧ w.cell? ⟨g, r.length * 3 + 1, none⟩ = some (.string ⟨o.name.toArray⟩) ∧ w.cell? ⟨g, r.length * 3 + 2, none⟩ = some (.int .u8 ((o.kind : Nat) : Int)) := by
  subst hn
  have h' := h
  have hr : (o :: r).reverse[r.length]? = some o := by rw [List.reverse_cons]; simp
  rcases h'.2 with ⟨_, hn⟩ | ⟨g, c, cur, e, _⟩
  · omega
  · cases e
    refine ⟨g, rfl, ?_, ?_, ?_⟩
    · have := opCells_at hr (c := 0) (by decide)
      rw [World.ownsRow.cellAt h (r.length * 3) (by omega)]; exact this
    · have := opCells_at hr (c := 1) (by decide)
      rw [World.ownsRow.cellAt h (r.length * 3 + 1) (by omega)]; exact this
    · have := opCells_at hr (c := 2) (by decide)
      rw [World.ownsRow.cellAt h (r.length * 3 + 2) (by omega)]; exact this
end Go.Proofs.YtkfmfldkllkcbabDoor

