/-
  A region that draws its order, whose callees lay blocks of their own and leave all else: walked once, in the order of the text. No conditions.
-/
import Derived.Test.YtmhdocgoeahbdaaGreatDoorKit
namespace Go.RunKit
open Go Go.RowKit

/-- A world that is as w below w's own blocks. -/
structure Over (w : World) where
  out : World
  below : Below w.heap.size w out

def Over.same (w : World) : Over w := ⟨w, Below.refl _ _⟩
instance (w : World) : Inhabited (Over w) := ⟨Over.same w⟩
def Over.drew {w : World} (p : Over w) : Over w := ⟨p.out.drew, p.below.drew⟩
def Over.on {w w' : World} (p : Over w) (h : Below p.out.heap.size p.out w') : Over w := ⟨w', p.below.trans (h.mono p.below.size)⟩

theorem wp_region_below {P : Program} {id : Nat} {Q : Exit → Act → World → Prop} {a : Act} {w : World} {l : List Oper} (hm : P.follows .mixedOrders = true) (hB : Region.lexB .any l.toArray = true)
    (h : wpQuiet P l.toArray (fun w' => ∃ p : Over w, w' = p.out) (fun a' => ∀ w', (∃ p : Over w, w' = p.out) → Q .normal a' w') l a) : (Code.region id l.toArray true).wp P Q a w :=
  wp_region_quiet (C := fun w' => ∃ p : Over w, w' = p.out) hm hB ⟨(Over.same w).drew, rfl⟩ (by simpa using h)

theorem Over.cell {w : World} (p : Over w) {a : Addr} {v : Value} (h : w.cell? a = some v) : p.out.cell? a = some v := by
  have hb := World.block_lt_of_cell? _ _ h
  rw [p.below.cell hb]; exact h

/-- A callee's contract in a world of the class. -/
theorem calls_over {P : Program} {f : FuncId} {args : Array Value} {w : World} {p : Over w} {v : Value} (h : Calls P f args p.out fun e w' => e = .returned v ∧ Below p.out.heap.size p.out w') :
    Calls P f args p.out fun e w'' => e = .returned v ∧ ∃ q : Over w, w'' = q.out := h.mono fun _ _ ⟨he, hb⟩ => ⟨he, p.on hb, rfl⟩
end Go.RunKit

