/-
  Tokens of package csstok: it tells what the document says. Conditions: the library's two tables hold what its text lays; texts are no longer than 2^30 bytes.
-/
import Derived.Test.YtmhdocgoeahbdaaGreatDoorQToksM
import Derived.Laws.EntriesVeiled
namespace Go.Proofs.YtmhdocgoeahbdaaGreatDoor
open Go.RowKit Go.RunKit Go.UtfKit Go.Lib Go.CssKit

abbrev TTa : TypeId := 46
def fnV (k : Nat) : Value := .func (.func k) #[] #[]
def fnsV : Array Value := #[.func (.func 34) #[] #[], .func (.func 35) #[] #[], .func (.func 36) #[] #[], .func (.func 37) #[] #[], .func (.func 38) #[] #[], .func (.func 39) #[] #[], .func (.func 40) #[] #[], .func (.func 41) #[] #[], .func (.func 42) #[] #[]]
set_option maxRecDepth 100000 in
theorem taker_index (k : Nat) (hk : k < 9) (w : World) : (Instr.index TTa (.agg fnsV) (.int .i64 ((k : Nat) : Int))).run Tryz.prog w = .ok (.func (.func (34 + k)) #[] #[]) w := by
  rcases (by omega : k = 0 ∨ k = 1 ∨ k = 2 ∨ k = 3 ∨ k = 4 ∨ k = 5 ∨ k = 6 ∨ k = 7 ∨ k = 8) with rfl | rfl | rfl | rfl | rfl | rfl | rfl | rfl | rfl <;> rfl
theorem taker_enters (k : Nat) (hk : k < 9) : ∀ args w, (callFunc (34 + k) args).run Tryz.prog w = .ok (.enter (34 + k) args) w := by
  rcases (by omega : k = 0 ∨ k = 1 ∨ k = 2 ∨ k = 3 ∨ k = 4 ∨ k = 5 ∨ k = 6 ∨ k = 7 ∨ k = 8) with rfl | rfl | rfl | rfl | rfl | rfl | rfl | rfl | rfl
  · exact enters_of Tryz.func34 (by kernel_rfl) rfl
  · exact enters_of Tryz.func35 (by kernel_rfl) rfl
  · exact enters_of Tryz.func36 (by kernel_rfl) rfl
  · exact enters_of Tryz.func37 (by kernel_rfl) rfl
  · exact enters_of Tryz.func38 (by kernel_rfl) rfl
  · exact enters_of Tryz.func39 (by kernel_rfl) rfl
  · exact enters_of Tryz.func40 (by kernel_rfl) rfl
  · exact enters_of Tryz.func41 (by kernel_rfl) rfl
  · exact enters_of Tryz.func42 (by kernel_rfl) rfl
set_option maxRecDepth 100000 in
set_option maxHeartbeats 1000000 in
theorem takers_any (w : World) : Calls Tryz.prog 19 #[] w fun e w' => e = .returned (.agg fnsV) ∧ Below w.heap.size w w' := by
  go_enter Tryz.func19, Tryz.ntmps19
  go_big_wp2
  exact bodyPost_ret (results_cell_row rfl _ _ w.heap.size TTa _ _ _ rfl (heap_alloc_new w _) Tryz.underlying46 rfl (by kernel_rfl)) rfl ⟨rfl, (Below.refl _ _).alloc (Nat.le_refl _) _⟩

def tokC (t : CT) : List Value := [.int .u8 ((t.kind : Nat) : Int), .string ⟨t.value.toArray⟩, .string ⟨t.unit.toArray⟩, .bool t.id]
def tokCells (l : List CT) : List Value := l.flatMap tokC
theorem tokCells_snoc (l : List CT) (t : CT) : tokCells (l ++ [t]) = tokCells l ++ tokC t := by simp [tokCells]
theorem tokCells_len (l : List CT) : (tokCells l).length = l.length * 4 := by
  induction l with
  | nil => rfl
  | cons t r ih => unfold tokCells at ih ⊢; rw [List.flatMap_cons, List.length_append, ih, List.length_cons]; show 4 + _ = _; omega
/-- A row of tokens of one's own. -/
def OwnT (w : World) (base : Nat) (v : Value) (l : List CT) : Prop := w.ownsRow base TTc 4 v l.length (tokCells l)
theorem OwnT.nil (w : World) (base : Nat) : OwnT w base (.slice none 0 0) [] := World.ownsRow_nil _ _ _ _
theorem OwnT.moved {wr wr' : World} {b base : Nat} {v : Value} {l : List CT} (h : OwnT wr base v l) (hm : wr.grownBy wr' (some b)) (hb : b < base) : OwnT wr' base v l :=
  World.ownsRow.kept h hm (.inr fun e => by have := (World.ownsRow.lt h _ e).1; omega)
theorem OwnT.below {wr wr' : World} {base : Nat} {v : Value} {l : List CT} (h : OwnT wr base v l) (hb : Below wr.heap.size wr wr') : OwnT wr' base v l :=
  World.ownsRow.kept h (qg_below hb none) (by cases v.ownBlock <;> simp)
theorem Tryz.infoTcT : (Tryz.prog.info? TTc).map (fun i => (i.zero, i.size, i.bytes)) = some (some (.agg #[.int .u8 0, .string ⟨#[]⟩, .string ⟨#[]⟩, .bool false]), 4, 48) := by kernel_rfl
end Go.Proofs.YtmhdocgoeahbdaaGreatDoor
