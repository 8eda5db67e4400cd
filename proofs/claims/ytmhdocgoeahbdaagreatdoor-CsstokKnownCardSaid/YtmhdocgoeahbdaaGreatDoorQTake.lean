/-
  The takers of package csstok, one by one. No conditions.
-/
import Derived.Test.YtmhdocgoeahbdaaGreatDoorQText
import Derived.Laws.Rows
namespace Go.Proofs.YtmhdocgoeahbdaaGreatDoor
open Go.RowKit Go.RunKit Go.UtfKit Go.Lib Go.CssKit

abbrev TTc : TypeId := 36
theorem Tryz.infoTc : (Tryz.prog.info? TTc).map (·.size) = some 4 := by kernel_rfl
/-- A token's value. -/
def ctV (t : CT) : Value := .agg #[.int .u8 ((t.kind : Nat) : Int), .string ⟨t.value.toArray⟩, .string ⟨t.unit.toArray⟩, .bool t.id]
def noCT : CT := ⟨0, [], [], false⟩
/-- What a taker owes. -/
def TakeAs (f : FuncId) (b g : Nat) (w : World) (x : CT × Chars) : Prop :=
  Calls Tryz.prog f #[.pointer (some ⟨b, 0, none⟩)] w fun e w' => e = .returned (ctV x.1) ∧ MC w b g x.2 w'
def zeroTok : Obj := .cells #[.int .u8 0, .string ⟨#[]⟩, .string ⟨#[]⟩, .bool false] TTc
theorem tok_read {f : Func} (hres : f.results = #[.cell 2 TTc]) {Q : Ending → World → Prop} {W : World} {g0 : Nat} {a0 a1 a2 a3 : Value} {tmps : Array Value}
    (h2 : tmps.getD 2 undef = .pointer (some ⟨g0, 0, none⟩)) (hb : W.heap[g0]? = some (.cells #[a0, a1, a2, a3] TTc (0, 0))) (hq : Q (.returned (.agg #[a0, a1, a2, a3])) W) :
    bodyPost Tryz.prog f Q .ret ⟨tmps, []⟩ W :=
  bodyPost_ret (results_cell_row hres _ _ g0 TTc _ _ _ h2 hb Tryz.underlying36 rfl Tryz.infoTc) rfl hq
theorem set4 {W : World} {g : Nat} {a0 a1 a2 a3 v0 v1 v2 v3 : Value} {T : TypeId} (h : W.heap[g]? = some (.cells #[a0, a1, a2, a3] T (0, 0))) :
    ((((W.setCell ⟨g, 0, none⟩ v0).setCell ⟨g, 1, none⟩ v1).setCell ⟨g, 2, none⟩ v2).setCell ⟨g, 3, none⟩ v3).heap[g]? = some (.cells #[v0, v1, v2, v3] T (0, 0)) := by
  have := heap_setCell_same _ g 3 _ _ v3 (heap_setCell_same _ g 2 _ _ v2 (heap_setCell_same _ g 1 _ _ v1 (heap_setCell_same W g 0 _ _ v0 h)))
  simpa using this
theorem grown_cell (w : World) (g i : Nat) (v : Value) : w.grownBy (w.setCell ⟨g, i, none⟩ v) (some g) :=
  ⟨rfl, rfl, rfl, by simp [World.setCell], fun k _ hk => Below.heap_setCell _ _ _ _ (fun e => hk (by rw [e]))⟩
theorem MC.cell {w W : World} {b g g0 i : Nat} {r : Chars} {v : Value} (h : MC w b g r W) (hg : w.heap.size ≤ g0) (hb : b < w.heap.size) (hr : r ≠ [] → g < w.heap.size) : MC w b g r (W.setCell ⟨g0, i, none⟩ v) :=
  h.row (grown_cell W g0 i v) (fun k e => by cases e; exact hg) hb hr
theorem tok_set {f : Func} (hres : f.results = #[.cell 2 TTc]) {w W : World} {b g : Nat} {r : Chars} {a0 a1 a2 a3 v0 v1 v2 v3 : Value} {tmps : Array Value} {V : Value}
    (h2 : tmps.getD 2 undef = .pointer (some ⟨w.heap.size, 0, none⟩)) (hb : W.heap[w.heap.size]? = some (.cells #[a0, a1, a2, a3] TTc (0, 0))) (hm : MC w b g r W) (hlt : b < w.heap.size) (hr : r ≠ [] → g < w.heap.size) (hV : V = .agg #[v0, v1, v2, v3]) :
    bodyPost Tryz.prog f (fun e w' => e = .returned V ∧ MC w b g r w') .ret ⟨tmps, []⟩ ((((W.setCell ⟨w.heap.size, 0, none⟩ v0).setCell ⟨w.heap.size, 1, none⟩ v1).setCell ⟨w.heap.size, 2, none⟩ v2).setCell ⟨w.heap.size, 3, none⟩ v3) :=
  tok_read hres h2 (set4 hb) ⟨by rw [hV], (((hm.cell (Nat.le_refl _) hlt hr).cell (Nat.le_refl _) hlt hr).cell (Nat.le_refl _) hlt hr).cell (Nat.le_refl _) hlt hr⟩
theorem tok_new {f : Func} (hres : f.results = #[.cell 2 TTc]) {w : World} {b g : Nat} {l : Chars} {v0 v1 v2 v3 : Value} {tmps : Array Value} {V : Value}
    (h2 : tmps.getD 2 undef = .pointer (some ⟨w.heap.size, 0, none⟩)) (h : RC w b g l) (hV : V = .agg #[v0, v1, v2, v3]) :
    bodyPost Tryz.prog f (fun e w' => e = .returned V ∧ MC w b g l w') .ret ⟨tmps, []⟩ (w.alloc (.cells #[v0, v1, v2, v3] TTc)) :=
  tok_read hres h2 (heap_alloc_new w _) ⟨by rw [hV], (MC.refl h).on ((Below.refl _ _).alloc (Nat.le_refl _) _)⟩
/-- A block beside the reader's, behind a move of the reader. -/
theorem MC.keeps {w W : World} {b g k : Nat} {r : Chars} {o : Obj} (h : MC w b g r W) (hk : w.heap[k]? = some o) (hne : k ≠ b) : W.heap[k]? = some o := by
  rw [h.grown.block k (Array.getElem?_eq_some_iff.1 hk).1 (by simpa using hne)]; exact hk

theorem froz4 {W : World} {g : Nat} {a0 a1 a2 a3 : Value} {T : TypeId} (h : W.heap[g]? = some (.cells #[a0, a1, a2, a3] T (0, 0))) :
    (W.cell? ⟨g, 0, none⟩ = some a0 ∧ W.cell? ⟨g, 1, none⟩ = some a1 ∧ W.cell? ⟨g, 2, none⟩ = some a2 ∧ W.cell? ⟨g, 3, none⟩ = some a3) ∧ W.frozen? ⟨g, 0, none⟩ = false ∧ W.frozen? ⟨g, 1, none⟩ = false ∧ W.frozen? ⟨g, 2, none⟩ = false ∧ W.frozen? ⟨g, 3, none⟩ = false :=
  ⟨⟨by simp [World.cell?, h], by simp [World.cell?, h], by simp [World.cell?, h], by simp [World.cell?, h]⟩, frozen_of_row W g 0 _ _ h, frozen_of_row W g 1 _ _ h, frozen_of_row W g 2 _ _ h, frozen_of_row W g 3 _ _ h⟩
/-- What is held of a taker's result, and its reader. -/
structure ResAt (w : World) (b g : Nat) (l : Chars) (W : World) : Prop where
  moved : MC w b g l W
  res : W.heap[w.heap.size]? = some (.cells #[.int .u8 0, .string ⟨#[]⟩, .string ⟨#[]⟩, .bool false] TTc (0, 0))
  lt : b < w.heap.size
  glt : l ≠ [] → g < w.heap.size
theorem ResAt.start {w : World} {b g : Nat} {l : Chars} (h : RC w b g l) : ResAt w b g l (w.alloc (.cells #[.int .u8 0, .string ⟨#[]⟩, .string ⟨#[]⟩, .bool false] TTc)) :=
  ⟨(MC.refl h).on ((Below.refl _ _).alloc (Nat.le_refl _) _), heap_alloc_new w _, h.lt, h.glt⟩
theorem ResAt.on {w W W1 : World} {b g : Nat} {l r : Chars} (h : ResAt w b g l W) (hm : MC W b g r W1) (hs : r ≠ [] → l ≠ []) : ResAt w b g r W1 :=
  ⟨h.moved.trans hm, hm.keeps h.res (by have := h.lt; omega), h.lt, fun x => h.glt (hs x)⟩
theorem ResAt.end_ {f : Func} (hres : f.results = #[.cell 2 TTc]) {w W : World} {b g : Nat} {r : Chars} {v0 v1 v2 v3 : Value} {tmps : Array Value} {V : Value} (h : ResAt w b g r W)
    (h2 : tmps.getD 2 undef = .pointer (some ⟨w.heap.size, 0, none⟩)) (hV : V = .agg #[v0, v1, v2, v3]) :
    bodyPost Tryz.prog f (fun e w' => e = .returned V ∧ MC w b g r w') .ret ⟨tmps, []⟩ ((((W.setCell ⟨w.heap.size, 0, none⟩ v0).setCell ⟨w.heap.size, 1, none⟩ v1).setCell ⟨w.heap.size, 2, none⟩ v2).setCell ⟨w.heap.size, 3, none⟩ v3) :=
  tok_set hres h2 h.res h.moved h.lt h.glt hV

set_option maxRecDepth 100000 in
set_option maxHeartbeats 2000000 in
theorem delim7_any (b g : Nat) (l : Chars) (w : World) (h : RC w b g l) (hl : l ≠ []) : TakeAs 42 b g w (⟨12, bytesC (l.take 1), [], false⟩, l.drop 1) := by
  unfold TakeAs
  have hA := ResAt.start h
  have HT := Lib.hid (take7_any b g 1 l _ hA.moved.rest (by omega) (List.length_pos_iff.2 hl))
  have HA := Lib.hid hA
  clear hA h hl
  go_enter Tryz.func42, Tryz.ntmps42
  go_big_wp2_with (go_at_call 79; refine HT.out.mono ?_; rintro e w1 ⟨rfl, hm⟩; have HA1 := Lib.hid (HA.out.on hm drop_ne); obtain ⟨⟨c0, c1, c2, c3⟩, f0, f1, f2, f3⟩ := froz4 HA1.out.res; clear hm)
  refine HA1.out.end_ rfl ?_ ?_ <;> rfl
end Go.Proofs.YtmhdocgoeahbdaaGreatDoor
