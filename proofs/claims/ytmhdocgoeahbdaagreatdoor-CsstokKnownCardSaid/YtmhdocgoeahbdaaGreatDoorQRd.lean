/-
  The reader of package csstok: characters, read from the front. Conditions: none but on memory.
-/
import Derived.Test.YtmhdocgoeahbdaaGreatDoorQMath
import Derived.Test.YtmhdocgoeahbdaaGreatDoorKit
import Derived.Test.YtmhdocgoeahbdaaGreatDoorBelow
import Derived.Test.YtmhdocgoeahbdaaGreatDoorProg
import Derived.BigRegion
namespace Go.Proofs.YtmhdocgoeahbdaaGreatDoor
open Go.RowKit Go.RunKit Go.Lib Go.CssKit

/-- A character that a text may have, but the character 0. -/
def okC (z : Int) : Prop := (0 < z ∧ z < 55296) ∨ (57343 < z ∧ z ≤ 1114111)
abbrev TRc : TypeId := 44
theorem qg_refl (w : World) (row : Option Nat) : w.grownBy w row := ⟨rfl, rfl, rfl, Nat.le_refl _, fun _ _ _ => rfl⟩
theorem qg_below {w w' : World} (h : Below w.heap.size w w') (row : Option Nat) : w.grownBy w' row := ⟨h.os, h.tape, h.output, h.size, fun k hk _ => h.block k hk⟩
theorem qg_trans {a b c : World} {row : Option Nat} (h : a.grownBy b row) (k : b.grownBy c row) : a.grownBy c row :=
  ⟨k.os.trans h.os, k.tape.trans h.tape, k.output.trans h.output, Nat.le_trans h.size k.size, fun i hi hn => (k.block i (Nat.lt_of_lt_of_le hi h.size) hn).trans (h.block i hi hn)⟩
/-- The reader at b: what it has not read yet lies in block g. -/
structure RC (w : World) (b g : Nat) (l : Chars) : Prop where
  ex : ∃ ao cap, w.heap[b]? = some (.cells #[.slice ao l.length cap] TRc (0, 0)) ∧ l.length ≤ cap ∧ (ao = none → cap = 0) ∧ ∀ a, ao = some a → ∃ o, a = ⟨g, o, none⟩ ∧ ∀ j z, l[j]? = some z → w.cell? ⟨g, o + j, none⟩ = some (.int .i32 z)
  ne : g ≠ b
  len : l.length ≤ 1099511627776
  lt : b < w.heap.size
  ok : ∀ z, z ∈ l → okC z
/-- All is as it was but for the reader and new blocks. -/
structure MC (w : World) (b g : Nat) (l : Chars) (w' : World) : Prop where
  grown : w.grownBy w' (some b)
  rest : RC w' b g l
theorem RC.below {w w' : World} {b g : Nat} {l : Chars} (h : RC w b g l) (hb : Below w.heap.size w w') : RC w' b g l := by
  obtain ⟨ao, cap, h1, h2, h3, h4⟩ := h.ex
  refine ⟨⟨ao, cap, (hb.block b h.lt).trans h1, h2, h3, fun a ha => ?_⟩, h.ne, h.len, Nat.lt_of_lt_of_le h.lt hb.size, h.ok⟩
  obtain ⟨o, e, hc⟩ := h4 a ha
  exact ⟨o, e, fun j z hz => by rw [hb.cell (World.block_lt_of_cell? _ _ (hc j z hz))]; exact hc j z hz⟩
theorem MC.refl {w : World} {b g : Nat} {l : Chars} (h : RC w b g l) : MC w b g l w := ⟨qg_refl _ _, h⟩
theorem MC.trans {w w1 w2 : World} {b g : Nat} {l1 l2 : Chars} (h : MC w b g l1 w1) (k : MC w1 b g l2 w2) : MC w b g l2 w2 := ⟨qg_trans h.grown k.grown, k.rest⟩
theorem MC.on {w w1 w2 : World} {b g : Nat} {l : Chars} (h : MC w b g l w1) (k : Below w1.heap.size w1 w2) : MC w b g l w2 := ⟨qg_trans h.grown (qg_below k _), h.rest.below k⟩
theorem MC.from_ {w w1 w2 : World} {b g : Nat} {l : Chars} (h : Below w.heap.size w w1) (k : MC w1 b g l w2) : MC w b g l w2 := ⟨qg_trans (qg_below h _) k.grown, k.rest⟩
theorem MC.out {w0 w w' : World} {b g : Nat} {l : Chars} (h : MC w b g l w') (hb : Below w0.heap.size w0 w) (hB : w0.heap.size ≤ b) : Below w0.heap.size w0 w' :=
  hb.grown h.grown hb.size (fun k hk => by cases hk; exact hB)
theorem RC.parts {w : World} {b g : Nat} {l : Chars} (h : RC w b g l) : ∃ ao cap, w.cell? ⟨b, 0, none⟩ = some (.slice ao l.length cap) ∧ w.frozen? ⟨b, 0, none⟩ = false ∧ l.length ≤ cap ∧ (ao = none → cap = 0) ∧ (∀ a, ao = some a → ∃ o, a = ⟨g, o, none⟩ ∧ ∀ j z, l[j]? = some z → w.cell? ⟨g, o + j, none⟩ = some (.int .i32 z)) := by
  obtain ⟨ao, cap, h1, h2, h3, h4⟩ := h.ex
  exact ⟨ao, cap, by simp [World.cell?, h1], frozen_of_row w b 0 _ _ h1, h2, h3, h4⟩
theorem RC.char {w : World} {b g : Nat} {l : Chars} (h : RC w b g l) {n : Nat} (hn : n < l.length) : ∃ o cap, w.cell? ⟨b, 0, none⟩ = some (.slice (some ⟨g, o, none⟩) l.length cap) ∧ w.cell? ⟨g, o + n, none⟩ = some (.int .i32 (at_ l n)) := by
  obtain ⟨ao, cap, h1, h2, h3, h4, h5⟩ := h.parts
  cases ao with
  | none => have := h4 rfl; omega
  | some a =>
    obtain ⟨o, rfl, hc⟩ := h5 a rfl
    exact ⟨o, cap, h1, by rw [at_some hn]; exact hc n _ (List.getElem?_eq_getElem hn)⟩
set_option maxRecDepth 100000 in
set_option maxHeartbeats 400000 in
theorem at_any (b g n : Nat) (l : Chars) (w : World) (h : RC w b g l) (_hn : n ≤ 2199023255552) :
    Calls Tryz.prog 70 #[.pointer (some ⟨b, 0, none⟩), .int .i64 ((n : Nat) : Int)] w fun e w' => e = .returned (.int .i32 (at_ l n)) ∧ w = w' := by
  by_cases hlt : n < l.length
  · obtain ⟨o, cap, hc, hz⟩ := h.char hlt
    have hI : (n : Int) < l.length := by omega
    clear h
    go_enter Tryz.func70, Tryz.ntmps70
    go_big_wp2
    go_ret
    exact ⟨rfl, rfl⟩
  · obtain ⟨ao, cap, hc, _⟩ := h.parts
    have hI : (l.length : Int) ≤ n := by omega
    rw [at_none (by omega)]
    clear h
    go_enter Tryz.func70, Tryz.ntmps70
    go_big_wp2
    go_ret
    exact ⟨rfl, rfl⟩

theorem RC.reset {w : World} {b g : Nat} {l : Chars} (h : RC w b g l) {n : Nat} {ao : Option Addr} {m cap : Nat} (hm : m = (l.drop n).length) (hcap : m ≤ cap) (hnone : ao = none → cap = 0)
    (hr : ∀ a, ao = some a → ∃ o, a = ⟨g, o, none⟩ ∧ ∀ j z, (l.drop n)[j]? = some z → w.cell? ⟨g, o + j, none⟩ = some (.int .i32 z)) : MC w b g (l.drop n) (w.setCell ⟨b, 0, none⟩ (.slice ao m cap)).drew := by
  obtain ⟨ao0, cap0, h1, _⟩ := h.ex
  subst hm
  refine ⟨⟨rfl, rfl, rfl, by simp [World.setCell, World.drew], fun k _ hk => Below.heap_setCell _ _ _ _ (fun e => hk (by rw [e]))⟩, ⟨⟨ao, cap, ?_, hcap, hnone, fun a ha => ?_⟩, h.ne, by rw [List.length_drop]; have := h.len; omega, ?_, fun z hz => h.ok z (List.mem_of_mem_drop hz)⟩⟩
  · have := heap_setCell_same w b 0 _ _ (.slice ao (l.drop n).length cap) h1
    show (w.setCell ⟨b, 0, none⟩ (.slice ao (l.drop n).length cap)).heap[b]? = _
    simpa using this
  · obtain ⟨o, e, hc⟩ := hr a ha
    refine ⟨o, e, fun j z hz => ?_⟩
    rw [← hc j z hz]
    have : (w.setCell ⟨b, 0, none⟩ (.slice ao (l.drop n).length cap)).heap[g]? = w.heap[g]? := Below.heap_setCell _ _ _ _ h.ne
    show (match (w.setCell ⟨b, 0, none⟩ (.slice ao (l.drop n).length cap)).heap[g]? with | _ => _) = _
    simp only [World.cell?, World.drew, this]
  · have := h.lt
    simpa [World.setCell, World.drew] using this
set_option maxRecDepth 100000 in
set_option maxHeartbeats 400000 in
theorem pass_any (b g n : Nat) (l : Chars) (w : World) (h : RC w b g l) (hn : n ≤ 2199023255552) :
    Calls Tryz.prog 44 #[.pointer (some ⟨b, 0, none⟩), .int .i64 ((n : Nat) : Int)] w fun e w' => e = .returned (.tuple #[]) ∧ MC w b g (l.drop n) w' := by
  obtain ⟨ao, cap, hc, hf, hcap, hnone, hr⟩ := h.parts
  have HR := Lib.hid h
  have HRr := Lib.hid hr
  have HNo := Lib.hid hnone
  by_cases hlt : n ≤ l.length
  · have hI : (n : Int) ≤ l.length := by omega
    clear h
    cases ao with
    | none =>
      obtain rfl := hnone rfl
      clear hr hnone
      go_enter Tryz.func44, Tryz.ntmps44
      go_big_wp2
      go_region
      go_end0
      exact ⟨rfl, HR.out.reset (by rw [List.length_drop] <;> omega) (by omega) (fun _ => rfl) (fun a ha => by cases ha)⟩
    | some a =>
      obtain ⟨o, rfl, hz⟩ := hr a rfl
      clear hr hnone
      by_cases hcn : cap = n
      · subst hcn
        go_enter Tryz.func44, Tryz.ntmps44
        go_big_wp2
        go_region
        go_end0
        have e : l.length - cap = 0 := by omega
        have e2 : l.drop cap = [] := List.drop_eq_nil_of_le (by omega)
        refine ⟨rfl, HR.out.reset (by rw [List.length_drop] <;> omega) (by omega) (fun h => by cases h) (fun a ha => ⟨o, by cases ha; rfl, fun j z hj => by rw [e2] at hj; cases hj⟩)⟩
      · go_enter Tryz.func44, Tryz.ntmps44
        go_big_wp2
        go_region
        go_end0
        refine ⟨rfl, HR.out.reset (by rw [List.length_drop] <;> omega) (by omega) (fun h => by cases h) (fun a ha => ⟨o + n, by cases ha; rfl, fun j z hj => ?_⟩)⟩
        rw [List.getElem?_drop] at hj
        rw [Nat.add_assoc]
        exact hz _ _ hj
  · have hI : ¬ (n : Int) ≤ l.length := by omega
    have hI2 : (l.length : Int) < n := by omega
    have e2 : l.drop n = [] := List.drop_eq_nil_of_le (by omega)
    have e3 : l.drop l.length = [] := List.drop_eq_nil_of_le (Nat.le_refl _)
    rw [e2, ← e3]
    have HE := Lib.hid e3
    clear h e2 e3
    cases ao with
    | none =>
      obtain rfl := hnone rfl
      clear hr hnone
      go_enter Tryz.func44, Tryz.ntmps44
      go_big_wp2
      go_region
      go_end0
      exact ⟨rfl, HR.out.reset (by rw [List.length_drop] <;> omega) (by omega) (fun _ => rfl) (fun a ha => by cases ha)⟩
    | some a =>
      obtain ⟨o, rfl, hz⟩ := hr a rfl
      clear hr hnone
      by_cases hcn : cap = l.length
      · subst hcn
        go_enter Tryz.func44, Tryz.ntmps44
        go_big_wp2
        go_region
        go_end0
        exact ⟨rfl, HR.out.reset (by rw [List.length_drop] <;> omega) (by omega) (fun h => by cases h) (fun a ha => ⟨o, by cases ha; rfl, fun j z hj => by rw [HE.out] at hj; cases hj⟩)⟩
      · go_enter Tryz.func44, Tryz.ntmps44
        go_big_wp2
        go_region
        go_end0
        exact ⟨rfl, HR.out.reset (by rw [List.length_drop] <;> omega) (by omega) (fun h => by cases h) (fun a ha => ⟨o + l.length, by cases ha; rfl, fun j z hj => by rw [HE.out] at hj; cases hj⟩)⟩
end Go.Proofs.YtmhdocgoeahbdaaGreatDoor
