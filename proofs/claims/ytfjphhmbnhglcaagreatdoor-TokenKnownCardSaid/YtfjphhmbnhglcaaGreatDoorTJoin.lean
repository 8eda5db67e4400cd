/-
  mayJoin of package token: may one attribute more stand behind some. Conditions: the attributes stand in a row; fewer than 2^31.
-/
import Derived.Test.YtfjphhmbnhglcaaGreatDoorTAttr2
import Derived.Shelf.Abstract
import Derived.Laws.OwnMore
namespace Go.Proofs.YtfjphhmbnhglcaaGreatDoor
open Go.RowKit Go.RunKit Go.CharrefKit Go.Lib Go.TokenKit Go.Shelf

def attrCells (l : List At) : List Value := l.flatMap fun a => [.string ⟨a.1.toArray⟩, .string ⟨a.2.toArray⟩]
theorem attrCells_len (l : List At) : (attrCells l).length = l.length * 2 := by
  induction l with
  | nil => rfl
  | cons a r ih => rw [attrCells, List.flatMap_cons, List.length_append]; show 2 + (attrCells r).length = _; rw [ih, List.length_cons]; omega
theorem attrCells_cons (a : At) (r : List At) : attrCells (a :: r) = .string ⟨a.1.toArray⟩ :: .string ⟨a.2.toArray⟩ :: attrCells r := rfl
theorem attrCells_snoc (l : List At) (a : At) : attrCells (l ++ [a]) = attrCells l ++ [.string ⟨a.1.toArray⟩, .string ⟨a.2.toArray⟩] := by simp [attrCells]
theorem attrCells_at : ∀ {l : List At} {k : Nat} {a : At}, l[k]? = some a → (attrCells l)[k * 2]? = some (.string ⟨a.1.toArray⟩) ∧ (attrCells l)[k * 2 + 1]? = some (.string ⟨a.2.toArray⟩)
  | [], k, a, h => by simp at h
  | x :: r, 0, a, h => by
    simp only [List.getElem?_cons_zero, Option.some.injEq] at h
    subst h
    exact ⟨rfl, rfl⟩
  | x :: r, k + 1, a, h => by
    have := attrCells_at (l := r) (k := k) (a := a) (by simpa using h)
    rw [attrCells_cons, show (k + 1) * 2 = k * 2 + 1 + 1 by omega]
    simpa using this
/-- Attributes in memory. -/
def AtRow (w : World) (base : Nat) (v : Value) (l : List At) : Prop := w.ownsRow base TAt 2 v l.length (attrCells l)
/-- What is read of them. -/
structure AtReads (w : World) (ao : Option Addr) (l : List At) : Prop where
  at_ : ∀ k a, l[k]? = some a → ∃ g, ao = some ⟨g, 0, none⟩ ∧ w.cell? ⟨g, k * 2, none⟩ = some (.string ⟨a.1.toArray⟩) ∧ w.cell? ⟨g, k * 2 + 1, none⟩ = some (.string ⟨a.2.toArray⟩)
theorem AtRow.reads {w : World} {base : Nat} {v : Value} {l : List At} (h : AtRow w base v l) : ∃ ao cap, v = .slice ao l.length cap ∧ AtReads w ao l := by
  rcases h.2 with ⟨rfl, hn⟩ | ⟨g, cap, cur, rfl, _⟩
  · refine ⟨none, 0, by rw [hn], ⟨fun k a ha => ?_⟩⟩
    have := (List.getElem?_eq_some_iff.1 ha).1
    omega
  · refine ⟨_, cap, rfl, ⟨fun k a ha => ⟨g, rfl, ?_⟩⟩⟩
    have hk := (List.getElem?_eq_some_iff.1 ha).1
    obtain ⟨h1, h2⟩ := attrCells_at ha
    exact ⟨by rw [World.ownsRow.cellAt h (k * 2) (by omega)]; exact h1, by rw [World.ownsRow.cellAt h (k * 2 + 1) (by omega)]; exact h2⟩
theorem AtReads.on {w w' : World} {ao : Option Addr} {l : List At} (h : AtReads w ao l) (hb : Below w.heap.size w w') : AtReads w' ao l := ⟨fun k a ha => by
  obtain ⟨g, e, h1, h2⟩ := h.at_ k a ha
  exact ⟨g, e, by rw [hb.cell (World.block_lt_of_cell? _ _ h1)]; exact h1, by rw [hb.cell (World.block_lt_of_cell? _ _ h2)]; exact h2⟩⟩

set_option maxRecDepth 100000 in
set_option maxHeartbeats 400000 in
theorem asksName (p : Nat) (x y n : ByteArray) (w : World) (h : w.cell? ⟨p, 0, none⟩ = some (.string n)) :
    Calls Tryz.prog 171 #[.agg #[.string x, .string y], .pointer (some ⟨p, 0, none⟩)] w fun e w' => e = .returned (.bool (bl x == bl n)) ∧ Below w.heap.size w w' := by
  have hlt : p < w.heap.size := World.block_lt_of_cell? _ _ h
  have hcell : (w.alloc (.cells #[.string x, .string y] TAt)).cell? ⟨p, 0, none⟩ = some (.string n) := by
    rw [((Below.refl w.heap.size w).alloc (Nat.le_refl _) (.cells #[.string x, .string y] TAt)).cell hlt]; exact h
  go_enter Tryz.func171, Tryz.ntmps171
  go_big_wp2
  go_ret
  exact ⟨by rw [show (bl x == bl n) = (x.toList == n.toList) by rw [Lib.toList_data, Lib.toList_data]; rfl]; rfl, (Below.refl _ _).alloc (Nat.le_refl _) _⟩

/-- None of the first k has this name. -/
def NoName (n : ByteArray) (l : List At) (k : Nat) : Prop := ∀ j a, j < k → l[j]? = some a → (a.1 == bl n) = false
theorem noName_all {n : ByteArray} {l : List At} (h : NoName n l l.length) : l.any (fun a => a.1 == bl n) = false := by
  rw [List.any_eq_false]
  intro a ha
  obtain ⟨j, hj⟩ := List.mem_iff_getElem?.1 ha
  rw [h j a (List.getElem?_eq_some_iff.1 hj).1 hj]; decide
theorem noName_hit {n : ByteArray} {l : List At} {k : Nat} {a : At} (h : l[k]? = some a) (e : (a.1 == bl n) = true) : l.any (fun a => a.1 == bl n) = true :=
  List.any_eq_true.2 ⟨a, List.mem_of_getElem? h, e⟩

set_option maxRecDepth 100000 in
set_option maxHeartbeats 1000000 in
theorem indexName (p : Nat) (ao : Option Addr) (cap : Nat) (l : List At) (n : ByteArray) (w : World) (hl : l.length ≤ 4294967296) (h : w.cell? ⟨p, 0, none⟩ = some (.string n)) (hr : AtReads w ao l) :
    Calls Tryz.prog 162 #[.slice ao l.length cap, .func (.func 171) #[] #[.pointer (some ⟨p, 0, none⟩)]] w fun e w' =>
      ∃ i : Int, e = .returned (.int .i64 i) ∧ Below w.heap.size w w' ∧ decide (0 ≤ i) = l.any (fun a => a.1 == bl n) := by
  have HR := Lib.hid hr
  have HP := Lib.hid h
  have hlt : p < w.heap.size := World.block_lt_of_cell? _ _ h
  have eg := enters_of Tryz.func171 (by kernel_rfl) rfl
  clear h hr
  go_enter Tryz.func162, Tryz.ntmps162
  go_wp2
  go_loopw [8] (fun v wr => ∃ k : Nat, v = .int .i64 (k : Nat) ∧ k ≤ l.length ∧ Hid (Below w.heap.size w wr) ∧ Hid (NoName n l k)) (fun v _ => l.length - (RowKit.intOf v).toNat)
  case atStart => exact ⟨0, rfl, Nat.zero_le _, Lib.hid (Below.refl _ _), Lib.hid fun j a h => by omega⟩
  case round =>
    obtain ⟨k, rfl, hk, HB, HN⟩ := hrel
    by_cases hkl : k < l.length
    · have hkI : (k : Int) < l.length := by omega
      obtain ⟨a, ha⟩ : ∃ a, l[k]? = some a := ⟨l[k], by simp [hkl]⟩
      obtain ⟨g, rfl, h1, h2⟩ := HR.out.at_ k a ha
      have hg := World.block_lt_of_cell? _ _ h1
      have c1 : wr.cell? ⟨g, k * 2, none⟩ = some (.string ⟨a.1.toArray⟩) := by rw [HB.out.cell hg]; exact h1
      have c2 : wr.cell? ⟨g, k * 2 + 1, none⟩ = some (.string ⟨a.2.toArray⟩) := by rw [HB.out.cell (World.block_lt_of_cell? _ _ h2)]; exact h2
      have cp : wr.cell? ⟨p, 0, none⟩ = some (.string n) := by rw [HB.out.cell hlt]; exact HP.out
      have hq := asksName p ⟨a.1.toArray⟩ ⟨a.2.toArray⟩ n wr cp
      rw [bl_of] at hq
      have HA := Lib.hid ha
      cases hz : a.1 == bl n with
      | true =>
        rw [hz] at hq
        have HQ := Lib.hid hq
        have HZ := Lib.hid hz
        clear hq hz ha h1 h2 cp
        go_wp2_with (go_at_call 171; refine HQ.out.mono ?_; rintro e w1 ⟨rfl, hb1⟩)
        go_ret
        exact ⟨_, rfl, HB.out.trans (hb1.mono HB.out.size), by rw [noName_hit HA.out HZ.out]; simp⟩
      | false =>
        rw [hz] at hq
        have HQ := Lib.hid hq
        have HZ := Lib.hid hz
        clear hq hz ha h1 h2 cp
        go_wp2_with (go_at_call 171; refine HQ.out.mono ?_; rintro e w1 ⟨rfl, hb1⟩)
        refine ⟨⟨k + 1, rfl, by omega, Lib.hid (HB.out.trans (hb1.mono HB.out.size)), Lib.hid fun j b hj hb => ?_⟩, by simp [RowKit.intOf]; omega⟩
        by_cases e : j = k
        · subst e; rw [HA.out] at hb; cases hb; exact HZ.out
        · exact HN.out j b (by omega) hb
    · obtain rfl : k = l.length := by omega
      go_wp2
      go_ret
      exact ⟨_, rfl, HB.out, by rw [noName_all HN.out]; rfl⟩

set_option maxRecDepth 100000 in
set_option maxHeartbeats 400000 in
theorem containsName (p : Nat) (ao : Option Addr) (cap : Nat) (l : List At) (n : ByteArray) (w : World) (hl : l.length ≤ 4294967296) (h : w.cell? ⟨p, 0, none⟩ = some (.string n)) (hr : AtReads w ao l) :
    Calls Tryz.prog 127 #[.slice ao l.length cap, .func (.func 171) #[] #[.pointer (some ⟨p, 0, none⟩)]] w fun e w' =>
      e = .returned (.bool (l.any (fun a => a.1 == bl n))) ∧ Below w.heap.size w w' := by
  have HI := Lib.hid (indexName p ao cap l n w hl h hr)
  clear h hr
  go_enter Tryz.func127, Tryz.ntmps127
  go_wp2_with (go_at_call 162; refine HI.out.mono ?_; rintro e w1 ⟨i, rfl, hb1, hi⟩)
  go_ret
  exact ⟨by rw [← hi]; rfl, hb1⟩

/-- P4.1: what is wrong with one attribute more. -/
def joinE (l : List At) (n : Bytes) : Int := if l.any (fun a => a.1 == n) then 41 else if 16 ≤ l.length then 3 else 0

set_option maxRecDepth 100000 in
set_option maxHeartbeats 1000000 in
theorem mayJoin_any (ao : Option Addr) (cap : Nat) (l : List At) (n v : ByteArray) (w : World) (hl : l.length ≤ 4294967296) (hr : AtReads w ao l) :
    Calls Tryz.prog 139 #[.slice ao l.length cap, .agg #[.string n, .string v]] w fun e w' => e = .returned (.int .i64 (joinE l (bl n))) ∧ Below w.heap.size w w' := by
  have hb0 : Below w.heap.size w (w.alloc (.cells #[.string n, .string v] TAt)) := (Below.refl _ _).alloc (Nat.le_refl _) _
  have hgn : (w.alloc (.cells #[.string n, .string v] TAt)).heap[w.heap.size]? = some (.cells #[.string n, .string v] TAt) := heap_alloc_new w _
  have hi := containsName w.heap.size ao cap l n (w.alloc (.cells #[.string n, .string v] TAt)) hl (by simp only [World.cell?, hgn]; rfl) (hr.on hb0)
  have HB := Lib.hid hb0
  obtain ⟨z, hz⟩ : ∃ z, l.any (fun a => a.1 == bl n) = z := ⟨_, rfl⟩
  rw [hz] at hi
  have HI := Lib.hid hi
  unfold joinE
  rw [hz]
  clear hr hb0 hi hz hgn
  go_enter Tryz.func139, Tryz.ntmps139
  go_big_wp2_with (go_at_call 127; refine HI.out.mono ?_; rintro e w1 ⟨rfl, hb1⟩)
  all_goals (go_ret; exact ⟨rfl, HB.out.trans (hb1.mono HB.out.size)⟩)
end Go.Proofs.YtfjphhmbnhglcaaGreatDoor
