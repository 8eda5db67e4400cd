/-
  A tree as it is read, wherever it lies; isRoot, isText of package tree. Conditions: the library's two tables hold what its text lays.
-/
import Derived.Test.YtkfmfldkllkcbabDoorRVal
namespace Go.TreeKit
open Go Go.Lib Go.TokenKit
/-- A node, whatever its numbers. -/
structure NI where
  kind : Nat
  name : Bytes
  attrs : List At
  data : Bytes
  up : Int
  kids : List Int
  deriving DecidableEq
def isRootB (x : NI) : Bool := x.kind == 0 && x.up == -1 && x.name.isEmpty && x.attrs.isEmpty && x.data.isEmpty
end Go.TreeKit
namespace Go.Proofs.YtkfmfldkllkcbabDoor
open Go.RowKit Go.RunKit Go.CharrefKit Go.Lib Go.TokenKit Go.TreeKit

/-- Attributes, as they are read. -/
structure AttrsIn (w : World) (ao : Option Addr) (l : List At) : Prop where
  at_ : ∀ j a, l[j]? = some a → ∃ g o, ao = some ⟨g, o, none⟩ ∧ w.cell? ⟨g, o + j * 2, none⟩ = some (.string ⟨a.1.toArray⟩) ∧ w.cell? ⟨g, o + j * 2 + 1, none⟩ = some (.string ⟨a.2.toArray⟩)
theorem AttrsIn.on {w w' : World} {ao : Option Addr} {l : List At} (h : AttrsIn w ao l) (hb : Below w.heap.size w w') : AttrsIn w' ao l := ⟨fun j a ha => by
  obtain ⟨g, o, e, h1, h2⟩ := h.at_ j a ha
  exact ⟨g, o, e, by rw [hb.cell (World.block_lt_of_cell? _ _ h1)]; exact h1, by rw [hb.cell (World.block_lt_of_cell? _ _ h2)]; exact h2⟩⟩
/-- Whole numbers, as they are read. -/
structure IntsIn (w : World) (ao : Option Addr) (l : List Int) : Prop where
  at_ : ∀ j z, l[j]? = some z → ∃ g o, ao = some ⟨g, o, none⟩ ∧ w.cell? ⟨g, o + j, none⟩ = some (.int .i64 z)
theorem IntsIn.on {w w' : World} {ao : Option Addr} {l : List Int} (h : IntsIn w ao l) (hb : Below w.heap.size w w') : IntsIn w' ao l := ⟨fun j a ha => by
  obtain ⟨g, o, e, h1⟩ := h.at_ j a ha
  exact ⟨g, o, e, by rw [hb.cell (World.block_lt_of_cell? _ _ h1)]; exact h1⟩⟩
/-- A node, as it is read. -/
structure NodeIn (w : World) (g m : Nat) (x : NI) : Prop where
  kind : w.cell? ⟨g, m, none⟩ = some (.int .u8 ((x.kind : Nat) : Int))
  name : w.cell? ⟨g, m + 1, none⟩ = some (.string ⟨x.name.toArray⟩)
  attrs : ∃ ao cap, w.cell? ⟨g, m + 2, none⟩ = some (.slice ao x.attrs.length cap) ∧ AttrsIn w ao x.attrs ∧ x.attrs.length ≤ cap ∧ x.attrs.length ≤ 9223372036854775807
  data : w.cell? ⟨g, m + 3, none⟩ = some (.string ⟨x.data.toArray⟩)
  up : w.cell? ⟨g, m + 4, none⟩ = some (.int .i64 x.up)
  kids : ∃ ao cap, w.cell? ⟨g, m + 5, none⟩ = some (.slice ao x.kids.length cap) ∧ IntsIn w ao x.kids ∧ x.kids.length ≤ 9223372036854775807
  long : x.data.length ≤ 9223372036854775807 ∧ ∀ a, a ∈ x.attrs → a.2.length ≤ 9223372036854775807
theorem NodeIn.on {w w' : World} {g m : Nat} {x : NI} (h : NodeIn w g m x) (hb : Below w.heap.size w w') : NodeIn w' g m x := by
  have c : ∀ {a v}, w.cell? a = some v → w'.cell? a = some v := fun {a v} hc => by rw [hb.cell (World.block_lt_of_cell? _ _ hc)]; exact hc
  obtain ⟨ao, cap, h1, h2, h3⟩ := h.attrs
  obtain ⟨ko, kcap, k1, k2, k3⟩ := h.kids
  exact ⟨c h.kind, c h.name, ⟨ao, cap, c h1, h2.on hb, h3⟩, c h.data, c h.up, ⟨ko, kcap, c k1, k2.on hb, k3⟩, h.long⟩
/-- A tree, as it is read: its nodes stand in block g from o on. -/
structure TreeIn (w : World) (g o : Nat) (T : List NI) : Prop where
  at_ : ∀ k x, T[k]? = some x → NodeIn w g (o + k * 6) x
theorem TreeIn.on {w w' : World} {g o : Nat} {T : List NI} (h : TreeIn w g o T) (hb : Below w.heap.size w w') : TreeIn w' g o T := ⟨fun k x hx => (h.at_ k x hx).on hb⟩

theorem toList_nil {l : Bytes} (h : l = []) : (⟨l.toArray⟩ : ByteArray).toList.isEmpty = true ∧ ((⟨l.toArray⟩ : ByteArray).toList == []) = true ∧ ((⟨l.toArray⟩ : ByteArray).toList != []) = false := by
  subst h
  rw [Lib.toList_data]
  exact ⟨rfl, rfl, rfl⟩
theorem toList_ne {l : Bytes} (h : l ≠ []) : (⟨l.toArray⟩ : ByteArray).toList.isEmpty = false ∧ ((⟨l.toArray⟩ : ByteArray).toList == []) = false ∧ ((⟨l.toArray⟩ : ByteArray).toList != []) = true := by
  rw [Lib.toList_data]
  refine ⟨?_, beq_eq_false_iff_ne.2 h, bne_iff_ne.2 h⟩
  cases l with
  | nil => exact absurd rfl h
  | cons b r => rfl
theorem len_ne {α : Type} {l : List α} (h : l ≠ []) : (((l.length : Nat) : Int) = 0) = False := by
  have := List.length_pos_iff.2 h
  exact eq_false (by omega)
theorem nat_ne {α : Type} {l : List α} (h : l ≠ []) : (l.length = 0) = False := by
  have := List.length_pos_iff.2 h
  exact eq_false (by omega)
theorem empty_ne {α : Type} {l : List α} (h : l ≠ []) : l.isEmpty = false := by
  cases l with
  | nil => exact absurd rfl h
  | cons b r => rfl

set_option maxRecDepth 100000 in
set_option maxHeartbeats 2000000 in
theorem isRoot_any (g m : Nat) (x : NI) (w : World) (h : NodeIn w g m x) :
    Calls Tryd.prog 37 #[.pointer (some ⟨g, m, none⟩)] w fun e w' => e = .returned (.bool (isRootB x)) ∧ w = w' := by
  have c0 := h.kind
  have c1 := h.name
  obtain ⟨ao, cap, c2, _⟩ := h.attrs
  have c3 := h.data
  have c4 := h.up
  clear h
  obtain ⟨k, nm, ats, dt, up, kids⟩ := x
  simp only at c0 c1 c2 c3 c4
  unfold isRootB
  simp only
  by_cases h0 : k = 0
  · subst h0
    by_cases h4 : up = -1
    · subst h4
      by_cases h1 : nm = []
      · have t1 := toList_nil h1
        subst h1
        by_cases h2 : ats = []
        · subst h2
          by_cases h3 : dt = []
          · have t3 := toList_nil h3
            subst h3
            show Calls _ _ _ _ fun e w' => e = .returned (.bool true) ∧ w = w'
            obtain ⟨p1, p2, p3⟩ := t1
            obtain ⟨q1, q2, q3⟩ := t3
            go_enter Tryd.func37, Tryd.ntmps37
            go_big_wp2
            go_ret
            exact ⟨rfl, rfl⟩
          · obtain ⟨q1, q2, q3⟩ := toList_ne h3
            obtain ⟨p1, p2, p3⟩ := t1
            rw [empty_ne h3, Bool.and_false]
            obtain ⟨ds, hds⟩ : ∃ ds : ByteArray, ⟨dt.toArray⟩ = ds := ⟨_, rfl⟩
            rw [hds] at c3 q1 q2 q3
            clear hds
            clear h3
            go_enter Tryd.func37, Tryd.ntmps37
            go_big_wp2
            go_ret
            exact ⟨rfl, rfl⟩
        · have l2 := len_ne h2
          obtain ⟨p1, p2, p3⟩ := t1
          rw [empty_ne h2, Bool.and_false, Bool.false_and]
          have l3 := nat_ne h2
          generalize ats.length = n at *
          clear h2
          go_enter Tryd.func37, Tryd.ntmps37
          go_big_wp2
          go_ret
          exact ⟨rfl, rfl⟩
      · obtain ⟨p1, p2, p3⟩ := toList_ne h1
        rw [empty_ne h1, Bool.and_false, Bool.false_and, Bool.false_and]
        obtain ⟨ns, hns⟩ : ∃ ns : ByteArray, ⟨nm.toArray⟩ = ns := ⟨_, rfl⟩
        rw [hns] at c1 p1 p2 p3
        clear hns
        clear h1
        go_enter Tryd.func37, Tryd.ntmps37
        go_big_wp2
        go_ret
        exact ⟨rfl, rfl⟩
    · have h4I := eq_false h4
      rw [show (up == -1) = false from beq_eq_false_iff_ne.2 h4, Bool.and_false, Bool.false_and, Bool.false_and, Bool.false_and]
      go_enter Tryd.func37, Tryd.ntmps37
      go_big_wp2
      go_ret
      exact ⟨rfl, rfl⟩
  · have h0I : (((k : Nat) : Int) = 0) = False := eq_false (by omega)
    rw [show (k == 0) = false from beq_eq_false_iff_ne.2 h0, Bool.false_and, Bool.false_and, Bool.false_and, Bool.false_and]
    have h0N := eq_false h0
    clear h0
    go_enter Tryd.func37, Tryd.ntmps37
    go_big_wp2
    go_ret
    exact ⟨rfl, rfl⟩

/-- A text that may stand in a tree. -/
def isTextB (x : NI) : Bool := x.name.isEmpty && x.attrs.isEmpty && !x.data.isEmpty && wellL ⟨x.data.toArray⟩
set_option maxRecDepth 100000 in
set_option maxHeartbeats 2000000 in
theorem isText_any (g m : Nat) (x : NI) (w : World) (h : NodeIn w g m x) (hv : VTabs w) :
    Calls Tryd.prog 55 #[.pointer (some ⟨g, m, none⟩)] w fun e w' => e = .returned (.bool (isTextB x)) ∧ Below w.heap.size w w' := by
  have c1 := h.name
  obtain ⟨ao, cap, c2, _⟩ := h.attrs
  have c3 := h.data
  have hP := isPlain_any ⟨x.data.toArray⟩ w (by have := h.long.1; simpa [ByteArray.size] using this) hv
  clear h hv
  obtain ⟨k, nm, ats, dt, up, kids⟩ := x
  simp only at c1 c2 c3 hP
  unfold isTextB
  simp only
  obtain ⟨v, hv⟩ : ∃ v, wellL ⟨dt.toArray⟩ = v := ⟨_, rfl⟩
  rw [hv] at hP ⊢
  have HP := Lib.hid hP
  clear hP hv
  by_cases h1 : nm = []
  · have t1 := toList_nil h1
    subst h1
    by_cases h2 : ats = []
    · subst h2
      by_cases h3 : dt = []
      · have t3 := toList_nil h3
        subst h3
        show Calls _ _ _ _ fun e w' => e = .returned (.bool false) ∧ _
        obtain ⟨p1, p2, p3⟩ := t1
        obtain ⟨q1, q2, q3⟩ := t3
        go_enter Tryd.func55, Tryd.ntmps55
        go_big_wp2
        go_ret
        exact ⟨rfl, Below.refl _ _⟩
      · obtain ⟨q1, q2, q3⟩ := toList_ne h3
        obtain ⟨p1, p2, p3⟩ := t1
        rw [empty_ne h3, Bool.not_false, Bool.and_true]
        show Calls _ _ _ _ fun e w' => e = .returned (.bool v) ∧ _
        obtain ⟨ds, hds⟩ : ∃ ds : ByteArray, ⟨dt.toArray⟩ = ds := ⟨_, rfl⟩
        rw [hds] at c3 q1 q2 q3 HP
        clear hds
        clear h3
        go_enter Tryd.func55, Tryd.ntmps55
        go_big_wp2_with (go_at_call 66; refine HP.out.mono ?_; rintro e w1 ⟨rfl, hb1⟩)
        go_ret
        exact ⟨rfl, hb1⟩
    · have l2 := len_ne h2
      obtain ⟨p1, p2, p3⟩ := t1
      rw [empty_ne h2, Bool.and_false, Bool.false_and, Bool.false_and]
      have l3 := nat_ne h2
      generalize ats.length = n at *
      clear h2
      go_enter Tryd.func55, Tryd.ntmps55
      go_big_wp2
      go_ret
      exact ⟨rfl, Below.refl _ _⟩
  · obtain ⟨p1, p2, p3⟩ := toList_ne h1
    rw [empty_ne h1, Bool.false_and, Bool.false_and, Bool.false_and]
    obtain ⟨ns, hns⟩ : ∃ ns : ByteArray, ⟨nm.toArray⟩ = ns := ⟨_, rfl⟩
    rw [hns] at c1 p1 p2 p3
    clear hns
    clear h1
    go_enter Tryd.func55, Tryd.ntmps55
    go_big_wp2
    go_ret
    exact ⟨rfl, Below.refl _ _⟩
end Go.Proofs.YtkfmfldkllkcbabDoor

