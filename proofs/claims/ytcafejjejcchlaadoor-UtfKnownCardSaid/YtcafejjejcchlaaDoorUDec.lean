/-
  Decode of utf: the closure that takes the parts, and what is told. Conditions: the library's two tables hold what its text lays.
-/
import Derived.Test.YtcafejjejcchlaaDoorUBuild
import Derived.Test.YtcafejjejcchlaaDoorURunes
namespace Go.Proofs.YtcafejjejcchlaaDoor
open Go.RowKit Go.RunKit Go.UtfKit Go.Lib Go.Shelf

/-- What the closure of Decode makes of a part: whether it was a carriage return; the bytes told so far. -/
def takePart (a : Bool × List Value) (p : Part) : Bool × List Value :=
  (decide (p.char = 13), if a.1 = true ∧ p.char = 10 then a.2 else if p.char = 13 then a.2 ++ runeCells 10 else a.2 ++ runeCells (p.char : Nat))
def taken (d : List Part) : Bool × List Value := d.foldl takePart (false, [])
theorem taken_snoc (d : List Part) (p : Part) : taken (d ++ [p]) = takePart (taken d) p := by simp [taken]
theorem takePart_len (a : Bool × List Value) (p : Part) : (takePart a p).2.length ≤ a.2.length + 4 := by
  unfold takePart
  have h1 := runeCells_le 10
  have h2 := runeCells_le (p.char : Nat)
  simp only
  repeat' split
  all_goals simp
  all_goals omega
theorem foldl_len : ∀ (d : List Part) (a : Bool × List Value), (d.foldl takePart a).2.length ≤ a.2.length + 4 * d.length
  | [], a => by simp
  | p :: r, a => by
    have h1 := foldl_len r (takePart a p)
    have h2 := takePart_len a p
    simp only [List.foldl_cons, List.length_cons]
    omega
theorem taken_len (d : List Part) : (taken d).2.length ≤ 4 * d.length := by simpa [taken] using foldl_len d (false, [])

/-- What the closure of Decode keeps: the builder in the first block behind w0's, the mark in the second. -/
structure DecInv (w0 : World) (d : List Part) (w : World) : Prop where
  below : Below w0.heap.size w0 w
  mark : w.heap[w0.heap.size + 1]? = some (Obj.cells #[.bool (taken d).1] 4 (0, 0))
  built : IsBuilderF TB 5 w0.heap.size w0.heap.size (taken d).2 w

theorem builderAt_blocks {T e : TypeId} {B b : Nat} {p : Value} {bs : List Value} {w w' : World} (h : BuilderAtF T e B b p bs w) (hk : ∀ (k : Nat) (c : Array Value) (t : TypeId) (fr : Nat × Nat), (k = b ∨ t = e) → w.heap[k]? = some (Obj.cells c t fr) → w'.heap[k]? = some (Obj.cells c t fr)) : BuilderAtF T e B b p bs w' := by
  obtain ⟨hB, v, hb, hown, hne⟩ := h
  refine ⟨hB, v, hk _ _ _ _ (.inl rfl) hb, ⟨hown.1, ?_⟩, hne⟩
  rcases hown.2 with h | ⟨g, cap, cur, fz, e1, e2, e3, e4⟩
  · exact .inl h
  · exact .inr ⟨g, cap, cur, fz, e1, e2, hk _ _ _ _ (.inr rfl) e3, e4⟩
theorem isBuilder_blocks {T e : TypeId} {B b : Nat} {bs : List Value} {w w' : World} (h : IsBuilderF T e B b bs w) (hk : ∀ (k : Nat) (c : Array Value) (t : TypeId) (fr : Nat × Nat), (k = b ∨ t = e) → w.heap[k]? = some (Obj.cells c t fr) → w'.heap[k]? = some (Obj.cells c t fr)) : IsBuilderF T e B b bs w' :=
  h.imp (fun h => builderAt_blocks h hk) (fun h => builderAt_blocks h hk)

set_option maxRecDepth 100000 in
set_option maxHeartbeats 2000000 in
theorem decode1_any (w0 : World) (d : List Part) (p : Part) (w : World) (h : DecInv w0 d w) (hp : p.char ≤ 1114111) (hlen : d.length + 1 ≤ 1099511627776) :
    Calls Tryd.prog 16 (#[.int .i32 (p.char : Nat)] ++ #[.pointer (some ⟨w0.heap.size + 1, 0, none⟩), .pointer (some ⟨w0.heap.size, 0, none⟩)]) w fun e w' => e = .returned (.tuple #[]) ∧ DecInv w0 (d ++ [p]) w' ∧ w.heap.size ≤ w'.heap.size ∧
      ∀ (k : Nat) (t : ByteArray) (pos : Nat), w.heap[k]? = some (Obj.stringIter t pos) → w'.heap[k]? = some (Obj.stringIter t pos) := by
  obtain ⟨hb, hm, hbu⟩ := h
  have hl := taken_len d
  have hsn := taken_snoc d p
  generalize ht : taken d = t0 at *
  obtain ⟨ret, out⟩ := t0
  simp only at hm hbu hl
  -- the world behind the mark's store
  have hm2 : ∀ v', (w.setCell ⟨w0.heap.size + 1, 0, none⟩ v').heap[w0.heap.size + 1]? = some (Obj.cells #[v'] 4 (0, 0)) := fun v' => heap_setCell_one _ _ _ _ _ hm
  have hbs : ∀ v', IsBuilderF TB 5 w0.heap.size w0.heap.size out (w.setCell ⟨w0.heap.size + 1, 0, none⟩ v') := fun v' => isBuilder_blocks hbu fun k c t fr hk hc => by
    rw [heap_setCell_other _ _ _ _ ?_]
    · exact hc
    · rintro rfl
      rcases hk with hk | hk
      · omega
      · rw [hm] at hc; cases hc; revert hk; decide
  have hbb : ∀ v', Below w0.heap.size w0 (w.setCell ⟨w0.heap.size + 1, 0, none⟩ v') := fun v' => hb.setCell (by simp) v'
  have hit : ∀ v' (k : Nat) (t : ByteArray) (pos : Nat), w.heap[k]? = some (Obj.stringIter t pos) → (w.setCell ⟨w0.heap.size + 1, 0, none⟩ v').heap[k]? = some (Obj.stringIter t pos) := fun v' k t pos hk => by
    rw [heap_setCell_other _ _ _ _ ?_]
    · exact hk
    · rintro rfl; rw [hm] at hk; cases hk
  have hcell : w.cell? ⟨w0.heap.size + 1, 0, none⟩ = some (.bool ret) := cell_one hm
  have hfr : w.frozen? ⟨w0.heap.size + 1, 0, none⟩ = false := frozen_of_row _ _ _ _ _ hm
  have hc2 : ∀ v', (w.setCell ⟨w0.heap.size + 1, 0, none⟩ v').cell? ⟨w0.heap.size + 1, 0, none⟩ = some v' := fun v' => cell_one (hm2 v')
  have HX := Lib.hid (And.intro hm2 (And.intro hbs (And.intro hbb hit)))
  have HS := Lib.hid hsn
  have HT := Lib.hid ht
  clear hm2 hbs hbb hit hm hbu hb hsn ht
  have FIN : Hid (∀ (m : Bool) (out2 : List Value) (w2 : World), takePart (ret, out) p = (m, out2) → IsBuilderF TB 5 w0.heap.size w0.heap.size out2 w2 → Below w0.heap.size (w.setCell ⟨w0.heap.size + 1, 0, none⟩ (.bool m)) w2 →
      OthersKept 5 (some w0.heap.size) (w.setCell ⟨w0.heap.size + 1, 0, none⟩ (.bool m)) w2 → DecInv w0 (d ++ [p]) w2 ∧ w.heap.size ≤ w2.heap.size ∧ ∀ (k : Nat) (t : ByteArray) (pos : Nat), w.heap[k]? = some (Obj.stringIter t pos) → w2.heap[k]? = some (Obj.stringIter t pos)) := Lib.hid (by
    intro m out2 w2 htp hbu2 hb2 hk2
    have e := HS.out
    rw [htp] at e
    have hbl : ∃ c t fr, (w.setCell ⟨w0.heap.size + 1, 0, none⟩ (.bool m)).heap[w0.heap.size]? = some (Obj.cells c t fr) := by
      rcases HX.out.2.1 (.bool m) with ⟨_, v, hv, _⟩ | ⟨_, v, hv, _⟩
      · exact ⟨_, _, _, hv⟩
      · exact ⟨_, _, _, hv⟩
    refine ⟨⟨(HX.out.2.2.1 _).trans hb2, ?_, ?_⟩, ?_, ?_⟩
    · rw [e]
      exact hk2 _ _ (HX.out.1 _) (by simp) (fun c fz e => by cases e)
    · rw [e]; exact hbu2
    · have := hb2.size
      simpa [World.setCell] using this
    · intro k t pos hk
      refine hk2 _ _ (HX.out.2.2.2 _ _ _ _ hk) ?_ (fun c fz e => by cases e)
      intro ek
      obtain ⟨c, t', fr, hv⟩ := hbl
      cases ek
      rw [HX.out.2.2.2 _ _ _ _ hk] at hv
      cases hv)
  have HB : Hid (∀ (m : Bool) (r : Int), -2147483648 ≤ r → r ≤ 2147483647 → Calls Tryd.prog 17 #[.pointer (some ⟨w0.heap.size, 0, none⟩), .int .i32 r] (w.setCell ⟨w0.heap.size + 1, 0, none⟩ (.bool m)) fun e w' => e = .returned (.tuple #[.int .i64 (Lib.runeCells r).length, .nilIface]) ∧
      (Lib.BuilderAtF TB 5 w0.heap.size w0.heap.size (.pointer (some ⟨w0.heap.size, 0, none⟩)) (out ++ Lib.runeCells r) w' ∧ Below w0.heap.size (w.setCell ⟨w0.heap.size + 1, 0, none⟩ (.bool m)) w' ∧ Lib.OthersKept 5 (some w0.heap.size) (w.setCell ⟨w0.heap.size + 1, 0, none⟩ (.bool m)) w')) := Lib.hid (fun m r h1 h2 =>
    writeRune_any _ _ out r h1 h2 _ (HX.out.2.1 _) (by omega) (HX.out.2.2.1 _).size)
  by_cases c13 : p.char = 13
  · have d13 : (p.char : Int) = 13 := by omega
    have T : Hid (takePart (ret, out) p = (true, out ++ runeCells 10)) := Lib.hid (by simp [takePart, c13])
    cases ret
    all_goals
      go_enter Tryd.func16, Tryd.ntmps16
      go_wp2_with (go_at_call 17; refine (HB.out true 10 (by omega) (by omega)).mono ?_; rintro e w2 ⟨rfl, hbu2, hb2, hk2⟩)
      go_end0
      exact ⟨rfl, FIN.out _ _ _ T.out (.inr hbu2) hb2 hk2⟩
  · have d13 := eq_false (show ¬ (p.char : Int) = 13 by omega)
    by_cases c10 : p.char = 10
    · have d10 : (p.char : Int) = 10 := by omega
      cases ret with
      | true =>
        have T : Hid (takePart (true, out) p = (false, out)) := Lib.hid (by simp [takePart, c10])
        go_enter Tryd.func16, Tryd.ntmps16
        go_wp2
        go_end0
        exact ⟨rfl, FIN.out _ _ _ T.out (HX.out.2.1 _) (Below.refl _ _) (OthersKept.refl _ _ _)⟩
      | false =>
        have T : Hid (takePart (false, out) p = (false, out ++ runeCells 10)) := Lib.hid (by simp [takePart, c10])
        go_enter Tryd.func16, Tryd.ntmps16
        go_wp2_with (go_at_call 17; refine (HB.out false 10 (by omega) (by omega)).mono ?_; rintro e w2 ⟨rfl, hbu2, hb2, hk2⟩)
        go_end0
        exact ⟨rfl, FIN.out _ _ _ T.out (.inr hbu2) hb2 hk2⟩
    · have d10 := eq_false (show ¬ (p.char : Int) = 10 by omega)
      have T : Hid (takePart (ret, out) p = (false, out ++ runeCells (p.char : Nat))) := Lib.hid (by simp [takePart, c10, c13])
      cases ret
      all_goals
        go_enter Tryd.func16, Tryd.ntmps16
        go_wp2_with (go_at_call 17; refine (HB.out false (p.char : Nat) (by omega) (by omega)).mono ?_; rintro e w2 ⟨rfl, hbu2, hb2, hk2⟩)
        go_end0
        exact ⟨rfl, FIN.out _ _ _ T.out (.inr hbu2) hb2 hk2⟩

theorem dec_takes (s : ByteArray) (w0 : World) (ht : Tabs w0) (n0 : Nat) (hn : w0.heap.size + 1 < n0) (hsz : s.size + 1 ≤ 1099511627776) (hch : ∀ p ∈ parts s, p.char ≤ 1114111) :
    Takes Tryd.prog 16 #[.pointer (some ⟨w0.heap.size + 1, 0, none⟩), .pointer (some ⟨w0.heap.size, 0, none⟩)] s n0 (DecInv w0) where
  enters := enters_of Tryd.func16 (by kernel_rfl) rfl
  tabs := fun _ _ h => ht.on h.below
  beside := fun d w w' h hb => ⟨⟨hb.os.trans h.below.os, hb.tape.trans h.below.tape, hb.output.trans h.below.output, Nat.le_trans h.below.size hb.size, fun k hk => by rw [hb.low k (by omega)]; exact h.below.block k hk⟩,
    hb.cells _ _ _ _ h.mark, isBuilder_blocks h.built fun k c t fr _ hc => hb.cells _ _ _ _ hc⟩
  step := fun d p r w hd h => decode1_any w0 d p w h (hch p (by rw [← hd]; simp)) (by
    have h1 := parts_len s (s.size - 0) 0
    change (parts s).length ≤ _ at h1
    rw [← hd] at h1
    simp at h1; omega)
end Go.Proofs.YtcafejjejcchlaaDoor
