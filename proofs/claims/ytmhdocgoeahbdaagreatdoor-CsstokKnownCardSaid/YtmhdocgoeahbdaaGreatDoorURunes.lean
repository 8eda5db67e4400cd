/-
  Runes of utf hands back the characters of the parts. Conditions: the library's two tables hold what its text lays; the text is no longer than 2^40 bytes.
-/
import Derived.Test.YtmhdocgoeahbdaaGreatDoorUEach
import Derived.KernelRfl
namespace Go.Proofs.YtmhdocgoeahbdaaGreatDoor.U
open Go.RowKit Go.RunKit Go.UtfKit Go.Lib

def charCells (d : List Part) : List Value := d.map fun p => .int .i32 (p.char : Nat)
/-- What the closure of Runes keeps: its list lies in the first block behind w0's, the characters so far in a row of its own. -/
structure ListInv (w0 : World) (d : List Part) (w : World) : Prop where
  below : Below w0.heap.size w0 w
  row : ∃ v, w.heap[w0.heap.size]? = some (Obj.cells #[v] 41 (0, 0)) ∧ w.ownsRow (w0.heap.size + 1) 21 1 v d.length (charCells d)

theorem ownsRow_beside {n0 : Nat} {w w' : World} {base : Nat} {e : TypeId} {size : Nat} {v : Value} {n : Nat} {xs : List Value} (h : w.ownsRow base e size v n xs) (hb : Beside n0 w w') : w'.ownsRow base e size v n xs := by
  obtain ⟨h1, h2⟩ := h
  refine ⟨h1, ?_⟩
  rcases h2 with h2 | ⟨g, cap, cur, e1, e2, e3, e4⟩
  · exact .inl h2
  · exact .inr ⟨g, cap, cur, e1, e2, hb.cells _ _ _ _ e3, e4⟩

theorem Tryz.infoInt32 : (Tryz.prog.info? 21).map (fun i => (i.zero, i.size, i.bytes)) = some (some (.int .i32 0), 1, 4) := by kernel_rfl
theorem Tryz.underRunes : Tryz.prog.underlying 41 = some (.slice 21) := by kernel_rfl

theorem slice_of {w : World} {base : Nat} {e : TypeId} {size : Nat} {v : Value} {n : Nat} {xs : List Value} (h : w.ownsRow base e size v n xs) : ∃ a cap, v = .slice a n cap := by
  rcases h.2 with ⟨e, e2⟩ | ⟨g, cap, cur, e, _⟩
  · exact ⟨none, 0, by rw [e, e2]⟩
  · exact ⟨_, cap, e⟩
theorem cell_one {w : World} {b : Nat} {v : Value} {t : TypeId} (h : w.heap[b]? = some (Obj.cells #[v] t (0, 0))) : w.cell? ⟨b, 0, none⟩ = some v := by rw [cell_of_row _ _ _ _ _ _ h]; rfl
theorem heap_setCell_one (w : World) (b : Nat) (v v' : Value) (t : TypeId) (h : w.heap[b]? = some (Obj.cells #[v] t (0, 0))) : (w.setCell ⟨b, 0, none⟩ v').heap[b]? = some (Obj.cells #[v'] t (0, 0)) := by
  simp [World.setCell, Array.getElem?_modify, h]
theorem heap_setCell_other (w : World) (b k : Nat) (v' : Value) (h : k ≠ b) : (w.setCell ⟨b, 0, none⟩ v').heap[k]? = w.heap[k]? := Below.heap_setCell _ _ _ _ h

set_option maxRecDepth 100000 in
set_option maxHeartbeats 1000000 in
theorem runes1_any (w0 : World) (d : List Part) (p : Part) (w : World) (h : ListInv w0 d w) (hlen : d.length + 1 ≤ 1099511627776) :
    Calls Tryz.prog 68 (#[.int .i32 (p.char : Nat)] ++ #[.pointer (some ⟨w0.heap.size, 0, none⟩)]) w fun e w' => e = .returned (.tuple #[]) ∧ ListInv w0 (d ++ [p]) w' ∧ w.heap.size ≤ w'.heap.size ∧
      ∀ (k : Nat) (t : ByteArray) (pos : Nat), w.heap[k]? = some (Obj.stringIter t pos) → w'.heap[k]? = some (Obj.stringIter t pos) := by
  obtain ⟨hb, v, hv, hown⟩ := h
  obtain ⟨a0, cap, hvs⟩ : ∃ a0 cap, v = .slice a0 d.length cap := by
    rcases hown.2 with ⟨e, e2⟩ | ⟨g, cap, cur, e, _⟩
    · exact ⟨none, 0, by rw [e, e2]⟩
    · exact ⟨_, cap, e⟩
  subst hvs
  have hlt : w0.heap.size < w.heap.size := (Array.getElem?_eq_some_iff.1 hv).1
  have hcell : w.cell? ⟨w0.heap.size, 0, none⟩ = some (.slice a0 d.length cap) := by rw [cell_of_row _ _ _ _ _ _ hv]; rfl
  obtain ⟨i0, hi, hz0, hz1, hz2⟩ := info_parts Tryz.infoInt32
  have HO := Lib.hid (World.ownsRow.alloc hown (.cells #[.int .i32 (p.char : Nat)] 21))
  have HV := Lib.hid (And.intro hv (And.intro hown hb))
  clear hv hown hb
  go_enter Tryz.func68, Tryz.ntmps68
  go_wp2_with (at_builtin; refine wpList_append_own _ rfl _ _ 41 rfl (w0.heap.size + 1) 21 i0 _ 1 4 Tryz.underRunes hi hz0 hz1 hz2 rfl (by decide) _ d.length (charCells d) rfl HO.out ⟨w.heap.size, 0, none⟩ 1 1 [.int .i32 (p.char : Nat)] rfl ?c1 ?c2 ?c3 ?c4 ?c5 ?c6 ?_)
  case c1 => rfl
  case c2 =>
    intro j u hu
    cases j with
    | zero => simpa [go_sem] using hu
    | succ j => simp at hu
  case c3 => intro u hu; simp at hu; subst hu; rfl
  case c4 => unfold maxLen; omega
  case c5 => omega
  case c6 => simp; omega
  intro v' W hown' hgrow _
  obtain ⟨a1, cap1, hvs1⟩ : ∃ a1 cap1, v' = .slice a1 (d.length + 1) cap1 := by
    rcases hown'.2 with ⟨e, e2⟩ | ⟨g, cap, cur, e, _⟩
    · omega
    · exact ⟨_, cap, e⟩
  subst hvs1
  have hne : some w0.heap.size ≠ (Value.slice a0 d.length cap).ownBlock := by
    intro e
    have := (World.ownsRow.lt HV.out.2.1 w0.heap.size e.symm).1
    omega
  have hW0 : W.heap[w0.heap.size]? = some (Obj.cells #[.slice a0 d.length cap] 41 (0, 0)) := by
    rw [hgrow.block _ (by simp; omega) hne, Below.heap_alloc _ _ _ hlt]; exact HV.out.1
  have hit : ∀ (k : Nat) (t : ByteArray) (pos : Nat), w.heap[k]? = some (Obj.stringIter t pos) → W.heap[k]? = some (Obj.stringIter t pos) := by
    intro k t pos hk
    have hkl : k < w.heap.size := (Array.getElem?_eq_some_iff.1 hk).1
    rw [hgrow.block k (by simp; omega) ?_, Below.heap_alloc _ _ _ hkl]; exact hk
    intro e
    rcases HV.out.2.1.2 with ⟨e1, _⟩ | ⟨g, c, cur, e1, _, e3, _⟩
    · rw [e1] at e; cases e
    · rw [e1] at e; cases e; rw [hk] at e3; cases e3
  have hc1 : W.cell? ⟨w0.heap.size, 0, none⟩ = some (.slice a0 d.length cap) := by rw [cell_of_row _ _ _ _ _ _ hW0]; rfl
  have hc2 : W.frozen? ⟨w0.heap.size, 0, none⟩ = false := frozen_of_row _ _ _ _ _ hW0
  have hbW : Below w0.heap.size w0 W := (HV.out.2.2.alloc HV.out.2.2.size _).grown hgrow (by simp; omega) (fun k hk => by have := (World.ownsRow.lt HV.out.2.1 k hk).1; omega)
  have hsW : w.heap.size ≤ W.heap.size := by have := hgrow.size; simp at this; omega
  have HW := Lib.hid (And.intro hW0 (And.intro hown' (And.intro hit (And.intro hbW hsW))))
  clear hW0 hown' hit hbW hsW hgrow HO
  go_wp2
  go_end0
  obtain ⟨hW0, hown', hit, hbW, hsW⟩ := HW.out
  refine ⟨rfl, ⟨hbW.setCell (Nat.le_refl _) _, _, heap_setCell_one _ _ _ _ _ hW0, ?_⟩, by simpa [World.setCell] using hsW, fun k t pos hk => ?_⟩
  · have := ownsRow_setCell_below hown' (a := ⟨w0.heap.size, 0, none⟩) (by simp) (.slice a1 (d.length + 1) cap1)
    simpa [charCells] using this
  · rw [heap_setCell_other _ _ _ _ ?_]
    · exact hit k t pos hk
    · rintro rfl
      rw [HV.out.1] at hk; cases hk

theorem parts_len (s : ByteArray) : ∀ (f i : Nat), (partsF s f i).length ≤ f
  | 0, _ => Nat.le_refl _
  | f + 1, i => by
    unfold partsF
    split
    · have := parts_len s f (i + (cutAt s i).len)
      simp; omega
    · simp

theorem runes_takes (s : ByteArray) (w0 : World) (ht : Tabs w0) (n0 : Nat) (hn : w0.heap.size < n0) (hsz : s.size + 1 ≤ 1099511627776) :
    Takes Tryz.prog 68 #[.pointer (some ⟨w0.heap.size, 0, none⟩)] s n0 (ListInv w0) where
  enters := enters_of Tryz.func68 (by kernel_rfl) rfl
  tabs := fun _ _ h => ht.on h.below
  beside := fun d w w' h hb => ⟨⟨hb.os.trans h.below.os, hb.tape.trans h.below.tape, hb.output.trans h.below.output, Nat.le_trans h.below.size hb.size, fun k hk => by rw [hb.low k (by omega)]; exact h.below.block k hk⟩, by
    obtain ⟨v, h1, h2⟩ := h.row
    exact ⟨v, hb.cells _ _ _ _ h1, ownsRow_beside h2 hb⟩⟩
  step := fun d p r w hd h => runes1_any w0 d p w h (by
    have h1 := parts_len s (s.size - 0) 0
    change (parts s).length ≤ _ at h1
    rw [← hd] at h1
    simp at h1; omega)

set_option maxRecDepth 100000 in
set_option maxHeartbeats 1000000 in
/-- Runes: the characters of the parts, in a row of the call's own. -/
theorem runes_any (s : ByteArray) (w : World) (ht : Tabs w) (hsz : s.size + 1 ≤ 1099511627776) :
    Calls Tryz.prog 33 #[.string s] w fun e w' => ∃ v, e = .returned v ∧ w'.ownsRow w.heap.size 21 1 v (parts s).length (charCells (parts s)) ∧ Below w.heap.size w w' := by
  have h0 : ListInv w [] (w.alloc (.cells #[.slice none 0 0] 41)) := ⟨(Below.refl _ _).alloc (Nat.le_refl _) _, .slice none 0 0, (heap_alloc_new w _), World.ownsRow_nil _ _ _ _⟩
  have hc := each_any 68 #[.pointer (some ⟨w.heap.size, 0, none⟩)] s (ListInv w) (w.alloc (.cells #[.slice none 0 0] 41)) (runes_takes s w ht _ (by simp) hsz) h0 (by omega)
  have HC := Lib.hid hc
  clear hc h0
  go_enter Tryz.func33, Tryz.ntmps33
  go_wp2_with (go_at_call 67; refine HC.out.mono ?_; rintro e w1 ⟨rfl, hb, v, hv, hown⟩; obtain ⟨a1, cap1, rfl⟩ := slice_of hown; have hcell := cell_one hv; have HX := Lib.hid (And.intro hb hown); clear hb hv hown)
  go_ret
  exact ⟨_, rfl, ⟨HX.out.2.1, by
    rcases HX.out.2.2 with h | ⟨g, cap, cur, e1, e2, e3⟩
    · exact .inl h
    · exact .inr ⟨g, cap, cur, e1, by omega, e3⟩⟩, HX.out.1⟩
end Go.Proofs.YtmhdocgoeahbdaaGreatDoor.U

