/-
  The law on Runes, walked: it hands back true. Conditions: the library's two tables hold what its text lays.
-/
import Derived.Test.YtcafejjejcchlaaDoorUWorks
import Derived.Test.YtcafejjejcchlaaDoorURefR
namespace Go.Proofs.YtcafejjejcchlaaDoor
open Go.RowKit Go.RunKit Go.UtfKit Go.Lib Go.Shelf

/-- A row that holds the characters from k on, in the block g. -/
structure Holds (L : List Part) (g k : Nat) (w : World) : Prop where
  cells : ∀ j p, k ≤ j → L[j]? = some p → w.cell? ⟨g, j, none⟩ = some (.int .i32 (p.char : Nat))
  free : ∀ j, j < L.length → w.frozen? ⟨g, j, none⟩ = false
  lt : g < w.heap.size
theorem holds_of {L : List Part} {base : Nat} {v : Value} {w : World} (h : w.ownsRow base 21 1 v L.length (charCells L)) (hn : L ≠ []) : ∃ g cap, v = .slice (some ⟨g, 0, none⟩) L.length cap ∧ base ≤ g ∧ Holds L g 0 w := by
  have h0 := h
  rcases h.2 with ⟨_, e⟩ | ⟨g, cap, cur, rfl, hb, hg, h3⟩
  · exact absurd (List.length_eq_zero_iff.1 e) hn
  · refine ⟨g, cap, rfl, hb, fun j p _ hp => ?_, fun j _ => frozen_of_row _ _ _ _ _ hg, (Array.getElem?_eq_some_iff.1 hg).1⟩
    have := h0.cells (g := g) rfl j (.int .i32 (p.char : Nat)) (by simp [charCells, hp])
    rwa [add_at] at this
theorem Holds.on {L : List Part} {g k : Nat} {w w' : World} (h : Holds L g k w) (hb : Below w.heap.size w w') : Holds L g k w' :=
  ⟨fun j p hj hp => by rw [hb.cell h.lt]; exact h.cells j p hj hp, fun j hj => by rw [hb.frozen h.lt]; exact h.free j hj, Nat.lt_of_lt_of_le h.lt hb.size⟩
theorem Holds.drew {L : List Part} {g k : Nat} {w : World} (h : Holds L g k w) (n : Nat) : Holds L g k (w.drewN n) := ⟨h.cells, h.free, h.lt⟩
theorem Holds.other {L : List Part} {g k g2 i : Nat} {w : World} (h : Holds L g k w) (hne : g ≠ g2) (v : Value) : Holds L g k (w.setCell ⟨g2, i, none⟩ v) := by
  have e : (w.setCell ⟨g2, i, none⟩ v).heap[g]? = w.heap[g]? := Below.heap_setCell _ _ _ _ hne
  exact ⟨fun j p hj hp => by rw [World.cell?_of_block (w := w) e]; exact h.cells j p hj hp, fun j hj => by rw [World.frozen?_of_block (w := w) e]; exact h.free j hj, by simpa [World.setCell] using h.lt⟩
theorem Holds.wipe {L : List Part} {g k : Nat} {w : World} (h : Holds L g k w) (v : Value) : Holds L g (k + 1) (w.setCell ⟨g, k, none⟩ v) :=
  ⟨fun j p hj hp => by
    have e := World.cell?_setCell_other (w := w) (a := ⟨g, k, none⟩) (b := ⟨g, j, none⟩) (v := v) (by intro e; injection e with _ e2; omega)
    exact e.trans (h.cells j p (by omega) hp), fun j hj => by rw [World.frozen?_setCell]; exact h.free j hj, by simpa [World.setCell] using h.lt⟩

theorem from_same {P : Program} {f : FuncId} {args : Array Value} {w0 w : World} {v : Ending} (hb : Below w0.heap.size w0 w) (h : Calls P f args w fun e w' => e = v ∧ w = w') :
    Calls P f args w fun e w' => e = v ∧ Below w0.heap.size w0 w' := h.mono fun _ _ h => ⟨h.1, h.2 ▸ hb⟩

set_option maxRecDepth 100000 in
set_option maxHeartbeats 2000000 in
theorem lawRunes (s : ByteArray) (w : World) (ht : Tabs w) : Calls Tryd.prog 13 #[.string s] w fun e w' => e = .returned (.bool true) ∧ Below w.heap.size w w' := by
  have HT := Lib.hid ht
  clear ht
  by_cases hbig : 70000 < s.size
  · have hI : (70000 : Int) < s.size := by omega
    have HW := Lib.hid (works_any w HT.out)
    go_enter Tryd.func13, Tryd.ntmps13
    go_wp2_with (go_at_call 7; refine HW.out.mono ?_; rintro e w' ⟨rfl, hb⟩)
    go_ret
    exact ⟨rfl, hb⟩
  · have hI := eq_false (show ¬ (70000 : Int) < s.size by omega)
    have HF := Lib.hid (refRunes_any s w (by omega))
    have HR : Hid (∀ w1, Below w.heap.size w w1 → Calls Tryd.prog 12 #[.string s] w1 fun e w' => ∃ v, e = .returned v ∧ w'.ownsRow w1.heap.size 21 1 v (parts s).length (charCells (parts s)) ∧ Below w1.heap.size w1 w') := Lib.hid (fun w1 hb => runes_any s w1 (HT.out.on hb) (by omega))
    have HW : Hid (∀ w1, Below w.heap.size w w1 → Calls Tryd.prog 7 #[] w1 fun e w' => e = .returned (.bool true) ∧ Below w.heap.size w w') := Lib.hid (fun w1 hb => from_base hb (works_any w1 (HT.out.on hb)))
    have hbn : (parts s).length ≤ 70000 := by
      have h := parts_len s (s.size - 0) 0
      change (parts s).length ≤ _ at h
      omega
    generalize parts s = L at *
    by_cases hL : L = []
    · subst hL
      go_enter Tryd.func13, Tryd.ntmps13
      go_wp2_with (go_at_call 21; refine HF.out.mono ?_; rintro e w1 ⟨v, rfl, hown, hb1⟩; obtain ⟨a1, cap1, rfl⟩ := slice_of hown; clear hown)
      go_loopw [4] (fun i wr => ∃ k : Nat, k ≤ 2 ∧ i = .int .i64 k ∧ Below w.heap.size w wr) (fun i _ => 2 - (RowKit.intOf i).toNat)
      case atStart => exact ⟨0, by omega, rfl, hb1⟩
      case round =>
        clear hb1
        obtain ⟨k, hk, rfl, hb⟩ := hrel
        by_cases hlt : k < 2
        · go_wp2_with (go_at_call 12; refine (HR.out _ hb).mono ?_; rintro e w2 ⟨v, rfl, hown, hb2⟩; obtain ⟨a2, cap2, rfl⟩ := slice_of hown; clear hown)
          have hb3 := hb.trans (hb2.mono hb.size)
          obtain ⟨wo, rfl⟩ : ∃ wo : World, wo = wr := ⟨_, rfl⟩
          go_loopw [6] (fun i wr => i = .int .i64 0 ∧ Below w.heap.size w wr) (fun _ _ => 0)
          case atStart => exact ⟨rfl, hb3⟩
          case round =>
            clear hb hb2 hb3
            obtain ⟨rfl, hb⟩ := hrel
            go_wp2
            exact ⟨⟨k + 1, by omega, by go_num, hb⟩, by simp [RowKit.intOf]; omega⟩
        · go_wp2_with (go_at_call 7; refine (HW.out _ hb).mono ?_; rintro e w' ⟨rfl, hb3⟩)
          go_ret
          exact ⟨rfl, hb3⟩
    · have hn : 0 < L.length := List.length_pos_iff.2 hL
      go_enter Tryd.func13, Tryd.ntmps13
      go_wp2_with (go_at_call 21; refine HF.out.mono ?_; rintro e w1 ⟨v, rfl, hown, hb1⟩; obtain ⟨g1, cap1, rfl, hg1, h1⟩ := holds_of hown hL; have H1 := Lib.hid h1; clear hown h1)
      go_loopw [4] (fun i wr => ∃ k : Nat, k ≤ 2 ∧ i = .int .i64 k ∧ Below w.heap.size w wr ∧ Hid (Holds L g1 0 wr)) (fun i _ => 2 - (RowKit.intOf i).toNat)
      case atStart => exact ⟨0, by omega, rfl, hb1, H1⟩
      case round =>
        clear hb1 H1
        obtain ⟨k, hk, rfl, hb, H1⟩ := hrel
        by_cases hlt : k < 2
        · go_wp2_with (go_at_call 12; refine (HR.out _ hb).mono ?_; rintro e w2 ⟨v, rfl, hown, hb2⟩; obtain ⟨g2, cap2, rfl, hg2, h2⟩ := holds_of hown hL; have H2 := Lib.hid h2; clear hown h2)
          have hb3 := hb.trans (hb2.mono hb.size)
          have hne : g1 ≠ g2 := by have := H1.out.lt; omega
          have hgw : w.heap.size ≤ g2 := by have := hb.size; omega
          have H1' := Lib.hid (H1.out.on hb2)
          obtain ⟨wo, rfl⟩ : ∃ wo : World, wo = wr := ⟨_, rfl⟩
          go_loopw [6] (fun i wr => ∃ q : Nat, q ≤ L.length ∧ i = .int .i64 q ∧ Below w.heap.size w wr ∧ Hid (Holds L g1 0 wr) ∧ Hid (Holds L g2 q wr)) (fun i _ => L.length - (RowKit.intOf i).toNat)
          case atStart => exact ⟨0, by omega, rfl, hb3, H1', H2⟩
          case round =>
            clear hb hb2 hb3 H1 H2 H1' hg2
            obtain ⟨q, hq, rfl, hb, H1, H2⟩ := hrel
            by_cases hqn : q < L.length
            · obtain ⟨p, hp⟩ := some_at rfl hqn
              have c1 := H1.out.cells q p (by omega) hp
              have c2 := H2.out.cells q p (by omega) hp
              have f2 := H2.out.free q hqn
              have hqI : (q : Int) < L.length := by omega
              clear hp
              go_wp2
              go_quiet (fail)
              go_wp2
              exact ⟨⟨q + 1, by omega, by go_num, (below_drewN hb _).setCell hgw _, Lib.hid ((H1.out.drew _).other hne _), Lib.hid ((H2.out.drew _).wipe _)⟩, by simp [RowKit.intOf]; omega⟩
            · go_wp2
              exact ⟨⟨k + 1, by omega, by go_num, hb, H1⟩, by simp [RowKit.intOf]; omega⟩
        · go_wp2_with (go_at_call 7; refine (HW.out _ hb).mono ?_; rintro e w' ⟨rfl, hb3⟩)
          go_ret
          exact ⟨rfl, hb3⟩
end Go.Proofs.YtcafejjejcchlaaDoor
