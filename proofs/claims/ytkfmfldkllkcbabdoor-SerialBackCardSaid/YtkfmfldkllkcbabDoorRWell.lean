/-
  Is a text well-formed, and without the character 0: the document's way. No conditions.
-/
import Derived.Test.YtkfmfldkllkcbabDoorUCut3
import Derived.Test.YtkfmfldkllkcbabDoorRWords
import Derived.Test.YtkfmfldkllkcbabDoorRKind
import Derived.Test.YtkfmfldkllkcbabDoorUDec2
import Derived.Test.YtkfmfldkllkcbabDoorUMath2
import Derived.Laws.IdiomStrings
import Derived.Lib.SlBytesConst
import Derived.Deep.RegionHeld3
import Derived.Deep.RegionHeld3
import Derived.Deep.RegionHeld3
import Derived.Deep.RegionHeld
import Derived.Lib.RuneBytes
namespace Go.Proofs.YtkfmfldkllkcbabDoor
open Go.RowKit Go.RunKit Go.UtfKit Go.CharrefKit Go.Lib Go.TokenKit Go.TreeKit

/-- Parts that are well-formed, none of them the character 0. -/
def wellP (p : Part) : Bool := p.ok && decide (p.char ≠ 0)
def wellL (s : ByteArray) : Bool := (parts s).all wellP

set_option maxRecDepth 100000 in
set_option maxHeartbeats 1000000 in
theorem refWell05_any (s : ByteArray) (w : World) (hs : s.size ≤ 1099511627776) :
    Calls Tryd.prog 11 #[.string s] w fun e w' => e = .returned (.bool (wellL s)) ∧ Below w.heap.size w w' := by
  have D0 : Hid (wellL s = (partsFrom s 0).all wellP) := Lib.hid rfl
  go_enter Tryd.func11, Tryd.ntmps11
  go_wp2
  go_loopw [3] (fun i wr => ∃ pos : Nat, i = .int .i64 pos ∧ pos ≤ s.size ∧ Hid (wellL s = (partsFrom s pos).all wellP) ∧ Below w.heap.size w wr) (fun i _ => s.size - (RowKit.intOf i).toNat)
  case atStart => exact ⟨0, rfl, Nat.zero_le _, D0, Below.refl _ _⟩
  case round =>
    clear D0
    obtain ⟨pos, rfl, hpos, HD, hb⟩ := hrel
    by_cases hlt : pos < s.size
    · have HC := Lib.hid (U.cut_at s pos hlt wr)
      have hltI : (pos : Int) < s.size := by omega
      have hl2 := cutAt_len s pos hlt
      have HE := Lib.hid (HD.out)
      rw [partsFrom_step s pos hlt] at HE
      obtain ⟨c, n, k, hp⟩ : ∃ c n k, Hid (cutAt s pos = ⟨c, n, k⟩) := ⟨(cutAt s pos).char, (cutAt s pos).len, (cutAt s pos).ok, Lib.hid rfl⟩
      rw [hp.out] at HC HE hl2
      simp only at hl2
      have HB := Lib.hid hb
      clear hb HD
      cases k with
      | false =>
        have he : Hid (wellL s = false) := Lib.hid (by rw [HE.out]; rfl)
        go_wp2_with (go_at_call 18; refine HC.out.mono ?_; rintro e w1 ⟨rfl, hb1⟩; unfold U.partCells)
        go_ret
        exact ⟨ret1_eq (congrArg Value.bool he.out.symm), (HB.out.trans (hb1.mono HB.out.size)).alloc (by have := HB.out.size; have := hb1.size; omega) _⟩
      | true =>
        by_cases hc : c = 0
        · subst hc
          have he : Hid (wellL s = false) := Lib.hid (by rw [HE.out]; rfl)
          go_wp2_with (go_at_call 18; refine HC.out.mono ?_; rintro e w1 ⟨rfl, hb1⟩; unfold U.partCells)
          go_ret
          exact ⟨ret1_eq (congrArg Value.bool he.out.symm), (HB.out.trans (hb1.mono HB.out.size)).alloc (by have := HB.out.size; have := hb1.size; omega) _⟩
        · have hcI : (((c : Nat) : Int) = 0) = False := eq_false (by omega)
          have hcB : (((c : Nat) : Int) == 0) = false := by rw [beq_eq_false_iff_ne]; omega
          have HN : Hid (wellL s = (partsFrom s (pos + n)).all wellP) := Lib.hid (by rw [HE.out]; simp [wellP, hc])
          clear hc
          go_wp2_with (go_at_call 18; refine HC.out.mono ?_; rintro e w1 ⟨rfl, hb1⟩; unfold U.partCells)
          exact ⟨⟨pos + n, by go_num, by omega, HN, (HB.out.trans (hb1.mono HB.out.size)).alloc (by have := HB.out.size; have := hb1.size; omega) _⟩, by simp [RowKit.intOf]; omega⟩
    · have he : Hid (wellL s = true) := Lib.hid (by
        rw [HD.out, partsFrom_end s _ (by omega)]; rfl)
      have hltI : ((pos : Int) < s.size) = False := eq_false (by omega)
      go_wp2
      go_ret
      exact ⟨ret1_eq (congrArg Value.bool he.out.symm), hb⟩
theorem well_ok {s : ByteArray} (h : wellL s = true) : ∀ p, p ∈ parts s → p.ok = true := fun p hp => by
  have := List.all_eq_true.1 h p hp
  unfold wellP at this
  simp only [Bool.and_eq_true] at this
  exact this.1
end Go.Proofs.YtkfmfldkllkcbabDoor

