/-
  Is a text well-formed: the document's way. No conditions.
-/
import Derived.Test.YtcafejjejcchlaaDoorUBack
namespace Go.Proofs.YtcafejjejcchlaaDoor
open Go.RowKit Go.RunKit Go.UtfKit Go.Lib Go.Shelf

set_option maxRecDepth 100000 in
set_option maxHeartbeats 1000000 in
theorem refWell_any (s : ByteArray) (w : World) (hs : s.size ≤ 1099511627776) :
    Calls Tryd.prog 10 #[.string s] w fun e w' => e = .returned (.bool ((parts s).all (·.ok))) ∧ Below w.heap.size w w' := by
  have D0 : Hid ((parts s).all (·.ok) = (partsFrom s 0).all (·.ok)) := Lib.hid rfl
  go_enter Tryd.func10, Tryd.ntmps10
  go_wp2
  go_loopw [3] (fun i wr => ∃ pos : Nat, i = .int .i64 pos ∧ pos ≤ s.size ∧ Hid ((parts s).all (·.ok) = (partsFrom s pos).all (·.ok)) ∧ Below w.heap.size w wr) (fun i _ => s.size - (RowKit.intOf i).toNat)
  case atStart => exact ⟨0, rfl, Nat.zero_le _, D0, Below.refl _ _⟩
  case round =>
    clear D0
    obtain ⟨pos, rfl, hpos, HD, hb⟩ := hrel
    by_cases hlt : pos < s.size
    · have HC := Lib.hid (cut_at s pos hlt wr)
      have hltI : (pos : Int) < s.size := by omega
      have hl2 := cutAt_len s pos hlt
      have HE := Lib.hid (HD.out)
      rw [partsFrom_step s pos hlt] at HE
      obtain ⟨c, n, k, hp⟩ : ∃ c n k, Hid (cutAt s pos = ⟨c, n, k⟩) := ⟨(cutAt s pos).char, (cutAt s pos).len, (cutAt s pos).ok, Lib.hid rfl⟩
      rw [hp.out] at HC HE hl2
      simp only at hl2
      have HB := Lib.hid hb
      clear hb HD
      cases k with
      | false =>
        have he : (parts s).all (·.ok) = false := by rw [HE.out]; rfl
        go_wp2_with (go_at_call 19; refine HC.out.mono ?_; rintro e w1 ⟨rfl, hb1⟩; unfold partCells)
        go_ret
        exact ⟨by rw [he]; rfl, (HB.out.trans (hb1.mono HB.out.size)).alloc (by have := HB.out.size; have := hb1.size; omega) _⟩
      | true =>
        go_wp2_with (go_at_call 19; refine HC.out.mono ?_; rintro e w1 ⟨rfl, hb1⟩; unfold partCells)
        exact ⟨⟨pos + n, by go_num, by omega, Lib.hid (by rw [HE.out]; simp), (HB.out.trans (hb1.mono HB.out.size)).alloc (by have := HB.out.size; have := hb1.size; omega) _⟩, by simp [RowKit.intOf]; omega⟩
    · have he : (parts s).all (·.ok) = true := by
        rw [HD.out, partsFrom_end s _ (by omega)]; rfl
      go_wp2
      go_ret
      exact ⟨rfl, hb⟩
end Go.Proofs.YtcafejjejcchlaaDoor
