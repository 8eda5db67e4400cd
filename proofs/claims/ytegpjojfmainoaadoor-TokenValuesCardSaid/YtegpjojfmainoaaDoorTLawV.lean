/-
  A value in quotes is told byte by byte. Conditions: the library's variable MaxLen holds a number.
-/
import Derived.Test.YtegpjojfmainoaaDoorTMath2
namespace Go.Proofs.YtegpjojfmainoaaDoor
open Go.RowKit Go.RunKit Go.CharrefKit Go.Lib Go.TokenKit

theorem bl_append (a b : ByteArray) : bl (a ++ b) = bl a ++ bl b := by simp [bl]
theorem values_text (v : ByteArray) : bl (⟨#[60, 112, 32, 97, 61, 34]⟩ ++ v ++ ⟨#[34, 32, 98, 32, 61, 32, 39]⟩ ++ v ++ ⟨#[39, 62]⟩) = valuesText (bl v) := by
  simp only [bl_append]
  show [60, 112, 32, 97, 61, 34] ++ bl v ++ [34, 32, 98, 32, 61, 32, 39] ++ bl v ++ [39, 62] = _
  simp [valuesText]

set_option maxRecDepth 100000 in
set_option maxHeartbeats 2000000 in
theorem lawValues (s : ByteArray) (w : World) (hM : Maxed w w.heap.size) : Calls Tryd.prog 6 #[.string s] w fun e w' => e = .returned (.bool true) ∧ Below w.heap.size w w' := by
  have HW := Lib.hid fun w1 (hb : Below w.heap.size w w1) => works_any w1 (maxed_on hM hb)
  by_cases hbig : 2000 < s.size
  · have hI : (2000 : Int) < s.size := by omega
    go_enter Tryd.func6, Tryd.ntmps6
    go_big_wp2_with (go_at_call 7; refine (HW.out _ (Below.refl _ _)).mono ?_; rintro e w1 ⟨rfl, hb1⟩)
    go_ret
    exact ⟨rfl, hb1⟩
  · have hI : ¬ (2000 : Int) < s.size := by omega
    have hH := has_any s ⟨#[34, 39, 38, 0]⟩ (by omega) (by decide) w
    rw [show bl (⟨#[34, 39, 38, 0]⟩ : ByteArray) = [34, 39, 38, 0] from rfl] at hH
    cases hh : hasL (bl s) [34, 39, 38, 0] with
    | true =>
      rw [hh] at hH
      have HH := Lib.hid hH
      clear hH hh
      go_enter Tryd.func6, Tryd.ntmps6
      go_big_wp2_with (first
        | (go_at_call 11; refine HH.out.mono ?_; rintro e w1 ⟨rfl, hb1⟩; have HB1 := Lib.hid hb1; clear hb1)
        | (go_at_call 7; refine (HW.out _ HB1.out).mono ?_; rintro e w2 ⟨rfl, hb2⟩))
      go_ret
      exact ⟨rfl, HB1.out.trans (hb2.mono HB1.out.size)⟩
    | false =>
      rw [hh] at hH
      have HH := Lib.hid hH
      have htold := values_told hh (by rw [bl_length]; omega)
      rw [← values_text] at htold
      clear hH hh
      have HT := Lib.hid fun w1 (hb : Below w.heap.size w w1) => tokens_at (n := 1) htold rfl w1 (maxed_on hM hb)
      clear htold hM
      go_enter Tryd.func6, Tryd.ntmps6
      go_big_wp2_with (first
        | (go_at_call 11; refine HH.out.mono ?_; rintro e w1 ⟨rfl, hb1⟩; have HB1 := Lib.hid hb1; clear hb1)
        | (go_at_call 8
           go_loud (
             refine (HT.out _ HB1.out).mono ?_
             rintro e w2 ⟨ao, cap, L, rfl, hb2, hrow, hr, hL⟩
             have HB2 := Lib.hid (HB1.out.trans (hb2.mono HB1.out.size))
             obtain ⟨u, rfl⟩ := map_one hL
             obtain ⟨g, rfl, a0, a1, a2, a3, a4⟩ := hr.at_ 0 _ rfl
             obtain ⟨ao', cap', hu, hat⟩ := (hrow.sub _ (List.mem_singleton.2 rfl)).reads
             obtain rfl : u = .slice ao' 2 cap' := hu
             obtain ⟨g', rfl, b0, b1⟩ := hat.at_ 0 _ rfl
             obtain ⟨g'', hg'', c0, c1⟩ := hat.at_ 1 _ rfl
             cases hg''
             have d1 : w2.cell? ⟨g', 0 * 2 + 1, none⟩ = some (.string s) := b1
             have d2 : w2.cell? ⟨g', 1 * 2 + 1, none⟩ = some (.string s) := c1
             clear hb2 hr hL hrow hat b1 c1))
        | (go_at_call 7; refine (HW.out _ HB2.out).mono ?_; rintro e w3 ⟨rfl, hb3⟩))
      go_ret
      exact ⟨rfl, HB2.out.trans (hb3.mono HB2.out.size)⟩
end Go.Proofs.YtegpjojfmainoaaDoor
