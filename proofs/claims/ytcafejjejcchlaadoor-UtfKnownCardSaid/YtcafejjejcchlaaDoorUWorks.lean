/-
  String of utf; the law's short look at all three functions. Conditions: the library's two tables hold what its text lays.
-/
import Derived.Test.YtcafejjejcchlaaDoorUDec2
import Derived.Laws.Cover4
import Derived.Laws.IdiomStrings
import Derived.Lib.SlBytesConst
namespace Go.Proofs.YtcafejjejcchlaaDoor
open Go.RowKit Go.RunKit Go.UtfKit Go.Lib Go.Shelf

theorem underByte : Tryd.prog.underlying 5 = some (.int .u8) := by kernel_rfl
theorem underRune : Tryd.prog.underlying 21 = some (.int .i32) := by kernel_rfl
theorem underString : Tryd.prog.underlying 9 = some .string := by kernel_rfl
theorem underBytes : Tryd.prog.underlying 22 = some (.slice 5) := by kernel_rfl

set_option maxRecDepth 100000 in
set_option maxHeartbeats 1000000 in
theorem string_any (a : Addr) (cap : Nat) (zs : List Int) (w : World) (hc : ∀ j, j < zs.length → w.cell? (a.add j) = some (.int .i32 (zs.getD j 0))) :
    Calls Tryd.prog 11 #[.slice (some a) zs.length cap] w fun e w' => e = .returned (.string (runesBytes zs)) ∧ w = w' := by
  have hcv := run_convert_runes (P := Tryd.prog) w 28 9 21 a zs.length cap zs (Nat.le_refl _) Tryd.underRunes underRune underString hc
  rw [List.take_length] at hcv
  clear hc
  generalize runesBytes zs = t at *
  generalize zs.length = n at *
  go_enter Tryd.func11, Tryd.ntmps11
  go_wp2
  go_ret
  exact ⟨rfl, rfl⟩

def sampleBytes : List UInt8 := [97, 13, 10, 98, 13, 99, 195, 40]
theorem sample_told : (told (parts ⟨sampleBytes.toArray⟩)).toArray = #[97, 10, 98, 10, 99, 239, 191, 189, 40] := by kernel_rfl
theorem sample_parts : parts ⟨#[215, 144, 255]⟩ = [⟨1488, 2, true⟩, ⟨65533, 1, false⟩] := by kernel_rfl
theorem sample_runes : runesBytes [1488, 65533] = ⟨#[215, 144, 239, 191, 189]⟩ := by kernel_rfl

set_option maxRecDepth 100000 in
set_option maxHeartbeats 2000000 in
theorem works_any (w : World) (ht : Tabs w) : Calls Tryd.prog 7 #[] w fun e w' => e = .returned (.bool true) ∧ Below w.heap.size w w' := by
  have b1 : Below w.heap.size w (w.alloc (.cells (byteCells sampleBytes).toArray 5 (8, 9))) := (Below.refl _ _).alloc (Nat.le_refl _) _
  have hcv : ∀ p : Over (w.alloc (.cells (byteCells sampleBytes).toArray 5 (8, 9))), (convert 22 9 (.slice (some ⟨w.heap.size, 0, none⟩) 8 8)).run Tryd.prog p.out = .ok (.string ⟨sampleBytes.toArray⟩) p.out := fun p =>
    run_convert_bytes_back (P := Tryd.prog) p.out 22 9 5 ⟨w.heap.size, 0, none⟩ 8 sampleBytes underBytes underByte underString fun j hj => by
      have h := p.cell (a := ⟨w.heap.size, j, none⟩) (v := .int .u8 (sampleBytes[j].toNat : Int)) (by
        rw [World.cell?_alloc_mark]
        simp [byteCells, hj])
      simpa [go_sem] using h
  have HD := Lib.hid (decode_any (some ⟨w.heap.size, 0, none⟩) 8 8 ⟨sampleBytes.toArray⟩ _ (ht.on b1) (by omega) rfl hcv)
  rw [sample_told] at HD
  have HB := Lib.hid b1
  clear hcv b1
  have HR : Hid (∀ w1, Below w.heap.size w w1 → Calls Tryd.prog 12 #[.string ⟨#[215, 144, 255]⟩] w1 fun e w' => ∃ g cap, e = .returned (.slice (some ⟨g, 0, none⟩) 2 cap) ∧ w'.cell? ⟨g, 0, none⟩ = some (.int .i32 1488) ∧ w'.cell? ⟨g, 1, none⟩ = some (.int .i32 65533) ∧ Below w.heap.size w w') := Lib.hid (fun w1 hb1 => by
    refine (runes_any ⟨#[215, 144, 255]⟩ w1 (ht.on hb1) (by decide)).mono ?_
    rintro e w2 ⟨v, rfl, hown, hb2⟩
    rw [sample_parts] at hown
    rcases hown.2 with ⟨_, h⟩ | ⟨g, cap, cur, rfl, h2⟩
    · cases h
    · have hc := hown.cells (g := g) rfl
      have c0 := hc 0 _ rfl
      have c1 := hc 1 _ rfl
      exact ⟨g, cap, rfl, by simpa [go_sem] using c0, by simpa [go_sem] using c1, hb1.trans (hb2.mono hb1.size)⟩)
  have HS : Hid (∀ w1 g cap, w1.cell? ⟨g, 0, none⟩ = some (.int .i32 1488) → w1.cell? ⟨g, 1, none⟩ = some (.int .i32 65533) → Calls Tryd.prog 11 #[.slice (some ⟨g, 0, none⟩) 2 cap] w1 fun e w' => e = .returned (.string ⟨#[215, 144, 239, 191, 189]⟩) ∧ w1 = w') := Lib.hid (fun w1 g cap c0 c1 => by
    have := string_any ⟨g, 0, none⟩ cap [1488, 65533] w1 (fun j hj => by
      have : j = 0 ∨ j = 1 := by simp at hj; omega
      rcases this with rfl | rfl
      · simpa [go_sem] using c0
      · simpa [go_sem] using c1)
    rwa [sample_runes] at this)
  have kc := fun (w : World) (C : Array Value) (n c : Nat) => Lib.run_convert_bytes_const (P := Tryd.prog) w 22 5 C n c underBytes underByte
  go_enter Tryd.func7, Tryd.ntmps7
  go_wp2_with (first
    | (go_at_call 8; refine HD.out.mono ?_; rintro e w1 ⟨rfl, hb1⟩; have HB1 := Lib.hid (HB.out.trans (hb1.mono HB.out.size)); clear hb1)
    | (go_at_call 12; refine (HR.out _ HB1.out).mono ?_; rintro e w2 ⟨g, cap, rfl, c0, c1, hb2⟩; have HB2 := Lib.hid hb2; clear hb2)
    | (go_at_call 11; refine (HS.out _ g cap c0 c1).mono ?_; rintro e w3 ⟨rfl, rfl⟩))
  go_ret
  exact ⟨rfl, HB2.out⟩
end Go.Proofs.YtcafejjejcchlaaDoor
