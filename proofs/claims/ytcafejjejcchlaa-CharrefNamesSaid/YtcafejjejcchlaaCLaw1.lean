/-
  The law's short look; the laws on Decode and Find. No conditions.
-/
import Derived.Test.YtcafejjejcchlaaCRef4
namespace Go.Proofs.Ytcafejjejcchlaa
open Go.RowKit Go.RunKit Go.CharrefKit Go.Lib

theorem works1 : (decodeL false (bl ⟨#[38, 108, 116, 59, 38, 35, 54, 53, 59, 38, 110, 111, 116, 105, 110, 32, 38, 99, 111, 112, 121, 61, 49]⟩)).toArray = #[60, 65, 194, 172, 105, 110, 32, 194, 169, 61, 49] := by kernel_rfl
theorem works2 : (decodeL true (bl ⟨#[38, 99, 111, 112, 121, 61, 49, 38, 99, 111, 112, 121, 59]⟩)).toArray = #[38, 99, 111, 112, 121, 61, 49, 194, 169] := by kernel_rfl
theorem from_base {P : Program} {f : FuncId} {args : Array Value} {w0 w : World} {v : Ending} (hb : Below w0.heap.size w0 w) (h : Calls P f args w fun e w' => e = v ∧ Below w.heap.size w w') :
    Calls P f args w fun e w' => e = v ∧ Below w0.heap.size w0 w' := h.mono fun _ _ h => ⟨h.1, hb.trans (h.2.mono hb.size)⟩

set_option maxRecDepth 100000 in
set_option maxHeartbeats 1000000 in
theorem works_any (w : World) : Calls Try.prog 10 #[] w fun e w' => e = .returned (.bool true) ∧ Below w.heap.size w w' := by
  have h1 := fun w => decode_any false ⟨#[38, 108, 116, 59, 38, 35, 54, 53, 59, 38, 110, 111, 116, 105, 110, 32, 38, 99, 111, 112, 121, 61, 49]⟩ (by decide) w
  have h2 := fun w => decode_any true ⟨#[38, 99, 111, 112, 121, 61, 49, 38, 99, 111, 112, 121, 59]⟩ (by decide) w
  rw [works1] at h1
  rw [works2] at h2
  have H1 := Lib.hid h1
  have H2 := Lib.hid h2
  clear h1 h2
  go_enter Try.func10, Try.ntmps10
  go_wp2_with (first
    | (go_at_call 14; refine (H1.out _).mono ?_; rintro e w1 ⟨rfl, hb1⟩; clear H1)
    | (go_at_call 14; refine (H2.out _).mono ?_; rintro e w2 ⟨rfl, hb2⟩))
  go_ret
  exact ⟨rfl, hb1.trans (hb2.mono hb1.size)⟩

set_option maxRecDepth 100000 in
set_option maxHeartbeats 1000000 in
theorem lawDecodes (s : ByteArray) (attr : Bool) (w : World) : Calls Try.prog 4 #[.string s, .bool attr] w fun e w' => e = .returned (.bool true) ∧ Below w.heap.size w w' := by
  have HW : Hid (∀ w1, Below w.heap.size w w1 → Calls Try.prog 10 #[] w1 fun e w' => e = .returned (.bool true) ∧ Below w.heap.size w w') := Lib.hid (fun w1 hb => from_base hb (works_any w1))
  by_cases hbig : 5000 < s.size
  · have hI : (5000 : Int) < s.size := by omega
    go_enter Try.func4, Try.ntmps4
    go_wp2_with (go_at_call 10; refine (HW.out _ (Below.refl _ _)).mono ?_; rintro e w' ⟨rfl, hb⟩)
    go_ret
    exact ⟨rfl, hb⟩
  · have hI := eq_false (show ¬ (5000 : Int) < s.size by omega)
    have H1 := Lib.hid (decode_any attr s (by omega) w)
    have H2 := Lib.hid (fun w => refDecode_any attr s (by omega) w)
    generalize (⟨(decodeL attr (bl s)).toArray⟩ : ByteArray) = t at *
    go_enter Try.func4, Try.ntmps4
    go_wp2_with (first
      | (go_at_call 14; refine H1.out.mono ?_; rintro e w1 ⟨rfl, hb1⟩; have HB1 := Lib.hid hb1; clear hb1)
      | (go_at_call 15; refine (H2.out _).mono ?_; rintro e w2 ⟨rfl, hb2⟩; have HB2 := Lib.hid (HB1.out.trans (hb2.mono HB1.out.size)); clear hb2)
      | (go_at_call 10; refine (HW.out _ HB2.out).mono ?_; rintro e w' ⟨rfl, hb⟩))
    go_ret
    exact ⟨rfl, hb⟩
end Go.Proofs.Ytcafejjejcchlaa
