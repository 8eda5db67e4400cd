/-
  The laws of layer 1, walked: each hands back true. No conditions.
-/
import Derived.Test.YtjnjkmbgdhmbcaaOwnMi
import Derived.Test.YtjnjkmbgdhmbcaaOwnCl
namespace Go.Proofs.Ytjnjkmbgdhmbcaa
open Go.RowKit Go.RunKit

theorem from_base {P : Program} {f : FuncId} {args : Array Value} {w0 w : World} {v : Ending} (hb : Below w0.heap.size w0 w) (h : Calls P f args w fun e w' => e = v ∧ Below w.heap.size w w') :
    Calls P f args w fun e w' => e = v ∧ Below w0.heap.size w0 w' := h.mono fun _ _ h => ⟨h.1, hb.trans (h.2.mono hb.size)⟩
theorem from_same {P : Program} {f : FuncId} {args : Array Value} {w0 w : World} {v : Ending} (hb : Below w0.heap.size w0 w) (h : Calls P f args w fun e w' => e = v ∧ w = w') :
    Calls P f args w fun e w' => e = v ∧ Below w0.heap.size w0 w' := h.mono fun _ _ h => ⟨h.1, h.2 ▸ hb⟩

theorem class_at {r c : Int} (h : refClass r = c) (w : World) : Calls Try.prog 10 #[.int .i32 r] w fun e w' => e = .returned (.int .u8 c) ∧ Below w.heap.size w w' := h ▸ class_any r w
theorem bracket_at {r a : Int} {b c : Bool} (h : refBracket r = (a, b, c)) (w : World) : Calls Try.prog 13 #[.int .i32 r] w fun e w' => e = .returned (.tuple #[.int .i32 a, .bool b, .bool c]) ∧ Below w.heap.size w w' := by
  have := bracket_any r w
  rwa [h] at this
theorem mirror_at {r a : Int} {b : Bool} (h : refMirror r = (a, b)) (w : World) : Calls Try.prog 15 #[.int .i32 r] w fun e w' => e = .returned (.tuple #[.int .i32 a, .bool b]) ∧ Below w.heap.size w w' := by
  have := mirror_any r w
  rwa [h] at this

set_option maxRecDepth 100000 in
set_option maxHeartbeats 1000000 in
theorem works_any (w : World) : Calls Try.prog 12 #[] w fun e w' => e = .returned (.bool true) ∧ Below w.heap.size w w' := by
  have hb0 := Below.refl w.heap.size w
  have e1 : refClass 1488 = 2 := by kernel_rfl
  have e2 : refClass 49 = 4 := by kernel_rfl
  have e3 : refBracket 40 = (41, true, true) := by kernel_rfl
  have e4 : refMirror 60 = (62, true) := by kernel_rfl
  have H1 := Lib.hid e1
  have H2 := Lib.hid e2
  have H3 := Lib.hid e3
  have H4 := Lib.hid e4
  clear e1 e2 e3 e4
  go_enter Try.func12, Try.ntmps12
  go_wp2_with (first
    | (go_at_call 13; refine (from_base (by assumption) (bracket_at H3.out _)).mono ?_; rintro e w' ⟨rfl, hb⟩)
    | (go_at_call 15; refine (from_base (by assumption) (mirror_at H4.out _)).mono ?_; rintro e w' ⟨rfl, hb⟩)
    | (go_at_call 10; refine (from_base (by assumption) (class_at (by first | exact H1.out | exact H2.out) _)).mono ?_; rintro e w' ⟨rfl, hb⟩)
    | (go_at_call 17; refine (from_same (by assumption) (space_any _ _)).mono ?_; rintro e w' ⟨rfl, hb⟩))
  go_ret
  exact ⟨rfl, by assumption⟩

set_option maxHeartbeats 1000000 in
theorem lawBrackets (r : Int) (w : World) : Calls Try.prog 4 #[.int .i32 r] w fun e w' => e = .returned (.bool true) ∧ Below w.heap.size w w' := by
  have hb0 := Below.refl w.heap.size w
  generalize hx : refBracket r = x
  obtain ⟨a, b, c⟩ := x
  have H := Lib.hid hx
  have h2 : ∀ w, Calls Try.prog 14 #[.int .i32 r] w fun e w' => e = .returned (.tuple #[.int .i32 a, .bool b, .bool c]) ∧ Below w.heap.size w w' := fun w => by
    have := refBracket_any r w
    rwa [hx] at this
  have HB := Lib.hid h2
  clear h2 hx
  go_enter Try.func4, Try.ntmps4
  go_wp2_with (first
    | (go_at_call 13; refine (from_base (by assumption) (bracket_at H.out _)).mono ?_; rintro e w' ⟨rfl, hb⟩)
    | (go_at_call 14; refine (from_base (by assumption) (HB.out _)).mono ?_; rintro e w' ⟨rfl, hb⟩)
    | (go_at_call 12; refine (from_base (by assumption) (works_any _)).mono ?_; rintro e w' ⟨rfl, hb⟩))
  go_ret
  exact ⟨rfl, by assumption⟩

set_option maxHeartbeats 1000000 in
theorem lawMirrors (r : Int) (w : World) : Calls Try.prog 5 #[.int .i32 r] w fun e w' => e = .returned (.bool true) ∧ Below w.heap.size w w' := by
  have hb0 := Below.refl w.heap.size w
  generalize hx : refMirror r = x
  obtain ⟨a, b⟩ := x
  have H := Lib.hid hx
  have h2 : ∀ w, Calls Try.prog 16 #[.int .i32 r] w fun e w' => e = .returned (.tuple #[.int .i32 a, .bool b]) ∧ Below w.heap.size w w' := fun w => by
    have := refMirror_any r w
    rwa [hx] at this
  have HB := Lib.hid h2
  clear h2 hx
  have HS := Lib.hid (space_any r)
  have HT := Lib.hid (refSpace_any r)
  generalize (r == 9 || r == 10 || r == 12 || r == 13 || r == 32) = sp at HS HT
  go_enter Try.func5, Try.ntmps5
  go_wp2_with (first
    | (go_at_call 15; refine (from_base (by assumption) (mirror_at H.out _)).mono ?_; rintro e w' ⟨rfl, hb⟩)
    | (go_at_call 16; refine (from_base (by assumption) (HB.out _)).mono ?_; rintro e w' ⟨rfl, hb⟩)
    | (go_at_call 17; refine (from_same (by assumption) (HS.out _)).mono ?_; rintro e w' ⟨rfl, hb⟩)
    | (go_at_call 18; refine (from_same (by assumption) (HT.out _)).mono ?_; rintro e w' ⟨rfl, hb⟩)
    | (go_at_call 12; refine (from_base (by assumption) (works_any _)).mono ?_; rintro e w' ⟨rfl, hb⟩))
  go_ret
  exact ⟨rfl, by assumption⟩
end Go.Proofs.Ytjnjkmbgdhmbcaa
