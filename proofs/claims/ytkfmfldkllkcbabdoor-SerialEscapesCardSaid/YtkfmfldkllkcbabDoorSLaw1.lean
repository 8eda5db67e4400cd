/-
  SerialEscapes: any string is escaped as the document says. Conditions: the library's two tables hold what its text lays.
-/
import Derived.Test.YtkfmfldkllkcbabDoorSWorks
import Derived.Test.YtkfmfldkllkcbabDoorSRefE
namespace Go.Proofs.YtkfmfldkllkcbabDoor
open Go.RowKit Go.RunKit Go.UtfKit Go.CharrefKit Go.Lib Go.TokenKit Go.TreeKit Go.SerialKit

set_option maxRecDepth 100000 in
set_option maxHeartbeats 2000000 in
theorem lawEscapes (s : ByteArray) (w : World) (hv : VTabs w) : Calls Tryd.prog 3 #[.string s] w fun e w' => e = .returned (.bool true) ∧ Below w.heap.size w w' := by
  have HW := Lib.hid fun (W : World) (hb : Below w.heap.size w W) => works06_any W (hv.on hb)
  have hb0 := Below.refl w.heap.size w
  clear hv
  by_cases hl : s.size ≤ 5000
  · have HE := Lib.hid fun W => escText_any s (by omega) W
    have HA := Lib.hid fun W => escAttr_any s (by omega) W
    have HR := Lib.hid fun (b : Bool) W => refEscape_any s b (by omega) W
    have hlt : ¬ 5000 < s.size := by omega
    clear hb0
    go_enter Tryd.func3, Tryd.ntmps3
    go_big_wp2_with (first
      | (go_at_call 7
         go_loud (
           refine (HE.out _).mono ?_
           rintro e w1 ⟨rfl, hb1⟩
           have HB1 := Lib.hid hb1
           clear hb1))
      | (go_at_call_of 8 (Value.bool false)
         go_loud (
           refine (HR.out false _).mono ?_
           rintro e w2 ⟨rfl, hb2⟩
           have HB2 := Lib.hid (HB1.out.trans (hb2.mono HB1.out.size))
           clear hb2))
      | (go_at_call 9
         go_loud (
           refine (HA.out _).mono ?_
           rintro e w3 ⟨rfl, hb3⟩
           have HB3 := Lib.hid (HB2.out.trans (hb3.mono HB2.out.size))
           clear hb3))
      | (go_at_call_of 8 (Value.bool true)
         go_loud (
           refine (HR.out true _).mono ?_
           rintro e w4 ⟨rfl, hb4⟩
           have HB4 := Lib.hid (HB3.out.trans (hb4.mono HB3.out.size))
           clear hb4))
      | (go_at_call 10
         go_loud (
           refine (HW.out _ HB4.out).mono ?_
           rintro e w5 ⟨rfl, hb5⟩
           have HB5 := Lib.hid (HB4.out.trans (hb5.mono HB4.out.size))
           clear hb5)))
    go_ret
    exact ⟨rfl, HB5.out⟩
  · have hgt : 5000 < s.size := by omega
    go_enter Tryd.func3, Tryd.ntmps3
    go_big_wp2_with (first
      | (go_at_call 10
         go_loud (
           refine (HW.out _ hb0).mono ?_
           rintro e w5 ⟨rfl, hb5⟩)))
    go_ret
    exact ⟨rfl, hb5⟩
end Go.Proofs.YtkfmfldkllkcbabDoor

