/-
  The law on kinds of elements. Conditions: the library's variable MaxLen holds a number, its two tables what its text lays.
-/
import Derived.Test.YtkfmfldkllkcbaaGreatDoorRKindR
import Derived.Test.YtkfmfldkllkcbaaGreatDoorRWorks
namespace Go.Proofs.YtkfmfldkllkcbaaGreatDoor
open Go.RowKit Go.RunKit Go.CharrefKit Go.Lib Go.TokenKit Go.TreeKit

set_option maxRecDepth 100000 in
set_option maxHeartbeats 1000000 in
theorem lawKinds (s : ByteArray) (w : World) (ht : U.Tabs w) (hM : Maxed w w.heap.size) : Calls Tryz.prog 6 #[.string s] w fun e w' => e = .returned (.bool true) ∧ Below w.heap.size w w' := by
  have HW := Lib.hid (works05_any w ht hM)
  have hK := kind_any s w
  have hR := kindR_any s w
  rw [kindR_eq] at hR
  clear ht hM
  obtain ⟨k, hk⟩ : ∃ k, kindL (bl s) = k := ⟨_, rfl⟩
  rw [hk] at hK hR
  have HK := Lib.hid hK
  have HR := Lib.hid hR
  clear hK hR hk
  by_cases h : 100 < s.size
  · have hI : (100 : Int) < s.size := by omega
    go_enter Tryz.func6, Tryz.ntmps6
    go_big_wp2_with (go_at_call 15; refine HW.out.mono ?_; rintro e w1 ⟨rfl, hb1⟩)
    go_ret
    exact ⟨rfl, hb1⟩
  · have hI : ((100 : Int) < s.size) = False := eq_false (by omega)
    go_enter Tryz.func6, Tryz.ntmps6
    go_big_wp2_with (first
      | (go_at_call 25; refine HK.out.mono ?_; rintro e w1 ⟨rfl, rfl⟩)
      | (go_at_call 26; refine HR.out.mono ?_; rintro e w1 ⟨rfl, rfl⟩)
      | (go_at_call 15; refine HW.out.mono ?_; rintro e w1 ⟨rfl, hb1⟩))
    go_ret
    exact ⟨rfl, hb1⟩
end Go.Proofs.YtkfmfldkllkcbaaGreatDoor
