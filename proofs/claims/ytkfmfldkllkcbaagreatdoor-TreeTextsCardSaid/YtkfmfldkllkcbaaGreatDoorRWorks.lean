/-
  The chapter's second example, of trees. Conditions: the library's variable MaxLen holds a number, its two tables what its text lays.
-/
import Derived.Test.YtkfmfldkllkcbaaGreatDoorRTell
namespace Go.TreeKit
open Go Go.Lib Go.TokenKit
def wk1 : ByteArray := ⟨#[60, 117, 108, 62, 60, 108, 105, 62, 97, 60, 108, 105, 62, 98, 60, 47, 117, 108, 62]⟩
def wk2 : ByteArray := ⟨#[60, 98, 62, 60, 112, 62, 120, 60, 47, 98, 62]⟩
def wk1T : List Nd := [⟨0, [], [], [], -1, [1]⟩, ⟨1, [117, 108], [], [], 0, [2, 4]⟩, ⟨1, [108, 105], [], [], 1, [3]⟩, ⟨2, [], [], [97], 2, []⟩, ⟨1, [108, 105], [], [], 1, [5]⟩, ⟨2, [], [], [98], 4, []⟩]
end Go.TreeKit
namespace Go.Proofs.YtkfmfldkllkcbaaGreatDoor
open Go.RowKit Go.RunKit Go.CharrefKit Go.Lib Go.TokenKit Go.TreeKit

theorem wk1_told : parseL (decL wk1) = (wk1T, 0, 0) := by kernel_rfl
theorem wk2_told : parseL (decL wk2) = ([], 51, 3) := by kernel_rfl
theorem maxed_on {w w' : World} (h : Maxed w w.heap.size) (hb : Below w.heap.size w w') : Maxed w' w'.heap.size := h.at_ hb hb.size

/-- The bytes of a constant text, laid. -/
theorem lit_bytes (w : World) (l : List UInt8) (n : Nat) (hn : l.length = n) : BytesAt (w.alloc (.cells (byteCells l).toArray 5 (n, n + 1))) (some ⟨w.heap.size, 0, none⟩) n ⟨l.toArray⟩ ∧ Below w.heap.size w (w.alloc (.cells (byteCells l).toArray 5 (n, n + 1))) := by
  refine ⟨⟨by simpa [ByteArray.size] using hn, fun j hj => ⟨_, rfl, ?_⟩⟩, (Below.refl _ _).alloc (Nat.le_refl _) _⟩
  have hl : j < l.length := by omega
  rw [add_at, cell_of_row _ w.heap.size j _ _ _ (heap_alloc_new w _), UtfKit.byteAt_list l j hl]
  simp [byteCells, hl]

set_option maxRecDepth 100000 in
set_option maxHeartbeats 2000000 in
theorem works05_any (w : World) (ht : U.Tabs w) (hM : Maxed w w.heap.size) : Calls Tryz.prog 15 #[] w fun e w' => e = .returned (.bool true) ∧ Below w.heap.size w w' := by
  obtain ⟨hby1, hb1⟩ := lit_bytes w wk1.data.toList 19 rfl
  have HP1 := Lib.hid (parse_at wk1_told (m := 6) rfl 19 hby1 (ht.on hb1) (maxed_on hM hb1))
  have HB1 := Lib.hid hb1
  have kc := fun (w : World) (C : Array Value) (n c : Nat) => Lib.run_convert_bytes_const (P := Tryz.prog) w 42 5 C n c underBytes underByte
  have HP2 := Lib.hid fun (w2 : World) (hb : Below w.heap.size w w2) (a : Option Addr) (cap : Nat) (hy : BytesAt w2 a 11 wk2) => parse_at wk2_told (m := 0) rfl cap hy (ht.on hb) (maxed_on hM hb)
  clear hby1 hb1 ht hM
  go_enter Tryz.func15, Tryz.ntmps15
  go_big_wp2_with (first
    | (go_at_call 20
       go_loud (
         refine HP1.out.mono ?_
         clear HP1
         rintro e w2 ⟨ao, cap, L, rfl, hb2, hr, hrd, hL⟩
         have HB2 := Lib.hid (HB1.out.trans (hb2.mono HB1.out.size))
         have hk := hr.kidsAt (map_at hL (k := 1) rfl).choose_spec.choose_spec
         obtain ⟨u1, v1, x1⟩ := map_at hL (k := 1) rfl
         obtain ⟨u5, v5, x5⟩ := map_at hL (k := 5) rfl
         have HR := Lib.hid (And.intro hrd (And.intro x1 (And.intro x5 (hr.kidsAt x1))))
         obtain ⟨hby3, hb3⟩ := lit_bytes w2 wk2.data.toList 11 rfl
         have HB3 := Lib.hid (HB2.out.trans (hb3.mono HB2.out.size))
         have HQ := Lib.hid (HP2.out _ HB3.out _ 11 hby3)
         have H23 := Lib.hid hb3
         clear hb2 hr hrd hL hk x1 x5 hby3 hb3))
    | (go_at_call 20
       go_loud (
         refine HQ.out.mono ?_
         rintro e w4 ⟨ao4, cap4, L4, rfl, hb4, _, _, _⟩
         have HB4 := Lib.hid (HB3.out.trans (hb4.mono HB3.out.size))
         have hon := H23.out.trans (hb4.mono H23.out.size)
         obtain ⟨hrd, x1, x5, hk⟩ := HR.out
         obtain ⟨g, rfl, a0, a1, a2, a3, a4, a5⟩ := (hrd.on hon).at_ 1 _ x1
         obtain ⟨g', hg', b0, b1, b2, b3, b4, b5⟩ := (hrd.on hon).at_ 5 _ x5
         cases hg'
         obtain ⟨ak, ck, ek, hkk⟩ := (hk.on hon).at_
         obtain ⟨gk, rfl, k1⟩ := hkk 1 4 rfl
         subst ek
         clear hb4 hon hrd x1 x5 hk hkk HR)))
  go_ret
  exact ⟨rfl, HB4.out⟩
end Go.Proofs.YtkfmfldkllkcbaaGreatDoor
