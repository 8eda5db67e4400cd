/-
  SameAttrs: the same attributes. Conditions: no more of them than 2^32.
-/
import Derived.Test.YtfjphhmbnhglcaaGreatDoorTToks
namespace Go.Proofs.YtfjphhmbnhglcaaGreatDoor
open Go.RowKit Go.RunKit Go.CharrefKit Go.Lib Go.TokenKit

set_option maxRecDepth 100000 in
set_option maxHeartbeats 1000000 in
theorem sameAttrs_any (ao bo : Option Addr) (c1 c2 : Nat) (l : List At) (hl : l.length ≤ 4294967296) (w : World) (ha : AtReads w ao l) (hb : AtReads w bo l) :
    Calls Tryz.prog 33 #[.slice ao l.length c1, .slice bo l.length c2] w fun e w' => e = .returned (.bool true) ∧ Below w.heap.size w w' := by
  have HA := Lib.hid ha
  have HC := Lib.hid hb
  clear ha hb
  go_enter Tryz.func33, Tryz.ntmps33
  go_big_wp2
  go_loopw [5] (fun v wr => ∃ k : Nat, v = .int .i64 (k : Nat) ∧ k ≤ l.length ∧ Hid (Below w.heap.size w wr)) (fun v _ => l.length - (RowKit.intOf v).toNat)
  case atStart => exact ⟨0, rfl, Nat.zero_le _, Lib.hid (Below.refl _ _)⟩
  case round =>
    obtain ⟨k, rfl, hk, HB⟩ := hrel
    by_cases hkl : k < l.length
    · have hkI : (k : Int) < l.length := by omega
      obtain ⟨a, hak⟩ : ∃ a, l[k]? = some a := ⟨l[k], by simp [hkl]⟩
      obtain ⟨g, rfl, h1, h2⟩ := (HA.out.on HB.out).at_ k a hak
      obtain ⟨g', rfl, h3, h4⟩ := (HC.out.on HB.out).at_ k a hak
      clear hak
      go_big_wp2
      go_quiet (fail)
      go_big_wp2
      exact ⟨⟨k + 1, rfl, by omega, Lib.hid (below_drewN HB.out _)⟩, by simp [RowKit.intOf]; omega⟩
    · obtain rfl : k = l.length := by omega
      go_big_wp2
      go_ret
      exact ⟨rfl, HB.out⟩
end Go.Proofs.YtfjphhmbnhglcaaGreatDoor
