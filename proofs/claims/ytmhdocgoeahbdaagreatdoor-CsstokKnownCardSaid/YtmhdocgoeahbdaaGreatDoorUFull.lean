/-
  utf8.FullRuneInString: whether bytes begin with a whole part. Conditions: the library's two tables hold what its text lays.
-/
import Derived.Test.YtmhdocgoeahbdaaGreatDoorUMath2
import Derived.Test.YtmhdocgoeahbdaaGreatDoorRows
import Derived.Test.YtmhdocgoeahbdaaGreatDoorKit
namespace Go.Proofs.YtmhdocgoeahbdaaGreatDoor.U
open Go.RowKit Go.RunKit Go.UtfKit Go.Lib

/-- The library's two tables in a world. -/
structure Tabs (w : World) : Prop where
  first : ∀ b, b < 256 → w.cell? ⟨0, b, none⟩ = some (.int .u8 (firstT b : Nat))
  lo : ∀ i, i < 5 → w.cell? ⟨1, i * 2, none⟩ = some (.int .u8 (accLo i : Nat))
  hi : ∀ i, i < 5 → w.cell? ⟨1, i * 2 + 1, none⟩ = some (.int .u8 (accHi i : Nat))
theorem Tabs.on {w w' : World} (h : Tabs w) (hb : Below w.heap.size w w') : Tabs w' := by
  have h0 : 0 < w.heap.size := World.block_lt_of_cell? _ _ (h.first 0 (by omega))
  have h1 : 1 < w.heap.size := World.block_lt_of_cell? _ _ (h.lo 0 (by omega))
  have k0 : ∀ b, w'.cell? ⟨0, b, none⟩ = w.cell? ⟨0, b, none⟩ := fun b => hb.cell h0
  have k1 : ∀ b, w'.cell? ⟨1, b, none⟩ = w.cell? ⟨1, b, none⟩ := fun b => hb.cell h1
  exact ⟨fun b hb' => by rw [k0]; exact h.first b hb', fun i hi => by rw [k1]; exact h.lo i hi, fun i hi => by rw [k1]; exact h.hi i hi⟩

theorem byteAt_get (s : ByteArray) (i : Nat) (h : i < s.size) : byteAt s i = (s[i]'h).toNat := by
  unfold byteAt
  congr 1
  simp [ByteArray.get!, getElem!_pos, h]
  rfl

/-- What utf8.FullRuneInString tells of a text whose first byte has the row x of the table. -/
def fullT (n sz lo hi b1 b2 : Nat) : Bool := decide (sz ≤ n) || (decide (1 < n) && (decide (b1 < lo) || decide (hi < b1))) || (decide (2 < n) && (decide (b2 < 128) || decide (191 < b2)))

set_option maxRecDepth 100000 in
set_option maxHeartbeats 2000000 in
theorem full_multi (s : ByteArray) (w : World) (hs : 0 < s.size) (b0 x sz lo hi idx : Nat) (e0 : (s[0]'hs).toNat = b0) (hc : w.cell? ⟨0, b0, none⟩ = some (.int .u8 (x : Nat)))
    (hx : (x = 2 ∧ sz = 2 ∧ idx = 0) ∨ (x = 3 ∧ sz = 3 ∧ idx = 0) ∨ (x = 19 ∧ sz = 3 ∧ idx = 1) ∨ (x = 35 ∧ sz = 3 ∧ idx = 2) ∨ (x = 4 ∧ sz = 4 ∧ idx = 0) ∨ (x = 52 ∧ sz = 4 ∧ idx = 3) ∨ (x = 68 ∧ sz = 4 ∧ idx = 4))
    (hb0 : b0 < 256) (hl : w.cell? ⟨1, idx * 2, none⟩ = some (.int .u8 (lo : Nat))) (hh : w.cell? ⟨1, idx * 2 + 1, none⟩ = some (.int .u8 (hi : Nat))) :
    Calls Tryz.prog 104 #[.string s] w fun e w' => e = .returned (.bool (fullT s.size sz lo hi (byteAt s 1) (byteAt s 2))) ∧ Below w.heap.size w w' := by
  have hb := Below.refl w.heap.size w
  have hb2 : Below w.heap.size w (w.alloc (.cells #[.int .u8 (lo : Nat), .int .u8 (hi : Nat)] 111)) := hb.alloc (Nat.le_refl _) _
  have hn1 : s.size ≠ 0 := by omega
  by_cases hn : sz ≤ s.size
  · have hR : Hid (fullT s.size sz lo hi (byteAt s 1) (byteAt s 2) = true) := Lib.hid (by simp [fullT, hn])
    have hnI : (sz : Int) ≤ s.size := by omega
    rcases hx with ⟨rfl, rfl, rfl⟩ | ⟨rfl, rfl, rfl⟩ | ⟨rfl, rfl, rfl⟩ | ⟨rfl, rfl, rfl⟩ | ⟨rfl, rfl, rfl⟩ | ⟨rfl, rfl, rfl⟩ | ⟨rfl, rfl, rfl⟩
    all_goals
      go_enter Tryz.func104, Tryz.ntmps104
      go_wp2
      go_ret
      rw [hR.out]
      exact ⟨rfl, hb⟩
  · by_cases n1 : s.size = 1
    · have hR : Hid (fullT s.size sz lo hi (byteAt s 1) (byteAt s 2) = false) := Lib.hid (by simp [fullT, n1]; omega)
      have n1' : ¬ (1 : Int) < s.size := by omega
      have n2' : ¬ (2 : Int) < s.size := by omega
      have n3' : ¬ (sz : Int) ≤ s.size := by omega
      rcases hx with ⟨rfl, rfl, rfl⟩ | ⟨rfl, rfl, rfl⟩ | ⟨rfl, rfl, rfl⟩ | ⟨rfl, rfl, rfl⟩ | ⟨rfl, rfl, rfl⟩ | ⟨rfl, rfl, rfl⟩ | ⟨rfl, rfl, rfl⟩
      all_goals first | (exfalso; omega; done) | skip
      all_goals
        go_enter Tryz.func104, Tryz.ntmps104
        go_wp2
        all_goals (try go_quiet (fail))
        all_goals (try go_wp2)
        all_goals (try go_quiet (fail))
        all_goals (try go_wp2)
        all_goals go_ret
        all_goals rw [hR.out]
        all_goals exact ⟨rfl, by first | exact hb2 | exact below_drewN hb2 _ | exact below_drewN (below_drewN hb2 _) _⟩
    · have l1 : 1 < s.size := by omega
      have e1 := byteAt_get s 1 l1
      have n1' : (1 : Int) < s.size := by omega
      generalize byteAt s 1 = b1 at *
      have n3' : ¬ (sz : Int) ≤ s.size := by omega
      by_cases c1 : b1 < lo
      · have hR : Hid (fullT s.size sz lo hi b1 (byteAt s 2) = true) := Lib.hid (by simp [fullT, l1, c1])
        have c1' : (b1 : Int) < lo := by omega
        rw [e1] at c1'
        rcases hx with ⟨rfl, rfl, rfl⟩ | ⟨rfl, rfl, rfl⟩ | ⟨rfl, rfl, rfl⟩ | ⟨rfl, rfl, rfl⟩ | ⟨rfl, rfl, rfl⟩ | ⟨rfl, rfl, rfl⟩ | ⟨rfl, rfl, rfl⟩
        all_goals first | (exfalso; omega; done) | skip
        all_goals
          go_enter Tryz.func104, Tryz.ntmps104
          go_wp2
          all_goals (try go_quiet (fail))
          all_goals (try go_wp2)
          all_goals (try go_quiet (fail))
          all_goals (try go_wp2)
          all_goals go_ret
          all_goals rw [hR.out]
          all_goals exact ⟨rfl, by first | exact hb2 | exact below_drewN hb2 _ | exact below_drewN (below_drewN hb2 _) _⟩
      · have c1' : ¬ (b1 : Int) < lo := by omega
        rw [e1] at c1'
        have c1f := eq_false c1'
        clear c1'
        by_cases c2 : hi < b1
        · have hR : Hid (fullT s.size sz lo hi b1 (byteAt s 2) = true) := Lib.hid (by simp [fullT, l1, c2])
          have c2' : (hi : Int) < b1 := by omega
          rw [e1] at c2'
          rcases hx with ⟨rfl, rfl, rfl⟩ | ⟨rfl, rfl, rfl⟩ | ⟨rfl, rfl, rfl⟩ | ⟨rfl, rfl, rfl⟩ | ⟨rfl, rfl, rfl⟩ | ⟨rfl, rfl, rfl⟩ | ⟨rfl, rfl, rfl⟩
          all_goals first | (exfalso; omega; done) | skip
          all_goals
            go_enter Tryz.func104, Tryz.ntmps104
            go_wp2
            all_goals (try go_quiet (fail))
            all_goals (try go_wp2)
            all_goals (try go_quiet (fail))
            all_goals (try go_wp2)
            all_goals go_ret
            all_goals rw [hR.out]
            all_goals exact ⟨rfl, by first | exact hb2 | exact below_drewN hb2 _ | exact below_drewN (below_drewN hb2 _) _⟩
        · have c2' : ¬ (hi : Int) < b1 := by omega
          rw [e1] at c2'
          have c2f := eq_false c2'
          clear c2'
          by_cases n2 : s.size = 2
          · have hR : Hid (fullT s.size sz lo hi b1 (byteAt s 2) = false) := Lib.hid (by simp [fullT, n2, c1, c2]; omega)
            have n2f := eq_false (show ¬ (2 : Int) < s.size by omega)
            rcases hx with ⟨rfl, rfl, rfl⟩ | ⟨rfl, rfl, rfl⟩ | ⟨rfl, rfl, rfl⟩ | ⟨rfl, rfl, rfl⟩ | ⟨rfl, rfl, rfl⟩ | ⟨rfl, rfl, rfl⟩ | ⟨rfl, rfl, rfl⟩
            all_goals first | (exfalso; omega; done) | skip
            all_goals
              go_enter Tryz.func104, Tryz.ntmps104
              go_wp2
              all_goals (try go_quiet (fail))
              all_goals (try go_wp2)
              all_goals (try go_quiet (fail))
              all_goals (try go_wp2)
              all_goals go_ret
              all_goals rw [hR.out]
              all_goals exact ⟨rfl, by first | exact hb2 | exact below_drewN hb2 _ | exact below_drewN (below_drewN hb2 _) _⟩
          · have l2 : 2 < s.size := by omega
            have e2 := byteAt_get s 2 l2
            have n2' : (2 : Int) < s.size := by omega
            generalize byteAt s 2 = b2 at *
            have hsz : ¬ sz ≤ s.size := hn
            by_cases d1 : b2 < 128
            · have hR : Hid (fullT s.size sz lo hi b1 b2 = true) := Lib.hid (by simp [fullT, l2, d1])
              have d1' : (b2 : Int) < 128 := by omega
              rw [e2] at d1'
              rcases hx with ⟨rfl, rfl, rfl⟩ | ⟨rfl, rfl, rfl⟩ | ⟨rfl, rfl, rfl⟩ | ⟨rfl, rfl, rfl⟩ | ⟨rfl, rfl, rfl⟩ | ⟨rfl, rfl, rfl⟩ | ⟨rfl, rfl, rfl⟩
              all_goals first | (exfalso; omega; done) | skip
              all_goals
                go_enter Tryz.func104, Tryz.ntmps104
                go_wp2
                all_goals (try go_quiet (fail))
                all_goals (try go_wp2)
                all_goals (try go_quiet (fail))
                all_goals (try go_wp2)
                all_goals go_ret
                all_goals rw [hR.out]
                all_goals exact ⟨rfl, by first | exact hb2 | exact below_drewN hb2 _ | exact below_drewN (below_drewN hb2 _) _⟩
            · have d1f := eq_false (show ¬ (b2 : Int) < 128 by omega)
              rw [e2] at d1f
              by_cases d2 : 191 < b2
              · have hR : Hid (fullT s.size sz lo hi b1 b2 = true) := Lib.hid (by simp [fullT, l2, d2])
                have d2' : (191 : Int) < b2 := by omega
                rw [e2] at d2'
                rcases hx with ⟨rfl, rfl, rfl⟩ | ⟨rfl, rfl, rfl⟩ | ⟨rfl, rfl, rfl⟩ | ⟨rfl, rfl, rfl⟩ | ⟨rfl, rfl, rfl⟩ | ⟨rfl, rfl, rfl⟩ | ⟨rfl, rfl, rfl⟩
                all_goals first | (exfalso; omega; done) | skip
                all_goals
                  go_enter Tryz.func104, Tryz.ntmps104
                  go_wp2
                  all_goals (try go_quiet (fail))
                  all_goals (try go_wp2)
                  all_goals (try go_quiet (fail))
                  all_goals (try go_wp2)
                  all_goals go_ret
                  all_goals rw [hR.out]
                  all_goals exact ⟨rfl, by first | exact hb2 | exact below_drewN hb2 _ | exact below_drewN (below_drewN hb2 _) _⟩
              · have d2f := eq_false (show ¬ (191 : Int) < b2 by omega)
                rw [e2] at d2f
                have hR : Hid (fullT s.size sz lo hi b1 b2 = false) := Lib.hid (by simp [fullT, hsz, c1, c2, d1, d2])
                rcases hx with ⟨rfl, rfl, rfl⟩ | ⟨rfl, rfl, rfl⟩ | ⟨rfl, rfl, rfl⟩ | ⟨rfl, rfl, rfl⟩ | ⟨rfl, rfl, rfl⟩ | ⟨rfl, rfl, rfl⟩ | ⟨rfl, rfl, rfl⟩
                all_goals first | (exfalso; omega; done) | skip
                all_goals
                  go_enter Tryz.func104, Tryz.ntmps104
                  go_wp2
                  all_goals (try go_quiet (fail))
                  all_goals (try go_wp2)
                  all_goals (try go_quiet (fail))
                  all_goals (try go_wp2)
                  all_goals go_ret
                  all_goals rw [hR.out]
                  all_goals exact ⟨rfl, by first | exact hb2 | exact below_drewN hb2 _ | exact below_drewN (below_drewN hb2 _) _⟩
end Go.Proofs.YtmhdocgoeahbdaaGreatDoor.U

