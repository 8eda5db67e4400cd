/-
  The law on pieces, walked: it hands back true. Conditions: the library's two tables hold what its text lays.
-/
import Derived.Test.YtcafejjejcchlaaDoorUWell
namespace Go.Proofs.YtcafejjejcchlaaDoor
open Go.RowKit Go.RunKit Go.UtfKit Go.Lib Go.Shelf

/-- Decode of a text's bytes, made for the call. -/
theorem decode_made (s : ByteArray) (n : Nat) (hn : s.size = n) (w : World) (ht : Tabs w) (hs : n ≤ 65536) : ∃ gc w1, (convert 9 22 (.string s)).run Tryd.prog w = .ok (.slice (some ⟨w.heap.size, 0, none⟩) n gc) w1 ∧ Below w.heap.size w w1 ∧
    Calls Tryd.prog 8 #[.slice (some ⟨w.heap.size, 0, none⟩) n gc] w1 fun e w' => e = .returned (.tuple #[.string (decText s), .int .i64 0]) ∧ Below w1.heap.size w1 w' := by
  subst hn
  have hb1 : Below w.heap.size w (w.drew.alloc (.cells (bytesRow s (grownCap w s.size 0 5)) 5 ((bytesRow s (grownCap w s.size 0 5)).size, (bytesRow s (grownCap w s.size 0 5)).size + 1))) := (below_drewN (Below.refl _ _) 1).alloc (Nat.le_refl _) _
  have h := decode_told (bytes_made w s) (ht.on hb1)
  have e : decErr s = 0 := by unfold decErr; rw [if_pos hs]
  rw [e] at h
  exact ⟨_, _, run_bytes_of_string (P := Tryd.prog) w 9 22 5 s underString underBytes underByte, hb1, h⟩

theorem lead_table : ((List.range 256).all fun b => decide (bits .and .u8 ((b : Nat) : Int) 192 = 128) == decide (128 ≤ b ∧ b ≤ 191)) = true := by kernel_rfl
theorem lead_bits (b : Nat) (hb : b < 256) : (bits .and .u8 ((b : Nat) : Int) 192 = 128) ↔ (128 ≤ b ∧ b ≤ 191) := by
  have h := List.all_eq_true.1 lead_table b (List.mem_range.2 hb)
  simp only [beq_iff_eq, decide_eq_decide] at h
  exact h

set_option maxRecDepth 100000 in
set_option maxHeartbeats 4000000 in
theorem lawPieces (a b : ByteArray) (w : World) (ht : Tabs w) :
    Calls Tryd.prog 5 #[.string a, .string b] w fun e w' => e = .returned (.bool true) ∧ Below w.heap.size w w' := by
  have HW : Hid (∀ w1, Below w.heap.size w w1 → Calls Tryd.prog 7 #[] w1 fun e w' => e = .returned (.bool true) ∧ Below w.heap.size w w') := Lib.hid (fun w1 hb => from_base hb (works_any w1 (ht.on hb)))
  have HT := Lib.hid ht
  clear ht
  by_cases ha : 20000 < a.size
  · have hI : (20000 : Int) < a.size := by omega
    go_enter Tryd.func5, Tryd.ntmps5
    go_wp2_with (go_at_call 7; refine (HW.out _ (Below.refl _ _)).mono ?_; rintro e w' ⟨rfl, hb⟩)
    go_ret
    exact ⟨rfl, hb⟩
  have hI := eq_false (show ¬ (20000 : Int) < a.size by omega)
  by_cases hbb : 20000 < b.size
  · have hI2 : (20000 : Int) < b.size := by omega
    go_enter Tryd.func5, Tryd.ntmps5
    go_wp2_with (go_at_call 7; refine (HW.out _ (Below.refl _ _)).mono ?_; rintro e w' ⟨rfl, hb⟩)
    go_ret
    exact ⟨rfl, hb⟩
  have hI2 := eq_false (show ¬ (20000 : Int) < b.size by omega)
  have hW0 := refWell_any a w (by omega)
  cases hwell : (parts a).all (·.ok) with
  | false =>
    rw [hwell] at hW0
    have HWell := Lib.hid hW0
    clear hW0
    clear hwell
    go_enter Tryd.func5, Tryd.ntmps5
    go_wp2_with (first
      | (go_at_call 10; refine HWell.out.mono ?_; rintro e w1 ⟨rfl, hb1⟩)
      | (go_at_call 7; refine (HW.out _ hb1).mono ?_; rintro e w' ⟨rfl, hb⟩))
    go_ret
    exact ⟨rfl, hb⟩
  | true =>
    rw [hwell] at hW0
    have HWell := Lib.hid hW0
    clear hW0
    by_cases hlast : 0 < a.size ∧ byteAt a (a.size - 1) = 13
    · obtain ⟨h0, h13⟩ := hlast
      have h0I : (0 : Int) < a.size := by omega
      have ek := (byteAt_get a (a.size - 1) (by omega)).symm
      rw [h13] at ek
      clear hwell h13
      go_enter Tryd.func5, Tryd.ntmps5
      go_wp2_with (first
        | (go_at_call 10; refine HWell.out.mono ?_; rintro e w1 ⟨rfl, hb1⟩)
        | (go_at_call 7; refine (HW.out _ hb1).mono ?_; rintro e w' ⟨rfl, hb⟩))
      go_ret
      exact ⟨rfl, hb⟩
    · have HL : Hid (0 < a.size → byteAt a (a.size - 1) ≠ 13) := Lib.hid (fun h1 h2 => hlast ⟨h1, h2⟩)
      have HX := Lib.hid (decText_two a b (by omega) (by omega) hwell HL.out)
      have HN := Lib.hid (leads_all a (fun p hp => List.all_eq_true.1 hwell p hp))
      have HA : Hid (∀ w1, Below w.heap.size w w1 → _) := Lib.hid (fun w1 hb => decode_made a _ rfl w1 (HT.out.on hb) (by omega))
      have HB : Hid (∀ w1, Below w.heap.size w w1 → _) := Lib.hid (fun w1 hb => decode_made b _ rfl w1 (HT.out.on hb) (by omega))
      have HC : Hid (∀ w1, Below w.heap.size w w1 → _) := Lib.hid (fun w1 hb => decode_made (a ++ b) (a.size + b.size) (by simp) w1 (HT.out.on hb) (by omega))
      have HR : Hid (∀ w1, Below w.heap.size w w1 → Calls Tryd.prog 12 #[.string a] w1 fun e w' => ∃ x cap, e = .returned (.slice x (parts a).length cap) ∧ Below w1.heap.size w1 w') := Lib.hid (fun w1 hb => (runes_any a w1 (HT.out.on hb) (by omega)).mono fun e w' h => by
        obtain ⟨v, e1, e2, e3⟩ := h
        obtain ⟨x, cap, e4⟩ := slice_of e2
        exact ⟨x, cap, by rw [e1, e4], e3⟩)
      rw [HX.out] at HC
      have hsx : (decText a).size ≤ 80000 := by
        obtain ⟨zs, h1, h2⟩ := decText_plain a (by omega)
        have := h1.size
        omega
      have hsy : (decText b).size ≤ 80000 := by
        obtain ⟨zs, h1, h2⟩ := decText_plain b (by omega)
        have := h1.size
        omega
      rw [← HN.out] at HR
      clear hlast hwell HX
      generalize decText a = x at *
      generalize decText b = y at *
      by_cases h0 : 0 < a.size
      · have h0I : (0 : Int) < a.size := by omega
        have hne : ¬ (((a[a.size - 1]'(by omega)).toNat : Nat) : Int) = 13 := by
          have := HL.out h0
          rw [byteAt_get a (a.size - 1) (by omega)] at this
          omega
        clear HL
        go_enter Tryd.func5, Tryd.ntmps5
        go_wp2_with (first
          | (go_at_call 10; refine HWell.out.mono ?_; rintro e w1 ⟨rfl, hb1⟩; obtain ⟨gcA, wA, cvA, hbA, dA⟩ := HA.out _ hb1; have HB1 := Lib.hid (hb1.trans (hbA.mono hb1.size)); clear hb1 hbA)
          | (go_at_call 8; refine dA.mono ?_; rintro e w2 ⟨rfl, hb2⟩; clear dA cvA; have HB2 := Lib.hid (HB1.out.trans (hb2.mono HB1.out.size)); clear hb2; obtain ⟨gcB, wB, cvB, hbB, dB⟩ := HB.out _ HB2.out; have HB3 := Lib.hid (HB2.out.trans (hbB.mono HB2.out.size)); clear hbB)
          | (go_at_call 8; refine dB.mono ?_; rintro e w4 ⟨rfl, hb4⟩; clear dB cvB; have HB4 := Lib.hid (HB3.out.trans (hb4.mono HB3.out.size)); clear hb4; obtain ⟨gcC, wC, cvC, hbC, dC⟩ := HC.out _ HB4.out; have HB5 := Lib.hid (HB4.out.trans (hbC.mono HB4.out.size)); clear hbC)
          | (go_at_call 8; refine dC.mono ?_; rintro e w6 ⟨rfl, hb6⟩; clear dC cvC; have HB6 := Lib.hid (HB5.out.trans (hb6.mono HB5.out.size)); clear hb6))
        have hb6 := HB6.out
        clear HWell HA HB HC HB1 HB2 HB3 HB4 HB5 HB6
        go_loopw [11, 12] (fun c i wr => ∃ k : Nat, k ≤ a.size ∧ c = .int .i64 (leads a k : Nat) ∧ leads a k ≤ k ∧ i = .int .i64 k ∧ Below w.heap.size w wr) (fun _ i _ => a.size - (RowKit.intOf i).toNat)
        case atStart => exact ⟨0, Nat.zero_le _, rfl, Nat.le_refl _, rfl, hb6⟩
        case round =>
          clear hb6
          obtain ⟨k, hk, rfl, hlk, rfl, hb⟩ := hrel
          by_cases hlt : k < a.size
          · have hltI : (k : Int) < a.size := by omega
            have ek := byteAt_get a k hlt
            have hbits := lead_bits (a[k]'hlt).toNat (UInt8.toNat_lt _)
            have hls : leads a (k + 1) = leads a k + if lead a k = true then 1 else 0 := rfl
            by_cases hx : 128 ≤ (a[k]'hlt).toNat ∧ (a[k]'hlt).toNat ≤ 191
            · have hx2 := hbits.2 hx
              have hl : lead a k = false := by unfold lead; rw [ek]; simp [hx]
              rw [hl] at hls
              have HS := Lib.hid hls
              clear ek hbits hx hls hl
              go_wp2
              exact ⟨⟨k + 1, by omega, by rw [HS.out]; rfl, by rw [HS.out]; simp; omega, by go_num, hb⟩, by simp [RowKit.intOf]; omega⟩
            · have hx2 : ¬ bits .and .u8 (((a[k]'hlt).toNat : Nat) : Int) 192 = 128 := fun h => hx (hbits.1 h)
              have hl : lead a k = true := by unfold lead; rw [ek, Bool.not_eq_true', decide_eq_false_iff_not]; exact hx
              rw [hl] at hls
              have HS := Lib.hid hls
              clear ek hbits hx hls hl
              go_wp2
              exact ⟨⟨k + 1, by omega, by rw [HS.out]; go_num, by rw [HS.out]; simp; omega, by go_num, hb⟩, by simp [RowKit.intOf]; omega⟩
          · obtain rfl : k = a.size := by omega
            have HB := Lib.hid hb
            clear hb
            go_wp2_with (first
              | (go_at_call 12; refine (HR.out _ HB.out).mono ?_; rintro e w7 ⟨ax, cap, rfl, hb7⟩; have HB7 := Lib.hid (HB.out.trans (hb7.mono HB.out.size)); clear hb7)
              | (go_at_call 7; refine (HW.out _ HB7.out).mono ?_; rintro e w8 ⟨rfl, hb8⟩))
            go_ret
            exact ⟨rfl, hb8⟩
      · have h0I := eq_false (show ¬ (0 : Int) < a.size by omega)
        clear HL
        go_enter Tryd.func5, Tryd.ntmps5
        go_wp2_with (first
          | (go_at_call 10; refine HWell.out.mono ?_; rintro e w1 ⟨rfl, hb1⟩; obtain ⟨gcA, wA, cvA, hbA, dA⟩ := HA.out _ hb1; have HB1 := Lib.hid (hb1.trans (hbA.mono hb1.size)); clear hb1 hbA)
          | (go_at_call 8; refine dA.mono ?_; rintro e w2 ⟨rfl, hb2⟩; clear dA cvA; have HB2 := Lib.hid (HB1.out.trans (hb2.mono HB1.out.size)); clear hb2; obtain ⟨gcB, wB, cvB, hbB, dB⟩ := HB.out _ HB2.out; have HB3 := Lib.hid (HB2.out.trans (hbB.mono HB2.out.size)); clear hbB)
          | (go_at_call 8; refine dB.mono ?_; rintro e w4 ⟨rfl, hb4⟩; clear dB cvB; have HB4 := Lib.hid (HB3.out.trans (hb4.mono HB3.out.size)); clear hb4; obtain ⟨gcC, wC, cvC, hbC, dC⟩ := HC.out _ HB4.out; have HB5 := Lib.hid (HB4.out.trans (hbC.mono HB4.out.size)); clear hbC)
          | (go_at_call 8; refine dC.mono ?_; rintro e w6 ⟨rfl, hb6⟩; clear dC cvC; have HB6 := Lib.hid (HB5.out.trans (hb6.mono HB5.out.size)); clear hb6))
        have hb6 := HB6.out
        clear HWell HA HB HC HB1 HB2 HB3 HB4 HB5 HB6
        go_loopw [11, 12] (fun c i wr => ∃ k : Nat, k ≤ a.size ∧ c = .int .i64 (leads a k : Nat) ∧ leads a k ≤ k ∧ i = .int .i64 k ∧ Below w.heap.size w wr) (fun _ i _ => a.size - (RowKit.intOf i).toNat)
        case atStart => exact ⟨0, Nat.zero_le _, rfl, Nat.le_refl _, rfl, hb6⟩
        case round =>
          clear hb6
          obtain ⟨k, hk, rfl, hlk, rfl, hb⟩ := hrel
          by_cases hlt : k < a.size
          · exact absurd hlt (by omega)
          · obtain rfl : k = a.size := by omega
            have HB := Lib.hid hb
            clear hb
            go_wp2_with (first
              | (go_at_call 12; refine (HR.out _ HB.out).mono ?_; rintro e w7 ⟨ax, cap, rfl, hb7⟩; have HB7 := Lib.hid (HB.out.trans (hb7.mono HB.out.size)); clear hb7)
              | (go_at_call 7; refine (HW.out _ HB7.out).mono ?_; rintro e w8 ⟨rfl, hb8⟩))
            go_ret
            exact ⟨rfl, hb8⟩
end Go.Proofs.YtcafejjejcchlaaDoor
