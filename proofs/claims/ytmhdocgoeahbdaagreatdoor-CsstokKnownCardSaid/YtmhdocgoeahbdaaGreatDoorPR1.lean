/-
  The document's cut of a text's first part, walked. No conditions.
  What the cut's loop comes to is the part. No conditions.
  The document's cut of a text's first part is 'cutAt', at whatever place of a text. No conditions.
  The document's Runes: the characters of the parts. Conditions: the text is no longer than 2^40 bytes.
-/
import Derived.Test.YtmhdocgoeahbdaaGreatDoorUCut2
import Derived.Test.YtmhdocgoeahbdaaGreatDoorUEach
import Derived.Test.YtmhdocgoeahbdaaGreatDoorURunes
namespace Go.Proofs.YtmhdocgoeahbdaaGreatDoor.U
open Go.RowKit Go.RunKit Go.UtfKit Go.Lib

set_option maxRecDepth 100000 in
set_option maxHeartbeats 4000000 in
theorem cut_more (s : ByteArray) (w : World) (hs : 0 < s.size) (b0 n : Nat) (e0 : (s[0]'hs).toNat = b0) (hz : sizeR b0 = n) (hn : n = 2 ∨ n = 3 ∨ n = 4) (hlt : b0 < 256) :
    Calls Tryz.prog 66 #[.string s] w fun e w' => ((∃ i, 1 ≤ i ∧ i < n ∧ Tails s i ∧ ¬ Tails s (i + 1) ∧ e = .returned (.agg #[.int .i32 65533, .int .i64 (i : Nat), .bool false])) ∨
      (Tails s n ∧ e = .returned (.agg #[.int .i32 (soFar s n n : Nat), .int .i64 (n : Nat), .bool true]))) ∧ Below w.heap.size w w' := by
  have hb : Below w.heap.size w (w.alloc (.cells #[.int .i32 0, .int .i64 0, .bool false] 84)) := (Below.refl _ _).alloc (Nat.le_refl _) _
  have hS := Lib.hid (size_any b0 hlt)
  rw [hz] at hS
  have E0 : Hid (byteAt s 0 = b0) := Lib.hid ((byteAt_get s 0 hs).trans e0)
  rcases hn with rfl | rfl | rfl
  · go_enter Tryz.func66, Tryz.ntmps66
    go_wp2_with (go_at_call 91; refine (hS.out _).mono ?_; rintro e w' ⟨rfl, rfl⟩)
    go_quiet (fail)
    go_wp2
    have hth : three ((w.alloc (.cells #[.int .i32 0, .int .i64 0, .bool false] 84)).drewN nq) w.heap.size 84 (.int .i32 0) (.int .i64 0) (.bool false) := heap_alloc_new w _
    have hbw := below_drewN hb nq
    generalize (w.alloc (.cells #[.int .i32 0, .int .i64 0, .bool false] 84)).drewN nq = W at *
    have hm : bits BinOp.and IntKind.i32 (b0 : Int) 31 = ((soFar s 2 1 : Nat) : Int) := by
      have h := and_low b0 5 hlt (by omega)
      have e : soFar s 2 1 = b0 % 2 ^ 5 := by unfold soFar; rw [E0.out]; rfl
      rw [e]; exact h
    rw [hm]
    clear hm
    go_loopw [4, 5] (fun r i wr => ∃ (k : Nat), 1 ≤ k ∧ k ≤ 2 ∧ i = .int .i64 k ∧ r = .int .i32 (soFar s 2 k : Nat) ∧ Hid (Tails s k) ∧ Below w.heap.size w wr ∧ three wr w.heap.size 84 (.int .i32 0) (.int .i64 0) (.bool false)) (fun _ i _ => 3 - (RowKit.intOf i).toNat)
    case atStart => exact ⟨1, by omega, by omega, rfl, rfl, Lib.hid (tails_one s), hbw, hth⟩
    case round =>
      clear hbw hth
      obtain ⟨k, hk1, hk2, rfl, rfl, HT, hbw, hc⟩ := hrel
      obtain ⟨c0, c1, c2, f0, f1, f2⟩ := three_cells hc
      have HC := Lib.hid (And.intro hc hbw)
      clear hc hbw
      by_cases hlt2 : k < 2
      · by_cases hks : k < s.size
        · have ek := byteAt_get s k hks
          have HO := Lib.hid (or_low (soFar s 2 k) (s[k]'hks).toNat (soFar_small s 2 k hk1 (by omega)))
          have HN : Hid (soFar s 2 (k + 1) = soFar s 2 k * 64 + (s[k]'hks).toNat % 64) := Lib.hid (by rw [soFar_succ s 2 k hk1, ek])
          by_cases k1 : k = 1
          · subst k1
            have z1 := eq_false (show ¬ (s.size : Int) ≤ 1 by omega)
            have z2 : 1 < s.size := hks
            have z3 : (1 : Int) < s.size := by omega
            have HS2 := Lib.hid (second_any b0 (s[1]'hks).toNat)
            have EK := Lib.hid ek
            clear ek
            cases hv : sec b0 (s[1]'hks).toNat with
            | true =>
              rw [hv] at HS2
              obtain ⟨t1, t2⟩ := sec_tail hv
              have HV := Lib.hid hv
              clear hv
              have t1' := eq_false (show ¬ ((s[1]'hks).toNat : Int) < 128 by omega)
              have t2' := eq_false (show ¬ (191 : Int) < ((s[1]'hks).toNat : Int) by omega)
              go_wp2
              go_quiet (first | (go_at_call 92; exact Calls.quiet_of_same ((HS2.out _).mono fun _ _ h => ⟨h.1, h.2.symm⟩)))
              go_wp2
              exact ⟨⟨2, by omega, by omega, rfl, by rw [HO.out, HN.out], Lib.hid (tails_succ (by omega) HT.out z2 (fun _ => by rw [E0.out, EK.out]; exact HV.out) (by rw [EK.out]; simp [tailB, t1, t2])), below_drewN HC.out.2 _, HC.out.1⟩, by simp [RowKit.intOf]⟩
            | false =>
              rw [hv] at HS2
              have HV := Lib.hid hv
              clear hv
              go_wp2
              go_quiet (first | (go_at_call 92; exact Calls.quiet_of_same ((HS2.out _).mono fun _ _ h => ⟨h.1, h.2.symm⟩)))
              go_wp2
              refine bodyPost_ret (part_results rfl _ _ w.heap.size (.int .i32 65533) (.int .i64 1) (.bool false) rfl (three_store HC.out.1)) rfl ?_
              exact ⟨.inl ⟨1, by omega, by omega, HT.out, tails_not (by omega) (.inr (.inl ⟨rfl, by rw [E0.out, EK.out]; exact HV.out⟩)), rfl⟩, (((below_drewN HC.out.2 _).setCell (Nat.le_refl _) _).setCell (Nat.le_refl _) _).setCell (Nat.le_refl _) _⟩
          · exact absurd hlt2 (by omega)
        · have z1 : (s.size : Int) ≤ (k : Int) := by omega
          go_wp2
          go_quiet (fail)
          go_wp2
          refine bodyPost_ret (part_results rfl _ _ w.heap.size (.int .i32 65533) (.int .i64 k) (.bool false) rfl (three_store HC.out.1)) rfl ?_
          exact ⟨.inl ⟨k, by omega, by omega, HT.out, tails_not (by omega) (.inl hks), rfl⟩, (((below_drewN HC.out.2 _).setCell (Nat.le_refl _) _).setCell (Nat.le_refl _) _).setCell (Nat.le_refl _) _⟩
      · obtain rfl : k = 2 := by omega
        go_wp2
        refine bodyPost_ret (part_results rfl _ _ w.heap.size (.int .i32 (soFar s 2 2 : Nat)) (.int .i64 2) (.bool true) rfl (three_store HC.out.1)) rfl ?_
        exact ⟨.inr ⟨HT.out, rfl⟩, ((HC.out.2.setCell (Nat.le_refl _) _).setCell (Nat.le_refl _) _).setCell (Nat.le_refl _) _⟩
  · go_enter Tryz.func66, Tryz.ntmps66
    go_wp2_with (go_at_call 91; refine (hS.out _).mono ?_; rintro e w' ⟨rfl, rfl⟩)
    go_quiet (fail)
    go_wp2
    have hth : three ((w.alloc (.cells #[.int .i32 0, .int .i64 0, .bool false] 84)).drewN nq) w.heap.size 84 (.int .i32 0) (.int .i64 0) (.bool false) := heap_alloc_new w _
    have hbw := below_drewN hb nq
    generalize (w.alloc (.cells #[.int .i32 0, .int .i64 0, .bool false] 84)).drewN nq = W at *
    have hm : bits BinOp.and IntKind.i32 (b0 : Int) 15 = ((soFar s 3 1 : Nat) : Int) := by
      have h := and_low b0 4 hlt (by omega)
      have e : soFar s 3 1 = b0 % 2 ^ 4 := by unfold soFar; rw [E0.out]; rfl
      rw [e]; exact h
    rw [hm]
    clear hm
    go_loopw [4, 5] (fun r i wr => ∃ (k : Nat), 1 ≤ k ∧ k ≤ 3 ∧ i = .int .i64 k ∧ r = .int .i32 (soFar s 3 k : Nat) ∧ Hid (Tails s k) ∧ Below w.heap.size w wr ∧ three wr w.heap.size 84 (.int .i32 0) (.int .i64 0) (.bool false)) (fun _ i _ => 4 - (RowKit.intOf i).toNat)
    case atStart => exact ⟨1, by omega, by omega, rfl, rfl, Lib.hid (tails_one s), hbw, hth⟩
    case round =>
      clear hbw hth
      obtain ⟨k, hk1, hk2, rfl, rfl, HT, hbw, hc⟩ := hrel
      obtain ⟨c0, c1, c2, f0, f1, f2⟩ := three_cells hc
      have HC := Lib.hid (And.intro hc hbw)
      clear hc hbw
      by_cases hlt2 : k < 3
      · by_cases hks : k < s.size
        · have ek := byteAt_get s k hks
          have HO := Lib.hid (or_low (soFar s 3 k) (s[k]'hks).toNat (soFar_small s 3 k hk1 (by omega)))
          have HN : Hid (soFar s 3 (k + 1) = soFar s 3 k * 64 + (s[k]'hks).toNat % 64) := Lib.hid (by rw [soFar_succ s 3 k hk1, ek])
          by_cases k1 : k = 1
          · subst k1
            have z1 := eq_false (show ¬ (s.size : Int) ≤ 1 by omega)
            have z2 : 1 < s.size := hks
            have z3 : (1 : Int) < s.size := by omega
            have HS2 := Lib.hid (second_any b0 (s[1]'hks).toNat)
            have EK := Lib.hid ek
            clear ek
            cases hv : sec b0 (s[1]'hks).toNat with
            | true =>
              rw [hv] at HS2
              obtain ⟨t1, t2⟩ := sec_tail hv
              have HV := Lib.hid hv
              clear hv
              have t1' := eq_false (show ¬ ((s[1]'hks).toNat : Int) < 128 by omega)
              have t2' := eq_false (show ¬ (191 : Int) < ((s[1]'hks).toNat : Int) by omega)
              go_wp2
              go_quiet (first | (go_at_call 92; exact Calls.quiet_of_same ((HS2.out _).mono fun _ _ h => ⟨h.1, h.2.symm⟩)))
              go_wp2
              exact ⟨⟨2, by omega, by omega, rfl, by rw [HO.out, HN.out], Lib.hid (tails_succ (by omega) HT.out z2 (fun _ => by rw [E0.out, EK.out]; exact HV.out) (by rw [EK.out]; simp [tailB, t1, t2])), below_drewN HC.out.2 _, HC.out.1⟩, by simp [RowKit.intOf]⟩
            | false =>
              rw [hv] at HS2
              have HV := Lib.hid hv
              clear hv
              go_wp2
              go_quiet (first | (go_at_call 92; exact Calls.quiet_of_same ((HS2.out _).mono fun _ _ h => ⟨h.1, h.2.symm⟩)))
              go_wp2
              refine bodyPost_ret (part_results rfl _ _ w.heap.size (.int .i32 65533) (.int .i64 1) (.bool false) rfl (three_store HC.out.1)) rfl ?_
              exact ⟨.inl ⟨1, by omega, by omega, HT.out, tails_not (by omega) (.inr (.inl ⟨rfl, by rw [E0.out, EK.out]; exact HV.out⟩)), rfl⟩, (((below_drewN HC.out.2 _).setCell (Nat.le_refl _) _).setCell (Nat.le_refl _) _).setCell (Nat.le_refl _) _⟩
          · have z0 := eq_false (show ¬ (k : Int) = 1 by omega)
            have z1 := eq_false (show ¬ (s.size : Int) ≤ (k : Int) by omega)
            have z3 : (k : Int) < s.size := by omega
            have EK := Lib.hid ek
            clear ek
            by_cases t1 : (s[k]'hks).toNat < 128
            · have t1' : ((s[k]'hks).toNat : Int) < 128 := by omega
              go_wp2
              go_quiet (fail)
              go_wp2
              refine bodyPost_ret (part_results rfl _ _ w.heap.size (.int .i32 65533) (.int .i64 k) (.bool false) rfl (three_store HC.out.1)) rfl ?_
              exact ⟨.inl ⟨k, by omega, by omega, HT.out, tails_not (by omega) (.inr (.inr (by rw [EK.out]; simp [tailB]; omega))), rfl⟩, (((below_drewN HC.out.2 _).setCell (Nat.le_refl _) _).setCell (Nat.le_refl _) _).setCell (Nat.le_refl _) _⟩
            · have t1' := eq_false (show ¬ ((s[k]'hks).toNat : Int) < 128 by omega)
              by_cases t2 : 191 < (s[k]'hks).toNat
              · have t2' : (191 : Int) < ((s[k]'hks).toNat : Int) := by omega
                go_wp2
                go_quiet (fail)
                go_wp2
                refine bodyPost_ret (part_results rfl _ _ w.heap.size (.int .i32 65533) (.int .i64 k) (.bool false) rfl (three_store HC.out.1)) rfl ?_
                exact ⟨.inl ⟨k, by omega, by omega, HT.out, tails_not (by omega) (.inr (.inr (by rw [EK.out]; simp [tailB]; omega))), rfl⟩, (((below_drewN HC.out.2 _).setCell (Nat.le_refl _) _).setCell (Nat.le_refl _) _).setCell (Nat.le_refl _) _⟩
              · have t2' := eq_false (show ¬ (191 : Int) < ((s[k]'hks).toNat : Int) by omega)
                go_wp2
                go_quiet (fail)
                go_wp2
                exact ⟨⟨k + 1, by omega, by omega, by go_num, by rw [HO.out, HN.out], Lib.hid (tails_succ (by omega) HT.out hks (fun e => absurd e k1) (by rw [EK.out]; simp [tailB]; omega)), below_drewN HC.out.2 _, HC.out.1⟩, by simp [RowKit.intOf]; omega⟩
        · have z1 : (s.size : Int) ≤ (k : Int) := by omega
          go_wp2
          go_quiet (fail)
          go_wp2
          refine bodyPost_ret (part_results rfl _ _ w.heap.size (.int .i32 65533) (.int .i64 k) (.bool false) rfl (three_store HC.out.1)) rfl ?_
          exact ⟨.inl ⟨k, by omega, by omega, HT.out, tails_not (by omega) (.inl hks), rfl⟩, (((below_drewN HC.out.2 _).setCell (Nat.le_refl _) _).setCell (Nat.le_refl _) _).setCell (Nat.le_refl _) _⟩
      · obtain rfl : k = 3 := by omega
        go_wp2
        refine bodyPost_ret (part_results rfl _ _ w.heap.size (.int .i32 (soFar s 3 3 : Nat)) (.int .i64 3) (.bool true) rfl (three_store HC.out.1)) rfl ?_
        exact ⟨.inr ⟨HT.out, rfl⟩, ((HC.out.2.setCell (Nat.le_refl _) _).setCell (Nat.le_refl _) _).setCell (Nat.le_refl _) _⟩
  · go_enter Tryz.func66, Tryz.ntmps66
    go_wp2_with (go_at_call 91; refine (hS.out _).mono ?_; rintro e w' ⟨rfl, rfl⟩)
    go_quiet (fail)
    go_wp2
    have hth : three ((w.alloc (.cells #[.int .i32 0, .int .i64 0, .bool false] 84)).drewN nq) w.heap.size 84 (.int .i32 0) (.int .i64 0) (.bool false) := heap_alloc_new w _
    have hbw := below_drewN hb nq
    generalize (w.alloc (.cells #[.int .i32 0, .int .i64 0, .bool false] 84)).drewN nq = W at *
    have hm : bits BinOp.and IntKind.i32 (b0 : Int) 7 = ((soFar s 4 1 : Nat) : Int) := by
      have h := and_low b0 3 hlt (by omega)
      have e : soFar s 4 1 = b0 % 2 ^ 3 := by unfold soFar; rw [E0.out]; rfl
      rw [e]; exact h
    rw [hm]
    clear hm
    go_loopw [4, 5] (fun r i wr => ∃ (k : Nat), 1 ≤ k ∧ k ≤ 4 ∧ i = .int .i64 k ∧ r = .int .i32 (soFar s 4 k : Nat) ∧ Hid (Tails s k) ∧ Below w.heap.size w wr ∧ three wr w.heap.size 84 (.int .i32 0) (.int .i64 0) (.bool false)) (fun _ i _ => 5 - (RowKit.intOf i).toNat)
    case atStart => exact ⟨1, by omega, by omega, rfl, rfl, Lib.hid (tails_one s), hbw, hth⟩
    case round =>
      clear hbw hth
      obtain ⟨k, hk1, hk2, rfl, rfl, HT, hbw, hc⟩ := hrel
      obtain ⟨c0, c1, c2, f0, f1, f2⟩ := three_cells hc
      have HC := Lib.hid (And.intro hc hbw)
      clear hc hbw
      by_cases hlt2 : k < 4
      · by_cases hks : k < s.size
        · have ek := byteAt_get s k hks
          have HO := Lib.hid (or_low (soFar s 4 k) (s[k]'hks).toNat (soFar_small s 4 k hk1 (by omega)))
          have HN : Hid (soFar s 4 (k + 1) = soFar s 4 k * 64 + (s[k]'hks).toNat % 64) := Lib.hid (by rw [soFar_succ s 4 k hk1, ek])
          by_cases k1 : k = 1
          · subst k1
            have z1 := eq_false (show ¬ (s.size : Int) ≤ 1 by omega)
            have z2 : 1 < s.size := hks
            have z3 : (1 : Int) < s.size := by omega
            have HS2 := Lib.hid (second_any b0 (s[1]'hks).toNat)
            have EK := Lib.hid ek
            clear ek
            cases hv : sec b0 (s[1]'hks).toNat with
            | true =>
              rw [hv] at HS2
              obtain ⟨t1, t2⟩ := sec_tail hv
              have HV := Lib.hid hv
              clear hv
              have t1' := eq_false (show ¬ ((s[1]'hks).toNat : Int) < 128 by omega)
              have t2' := eq_false (show ¬ (191 : Int) < ((s[1]'hks).toNat : Int) by omega)
              go_wp2
              go_quiet (first | (go_at_call 92; exact Calls.quiet_of_same ((HS2.out _).mono fun _ _ h => ⟨h.1, h.2.symm⟩)))
              go_wp2
              exact ⟨⟨2, by omega, by omega, rfl, by rw [HO.out, HN.out], Lib.hid (tails_succ (by omega) HT.out z2 (fun _ => by rw [E0.out, EK.out]; exact HV.out) (by rw [EK.out]; simp [tailB, t1, t2])), below_drewN HC.out.2 _, HC.out.1⟩, by simp [RowKit.intOf]⟩
            | false =>
              rw [hv] at HS2
              have HV := Lib.hid hv
              clear hv
              go_wp2
              go_quiet (first | (go_at_call 92; exact Calls.quiet_of_same ((HS2.out _).mono fun _ _ h => ⟨h.1, h.2.symm⟩)))
              go_wp2
              refine bodyPost_ret (part_results rfl _ _ w.heap.size (.int .i32 65533) (.int .i64 1) (.bool false) rfl (three_store HC.out.1)) rfl ?_
              exact ⟨.inl ⟨1, by omega, by omega, HT.out, tails_not (by omega) (.inr (.inl ⟨rfl, by rw [E0.out, EK.out]; exact HV.out⟩)), rfl⟩, (((below_drewN HC.out.2 _).setCell (Nat.le_refl _) _).setCell (Nat.le_refl _) _).setCell (Nat.le_refl _) _⟩
          · have z0 := eq_false (show ¬ (k : Int) = 1 by omega)
            have z1 := eq_false (show ¬ (s.size : Int) ≤ (k : Int) by omega)
            have z3 : (k : Int) < s.size := by omega
            have EK := Lib.hid ek
            clear ek
            by_cases t1 : (s[k]'hks).toNat < 128
            · have t1' : ((s[k]'hks).toNat : Int) < 128 := by omega
              go_wp2
              go_quiet (fail)
              go_wp2
              refine bodyPost_ret (part_results rfl _ _ w.heap.size (.int .i32 65533) (.int .i64 k) (.bool false) rfl (three_store HC.out.1)) rfl ?_
              exact ⟨.inl ⟨k, by omega, by omega, HT.out, tails_not (by omega) (.inr (.inr (by rw [EK.out]; simp [tailB]; omega))), rfl⟩, (((below_drewN HC.out.2 _).setCell (Nat.le_refl _) _).setCell (Nat.le_refl _) _).setCell (Nat.le_refl _) _⟩
            · have t1' := eq_false (show ¬ ((s[k]'hks).toNat : Int) < 128 by omega)
              by_cases t2 : 191 < (s[k]'hks).toNat
              · have t2' : (191 : Int) < ((s[k]'hks).toNat : Int) := by omega
                go_wp2
                go_quiet (fail)
                go_wp2
                refine bodyPost_ret (part_results rfl _ _ w.heap.size (.int .i32 65533) (.int .i64 k) (.bool false) rfl (three_store HC.out.1)) rfl ?_
                exact ⟨.inl ⟨k, by omega, by omega, HT.out, tails_not (by omega) (.inr (.inr (by rw [EK.out]; simp [tailB]; omega))), rfl⟩, (((below_drewN HC.out.2 _).setCell (Nat.le_refl _) _).setCell (Nat.le_refl _) _).setCell (Nat.le_refl _) _⟩
              · have t2' := eq_false (show ¬ (191 : Int) < ((s[k]'hks).toNat : Int) by omega)
                go_wp2
                go_quiet (fail)
                go_wp2
                exact ⟨⟨k + 1, by omega, by omega, by go_num, by rw [HO.out, HN.out], Lib.hid (tails_succ (by omega) HT.out hks (fun e => absurd e k1) (by rw [EK.out]; simp [tailB]; omega)), below_drewN HC.out.2 _, HC.out.1⟩, by simp [RowKit.intOf]; omega⟩
        · have z1 : (s.size : Int) ≤ (k : Int) := by omega
          go_wp2
          go_quiet (fail)
          go_wp2
          refine bodyPost_ret (part_results rfl _ _ w.heap.size (.int .i32 65533) (.int .i64 k) (.bool false) rfl (three_store HC.out.1)) rfl ?_
          exact ⟨.inl ⟨k, by omega, by omega, HT.out, tails_not (by omega) (.inl hks), rfl⟩, (((below_drewN HC.out.2 _).setCell (Nat.le_refl _) _).setCell (Nat.le_refl _) _).setCell (Nat.le_refl _) _⟩
      · obtain rfl : k = 4 := by omega
        go_wp2
        refine bodyPost_ret (part_results rfl _ _ w.heap.size (.int .i32 (soFar s 4 4 : Nat)) (.int .i64 4) (.bool true) rfl (three_store HC.out.1)) rfl ?_
        exact ⟨.inr ⟨HT.out, rfl⟩, ((HC.out.2.setCell (Nat.le_refl _) _).setCell (Nat.le_refl _) _).setCell (Nat.le_refl _) _⟩
end Go.Proofs.YtmhdocgoeahbdaaGreatDoor.U

namespace Go.Proofs.YtmhdocgoeahbdaaGreatDoor.U
open Go.RowKit Go.RunKit Go.UtfKit Go.Lib

theorem tailB_of_sec {a b : Nat} (h : sec a b = true) : tailB b = true := by
  obtain ⟨h1, h2⟩ := sec_tail h
  simp [tailB, h1, h2]
theorem tails_two (s : ByteArray) : Tails s 2 ↔ (1 < s.size ∧ sec (byteAt s 0) (byteAt s 1) = true) :=
  ⟨fun h => ⟨(h 1 (by omega) (by omega)).1, (h 1 (by omega) (by omega)).2.1 rfl⟩, fun h => tails_succ (by omega) (tails_one s) h.1 (fun _ => h.2) (tailB_of_sec h.2)⟩
theorem tails_more (s : ByteArray) (k : Nat) (hk : 2 ≤ k) : Tails s (k + 1) ↔ (Tails s k ∧ k < s.size ∧ tailB (byteAt s k) = true) :=
  ⟨fun h => ⟨fun j h1 h2 => h j h1 (by omega), (h k (by omega) (by omega)).1, (h k (by omega) (by omega)).2.2⟩, fun h => tails_succ (by omega) h.1 h.2.1 (fun e => by omega) h.2.2⟩
theorem sizeR_two {b : Nat} (h : sizeR b = 2) : ¬ b < 128 ∧ ¬ b < 194 ∧ b < 224 := by
  unfold sizeR at h
  repeat' split at h
  all_goals omega
theorem sizeR_three {b : Nat} (h : sizeR b = 3) : ¬ b < 128 ∧ ¬ b < 194 ∧ ¬ b < 224 ∧ b < 240 := by
  unfold sizeR at h
  repeat' split at h
  all_goals omega
theorem sizeR_four {b : Nat} (h : sizeR b = 4) : ¬ b < 128 ∧ ¬ b < 194 ∧ ¬ b < 224 ∧ ¬ b < 240 ∧ b < 245 := by
  unfold sizeR at h
  repeat' split at h
  all_goals omega
theorem sizeR_none {b : Nat} (h : sizeR b = 0) : ¬ b < 128 ∧ (b < 194 ∨ (¬ b < 194 ∧ ¬ b < 224 ∧ ¬ b < 240 ∧ ¬ b < 245)) := by
  unfold sizeR at h
  repeat' split at h
  all_goals omega
theorem sizeR_one {b : Nat} (h : sizeR b = 1) : b < 128 := by
  unfold sizeR at h
  repeat' split at h
  all_goals omega

theorem cutAt_zero (s : ByteArray) : cutAt s 0 = cutN s.size (byteAt s 0) (byteAt s 1) (byteAt s 2) (byteAt s 3) := rfl

theorem cut_bad {s : ByteArray} {n i : Nat} (hz : sizeR (byteAt s 0) = n) (hn : n = 2 ∨ n = 3 ∨ n = 4) (h1 : 1 ≤ i) (hi : i < n) (ht : Tails s i) (hf : ¬ Tails s (i + 1)) : cutAt s 0 = ⟨65533, i, false⟩ := by
  rw [cutAt_zero]
  unfold cutN
  by_cases i1 : i = 1
  · subst i1
    rw [tails_two] at hf
    rcases hn with rfl | rfl | rfl
    · obtain ⟨a, b, c⟩ := sizeR_two hz
      rw [if_neg a, if_neg b, if_pos c, if_neg hf]
    · obtain ⟨a, b, c, d⟩ := sizeR_three hz
      rw [if_neg a, if_neg b, if_neg c, if_pos d, if_neg hf]
    · obtain ⟨a, b, c, d, e⟩ := sizeR_four hz
      rw [if_neg a, if_neg b, if_neg c, if_neg d, if_pos e, if_neg hf]
  · by_cases i2 : i = 2
    · subst i2
      rw [tails_more s 2 (by omega)] at hf
      have hf2 : ¬ (2 < s.size ∧ tailB (byteAt s 2) = true) := fun h => hf ⟨ht, h⟩
      have ht2 := (tails_two s).1 ht
      rcases hn with rfl | rfl | rfl
      · omega
      · obtain ⟨a, b, c, d⟩ := sizeR_three hz
        rw [if_neg a, if_neg b, if_neg c, if_pos d, if_pos ht2, if_neg hf2]
      · obtain ⟨a, b, c, d, e⟩ := sizeR_four hz
        rw [if_neg a, if_neg b, if_neg c, if_neg d, if_pos e, if_pos ht2, if_neg hf2]
    · obtain rfl : i = 3 := by omega
      obtain rfl : n = 4 := by omega
      rw [tails_more s 3 (by omega)] at hf
      have hf3 : ¬ (3 < s.size ∧ tailB (byteAt s 3) = true) := fun h => hf ⟨ht, h⟩
      have ht3 := (tails_more s 2 (by omega)).1 ht
      have ht2 := (tails_two s).1 ht3.1
      obtain ⟨a, b, c, d, e⟩ := sizeR_four hz
      rw [if_neg a, if_neg b, if_neg c, if_neg d, if_pos e, if_pos ht2, if_pos ht3.2, if_neg hf3]

theorem cut_good {s : ByteArray} {n : Nat} (hz : sizeR (byteAt s 0) = n) (hn : n = 2 ∨ n = 3 ∨ n = 4) (ht : Tails s n) : cutAt s 0 = ⟨soFar s n n, n, true⟩ := by
  rw [cutAt_zero]
  unfold cutN
  rcases hn with rfl | rfl | rfl
  · have ht2 := (tails_two s).1 ht
    obtain ⟨a, b, c⟩ := sizeR_two hz
    rw [if_neg a, if_neg b, if_pos c, if_pos ht2]
    rfl
  · have ht3 := (tails_more s 2 (by omega)).1 ht
    have ht2 := (tails_two s).1 ht3.1
    obtain ⟨a, b, c, d⟩ := sizeR_three hz
    rw [if_neg a, if_neg b, if_neg c, if_pos d, if_pos ht2, if_pos ht3.2]
    have e : soFar s 3 3 = (byteAt s 0 % 16 * 64 + byteAt s 1 % 64) * 64 + byteAt s 2 % 64 := rfl
    rw [e]
    congr 1
    omega
  · have ht4 := (tails_more s 3 (by omega)).1 ht
    have ht3 := (tails_more s 2 (by omega)).1 ht4.1
    have ht2 := (tails_two s).1 ht3.1
    obtain ⟨a, b, c, d, e⟩ := sizeR_four hz
    rw [if_neg a, if_neg b, if_neg c, if_neg d, if_pos e, if_pos ht2, if_pos ht3.2, if_pos ht4.2]
    have e : soFar s 4 4 = ((byteAt s 0 % 8 * 64 + byteAt s 1 % 64) * 64 + byteAt s 2 % 64) * 64 + byteAt s 3 % 64 := rfl
    rw [e]
    congr 1
    omega
end Go.Proofs.YtmhdocgoeahbdaaGreatDoor.U

namespace Go.Proofs.YtmhdocgoeahbdaaGreatDoor.U
open Go.RowKit Go.RunKit Go.UtfKit Go.Lib

set_option maxRecDepth 100000 in
set_option maxHeartbeats 1000000 in
theorem cut_few (s : ByteArray) (w : World) (hs : 0 < s.size) (b0 : Nat) (e0 : (s[0]'hs).toNat = b0) (hlt : b0 < 256) (hz : sizeR b0 = 0 ∨ sizeR b0 = 1) :
    Calls Tryz.prog 66 #[.string s] w fun e w' => e = .returned (.agg (partCells (cutAt s 0))) ∧ Below w.heap.size w w' := by
  have hS := Lib.hid (size_any b0 hlt)
  have E0 : byteAt s 0 = b0 := (byteAt_get s 0 hs).trans e0
  rcases hz with hz | hz
  · rw [hz] at hS
    obtain ⟨a, b⟩ := sizeR_none hz
    have E : Hid (cutAt s 0 = ⟨65533, 1, false⟩) := Lib.hid (by
      rw [cutAt_zero, E0]
      unfold cutN
      rcases b with b | ⟨b, c, d, e⟩
      · rw [if_neg a, if_pos b]
      · rw [if_neg a, if_neg b, if_neg c, if_neg d, if_neg e])
    clear E0 a b
    go_enter Tryz.func66, Tryz.ntmps66
    go_wp2_with (go_at_call 91; refine (hS.out _).mono ?_; rintro e w' ⟨rfl, rfl⟩)
    refine bodyPost_ret (part_results rfl _ _ w.heap.size (.int .i32 65533) (.int .i64 1) (.bool false) rfl (heap_alloc_new w _)) rfl ?_
    rw [E.out]
    exact ⟨rfl, (Below.refl _ _).alloc (Nat.le_refl _) _⟩
  · rw [hz] at hS
    have a := sizeR_one hz
    have E : Hid (cutAt s 0 = ⟨b0, 1, true⟩) := Lib.hid (by
      rw [cutAt_zero, E0]
      unfold cutN
      rw [if_pos a])
    clear E0 a
    go_enter Tryz.func66, Tryz.ntmps66
    go_wp2_with (go_at_call 91; refine (hS.out _).mono ?_; rintro e w' ⟨rfl, rfl⟩)
    refine bodyPost_ret (part_results rfl _ _ w.heap.size (.int .i32 (b0 : Nat)) (.int .i64 1) (.bool true) rfl (heap_alloc_new w _)) rfl ?_
    rw [E.out]
    exact ⟨rfl, (Below.refl _ _).alloc (Nat.le_refl _) _⟩

/-- THE CUT. -/
theorem cut_any (s : ByteArray) (w : World) (hs : 0 < s.size) :
    Calls Tryz.prog 66 #[.string s] w fun e w' => e = .returned (.agg (partCells (cutAt s 0))) ∧ Below w.heap.size w w' := by
  have E0 := byteAt_get s 0 hs
  have hlt := byteAt_lt s 0
  by_cases hn : sizeR (byteAt s 0) = 2 ∨ sizeR (byteAt s 0) = 3 ∨ sizeR (byteAt s 0) = 4
  · refine (cut_more s w hs _ _ E0.symm rfl hn hlt).mono ?_
    rintro e w' ⟨h, hb⟩
    refine ⟨?_, hb⟩
    rcases h with ⟨i, h1, h2, h3, h4, rfl⟩ | ⟨h1, rfl⟩
    · rw [cut_bad rfl hn h1 h2 h3 h4]; rfl
    · rw [cut_good rfl hn h1]; rfl
  · refine cut_few s w hs _ E0.symm hlt ?_
    have : sizeR (byteAt s 0) ≤ 4 := by
      unfold sizeR
      repeat' split
      all_goals omega
    omega

theorem cutAt_drop (s : ByteArray) (pos : Nat) : cutAt (s.extract pos s.size) 0 = cutAt s pos := by
  unfold cutAt
  rw [byteAt_drop, byteAt_drop, byteAt_drop, byteAt_drop]
  have : (s.extract pos s.size).size - 0 = s.size - pos := by simp
  rw [this]
  simp only [Nat.zero_add, Nat.add_zero]
theorem cut_at (s : ByteArray) (pos : Nat) (hp : pos < s.size) (w : World) :
    Calls Tryz.prog 66 #[.string (s.extract pos s.size)] w fun e w' => e = .returned (.agg (partCells (cutAt s pos))) ∧ Below w.heap.size w w' := by
  have := cut_any (s.extract pos s.size) w (by simp; omega)
  rwa [cutAt_drop] at this
end Go.Proofs.YtmhdocgoeahbdaaGreatDoor.U

namespace Go.Proofs.YtmhdocgoeahbdaaGreatDoor.U
open Go.RowKit Go.RunKit Go.UtfKit Go.Lib

set_option maxRecDepth 100000 in
set_option maxHeartbeats 1000000 in
theorem refRunes_any (s : ByteArray) (w : World) (hsz : s.size + 1 ≤ 1099511627776) :
    Calls Tryz.prog 31 #[.string s] w fun e w' => ∃ v, e = .returned v ∧ w'.ownsRow w.heap.size 21 1 v (parts s).length (charCells (parts s)) ∧ Below w.heap.size w w' := by
  obtain ⟨i0, hi, hz0, hz1, hz2⟩ := info_parts Tryz.infoInt32
  have D0 : Hid (([] : List Part) ++ partsFrom s 0 = parts s ∧ w.ownsRow w.heap.size 21 1 (.slice none 0 0) 0 (charCells []) ∧ Below w.heap.size w w) := Lib.hid ⟨rfl, World.ownsRow_nil _ _ _ _, Below.refl _ _⟩
  go_enter Tryz.func31, Tryz.ntmps31
  go_wp2
  go_loopw [3, 4] (fun l i wr => ∃ (pos cap : Nat) (a : Option Addr) (d : List Part), l = .slice a d.length cap ∧ i = .int .i64 pos ∧ pos ≤ s.size ∧ Hid (d ++ partsFrom s pos = parts s ∧ wr.ownsRow w.heap.size 21 1 (.slice a d.length cap) d.length (charCells d) ∧ Below w.heap.size w wr)) (fun _ i _ => s.size - (RowKit.intOf i).toNat)
  case atStart => exact ⟨0, 0, none, [], rfl, rfl, Nat.zero_le _, D0⟩
  case round =>
    clear D0
    obtain ⟨pos, cap, a, d, rfl, rfl, hpos, HD⟩ := hrel
    by_cases hlt : pos < s.size
    · have HC := Lib.hid (cut_at s pos hlt wr)
      have HL := Lib.hid (cutAt_len s pos hlt)
      have HE : Hid (d ++ cutAt s pos :: partsFrom s (pos + (cutAt s pos).len) = parts s) := Lib.hid (by rw [← partsFrom_step s pos hlt]; exact HD.out.1)
      generalize cutAt s pos = p at *
      have hlen : d.length + 1 ≤ 1099511627776 := by
        have h1 := parts_len s (s.size - 0) 0
        change (parts s).length ≤ _ at h1
        rw [← HE.out] at h1
        simp at h1; omega
      go_wp2_with (first
        | (go_at_call 66; refine HC.out.mono ?_; rintro e w1 ⟨rfl, hb1⟩; unfold partCells; have HO := Lib.hid (World.ownsRow.alloc (World.ownsRow.alloc (ownsRow_beside (n0 := 0) HD.out.2.1 (Beside.of_below hb1 (Nat.zero_le _))) (.cells #[.int .i32 (p.char : Nat), .int .i64 (p.len : Nat), .bool p.ok] 84)) (.cells #[.int .i32 (p.char : Nat)] 21)))
        | (at_builtin; refine wpList_append_own _ rfl _ _ 41 rfl w.heap.size 21 i0 _ 1 4 Tryz.underRunes hi hz0 hz1 hz2 rfl (by decide) _ d.length (charCells d) rfl HO.out ⟨w1.heap.size + 1, 0, none⟩ 1 1 [.int .i32 (p.char : Nat)] rfl ?c1 ?c2 ?c3 ?c4 ?c5 ?c6 ?_))
      case c1 => rfl
      case c2 =>
        intro j u hu
        cases j with
        | zero => simpa [go_sem] using hu
        | succ j => simp at hu
      case c3 => intro u hu; simp at hu; subst hu; rfl
      case c4 => unfold maxLen; omega
      case c5 => omega
      case c6 => have := HD.out.2.2.size; have := hb1.size; simp; omega
      intro v' W hown' hgrow _
      obtain ⟨a1, cap1, hvs1⟩ := slice_of hown'
      subst hvs1
      have hz := HD.out.2.2.size
      have hz1 := hb1.size
      have hbW : Below w.heap.size w W := (((HD.out.2.2.trans (hb1.mono hz)).alloc (by omega) _).alloc (by simp; omega) _).grown hgrow (by simp; omega) (fun k hk => by have := (World.ownsRow.lt HD.out.2.1 k hk).1; omega)
      have hne : some w1.heap.size ≠ (Value.slice a d.length cap).ownBlock := by
        intro e
        have := (World.ownsRow.lt HD.out.2.1 w1.heap.size e.symm).2
        omega
      have hblk : W.heap[w1.heap.size]? = some (Obj.cells #[.int .i32 (p.char : Nat), .int .i64 (p.len : Nat), .bool p.ok] 84 (0, 0)) := by
        rw [hgrow.block _ (by simp; omega) hne, Below.heap_alloc _ _ _ (by simp)]
        exact heap_alloc_new w1 _
      have hcell : W.cell? ⟨w1.heap.size, 1, none⟩ = some (.int .i64 (p.len : Nat)) := by rw [cell_of_row _ _ _ _ _ _ hblk]; rfl
      have hL := HL.out
      have HW := Lib.hid (And.intro hown' hbW)
      clear hown' hbW hgrow hblk HO hne
      go_wp2
      exact ⟨⟨pos + p.len, cap1, a1, d ++ [p], by simp, by go_num, by omega, Lib.hid ⟨by rw [List.append_assoc]; exact HE.out, by simpa [charCells] using HW.out.1, HW.out.2⟩⟩, by simp [RowKit.intOf]; omega⟩
    · have he : d = parts s := by
        have := HD.out.1
        rw [partsFrom_end s _ (by omega), List.append_nil] at this
        exact this
      subst he
      go_wp2
      go_ret
      exact ⟨_, rfl, HD.out.2.1, HD.out.2.2⟩
end Go.Proofs.YtmhdocgoeahbdaaGreatDoor.U

