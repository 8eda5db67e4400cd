/-
  The document's cut of a text's first part, walked. No conditions.
-/
import Derived.Test.YtkfmfldkllkcbabDoorUCut2
namespace Go.Proofs.YtkfmfldkllkcbabDoor.U
open Go.RowKit Go.RunKit Go.UtfKit Go.Lib

set_option maxRecDepth 100000 in
set_option maxHeartbeats 4000000 in
theorem cut_more (s : ByteArray) (w : World) (hs : 0 < s.size) (b0 n : Nat) (e0 : (s[0]'hs).toNat = b0) (hz : sizeR b0 = n) (hn : n = 2 ∨ n = 3 ∨ n = 4) (hlt : b0 < 256) :
    Calls Tryd.prog 18 #[.string s] w fun e w' => ((∃ i, 1 ≤ i ∧ i < n ∧ Tails s i ∧ ¬ Tails s (i + 1) ∧ e = .returned (.agg #[.int .i32 65533, .int .i64 (i : Nat), .bool false])) ∨
      (Tails s n ∧ e = .returned (.agg #[.int .i32 (soFar s n n : Nat), .int .i64 (n : Nat), .bool true]))) ∧ Below w.heap.size w w' := by
  have hb : Below w.heap.size w (w.alloc (.cells #[.int .i32 0, .int .i64 0, .bool false] 42)) := (Below.refl _ _).alloc (Nat.le_refl _) _
  have hS := Lib.hid (size_any b0 hlt)
  rw [hz] at hS
  have E0 : Hid (byteAt s 0 = b0) := Lib.hid ((byteAt_get s 0 hs).trans e0)
  rcases hn with rfl | rfl | rfl
  · go_enter Tryd.func18, Tryd.ntmps18
    go_wp2_with (go_at_call 30; refine (hS.out _).mono ?_; rintro e w' ⟨rfl, rfl⟩)
    go_quiet (fail)
    go_wp2
    have hth : three ((w.alloc (.cells #[.int .i32 0, .int .i64 0, .bool false] 42)).drewN nq) w.heap.size 42 (.int .i32 0) (.int .i64 0) (.bool false) := heap_alloc_new w _
    have hbw := below_drewN hb nq
    generalize (w.alloc (.cells #[.int .i32 0, .int .i64 0, .bool false] 42)).drewN nq = W at *
    have hm : bits BinOp.and IntKind.i32 (b0 : Int) 31 = ((soFar s 2 1 : Nat) : Int) := by
      have h := and_low b0 5 hlt (by omega)
      have e : soFar s 2 1 = b0 % 2 ^ 5 := by unfold soFar; rw [E0.out]; rfl
      rw [e]; exact h
    rw [hm]
    clear hm
    go_loopw [4, 5] (fun r i wr => ∃ (k : Nat), 1 ≤ k ∧ k ≤ 2 ∧ i = .int .i64 k ∧ r = .int .i32 (soFar s 2 k : Nat) ∧ Hid (Tails s k) ∧ Below w.heap.size w wr ∧ three wr w.heap.size 42 (.int .i32 0) (.int .i64 0) (.bool false)) (fun _ i _ => 3 - (RowKit.intOf i).toNat)
    case atStart => exact ⟨1, by omega, by omega, rfl, rfl, Lib.hid (tails_one s), hbw, hth⟩
    case round =>
      clear hbw hth
      obtain ⟨k, hk1, hk2, rfl, rfl, HT, hbw, hc⟩ := hrel
      obtain ⟨c0, c1, c2, f0, f1, f2⟩ := three_cells hc
      have HC := Lib.hid (And.intro hc hbw)
      clear hc hbw
      by_cases hlt2 : k < 2
      · by_cases hks : k < s.size
        · have ek := byteAt_get s k hks
          have HO := Lib.hid (or_low (soFar s 2 k) (s[k]'hks).toNat (soFar_small s 2 k hk1 (by omega)))
          have HN : Hid (soFar s 2 (k + 1) = soFar s 2 k * 64 + (s[k]'hks).toNat % 64) := Lib.hid (by rw [soFar_succ s 2 k hk1, ek])
          by_cases k1 : k = 1
          · subst k1
            have z1 := eq_false (show ¬ (s.size : Int) ≤ 1 by omega)
            have z2 : 1 < s.size := hks
            have z3 : (1 : Int) < s.size := by omega
            have HS2 := Lib.hid (second_any b0 (s[1]'hks).toNat)
            have EK := Lib.hid ek
            clear ek
            cases hv : sec b0 (s[1]'hks).toNat with
            | true =>
              rw [hv] at HS2
              obtain ⟨t1, t2⟩ := sec_tail hv
              have HV := Lib.hid hv
              clear hv
              have t1' := eq_false (show ¬ ((s[1]'hks).toNat : Int) < 128 by omega)
              have t2' := eq_false (show ¬ (191 : Int) < ((s[1]'hks).toNat : Int) by omega)
              go_wp2
              go_quiet (first | (go_at_call 31; exact Calls.quiet_of_same ((HS2.out _).mono fun _ _ h => ⟨h.1, h.2.symm⟩)))
              go_wp2
              exact ⟨⟨2, by omega, by omega, rfl, by rw [HO.out, HN.out], Lib.hid (tails_succ (by omega) HT.out z2 (fun _ => by rw [E0.out, EK.out]; exact HV.out) (by rw [EK.out]; simp [tailB, t1, t2])), below_drewN HC.out.2 _, HC.out.1⟩, by simp [RowKit.intOf]⟩
            | false =>
              rw [hv] at HS2
              have HV := Lib.hid hv
              clear hv
              go_wp2
              go_quiet (first | (go_at_call 31; exact Calls.quiet_of_same ((HS2.out _).mono fun _ _ h => ⟨h.1, h.2.symm⟩)))
              go_wp2
              refine bodyPost_ret (part_results rfl _ _ w.heap.size (.int .i32 65533) (.int .i64 1) (.bool false) rfl (three_store HC.out.1)) rfl ?_
              exact ⟨.inl ⟨1, by omega, by omega, HT.out, tails_not (by omega) (.inr (.inl ⟨rfl, by rw [E0.out, EK.out]; exact HV.out⟩)), rfl⟩, (((below_drewN HC.out.2 _).setCell (Nat.le_refl _) _).setCell (Nat.le_refl _) _).setCell (Nat.le_refl _) _⟩
          · exact absurd hlt2 (by omega)
        · have z1 : (s.size : Int) ≤ (k : Int) := by omega
          go_wp2
          go_quiet (fail)
          go_wp2
          refine bodyPost_ret (part_results rfl _ _ w.heap.size (.int .i32 65533) (.int .i64 k) (.bool false) rfl (three_store HC.out.1)) rfl ?_
          exact ⟨.inl ⟨k, by omega, by omega, HT.out, tails_not (by omega) (.inl hks), rfl⟩, (((below_drewN HC.out.2 _).setCell (Nat.le_refl _) _).setCell (Nat.le_refl _) _).setCell (Nat.le_refl _) _⟩
      · obtain rfl : k = 2 := by omega
        go_wp2
        refine bodyPost_ret (part_results rfl _ _ w.heap.size (.int .i32 (soFar s 2 2 : Nat)) (.int .i64 2) (.bool true) rfl (three_store HC.out.1)) rfl ?_
        exact ⟨.inr ⟨HT.out, rfl⟩, ((HC.out.2.setCell (Nat.le_refl _) _).setCell (Nat.le_refl _) _).setCell (Nat.le_refl _) _⟩
  · go_enter Tryd.func18, Tryd.ntmps18
    go_wp2_with (go_at_call 30; refine (hS.out _).mono ?_; rintro e w' ⟨rfl, rfl⟩)
    go_quiet (fail)
    go_wp2
    have hth : three ((w.alloc (.cells #[.int .i32 0, .int .i64 0, .bool false] 42)).drewN nq) w.heap.size 42 (.int .i32 0) (.int .i64 0) (.bool false) := heap_alloc_new w _
    have hbw := below_drewN hb nq
    generalize (w.alloc (.cells #[.int .i32 0, .int .i64 0, .bool false] 42)).drewN nq = W at *
    have hm : bits BinOp.and IntKind.i32 (b0 : Int) 15 = ((soFar s 3 1 : Nat) : Int) := by
      have h := and_low b0 4 hlt (by omega)
      have e : soFar s 3 1 = b0 % 2 ^ 4 := by unfold soFar; rw [E0.out]; rfl
      rw [e]; exact h
    rw [hm]
    clear hm
    go_loopw [4, 5] (fun r i wr => ∃ (k : Nat), 1 ≤ k ∧ k ≤ 3 ∧ i = .int .i64 k ∧ r = .int .i32 (soFar s 3 k : Nat) ∧ Hid (Tails s k) ∧ Below w.heap.size w wr ∧ three wr w.heap.size 42 (.int .i32 0) (.int .i64 0) (.bool false)) (fun _ i _ => 4 - (RowKit.intOf i).toNat)
    case atStart => exact ⟨1, by omega, by omega, rfl, rfl, Lib.hid (tails_one s), hbw, hth⟩
    case round =>
      clear hbw hth
      obtain ⟨k, hk1, hk2, rfl, rfl, HT, hbw, hc⟩ := hrel
      obtain ⟨c0, c1, c2, f0, f1, f2⟩ := three_cells hc
      have HC := Lib.hid (And.intro hc hbw)
      clear hc hbw
      by_cases hlt2 : k < 3
      · by_cases hks : k < s.size
        · have ek := byteAt_get s k hks
          have HO := Lib.hid (or_low (soFar s 3 k) (s[k]'hks).toNat (soFar_small s 3 k hk1 (by omega)))
          have HN : Hid (soFar s 3 (k + 1) = soFar s 3 k * 64 + (s[k]'hks).toNat % 64) := Lib.hid (by rw [soFar_succ s 3 k hk1, ek])
          by_cases k1 : k = 1
          · subst k1
            have z1 := eq_false (show ¬ (s.size : Int) ≤ 1 by omega)
            have z2 : 1 < s.size := hks
            have z3 : (1 : Int) < s.size := by omega
            have HS2 := Lib.hid (second_any b0 (s[1]'hks).toNat)
            have EK := Lib.hid ek
            clear ek
            cases hv : sec b0 (s[1]'hks).toNat with
            | true =>
              rw [hv] at HS2
              obtain ⟨t1, t2⟩ := sec_tail hv
              have HV := Lib.hid hv
              clear hv
              have t1' := eq_false (show ¬ ((s[1]'hks).toNat : Int) < 128 by omega)
              have t2' := eq_false (show ¬ (191 : Int) < ((s[1]'hks).toNat : Int) by omega)
              go_wp2
              go_quiet (first | (go_at_call 31; exact Calls.quiet_of_same ((HS2.out _).mono fun _ _ h => ⟨h.1, h.2.symm⟩)))
              go_wp2
              exact ⟨⟨2, by omega, by omega, rfl, by rw [HO.out, HN.out], Lib.hid (tails_succ (by omega) HT.out z2 (fun _ => by rw [E0.out, EK.out]; exact HV.out) (by rw [EK.out]; simp [tailB, t1, t2])), below_drewN HC.out.2 _, HC.out.1⟩, by simp [RowKit.intOf]⟩
            | false =>
              rw [hv] at HS2
              have HV := Lib.hid hv
              clear hv
              go_wp2
              go_quiet (first | (go_at_call 31; exact Calls.quiet_of_same ((HS2.out _).mono fun _ _ h => ⟨h.1, h.2.symm⟩)))
              go_wp2
              refine bodyPost_ret (part_results rfl _ _ w.heap.size (.int .i32 65533) (.int .i64 1) (.bool false) rfl (three_store HC.out.1)) rfl ?_
              exact ⟨.inl ⟨1, by omega, by omega, HT.out, tails_not (by omega) (.inr (.inl ⟨rfl, by rw [E0.out, EK.out]; exact HV.out⟩)), rfl⟩, (((below_drewN HC.out.2 _).setCell (Nat.le_refl _) _).setCell (Nat.le_refl _) _).setCell (Nat.le_refl _) _⟩
          · have z0 := eq_false (show ¬ (k : Int) = 1 by omega)
            have z1 := eq_false (show ¬ (s.size : Int) ≤ (k : Int) by omega)
            have z3 : (k : Int) < s.size := by omega
            have EK := Lib.hid ek
            clear ek
            by_cases t1 : (s[k]'hks).toNat < 128
            · have t1' : ((s[k]'hks).toNat : Int) < 128 := by omega
              go_wp2
              go_quiet (fail)
              go_wp2
              refine bodyPost_ret (part_results rfl _ _ w.heap.size (.int .i32 65533) (.int .i64 k) (.bool false) rfl (three_store HC.out.1)) rfl ?_
              exact ⟨.inl ⟨k, by omega, by omega, HT.out, tails_not (by omega) (.inr (.inr (by rw [EK.out]; simp [tailB]; omega))), rfl⟩, (((below_drewN HC.out.2 _).setCell (Nat.le_refl _) _).setCell (Nat.le_refl _) _).setCell (Nat.le_refl _) _⟩
            · have t1' := eq_false (show ¬ ((s[k]'hks).toNat : Int) < 128 by omega)
              by_cases t2 : 191 < (s[k]'hks).toNat
              · have t2' : (191 : Int) < ((s[k]'hks).toNat : Int) := by omega
                go_wp2
                go_quiet (fail)
                go_wp2
                refine bodyPost_ret (part_results rfl _ _ w.heap.size (.int .i32 65533) (.int .i64 k) (.bool false) rfl (three_store HC.out.1)) rfl ?_
                exact ⟨.inl ⟨k, by omega, by omega, HT.out, tails_not (by omega) (.inr (.inr (by rw [EK.out]; simp [tailB]; omega))), rfl⟩, (((below_drewN HC.out.2 _).setCell (Nat.le_refl _) _).setCell (Nat.le_refl _) _).setCell (Nat.le_refl _) _⟩
              · have t2' := eq_false (show ¬ (191 : Int) < ((s[k]'hks).toNat : Int) by omega)
                go_wp2
                go_quiet (fail)
                go_wp2
                exact ⟨⟨k + 1, by omega, by omega, by go_num, by rw [HO.out, HN.out], Lib.hid (tails_succ (by omega) HT.out hks (fun e => absurd e k1) (by rw [EK.out]; simp [tailB]; omega)), below_drewN HC.out.2 _, HC.out.1⟩, by simp [RowKit.intOf]; omega⟩
        · have z1 : (s.size : Int) ≤ (k : Int) := by omega
          go_wp2
          go_quiet (fail)
          go_wp2
          refine bodyPost_ret (part_results rfl _ _ w.heap.size (.int .i32 65533) (.int .i64 k) (.bool false) rfl (three_store HC.out.1)) rfl ?_
          exact ⟨.inl ⟨k, by omega, by omega, HT.out, tails_not (by omega) (.inl hks), rfl⟩, (((below_drewN HC.out.2 _).setCell (Nat.le_refl _) _).setCell (Nat.le_refl _) _).setCell (Nat.le_refl _) _⟩
      · obtain rfl : k = 3 := by omega
        go_wp2
        refine bodyPost_ret (part_results rfl _ _ w.heap.size (.int .i32 (soFar s 3 3 : Nat)) (.int .i64 3) (.bool true) rfl (three_store HC.out.1)) rfl ?_
        exact ⟨.inr ⟨HT.out, rfl⟩, ((HC.out.2.setCell (Nat.le_refl _) _).setCell (Nat.le_refl _) _).setCell (Nat.le_refl _) _⟩
  · go_enter Tryd.func18, Tryd.ntmps18
    go_wp2_with (go_at_call 30; refine (hS.out _).mono ?_; rintro e w' ⟨rfl, rfl⟩)
    go_quiet (fail)
    go_wp2
    have hth : three ((w.alloc (.cells #[.int .i32 0, .int .i64 0, .bool false] 42)).drewN nq) w.heap.size 42 (.int .i32 0) (.int .i64 0) (.bool false) := heap_alloc_new w _
    have hbw := below_drewN hb nq
    generalize (w.alloc (.cells #[.int .i32 0, .int .i64 0, .bool false] 42)).drewN nq = W at *
    have hm : bits BinOp.and IntKind.i32 (b0 : Int) 7 = ((soFar s 4 1 : Nat) : Int) := by
      have h := and_low b0 3 hlt (by omega)
      have e : soFar s 4 1 = b0 % 2 ^ 3 := by unfold soFar; rw [E0.out]; rfl
      rw [e]; exact h
    rw [hm]
    clear hm
    go_loopw [4, 5] (fun r i wr => ∃ (k : Nat), 1 ≤ k ∧ k ≤ 4 ∧ i = .int .i64 k ∧ r = .int .i32 (soFar s 4 k : Nat) ∧ Hid (Tails s k) ∧ Below w.heap.size w wr ∧ three wr w.heap.size 42 (.int .i32 0) (.int .i64 0) (.bool false)) (fun _ i _ => 5 - (RowKit.intOf i).toNat)
    case atStart => exact ⟨1, by omega, by omega, rfl, rfl, Lib.hid (tails_one s), hbw, hth⟩
    case round =>
      clear hbw hth
      obtain ⟨k, hk1, hk2, rfl, rfl, HT, hbw, hc⟩ := hrel
      obtain ⟨c0, c1, c2, f0, f1, f2⟩ := three_cells hc
      have HC := Lib.hid (And.intro hc hbw)
      clear hc hbw
      by_cases hlt2 : k < 4
      · by_cases hks : k < s.size
        · have ek := byteAt_get s k hks
          have HO := Lib.hid (or_low (soFar s 4 k) (s[k]'hks).toNat (soFar_small s 4 k hk1 (by omega)))
          have HN : Hid (soFar s 4 (k + 1) = soFar s 4 k * 64 + (s[k]'hks).toNat % 64) := Lib.hid (by rw [soFar_succ s 4 k hk1, ek])
          by_cases k1 : k = 1
          · subst k1
            have z1 := eq_false (show ¬ (s.size : Int) ≤ 1 by omega)
            have z2 : 1 < s.size := hks
            have z3 : (1 : Int) < s.size := by omega
            have HS2 := Lib.hid (second_any b0 (s[1]'hks).toNat)
            have EK := Lib.hid ek
            clear ek
            cases hv : sec b0 (s[1]'hks).toNat with
            | true =>
              rw [hv] at HS2
              obtain ⟨t1, t2⟩ := sec_tail hv
              have HV := Lib.hid hv
              clear hv
              have t1' := eq_false (show ¬ ((s[1]'hks).toNat : Int) < 128 by omega)
              have t2' := eq_false (show ¬ (191 : Int) < ((s[1]'hks).toNat : Int) by omega)
              go_wp2
              go_quiet (first | (go_at_call 31; exact Calls.quiet_of_same ((HS2.out _).mono fun _ _ h => ⟨h.1, h.2.symm⟩)))
              go_wp2
              exact ⟨⟨2, by omega, by omega, rfl, by rw [HO.out, HN.out], Lib.hid (tails_succ (by omega) HT.out z2 (fun _ => by rw [E0.out, EK.out]; exact HV.out) (by rw [EK.out]; simp [tailB, t1, t2])), below_drewN HC.out.2 _, HC.out.1⟩, by simp [RowKit.intOf]⟩
            | false =>
              rw [hv] at HS2
              have HV := Lib.hid hv
              clear hv
              go_wp2
              go_quiet (first | (go_at_call 31; exact Calls.quiet_of_same ((HS2.out _).mono fun _ _ h => ⟨h.1, h.2.symm⟩)))
              go_wp2
              refine bodyPost_ret (part_results rfl _ _ w.heap.size (.int .i32 65533) (.int .i64 1) (.bool false) rfl (three_store HC.out.1)) rfl ?_
              exact ⟨.inl ⟨1, by omega, by omega, HT.out, tails_not (by omega) (.inr (.inl ⟨rfl, by rw [E0.out, EK.out]; exact HV.out⟩)), rfl⟩, (((below_drewN HC.out.2 _).setCell (Nat.le_refl _) _).setCell (Nat.le_refl _) _).setCell (Nat.le_refl _) _⟩
          · have z0 := eq_false (show ¬ (k : Int) = 1 by omega)
            have z1 := eq_false (show ¬ (s.size : Int) ≤ (k : Int) by omega)
            have z3 : (k : Int) < s.size := by omega
            have EK := Lib.hid ek
            clear ek
            by_cases t1 : (s[k]'hks).toNat < 128
            · have t1' : ((s[k]'hks).toNat : Int) < 128 := by omega
              go_wp2
              go_quiet (fail)
              go_wp2
              refine bodyPost_ret (part_results rfl _ _ w.heap.size (.int .i32 65533) (.int .i64 k) (.bool false) rfl (three_store HC.out.1)) rfl ?_
              exact ⟨.inl ⟨k, by omega, by omega, HT.out, tails_not (by omega) (.inr (.inr (by rw [EK.out]; simp [tailB]; omega))), rfl⟩, (((below_drewN HC.out.2 _).setCell (Nat.le_refl _) _).setCell (Nat.le_refl _) _).setCell (Nat.le_refl _) _⟩
            · have t1' := eq_false (show ¬ ((s[k]'hks).toNat : Int) < 128 by omega)
              by_cases t2 : 191 < (s[k]'hks).toNat
              · have t2' : (191 : Int) < ((s[k]'hks).toNat : Int) := by omega
                go_wp2
                go_quiet (fail)
                go_wp2
                refine bodyPost_ret (part_results rfl _ _ w.heap.size (.int .i32 65533) (.int .i64 k) (.bool false) rfl (three_store HC.out.1)) rfl ?_
                exact ⟨.inl ⟨k, by omega, by omega, HT.out, tails_not (by omega) (.inr (.inr (by rw [EK.out]; simp [tailB]; omega))), rfl⟩, (((below_drewN HC.out.2 _).setCell (Nat.le_refl _) _).setCell (Nat.le_refl _) _).setCell (Nat.le_refl _) _⟩
              · have t2' := eq_false (show ¬ (191 : Int) < ((s[k]'hks).toNat : Int) by omega)
                go_wp2
                go_quiet (fail)
                go_wp2
                exact ⟨⟨k + 1, by omega, by omega, by go_num, by rw [HO.out, HN.out], Lib.hid (tails_succ (by omega) HT.out hks (fun e => absurd e k1) (by rw [EK.out]; simp [tailB]; omega)), below_drewN HC.out.2 _, HC.out.1⟩, by simp [RowKit.intOf]; omega⟩
        · have z1 : (s.size : Int) ≤ (k : Int) := by omega
          go_wp2
          go_quiet (fail)
          go_wp2
          refine bodyPost_ret (part_results rfl _ _ w.heap.size (.int .i32 65533) (.int .i64 k) (.bool false) rfl (three_store HC.out.1)) rfl ?_
          exact ⟨.inl ⟨k, by omega, by omega, HT.out, tails_not (by omega) (.inl hks), rfl⟩, (((below_drewN HC.out.2 _).setCell (Nat.le_refl _) _).setCell (Nat.le_refl _) _).setCell (Nat.le_refl _) _⟩
      · obtain rfl : k = 4 := by omega
        go_wp2
        refine bodyPost_ret (part_results rfl _ _ w.heap.size (.int .i32 (soFar s 4 4 : Nat)) (.int .i64 4) (.bool true) rfl (three_store HC.out.1)) rfl ?_
        exact ⟨.inr ⟨HT.out, rfl⟩, ((HC.out.2.setCell (Nat.le_refl _) _).setCell (Nat.le_refl _) _).setCell (Nat.le_refl _) _⟩
end Go.Proofs.YtkfmfldkllkcbabDoor.U

