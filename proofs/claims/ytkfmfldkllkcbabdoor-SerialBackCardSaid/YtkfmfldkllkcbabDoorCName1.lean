/-
  How many letters; what goes on behind a name. No conditions.
-/
import Derived.Test.YtkfmfldkllkcbabDoorCNum2
import Derived.Test.YtkfmfldkllkcbabDoorCNameM
namespace Go.Proofs.YtkfmfldkllkcbabDoor
open Go.RowKit Go.RunKit Go.CharrefKit Go.Lib

theorem letters_done {r : List Nat} {k : Nat} (hk : k ≤ r.length) (h6 : k ≤ 6) (hall : ∀ b ∈ r.take k, isLet b = true) (he : k = 6 ∨ ∀ b, r[k]? = some b → isLet b = false) : lettersN r = k := by
  unfold lettersN
  rw [takeWhile_take (k := k)]
  · rw [List.length_take, List.length_take]; omega
  · intro b hb
    rw [List.take_take, Nat.min_eq_left h6] at hb
    exact hall b hb
  · intro b hb
    rw [List.getElem?_take] at hb
    split at hb
    · rcases he with h | h
      · omega
      · exact h b hb
    · cases hb

set_option maxRecDepth 100000 in
set_option maxHeartbeats 1000000 in
theorem letters_any (s : ByteArray) (hsz : s.size ≤ 1099511627776) (w : World) :
    Calls Tryd.prog 49 #[.string s] w fun e w' => e = .returned (.int .i64 ((lettersN (natsOf s) : Nat) : Int)) ∧ w = w' := by
  have hl := natsOf_length s
  go_enter Tryd.func49, Tryd.ntmps49
  go_wp2
  go_loop [3] (fun i => ∃ k : Nat, i = .int .i64 (k : Nat) ∧ k ≤ s.size ∧ k ≤ 6 ∧ Hid (∀ b ∈ (natsOf s).take k, isLet b = true)) (fun i => 6 - (RowKit.intOf i).toNat)
  case atStart => exact ⟨0, rfl, by omega, by omega, Lib.hid (by simp)⟩
  case round =>
    obtain ⟨k, rfl, hk, h6, HA⟩ := hrel
    by_cases hlt : k < s.size
    · have hltI : (k : Int) < s.size := by omega
      have hat := natsOf_at s k hlt
      by_cases hk6 : k < 6
      · have hk6I : (k : Int) < 6 := by omega
        have HL := Lib.hid (isLetter_any (s[k]'hlt).toNat (UInt8.toNat_lt _) w)
        cases hv : isLet (s[k]'hlt).toNat with
        | true =>
          rw [hv] at HL
          have HX : Hid (∀ b ∈ (natsOf s).take (k + 1), isLet b = true) := Lib.hid (fun b hb => by
            rw [take_snoc hat, List.mem_append] at hb
            rcases hb with hb | hb
            · exact HA.out b hb
            · simp at hb; subst hb; exact hv)
          clear hat hv
          go_wp2_with (go_at_call 63; refine HL.out.mono ?_; rintro e w1 ⟨rfl, rfl⟩)
          exact ⟨⟨k + 1, by go_num, by omega, by omega, HX⟩, by simp [RowKit.intOf]; omega⟩
        | false =>
          rw [hv] at HL
          have HE := Lib.hid (letters_done (r := natsOf s) (by omega) h6 HA.out (.inr (fun b hb => by rw [hat] at hb; cases hb; exact hv)))
          clear hat hv
          go_wp2_with (go_at_call 63; refine HL.out.mono ?_; rintro e w1 ⟨rfl, rfl⟩)
          go_ret
          exact ⟨by rw [HE.out]; rfl, rfl⟩
      · have hk6I := eq_false (show ¬ (k : Int) < 6 by omega)
        have HE := Lib.hid (letters_done (r := natsOf s) (by omega) h6 HA.out (.inl (by omega)))
        clear hat
        go_wp2
        go_ret
        exact ⟨by rw [HE.out]; rfl, rfl⟩
    · have hltI := eq_false (show ¬ (k : Int) < s.size by omega)
      have HE := Lib.hid (letters_done (r := natsOf s) (by omega) h6 HA.out (.inr (fun b hb => by rw [List.getElem?_eq_none (by omega)] at hb; cases hb)))
      go_wp2
      go_ret
      exact ⟨by rw [HE.out]; rfl, rfl⟩

theorem isNum_digit (b : Nat) : isNum b = decide (digitV b < 10) := by
  have := digitV_cases b
  unfold isNum
  rw [decide_eq_decide]
  omega
set_option maxRecDepth 100000 in
set_option maxHeartbeats 1000000 in
theorem goesOn_any (s : ByteArray) (w : World) :
    Calls Tryd.prog 52 #[.string s] w fun e w' => e = .returned (.bool (goesOn (natsOf s)[0]?)) ∧ w = w' := by
  have hl := natsOf_length s
  by_cases h0 : s.size = 0
  · have he : s = ⟨#[]⟩ := ByteArray.ext (Array.eq_empty_of_size_eq_zero h0)
    subst he
    go_enter Tryd.func52, Tryd.ntmps52
    go_wp2
    go_ret
    exact ⟨rfl, rfl⟩
  · have hp : 0 < s.size := by omega
    have hpI : (0 : Int) < s.size := by omega
    have hne : (s.toList == []) = false := by
      rw [ByteArray.toList_eq, beq_eq_false_iff_ne]
      intro e
      have : s.data.toList.length = s.size := by simp
      rw [e] at this
      simp at this; omega
    have hat := natsOf_at s 0 hp
    have HL := Lib.hid (isLetter_any (s[0]'hp).toNat (UInt8.toNat_lt _) w)
    have HD := Lib.hid (digit_any (s[0]'hp).toNat (UInt8.toNat_lt _) w)
    have HV : Hid (goesOn (natsOf s)[0]? = (decide ((s[0]'hp).toNat = 61) || isLet (s[0]'hp).toNat || decide (digitV (s[0]'hp).toNat < 10))) := Lib.hid (by rw [hat]; unfold goesOn; simp only; rw [isNum_digit])
    clear hat hl
    by_cases h61 : (s[0]'hp).toNat = 61
    · have HV2 : Hid (goesOn (natsOf s)[0]? = true) := Lib.hid (by rw [HV.out, decide_eq_true h61]; rfl)
      have h61I : ((((s[0]'hp).toNat : Nat) : Int) == 61) = true := beq_iff_eq.2 (by rw [h61]; rfl)
      clear h61 HV
      go_enter Tryd.func52, Tryd.ntmps52
      go_wp2
      go_ret
      exact ⟨by rw [HV2.out]; rfl, rfl⟩
    · have h61I : ((((s[0]'hp).toNat : Nat) : Int) == 61) = false := beq_eq_false_iff_ne.2 (by omega)
      cases hv : isLet (s[0]'hp).toNat with
      | true =>
        rw [hv] at HL
        have HV2 : Hid (goesOn (natsOf s)[0]? = true) := Lib.hid (by rw [HV.out, hv]; simp)
        clear h61 HV hv
        go_enter Tryd.func52, Tryd.ntmps52
        go_wp2_with (go_at_call 63; refine HL.out.mono ?_; rintro e w1 ⟨rfl, rfl⟩)
        go_ret
        exact ⟨by rw [HV2.out]; rfl, rfl⟩
      | false =>
        rw [hv] at HL
        by_cases hd : digitV (s[0]'hp).toNat < 10
        · have HV2 : Hid (goesOn (natsOf s)[0]? = true) := Lib.hid (by rw [HV.out, decide_eq_true hd]; simp)
          have hdI : ((digitV (s[0]'hp).toNat : Nat) : Int) < 10 := by omega
          clear h61 HV hv hd
          go_enter Tryd.func52, Tryd.ntmps52
          go_wp2_with (first
            | (go_at_call 63; refine HL.out.mono ?_; rintro e w1 ⟨rfl, rfl⟩)
            | (go_at_call 46; refine HD.out.mono ?_; rintro e w1 ⟨rfl, rfl⟩))
          go_ret
          exact ⟨by rw [HV2.out]; rfl, rfl⟩
        · have HV2 : Hid (goesOn (natsOf s)[0]? = false) := Lib.hid (by rw [HV.out, decide_eq_false hd, decide_eq_false h61, hv]; rfl)
          have hdI := eq_false (show ¬ ((digitV (s[0]'hp).toNat : Nat) : Int) < 10 by omega)
          clear h61 HV hv hd
          go_enter Tryd.func52, Tryd.ntmps52
          go_wp2_with (first
            | (go_at_call 63; refine HL.out.mono ?_; rintro e w1 ⟨rfl, rfl⟩)
            | (go_at_call 46; refine HD.out.mono ?_; rintro e w1 ⟨rfl, rfl⟩))
          go_ret
          exact ⟨by rw [HV2.out]; rfl, rfl⟩
end Go.Proofs.YtkfmfldkllkcbabDoor

