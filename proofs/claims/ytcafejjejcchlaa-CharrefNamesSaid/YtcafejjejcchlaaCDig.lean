/-
  Numbers written out, walked. No conditions.
-/
import Derived.Test.YtcafejjejcchlaaCLaw4
import Derived.Test.YtcafejjejcchlaaCDigM
namespace Go.CharrefKit
open Go Go.Lib
def digitText : List UInt8 := [48, 49, 50, 51, 52, 53, 54, 55, 56, 57, 97, 66, 99, 68, 101, 70]
theorem digit_text : ((List.range 16).all fun k => decide (digitV ((digitText.getD k 0).toNat) = k)) = true := by kernel_rfl
theorem digitV_text {k : Nat} (h : k < 16) : digitV ((digitText.getD k 0).toNat) = k := of_decide_eq_true (List.all_eq_true.1 digit_text k (List.mem_range.2 h))
end Go.CharrefKit
namespace Go.Proofs.Ytcafejjejcchlaa
open Go.RowKit Go.RunKit Go.CharrefKit Go.Lib

/-- The last digits, written; what is still to be. -/
structure Part (base n m : Nat) (t : ByteArray) : Prop where
  all : ∀ b ∈ natsOf t, digitV b < base
  sum : m * base ^ t.size + valueOf base (natsOf t) = n
  room : 0 < m → m * 2 ^ t.size < 4294967296
theorem Part.start (base n : Nat) (h : n < 4294967296) : Part base n n ⟨#[]⟩ := ⟨fun b hb => (by cases hb), by show n * base ^ 0 + 0 = n; simp, fun _ => by show n * 2 ^ 0 < _; omega⟩
def oneDigit (k : Nat) : ByteArray := (⟨digitText.toArray⟩ : ByteArray).extract k (k + 1)
theorem oneDigit_nats {k : Nat} (h : k < 16) : natsOf (oneDigit k) = [(digitText.getD k 0).toNat] := by
  unfold oneDigit
  rw [natsOf_extract]
  have e : natsOf ⟨digitText.toArray⟩ = nats digitText := by simp [natsOf]
  rw [e]
  have hk : k < (nats digitText).length := h
  rw [List.drop_eq_getElem_cons hk, show k + 1 - k = 1 by omega, List.take_succ_cons, List.take_zero]
  congr 1
  have hk2 : k < digitText.length := h
  simp [nats, List.getD_eq_getElem?_getD, hk2]
theorem Part.next {base n m : Nat} {t : ByteArray} (h : Part base n m t) (hb : 2 ≤ base) (hb2 : base ≤ 16) : Part base n (m / base) (oneDigit (m % base) ++ t) := by
  have hlt : m % base < base := Nat.mod_lt _ (by omega)
  have hn := oneDigit_nats (show m % base < 16 by omega)
  have hs : (oneDigit (m % base) ++ t).size = t.size + 1 := by
    rw [← natsOf_length, natsOf_append, hn]
    simp [natsOf_length]
  refine ⟨fun b hb' => ?_, ?_, fun hp => ?_⟩
  · rw [natsOf_append, hn, List.mem_append] at hb'
    rcases hb' with hb' | hb'
    · rw [List.mem_singleton.1 hb', digitV_text (by omega)]
      exact hlt
    · exact h.all b hb'
  · rw [hs, natsOf_append, hn]
    show _ + valueOf base ((digitText.getD (m % base) 0).toNat :: natsOf t) = n
    rw [valueOf_cons, digitV_text (by omega), natsOf_length, ← h.sum]
    have e : m * base ^ t.size = (m / base * base + m % base) * base ^ t.size := by rw [Nat.mul_comm (m / base) base, Nat.div_add_mod]
    rw [e, Nat.add_mul, Nat.pow_succ, Nat.mul_assoc (m / base) base, Nat.mul_comm base (base ^ t.size)]
    omega
  · rw [hs, Nat.pow_succ]
    have hm : 0 < m := by
      rcases Nat.eq_zero_or_pos m with h0 | h0
      · subst h0; simp at hp
      · exact h0
    have h1 := h.room hm
    have h2 : m / base * 2 ≤ m := by
      have : m / base * base ≤ m := Nat.div_mul_le_self m base
      have : m / base * 2 ≤ m / base * base := Nat.mul_le_mul (Nat.le_refl _) hb
      omega
    calc m / base * (2 ^ t.size * 2) = m / base * 2 * 2 ^ t.size := by rw [Nat.mul_comm (2 ^ t.size) 2, Nat.mul_assoc]
      _ ≤ m * 2 ^ t.size := Nat.mul_le_mul h2 (Nat.le_refl _)
      _ < 4294967296 := h1
theorem Part.size {base n m : Nat} {t : ByteArray} (h : Part base n m t) (hm : 0 < m) : t.size ≤ 31 := by
  have h1 := h.room hm
  rcases Nat.lt_or_ge t.size 32 with h2 | h2
  · omega
  · exfalso
    have h3 : 2 ^ 32 ≤ 2 ^ t.size := Nat.pow_le_pow_right (by omega) h2
    have h4 : 1 * 2 ^ t.size ≤ m * 2 ^ t.size := Nat.mul_le_mul hm (Nat.le_refl _)
    have h5 : (2 : Nat) ^ 32 = 4294967296 := by decide
    omega
theorem oneDigit_size {k : Nat} (h : k < 16) (t : ByteArray) : (oneDigit k ++ t).size = t.size + 1 := by
  rw [← natsOf_length, natsOf_append, oneDigit_nats h]
  simp [natsOf_length]
theorem Part.done {base n : Nat} {t : ByteArray} (h : Part base n 0 t) (ht : 0 < t.size) : Digits base n (natsOf t) := ⟨h.all, fun e => by
  have := natsOf_length t
  rw [e] at this
  simp at this; omega, by have := h.sum; simpa using this⟩
theorem digits_nought {base n : Nat} {t : ByteArray} (hb : 2 ≤ base) (h : Digits base n (natsOf t)) : Digits base n (natsOf (⟨#[48]⟩ ++ t)) := by
  have e : natsOf (⟨#[48]⟩ ++ t) = 48 :: natsOf t := by rw [natsOf_append]; rfl
  rw [e]
  refine ⟨fun b hb' => ?_, by simp, ?_⟩
  · rcases List.mem_cons.1 hb' with rfl | h'
    · show 0 < base; omega
    · exact h.all b h'
  · rw [valueOf_cons, h.value]
    show 0 * _ + n = n
    simp

set_option maxRecDepth 100000 in
set_option maxHeartbeats 4000000 in
theorem digits_10 (n q : Nat) (hn : n < 4294967296) (hq : q < 256) (w : World) :
    Calls Try.prog 17 #[.int .u32 (n : Nat), .int .u32 10, .int .u8 (q : Nat)] w fun e w' => ∃ t : ByteArray, e = .returned (.string t) ∧ (Digits 10 n (natsOf t) ∧ t.size ≤ 45) ∧ w = w' := by
  have D0 : Hid (Part 10 n n ⟨#[]⟩) := Lib.hid (Part.start 10 n hn)
  go_enter Try.func17, Try.ntmps17
  go_wp2
  go_loop [0, 7, 8] (fun a s _ => ∃ (m : Nat) (t : ByteArray), a = .int .u32 (m : Nat) ∧ s = .string t ∧ m < 4294967296 ∧ t.size ≤ 32 ∧ Hid (Part 10 n m t)) (fun a s _ => 2 * (RowKit.intOf a).toNat + (if strSize s = 0 then 1 else 0))
  case atStart => exact ⟨n, ⟨#[]⟩, rfl, rfl, hn, by decide, D0⟩
  case round =>
    clear D0
    obtain ⟨m, t, rfl, rfl, hm, hts, HP⟩ := hrel
    by_cases hm0 : 0 < m
    · have HN := Lib.hid (HP.out.next (by decide) (by decide))
      have hsz := HP.out.size hm0
      have hmI : (0 : Int) < m := by omega
      have HS := Lib.hid (oneDigit_size (k := m % 10) (by omega) t)
      go_wp2
      exact ⟨⟨m / 10, oneDigit (m % 10) ++ t, congrArg (Value.int .u32) (by omega), rfl, by omega, by rw [HS.out]; omega, HN⟩, by
        have h9 : ¬ strSize (.string (oneDigit (m % 10) ++ t)) = 0 := by show ¬ (oneDigit (m % 10) ++ t).size = 0; rw [HS.out]; omega
        refine Nat.lt_of_lt_of_le (Nat.lt_of_le_of_lt (Nat.add_le_add_left (Nat.le_of_eq (if_neg h9)) _) ?_) (Nat.le_add_right _ _)
        simp only [RowKit.intOf]
        omega⟩
    · obtain rfl : m = 0 := by omega
      by_cases ht0 : t.size = 0
      · have he : t = ⟨#[]⟩ := ByteArray.ext (Array.eq_empty_of_size_eq_zero ht0)
        subst he
        have HN := Lib.hid (HP.out.next (by decide) (by decide))
        have HS := Lib.hid (oneDigit_size (k := 0) (by omega) ⟨#[]⟩)
        go_wp2
        exact ⟨⟨0, oneDigit 0 ++ ⟨#[]⟩, rfl, rfl, by omega, by rw [HS.out]; decide, HN⟩, by decide⟩
      · have hne : (t.toList == []) = false := by
          rw [ByteArray.toList_eq, beq_eq_false_iff_ne]
          intro e
          have : t.data.toList.length = t.size := by simp
          rw [e] at this
          simp at this; omega
        have hDG := HP.out.done (by omega)
        have HDG := Lib.hid hDG
        have HNE := Lib.hid hne
        clear hDG
        go_wp2
        go_loop [7, 9] (fun s i => ∃ (j : Nat) (u : ByteArray), s = .string u ∧ i = .int .u8 (j : Nat) ∧ j ≤ q % 9 ∧ u.size ≤ 32 + j ∧ Hid (Digits 10 n (natsOf u))) (fun _ i => 9 - (RowKit.intOf i).toNat)
        case atStart => exact ⟨0, t, rfl, rfl, by omega, by omega, HDG⟩
        case round =>
          clear HDG HP
          obtain ⟨j, u, rfl, rfl, hj, hus, HU⟩ := hrel
          by_cases hlt : j < q % 9
          · have hltI : (j : Int) < (q : Int) % 9 := by omega
            have HX := Lib.hid (digits_nought (by decide) HU.out)
            go_wp2
            exact ⟨⟨j + 1, _, rfl, by go_num, by omega, by simp; show 1 + u.size ≤ _; omega, HX⟩, by simp [RowKit.intOf]; omega⟩
          · have hltI := eq_false (show ¬ (j : Int) < (q : Int) % 9 by omega)
            go_wp2
            go_ret
            exact ⟨u, rfl, ⟨HU.out, by omega⟩, rfl⟩

set_option maxRecDepth 100000 in
set_option maxHeartbeats 4000000 in
theorem digits_16 (n q : Nat) (hn : n < 4294967296) (hq : q < 256) (w : World) :
    Calls Try.prog 17 #[.int .u32 (n : Nat), .int .u32 16, .int .u8 (q : Nat)] w fun e w' => ∃ t : ByteArray, e = .returned (.string t) ∧ (Digits 16 n (natsOf t) ∧ t.size ≤ 45) ∧ w = w' := by
  have D0 : Hid (Part 16 n n ⟨#[]⟩) := Lib.hid (Part.start 16 n hn)
  go_enter Try.func17, Try.ntmps17
  go_wp2
  go_loop [0, 7, 8] (fun a s _ => ∃ (m : Nat) (t : ByteArray), a = .int .u32 (m : Nat) ∧ s = .string t ∧ m < 4294967296 ∧ t.size ≤ 32 ∧ Hid (Part 16 n m t)) (fun a s _ => 2 * (RowKit.intOf a).toNat + (if strSize s = 0 then 1 else 0))
  case atStart => exact ⟨n, ⟨#[]⟩, rfl, rfl, hn, by decide, D0⟩
  case round =>
    clear D0
    obtain ⟨m, t, rfl, rfl, hm, hts, HP⟩ := hrel
    by_cases hm0 : 0 < m
    · have HN := Lib.hid (HP.out.next (by decide) (by decide))
      have hsz := HP.out.size hm0
      have hmI : (0 : Int) < m := by omega
      have HS := Lib.hid (oneDigit_size (k := m % 16) (by omega) t)
      go_wp2
      exact ⟨⟨m / 16, oneDigit (m % 16) ++ t, congrArg (Value.int .u32) (by omega), rfl, by omega, by rw [HS.out]; omega, HN⟩, by
        have h9 : ¬ strSize (.string (oneDigit (m % 16) ++ t)) = 0 := by show ¬ (oneDigit (m % 16) ++ t).size = 0; rw [HS.out]; omega
        refine Nat.lt_of_lt_of_le (Nat.lt_of_le_of_lt (Nat.add_le_add_left (Nat.le_of_eq (if_neg h9)) _) ?_) (Nat.le_add_right _ _)
        simp only [RowKit.intOf]
        omega⟩
    · obtain rfl : m = 0 := by omega
      by_cases ht0 : t.size = 0
      · have he : t = ⟨#[]⟩ := ByteArray.ext (Array.eq_empty_of_size_eq_zero ht0)
        subst he
        have HN := Lib.hid (HP.out.next (by decide) (by decide))
        have HS := Lib.hid (oneDigit_size (k := 0) (by omega) ⟨#[]⟩)
        go_wp2
        exact ⟨⟨0, oneDigit 0 ++ ⟨#[]⟩, rfl, rfl, by omega, by rw [HS.out]; decide, HN⟩, by decide⟩
      · have hne : (t.toList == []) = false := by
          rw [ByteArray.toList_eq, beq_eq_false_iff_ne]
          intro e
          have : t.data.toList.length = t.size := by simp
          rw [e] at this
          simp at this; omega
        have hDG := HP.out.done (by omega)
        have HDG := Lib.hid hDG
        have HNE := Lib.hid hne
        clear hDG
        go_wp2
        go_loop [7, 9] (fun s i => ∃ (j : Nat) (u : ByteArray), s = .string u ∧ i = .int .u8 (j : Nat) ∧ j ≤ q % 9 ∧ u.size ≤ 32 + j ∧ Hid (Digits 16 n (natsOf u))) (fun _ i => 9 - (RowKit.intOf i).toNat)
        case atStart => exact ⟨0, t, rfl, rfl, by omega, by omega, HDG⟩
        case round =>
          clear HDG HP
          obtain ⟨j, u, rfl, rfl, hj, hus, HU⟩ := hrel
          by_cases hlt : j < q % 9
          · have hltI : (j : Int) < (q : Int) % 9 := by omega
            have HX := Lib.hid (digits_nought (by decide) HU.out)
            go_wp2
            exact ⟨⟨j + 1, _, rfl, by go_num, by omega, by simp; show 1 + u.size ≤ _; omega, HX⟩, by simp [RowKit.intOf]; omega⟩
          · have hltI := eq_false (show ¬ (j : Int) < (q : Int) % 9 by omega)
            go_wp2
            go_ret
            exact ⟨u, rfl, ⟨HU.out, by omega⟩, rfl⟩
end Go.Proofs.Ytcafejjejcchlaa
