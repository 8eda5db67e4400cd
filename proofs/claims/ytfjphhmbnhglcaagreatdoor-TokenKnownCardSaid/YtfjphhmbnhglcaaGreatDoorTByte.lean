/-
  Functions of package token that read bytes alone: isLetter, isDigit, isMark, isWord, small. Conditions: texts are no longer than 2^40 bytes.
-/
import Derived.Test.YtfjphhmbnhglcaaGreatDoorTMath
import Derived.Test.YtfjphhmbnhglcaaGreatDoorTAny
namespace Go.Proofs.YtfjphhmbnhglcaaGreatDoor
open Go.RowKit Go.RunKit Go.CharrefKit Go.Lib Go.TokenKit

set_option maxRecDepth 100000 in
set_option maxHeartbeats 1000000 in
theorem tisLetter_any (b : Nat) (hb : b < 256) (w : World) :
    Calls Tryz.prog 61 #[.int .u8 (b : Nat)] w fun e w' => e = .returned (.bool (isLet b)) ∧ w = w' := by
  by_cases h1 : (97 : Int) ≤ b <;> by_cases h2 : (b : Int) ≤ 122 <;> by_cases h3 : (65 : Int) ≤ b <;> by_cases h4 : (b : Int) ≤ 90
  all_goals (try (exfalso; omega))
  all_goals
    go_enter Tryz.func61, Tryz.ntmps61
    go_wp2
    go_ret
    refine ⟨ret1_eq (congrArg Value.bool ?_), rfl⟩
    unfold isLet
    try simp
    try omega
set_option maxRecDepth 100000 in
set_option maxHeartbeats 1000000 in
theorem tisDigit_any (b : Nat) (hb : b < 256) (w : World) :
    Calls Tryz.prog 168 #[.int .u8 (b : Nat)] w fun e w' => e = .returned (.bool (isNum b)) ∧ w = w' := by
  by_cases h1 : (48 : Int) ≤ b <;> by_cases h2 : (b : Int) ≤ 57
  all_goals (try (exfalso; omega))
  all_goals
    go_enter Tryz.func168, Tryz.ntmps168
    go_wp2
    go_ret
    refine ⟨ret1_eq (congrArg Value.bool ?_), rfl⟩
    unfold isNum
    try simp
    try omega
theorem u8eq {b : UInt8} {k : Nat} (hk : k < 256) : (b == UInt8.ofNat k) = ((b.toNat : Int) == (k : Int)) := by
  rw [Bool.eq_iff_iff, beq_iff_eq, beq_iff_eq]
  constructor
  · rintro rfl; rw [UInt8.toNat_ofNat']; omega
  · intro h; apply UInt8.toNat_inj.1; rw [UInt8.toNat_ofNat']; omega
theorem mark_at (s : ByteArray) (h : 1 < s.size) : markL (bl s) = ((((s[0]'(by omega)).toNat : Int) == 60) && (isLet (s[1]'h).toNat || (((s[1]'h).toNat : Int) == 47) || (((s[1]'h).toNat : Int) == 33) || (((s[1]'h).toNat : Int) == 63))) := by
  have h0 : (bl s)[0]? = some (s[0]'(by omega)) := Lib.data_getElem? s 0 (by omega)
  have h1 : (bl s)[1]? = some (s[1]'h) := Lib.data_getElem? s 1 h
  cases hl : bl s with
  | nil => rw [hl] at h0; cases h0
  | cons a t =>
    rw [hl] at h0 h1
    cases t with
    | nil => cases h1
    | cons c u =>
      simp only [List.getElem?_cons_zero, List.getElem?_cons_succ, Option.some.injEq] at h0 h1
      rw [← h0, ← h1]
      show (a == UInt8.ofNat 60 && (isL c || c == UInt8.ofNat 47 || c == UInt8.ofNat 33 || c == UInt8.ofNat 63)) = _
      rw [u8eq (by decide), u8eq (by decide), u8eq (by decide), u8eq (by decide)]
      rfl
theorem mark_short (s : ByteArray) (h : ¬ 1 < s.size) : markL (bl s) = false := by
  have hl := bl_length s
  match hb : bl s with
  | [] => rfl
  | [_] => rfl
  | _ :: _ :: _ => rw [hb] at hl; simp at hl; omega
set_option maxRecDepth 100000 in
set_option maxHeartbeats 1000000 in
theorem isMark_any (s : ByteArray) (w : World) :
    Calls Tryz.prog 59 #[.string s] w fun e w' => e = .returned (.bool (markL (bl s))) ∧ w = w' := by
  by_cases h : 1 < s.size
  · have hI : (1 : Int) < s.size := by omega
    have h0 : 0 < s.size := by omega
    rw [mark_at s h]
    obtain ⟨x, hx⟩ : ∃ x, s[0]'h0 = x := ⟨_, rfl⟩
    obtain ⟨y, hy⟩ : ∃ y, s[1]'h = y := ⟨_, rfl⟩
    rw [hx, hy]
    have HL := Lib.hid (tisLetter_any y.toNat y.toNat_lt)
    obtain ⟨z, hz⟩ : ∃ z, isLet y.toNat = z := ⟨_, rfl⟩
    rw [hz] at HL
    rw [hz]
    clear hz
    go_enter Tryz.func59, Tryz.ntmps59
    go_big_wp2_with (go_at_call 61; refine (HL.out _).mono ?_; rintro e w1 ⟨rfl, rfl⟩)
    all_goals (go_ret; refine ⟨ret1_eq (congrArg Value.bool ?_), rfl⟩; simp_all)
  · have hI : ¬ (1 : Int) < s.size := by omega
    rw [mark_short s h]
    go_enter Tryz.func59, Tryz.ntmps59
    go_wp2
    go_ret
    exact ⟨rfl, rfl⟩
end Go.Proofs.YtfjphhmbnhglcaaGreatDoor
