/-
  What the cut's loop comes to is the part. No conditions.
-/
import Derived.Test.YtkfmfldkllkcbabDoorUCut2
namespace Go.Proofs.YtkfmfldkllkcbabDoor.U
open Go.RowKit Go.RunKit Go.UtfKit Go.Lib

theorem tailB_of_sec {a b : Nat} (h : sec a b = true) : tailB b = true := by
  obtain ⟨h1, h2⟩ := sec_tail h
  simp [tailB, h1, h2]
theorem tails_two (s : ByteArray) : Tails s 2 ↔ (1 < s.size ∧ sec (byteAt s 0) (byteAt s 1) = true) :=
  ⟨fun h => ⟨(h 1 (by omega) (by omega)).1, (h 1 (by omega) (by omega)).2.1 rfl⟩, fun h => tails_succ (by omega) (tails_one s) h.1 (fun _ => h.2) (tailB_of_sec h.2)⟩
theorem tails_more (s : ByteArray) (k : Nat) (hk : 2 ≤ k) : Tails s (k + 1) ↔ (Tails s k ∧ k < s.size ∧ tailB (byteAt s k) = true) :=
  ⟨fun h => ⟨fun j h1 h2 => h j h1 (by omega), (h k (by omega) (by omega)).1, (h k (by omega) (by omega)).2.2⟩, fun h => tails_succ (by omega) h.1 h.2.1 (fun e => by omega) h.2.2⟩
theorem sizeR_two {b : Nat} (h : sizeR b = 2) : ¬ b < 128 ∧ ¬ b < 194 ∧ b < 224 := by
  unfold sizeR at h
  repeat' split at h
  all_goals omega
theorem sizeR_three {b : Nat} (h : sizeR b = 3) : ¬ b < 128 ∧ ¬ b < 194 ∧ ¬ b < 224 ∧ b < 240 := by
  unfold sizeR at h
  repeat' split at h
  all_goals omega
theorem sizeR_four {b : Nat} (h : sizeR b = 4) : ¬ b < 128 ∧ ¬ b < 194 ∧ ¬ b < 224 ∧ ¬ b < 240 ∧ b < 245 := by
  unfold sizeR at h
  repeat' split at h
  all_goals omega
theorem sizeR_none {b : Nat} (h : sizeR b = 0) : ¬ b < 128 ∧ (b < 194 ∨ (¬ b < 194 ∧ ¬ b < 224 ∧ ¬ b < 240 ∧ ¬ b < 245)) := by
  unfold sizeR at h
  repeat' split at h
  all_goals omega
theorem sizeR_one {b : Nat} (h : sizeR b = 1) : b < 128 := by
  unfold sizeR at h
  repeat' split at h
  all_goals omega

theorem cutAt_zero (s : ByteArray) : cutAt s 0 = cutN s.size (byteAt s 0) (byteAt s 1) (byteAt s 2) (byteAt s 3) := rfl

theorem cut_bad {s : ByteArray} {n i : Nat} (hz : sizeR (byteAt s 0) = n) (hn : n = 2 ∨ n = 3 ∨ n = 4) (h1 : 1 ≤ i) (hi : i < n) (ht : Tails s i) (hf : ¬ Tails s (i + 1)) : cutAt s 0 = ⟨65533, i, false⟩ := by
  rw [cutAt_zero]
  unfold cutN
  by_cases i1 : i = 1
  · subst i1
    rw [tails_two] at hf
    rcases hn with rfl | rfl | rfl
    · obtain ⟨a, b, c⟩ := sizeR_two hz
      rw [if_neg a, if_neg b, if_pos c, if_neg hf]
    · obtain ⟨a, b, c, d⟩ := sizeR_three hz
      rw [if_neg a, if_neg b, if_neg c, if_pos d, if_neg hf]
    · obtain ⟨a, b, c, d, e⟩ := sizeR_four hz
      rw [if_neg a, if_neg b, if_neg c, if_neg d, if_pos e, if_neg hf]
  · by_cases i2 : i = 2
    · subst i2
      rw [tails_more s 2 (by omega)] at hf
      have hf2 : ¬ (2 < s.size ∧ tailB (byteAt s 2) = true) := fun h => hf ⟨ht, h⟩
      have ht2 := (tails_two s).1 ht
      rcases hn with rfl | rfl | rfl
      · omega
      · obtain ⟨a, b, c, d⟩ := sizeR_three hz
        rw [if_neg a, if_neg b, if_neg c, if_pos d, if_pos ht2, if_neg hf2]
      · obtain ⟨a, b, c, d, e⟩ := sizeR_four hz
        rw [if_neg a, if_neg b, if_neg c, if_neg d, if_pos e, if_pos ht2, if_neg hf2]
    · obtain rfl : i = 3 := by omega
      obtain rfl : n = 4 := by omega
      rw [tails_more s 3 (by omega)] at hf
      have hf3 : ¬ (3 < s.size ∧ tailB (byteAt s 3) = true) := fun h => hf ⟨ht, h⟩
      have ht3 := (tails_more s 2 (by omega)).1 ht
      have ht2 := (tails_two s).1 ht3.1
      obtain ⟨a, b, c, d, e⟩ := sizeR_four hz
      rw [if_neg a, if_neg b, if_neg c, if_neg d, if_pos e, if_pos ht2, if_pos ht3.2, if_neg hf3]

theorem cut_good {s : ByteArray} {n : Nat} (hz : sizeR (byteAt s 0) = n) (hn : n = 2 ∨ n = 3 ∨ n = 4) (ht : Tails s n) : cutAt s 0 = ⟨soFar s n n, n, true⟩ := by
  rw [cutAt_zero]
  unfold cutN
  rcases hn with rfl | rfl | rfl
  · have ht2 := (tails_two s).1 ht
    obtain ⟨a, b, c⟩ := sizeR_two hz
    rw [if_neg a, if_neg b, if_pos c, if_pos ht2]
    rfl
  · have ht3 := (tails_more s 2 (by omega)).1 ht
    have ht2 := (tails_two s).1 ht3.1
    obtain ⟨a, b, c, d⟩ := sizeR_three hz
    rw [if_neg a, if_neg b, if_neg c, if_pos d, if_pos ht2, if_pos ht3.2]
    have e : soFar s 3 3 = (byteAt s 0 % 16 * 64 + byteAt s 1 % 64) * 64 + byteAt s 2 % 64 := rfl
    rw [e]
    congr 1
    omega
  · have ht4 := (tails_more s 3 (by omega)).1 ht
    have ht3 := (tails_more s 2 (by omega)).1 ht4.1
    have ht2 := (tails_two s).1 ht3.1
    obtain ⟨a, b, c, d, e⟩ := sizeR_four hz
    rw [if_neg a, if_neg b, if_neg c, if_neg d, if_pos e, if_pos ht2, if_pos ht3.2, if_pos ht4.2]
    have e : soFar s 4 4 = ((byteAt s 0 % 8 * 64 + byteAt s 1 % 64) * 64 + byteAt s 2 % 64) * 64 + byteAt s 3 % 64 := rfl
    rw [e]
    congr 1
    omega
end Go.Proofs.YtkfmfldkllkcbabDoor.U

