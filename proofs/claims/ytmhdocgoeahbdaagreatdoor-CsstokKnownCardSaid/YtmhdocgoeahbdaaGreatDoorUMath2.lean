/-
  The parts of a text; how far the beginning of an ill-formed part goes. No conditions.
-/
import Derived.Test.YtmhdocgoeahbdaaGreatDoorUMath
namespace Go.UtfKit
open Go Go.Lib

theorem full2 (b0 b1 : Nat) : fullN 2 b0 b1 0 = (decide (sizeT b0 ≤ 2) || !sec b0 b1) := by simp [fullN]
theorem full3 (b0 b1 b2 : Nat) : fullN 3 b0 b1 b2 = (decide (sizeT b0 ≤ 3) || !sec b0 b1 || !tailB b2) := by simp [fullN]

/-- What a part is, by its first byte. -/
theorem cut_cases (n b0 b1 b2 b3 : Nat) :
    (sizeT b0 ≤ 1 ∧ (cutN n b0 b1 b2 b3).len = 1) ∨
    (sizeT b0 = 2 ∧ (((1 < n ∧ sec b0 b1 = true) ∧ (cutN n b0 b1 b2 b3).ok = true ∧ (cutN n b0 b1 b2 b3).len = 2) ∨ (¬ (1 < n ∧ sec b0 b1 = true) ∧ (cutN n b0 b1 b2 b3).ok = false ∧ (cutN n b0 b1 b2 b3).len = 1))) ∨
    (sizeT b0 = 3 ∧ (((1 < n ∧ sec b0 b1 = true) ∧ (2 < n ∧ tailB b2 = true) ∧ (cutN n b0 b1 b2 b3).ok = true ∧ (cutN n b0 b1 b2 b3).len = 3) ∨
      ((1 < n ∧ sec b0 b1 = true) ∧ ¬ (2 < n ∧ tailB b2 = true) ∧ (cutN n b0 b1 b2 b3).ok = false ∧ (cutN n b0 b1 b2 b3).len = 2) ∨ (¬ (1 < n ∧ sec b0 b1 = true) ∧ (cutN n b0 b1 b2 b3).ok = false ∧ (cutN n b0 b1 b2 b3).len = 1))) ∨
    (sizeT b0 = 4 ∧ (((1 < n ∧ sec b0 b1 = true) ∧ (2 < n ∧ tailB b2 = true) ∧ (3 < n ∧ tailB b3 = true) ∧ (cutN n b0 b1 b2 b3).ok = true ∧ (cutN n b0 b1 b2 b3).len = 4) ∨
      ((1 < n ∧ sec b0 b1 = true) ∧ (2 < n ∧ tailB b2 = true) ∧ ¬ (3 < n ∧ tailB b3 = true) ∧ (cutN n b0 b1 b2 b3).ok = false ∧ (cutN n b0 b1 b2 b3).len = 3) ∨
      ((1 < n ∧ sec b0 b1 = true) ∧ ¬ (2 < n ∧ tailB b2 = true) ∧ (cutN n b0 b1 b2 b3).ok = false ∧ (cutN n b0 b1 b2 b3).len = 2) ∨ (¬ (1 < n ∧ sec b0 b1 = true) ∧ (cutN n b0 b1 b2 b3).ok = false ∧ (cutN n b0 b1 b2 b3).len = 1))) := by
  by_cases c1 : b0 < 128
  · exact .inl ⟨by simp [sizeT, c1], by simp [cutN, c1]⟩
  by_cases c2 : b0 < 194
  · exact .inl ⟨by simp [sizeT, c1, c2], by simp [cutN, c1, c2]⟩
  by_cases c3 : b0 < 224
  · refine .inr (.inl ⟨by simp [sizeT, c1, c2, c3], ?_⟩)
    by_cases h : 1 < n ∧ sec b0 b1 = true
    · exact .inl ⟨h, by simp only [cutN, c1, c2, c3, if_true, if_false, if_pos h], by simp only [cutN, c1, c2, c3, if_true, if_false, if_pos h]⟩
    · exact .inr ⟨h, by simp only [cutN, c1, c2, c3, if_true, if_false, if_neg h], by simp only [cutN, c1, c2, c3, if_true, if_false, if_neg h]⟩
  by_cases c4 : b0 < 240
  · refine .inr (.inr (.inl ⟨by simp [sizeT, c1, c2, c3, c4], ?_⟩))
    by_cases h : 1 < n ∧ sec b0 b1 = true
    · by_cases h2 : 2 < n ∧ tailB b2 = true
      · exact .inl ⟨h, h2, by simp only [cutN, c1, c2, c3, c4, if_true, if_false, if_pos h, if_pos h2], by simp only [cutN, c1, c2, c3, c4, if_true, if_false, if_pos h, if_pos h2]⟩
      · exact .inr (.inl ⟨h, h2, by simp only [cutN, c1, c2, c3, c4, if_true, if_false, if_pos h, if_neg h2], by simp only [cutN, c1, c2, c3, c4, if_true, if_false, if_pos h, if_neg h2]⟩)
    · exact .inr (.inr ⟨h, by simp only [cutN, c1, c2, c3, c4, if_true, if_false, if_neg h], by simp only [cutN, c1, c2, c3, c4, if_true, if_false, if_neg h]⟩)
  by_cases c5 : b0 < 245
  · refine .inr (.inr (.inr ⟨by simp [sizeT, c1, c2, c3, c4, c5], ?_⟩))
    by_cases h : 1 < n ∧ sec b0 b1 = true
    · by_cases h2 : 2 < n ∧ tailB b2 = true
      · by_cases h3 : 3 < n ∧ tailB b3 = true
        · exact .inl ⟨h, h2, h3, by simp only [cutN, c1, c2, c3, c4, c5, if_true, if_false, if_pos h, if_pos h2, if_pos h3], by simp only [cutN, c1, c2, c3, c4, c5, if_true, if_false, if_pos h, if_pos h2, if_pos h3]⟩
        · exact .inr (.inl ⟨h, h2, h3, by simp only [cutN, c1, c2, c3, c4, c5, if_true, if_false, if_pos h, if_pos h2, if_neg h3], by simp only [cutN, c1, c2, c3, c4, c5, if_true, if_false, if_pos h, if_pos h2, if_neg h3]⟩)
      · exact .inr (.inr (.inl ⟨h, h2, by simp only [cutN, c1, c2, c3, c4, c5, if_true, if_false, if_pos h, if_neg h2], by simp only [cutN, c1, c2, c3, c4, c5, if_true, if_false, if_pos h, if_neg h2]⟩))
    · exact .inr (.inr (.inr ⟨h, by simp only [cutN, c1, c2, c3, c4, c5, if_true, if_false, if_neg h], by simp only [cutN, c1, c2, c3, c4, c5, if_true, if_false, if_neg h]⟩))
  · exact .inl ⟨by simp [sizeT, c1, c2, c3, c4, c5], by simp [cutN, c1, c2, c3, c4, c5]⟩

/-- The beginning of an ill-formed part is the part; that of a well-formed one goes no further than it. -/
theorem beg_cut (n b0 b1 b2 b3 : Nat) : ((cutN n b0 b1 b2 b3).ok = false → begN n b0 b1 b2 = (cutN n b0 b1 b2 b3).len) ∧ begN n b0 b1 b2 ≤ (cutN n b0 b1 b2 b3).len := by
  unfold begN
  rw [full2, full3]
  rcases cut_cases n b0 b1 b2 b3 with ⟨hs, hl⟩ | ⟨hs, ⟨⟨h1, h1'⟩, ho, hl⟩ | ⟨h1, ho, hl⟩⟩ | ⟨hs, ⟨⟨h1, h1'⟩, ⟨h2, h2'⟩, ho, hl⟩ | ⟨⟨h1, h1'⟩, h2, ho, hl⟩ | ⟨h1, ho, hl⟩⟩ | ⟨hs, ⟨⟨h1, h1'⟩, ⟨h2, h2'⟩, ⟨h3, h3'⟩, ho, hl⟩ | ⟨⟨h1, h1'⟩, ⟨h2, h2'⟩, h3, ho, hl⟩ | ⟨⟨h1, h1'⟩, h2, ho, hl⟩ | ⟨h1, ho, hl⟩⟩
  · rw [hl]
    have : sizeT b0 ≤ 2 := by omega
    simp [this]
  all_goals rw [hl, ho, hs]
  · simp
  · simp
  · simp [h1, h1', h2, h2']
  · simp [h1, h1']
  · have h : ¬ (1 < n ∧ (decide (3 ≤ 2) || !sec b0 b1) = false) := fun e => h1 ⟨e.1, by simpa using e.2⟩
    rw [if_neg h]; simp
  · simp [h1, h1', h2, h2']
  · simp [h1, h1', h2, h2']
  · have h : ¬ (2 < n ∧ (decide (4 ≤ 3) || !sec b0 b1 || !tailB b2) = false) := fun e => h2 ⟨e.1, by simpa [h1'] using e.2⟩
    rw [if_neg h]; simp [h1, h1']
  · have h : ¬ (1 < n ∧ (decide (4 ≤ 2) || !sec b0 b1) = false) := fun e => h1 ⟨e.1, by simpa using e.2⟩
    rw [if_neg h]; simp

theorem sec_tail {a b : Nat} (h : sec a b = true) : 128 ≤ b ∧ b ≤ 191 := by
  unfold sec at h
  repeat' split at h
  all_goals simp at h; omega

theorem cut_len (n b0 b1 b2 b3 : Nat) (hn : 1 ≤ n) : 1 ≤ (cutN n b0 b1 b2 b3).len ∧ (cutN n b0 b1 b2 b3).len ≤ n := by
  rcases cut_cases n b0 b1 b2 b3 with ⟨hs, hl⟩ | ⟨hs, ⟨⟨h1, h1'⟩, ho, hl⟩ | ⟨h1, ho, hl⟩⟩ | ⟨hs, ⟨⟨h1, h1'⟩, ⟨h2, h2'⟩, ho, hl⟩ | ⟨⟨h1, h1'⟩, h2, ho, hl⟩ | ⟨h1, ho, hl⟩⟩ | ⟨hs, ⟨⟨h1, h1'⟩, ⟨h2, h2'⟩, ⟨h3, h3'⟩, ho, hl⟩ | ⟨⟨h1, h1'⟩, ⟨h2, h2'⟩, h3, ho, hl⟩ | ⟨⟨h1, h1'⟩, h2, ho, hl⟩ | ⟨h1, ho, hl⟩⟩
  all_goals omega

/-- The bytes of an ill-formed part behind its first one begin no part. -/
theorem cut_tails (n b0 b1 b2 b3 : Nat) (h : (cutN n b0 b1 b2 b3).ok = false) : (2 ≤ (cutN n b0 b1 b2 b3).len → 128 ≤ b1 ∧ b1 ≤ 191) ∧ (3 ≤ (cutN n b0 b1 b2 b3).len → 128 ≤ b2 ∧ b2 ≤ 191) ∧ (cutN n b0 b1 b2 b3).len ≤ 3 := by
  rcases cut_cases n b0 b1 b2 b3 with ⟨hs, hl⟩ | ⟨hs, ⟨⟨h1, h1'⟩, ho, hl⟩ | ⟨h1, ho, hl⟩⟩ | ⟨hs, ⟨⟨h1, h1'⟩, ⟨h2, h2'⟩, ho, hl⟩ | ⟨⟨h1, h1'⟩, h2, ho, hl⟩ | ⟨h1, ho, hl⟩⟩ | ⟨hs, ⟨⟨h1, h1'⟩, ⟨h2, h2'⟩, ⟨h3, h3'⟩, ho, hl⟩ | ⟨⟨h1, h1'⟩, ⟨h2, h2'⟩, h3, ho, hl⟩ | ⟨⟨h1, h1'⟩, h2, ho, hl⟩ | ⟨h1, ho, hl⟩⟩
  all_goals rw [hl]
  all_goals first | (rw [ho] at h; cases h; done) | skip
  all_goals refine ⟨fun hh => ?_, fun hh => ?_, by omega⟩
  all_goals first | omega | exact sec_tail h1' | (simpa [tailB] using h2')

theorem cut_char_bad (n b0 b1 b2 b3 : Nat) (h : (cutN n b0 b1 b2 b3).ok = false) : (cutN n b0 b1 b2 b3).char = 65533 := by
  unfold cutN at h ⊢
  repeat' split
  all_goals first | rfl | (exfalso; simp_all; done)

def byteAt (s : ByteArray) (i : Nat) : Nat := (s.get! i).toNat
theorem byteAt_lt (s : ByteArray) (i : Nat) : byteAt s i < 256 := (s.get! i).toNat_lt
def cutAt (s : ByteArray) (i : Nat) : Part := cutN (s.size - i) (byteAt s i) (byteAt s (i + 1)) (byteAt s (i + 2)) (byteAt s (i + 3))
def begAt (s : ByteArray) (i : Nat) : Nat := begN (s.size - i) (byteAt s i) (byteAt s (i + 1)) (byteAt s (i + 2))

theorem decode_at_cut (s : ByteArray) (i : Nat) : Utf8.decode s i = if (cutAt s i).ok = true then ((cutAt s i).char, (cutAt s i).len) else (65533, 1) := by
  rw [decode_at]
  exact decode_cut _ _ _ _ _ (byteAt_lt _ _) (byteAt_lt _ _) (byteAt_lt _ _) (byteAt_lt _ _)
theorem decode_tail (s : ByteArray) (i : Nat) (h : 128 ≤ byteAt s i ∧ byteAt s i ≤ 191) : Utf8.decode s i = (65533, 1) := by
  rw [decode_at_cut]
  have h1 : ¬ byteAt s i < 128 := by omega
  have h2 : byteAt s i < 194 := by omega
  have : (cutAt s i).ok = false := by simp only [cutAt, cutN, h1, h2, if_true, if_false]
  rw [this]; rfl
theorem cutAt_len (s : ByteArray) (i : Nat) (h : i < s.size) : 1 ≤ (cutAt s i).len ∧ i + (cutAt s i).len ≤ s.size := by
  have := cut_len (s.size - i) (byteAt s i) (byteAt s (i + 1)) (byteAt s (i + 2)) (byteAt s (i + 3)) (by omega)
  exact ⟨this.1, by have := this.2; unfold cutAt; omega⟩

/-- The parts from a place on. -/
def partsF (s : ByteArray) : Nat → Nat → List Part
  | 0, _ => []
  | f + 1, i => if i < s.size then cutAt s i :: partsF s f (i + (cutAt s i).len) else []
theorem partsF_more (s : ByteArray) : ∀ (f g i : Nat), s.size - i ≤ f → s.size - i ≤ g → partsF s f i = partsF s g i
  | 0, 0, _, _, _ => rfl
  | 0, g + 1, i, h, _ => by unfold partsF; rw [if_neg (by omega)]
  | f + 1, 0, i, _, h => by unfold partsF; rw [if_neg (by omega)]
  | f + 1, g + 1, i, hf, hg => by
    unfold partsF
    by_cases hi : i < s.size
    · have := cutAt_len s i hi
      rw [if_pos hi, if_pos hi, partsF_more s f g _ (by omega) (by omega)]
    · rw [if_neg hi, if_neg hi]
def partsFrom (s : ByteArray) (i : Nat) : List Part := partsF s (s.size - i) i
def parts (s : ByteArray) : List Part := partsFrom s 0
theorem partsFrom_step (s : ByteArray) (i : Nat) (h : i < s.size) : partsFrom s i = cutAt s i :: partsFrom s (i + (cutAt s i).len) := by
  unfold partsFrom
  obtain ⟨f, hf⟩ : ∃ f, s.size - i = f + 1 := ⟨s.size - i - 1, by omega⟩
  have := cutAt_len s i h
  rw [hf, partsF, if_pos h, partsF_more s f _ _ (by omega) (Nat.le_refl _)]
theorem partsFrom_end (s : ByteArray) (i : Nat) (h : s.size ≤ i) : partsFrom s i = [] := by
  unfold partsFrom
  rw [show s.size - i = 0 by omega]; rfl

/-- What is still to come while the language goes over a text byte by byte behind an ill-formed beginning. -/
structure Ahead (s : ByteArray) (pos broken : Nat) : Prop where
  inside : broken ≤ s.size
  tails : ∀ p, pos ≤ p → p < broken → 128 ≤ byteAt s p ∧ byteAt s p ≤ 191
theorem ahead_zero (s : ByteArray) : Ahead s 0 0 := ⟨Nat.zero_le _, fun p _ h => by omega⟩
theorem ahead_skip {s : ByteArray} {pos broken : Nat} (h : Ahead s pos broken) (hlt : pos < broken) : (Utf8.decode s pos).2 = 1 ∧ Ahead s (pos + 1) broken := by
  rw [decode_tail s pos (h.tails pos (Nat.le_refl _) hlt)]
  exact ⟨rfl, h.inside, fun p hp => h.tails p (by omega)⟩
theorem ahead_part {s : ByteArray} {pos : Nat} (hi : pos < s.size) :
    (Utf8.decode s pos).1 = (cutAt s pos).char ∧
    ((Utf8.decode s pos).1 = 65533 → Ahead s (pos + (Utf8.decode s pos).2) (pos + begAt s pos) ∧ max (pos + (Utf8.decode s pos).2) (pos + begAt s pos) = pos + (cutAt s pos).len) ∧
    ((Utf8.decode s pos).1 ≠ 65533 → (Utf8.decode s pos).2 = (cutAt s pos).len) := by
  have hl := cutAt_len s pos hi
  have hb := beg_cut (s.size - pos) (byteAt s pos) (byteAt s (pos + 1)) (byteAt s (pos + 2)) (byteAt s (pos + 3))
  change ((cutAt s pos).ok = false → begAt s pos = (cutAt s pos).len) ∧ begAt s pos ≤ (cutAt s pos).len at hb
  have ht := cut_tails (s.size - pos) (byteAt s pos) (byteAt s (pos + 1)) (byteAt s (pos + 2)) (byteAt s (pos + 3))
  change (cutAt s pos).ok = false → _ at ht
  have hc := cut_char_bad (s.size - pos) (byteAt s pos) (byteAt s (pos + 1)) (byteAt s (pos + 2)) (byteAt s (pos + 3))
  change (cutAt s pos).ok = false → (cutAt s pos).char = 65533 at hc
  rw [decode_at_cut]
  cases ho : (cutAt s pos).ok with
  | true =>
    refine ⟨rfl, fun _ => ⟨⟨by omega, fun p h1 h2 => ?_⟩, ?_⟩, fun _ => rfl⟩
    · simp only [if_true] at h1; omega
    · simp only [if_true]; omega
  | false =>
    obtain ⟨t1, t2, t3⟩ := ht ho
    rw [hb.1 ho]
    refine ⟨(hc ho).symm, fun _ => ⟨⟨hl.2, fun p h1 h2 => ?_⟩, ?_⟩, fun h => absurd rfl h⟩
    · simp only [Bool.false_eq_true, if_false] at h1
      change 2 ≤ (cutAt s pos).len → _ at t1
      change 3 ≤ (cutAt s pos).len → _ at t2
      change (cutAt s pos).len ≤ 3 at t3
      by_cases e : p = pos + 1
      · subst e; exact t1 (by omega)
      · obtain rfl : p = pos + 2 := by omega
        exact t2 (by omega)
    · simp only [Bool.false_eq_true, if_false]; omega
end Go.UtfKit

