/-
  The parts of a text; how far the beginning of an ill-formed part goes. No conditions.
-/
import Derived.Test.YtkfmfldkllkcbabDoorUMath
namespace Go.UtfKit
open Go Go.Lib

/-- What a part is, by its first byte. -/
theorem cut_cases (n b0 b1 b2 b3 : Nat) :
    (sizeT b0 ≤ 1 ∧ (cutN n b0 b1 b2 b3).len = 1) ∨
    (sizeT b0 = 2 ∧ (((1 < n ∧ sec b0 b1 = true) ∧ (cutN n b0 b1 b2 b3).ok = true ∧ (cutN n b0 b1 b2 b3).len = 2) ∨ (¬ (1 < n ∧ sec b0 b1 = true) ∧ (cutN n b0 b1 b2 b3).ok = false ∧ (cutN n b0 b1 b2 b3).len = 1))) ∨
    (sizeT b0 = 3 ∧ (((1 < n ∧ sec b0 b1 = true) ∧ (2 < n ∧ tailB b2 = true) ∧ (cutN n b0 b1 b2 b3).ok = true ∧ (cutN n b0 b1 b2 b3).len = 3) ∨
      ((1 < n ∧ sec b0 b1 = true) ∧ ¬ (2 < n ∧ tailB b2 = true) ∧ (cutN n b0 b1 b2 b3).ok = false ∧ (cutN n b0 b1 b2 b3).len = 2) ∨ (¬ (1 < n ∧ sec b0 b1 = true) ∧ (cutN n b0 b1 b2 b3).ok = false ∧ (cutN n b0 b1 b2 b3).len = 1))) ∨
    (sizeT b0 = 4 ∧ (((1 < n ∧ sec b0 b1 = true) ∧ (2 < n ∧ tailB b2 = true) ∧ (3 < n ∧ tailB b3 = true) ∧ (cutN n b0 b1 b2 b3).ok = true ∧ (cutN n b0 b1 b2 b3).len = 4) ∨
      ((1 < n ∧ sec b0 b1 = true) ∧ (2 < n ∧ tailB b2 = true) ∧ ¬ (3 < n ∧ tailB b3 = true) ∧ (cutN n b0 b1 b2 b3).ok = false ∧ (cutN n b0 b1 b2 b3).len = 3) ∨
      ((1 < n ∧ sec b0 b1 = true) ∧ ¬ (2 < n ∧ tailB b2 = true) ∧ (cutN n b0 b1 b2 b3).ok = false ∧ (cutN n b0 b1 b2 b3).len = 2) ∨ (¬ (1 < n ∧ sec b0 b1 = true) ∧ (cutN n b0 b1 b2 b3).ok = false ∧ (cutN n b0 b1 b2 b3).len = 1))) := by
  by_cases c1 : b0 < 128
  · exact .inl ⟨by simp [sizeT, c1], by simp [cutN, c1]⟩
  by_cases c2 : b0 < 194
  · exact .inl ⟨by simp [sizeT, c1, c2], by simp [cutN, c1, c2]⟩
  by_cases c3 : b0 < 224
  · refine .inr (.inl ⟨by simp [sizeT, c1, c2, c3], ?_⟩)
    by_cases h : 1 < n ∧ sec b0 b1 = true
    · exact .inl ⟨h, by simp only [cutN, c1, c2, c3, if_true, if_false, if_pos h], by simp only [cutN, c1, c2, c3, if_true, if_false, if_pos h]⟩
    · exact .inr ⟨h, by simp only [cutN, c1, c2, c3, if_true, if_false, if_neg h], by simp only [cutN, c1, c2, c3, if_true, if_false, if_neg h]⟩
  by_cases c4 : b0 < 240
  · refine .inr (.inr (.inl ⟨by simp [sizeT, c1, c2, c3, c4], ?_⟩))
    by_cases h : 1 < n ∧ sec b0 b1 = true
    · by_cases h2 : 2 < n ∧ tailB b2 = true
      · exact .inl ⟨h, h2, by simp only [cutN, c1, c2, c3, c4, if_true, if_false, if_pos h, if_pos h2], by simp only [cutN, c1, c2, c3, c4, if_true, if_false, if_pos h, if_pos h2]⟩
      · exact .inr (.inl ⟨h, h2, by simp only [cutN, c1, c2, c3, c4, if_true, if_false, if_pos h, if_neg h2], by simp only [cutN, c1, c2, c3, c4, if_true, if_false, if_pos h, if_neg h2]⟩)
    · exact .inr (.inr ⟨h, by simp only [cutN, c1, c2, c3, c4, if_true, if_false, if_neg h], by simp only [cutN, c1, c2, c3, c4, if_true, if_false, if_neg h]⟩)
  by_cases c5 : b0 < 245
  · refine .inr (.inr (.inr ⟨by simp [sizeT, c1, c2, c3, c4, c5], ?_⟩))
    by_cases h : 1 < n ∧ sec b0 b1 = true
    · by_cases h2 : 2 < n ∧ tailB b2 = true
      · by_cases h3 : 3 < n ∧ tailB b3 = true
        · exact .inl ⟨h, h2, h3, by simp only [cutN, c1, c2, c3, c4, c5, if_true, if_false, if_pos h, if_pos h2, if_pos h3], by simp only [cutN, c1, c2, c3, c4, c5, if_true, if_false, if_pos h, if_pos h2, if_pos h3]⟩
        · exact .inr (.inl ⟨h, h2, h3, by simp only [cutN, c1, c2, c3, c4, c5, if_true, if_false, if_pos h, if_pos h2, if_neg h3], by simp only [cutN, c1, c2, c3, c4, c5, if_true, if_false, if_pos h, if_pos h2, if_neg h3]⟩)
      · exact .inr (.inr (.inl ⟨h, h2, by simp only [cutN, c1, c2, c3, c4, c5, if_true, if_false, if_pos h, if_neg h2], by simp only [cutN, c1, c2, c3, c4, c5, if_true, if_false, if_pos h, if_neg h2]⟩))
    · exact .inr (.inr (.inr ⟨h, by simp only [cutN, c1, c2, c3, c4, c5, if_true, if_false, if_neg h], by simp only [cutN, c1, c2, c3, c4, c5, if_true, if_false, if_neg h]⟩))
  · exact .inl ⟨by simp [sizeT, c1, c2, c3, c4, c5], by simp [cutN, c1, c2, c3, c4, c5]⟩

theorem sec_tail {a b : Nat} (h : sec a b = true) : 128 ≤ b ∧ b ≤ 191 := by
  unfold sec at h
  repeat' split at h
  all_goals simp at h; omega

theorem cut_len (n b0 b1 b2 b3 : Nat) (hn : 1 ≤ n) : 1 ≤ (cutN n b0 b1 b2 b3).len ∧ (cutN n b0 b1 b2 b3).len ≤ n := by
  rcases cut_cases n b0 b1 b2 b3 with ⟨hs, hl⟩ | ⟨hs, ⟨⟨h1, h1'⟩, ho, hl⟩ | ⟨h1, ho, hl⟩⟩ | ⟨hs, ⟨⟨h1, h1'⟩, ⟨h2, h2'⟩, ho, hl⟩ | ⟨⟨h1, h1'⟩, h2, ho, hl⟩ | ⟨h1, ho, hl⟩⟩ | ⟨hs, ⟨⟨h1, h1'⟩, ⟨h2, h2'⟩, ⟨h3, h3'⟩, ho, hl⟩ | ⟨⟨h1, h1'⟩, ⟨h2, h2'⟩, h3, ho, hl⟩ | ⟨⟨h1, h1'⟩, h2, ho, hl⟩ | ⟨h1, ho, hl⟩⟩
  all_goals omega

def byteAt (s : ByteArray) (i : Nat) : Nat := (s.get! i).toNat
theorem byteAt_lt (s : ByteArray) (i : Nat) : byteAt s i < 256 := (s.get! i).toNat_lt
def cutAt (s : ByteArray) (i : Nat) : Part := cutN (s.size - i) (byteAt s i) (byteAt s (i + 1)) (byteAt s (i + 2)) (byteAt s (i + 3))
theorem decode_at_cut (s : ByteArray) (i : Nat) : Utf8.decode s i = if (cutAt s i).ok = true then ((cutAt s i).char, (cutAt s i).len) else (65533, 1) := by
  rw [decode_at]
  exact decode_cut _ _ _ _ _ (byteAt_lt _ _) (byteAt_lt _ _) (byteAt_lt _ _) (byteAt_lt _ _)
theorem cutAt_len (s : ByteArray) (i : Nat) (h : i < s.size) : 1 ≤ (cutAt s i).len ∧ i + (cutAt s i).len ≤ s.size := by
  have := cut_len (s.size - i) (byteAt s i) (byteAt s (i + 1)) (byteAt s (i + 2)) (byteAt s (i + 3)) (by omega)
  exact ⟨this.1, by have := this.2; unfold cutAt; omega⟩

/-- The parts from a place on. -/
def partsF (s : ByteArray) : Nat → Nat → List Part
  | 0, _ => []
  | f + 1, i => if i < s.size then cutAt s i :: partsF s f (i + (cutAt s i).len) else []
theorem partsF_more (s : ByteArray) : ∀ (f g i : Nat), s.size - i ≤ f → s.size - i ≤ g → partsF s f i = partsF s g i
  | 0, 0, _, _, _ => rfl
  | 0, g + 1, i, h, _ => by unfold partsF; rw [if_neg (by omega)]
  | f + 1, 0, i, _, h => by unfold partsF; rw [if_neg (by omega)]
  | f + 1, g + 1, i, hf, hg => by
    unfold partsF
    by_cases hi : i < s.size
    · have := cutAt_len s i hi
      rw [if_pos hi, if_pos hi, partsF_more s f g _ (by omega) (by omega)]
    · rw [if_neg hi, if_neg hi]
def partsFrom (s : ByteArray) (i : Nat) : List Part := partsF s (s.size - i) i
def parts (s : ByteArray) : List Part := partsFrom s 0
theorem partsFrom_step (s : ByteArray) (i : Nat) (h : i < s.size) : partsFrom s i = cutAt s i :: partsFrom s (i + (cutAt s i).len) := by
  unfold partsFrom
  obtain ⟨f, hf⟩ : ∃ f, s.size - i = f + 1 := ⟨s.size - i - 1, by omega⟩
  have := cutAt_len s i h
  rw [hf, partsF, if_pos h, partsF_more s f _ _ (by omega) (Nat.le_refl _)]
theorem partsFrom_end (s : ByteArray) (i : Nat) (h : s.size ≤ i) : partsFrom s i = [] := by
  unfold partsFrom
  rw [show s.size - i = 0 by omega]; rfl

end Go.UtfKit

