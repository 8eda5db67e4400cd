/-
  How bytes are cut into parts: the document's way, beside the model's own decoding. No conditions.
  The parts of a text; how far the beginning of an ill-formed part goes. No conditions.
  Parts of what was encoded; parts of two texts, one behind the other; how many bytes begin a part. No conditions.
  A run of a function by the kernel, over a world that stays a variable: 'runCode' goes through the code step by step; what it comes to holds of 'Calls'. No conditions.
  Small lemmas for walks: what stands at a place of a list, the first that fits, results of two and three parts. No conditions.
  utf8.FullRuneInString: whether bytes begin with a whole part. Conditions: the library's two tables hold what its text lays.
  How far the beginning of an ill-formed part goes: beginningLen of utf. Conditions: the library's two tables hold what its text lays.
-/
import Derived.Lib.DecodeN
import Derived.Lib.RuneCount
import Derived.Lib.RuneBytes
import Derived.WalkKit
import Derived.WalkSpells
import Derived.WalkLawsBesides
import Derived.Deep.QuietTactic
import Derived.BigQuiet
import Derived.Lib.Hide
import Derived.WalkSmall
import Derived.Test.YtnfkndaggcklkaaGreatDoorRows
namespace Go.UtfKit
open Go Go.Lib

/-- May b be the second byte behind a? -/
def sec (a b : Nat) : Bool :=
  if a = 224 then decide (160 ≤ b ∧ b ≤ 191) else if a = 237 then decide (128 ≤ b ∧ b ≤ 159) else if a = 240 then decide (144 ≤ b ∧ b ≤ 191) else if a = 244 then decide (128 ≤ b ∧ b ≤ 143) else decide (128 ≤ b ∧ b ≤ 191)
def tailB (b : Nat) : Bool := decide (128 ≤ b ∧ b ≤ 191)

/-- A part: its character, how many bytes, whether it is well-formed. -/
structure Part where
  char : Nat
  len : Nat
  ok : Bool
  deriving DecidableEq

def cutN (n b0 b1 b2 b3 : Nat) : Part :=
  if b0 < 128 then ⟨b0, 1, true⟩
  else if b0 < 194 then ⟨65533, 1, false⟩
  else if b0 < 224 then
    if 1 < n ∧ sec b0 b1 = true then ⟨b0 % 32 * 64 + b1 % 64, 2, true⟩ else ⟨65533, 1, false⟩
  else if b0 < 240 then
    if 1 < n ∧ sec b0 b1 = true then
      if 2 < n ∧ tailB b2 = true then ⟨b0 % 16 * 4096 + b1 % 64 * 64 + b2 % 64, 3, true⟩ else ⟨65533, 2, false⟩
    else ⟨65533, 1, false⟩
  else if b0 < 245 then
    if 1 < n ∧ sec b0 b1 = true then
      if 2 < n ∧ tailB b2 = true then
        if 3 < n ∧ tailB b3 = true then ⟨b0 % 8 * 262144 + b1 % 64 * 4096 + b2 % 64 * 64 + b3 % 64, 4, true⟩ else ⟨65533, 3, false⟩
      else ⟨65533, 2, false⟩
    else ⟨65533, 1, false⟩
  else ⟨65533, 1, false⟩

/-- How many bytes the first one asks for (Go's table). -/
def sizeT (b : Nat) : Nat := if b < 128 then 0 else if b < 194 then 1 else if b < 224 then 2 else if b < 240 then 3 else if b < 245 then 4 else 1
/-- utf8.FullRuneInString of n bytes that begin so. -/
def fullN (n b0 b1 b2 : Nat) : Bool := decide (0 < n) && (decide (sizeT b0 ≤ n) || (decide (1 < n) && !sec b0 b1) || (decide (2 < n) && !tailB b2))
/-- beginningLen of n bytes that begin so. -/
def begN (n b0 b1 b2 : Nat) : Nat :=
  if 1 < n ∧ fullN 2 b0 b1 0 = false then
    if 2 < n ∧ fullN 3 b0 b1 b2 = false then 3 else 2
  else 1

set_option maxRecDepth 100000 in
set_option maxHeartbeats 4000000 in
theorem decode_cut (n b0 b1 b2 b3 : Nat) (h0 : b0 < 256) (h1 : b1 < 256) (h2 : b2 < 256) (h3 : b3 < 256) :
    decodeN n b0 b1 b2 b3 = if (cutN n b0 b1 b2 b3).ok = true then ((cutN n b0 b1 b2 b3).char, (cutN n b0 b1 b2 b3).len) else (65533, 1) := by
  by_cases c1 : b0 < 128
  · simp [decodeN, cutN, c1]
  by_cases c2 : b0 < 194
  · simp only [cutN, c1, c2, if_true, if_false]
    unfold decodeN
    repeat' split
    all_goals first | rfl | (exfalso; omega) | (simp at *; done)
  by_cases c3 : b0 < 224
  · have hs : sec b0 b1 = decide (128 ≤ b1 ∧ b1 ≤ 191) := by unfold sec; rw [if_neg (by omega), if_neg (by omega), if_neg (by omega), if_neg (by omega)]
    simp only [cutN, c1, c2, c3, if_true, if_false, hs, decide_eq_true_eq]
    unfold decodeN
    repeat' split
    all_goals first | rfl | (exfalso; omega) | (simp at *; done) | (exfalso; simp at *; omega)
  by_cases c4 : b0 < 240
  · simp only [cutN, c1, c2, c3, c4, if_true, if_false, sec, tailB, decide_eq_true_eq]
    unfold decodeN
    repeat' split
    all_goals first | rfl | (exfalso; simp at *; omega) | (exfalso; omega) | (simp at *; done)
  by_cases c5 : b0 < 245
  · simp only [cutN, c1, c2, c3, c4, c5, if_true, if_false, sec, tailB, decide_eq_true_eq]
    unfold decodeN
    repeat' split
    all_goals first | rfl | (exfalso; simp at *; omega) | (exfalso; omega) | (simp at *; done)
  · simp only [cutN, c1, c2, c3, c4, c5, if_false]
    unfold decodeN
    repeat' split
    all_goals first | rfl | (exfalso; omega) | (simp at *; done)
end Go.UtfKit

namespace Go.UtfKit
open Go Go.Lib

theorem full2 (b0 b1 : Nat) : fullN 2 b0 b1 0 = (decide (sizeT b0 ≤ 2) || !sec b0 b1) := by simp [fullN]
theorem full3 (b0 b1 b2 : Nat) : fullN 3 b0 b1 b2 = (decide (sizeT b0 ≤ 3) || !sec b0 b1 || !tailB b2) := by simp [fullN]

/-- What a part is, by its first byte. -/
theorem cut_cases (n b0 b1 b2 b3 : Nat) :
    (sizeT b0 ≤ 1 ∧ (cutN n b0 b1 b2 b3).len = 1) ∨
    (sizeT b0 = 2 ∧ (((1 < n ∧ sec b0 b1 = true) ∧ (cutN n b0 b1 b2 b3).ok = true ∧ (cutN n b0 b1 b2 b3).len = 2) ∨ (¬ (1 < n ∧ sec b0 b1 = true) ∧ (cutN n b0 b1 b2 b3).ok = false ∧ (cutN n b0 b1 b2 b3).len = 1))) ∨
    (sizeT b0 = 3 ∧ (((1 < n ∧ sec b0 b1 = true) ∧ (2 < n ∧ tailB b2 = true) ∧ (cutN n b0 b1 b2 b3).ok = true ∧ (cutN n b0 b1 b2 b3).len = 3) ∨
      ((1 < n ∧ sec b0 b1 = true) ∧ ¬ (2 < n ∧ tailB b2 = true) ∧ (cutN n b0 b1 b2 b3).ok = false ∧ (cutN n b0 b1 b2 b3).len = 2) ∨ (¬ (1 < n ∧ sec b0 b1 = true) ∧ (cutN n b0 b1 b2 b3).ok = false ∧ (cutN n b0 b1 b2 b3).len = 1))) ∨
    (sizeT b0 = 4 ∧ (((1 < n ∧ sec b0 b1 = true) ∧ (2 < n ∧ tailB b2 = true) ∧ (3 < n ∧ tailB b3 = true) ∧ (cutN n b0 b1 b2 b3).ok = true ∧ (cutN n b0 b1 b2 b3).len = 4) ∨
      ((1 < n ∧ sec b0 b1 = true) ∧ (2 < n ∧ tailB b2 = true) ∧ ¬ (3 < n ∧ tailB b3 = true) ∧ (cutN n b0 b1 b2 b3).ok = false ∧ (cutN n b0 b1 b2 b3).len = 3) ∨
      ((1 < n ∧ sec b0 b1 = true) ∧ ¬ (2 < n ∧ tailB b2 = true) ∧ (cutN n b0 b1 b2 b3).ok = false ∧ (cutN n b0 b1 b2 b3).len = 2) ∨ (¬ (1 < n ∧ sec b0 b1 = true) ∧ (cutN n b0 b1 b2 b3).ok = false ∧ (cutN n b0 b1 b2 b3).len = 1))) := by
  by_cases c1 : b0 < 128
  · exact .inl ⟨by simp [sizeT, c1], by simp [cutN, c1]⟩
  by_cases c2 : b0 < 194
  · exact .inl ⟨by simp [sizeT, c1, c2], by simp [cutN, c1, c2]⟩
  by_cases c3 : b0 < 224
  · refine .inr (.inl ⟨by simp [sizeT, c1, c2, c3], ?_⟩)
    by_cases h : 1 < n ∧ sec b0 b1 = true
    · exact .inl ⟨h, by simp only [cutN, c1, c2, c3, if_true, if_false, if_pos h], by simp only [cutN, c1, c2, c3, if_true, if_false, if_pos h]⟩
    · exact .inr ⟨h, by simp only [cutN, c1, c2, c3, if_true, if_false, if_neg h], by simp only [cutN, c1, c2, c3, if_true, if_false, if_neg h]⟩
  by_cases c4 : b0 < 240
  · refine .inr (.inr (.inl ⟨by simp [sizeT, c1, c2, c3, c4], ?_⟩))
    by_cases h : 1 < n ∧ sec b0 b1 = true
    · by_cases h2 : 2 < n ∧ tailB b2 = true
      · exact .inl ⟨h, h2, by simp only [cutN, c1, c2, c3, c4, if_true, if_false, if_pos h, if_pos h2], by simp only [cutN, c1, c2, c3, c4, if_true, if_false, if_pos h, if_pos h2]⟩
      · exact .inr (.inl ⟨h, h2, by simp only [cutN, c1, c2, c3, c4, if_true, if_false, if_pos h, if_neg h2], by simp only [cutN, c1, c2, c3, c4, if_true, if_false, if_pos h, if_neg h2]⟩)
    · exact .inr (.inr ⟨h, by simp only [cutN, c1, c2, c3, c4, if_true, if_false, if_neg h], by simp only [cutN, c1, c2, c3, c4, if_true, if_false, if_neg h]⟩)
  by_cases c5 : b0 < 245
  · refine .inr (.inr (.inr ⟨by simp [sizeT, c1, c2, c3, c4, c5], ?_⟩))
    by_cases h : 1 < n ∧ sec b0 b1 = true
    · by_cases h2 : 2 < n ∧ tailB b2 = true
      · by_cases h3 : 3 < n ∧ tailB b3 = true
        · exact .inl ⟨h, h2, h3, by simp only [cutN, c1, c2, c3, c4, c5, if_true, if_false, if_pos h, if_pos h2, if_pos h3], by simp only [cutN, c1, c2, c3, c4, c5, if_true, if_false, if_pos h, if_pos h2, if_pos h3]⟩
        · exact .inr (.inl ⟨h, h2, h3, by simp only [cutN, c1, c2, c3, c4, c5, if_true, if_false, if_pos h, if_pos h2, if_neg h3], by simp only [cutN, c1, c2, c3, c4, c5, if_true, if_false, if_pos h, if_pos h2, if_neg h3]⟩)
      · exact .inr (.inr (.inl ⟨h, h2, by simp only [cutN, c1, c2, c3, c4, c5, if_true, if_false, if_pos h, if_neg h2], by simp only [cutN, c1, c2, c3, c4, c5, if_true, if_false, if_pos h, if_neg h2]⟩))
    · exact .inr (.inr (.inr ⟨h, by simp only [cutN, c1, c2, c3, c4, c5, if_true, if_false, if_neg h], by simp only [cutN, c1, c2, c3, c4, c5, if_true, if_false, if_neg h]⟩))
  · exact .inl ⟨by simp [sizeT, c1, c2, c3, c4, c5], by simp [cutN, c1, c2, c3, c4, c5]⟩

/-- The beginning of an ill-formed part is the part; that of a well-formed one goes no further than it. -/
theorem beg_cut (n b0 b1 b2 b3 : Nat) : ((cutN n b0 b1 b2 b3).ok = false → begN n b0 b1 b2 = (cutN n b0 b1 b2 b3).len) ∧ begN n b0 b1 b2 ≤ (cutN n b0 b1 b2 b3).len := by
  unfold begN
  rw [full2, full3]
  rcases cut_cases n b0 b1 b2 b3 with ⟨hs, hl⟩ | ⟨hs, ⟨⟨h1, h1'⟩, ho, hl⟩ | ⟨h1, ho, hl⟩⟩ | ⟨hs, ⟨⟨h1, h1'⟩, ⟨h2, h2'⟩, ho, hl⟩ | ⟨⟨h1, h1'⟩, h2, ho, hl⟩ | ⟨h1, ho, hl⟩⟩ | ⟨hs, ⟨⟨h1, h1'⟩, ⟨h2, h2'⟩, ⟨h3, h3'⟩, ho, hl⟩ | ⟨⟨h1, h1'⟩, ⟨h2, h2'⟩, h3, ho, hl⟩ | ⟨⟨h1, h1'⟩, h2, ho, hl⟩ | ⟨h1, ho, hl⟩⟩
  · rw [hl]
    have : sizeT b0 ≤ 2 := by omega
    simp [this]
  all_goals rw [hl, ho, hs]
  · simp
  · simp
  · simp [h1, h1', h2, h2']
  · simp [h1, h1']
  · have h : ¬ (1 < n ∧ (decide (3 ≤ 2) || !sec b0 b1) = false) := fun e => h1 ⟨e.1, by simpa using e.2⟩
    rw [if_neg h]; simp
  · simp [h1, h1', h2, h2']
  · simp [h1, h1', h2, h2']
  · have h : ¬ (2 < n ∧ (decide (4 ≤ 3) || !sec b0 b1 || !tailB b2) = false) := fun e => h2 ⟨e.1, by simpa [h1'] using e.2⟩
    rw [if_neg h]; simp [h1, h1']
  · have h : ¬ (1 < n ∧ (decide (4 ≤ 2) || !sec b0 b1) = false) := fun e => h1 ⟨e.1, by simpa using e.2⟩
    rw [if_neg h]; simp

theorem sec_tail {a b : Nat} (h : sec a b = true) : 128 ≤ b ∧ b ≤ 191 := by
  unfold sec at h
  repeat' split at h
  all_goals simp at h; omega

theorem cut_len (n b0 b1 b2 b3 : Nat) (hn : 1 ≤ n) : 1 ≤ (cutN n b0 b1 b2 b3).len ∧ (cutN n b0 b1 b2 b3).len ≤ n := by
  rcases cut_cases n b0 b1 b2 b3 with ⟨hs, hl⟩ | ⟨hs, ⟨⟨h1, h1'⟩, ho, hl⟩ | ⟨h1, ho, hl⟩⟩ | ⟨hs, ⟨⟨h1, h1'⟩, ⟨h2, h2'⟩, ho, hl⟩ | ⟨⟨h1, h1'⟩, h2, ho, hl⟩ | ⟨h1, ho, hl⟩⟩ | ⟨hs, ⟨⟨h1, h1'⟩, ⟨h2, h2'⟩, ⟨h3, h3'⟩, ho, hl⟩ | ⟨⟨h1, h1'⟩, ⟨h2, h2'⟩, h3, ho, hl⟩ | ⟨⟨h1, h1'⟩, h2, ho, hl⟩ | ⟨h1, ho, hl⟩⟩
  all_goals omega

/-- The bytes of an ill-formed part behind its first one begin no part. -/
theorem cut_tails (n b0 b1 b2 b3 : Nat) (h : (cutN n b0 b1 b2 b3).ok = false) : (2 ≤ (cutN n b0 b1 b2 b3).len → 128 ≤ b1 ∧ b1 ≤ 191) ∧ (3 ≤ (cutN n b0 b1 b2 b3).len → 128 ≤ b2 ∧ b2 ≤ 191) ∧ (cutN n b0 b1 b2 b3).len ≤ 3 := by
  rcases cut_cases n b0 b1 b2 b3 with ⟨hs, hl⟩ | ⟨hs, ⟨⟨h1, h1'⟩, ho, hl⟩ | ⟨h1, ho, hl⟩⟩ | ⟨hs, ⟨⟨h1, h1'⟩, ⟨h2, h2'⟩, ho, hl⟩ | ⟨⟨h1, h1'⟩, h2, ho, hl⟩ | ⟨h1, ho, hl⟩⟩ | ⟨hs, ⟨⟨h1, h1'⟩, ⟨h2, h2'⟩, ⟨h3, h3'⟩, ho, hl⟩ | ⟨⟨h1, h1'⟩, ⟨h2, h2'⟩, h3, ho, hl⟩ | ⟨⟨h1, h1'⟩, h2, ho, hl⟩ | ⟨h1, ho, hl⟩⟩
  all_goals rw [hl]
  all_goals first | (rw [ho] at h; cases h; done) | skip
  all_goals refine ⟨fun hh => ?_, fun hh => ?_, by omega⟩
  all_goals first | omega | exact sec_tail h1' | (simpa [tailB] using h2')

theorem cut_char_bad (n b0 b1 b2 b3 : Nat) (h : (cutN n b0 b1 b2 b3).ok = false) : (cutN n b0 b1 b2 b3).char = 65533 := by
  unfold cutN at h ⊢
  repeat' split
  all_goals first | rfl | (exfalso; simp_all; done)

def byteAt (s : ByteArray) (i : Nat) : Nat := (s.get! i).toNat
theorem byteAt_lt (s : ByteArray) (i : Nat) : byteAt s i < 256 := (s.get! i).toNat_lt
def cutAt (s : ByteArray) (i : Nat) : Part := cutN (s.size - i) (byteAt s i) (byteAt s (i + 1)) (byteAt s (i + 2)) (byteAt s (i + 3))
def begAt (s : ByteArray) (i : Nat) : Nat := begN (s.size - i) (byteAt s i) (byteAt s (i + 1)) (byteAt s (i + 2))

theorem decode_at_cut (s : ByteArray) (i : Nat) : Utf8.decode s i = if (cutAt s i).ok = true then ((cutAt s i).char, (cutAt s i).len) else (65533, 1) := by
  rw [decode_at]
  exact decode_cut _ _ _ _ _ (byteAt_lt _ _) (byteAt_lt _ _) (byteAt_lt _ _) (byteAt_lt _ _)
theorem decode_tail (s : ByteArray) (i : Nat) (h : 128 ≤ byteAt s i ∧ byteAt s i ≤ 191) : Utf8.decode s i = (65533, 1) := by
  rw [decode_at_cut]
  have h1 : ¬ byteAt s i < 128 := by omega
  have h2 : byteAt s i < 194 := by omega
  have : (cutAt s i).ok = false := by simp only [cutAt, cutN, h1, h2, if_true, if_false]
  rw [this]; rfl
theorem cutAt_len (s : ByteArray) (i : Nat) (h : i < s.size) : 1 ≤ (cutAt s i).len ∧ i + (cutAt s i).len ≤ s.size := by
  have := cut_len (s.size - i) (byteAt s i) (byteAt s (i + 1)) (byteAt s (i + 2)) (byteAt s (i + 3)) (by omega)
  exact ⟨this.1, by have := this.2; unfold cutAt; omega⟩

/-- The parts from a place on. -/
def partsF (s : ByteArray) : Nat → Nat → List Part
  | 0, _ => []
  | f + 1, i => if i < s.size then cutAt s i :: partsF s f (i + (cutAt s i).len) else []
theorem partsF_more (s : ByteArray) : ∀ (f g i : Nat), s.size - i ≤ f → s.size - i ≤ g → partsF s f i = partsF s g i
  | 0, 0, _, _, _ => rfl
  | 0, g + 1, i, h, _ => by unfold partsF; rw [if_neg (by omega)]
  | f + 1, 0, i, _, h => by unfold partsF; rw [if_neg (by omega)]
  | f + 1, g + 1, i, hf, hg => by
    unfold partsF
    by_cases hi : i < s.size
    · have := cutAt_len s i hi
      rw [if_pos hi, if_pos hi, partsF_more s f g _ (by omega) (by omega)]
    · rw [if_neg hi, if_neg hi]
def partsFrom (s : ByteArray) (i : Nat) : List Part := partsF s (s.size - i) i
def parts (s : ByteArray) : List Part := partsFrom s 0
theorem partsFrom_step (s : ByteArray) (i : Nat) (h : i < s.size) : partsFrom s i = cutAt s i :: partsFrom s (i + (cutAt s i).len) := by
  unfold partsFrom
  obtain ⟨f, hf⟩ : ∃ f, s.size - i = f + 1 := ⟨s.size - i - 1, by omega⟩
  have := cutAt_len s i h
  rw [hf, partsF, if_pos h, partsF_more s f _ _ (by omega) (Nat.le_refl _)]
theorem partsFrom_end (s : ByteArray) (i : Nat) (h : s.size ≤ i) : partsFrom s i = [] := by
  unfold partsFrom
  rw [show s.size - i = 0 by omega]; rfl

/-- What is still to come while the language goes over a text byte by byte behind an ill-formed beginning. -/
structure Ahead (s : ByteArray) (pos broken : Nat) : Prop where
  inside : broken ≤ s.size
  tails : ∀ p, pos ≤ p → p < broken → 128 ≤ byteAt s p ∧ byteAt s p ≤ 191
theorem ahead_zero (s : ByteArray) : Ahead s 0 0 := ⟨Nat.zero_le _, fun p _ h => by omega⟩
theorem ahead_skip {s : ByteArray} {pos broken : Nat} (h : Ahead s pos broken) (hlt : pos < broken) : (Utf8.decode s pos).2 = 1 ∧ Ahead s (pos + 1) broken := by
  rw [decode_tail s pos (h.tails pos (Nat.le_refl _) hlt)]
  exact ⟨rfl, h.inside, fun p hp => h.tails p (by omega)⟩
theorem ahead_part {s : ByteArray} {pos : Nat} (hi : pos < s.size) :
    (Utf8.decode s pos).1 = (cutAt s pos).char ∧
    ((Utf8.decode s pos).1 = 65533 → Ahead s (pos + (Utf8.decode s pos).2) (pos + begAt s pos) ∧ max (pos + (Utf8.decode s pos).2) (pos + begAt s pos) = pos + (cutAt s pos).len) ∧
    ((Utf8.decode s pos).1 ≠ 65533 → (Utf8.decode s pos).2 = (cutAt s pos).len) := by
  have hl := cutAt_len s pos hi
  have hb := beg_cut (s.size - pos) (byteAt s pos) (byteAt s (pos + 1)) (byteAt s (pos + 2)) (byteAt s (pos + 3))
  change ((cutAt s pos).ok = false → begAt s pos = (cutAt s pos).len) ∧ begAt s pos ≤ (cutAt s pos).len at hb
  have ht := cut_tails (s.size - pos) (byteAt s pos) (byteAt s (pos + 1)) (byteAt s (pos + 2)) (byteAt s (pos + 3))
  change (cutAt s pos).ok = false → _ at ht
  have hc := cut_char_bad (s.size - pos) (byteAt s pos) (byteAt s (pos + 1)) (byteAt s (pos + 2)) (byteAt s (pos + 3))
  change (cutAt s pos).ok = false → (cutAt s pos).char = 65533 at hc
  rw [decode_at_cut]
  cases ho : (cutAt s pos).ok with
  | true =>
    refine ⟨rfl, fun _ => ⟨⟨by omega, fun p h1 h2 => ?_⟩, ?_⟩, fun _ => rfl⟩
    · simp only [if_true] at h1; omega
    · simp only [if_true]; omega
  | false =>
    obtain ⟨t1, t2, t3⟩ := ht ho
    rw [hb.1 ho]
    refine ⟨(hc ho).symm, fun _ => ⟨⟨hl.2, fun p h1 h2 => ?_⟩, ?_⟩, fun h => absurd rfl h⟩
    · simp only [Bool.false_eq_true, if_false] at h1
      change 2 ≤ (cutAt s pos).len → _ at t1
      change 3 ≤ (cutAt s pos).len → _ at t2
      change (cutAt s pos).len ≤ 3 at t3
      by_cases e : p = pos + 1
      · subst e; exact t1 (by omega)
      · obtain rfl : p = pos + 2 := by omega
        exact t2 (by omega)
    · simp only [Bool.false_eq_true, if_false]; omega
end Go.UtfKit

namespace Go.UtfKit
open Go Go.Lib

def clean (z : Int) : Nat := if z < 0 ∨ (55296 ≤ z ∧ z ≤ 57343) ∨ 1114111 < z then 65533 else z.toNat
def partOf (z : Int) : Part := ⟨clean z, (encodeRuneZ z).length, true⟩

theorem byteAt_list (l : List UInt8) (k : Nat) (h : k < l.length) : byteAt ⟨l.toArray⟩ k = l[k].toNat := by
  unfold byteAt ByteArray.get!
  simp [h]
theorem byteAt_mid (pre post : List UInt8) (zs : List Int) (hb : ∀ x ∈ zs, 0 ≤ x ∧ x < 256) (j : Nat) (x : Int) (hx : zs[j]? = some x) :
    (byteAt ⟨(pre ++ zs.map (fun x => x.toNat.toUInt8) ++ post).toArray⟩ (pre.length + j) : Int) = x := by
  have hj : j < zs.length := (List.getElem?_eq_some_iff.1 hx).1
  have hv : zs[j] = x := (List.getElem?_eq_some_iff.1 hx).2
  have hm := hb x (List.mem_of_getElem? hx)
  rw [byteAt_list _ _ (by simp; omega)]
  rw [List.getElem_append_left (by simp; omega), List.getElem_append_right (by omega)]
  simp only [List.getElem_map, Nat.add_sub_cancel_left, hv]
  have : x.toNat.toUInt8.toNat = x.toNat := by
    simp; omega
  rw [this]; omega

/-- The part that the bytes of a character make. -/
theorem cutN_encode (z : Int) (n b0 b1 b2 b3 : Nat) (hn : (encodeRuneZ z).length ≤ n) (h : ∀ (j : Nat) (x : Int), (encodeRuneZ z)[j]? = some x → ([b0, b1, b2, b3].map (fun k : Nat => (k : Int)))[j]? = some x) : cutN n b0 b1 b2 b3 = partOf z := by
  unfold partOf clean
  by_cases c0 : z < 0 ∨ (55296 ≤ z ∧ z ≤ 57343) ∨ 1114111 < z
  · rw [if_pos c0]
    rw [encodeRuneZ_bad c0] at *
    have h0 := h 0 _ rfl
    have h1 := h 1 _ rfl
    have h2 := h 2 _ rfl
    simp at h0 h1 h2 hn
    obtain rfl : b0 = 239 := by omega
    obtain rfl : b1 = 191 := by omega
    obtain rfl : b2 = 189 := by omega
    have e1 : 1 < n := by omega
    have e2 : 2 < n := by omega
    simp [cutN, sec, tailB, e1, e2]
  · rw [if_neg c0]
    by_cases c1 : z < 128
    · rw [encodeRuneZ_one (by omega) (by omega)] at *
      have h0 := h 0 _ rfl
      simp at h0
      have e : b0 < 128 := by omega
      simp only [cutN, e, if_true, List.length_cons, List.length_nil]
      congr 1; omega
    by_cases c2 : z < 2048
    · rw [encodeRuneZ_two (by omega) (by omega)] at *
      have h0 := h 0 _ rfl
      have h1 := h 1 _ rfl
      simp at h0 h1 hn
      have e0 : ¬ b0 < 128 := by omega
      have e1 : ¬ b0 < 194 := by omega
      have e2 : b0 < 224 := by omega
      have e3 : 1 < n ∧ sec b0 b1 = true := ⟨by omega, by
        unfold sec
        rw [if_neg (by omega), if_neg (by omega), if_neg (by omega), if_neg (by omega)]
        simp; omega⟩
      simp only [cutN, e0, e1, e2, if_true, if_false, if_pos e3, List.length_cons, List.length_nil]
      congr 1; omega
    by_cases c3 : z < 65536
    · rw [encodeRuneZ_three (by omega)] at *
      have h0 := h 0 _ rfl
      have h1 := h 1 _ rfl
      have h2 := h 2 _ rfl
      simp at h0 h1 h2 hn
      have e0 : ¬ b0 < 128 := by omega
      have e1 : ¬ b0 < 194 := by omega
      have e2 : ¬ b0 < 224 := by omega
      have e3 : b0 < 240 := by omega
      have e4 : 1 < n ∧ sec b0 b1 = true := ⟨by omega, by
        unfold sec
        repeat' split
        all_goals (simp; omega)⟩
      have e5 : 2 < n ∧ tailB b2 = true := ⟨by omega, by simp [tailB]; omega⟩
      simp only [cutN, e0, e1, e2, e3, if_true, if_false, if_pos e4, if_pos e5, List.length_cons, List.length_nil]
      congr 1; omega
    · rw [encodeRuneZ_four (by omega) (by omega)] at *
      have h0 := h 0 _ rfl
      have h1 := h 1 _ rfl
      have h2 := h 2 _ rfl
      have h3 := h 3 _ rfl
      simp at h0 h1 h2 h3 hn
      have e0 : ¬ b0 < 128 := by omega
      have e1 : ¬ b0 < 194 := by omega
      have e2 : ¬ b0 < 224 := by omega
      have e3 : ¬ b0 < 240 := by omega
      have e3' : b0 < 245 := by omega
      have e4 : 1 < n ∧ sec b0 b1 = true := ⟨by omega, by
        unfold sec
        repeat' split
        all_goals (simp; omega)⟩
      have e5 : 2 < n ∧ tailB b2 = true := ⟨by omega, by simp [tailB]; omega⟩
      have e6 : 3 < n ∧ tailB b3 = true := ⟨by omega, by simp [tailB]; omega⟩
      simp only [cutN, e0, e1, e2, e3, e3', if_true, if_false, if_pos e4, if_pos e5, if_pos e6, List.length_cons, List.length_nil]
      congr 1; omega

theorem cut_text (pre post : List UInt8) (z : Int) : cutAt ⟨(pre ++ encodeRune z ++ post).toArray⟩ pre.length = partOf z := by
  unfold cutAt encodeRune
  have hm := byteAt_mid pre post (encodeRuneZ z) (encodeRuneZ_byte z)
  have hlen := (encodeRuneZ_length z).2
  refine cutN_encode z _ _ _ _ _ (by simp [ByteArray.size]) (fun j x hx => ?_)
  have h := hm j x hx
  have hj : j < (encodeRuneZ z).length := (List.getElem?_eq_some_iff.1 hx).1
  rcases (by omega : j = 0 ∨ j = 1 ∨ j = 2 ∨ j = 3) with rfl | rfl | rfl | rfl <;> simpa using h

theorem encodeRune_length (z : Int) : (encodeRune z).length = (encodeRuneZ z).length := by simp [encodeRune]

/-- THE PARTS OF WHAT WAS ENCODED. -/
theorem parts_encoded (zs : List Int) : ∀ (pre : List UInt8), partsFrom ⟨(pre ++ zs.flatMap encodeRune).toArray⟩ pre.length = zs.map partOf := by
  induction zs with
  | nil => intro pre; rw [partsFrom_end _ _ (by simp [ByteArray.size])]; rfl
  | cons z r ih =>
    intro pre
    have hl := (encodeRuneZ_length z).1
    have hl2 := encodeRune_length z
    rw [partsFrom_step _ _ (by simp [ByteArray.size]; omega)]
    have e : (pre ++ (z :: r).flatMap encodeRune) = pre ++ encodeRune z ++ r.flatMap encodeRune := by simp
    rw [e, cut_text]
    have h := ih (pre ++ encodeRune z)
    have e2 : pre.length + (partOf z).len = (pre ++ encodeRune z).length := by simp [partOf, hl2]
    rw [e2, h]; rfl
theorem parts_text (zs : List Int) : parts ⟨(zs.flatMap encodeRune).toArray⟩ = zs.map partOf := parts_encoded zs []

/-! Two texts. -/
/-! How many bytes begin a part. -/
end Go.UtfKit

namespace Go.RunKit
open Go

abbrev Callee := FuncId → Array Value → World → Option (Value × World)

def runOps (P : Program) (call : Callee) : List Oper → Array Oper → Act → World → Option (Act × World)
  | [], _, a, w => some (a, w)
  | o :: rest, ops, a, w =>
    match Region.wanted o (yielded ops a.tmps) with
    | true =>
      match (execOp a.eval o).run P w with
      | .ok (.value v) w' => runOps P call rest ops (a.put o.dst v) w'
      | .ok .skip w' => runOps P call rest ops (a.put o.dst undef) w'
      | .ok (.enter f args) w' =>
        match call f args w' with
        | some (v, w'') => runOps P call rest ops (a.put o.dst v) w''
        | none => none
      | _ => none
    | false => runOps P call rest ops (a.put o.dst undef) w

variable {P : Program}

theorem runOps_sound {call : Callee} (hc : ∀ f args w v w', call f args w = some (v, w') → Calls P f args w fun e w'' => e = .returned v ∧ w'' = w') (ops : Array Oper) :
    ∀ (l : List Oper) (a : Act) (w : World) (a' : Act) (w' : World), runOps P call l ops a w = some (a', w') → ∀ Q : Exit → Act → World → Prop, Q .normal a' w' → wpList P ops Q l a w := by
  intro l
  induction l with
  | nil => intro a w a' w' h Q hQ; simp only [runOps, Option.some.injEq, Prod.mk.injEq] at h; obtain ⟨rfl, rfl⟩ := h; exact hQ
  | cons o rest ih =>
    intro a w a' w' h Q hQ
    unfold runOps at h
    unfold wpList
    split at h
    · rename_i hw
      rw [if_pos hw]
      refine .inl ?_
      unfold Oper.wp
      split at h
      · rename_i v w1 hr; rw [hr, Oper.upon_value]; exact ih _ _ _ _ h Q hQ
      · rename_i w1 hr; rw [hr, Oper.upon_skip]; exact ih _ _ _ _ h Q hQ
      · rename_i f args w1 hr
        rw [hr, Oper.upon_enter]
        split at h
        · rename_i v w2 hv
          refine (hc _ _ _ _ _ hv).mono ?_
          rintro e w3 ⟨rfl, rfl⟩
          exact ih _ _ _ _ h Q hQ
        · cases h
      · cases h
    · rename_i hw
      rw [if_neg (by rw [hw]; decide)]
      exact ih _ _ _ _ h Q hQ

end Go.RunKit

namespace Go.RunKit
open Go Go.RowKit

theorem ret1_eq {a a' : Value} (h1 : a = a') : Ending.returned a = .returned a' := by rw [h1]
theorem add_at (g j : Nat) : (⟨g, 0, none⟩ : Addr).add j = ⟨g, j, none⟩ := by
  unfold Addr.add
  by_cases h : j = 0
  · subst h; rfl
  · simp [h]
theorem some_at {α : Type} {l : List α} {k n : Nat} (hn : l.length = n) (h : k < n) : ∃ x, l[k]? = some x := ⟨l[k]'(by omega), by simp⟩
end Go.RunKit

namespace Go.Proofs.YtnfkndaggcklkaaGreatDoor.U
open Go.RowKit Go.RunKit Go.UtfKit Go.Lib

/-- The library's two tables in a world. -/
structure Tabs (w : World) : Prop where
  first : ∀ b, b < 256 → w.cell? ⟨0, b, none⟩ = some (.int .u8 (firstT b : Nat))
  lo : ∀ i, i < 5 → w.cell? ⟨1, i * 2, none⟩ = some (.int .u8 (accLo i : Nat))
  hi : ∀ i, i < 5 → w.cell? ⟨1, i * 2 + 1, none⟩ = some (.int .u8 (accHi i : Nat))
theorem Tabs.on {w w' : World} (h : Tabs w) (hb : Below w.heap.size w w') : Tabs w' := by
  have h0 : 0 < w.heap.size := World.block_lt_of_cell? _ _ (h.first 0 (by omega))
  have h1 : 1 < w.heap.size := World.block_lt_of_cell? _ _ (h.lo 0 (by omega))
  have k0 : ∀ b, w'.cell? ⟨0, b, none⟩ = w.cell? ⟨0, b, none⟩ := fun b => hb.cell h0
  have k1 : ∀ b, w'.cell? ⟨1, b, none⟩ = w.cell? ⟨1, b, none⟩ := fun b => hb.cell h1
  exact ⟨fun b hb' => by rw [k0]; exact h.first b hb', fun i hi => by rw [k1]; exact h.lo i hi, fun i hi => by rw [k1]; exact h.hi i hi⟩

theorem byteAt_get (s : ByteArray) (i : Nat) (h : i < s.size) : byteAt s i = (s[i]'h).toNat := by
  unfold byteAt
  congr 1
  simp [ByteArray.get!, getElem!_pos, h]
  rfl

/-- What utf8.FullRuneInString tells of a text whose first byte has the row x of the table. -/
def fullT (n sz lo hi b1 b2 : Nat) : Bool := decide (sz ≤ n) || (decide (1 < n) && (decide (b1 < lo) || decide (hi < b1))) || (decide (2 < n) && (decide (b2 < 128) || decide (191 < b2)))

set_option maxRecDepth 100000 in
set_option maxHeartbeats 2000000 in
theorem full_multi (s : ByteArray) (w : World) (hs : 0 < s.size) (b0 x sz lo hi idx : Nat) (e0 : (s[0]'hs).toNat = b0) (hc : w.cell? ⟨0, b0, none⟩ = some (.int .u8 (x : Nat)))
    (hx : (x = 2 ∧ sz = 2 ∧ idx = 0) ∨ (x = 3 ∧ sz = 3 ∧ idx = 0) ∨ (x = 19 ∧ sz = 3 ∧ idx = 1) ∨ (x = 35 ∧ sz = 3 ∧ idx = 2) ∨ (x = 4 ∧ sz = 4 ∧ idx = 0) ∨ (x = 52 ∧ sz = 4 ∧ idx = 3) ∨ (x = 68 ∧ sz = 4 ∧ idx = 4))
    (hb0 : b0 < 256) (hl : w.cell? ⟨1, idx * 2, none⟩ = some (.int .u8 (lo : Nat))) (hh : w.cell? ⟨1, idx * 2 + 1, none⟩ = some (.int .u8 (hi : Nat))) :
    Calls Tryz.prog 133 #[.string s] w fun e w' => e = .returned (.bool (fullT s.size sz lo hi (byteAt s 1) (byteAt s 2))) ∧ Below w.heap.size w w' := by
  have hb := Below.refl w.heap.size w
  have hb2 : Below w.heap.size w (w.alloc (.cells #[.int .u8 (lo : Nat), .int .u8 (hi : Nat)] 160)) := hb.alloc (Nat.le_refl _) _
  have hn1 : s.size ≠ 0 := by omega
  by_cases hn : sz ≤ s.size
  · have hR : Hid (fullT s.size sz lo hi (byteAt s 1) (byteAt s 2) = true) := Lib.hid (by simp [fullT, hn])
    have hnI : (sz : Int) ≤ s.size := by omega
    rcases hx with ⟨rfl, rfl, rfl⟩ | ⟨rfl, rfl, rfl⟩ | ⟨rfl, rfl, rfl⟩ | ⟨rfl, rfl, rfl⟩ | ⟨rfl, rfl, rfl⟩ | ⟨rfl, rfl, rfl⟩ | ⟨rfl, rfl, rfl⟩
    all_goals
      go_enter Tryz.func133, Tryz.ntmps133
      go_wp2
      go_ret
      rw [hR.out]
      exact ⟨rfl, hb⟩
  · by_cases n1 : s.size = 1
    · have hR : Hid (fullT s.size sz lo hi (byteAt s 1) (byteAt s 2) = false) := Lib.hid (by simp [fullT, n1]; omega)
      have n1' : ¬ (1 : Int) < s.size := by omega
      have n2' : ¬ (2 : Int) < s.size := by omega
      have n3' : ¬ (sz : Int) ≤ s.size := by omega
      rcases hx with ⟨rfl, rfl, rfl⟩ | ⟨rfl, rfl, rfl⟩ | ⟨rfl, rfl, rfl⟩ | ⟨rfl, rfl, rfl⟩ | ⟨rfl, rfl, rfl⟩ | ⟨rfl, rfl, rfl⟩ | ⟨rfl, rfl, rfl⟩
      all_goals first | (exfalso; omega; done) | skip
      all_goals
        go_enter Tryz.func133, Tryz.ntmps133
        go_wp2
        all_goals (try go_quiet (fail))
        all_goals (try go_wp2)
        all_goals (try go_quiet (fail))
        all_goals (try go_wp2)
        all_goals go_ret
        all_goals rw [hR.out]
        all_goals exact ⟨rfl, by first | exact hb2 | exact below_drewN hb2 _ | exact below_drewN (below_drewN hb2 _) _⟩
    · have l1 : 1 < s.size := by omega
      have e1 := byteAt_get s 1 l1
      have n1' : (1 : Int) < s.size := by omega
      generalize byteAt s 1 = b1 at *
      have n3' : ¬ (sz : Int) ≤ s.size := by omega
      by_cases c1 : b1 < lo
      · have hR : Hid (fullT s.size sz lo hi b1 (byteAt s 2) = true) := Lib.hid (by simp [fullT, l1, c1])
        have c1' : (b1 : Int) < lo := by omega
        rw [e1] at c1'
        rcases hx with ⟨rfl, rfl, rfl⟩ | ⟨rfl, rfl, rfl⟩ | ⟨rfl, rfl, rfl⟩ | ⟨rfl, rfl, rfl⟩ | ⟨rfl, rfl, rfl⟩ | ⟨rfl, rfl, rfl⟩ | ⟨rfl, rfl, rfl⟩
        all_goals first | (exfalso; omega; done) | skip
        all_goals
          go_enter Tryz.func133, Tryz.ntmps133
          go_wp2
          all_goals (try go_quiet (fail))
          all_goals (try go_wp2)
          all_goals (try go_quiet (fail))
          all_goals (try go_wp2)
          all_goals go_ret
          all_goals rw [hR.out]
          all_goals exact ⟨rfl, by first | exact hb2 | exact below_drewN hb2 _ | exact below_drewN (below_drewN hb2 _) _⟩
      · have c1' : ¬ (b1 : Int) < lo := by omega
        rw [e1] at c1'
        have c1f := eq_false c1'
        clear c1'
        by_cases c2 : hi < b1
        · have hR : Hid (fullT s.size sz lo hi b1 (byteAt s 2) = true) := Lib.hid (by simp [fullT, l1, c2])
          have c2' : (hi : Int) < b1 := by omega
          rw [e1] at c2'
          rcases hx with ⟨rfl, rfl, rfl⟩ | ⟨rfl, rfl, rfl⟩ | ⟨rfl, rfl, rfl⟩ | ⟨rfl, rfl, rfl⟩ | ⟨rfl, rfl, rfl⟩ | ⟨rfl, rfl, rfl⟩ | ⟨rfl, rfl, rfl⟩
          all_goals first | (exfalso; omega; done) | skip
          all_goals
            go_enter Tryz.func133, Tryz.ntmps133
            go_wp2
            all_goals (try go_quiet (fail))
            all_goals (try go_wp2)
            all_goals (try go_quiet (fail))
            all_goals (try go_wp2)
            all_goals go_ret
            all_goals rw [hR.out]
            all_goals exact ⟨rfl, by first | exact hb2 | exact below_drewN hb2 _ | exact below_drewN (below_drewN hb2 _) _⟩
        · have c2' : ¬ (hi : Int) < b1 := by omega
          rw [e1] at c2'
          have c2f := eq_false c2'
          clear c2'
          by_cases n2 : s.size = 2
          · have hR : Hid (fullT s.size sz lo hi b1 (byteAt s 2) = false) := Lib.hid (by simp [fullT, n2, c1, c2]; omega)
            have n2f := eq_false (show ¬ (2 : Int) < s.size by omega)
            rcases hx with ⟨rfl, rfl, rfl⟩ | ⟨rfl, rfl, rfl⟩ | ⟨rfl, rfl, rfl⟩ | ⟨rfl, rfl, rfl⟩ | ⟨rfl, rfl, rfl⟩ | ⟨rfl, rfl, rfl⟩ | ⟨rfl, rfl, rfl⟩
            all_goals first | (exfalso; omega; done) | skip
            all_goals
              go_enter Tryz.func133, Tryz.ntmps133
              go_wp2
              all_goals (try go_quiet (fail))
              all_goals (try go_wp2)
              all_goals (try go_quiet (fail))
              all_goals (try go_wp2)
              all_goals go_ret
              all_goals rw [hR.out]
              all_goals exact ⟨rfl, by first | exact hb2 | exact below_drewN hb2 _ | exact below_drewN (below_drewN hb2 _) _⟩
          · have l2 : 2 < s.size := by omega
            have e2 := byteAt_get s 2 l2
            have n2' : (2 : Int) < s.size := by omega
            generalize byteAt s 2 = b2 at *
            have hsz : ¬ sz ≤ s.size := hn
            by_cases d1 : b2 < 128
            · have hR : Hid (fullT s.size sz lo hi b1 b2 = true) := Lib.hid (by simp [fullT, l2, d1])
              have d1' : (b2 : Int) < 128 := by omega
              rw [e2] at d1'
              rcases hx with ⟨rfl, rfl, rfl⟩ | ⟨rfl, rfl, rfl⟩ | ⟨rfl, rfl, rfl⟩ | ⟨rfl, rfl, rfl⟩ | ⟨rfl, rfl, rfl⟩ | ⟨rfl, rfl, rfl⟩ | ⟨rfl, rfl, rfl⟩
              all_goals first | (exfalso; omega; done) | skip
              all_goals
                go_enter Tryz.func133, Tryz.ntmps133
                go_wp2
                all_goals (try go_quiet (fail))
                all_goals (try go_wp2)
                all_goals (try go_quiet (fail))
                all_goals (try go_wp2)
                all_goals go_ret
                all_goals rw [hR.out]
                all_goals exact ⟨rfl, by first | exact hb2 | exact below_drewN hb2 _ | exact below_drewN (below_drewN hb2 _) _⟩
            · have d1f := eq_false (show ¬ (b2 : Int) < 128 by omega)
              rw [e2] at d1f
              by_cases d2 : 191 < b2
              · have hR : Hid (fullT s.size sz lo hi b1 b2 = true) := Lib.hid (by simp [fullT, l2, d2])
                have d2' : (191 : Int) < b2 := by omega
                rw [e2] at d2'
                rcases hx with ⟨rfl, rfl, rfl⟩ | ⟨rfl, rfl, rfl⟩ | ⟨rfl, rfl, rfl⟩ | ⟨rfl, rfl, rfl⟩ | ⟨rfl, rfl, rfl⟩ | ⟨rfl, rfl, rfl⟩ | ⟨rfl, rfl, rfl⟩
                all_goals first | (exfalso; omega; done) | skip
                all_goals
                  go_enter Tryz.func133, Tryz.ntmps133
                  go_wp2
                  all_goals (try go_quiet (fail))
                  all_goals (try go_wp2)
                  all_goals (try go_quiet (fail))
                  all_goals (try go_wp2)
                  all_goals go_ret
                  all_goals rw [hR.out]
                  all_goals exact ⟨rfl, by first | exact hb2 | exact below_drewN hb2 _ | exact below_drewN (below_drewN hb2 _) _⟩
              · have d2f := eq_false (show ¬ (191 : Int) < b2 by omega)
                rw [e2] at d2f
                have hR : Hid (fullT s.size sz lo hi b1 b2 = false) := Lib.hid (by simp [fullT, hsz, c1, c2, d1, d2])
                rcases hx with ⟨rfl, rfl, rfl⟩ | ⟨rfl, rfl, rfl⟩ | ⟨rfl, rfl, rfl⟩ | ⟨rfl, rfl, rfl⟩ | ⟨rfl, rfl, rfl⟩ | ⟨rfl, rfl, rfl⟩ | ⟨rfl, rfl, rfl⟩
                all_goals first | (exfalso; omega; done) | skip
                all_goals
                  go_enter Tryz.func133, Tryz.ntmps133
                  go_wp2
                  all_goals (try go_quiet (fail))
                  all_goals (try go_wp2)
                  all_goals (try go_quiet (fail))
                  all_goals (try go_wp2)
                  all_goals go_ret
                  all_goals rw [hR.out]
                  all_goals exact ⟨rfl, by first | exact hb2 | exact below_drewN hb2 _ | exact below_drewN (below_drewN hb2 _) _⟩
end Go.Proofs.YtnfkndaggcklkaaGreatDoor.U

namespace Go.Proofs.YtnfkndaggcklkaaGreatDoor.U
open Go.RowKit Go.RunKit Go.UtfKit Go.Lib

theorem from_base {P : Program} {f : FuncId} {args : Array Value} {w0 w : World} {v : Ending} (hb : Below w0.heap.size w0 w) (h : Calls P f args w fun e w' => e = v ∧ Below w.heap.size w w') :
    Calls P f args w fun e w' => e = v ∧ Below w0.heap.size w0 w' := h.mono fun _ _ h => ⟨h.1, hb.trans (h.2.mono hb.size)⟩

set_option maxRecDepth 100000 in
set_option maxHeartbeats 2000000 in
theorem full_small (s : ByteArray) (w : World) (hs : 0 < s.size) (b0 x : Nat) (e0 : (s[0]'hs).toNat = b0) (hb0 : b0 < 256) (hc : w.cell? ⟨0, b0, none⟩ = some (.int .u8 (x : Nat))) (hx : x = 240 ∨ x = 241) :
    Calls Tryz.prog 133 #[.string s] w fun e w' => e = .returned (.bool true) ∧ Below w.heap.size w w' := by
  have hb := Below.refl w.heap.size w
  have hn1 : s.size ≠ 0 := by omega
  have hnI : (1 : Int) ≤ s.size := by omega
  have hnJ : (0 : Int) ≤ s.size := by omega
  rcases hx with rfl | rfl
  all_goals
    go_enter Tryz.func133, Tryz.ntmps133
    go_wp2
    go_ret
    exact ⟨rfl, hb⟩

theorem fullT_eq {n sz lo hi b0 b1 b2 : Nat} (hn : 0 < n) (hz : sizeT b0 = sz) (hsec : sec b0 b1 = decide (lo ≤ b1 ∧ b1 ≤ hi)) : fullT n sz lo hi b1 b2 = fullN n b0 b1 b2 := by
  unfold fullT fullN
  rw [hsec, hz]
  have e1 : (!decide (lo ≤ b1 ∧ b1 ≤ hi)) = (decide (b1 < lo) || decide (hi < b1)) := by
    by_cases h1 : b1 < lo
    · simp [h1]
    · by_cases h2 : hi < b1
      · simp [h2]
      · simp [h1, h2]; omega
  have e2 : (!tailB b2) = (decide (b2 < 128) || decide (191 < b2)) := by
    unfold tailB
    by_cases h1 : b2 < 128
    · simp [h1]
    · by_cases h2 : 191 < b2
      · simp [h2]
      · simp [h1, h2]; omega
  rw [e1, e2]
  simp [hn]

theorem full_any (s : ByteArray) (w : World) (hw : Tabs w) (hs : 0 < s.size) :
    Calls Tryz.prog 133 #[.string s] w fun e w' => e = .returned (.bool (fullN s.size (byteAt s 0) (byteAt s 1) (byteAt s 2))) ∧ Below w.heap.size w w' := by
  have e0 := (byteAt_get s 0 hs).symm
  have hlt := byteAt_lt s 0
  generalize byteAt s 0 = b0 at *
  have hc := hw.first b0 hlt
  have hsmall : sizeT b0 ≤ 1 → fullN s.size b0 (byteAt s 1) (byteAt s 2) = true := fun h => by
    have : sizeT b0 ≤ s.size := by omega
    simp [fullN, hs, this]
  by_cases c1 : b0 < 128
  · rw [hsmall (by simp [sizeT, c1])]
    exact full_small s w hs b0 _ e0 hlt hc (.inl (by simp [firstT, c1]))
  by_cases c2 : b0 < 194
  · rw [hsmall (by simp [sizeT, c1, c2])]
    exact full_small s w hs b0 _ e0 hlt hc (.inr (by simp [firstT, c1, c2]))
  by_cases c3 : b0 < 224
  · rw [← fullT_eq (lo := 128) (hi := 191) hs (show sizeT b0 = 2 by simp [sizeT, c1, c2, c3]) (by unfold sec; rw [if_neg (by omega), if_neg (by omega), if_neg (by omega), if_neg (by omega)])]
    exact full_multi s w hs b0 _ 2 128 191 0 e0 hc (.inl ⟨by simp [firstT, c1, c2, c3], rfl, rfl⟩) hlt (hw.lo 0 (by omega)) (hw.hi 0 (by omega))
  by_cases c4 : b0 = 224
  · subst c4
    rw [← fullT_eq (lo := 160) (hi := 191) hs (show sizeT 224 = 3 by rfl) rfl]
    exact full_multi s w hs 224 _ 3 160 191 1 e0 hc (.inr (.inr (.inl ⟨rfl, rfl, rfl⟩))) hlt (hw.lo 1 (by omega)) (hw.hi 1 (by omega))
  by_cases c5 : b0 = 237
  · subst c5
    rw [← fullT_eq (lo := 128) (hi := 159) hs (show sizeT 237 = 3 by rfl) rfl]
    exact full_multi s w hs 237 _ 3 128 159 2 e0 hc (.inr (.inr (.inr (.inl ⟨rfl, rfl, rfl⟩)))) hlt (hw.lo 2 (by omega)) (hw.hi 2 (by omega))
  by_cases c6 : b0 < 240
  · rw [← fullT_eq (lo := 128) (hi := 191) hs (show sizeT b0 = 3 by simp [sizeT, c1, c2, c3, c6]) (by unfold sec; rw [if_neg (by omega), if_neg (by omega), if_neg (by omega), if_neg (by omega)])]
    refine full_multi s w hs b0 _ 3 128 191 0 e0 hc (.inr (.inl ⟨?_, rfl, rfl⟩)) hlt (hw.lo 0 (by omega)) (hw.hi 0 (by omega))
    by_cases h : b0 < 237
    · simp [firstT, c1, c2, c3, c4, h]
    · simp [firstT, c1, c2, c3, c4, c5, h, c6]
  by_cases c7 : b0 = 240
  · subst c7
    rw [← fullT_eq (lo := 144) (hi := 191) hs (show sizeT 240 = 4 by rfl) rfl]
    exact full_multi s w hs 240 _ 4 144 191 3 e0 hc (.inr (.inr (.inr (.inr (.inr (.inl ⟨rfl, rfl, rfl⟩)))))) hlt (hw.lo 3 (by omega)) (hw.hi 3 (by omega))
  by_cases c8 : b0 = 244
  · subst c8
    rw [← fullT_eq (lo := 128) (hi := 143) hs (show sizeT 244 = 4 by rfl) rfl]
    exact full_multi s w hs 244 _ 4 128 143 4 e0 hc (.inr (.inr (.inr (.inr (.inr (.inr ⟨rfl, rfl, rfl⟩)))))) hlt (hw.lo 4 (by omega)) (hw.hi 4 (by omega))
  by_cases c9 : b0 < 244
  · rw [← fullT_eq (lo := 128) (hi := 191) hs (show sizeT b0 = 4 by simp only [sizeT]; rw [if_neg c1, if_neg c2, if_neg c3, if_neg c6, if_pos (by omega)]) (by unfold sec; rw [if_neg (by omega), if_neg (by omega), if_neg (by omega), if_neg (by omega)])]
    refine full_multi s w hs b0 _ 4 128 191 0 e0 hc (.inr (.inr (.inr (.inr (.inl ⟨?_, rfl, rfl⟩))))) hlt (hw.lo 0 (by omega)) (hw.hi 0 (by omega))
    simp only [firstT]
    rw [if_neg c1, if_neg c2, if_neg c3, if_neg c4, if_neg (by omega), if_neg c5, if_neg c6, if_neg c7, if_pos c9]
  · rw [hsmall (by simp only [sizeT]; rw [if_neg c1, if_neg c2, if_neg c3, if_neg c6, if_neg (by omega)]; omega)]
    refine full_small s w hs b0 _ e0 hlt hc (.inr ?_)
    simp only [firstT]
    rw [if_neg c1, if_neg c2, if_neg c3, if_neg c4, if_neg (by omega), if_neg c5, if_neg c6, if_neg c7, if_neg c9, if_neg c8]

theorem byteAt_take (s : ByteArray) (k i : Nat) (hk : k ≤ s.size) (hi : i < k) : byteAt (s.extract 0 k) i = byteAt s i := by
  have h1 : i < (s.extract 0 k).size := by simp; omega
  rw [byteAt_get _ _ h1, byteAt_get s i (by omega)]
  congr 1
  simp [ByteArray.getElem_extract]

theorem fullN_two (b0 b1 b2 : Nat) : fullN 2 b0 b1 b2 = fullN 2 b0 b1 0 := by simp [fullN]
theorem fullN_four (b0 b1 b2 : Nat) : fullN 4 b0 b1 b2 = true := by
  have : sizeT b0 ≤ 4 := by unfold sizeT; repeat' split
                            all_goals omega
  simp [fullN, this]

/-- One more byte is looked at. -/
theorem full_take (s : ByteArray) (w : World) (hw : Tabs w) (k : Nat) (hk : k + 1 ≤ s.size) :
    Calls Tryz.prog 133 #[.string (s.extract 0 (k + 1))] w fun e w' => e = .returned (.bool (fullN (k + 1) (byteAt s 0) (byteAt (s.extract 0 (k + 1)) 1) (byteAt (s.extract 0 (k + 1)) 2))) ∧ Below w.heap.size w w' := by
  have h := full_any (s.extract 0 (k + 1)) w hw (by simp; omega)
  rw [byteAt_take s (k + 1) 0 hk (by omega)] at h
  have hz : (s.extract 0 (k + 1)).size = k + 1 := by simp; omega
  rwa [hz] at h

/-- So far the bytes looked at begin no whole part. -/
def Open (s : ByteArray) (k : Nat) : Prop := (2 ≤ k → 1 < s.size ∧ fullN 2 (byteAt s 0) (byteAt s 1) 0 = false) ∧ (3 ≤ k → 2 < s.size ∧ fullN 3 (byteAt s 0) (byteAt s 1) (byteAt s 2) = false)
theorem take_full (s : ByteArray) (k : Nat) (hk1 : 1 ≤ k) (hk3 : k ≤ 3) (hk : k + 1 ≤ s.size) : fullN (k + 1) (byteAt s 0) (byteAt (s.extract 0 (k + 1)) 1) (byteAt (s.extract 0 (k + 1)) 2) =
    if k = 1 then fullN 2 (byteAt s 0) (byteAt s 1) 0 else if k = 2 then fullN 3 (byteAt s 0) (byteAt s 1) (byteAt s 2) else true := by
  rw [byteAt_take s (k + 1) 1 hk (by omega)]
  by_cases h1 : k = 1
  · subst h1; rw [fullN_two]; rfl
  · rw [if_neg h1]
    rw [byteAt_take s (k + 1) 2 hk (by omega)]
    by_cases h2 : k = 2
    · subst h2; rfl
    · obtain rfl : k = 3 := by omega
      exact fullN_four _ _ _
theorem open_on {s : ByteArray} {k : Nat} (hk1 : 1 ≤ k) (hk3 : k ≤ 3) (hk : k + 1 ≤ s.size) (h : Open s k) (hf : fullN (k + 1) (byteAt s 0) (byteAt (s.extract 0 (k + 1)) 1) (byteAt (s.extract 0 (k + 1)) 2) = false) : k + 1 ≤ 3 ∧ Open s (k + 1) := by
  rw [take_full s k hk1 hk3 hk] at hf
  by_cases h1 : k = 1
  · subst h1; exact ⟨by omega, fun _ => ⟨by omega, by simpa using hf⟩, fun h => by omega⟩
  · by_cases h2 : k = 2
    · subst h2; exact ⟨by omega, fun _ => h.1 (by omega), fun _ => ⟨by omega, by simpa using hf⟩⟩
    · simp [h1, h2] at hf
theorem open_stop {s : ByteArray} {k : Nat} (hk1 : 1 ≤ k) (hk3 : k ≤ 3) (hk : k ≤ s.size) (h : Open s k) (hf : k = s.size ∨ (k + 1 ≤ s.size ∧ fullN (k + 1) (byteAt s 0) (byteAt (s.extract 0 (k + 1)) 1) (byteAt (s.extract 0 (k + 1)) 2) = true)) :
    begN s.size (byteAt s 0) (byteAt s 1) (byteAt s 2) = k := by
  unfold begN
  by_cases h1 : k = 1
  · subst h1
    rw [if_neg]
    rintro ⟨a, b⟩
    rcases hf with e | ⟨e, hf⟩
    · omega
    · rw [take_full s 1 hk1 hk3 e, if_pos rfl, b] at hf; cases hf
  · by_cases h2 : k = 2
    · subst h2
      rw [if_pos (h.1 (by omega)), if_neg]
      rintro ⟨a, b⟩
      rcases hf with e | ⟨e, hf⟩
      · omega
      · rw [take_full s 2 hk1 hk3 e, if_neg (by omega), if_pos rfl, b] at hf; cases hf
    · obtain rfl : k = 3 := by omega
      rw [if_pos (h.1 (by omega)), if_pos (h.2 (by omega))]

set_option maxRecDepth 100000 in
set_option maxHeartbeats 2000000 in
theorem beg_any (s : ByteArray) (w : World) (hw : Tabs w) (hs : 0 < s.size) :
    Calls Tryz.prog 100 #[.string s] w fun e w' => e = .returned (.int .i64 (begN s.size (byteAt s 0) (byteAt s 1) (byteAt s 2) : Nat)) ∧ Below w.heap.size w w' := by
  have hb := Below.refl w.heap.size w
  have HW := Lib.hid hw
  clear hw
  go_enter Tryz.func100, Tryz.ntmps100
  go_wp2
  go_loopw [3] (fun i wr => ∃ k : Nat, 1 ≤ k ∧ k ≤ 3 ∧ k ≤ s.size ∧ i = .int .i64 k ∧ Below w.heap.size w wr ∧ Hid (Open s k)) (fun i _ => 4 - (RowKit.intOf i).toNat)
  case atStart => exact ⟨1, by omega, by omega, by omega, rfl, hb, Lib.hid ⟨fun h => by omega, fun h => by omega⟩⟩
  case round =>
    clear hb
    obtain ⟨k, hk1, hk3, hks, rfl, hb, HI⟩ := hrel
    by_cases hlt : k < s.size
    · have HC := Lib.hid (full_take s wr (HW.out.on hb) k (by omega))
      generalize hv : fullN (k + 1) (byteAt s 0) (byteAt (s.extract 0 (k + 1)) 1) (byteAt (s.extract 0 (k + 1)) 2) = v at HC
      cases v with
      | true =>
        have HV := Lib.hid hv
        clear hv
        go_wp2_with (go_at_call 133; refine (from_base hb HC.out).mono ?_; rintro e w' ⟨rfl, hb'⟩)
        have e := open_stop hk1 hk3 hks HI.out (.inr ⟨by omega, HV.out⟩)
        go_ret
        rw [e]
        exact ⟨rfl, hb'⟩
      | false =>
        have HV := Lib.hid hv
        clear hv
        go_wp2_with (go_at_call 133; refine (from_base hb HC.out).mono ?_; rintro e w' ⟨rfl, hb'⟩)
        have e := open_on hk1 hk3 (by omega) HI.out HV.out
        exact ⟨⟨k + 1, by omega, e.1, by omega, by go_num, hb', Lib.hid e.2⟩, by simp [RowKit.intOf]; omega⟩
    · have e := open_stop hk1 hk3 hks HI.out (.inl (by omega))
      go_wp2
      go_ret
      rw [e]
      exact ⟨rfl, hb⟩
end Go.Proofs.YtnfkndaggcklkaaGreatDoor.U

