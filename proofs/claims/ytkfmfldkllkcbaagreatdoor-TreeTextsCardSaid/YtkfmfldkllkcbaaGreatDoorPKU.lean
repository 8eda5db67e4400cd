/-
  PACKS: UMath UMath2 UFull UBeg UEach UBuild URunes UDec UDec2 UMath3 UBytes
  How bytes are cut into parts: the document's way, beside the model's own decoding. No conditions.
  The parts of a text; how far the beginning of an ill-formed part goes. No conditions.
  utf8.FullRuneInString: whether bytes begin with a whole part. Conditions: the library's two tables hold what its text lays.
  How far the beginning of an ill-formed part goes: beginningLen of utf. Conditions: the library's two tables hold what its text lays.
  eachPart of utf hands on the character of each part of a text, whatever the closure that takes them. Conditions: what the closure keeps is not turned by what lies beside it; the library's two tables hold what its text lays.
  strings.Builder in this program: copyCheck and WriteRune at a builder that the call itself has made. Conditions: the bytes are no more than 2^47.
  Runes of utf hands back the characters of the parts. Conditions: the library's two tables hold what its text lays; the text is no longer than 2^40 bytes.
  Decode of utf: the closure that takes the parts, and what is told. Conditions: the library's two tables hold what its text lays.
  Decode of utf: what it tells of bytes. Conditions: the library's two tables hold what its text lays.
  Parts of what was encoded; parts of two texts, one behind the other; how many bytes begin a part. No conditions.
  The bytes of a well-formed part are those of its character. No conditions.
-/
import Derived.Lib.DecodeN
import Derived.Lib.RuneCount
import Derived.Test.YtkfmfldkllkcbaaGreatDoorRows
import Derived.Test.YtkfmfldkllkcbaaGreatDoorKit
import Derived.Deep.LoopGhost
import Derived.Shelf.Abstract
import Derived.Lib.OthersKept
import Derived.Test.YtkfmfldkllkcbaaGreatDoorShelf
import Derived.Shelf.Strings.BuilderRune
import Derived.KernelRfl
import Derived.Test.YtkfmfldkllkcbaaGreatDoorBelow
import Derived.Lib.QuoteLoop
import Derived.Lib.RuneBytes
namespace Go.UtfKit
open Go Go.Lib

/-- May b be the second byte behind a? -/
def sec (a b : Nat) : Bool :=
  if a = 224 then decide (160 ≤ b ∧ b ≤ 191) else if a = 237 then decide (128 ≤ b ∧ b ≤ 159) else if a = 240 then decide (144 ≤ b ∧ b ≤ 191) else if a = 244 then decide (128 ≤ b ∧ b ≤ 143) else decide (128 ≤ b ∧ b ≤ 191)
def tailB (b : Nat) : Bool := decide (128 ≤ b ∧ b ≤ 191)

/-- A part: its character, how many bytes, whether it is well-formed. -/
structure Part where
  char : Nat
  len : Nat
  ok : Bool
  deriving DecidableEq

def cutN (n b0 b1 b2 b3 : Nat) : Part :=
  if b0 < 128 then ⟨b0, 1, true⟩
  else if b0 < 194 then ⟨65533, 1, false⟩
  else if b0 < 224 then
    if 1 < n ∧ sec b0 b1 = true then ⟨b0 % 32 * 64 + b1 % 64, 2, true⟩ else ⟨65533, 1, false⟩
  else if b0 < 240 then
    if 1 < n ∧ sec b0 b1 = true then
      if 2 < n ∧ tailB b2 = true then ⟨b0 % 16 * 4096 + b1 % 64 * 64 + b2 % 64, 3, true⟩ else ⟨65533, 2, false⟩
    else ⟨65533, 1, false⟩
  else if b0 < 245 then
    if 1 < n ∧ sec b0 b1 = true then
      if 2 < n ∧ tailB b2 = true then
        if 3 < n ∧ tailB b3 = true then ⟨b0 % 8 * 262144 + b1 % 64 * 4096 + b2 % 64 * 64 + b3 % 64, 4, true⟩ else ⟨65533, 3, false⟩
      else ⟨65533, 2, false⟩
    else ⟨65533, 1, false⟩
  else ⟨65533, 1, false⟩

/-- How many bytes the first one asks for (Go's table). -/
def sizeT (b : Nat) : Nat := if b < 128 then 0 else if b < 194 then 1 else if b < 224 then 2 else if b < 240 then 3 else if b < 245 then 4 else 1
/-- utf8.FullRuneInString of n bytes that begin so. -/
def fullN (n b0 b1 b2 : Nat) : Bool := decide (0 < n) && (decide (sizeT b0 ≤ n) || (decide (1 < n) && !sec b0 b1) || (decide (2 < n) && !tailB b2))
/-- beginningLen of n bytes that begin so. -/
def begN (n b0 b1 b2 : Nat) : Nat :=
  if 1 < n ∧ fullN 2 b0 b1 0 = false then
    if 2 < n ∧ fullN 3 b0 b1 b2 = false then 3 else 2
  else 1

set_option maxRecDepth 100000 in
set_option maxHeartbeats 4000000 in
theorem decode_cut (n b0 b1 b2 b3 : Nat) (h0 : b0 < 256) (h1 : b1 < 256) (h2 : b2 < 256) (h3 : b3 < 256) :
    decodeN n b0 b1 b2 b3 = if (cutN n b0 b1 b2 b3).ok = true then ((cutN n b0 b1 b2 b3).char, (cutN n b0 b1 b2 b3).len) else (65533, 1) := by
  by_cases c1 : b0 < 128
  · simp [decodeN, cutN, c1]
  by_cases c2 : b0 < 194
  · simp only [cutN, c1, c2, if_true, if_false]
    unfold decodeN
    repeat' split
    all_goals first | rfl | (exfalso; omega) | (simp at *; done)
  by_cases c3 : b0 < 224
  · have hs : sec b0 b1 = decide (128 ≤ b1 ∧ b1 ≤ 191) := by unfold sec; rw [if_neg (by omega), if_neg (by omega), if_neg (by omega), if_neg (by omega)]
    simp only [cutN, c1, c2, c3, if_true, if_false, hs, decide_eq_true_eq]
    unfold decodeN
    repeat' split
    all_goals first | rfl | (exfalso; omega) | (simp at *; done) | (exfalso; simp at *; omega)
  by_cases c4 : b0 < 240
  · simp only [cutN, c1, c2, c3, c4, if_true, if_false, sec, tailB, decide_eq_true_eq]
    unfold decodeN
    repeat' split
    all_goals first | rfl | (exfalso; simp at *; omega) | (exfalso; omega) | (simp at *; done)
  by_cases c5 : b0 < 245
  · simp only [cutN, c1, c2, c3, c4, c5, if_true, if_false, sec, tailB, decide_eq_true_eq]
    unfold decodeN
    repeat' split
    all_goals first | rfl | (exfalso; simp at *; omega) | (exfalso; omega) | (simp at *; done)
  · simp only [cutN, c1, c2, c3, c4, c5, if_false]
    unfold decodeN
    repeat' split
    all_goals first | rfl | (exfalso; omega) | (simp at *; done)
end Go.UtfKit
namespace Go.UtfKit
open Go Go.Lib

theorem full2 (b0 b1 : Nat) : fullN 2 b0 b1 0 = (decide (sizeT b0 ≤ 2) || !sec b0 b1) := by simp [fullN]
theorem full3 (b0 b1 b2 : Nat) : fullN 3 b0 b1 b2 = (decide (sizeT b0 ≤ 3) || !sec b0 b1 || !tailB b2) := by simp [fullN]

/-- What a part is, by its first byte. -/
theorem cut_cases (n b0 b1 b2 b3 : Nat) :
    (sizeT b0 ≤ 1 ∧ (cutN n b0 b1 b2 b3).len = 1) ∨
    (sizeT b0 = 2 ∧ (((1 < n ∧ sec b0 b1 = true) ∧ (cutN n b0 b1 b2 b3).ok = true ∧ (cutN n b0 b1 b2 b3).len = 2) ∨ (¬ (1 < n ∧ sec b0 b1 = true) ∧ (cutN n b0 b1 b2 b3).ok = false ∧ (cutN n b0 b1 b2 b3).len = 1))) ∨
    (sizeT b0 = 3 ∧ (((1 < n ∧ sec b0 b1 = true) ∧ (2 < n ∧ tailB b2 = true) ∧ (cutN n b0 b1 b2 b3).ok = true ∧ (cutN n b0 b1 b2 b3).len = 3) ∨
      ((1 < n ∧ sec b0 b1 = true) ∧ ¬ (2 < n ∧ tailB b2 = true) ∧ (cutN n b0 b1 b2 b3).ok = false ∧ (cutN n b0 b1 b2 b3).len = 2) ∨ (¬ (1 < n ∧ sec b0 b1 = true) ∧ (cutN n b0 b1 b2 b3).ok = false ∧ (cutN n b0 b1 b2 b3).len = 1))) ∨
    (sizeT b0 = 4 ∧ (((1 < n ∧ sec b0 b1 = true) ∧ (2 < n ∧ tailB b2 = true) ∧ (3 < n ∧ tailB b3 = true) ∧ (cutN n b0 b1 b2 b3).ok = true ∧ (cutN n b0 b1 b2 b3).len = 4) ∨
      ((1 < n ∧ sec b0 b1 = true) ∧ (2 < n ∧ tailB b2 = true) ∧ ¬ (3 < n ∧ tailB b3 = true) ∧ (cutN n b0 b1 b2 b3).ok = false ∧ (cutN n b0 b1 b2 b3).len = 3) ∨
      ((1 < n ∧ sec b0 b1 = true) ∧ ¬ (2 < n ∧ tailB b2 = true) ∧ (cutN n b0 b1 b2 b3).ok = false ∧ (cutN n b0 b1 b2 b3).len = 2) ∨ (¬ (1 < n ∧ sec b0 b1 = true) ∧ (cutN n b0 b1 b2 b3).ok = false ∧ (cutN n b0 b1 b2 b3).len = 1))) := by
  by_cases c1 : b0 < 128
  · exact .inl ⟨by simp [sizeT, c1], by simp [cutN, c1]⟩
  by_cases c2 : b0 < 194
  · exact .inl ⟨by simp [sizeT, c1, c2], by simp [cutN, c1, c2]⟩
  by_cases c3 : b0 < 224
  · refine .inr (.inl ⟨by simp [sizeT, c1, c2, c3], ?_⟩)
    by_cases h : 1 < n ∧ sec b0 b1 = true
    · exact .inl ⟨h, by simp only [cutN, c1, c2, c3, if_true, if_false, if_pos h], by simp only [cutN, c1, c2, c3, if_true, if_false, if_pos h]⟩
    · exact .inr ⟨h, by simp only [cutN, c1, c2, c3, if_true, if_false, if_neg h], by simp only [cutN, c1, c2, c3, if_true, if_false, if_neg h]⟩
  by_cases c4 : b0 < 240
  · refine .inr (.inr (.inl ⟨by simp [sizeT, c1, c2, c3, c4], ?_⟩))
    by_cases h : 1 < n ∧ sec b0 b1 = true
    · by_cases h2 : 2 < n ∧ tailB b2 = true
      · exact .inl ⟨h, h2, by simp only [cutN, c1, c2, c3, c4, if_true, if_false, if_pos h, if_pos h2], by simp only [cutN, c1, c2, c3, c4, if_true, if_false, if_pos h, if_pos h2]⟩
      · exact .inr (.inl ⟨h, h2, by simp only [cutN, c1, c2, c3, c4, if_true, if_false, if_pos h, if_neg h2], by simp only [cutN, c1, c2, c3, c4, if_true, if_false, if_pos h, if_neg h2]⟩)
    · exact .inr (.inr ⟨h, by simp only [cutN, c1, c2, c3, c4, if_true, if_false, if_neg h], by simp only [cutN, c1, c2, c3, c4, if_true, if_false, if_neg h]⟩)
  by_cases c5 : b0 < 245
  · refine .inr (.inr (.inr ⟨by simp [sizeT, c1, c2, c3, c4, c5], ?_⟩))
    by_cases h : 1 < n ∧ sec b0 b1 = true
    · by_cases h2 : 2 < n ∧ tailB b2 = true
      · by_cases h3 : 3 < n ∧ tailB b3 = true
        · exact .inl ⟨h, h2, h3, by simp only [cutN, c1, c2, c3, c4, c5, if_true, if_false, if_pos h, if_pos h2, if_pos h3], by simp only [cutN, c1, c2, c3, c4, c5, if_true, if_false, if_pos h, if_pos h2, if_pos h3]⟩
        · exact .inr (.inl ⟨h, h2, h3, by simp only [cutN, c1, c2, c3, c4, c5, if_true, if_false, if_pos h, if_pos h2, if_neg h3], by simp only [cutN, c1, c2, c3, c4, c5, if_true, if_false, if_pos h, if_pos h2, if_neg h3]⟩)
      · exact .inr (.inr (.inl ⟨h, h2, by simp only [cutN, c1, c2, c3, c4, c5, if_true, if_false, if_pos h, if_neg h2], by simp only [cutN, c1, c2, c3, c4, c5, if_true, if_false, if_pos h, if_neg h2]⟩))
    · exact .inr (.inr (.inr ⟨h, by simp only [cutN, c1, c2, c3, c4, c5, if_true, if_false, if_neg h], by simp only [cutN, c1, c2, c3, c4, c5, if_true, if_false, if_neg h]⟩))
  · exact .inl ⟨by simp [sizeT, c1, c2, c3, c4, c5], by simp [cutN, c1, c2, c3, c4, c5]⟩

/-- The beginning of an ill-formed part is the part; that of a well-formed one goes no further than it. -/
theorem beg_cut (n b0 b1 b2 b3 : Nat) : ((cutN n b0 b1 b2 b3).ok = false → begN n b0 b1 b2 = (cutN n b0 b1 b2 b3).len) ∧ begN n b0 b1 b2 ≤ (cutN n b0 b1 b2 b3).len := by
  unfold begN
  rw [full2, full3]
  rcases cut_cases n b0 b1 b2 b3 with ⟨hs, hl⟩ | ⟨hs, ⟨⟨h1, h1'⟩, ho, hl⟩ | ⟨h1, ho, hl⟩⟩ | ⟨hs, ⟨⟨h1, h1'⟩, ⟨h2, h2'⟩, ho, hl⟩ | ⟨⟨h1, h1'⟩, h2, ho, hl⟩ | ⟨h1, ho, hl⟩⟩ | ⟨hs, ⟨⟨h1, h1'⟩, ⟨h2, h2'⟩, ⟨h3, h3'⟩, ho, hl⟩ | ⟨⟨h1, h1'⟩, ⟨h2, h2'⟩, h3, ho, hl⟩ | ⟨⟨h1, h1'⟩, h2, ho, hl⟩ | ⟨h1, ho, hl⟩⟩
  · rw [hl]
    have : sizeT b0 ≤ 2 := by omega
    simp [this]
  all_goals rw [hl, ho, hs]
  · simp
  · simp
  · simp [h1, h1', h2, h2']
  · simp [h1, h1']
  · have h : ¬ (1 < n ∧ (decide (3 ≤ 2) || !sec b0 b1) = false) := fun e => h1 ⟨e.1, by simpa using e.2⟩
    rw [if_neg h]; simp
  · simp [h1, h1', h2, h2']
  · simp [h1, h1', h2, h2']
  · have h : ¬ (2 < n ∧ (decide (4 ≤ 3) || !sec b0 b1 || !tailB b2) = false) := fun e => h2 ⟨e.1, by simpa [h1'] using e.2⟩
    rw [if_neg h]; simp [h1, h1']
  · have h : ¬ (1 < n ∧ (decide (4 ≤ 2) || !sec b0 b1) = false) := fun e => h1 ⟨e.1, by simpa using e.2⟩
    rw [if_neg h]; simp

theorem sec_tail {a b : Nat} (h : sec a b = true) : 128 ≤ b ∧ b ≤ 191 := by
  unfold sec at h
  repeat' split at h
  all_goals simp at h; omega

theorem cut_len (n b0 b1 b2 b3 : Nat) (hn : 1 ≤ n) : 1 ≤ (cutN n b0 b1 b2 b3).len ∧ (cutN n b0 b1 b2 b3).len ≤ n := by
  rcases cut_cases n b0 b1 b2 b3 with ⟨hs, hl⟩ | ⟨hs, ⟨⟨h1, h1'⟩, ho, hl⟩ | ⟨h1, ho, hl⟩⟩ | ⟨hs, ⟨⟨h1, h1'⟩, ⟨h2, h2'⟩, ho, hl⟩ | ⟨⟨h1, h1'⟩, h2, ho, hl⟩ | ⟨h1, ho, hl⟩⟩ | ⟨hs, ⟨⟨h1, h1'⟩, ⟨h2, h2'⟩, ⟨h3, h3'⟩, ho, hl⟩ | ⟨⟨h1, h1'⟩, ⟨h2, h2'⟩, h3, ho, hl⟩ | ⟨⟨h1, h1'⟩, h2, ho, hl⟩ | ⟨h1, ho, hl⟩⟩
  all_goals omega

/-- The bytes of an ill-formed part behind its first one begin no part. -/
theorem cut_tails (n b0 b1 b2 b3 : Nat) (h : (cutN n b0 b1 b2 b3).ok = false) : (2 ≤ (cutN n b0 b1 b2 b3).len → 128 ≤ b1 ∧ b1 ≤ 191) ∧ (3 ≤ (cutN n b0 b1 b2 b3).len → 128 ≤ b2 ∧ b2 ≤ 191) ∧ (cutN n b0 b1 b2 b3).len ≤ 3 := by
  rcases cut_cases n b0 b1 b2 b3 with ⟨hs, hl⟩ | ⟨hs, ⟨⟨h1, h1'⟩, ho, hl⟩ | ⟨h1, ho, hl⟩⟩ | ⟨hs, ⟨⟨h1, h1'⟩, ⟨h2, h2'⟩, ho, hl⟩ | ⟨⟨h1, h1'⟩, h2, ho, hl⟩ | ⟨h1, ho, hl⟩⟩ | ⟨hs, ⟨⟨h1, h1'⟩, ⟨h2, h2'⟩, ⟨h3, h3'⟩, ho, hl⟩ | ⟨⟨h1, h1'⟩, ⟨h2, h2'⟩, h3, ho, hl⟩ | ⟨⟨h1, h1'⟩, h2, ho, hl⟩ | ⟨h1, ho, hl⟩⟩
  all_goals rw [hl]
  all_goals first | (rw [ho] at h; cases h; done) | skip
  all_goals refine ⟨fun hh => ?_, fun hh => ?_, by omega⟩
  all_goals first | omega | exact sec_tail h1' | (simpa [tailB] using h2')

theorem cut_char_bad (n b0 b1 b2 b3 : Nat) (h : (cutN n b0 b1 b2 b3).ok = false) : (cutN n b0 b1 b2 b3).char = 65533 := by
  unfold cutN at h ⊢
  repeat' split
  all_goals first | rfl | (exfalso; simp_all; done)

def byteAt (s : ByteArray) (i : Nat) : Nat := (s.get! i).toNat
theorem byteAt_lt (s : ByteArray) (i : Nat) : byteAt s i < 256 := (s.get! i).toNat_lt
def cutAt (s : ByteArray) (i : Nat) : Part := cutN (s.size - i) (byteAt s i) (byteAt s (i + 1)) (byteAt s (i + 2)) (byteAt s (i + 3))
def begAt (s : ByteArray) (i : Nat) : Nat := begN (s.size - i) (byteAt s i) (byteAt s (i + 1)) (byteAt s (i + 2))

theorem decode_at_cut (s : ByteArray) (i : Nat) : Utf8.decode s i = if (cutAt s i).ok = true then ((cutAt s i).char, (cutAt s i).len) else (65533, 1) := by
  rw [decode_at]
  exact decode_cut _ _ _ _ _ (byteAt_lt _ _) (byteAt_lt _ _) (byteAt_lt _ _) (byteAt_lt _ _)
theorem decode_tail (s : ByteArray) (i : Nat) (h : 128 ≤ byteAt s i ∧ byteAt s i ≤ 191) : Utf8.decode s i = (65533, 1) := by
  rw [decode_at_cut]
  have h1 : ¬ byteAt s i < 128 := by omega
  have h2 : byteAt s i < 194 := by omega
  have : (cutAt s i).ok = false := by simp only [cutAt, cutN, h1, h2, if_true, if_false]
  rw [this]; rfl
theorem cutAt_len (s : ByteArray) (i : Nat) (h : i < s.size) : 1 ≤ (cutAt s i).len ∧ i + (cutAt s i).len ≤ s.size := by
  have := cut_len (s.size - i) (byteAt s i) (byteAt s (i + 1)) (byteAt s (i + 2)) (byteAt s (i + 3)) (by omega)
  exact ⟨this.1, by have := this.2; unfold cutAt; omega⟩

/-- The parts from a place on. -/
def partsF (s : ByteArray) : Nat → Nat → List Part
  | 0, _ => []
  | f + 1, i => if i < s.size then cutAt s i :: partsF s f (i + (cutAt s i).len) else []
theorem partsF_more (s : ByteArray) : ∀ (f g i : Nat), s.size - i ≤ f → s.size - i ≤ g → partsF s f i = partsF s g i
  | 0, 0, _, _, _ => rfl
  | 0, g + 1, i, h, _ => by unfold partsF; rw [if_neg (by omega)]
  | f + 1, 0, i, _, h => by unfold partsF; rw [if_neg (by omega)]
  | f + 1, g + 1, i, hf, hg => by
    unfold partsF
    by_cases hi : i < s.size
    · have := cutAt_len s i hi
      rw [if_pos hi, if_pos hi, partsF_more s f g _ (by omega) (by omega)]
    · rw [if_neg hi, if_neg hi]
def partsFrom (s : ByteArray) (i : Nat) : List Part := partsF s (s.size - i) i
def parts (s : ByteArray) : List Part := partsFrom s 0
theorem partsFrom_step (s : ByteArray) (i : Nat) (h : i < s.size) : partsFrom s i = cutAt s i :: partsFrom s (i + (cutAt s i).len) := by
  unfold partsFrom
  obtain ⟨f, hf⟩ : ∃ f, s.size - i = f + 1 := ⟨s.size - i - 1, by omega⟩
  have := cutAt_len s i h
  rw [hf, partsF, if_pos h, partsF_more s f _ _ (by omega) (Nat.le_refl _)]
theorem partsFrom_end (s : ByteArray) (i : Nat) (h : s.size ≤ i) : partsFrom s i = [] := by
  unfold partsFrom
  rw [show s.size - i = 0 by omega]; rfl

/-- What is still to come while the language goes over a text byte by byte behind an ill-formed beginning. -/
structure Ahead (s : ByteArray) (pos broken : Nat) : Prop where
  inside : broken ≤ s.size
  tails : ∀ p, pos ≤ p → p < broken → 128 ≤ byteAt s p ∧ byteAt s p ≤ 191
theorem ahead_zero (s : ByteArray) : Ahead s 0 0 := ⟨Nat.zero_le _, fun p _ h => by omega⟩
theorem ahead_skip {s : ByteArray} {pos broken : Nat} (h : Ahead s pos broken) (hlt : pos < broken) : (Utf8.decode s pos).2 = 1 ∧ Ahead s (pos + 1) broken := by
  rw [decode_tail s pos (h.tails pos (Nat.le_refl _) hlt)]
  exact ⟨rfl, h.inside, fun p hp => h.tails p (by omega)⟩
theorem ahead_part {s : ByteArray} {pos : Nat} (hi : pos < s.size) :
    (Utf8.decode s pos).1 = (cutAt s pos).char ∧
    ((Utf8.decode s pos).1 = 65533 → Ahead s (pos + (Utf8.decode s pos).2) (pos + begAt s pos) ∧ max (pos + (Utf8.decode s pos).2) (pos + begAt s pos) = pos + (cutAt s pos).len) ∧
    ((Utf8.decode s pos).1 ≠ 65533 → (Utf8.decode s pos).2 = (cutAt s pos).len) := by
  have hl := cutAt_len s pos hi
  have hb := beg_cut (s.size - pos) (byteAt s pos) (byteAt s (pos + 1)) (byteAt s (pos + 2)) (byteAt s (pos + 3))
  change ((cutAt s pos).ok = false → begAt s pos = (cutAt s pos).len) ∧ begAt s pos ≤ (cutAt s pos).len at hb
  have ht := cut_tails (s.size - pos) (byteAt s pos) (byteAt s (pos + 1)) (byteAt s (pos + 2)) (byteAt s (pos + 3))
  change (cutAt s pos).ok = false → _ at ht
  have hc := cut_char_bad (s.size - pos) (byteAt s pos) (byteAt s (pos + 1)) (byteAt s (pos + 2)) (byteAt s (pos + 3))
  change (cutAt s pos).ok = false → (cutAt s pos).char = 65533 at hc
  rw [decode_at_cut]
  cases ho : (cutAt s pos).ok with
  | true =>
    refine ⟨rfl, fun _ => ⟨⟨by omega, fun p h1 h2 => ?_⟩, ?_⟩, fun _ => rfl⟩
    · simp only [if_true] at h1; omega
    · simp only [if_true]; omega
  | false =>
    obtain ⟨t1, t2, t3⟩ := ht ho
    rw [hb.1 ho]
    refine ⟨(hc ho).symm, fun _ => ⟨⟨hl.2, fun p h1 h2 => ?_⟩, ?_⟩, fun h => absurd rfl h⟩
    · simp only [Bool.false_eq_true, if_false] at h1
      change 2 ≤ (cutAt s pos).len → _ at t1
      change 3 ≤ (cutAt s pos).len → _ at t2
      change (cutAt s pos).len ≤ 3 at t3
      by_cases e : p = pos + 1
      · subst e; exact t1 (by omega)
      · obtain rfl : p = pos + 2 := by omega
        exact t2 (by omega)
    · simp only [Bool.false_eq_true, if_false]; omega
end Go.UtfKit
namespace Go.Proofs.YtkfmfldkllkcbaaGreatDoor.U
open Go.RowKit Go.RunKit Go.UtfKit Go.Lib

/-- The library's two tables in a world. -/
structure Tabs (w : World) : Prop where
  first : ∀ b, b < 256 → w.cell? ⟨0, b, none⟩ = some (.int .u8 (firstT b : Nat))
  lo : ∀ i, i < 5 → w.cell? ⟨1, i * 2, none⟩ = some (.int .u8 (accLo i : Nat))
  hi : ∀ i, i < 5 → w.cell? ⟨1, i * 2 + 1, none⟩ = some (.int .u8 (accHi i : Nat))
theorem Tabs.on {w w' : World} (h : Tabs w) (hb : Below w.heap.size w w') : Tabs w' := by
  have h0 : 0 < w.heap.size := World.block_lt_of_cell? _ _ (h.first 0 (by omega))
  have h1 : 1 < w.heap.size := World.block_lt_of_cell? _ _ (h.lo 0 (by omega))
  have k0 : ∀ b, w'.cell? ⟨0, b, none⟩ = w.cell? ⟨0, b, none⟩ := fun b => hb.cell h0
  have k1 : ∀ b, w'.cell? ⟨1, b, none⟩ = w.cell? ⟨1, b, none⟩ := fun b => hb.cell h1
  exact ⟨fun b hb' => by rw [k0]; exact h.first b hb', fun i hi => by rw [k1]; exact h.lo i hi, fun i hi => by rw [k1]; exact h.hi i hi⟩

theorem byteAt_get (s : ByteArray) (i : Nat) (h : i < s.size) : byteAt s i = (s[i]'h).toNat := by
  unfold byteAt
  congr 1
  simp [ByteArray.get!, getElem!_pos, h]
  rfl

/-- What utf8.FullRuneInString tells of a text whose first byte has the row x of the table. -/
def fullT (n sz lo hi b1 b2 : Nat) : Bool := decide (sz ≤ n) || (decide (1 < n) && (decide (b1 < lo) || decide (hi < b1))) || (decide (2 < n) && (decide (b2 < 128) || decide (191 < b2)))

set_option maxRecDepth 100000 in
set_option maxHeartbeats 2000000 in
theorem full_multi (s : ByteArray) (w : World) (hs : 0 < s.size) (b0 x sz lo hi idx : Nat) (e0 : (s[0]'hs).toNat = b0) (hc : w.cell? ⟨0, b0, none⟩ = some (.int .u8 (x : Nat)))
    (hx : (x = 2 ∧ sz = 2 ∧ idx = 0) ∨ (x = 3 ∧ sz = 3 ∧ idx = 0) ∨ (x = 19 ∧ sz = 3 ∧ idx = 1) ∨ (x = 35 ∧ sz = 3 ∧ idx = 2) ∨ (x = 4 ∧ sz = 4 ∧ idx = 0) ∨ (x = 52 ∧ sz = 4 ∧ idx = 3) ∨ (x = 68 ∧ sz = 4 ∧ idx = 4))
    (hb0 : b0 < 256) (hl : w.cell? ⟨1, idx * 2, none⟩ = some (.int .u8 (lo : Nat))) (hh : w.cell? ⟨1, idx * 2 + 1, none⟩ = some (.int .u8 (hi : Nat))) :
    Calls Tryz.prog 137 #[.string s] w fun e w' => e = .returned (.bool (fullT s.size sz lo hi (byteAt s 1) (byteAt s 2))) ∧ Below w.heap.size w w' := by
  have hb := Below.refl w.heap.size w
  have hb2 : Below w.heap.size w (w.alloc (.cells #[.int .u8 (lo : Nat), .int .u8 (hi : Nat)] 160)) := hb.alloc (Nat.le_refl _) _
  have hn1 : s.size ≠ 0 := by omega
  by_cases hn : sz ≤ s.size
  · have hR : Hid (fullT s.size sz lo hi (byteAt s 1) (byteAt s 2) = true) := Lib.hid (by simp [fullT, hn])
    have hnI : (sz : Int) ≤ s.size := by omega
    rcases hx with ⟨rfl, rfl, rfl⟩ | ⟨rfl, rfl, rfl⟩ | ⟨rfl, rfl, rfl⟩ | ⟨rfl, rfl, rfl⟩ | ⟨rfl, rfl, rfl⟩ | ⟨rfl, rfl, rfl⟩ | ⟨rfl, rfl, rfl⟩
    all_goals
      go_enter Tryz.func137, Tryz.ntmps137
      go_wp2
      go_ret
      rw [hR.out]
      exact ⟨rfl, hb⟩
  · by_cases n1 : s.size = 1
    · have hR : Hid (fullT s.size sz lo hi (byteAt s 1) (byteAt s 2) = false) := Lib.hid (by simp [fullT, n1]; omega)
      have n1' : ¬ (1 : Int) < s.size := by omega
      have n2' : ¬ (2 : Int) < s.size := by omega
      have n3' : ¬ (sz : Int) ≤ s.size := by omega
      rcases hx with ⟨rfl, rfl, rfl⟩ | ⟨rfl, rfl, rfl⟩ | ⟨rfl, rfl, rfl⟩ | ⟨rfl, rfl, rfl⟩ | ⟨rfl, rfl, rfl⟩ | ⟨rfl, rfl, rfl⟩ | ⟨rfl, rfl, rfl⟩
      all_goals first | (exfalso; omega; done) | skip
      all_goals
        go_enter Tryz.func137, Tryz.ntmps137
        go_wp2
        all_goals (try go_quiet (fail))
        all_goals (try go_wp2)
        all_goals (try go_quiet (fail))
        all_goals (try go_wp2)
        all_goals go_ret
        all_goals rw [hR.out]
        all_goals exact ⟨rfl, by first | exact hb2 | exact below_drewN hb2 _ | exact below_drewN (below_drewN hb2 _) _⟩
    · have l1 : 1 < s.size := by omega
      have e1 := byteAt_get s 1 l1
      have n1' : (1 : Int) < s.size := by omega
      generalize byteAt s 1 = b1 at *
      have n3' : ¬ (sz : Int) ≤ s.size := by omega
      by_cases c1 : b1 < lo
      · have hR : Hid (fullT s.size sz lo hi b1 (byteAt s 2) = true) := Lib.hid (by simp [fullT, l1, c1])
        have c1' : (b1 : Int) < lo := by omega
        rw [e1] at c1'
        rcases hx with ⟨rfl, rfl, rfl⟩ | ⟨rfl, rfl, rfl⟩ | ⟨rfl, rfl, rfl⟩ | ⟨rfl, rfl, rfl⟩ | ⟨rfl, rfl, rfl⟩ | ⟨rfl, rfl, rfl⟩ | ⟨rfl, rfl, rfl⟩
        all_goals first | (exfalso; omega; done) | skip
        all_goals
          go_enter Tryz.func137, Tryz.ntmps137
          go_wp2
          all_goals (try go_quiet (fail))
          all_goals (try go_wp2)
          all_goals (try go_quiet (fail))
          all_goals (try go_wp2)
          all_goals go_ret
          all_goals rw [hR.out]
          all_goals exact ⟨rfl, by first | exact hb2 | exact below_drewN hb2 _ | exact below_drewN (below_drewN hb2 _) _⟩
      · have c1' : ¬ (b1 : Int) < lo := by omega
        rw [e1] at c1'
        have c1f := eq_false c1'
        clear c1'
        by_cases c2 : hi < b1
        · have hR : Hid (fullT s.size sz lo hi b1 (byteAt s 2) = true) := Lib.hid (by simp [fullT, l1, c2])
          have c2' : (hi : Int) < b1 := by omega
          rw [e1] at c2'
          rcases hx with ⟨rfl, rfl, rfl⟩ | ⟨rfl, rfl, rfl⟩ | ⟨rfl, rfl, rfl⟩ | ⟨rfl, rfl, rfl⟩ | ⟨rfl, rfl, rfl⟩ | ⟨rfl, rfl, rfl⟩ | ⟨rfl, rfl, rfl⟩
          all_goals first | (exfalso; omega; done) | skip
          all_goals
            go_enter Tryz.func137, Tryz.ntmps137
            go_wp2
            all_goals (try go_quiet (fail))
            all_goals (try go_wp2)
            all_goals (try go_quiet (fail))
            all_goals (try go_wp2)
            all_goals go_ret
            all_goals rw [hR.out]
            all_goals exact ⟨rfl, by first | exact hb2 | exact below_drewN hb2 _ | exact below_drewN (below_drewN hb2 _) _⟩
        · have c2' : ¬ (hi : Int) < b1 := by omega
          rw [e1] at c2'
          have c2f := eq_false c2'
          clear c2'
          by_cases n2 : s.size = 2
          · have hR : Hid (fullT s.size sz lo hi b1 (byteAt s 2) = false) := Lib.hid (by simp [fullT, n2, c1, c2]; omega)
            have n2f := eq_false (show ¬ (2 : Int) < s.size by omega)
            rcases hx with ⟨rfl, rfl, rfl⟩ | ⟨rfl, rfl, rfl⟩ | ⟨rfl, rfl, rfl⟩ | ⟨rfl, rfl, rfl⟩ | ⟨rfl, rfl, rfl⟩ | ⟨rfl, rfl, rfl⟩ | ⟨rfl, rfl, rfl⟩
            all_goals first | (exfalso; omega; done) | skip
            all_goals
              go_enter Tryz.func137, Tryz.ntmps137
              go_wp2
              all_goals (try go_quiet (fail))
              all_goals (try go_wp2)
              all_goals (try go_quiet (fail))
              all_goals (try go_wp2)
              all_goals go_ret
              all_goals rw [hR.out]
              all_goals exact ⟨rfl, by first | exact hb2 | exact below_drewN hb2 _ | exact below_drewN (below_drewN hb2 _) _⟩
          · have l2 : 2 < s.size := by omega
            have e2 := byteAt_get s 2 l2
            have n2' : (2 : Int) < s.size := by omega
            generalize byteAt s 2 = b2 at *
            have hsz : ¬ sz ≤ s.size := hn
            by_cases d1 : b2 < 128
            · have hR : Hid (fullT s.size sz lo hi b1 b2 = true) := Lib.hid (by simp [fullT, l2, d1])
              have d1' : (b2 : Int) < 128 := by omega
              rw [e2] at d1'
              rcases hx with ⟨rfl, rfl, rfl⟩ | ⟨rfl, rfl, rfl⟩ | ⟨rfl, rfl, rfl⟩ | ⟨rfl, rfl, rfl⟩ | ⟨rfl, rfl, rfl⟩ | ⟨rfl, rfl, rfl⟩ | ⟨rfl, rfl, rfl⟩
              all_goals first | (exfalso; omega; done) | skip
              all_goals
                go_enter Tryz.func137, Tryz.ntmps137
                go_wp2
                all_goals (try go_quiet (fail))
                all_goals (try go_wp2)
                all_goals (try go_quiet (fail))
                all_goals (try go_wp2)
                all_goals go_ret
                all_goals rw [hR.out]
                all_goals exact ⟨rfl, by first | exact hb2 | exact below_drewN hb2 _ | exact below_drewN (below_drewN hb2 _) _⟩
            · have d1f := eq_false (show ¬ (b2 : Int) < 128 by omega)
              rw [e2] at d1f
              by_cases d2 : 191 < b2
              · have hR : Hid (fullT s.size sz lo hi b1 b2 = true) := Lib.hid (by simp [fullT, l2, d2])
                have d2' : (191 : Int) < b2 := by omega
                rw [e2] at d2'
                rcases hx with ⟨rfl, rfl, rfl⟩ | ⟨rfl, rfl, rfl⟩ | ⟨rfl, rfl, rfl⟩ | ⟨rfl, rfl, rfl⟩ | ⟨rfl, rfl, rfl⟩ | ⟨rfl, rfl, rfl⟩ | ⟨rfl, rfl, rfl⟩
                all_goals first | (exfalso; omega; done) | skip
                all_goals
                  go_enter Tryz.func137, Tryz.ntmps137
                  go_wp2
                  all_goals (try go_quiet (fail))
                  all_goals (try go_wp2)
                  all_goals (try go_quiet (fail))
                  all_goals (try go_wp2)
                  all_goals go_ret
                  all_goals rw [hR.out]
                  all_goals exact ⟨rfl, by first | exact hb2 | exact below_drewN hb2 _ | exact below_drewN (below_drewN hb2 _) _⟩
              · have d2f := eq_false (show ¬ (191 : Int) < b2 by omega)
                rw [e2] at d2f
                have hR : Hid (fullT s.size sz lo hi b1 b2 = false) := Lib.hid (by simp [fullT, hsz, c1, c2, d1, d2])
                rcases hx with ⟨rfl, rfl, rfl⟩ | ⟨rfl, rfl, rfl⟩ | ⟨rfl, rfl, rfl⟩ | ⟨rfl, rfl, rfl⟩ | ⟨rfl, rfl, rfl⟩ | ⟨rfl, rfl, rfl⟩ | ⟨rfl, rfl, rfl⟩
                all_goals first | (exfalso; omega; done) | skip
                all_goals
                  go_enter Tryz.func137, Tryz.ntmps137
                  go_wp2
                  all_goals (try go_quiet (fail))
                  all_goals (try go_wp2)
                  all_goals (try go_quiet (fail))
                  all_goals (try go_wp2)
                  all_goals go_ret
                  all_goals rw [hR.out]
                  all_goals exact ⟨rfl, by first | exact hb2 | exact below_drewN hb2 _ | exact below_drewN (below_drewN hb2 _) _⟩
end Go.Proofs.YtkfmfldkllkcbaaGreatDoor.U
namespace Go.Proofs.YtkfmfldkllkcbaaGreatDoor.U
open Go.RowKit Go.RunKit Go.UtfKit Go.Lib

theorem from_base {P : Program} {f : FuncId} {args : Array Value} {w0 w : World} {v : Ending} (hb : Below w0.heap.size w0 w) (h : Calls P f args w fun e w' => e = v ∧ Below w.heap.size w w') :
    Calls P f args w fun e w' => e = v ∧ Below w0.heap.size w0 w' := h.mono fun _ _ h => ⟨h.1, hb.trans (h.2.mono hb.size)⟩

set_option maxRecDepth 100000 in
set_option maxHeartbeats 2000000 in
theorem full_small (s : ByteArray) (w : World) (hs : 0 < s.size) (b0 x : Nat) (e0 : (s[0]'hs).toNat = b0) (hb0 : b0 < 256) (hc : w.cell? ⟨0, b0, none⟩ = some (.int .u8 (x : Nat))) (hx : x = 240 ∨ x = 241) :
    Calls Tryz.prog 137 #[.string s] w fun e w' => e = .returned (.bool true) ∧ Below w.heap.size w w' := by
  have hb := Below.refl w.heap.size w
  have hn1 : s.size ≠ 0 := by omega
  have hnI : (1 : Int) ≤ s.size := by omega
  have hnJ : (0 : Int) ≤ s.size := by omega
  rcases hx with rfl | rfl
  all_goals
    go_enter Tryz.func137, Tryz.ntmps137
    go_wp2
    go_ret
    exact ⟨rfl, hb⟩

theorem fullT_eq {n sz lo hi b0 b1 b2 : Nat} (hn : 0 < n) (hz : sizeT b0 = sz) (hsec : sec b0 b1 = decide (lo ≤ b1 ∧ b1 ≤ hi)) : fullT n sz lo hi b1 b2 = fullN n b0 b1 b2 := by
  unfold fullT fullN
  rw [hsec, hz]
  have e1 : (!decide (lo ≤ b1 ∧ b1 ≤ hi)) = (decide (b1 < lo) || decide (hi < b1)) := by
    by_cases h1 : b1 < lo
    · simp [h1]
    · by_cases h2 : hi < b1
      · simp [h2]
      · simp [h1, h2]; omega
  have e2 : (!tailB b2) = (decide (b2 < 128) || decide (191 < b2)) := by
    unfold tailB
    by_cases h1 : b2 < 128
    · simp [h1]
    · by_cases h2 : 191 < b2
      · simp [h2]
      · simp [h1, h2]; omega
  rw [e1, e2]
  simp [hn]

theorem full_any (s : ByteArray) (w : World) (hw : Tabs w) (hs : 0 < s.size) :
    Calls Tryz.prog 137 #[.string s] w fun e w' => e = .returned (.bool (fullN s.size (byteAt s 0) (byteAt s 1) (byteAt s 2))) ∧ Below w.heap.size w w' := by
  have e0 := (byteAt_get s 0 hs).symm
  have hlt := byteAt_lt s 0
  generalize byteAt s 0 = b0 at *
  have hc := hw.first b0 hlt
  have hsmall : sizeT b0 ≤ 1 → fullN s.size b0 (byteAt s 1) (byteAt s 2) = true := fun h => by
    have : sizeT b0 ≤ s.size := by omega
    simp [fullN, hs, this]
  by_cases c1 : b0 < 128
  · rw [hsmall (by simp [sizeT, c1])]
    exact full_small s w hs b0 _ e0 hlt hc (.inl (by simp [firstT, c1]))
  by_cases c2 : b0 < 194
  · rw [hsmall (by simp [sizeT, c1, c2])]
    exact full_small s w hs b0 _ e0 hlt hc (.inr (by simp [firstT, c1, c2]))
  by_cases c3 : b0 < 224
  · rw [← fullT_eq (lo := 128) (hi := 191) hs (show sizeT b0 = 2 by simp [sizeT, c1, c2, c3]) (by unfold sec; rw [if_neg (by omega), if_neg (by omega), if_neg (by omega), if_neg (by omega)])]
    exact full_multi s w hs b0 _ 2 128 191 0 e0 hc (.inl ⟨by simp [firstT, c1, c2, c3], rfl, rfl⟩) hlt (hw.lo 0 (by omega)) (hw.hi 0 (by omega))
  by_cases c4 : b0 = 224
  · subst c4
    rw [← fullT_eq (lo := 160) (hi := 191) hs (show sizeT 224 = 3 by rfl) rfl]
    exact full_multi s w hs 224 _ 3 160 191 1 e0 hc (.inr (.inr (.inl ⟨rfl, rfl, rfl⟩))) hlt (hw.lo 1 (by omega)) (hw.hi 1 (by omega))
  by_cases c5 : b0 = 237
  · subst c5
    rw [← fullT_eq (lo := 128) (hi := 159) hs (show sizeT 237 = 3 by rfl) rfl]
    exact full_multi s w hs 237 _ 3 128 159 2 e0 hc (.inr (.inr (.inr (.inl ⟨rfl, rfl, rfl⟩)))) hlt (hw.lo 2 (by omega)) (hw.hi 2 (by omega))
  by_cases c6 : b0 < 240
  · rw [← fullT_eq (lo := 128) (hi := 191) hs (show sizeT b0 = 3 by simp [sizeT, c1, c2, c3, c6]) (by unfold sec; rw [if_neg (by omega), if_neg (by omega), if_neg (by omega), if_neg (by omega)])]
    refine full_multi s w hs b0 _ 3 128 191 0 e0 hc (.inr (.inl ⟨?_, rfl, rfl⟩)) hlt (hw.lo 0 (by omega)) (hw.hi 0 (by omega))
    by_cases h : b0 < 237
    · simp [firstT, c1, c2, c3, c4, h]
    · simp [firstT, c1, c2, c3, c4, c5, h, c6]
  by_cases c7 : b0 = 240
  · subst c7
    rw [← fullT_eq (lo := 144) (hi := 191) hs (show sizeT 240 = 4 by rfl) rfl]
    exact full_multi s w hs 240 _ 4 144 191 3 e0 hc (.inr (.inr (.inr (.inr (.inr (.inl ⟨rfl, rfl, rfl⟩)))))) hlt (hw.lo 3 (by omega)) (hw.hi 3 (by omega))
  by_cases c8 : b0 = 244
  · subst c8
    rw [← fullT_eq (lo := 128) (hi := 143) hs (show sizeT 244 = 4 by rfl) rfl]
    exact full_multi s w hs 244 _ 4 128 143 4 e0 hc (.inr (.inr (.inr (.inr (.inr (.inr ⟨rfl, rfl, rfl⟩)))))) hlt (hw.lo 4 (by omega)) (hw.hi 4 (by omega))
  by_cases c9 : b0 < 244
  · rw [← fullT_eq (lo := 128) (hi := 191) hs (show sizeT b0 = 4 by simp only [sizeT]; rw [if_neg c1, if_neg c2, if_neg c3, if_neg c6, if_pos (by omega)]) (by unfold sec; rw [if_neg (by omega), if_neg (by omega), if_neg (by omega), if_neg (by omega)])]
    refine full_multi s w hs b0 _ 4 128 191 0 e0 hc (.inr (.inr (.inr (.inr (.inl ⟨?_, rfl, rfl⟩))))) hlt (hw.lo 0 (by omega)) (hw.hi 0 (by omega))
    simp only [firstT]
    rw [if_neg c1, if_neg c2, if_neg c3, if_neg c4, if_neg (by omega), if_neg c5, if_neg c6, if_neg c7, if_pos c9]
  · rw [hsmall (by simp only [sizeT]; rw [if_neg c1, if_neg c2, if_neg c3, if_neg c6, if_neg (by omega)]; omega)]
    refine full_small s w hs b0 _ e0 hlt hc (.inr ?_)
    simp only [firstT]
    rw [if_neg c1, if_neg c2, if_neg c3, if_neg c4, if_neg (by omega), if_neg c5, if_neg c6, if_neg c7, if_neg c9, if_neg c8]

theorem byteAt_take (s : ByteArray) (k i : Nat) (hk : k ≤ s.size) (hi : i < k) : byteAt (s.extract 0 k) i = byteAt s i := by
  have h1 : i < (s.extract 0 k).size := by simp; omega
  rw [byteAt_get _ _ h1, byteAt_get s i (by omega)]
  congr 1
  simp [ByteArray.getElem_extract]

theorem fullN_two (b0 b1 b2 : Nat) : fullN 2 b0 b1 b2 = fullN 2 b0 b1 0 := by simp [fullN]
theorem fullN_four (b0 b1 b2 : Nat) : fullN 4 b0 b1 b2 = true := by
  have : sizeT b0 ≤ 4 := by unfold sizeT; repeat' split
                            all_goals omega
  simp [fullN, this]

/-- One more byte is looked at. -/
theorem full_take (s : ByteArray) (w : World) (hw : Tabs w) (k : Nat) (hk : k + 1 ≤ s.size) :
    Calls Tryz.prog 137 #[.string (s.extract 0 (k + 1))] w fun e w' => e = .returned (.bool (fullN (k + 1) (byteAt s 0) (byteAt (s.extract 0 (k + 1)) 1) (byteAt (s.extract 0 (k + 1)) 2))) ∧ Below w.heap.size w w' := by
  have h := full_any (s.extract 0 (k + 1)) w hw (by simp; omega)
  rw [byteAt_take s (k + 1) 0 hk (by omega)] at h
  have hz : (s.extract 0 (k + 1)).size = k + 1 := by simp; omega
  rwa [hz] at h

/-- So far the bytes looked at begin no whole part. -/
def Open (s : ByteArray) (k : Nat) : Prop := (2 ≤ k → 1 < s.size ∧ fullN 2 (byteAt s 0) (byteAt s 1) 0 = false) ∧ (3 ≤ k → 2 < s.size ∧ fullN 3 (byteAt s 0) (byteAt s 1) (byteAt s 2) = false)
theorem take_full (s : ByteArray) (k : Nat) (hk1 : 1 ≤ k) (hk3 : k ≤ 3) (hk : k + 1 ≤ s.size) : fullN (k + 1) (byteAt s 0) (byteAt (s.extract 0 (k + 1)) 1) (byteAt (s.extract 0 (k + 1)) 2) =
    if k = 1 then fullN 2 (byteAt s 0) (byteAt s 1) 0 else if k = 2 then fullN 3 (byteAt s 0) (byteAt s 1) (byteAt s 2) else true := by
  rw [byteAt_take s (k + 1) 1 hk (by omega)]
  by_cases h1 : k = 1
  · subst h1; rw [fullN_two]; rfl
  · rw [if_neg h1]
    rw [byteAt_take s (k + 1) 2 hk (by omega)]
    by_cases h2 : k = 2
    · subst h2; rfl
    · obtain rfl : k = 3 := by omega
      exact fullN_four _ _ _
theorem open_on {s : ByteArray} {k : Nat} (hk1 : 1 ≤ k) (hk3 : k ≤ 3) (hk : k + 1 ≤ s.size) (h : Open s k) (hf : fullN (k + 1) (byteAt s 0) (byteAt (s.extract 0 (k + 1)) 1) (byteAt (s.extract 0 (k + 1)) 2) = false) : k + 1 ≤ 3 ∧ Open s (k + 1) := by
  rw [take_full s k hk1 hk3 hk] at hf
  by_cases h1 : k = 1
  · subst h1; exact ⟨by omega, fun _ => ⟨by omega, by simpa using hf⟩, fun h => by omega⟩
  · by_cases h2 : k = 2
    · subst h2; exact ⟨by omega, fun _ => h.1 (by omega), fun _ => ⟨by omega, by simpa using hf⟩⟩
    · simp [h1, h2] at hf
theorem open_stop {s : ByteArray} {k : Nat} (hk1 : 1 ≤ k) (hk3 : k ≤ 3) (hk : k ≤ s.size) (h : Open s k) (hf : k = s.size ∨ (k + 1 ≤ s.size ∧ fullN (k + 1) (byteAt s 0) (byteAt (s.extract 0 (k + 1)) 1) (byteAt (s.extract 0 (k + 1)) 2) = true)) :
    begN s.size (byteAt s 0) (byteAt s 1) (byteAt s 2) = k := by
  unfold begN
  by_cases h1 : k = 1
  · subst h1
    rw [if_neg]
    rintro ⟨a, b⟩
    rcases hf with e | ⟨e, hf⟩
    · omega
    · rw [take_full s 1 hk1 hk3 e, if_pos rfl, b] at hf; cases hf
  · by_cases h2 : k = 2
    · subst h2
      rw [if_pos (h.1 (by omega)), if_neg]
      rintro ⟨a, b⟩
      rcases hf with e | ⟨e, hf⟩
      · omega
      · rw [take_full s 2 hk1 hk3 e, if_neg (by omega), if_pos rfl, b] at hf; cases hf
    · obtain rfl : k = 3 := by omega
      rw [if_pos (h.1 (by omega)), if_pos (h.2 (by omega))]

set_option maxRecDepth 100000 in
set_option maxHeartbeats 2000000 in
theorem beg_any (s : ByteArray) (w : World) (hw : Tabs w) (hs : 0 < s.size) :
    Calls Tryz.prog 105 #[.string s] w fun e w' => e = .returned (.int .i64 (begN s.size (byteAt s 0) (byteAt s 1) (byteAt s 2) : Nat)) ∧ Below w.heap.size w w' := by
  have hb := Below.refl w.heap.size w
  have HW := Lib.hid hw
  clear hw
  go_enter Tryz.func105, Tryz.ntmps105
  go_wp2
  go_loopw [3] (fun i wr => ∃ k : Nat, 1 ≤ k ∧ k ≤ 3 ∧ k ≤ s.size ∧ i = .int .i64 k ∧ Below w.heap.size w wr ∧ Hid (Open s k)) (fun i _ => 4 - (RowKit.intOf i).toNat)
  case atStart => exact ⟨1, by omega, by omega, by omega, rfl, hb, Lib.hid ⟨fun h => by omega, fun h => by omega⟩⟩
  case round =>
    clear hb
    obtain ⟨k, hk1, hk3, hks, rfl, hb, HI⟩ := hrel
    by_cases hlt : k < s.size
    · have HC := Lib.hid (full_take s wr (HW.out.on hb) k (by omega))
      generalize hv : fullN (k + 1) (byteAt s 0) (byteAt (s.extract 0 (k + 1)) 1) (byteAt (s.extract 0 (k + 1)) 2) = v at HC
      cases v with
      | true =>
        have HV := Lib.hid hv
        clear hv
        go_wp2_with (go_at_call 137; refine (from_base hb HC.out).mono ?_; rintro e w' ⟨rfl, hb'⟩)
        have e := open_stop hk1 hk3 hks HI.out (.inr ⟨by omega, HV.out⟩)
        go_ret
        rw [e]
        exact ⟨rfl, hb'⟩
      | false =>
        have HV := Lib.hid hv
        clear hv
        go_wp2_with (go_at_call 137; refine (from_base hb HC.out).mono ?_; rintro e w' ⟨rfl, hb'⟩)
        have e := open_on hk1 hk3 (by omega) HI.out HV.out
        exact ⟨⟨k + 1, by omega, e.1, by omega, by go_num, hb', Lib.hid e.2⟩, by simp [RowKit.intOf]; omega⟩
    · have e := open_stop hk1 hk3 hks HI.out (.inl (by omega))
      go_wp2
      go_ret
      rw [e]
      exact ⟨rfl, hb⟩
end Go.Proofs.YtkfmfldkllkcbaaGreatDoor.U
namespace Go.Proofs.YtkfmfldkllkcbaaGreatDoor.U
open Go.RowKit Go.RunKit Go.UtfKit Go.Lib Go.Shelf

/-- A world in which iterators may have gone on, and blocks have been laid: all below n0, and all cells, are as they were. -/
structure Beside (n0 : Nat) (w w' : World) : Prop where
  os : w'.os = w.os
  tape : w'.tape = w.tape
  output : w'.output = w.output
  size : w.heap.size ≤ w'.heap.size
  low : ∀ k : Nat, k < n0 → w'.heap[k]? = w.heap[k]?
  cells : ∀ (k : Nat) (c : Array Value) (t : TypeId) (fr : Nat × Nat), w.heap[k]? = some (Obj.cells c t fr) → w'.heap[k]? = some (Obj.cells c t fr)
theorem Beside.of_below {n0 : Nat} {w w' : World} (h : Below w.heap.size w w') (hn : n0 ≤ w.heap.size) : Beside n0 w w' :=
  ⟨h.os, h.tape, h.output, h.size, fun k hk => h.block k (by omega), fun k c t fr hk => by
    have hlt : k < w.heap.size := (Array.getElem?_eq_some_iff.1 hk).1
    rw [h.block k hlt]; exact hk⟩
theorem Beside.iterAt {n0 : Nat} {w : World} {k pos pos' : Nat} {s : ByteArray} (hk : w.heap[k]? = some (Obj.stringIter s pos)) (hn : n0 ≤ k) : Beside n0 w (w.iterAt k s pos') :=
  ⟨rfl, rfl, rfl, by rw [iterAt_size]; exact Nat.le_refl _, fun j hj => iterAt_other w k j s pos' (by omega), fun j c t fr hj => by
    by_cases e : j = k
    · subst e; rw [hk] at hj; cases hj
    · rw [iterAt_other w k j s pos' e]; exact hj⟩

/-- What a closure that takes the characters of s keeps: 'Inv d w': behind the parts d it stands so. -/
structure Takes (P : Program) (g : FuncId) (cb : Array Value) (s : ByteArray) (n0 : Nat) (Inv : List Part → World → Prop) : Prop where
  enters : ∀ args w, (callFunc g args).run P w = .ok (.enter g args) w
  tabs : ∀ d w, Inv d w → Tabs w
  beside : ∀ d w w', Inv d w → Beside n0 w w' → Inv d w'
  step : ∀ d p r w, d ++ p :: r = parts s → Inv d w → Calls P g (#[.int .i32 (p.char : Nat)] ++ cb) w fun e w' => e = .returned (.tuple #[]) ∧ Inv (d ++ [p]) w' ∧ w.heap.size ≤ w'.heap.size ∧ ∀ (k : Nat) (t : ByteArray) (pos : Nat), w.heap[k]? = some (Obj.stringIter t pos) → w'.heap[k]? = some (Obj.stringIter t pos)

theorem byteAt_drop (s : ByteArray) (pos i : Nat) : byteAt (s.extract pos s.size) i = byteAt s (pos + i) := by
  by_cases h : pos + i < s.size
  · have h1 : i < (s.extract pos s.size).size := by simp; omega
    rw [byteAt_get _ _ h1, byteAt_get s _ h]
    congr 1
    simp [ByteArray.getElem_extract]
  · have h1 : ¬ i < (s.extract pos s.size).size := by simp; omega
    have e : ∀ (t : ByteArray) (j : Nat), ¬ j < t.size → byteAt t j = 0 := fun t j hj => by
      unfold byteAt
      have : t.data[j]! = default := getElem!_neg _ _ hj
      show (t.data[j]!).toNat = 0
      rw [this]; rfl
    rw [e _ _ h1, e _ _ h]
theorem begAt_drop (s : ByteArray) (pos : Nat) : begN (s.extract pos s.size).size (byteAt (s.extract pos s.size) 0) (byteAt (s.extract pos s.size) 1) (byteAt (s.extract pos s.size) 2) = begAt s pos := by
  rw [byteAt_drop, byteAt_drop, byteAt_drop]
  have : (s.extract pos s.size).size = s.size - pos := by simp
  rw [this]; rfl

set_option maxRecDepth 100000 in
set_option maxHeartbeats 2000000 in
theorem each_any (g : FuncId) (cb : Array Value) (s : ByteArray) (Inv : List Part → World → Prop) (w : World) (H : Takes Tryz.prog g cb s w.heap.size Inv) (h0 : Inv [] w) (hsz : s.size < 4611686018427387904) :
    Calls Tryz.prog 79 #[.string s, .func (.func g) #[] cb] w fun e w' => e = .returned (.tuple #[]) ∧ Inv (parts s) w' := by
  have eg := H.enters
  have HH := Lib.hid H
  have HI := Lib.hid h0
  clear H h0
  go_enter Tryz.func79, Tryz.ntmps79
  go_wp2
  have hB : Below w.heap.size w (w.iter s 0) := (Below.refl _ _).alloc (Nat.le_refl _) _
  have hk : (w.iter s 0).heap[w.heap.size]? = some (Obj.stringIter s 0) := World.iter_heap _ _ _
  have hsz0 : w.heap.size < (w.iter s 0).heap.size := (Array.getElem?_eq_some_iff.1 hk).1
  have HJ := Lib.hid (HH.out.beside [] w _ HI.out (Beside.of_below hB (Nat.le_refl _)))
  generalize w.iter s 0 = W at *
  clear hB HI
  generalize w.heap.size = kI at *
  have D0 : Hid (([] : List Part) ++ partsFrom s (max 0 0) = parts s ∧ Ahead s 0 0) := Lib.hid ⟨rfl, ahead_zero s⟩
  go_loopw [4] (fun b wr => ∃ (pos broken : Nat) (d : List Part), b = .int .i64 broken ∧ pos ≤ s.size ∧ wr.heap[kI]? = some (Obj.stringIter s pos) ∧ Hid (Inv d wr) ∧ Hid (d ++ partsFrom s (max pos broken) = parts s ∧ Ahead s pos broken) ∧ kI < wr.heap.size) (fun _ wr => s.size - wr.iterPos kI)
  case atStart => exact ⟨0, 0, [], rfl, Nat.zero_le _, hk, HJ, D0, hsz0⟩
  case round =>
    clear hk HJ D0 hsz0
    obtain ⟨pos, broken, d, rfl, hpos, hk, HJ, HD, hsz0⟩ := hrel
    by_cases hlt : pos < s.size
    · have hnext := fun ty => run_next_any_at (P := Tryz.prog) wr kI s pos ty hk hlt
      by_cases hbr : pos < broken
      · have HA := Lib.hid (ahead_skip HD.out.2 hbr)
        go_wp2
        have e := HA.out.1
        have hb := Beside.iterAt (n0 := kI) (pos' := pos + 1) hk (Nat.le_refl _)
        rw [e]
        exact ⟨⟨pos + 1, broken, d, rfl, by omega, iterAt_heap wr kI s pos _ hk, Lib.hid (HH.out.beside d _ _ HJ.out hb), Lib.hid ⟨by rw [← HD.out.1]; congr 2; omega, HA.out.2⟩, by rw [iterAt_size]; exact hsz0⟩,
          by unfold World.iterPos; rw [iterAt_heap wr kI s pos _ hk, hk]; simp only []; omega⟩
      · have hmax : max pos broken = pos := by omega
        have HP := Lib.hid (ahead_part hlt)
        have HL := Lib.hid (cutAt_len s pos hlt)
        have HE : Hid (d ++ cutAt s pos :: partsFrom s (pos + (cutAt s pos).len) = parts s) := Lib.hid (by rw [← partsFrom_step s pos hlt, ← HD.out.1, hmax])
        have hbr' : ¬ (pos : Int) < broken := by omega
        by_cases hr : (Utf8.decode s pos).1 = 65533
        · have HQ := Lib.hid (HP.out.2.1 hr)
          have hb := Beside.iterAt (n0 := kI) (pos' := pos + (Utf8.decode s pos).2) hk (Nat.le_refl _)
          have HK := Lib.hid (HH.out.beside d _ _ HJ.out hb)
          have HB := Lib.hid (beg_any (s.extract pos s.size) (wr.iterAt kI s (pos + (Utf8.decode s pos).2)) (HH.out.tabs _ _ HK.out) (by simp; omega))
          rw [begAt_drop] at HB
          clear hb
          have hbl : pos + begAt s pos ≤ s.size := by
            have h1 := HQ.out.1.inside
            exact h1
          have HS : Hid (∀ w, Inv d w → Calls Tryz.prog g (#[.int .i32 65533] ++ cb) w fun e w' => e = .returned (.tuple #[]) ∧ Inv (d ++ [cutAt s pos]) w' ∧ w.heap.size ≤ w'.heap.size ∧ ∀ (k : Nat) (t : ByteArray) (pos : Nat), w.heap[k]? = some (Obj.stringIter t pos) → w'.heap[k]? = some (Obj.stringIter t pos)) := Lib.hid fun w hw => by
            have := HH.out.step d (cutAt s pos) _ w HE.out hw
            rwa [← HP.out.1, hr] at this
          have hw64 : wrap64 ((pos : Int) + (begAt s pos : Int)) = ((pos + begAt s pos : Nat) : Int) := by rw [IntWalk.wrap64_in _ ⟨by omega, by omega⟩]; omega
          have hz1 : kI < (wr.iterAt kI s (pos + (Utf8.decode s pos).2)).heap.size := by rw [iterAt_size]; exact hsz0
          have hk1 := iterAt_heap wr kI s pos (pos + (Utf8.decode s pos).2) hk
          have HX := Lib.hid (And.intro hz1 hk1)
          clear hz1 hk1
          go_wp2_with (first
            | (go_at_call 105; refine HB.out.mono ?_; rintro e w1 ⟨rfl, hb⟩)
            | (go_at_fn g; refine (HS.out _ (HH.out.beside d _ _ HK.out (Beside.of_below hb (Nat.le_of_lt HX.out.1)))).mono ?_; rintro e w2 ⟨rfl, hinv, hs2, hit⟩))
          have h2 : w2.heap[kI]? = some (Obj.stringIter s (pos + (Utf8.decode s pos).2)) := hit kI s _ (by rw [hb.block kI HX.out.1]; exact HX.out.2)
          have hl := HL.out
          have hm := HQ.out.2
          have hw := decode_width_pos s pos hlt
          refine ⟨⟨pos + (Utf8.decode s pos).2, pos + begAt s pos, d ++ [cutAt s pos], by go_num, by omega, h2, Lib.hid hinv, Lib.hid ⟨by rw [hm, List.append_assoc]; exact HE.out, HQ.out.1⟩, (Array.getElem?_eq_some_iff.1 h2).1⟩, ?_⟩
          unfold World.iterPos
          rw [h2, hk]; simp only []; omega
        · have hch : Hid ((Utf8.decode s pos).2 = (cutAt s pos).len) := Lib.hid (HP.out.2.2 hr)
          have hb := Beside.iterAt (n0 := kI) (pos' := pos + (Utf8.decode s pos).2) hk (Nat.le_refl _)
          have HK := Lib.hid (HH.out.beside d _ _ HJ.out hb)
          have HS : Hid (∀ w, Inv d w → Calls Tryz.prog g (#[.int .i32 ((Utf8.decode s pos).1 : Nat)] ++ cb) w fun e w' => e = .returned (.tuple #[]) ∧ Inv (d ++ [cutAt s pos]) w' ∧ w.heap.size ≤ w'.heap.size ∧ ∀ (k : Nat) (t : ByteArray) (pos : Nat), w.heap[k]? = some (Obj.stringIter t pos) → w'.heap[k]? = some (Obj.stringIter t pos)) := Lib.hid fun w hw => by
            have := HH.out.step d (cutAt s pos) _ w HE.out hw
            rwa [← HP.out.1] at this
          clear hb
          have HX := Lib.hid (iterAt_heap wr kI s pos (pos + (Utf8.decode s pos).2) hk)
          have hr' : ¬ ((Utf8.decode s pos).1 : Int) = 65533 := by omega
          go_wp2_with (first
            | (go_at_fn g; refine (HS.out _ HK.out).mono ?_; rintro e w2 ⟨rfl, hinv, hs2, hit⟩))
          have h2 : w2.heap[kI]? = some (Obj.stringIter s (pos + (Utf8.decode s pos).2)) := hit kI s _ HX.out
          have hl := HL.out
          have hw := decode_width_pos s pos hlt
          have hc := hch.out
          refine ⟨⟨pos + (Utf8.decode s pos).2, broken, d ++ [cutAt s pos], rfl, by omega, h2, Lib.hid hinv, Lib.hid ⟨by rw [hc, show max (pos + (cutAt s pos).len) broken = pos + (cutAt s pos).len by omega, List.append_assoc]; exact HE.out, ⟨HD.out.2.inside, fun p h1 h2 => by omega⟩⟩, (Array.getElem?_eq_some_iff.1 h2).1⟩, ?_⟩
          unfold World.iterPos
          rw [h2, hk]; simp only []; omega
    · have hnext := fun ty => run_next_end_at (P := Tryz.prog) wr kI s pos ty hk hlt
      have he : d = parts s := by
        have := HD.out.1
        rw [partsFrom_end s _ (by omega), List.append_nil] at this
        exact this
      subst he
      go_wp2
      go_end0
      exact ⟨rfl, HJ.out⟩
end Go.Proofs.YtkfmfldkllkcbaaGreatDoor.U
namespace Go.Proofs.YtkfmfldkllkcbaaGreatDoor.U
open Go.RowKit Go.RunKit Go.Lib Go.Shelf

theorem sizeBuilder : (Tryz.prog.info? 65).map (·.size) = some 2 := by kernel_rfl
theorem liesBuilder : liesAt Tryz.prog Tryz.prog.depth 65 (2 / Tryz.prog.cellsOf 65) 0 65 1 = true := by kernel_rfl
theorem underPtr : Tryz.prog.underlying 63 = some (.pointer 65) := by kernel_rfl
theorem underUnsafe : Tryz.prog.underlying 142 = some .unsafePointer := by kernel_rfl

set_option maxRecDepth 100000 in
set_option maxHeartbeats 1000000 in
theorem check_fresh (b : Nat) (w : World) (h0 : w.cell? ⟨b, 0, none⟩ = some (.pointer none)) (hsh : w.shape? b = some (65, 2)) (hfz : w.frozen? ⟨b, 0, none⟩ = false) :
    Calls Tryz.prog 106 #[.pointer (some ⟨b, 0, none⟩)] w fun e w' => e = .returned (.tuple #[]) ∧ w' = w.setCell ⟨b, 0, none⟩ (.pointer (some ⟨b, 0, none⟩)) := by
  obtain ⟨j, hj, hjs⟩ := Option.map_eq_some_iff.1 sizeBuilder
  go_enter Tryz.func106, Tryz.ntmps106
  go_wp2
  rw [Lib.run_to_unsafe w ⟨b, 0, none⟩ underPtr underUnsafe hj (by rw [hjs]; decide) hsh (Nat.zero_lt_succ 1)]
  simp only [Result.andThen]
  rw [Oper.upon_value]
  go_wp2
  rw [run_callFunc_extern Tryz.func138 (by kernel_rfl) (by kernel_rfl) (by kernel_rfl) (e := Extern.AbiNoEscape.same) (by kernel_rfl)]
  rw [Lib.run_noEscape]
  simp only [Result.andThen]
  rw [Oper.upon_value]
  go_wp2
  rw [Lib.run_from_unsafe w ⟨b, 0, none⟩ underUnsafe underPtr hj hsh liesBuilder]
  simp only [Result.andThen]
  rw [Oper.upon_value]
  go_wp2
  go_end0
  exact ⟨rfl, rfl⟩

set_option maxRecDepth 100000 in
set_option maxHeartbeats 1000000 in
theorem check_used (b : Nat) (w : World) (h0 : w.cell? ⟨b, 0, none⟩ = some (.pointer (some ⟨b, 0, none⟩))) :
    Calls Tryz.prog 106 #[.pointer (some ⟨b, 0, none⟩)] w fun e w' => e = .returned (.tuple #[]) ∧ w' = w := by
  obtain ⟨j, hj, _⟩ := Option.map_eq_some_iff.1 sizeBuilder
  go_enter Tryz.func106, Tryz.ntmps106
  go_wp2
  rw [Lib.run_neq_ptr_same w _ underPtr hj]
  go_wp2
  go_end0
  exact ⟨rfl, rfl⟩

abbrev TB : TypeId := 65
theorem check_any (B b : Nat) (bs : List Value) (w : World) (h : Lib.IsBuilderF TB 5 B b bs w) :
    Calls Tryz.prog 106 #[.pointer (some ⟨b, 0, none⟩)] w fun e w' => e = .returned (.tuple #[]) ∧ (Lib.BuilderAtF TB 5 B b (.pointer (some ⟨b, 0, none⟩)) bs w' ∧ Below B w w' ∧ Lib.OthersKept 5 (some b) w w') := by
  rcases h with h | h
  · refine (check_fresh b w h.cell0 h.shape h.frozen0).mono ?_
    rintro e w' ⟨rfl, rfl⟩
    exact ⟨rfl, h.used _, (Below.refl B w).setCell (p := ⟨b, 0, none⟩) h.1 _, (Lib.OthersKept.refl _ _ w).setCell ⟨b, 0, none⟩ rfl _⟩
  · refine (check_used b w h.cell0).mono ?_
    rintro e w' ⟨rfl, rfl⟩
    exact ⟨rfl, h, Below.refl B _, Lib.OthersKept.refl _ _ _⟩

set_option maxRecDepth 100000 in
set_option maxHeartbeats 1000000 in
/-- WriteRune: the character's bytes go in behind. -/
theorem writeRune_any (B b : Nat) (bs : List Value) (r : Int) (hr0 : -2147483648 ≤ r) (hr1 : r ≤ 2147483647) (w : World) (h : Lib.IsBuilderF TB 5 B b bs w) (hlen : bs.length + 4 ≤ 140737488355328) (hBw : B ≤ w.heap.size) :
    Calls Tryz.prog 81 #[.pointer (some ⟨b, 0, none⟩), .int .i32 r] w fun e w' => e = .returned (.tuple #[.int .i64 (Lib.runeCells r).length, .nilIface]) ∧
      (Lib.BuilderAtF TB 5 B b (.pointer (some ⟨b, 0, none⟩)) (bs ++ Lib.runeCells r) w' ∧ Below B w w' ∧ Lib.OthersKept 5 (some b) w w') := by
  have hk4 := Lib.runeCells_le r
  go_enter Tryz.func81, Tryz.ntmps81
  go_wp2_with (go_at_call 106; refine (check_any B b bs _ h).mono ?_)
  rintro e w1 ⟨rfl, h1, hb1, hk1⟩
  obtain ⟨hB, v, hbk, hown, hne⟩ := h1
  obtain ⟨ao, cap, rfl⟩ : ∃ ao cap, v = .slice ao bs.length cap := by
    rcases hown.2 with ⟨hv, h0⟩ | ⟨g, cap, cur, fz, hv, _⟩
    · exact ⟨none, 0, by rw [hv, h0]⟩
    · exact ⟨_, _, hv⟩
  have c0 : w1.cell? ⟨b, 0, none⟩ = some (.pointer (some ⟨b, 0, none⟩)) := by rw [Lib.cell_of_heap hbk]; rfl
  have c1 : w1.cell? ⟨b, 1, none⟩ = some (.slice ao bs.length cap) := by rw [Lib.cell_of_heap hbk]; rfl
  go_wp2_with (go_at_call 107; refine (Tryz.utf8_AppendRune_row B _ bs.length bs r hr0 hr1 _ hown hlen (by have := hb1.size; omega)).mono ?_)
  rintro e w2 ⟨v', rfl, hown', o, hgrow⟩
  have hlt : b < w1.heap.size := by
    rcases Nat.lt_or_ge b w1.heap.size with h' | h'
    · exact h'
    · simp [Array.getElem?_eq_none h'] at hbk
  have hb2 : w2.heap[b]? = some (.cells #[.pointer (some ⟨b, 0, none⟩), .slice ao bs.length cap] TB (0, 0)) := by
    rw [hgrow.block b (by simp; omega) (fun e => hne e.symm), Lib.alloc_old w1 _ b hlt]
    exact hbk
  have d0 : w2.cell? ⟨b, 0, none⟩ = some (.pointer (some ⟨b, 0, none⟩)) := by rw [Lib.cell_of_heap hb2]; rfl
  have d1 : w2.cell? ⟨b, 1, none⟩ = some (.slice ao bs.length cap) := by rw [Lib.cell_of_heap hb2]; rfl
  have f1 : w2.frozen? ⟨b, 1, none⟩ = false := Lib.frozen_of_heap hb2 1
  obtain ⟨g, cap', rfl⟩ : ∃ g cap', v' = .slice (some ⟨g, 0, none⟩) (bs.length + (Lib.runeCells r).length) cap' := by
    rcases hown'.2 with ⟨_, h0⟩ | ⟨g, cap', cur, fz, hv, _⟩
    · omega
    · exact ⟨g, cap', hv⟩
  go_wp2
  go_ret2
  refine ⟨?_, ?_, ?_, ((hk1.alloc _).grown hgrow (Lib.ownsRowF_kind (hown.alloc _))).setCell ⟨b, 1, none⟩ rfl _⟩
  · have e : ((bs.length : Int) + ((Lib.runeCells r).length : Int) - (bs.length : Int)) = ((Lib.runeCells r).length : Int) := by omega
    simp [e]
  · exact Lib.BuilderAtF.put (T := TB) (e := 5) hB hb2 (bs' := bs ++ Lib.runeCells r) (by simpa using hown') (by decide)
  · exact ((hb1.alloc (by have := hb1.size; omega) _).grown hgrow (by have := hb1.size; simp; omega) (fun k hk => (hown.lt k hk).1)).setCell (p := ⟨b, 1, none⟩) hB _
end Go.Proofs.YtkfmfldkllkcbaaGreatDoor.U
namespace Go.Proofs.YtkfmfldkllkcbaaGreatDoor.U
open Go.RowKit Go.RunKit Go.UtfKit Go.Lib

def charCells (d : List Part) : List Value := d.map fun p => .int .i32 (p.char : Nat)
theorem charCells_one (d : List Part) : ∀ u ∈ charCells d, u.oneCell' = true := by
  intro u h
  obtain ⟨p, _, rfl⟩ := List.mem_map.1 h
  rfl

/-- What the closure of Runes keeps: its list lies in the first block behind w0's, the characters so far in a row of its own. -/
structure ListInv (w0 : World) (d : List Part) (w : World) : Prop where
  below : Below w0.heap.size w0 w
  row : ∃ v, w.heap[w0.heap.size]? = some (Obj.cells #[v] 163 (0, 0)) ∧ w.ownsRow (w0.heap.size + 1) 21 1 v d.length (charCells d)

theorem ownsRow_beside {n0 : Nat} {w w' : World} {base : Nat} {e : TypeId} {size : Nat} {v : Value} {n : Nat} {xs : List Value} (h : w.ownsRow base e size v n xs) (hb : Beside n0 w w') : w'.ownsRow base e size v n xs := by
  obtain ⟨h1, h2⟩ := h
  refine ⟨h1, ?_⟩
  rcases h2 with h2 | ⟨g, cap, cur, e1, e2, e3, e4⟩
  · exact .inl h2
  · exact .inr ⟨g, cap, cur, e1, e2, hb.cells _ _ _ _ e3, e4⟩

theorem Tryz.infoInt32 : (Tryz.prog.info? 21).map (fun i => (i.zero, i.size, i.bytes)) = some (some (.int .i32 0), 1, 4) := by kernel_rfl
theorem Tryz.underRunes : Tryz.prog.underlying 163 = some (.slice 21) := by kernel_rfl

theorem slice_of {w : World} {base : Nat} {e : TypeId} {size : Nat} {v : Value} {n : Nat} {xs : List Value} (h : w.ownsRow base e size v n xs) : ∃ a cap, v = .slice a n cap := by
  rcases h.2 with ⟨e, e2⟩ | ⟨g, cap, cur, e, _⟩
  · exact ⟨none, 0, by rw [e, e2]⟩
  · exact ⟨_, cap, e⟩
theorem cell_one {w : World} {b : Nat} {v : Value} {t : TypeId} (h : w.heap[b]? = some (Obj.cells #[v] t (0, 0))) : w.cell? ⟨b, 0, none⟩ = some v := by rw [cell_of_row _ _ _ _ _ _ h]; rfl
theorem heap_setCell_one (w : World) (b : Nat) (v v' : Value) (t : TypeId) (h : w.heap[b]? = some (Obj.cells #[v] t (0, 0))) : (w.setCell ⟨b, 0, none⟩ v').heap[b]? = some (Obj.cells #[v'] t (0, 0)) := by
  simp [World.setCell, Array.getElem?_modify, h]
theorem heap_setCell_other (w : World) (b k : Nat) (v' : Value) (h : k ≠ b) : (w.setCell ⟨b, 0, none⟩ v').heap[k]? = w.heap[k]? := Below.heap_setCell _ _ _ _ h

theorem parts_len (s : ByteArray) : ∀ (f i : Nat), (partsF s f i).length ≤ f
  | 0, _ => Nat.le_refl _
  | f + 1, i => by
    unfold partsF
    split
    · have := parts_len s f (i + (cutAt s i).len)
      simp; omega
    · simp

end Go.Proofs.YtkfmfldkllkcbaaGreatDoor.U
namespace Go.Proofs.YtkfmfldkllkcbaaGreatDoor.U
open Go.RowKit Go.RunKit Go.UtfKit Go.Lib Go.Shelf

/-- What the closure of Decode makes of a part: whether it was a carriage return; the bytes told so far. -/
def takePart (a : Bool × List Value) (p : Part) : Bool × List Value :=
  (decide (p.char = 13), if a.1 = true ∧ p.char = 10 then a.2 else if p.char = 13 then a.2 ++ runeCells 10 else a.2 ++ runeCells (p.char : Nat))
def taken (d : List Part) : Bool × List Value := d.foldl takePart (false, [])
theorem taken_snoc (d : List Part) (p : Part) : taken (d ++ [p]) = takePart (taken d) p := by simp [taken]
theorem takePart_len (a : Bool × List Value) (p : Part) : (takePart a p).2.length ≤ a.2.length + 4 := by
  unfold takePart
  have h1 := runeCells_le 10
  have h2 := runeCells_le (p.char : Nat)
  simp only
  repeat' split
  all_goals simp
  all_goals omega
theorem foldl_len : ∀ (d : List Part) (a : Bool × List Value), (d.foldl takePart a).2.length ≤ a.2.length + 4 * d.length
  | [], a => by simp
  | p :: r, a => by
    have h1 := foldl_len r (takePart a p)
    have h2 := takePart_len a p
    simp only [List.foldl_cons, List.length_cons]
    omega
theorem taken_len (d : List Part) : (taken d).2.length ≤ 4 * d.length := by simpa [taken] using foldl_len d (false, [])

/-- What the closure of Decode keeps: the builder in the first block behind w0's, the mark in the second. -/
structure DecInv (w0 : World) (d : List Part) (w : World) : Prop where
  below : Below w0.heap.size w0 w
  mark : w.heap[w0.heap.size + 1]? = some (Obj.cells #[.bool (taken d).1] 4 (0, 0))
  built : IsBuilderF TB 5 w0.heap.size w0.heap.size (taken d).2 w

theorem builderAt_blocks {T e : TypeId} {B b : Nat} {p : Value} {bs : List Value} {w w' : World} (h : BuilderAtF T e B b p bs w) (hk : ∀ (k : Nat) (c : Array Value) (t : TypeId) (fr : Nat × Nat), (k = b ∨ t = e) → w.heap[k]? = some (Obj.cells c t fr) → w'.heap[k]? = some (Obj.cells c t fr)) : BuilderAtF T e B b p bs w' := by
  obtain ⟨hB, v, hb, hown, hne⟩ := h
  refine ⟨hB, v, hk _ _ _ _ (.inl rfl) hb, ⟨hown.1, ?_⟩, hne⟩
  rcases hown.2 with h | ⟨g, cap, cur, fz, e1, e2, e3, e4⟩
  · exact .inl h
  · exact .inr ⟨g, cap, cur, fz, e1, e2, hk _ _ _ _ (.inr rfl) e3, e4⟩
theorem isBuilder_blocks {T e : TypeId} {B b : Nat} {bs : List Value} {w w' : World} (h : IsBuilderF T e B b bs w) (hk : ∀ (k : Nat) (c : Array Value) (t : TypeId) (fr : Nat × Nat), (k = b ∨ t = e) → w.heap[k]? = some (Obj.cells c t fr) → w'.heap[k]? = some (Obj.cells c t fr)) : IsBuilderF T e B b bs w' :=
  h.imp (fun h => builderAt_blocks h hk) (fun h => builderAt_blocks h hk)

set_option maxRecDepth 100000 in
set_option maxHeartbeats 2000000 in
theorem decode1_any (w0 : World) (d : List Part) (p : Part) (w : World) (h : DecInv w0 d w) (hp : p.char ≤ 1114111) (hlen : d.length + 1 ≤ 1099511627776) :
    Calls Tryz.prog 80 (#[.int .i32 (p.char : Nat)] ++ #[.pointer (some ⟨w0.heap.size + 1, 0, none⟩), .pointer (some ⟨w0.heap.size, 0, none⟩)]) w fun e w' => e = .returned (.tuple #[]) ∧ DecInv w0 (d ++ [p]) w' ∧ w.heap.size ≤ w'.heap.size ∧
      ∀ (k : Nat) (t : ByteArray) (pos : Nat), w.heap[k]? = some (Obj.stringIter t pos) → w'.heap[k]? = some (Obj.stringIter t pos) := by
  obtain ⟨hb, hm, hbu⟩ := h
  have hl := taken_len d
  have hsn := taken_snoc d p
  generalize ht : taken d = t0 at *
  obtain ⟨ret, out⟩ := t0
  simp only at hm hbu hl
  -- the world behind the mark's store
  have hm2 : ∀ v', (w.setCell ⟨w0.heap.size + 1, 0, none⟩ v').heap[w0.heap.size + 1]? = some (Obj.cells #[v'] 4 (0, 0)) := fun v' => heap_setCell_one _ _ _ _ _ hm
  have hbs : ∀ v', IsBuilderF TB 5 w0.heap.size w0.heap.size out (w.setCell ⟨w0.heap.size + 1, 0, none⟩ v') := fun v' => isBuilder_blocks hbu fun k c t fr hk hc => by
    rw [heap_setCell_other _ _ _ _ ?_]
    · exact hc
    · rintro rfl
      rcases hk with hk | hk
      · omega
      · rw [hm] at hc; cases hc; revert hk; decide
  have hbb : ∀ v', Below w0.heap.size w0 (w.setCell ⟨w0.heap.size + 1, 0, none⟩ v') := fun v' => hb.setCell (by simp) v'
  have hit : ∀ v' (k : Nat) (t : ByteArray) (pos : Nat), w.heap[k]? = some (Obj.stringIter t pos) → (w.setCell ⟨w0.heap.size + 1, 0, none⟩ v').heap[k]? = some (Obj.stringIter t pos) := fun v' k t pos hk => by
    rw [heap_setCell_other _ _ _ _ ?_]
    · exact hk
    · rintro rfl; rw [hm] at hk; cases hk
  have hcell : w.cell? ⟨w0.heap.size + 1, 0, none⟩ = some (.bool ret) := cell_one hm
  have hfr : w.frozen? ⟨w0.heap.size + 1, 0, none⟩ = false := frozen_of_row _ _ _ _ _ hm
  have hc2 : ∀ v', (w.setCell ⟨w0.heap.size + 1, 0, none⟩ v').cell? ⟨w0.heap.size + 1, 0, none⟩ = some v' := fun v' => cell_one (hm2 v')
  have HX := Lib.hid (And.intro hm2 (And.intro hbs (And.intro hbb hit)))
  have HS := Lib.hid hsn
  have HT := Lib.hid ht
  clear hm2 hbs hbb hit hm hbu hb hsn ht
  have FIN : Hid (∀ (m : Bool) (out2 : List Value) (w2 : World), takePart (ret, out) p = (m, out2) → IsBuilderF TB 5 w0.heap.size w0.heap.size out2 w2 → Below w0.heap.size (w.setCell ⟨w0.heap.size + 1, 0, none⟩ (.bool m)) w2 →
      OthersKept 5 (some w0.heap.size) (w.setCell ⟨w0.heap.size + 1, 0, none⟩ (.bool m)) w2 → DecInv w0 (d ++ [p]) w2 ∧ w.heap.size ≤ w2.heap.size ∧ ∀ (k : Nat) (t : ByteArray) (pos : Nat), w.heap[k]? = some (Obj.stringIter t pos) → w2.heap[k]? = some (Obj.stringIter t pos)) := Lib.hid (by
    intro m out2 w2 htp hbu2 hb2 hk2
    have e := HS.out
    rw [htp] at e
    have hbl : ∃ c t fr, (w.setCell ⟨w0.heap.size + 1, 0, none⟩ (.bool m)).heap[w0.heap.size]? = some (Obj.cells c t fr) := by
      rcases HX.out.2.1 (.bool m) with ⟨_, v, hv, _⟩ | ⟨_, v, hv, _⟩
      · exact ⟨_, _, _, hv⟩
      · exact ⟨_, _, _, hv⟩
    refine ⟨⟨(HX.out.2.2.1 _).trans hb2, ?_, ?_⟩, ?_, ?_⟩
    · rw [e]
      exact hk2 _ _ (HX.out.1 _) (by simp) (fun c fz e => by cases e)
    · rw [e]; exact hbu2
    · have := hb2.size
      simpa [World.setCell] using this
    · intro k t pos hk
      refine hk2 _ _ (HX.out.2.2.2 _ _ _ _ hk) ?_ (fun c fz e => by cases e)
      intro ek
      obtain ⟨c, t', fr, hv⟩ := hbl
      cases ek
      rw [HX.out.2.2.2 _ _ _ _ hk] at hv
      cases hv)
  have HB : Hid (∀ (m : Bool) (r : Int), -2147483648 ≤ r → r ≤ 2147483647 → Calls Tryz.prog 81 #[.pointer (some ⟨w0.heap.size, 0, none⟩), .int .i32 r] (w.setCell ⟨w0.heap.size + 1, 0, none⟩ (.bool m)) fun e w' => e = .returned (.tuple #[.int .i64 (Lib.runeCells r).length, .nilIface]) ∧
      (Lib.BuilderAtF TB 5 w0.heap.size w0.heap.size (.pointer (some ⟨w0.heap.size, 0, none⟩)) (out ++ Lib.runeCells r) w' ∧ Below w0.heap.size (w.setCell ⟨w0.heap.size + 1, 0, none⟩ (.bool m)) w' ∧ Lib.OthersKept 5 (some w0.heap.size) (w.setCell ⟨w0.heap.size + 1, 0, none⟩ (.bool m)) w')) := Lib.hid (fun m r h1 h2 =>
    writeRune_any _ _ out r h1 h2 _ (HX.out.2.1 _) (by omega) (HX.out.2.2.1 _).size)
  by_cases c13 : p.char = 13
  · have d13 : (p.char : Int) = 13 := by omega
    have T : Hid (takePart (ret, out) p = (true, out ++ runeCells 10)) := Lib.hid (by simp [takePart, c13])
    cases ret
    all_goals
      go_enter Tryz.func80, Tryz.ntmps80
      go_wp2_with (go_at_call 81; refine (HB.out true 10 (by omega) (by omega)).mono ?_; rintro e w2 ⟨rfl, hbu2, hb2, hk2⟩)
      go_end0
      exact ⟨rfl, FIN.out _ _ _ T.out (.inr hbu2) hb2 hk2⟩
  · have d13 := eq_false (show ¬ (p.char : Int) = 13 by omega)
    by_cases c10 : p.char = 10
    · have d10 : (p.char : Int) = 10 := by omega
      cases ret with
      | true =>
        have T : Hid (takePart (true, out) p = (false, out)) := Lib.hid (by simp [takePart, c10])
        go_enter Tryz.func80, Tryz.ntmps80
        go_wp2
        go_end0
        exact ⟨rfl, FIN.out _ _ _ T.out (HX.out.2.1 _) (Below.refl _ _) (OthersKept.refl _ _ _)⟩
      | false =>
        have T : Hid (takePart (false, out) p = (false, out ++ runeCells 10)) := Lib.hid (by simp [takePart, c10])
        go_enter Tryz.func80, Tryz.ntmps80
        go_wp2_with (go_at_call 81; refine (HB.out false 10 (by omega) (by omega)).mono ?_; rintro e w2 ⟨rfl, hbu2, hb2, hk2⟩)
        go_end0
        exact ⟨rfl, FIN.out _ _ _ T.out (.inr hbu2) hb2 hk2⟩
    · have d10 := eq_false (show ¬ (p.char : Int) = 10 by omega)
      have T : Hid (takePart (ret, out) p = (false, out ++ runeCells (p.char : Nat))) := Lib.hid (by simp [takePart, c10, c13])
      cases ret
      all_goals
        go_enter Tryz.func80, Tryz.ntmps80
        go_wp2_with (go_at_call 81; refine (HB.out false (p.char : Nat) (by omega) (by omega)).mono ?_; rintro e w2 ⟨rfl, hbu2, hb2, hk2⟩)
        go_end0
        exact ⟨rfl, FIN.out _ _ _ T.out (.inr hbu2) hb2 hk2⟩

theorem dec_takes (s : ByteArray) (w0 : World) (ht : Tabs w0) (n0 : Nat) (hn : w0.heap.size + 1 < n0) (hsz : s.size + 1 ≤ 1099511627776) (hch : ∀ p ∈ parts s, p.char ≤ 1114111) :
    Takes Tryz.prog 80 #[.pointer (some ⟨w0.heap.size + 1, 0, none⟩), .pointer (some ⟨w0.heap.size, 0, none⟩)] s n0 (DecInv w0) where
  enters := enters_of Tryz.func80 (by kernel_rfl) rfl
  tabs := fun _ _ h => ht.on h.below
  beside := fun d w w' h hb => ⟨⟨hb.os.trans h.below.os, hb.tape.trans h.below.tape, hb.output.trans h.below.output, Nat.le_trans h.below.size hb.size, fun k hk => by rw [hb.low k (by omega)]; exact h.below.block k hk⟩,
    hb.cells _ _ _ _ h.mark, isBuilder_blocks h.built fun k c t fr _ hc => hb.cells _ _ _ _ hc⟩
  step := fun d p r w hd h => decode1_any w0 d p w h (hch p (by rw [← hd]; simp)) (by
    have h1 := parts_len s (s.size - 0) 0
    change (parts s).length ≤ _ at h1
    rw [← hd] at h1
    simp at h1; omega)
end Go.Proofs.YtkfmfldkllkcbaaGreatDoor.U
namespace Go.Proofs.YtkfmfldkllkcbaaGreatDoor.U
open Go.RowKit Go.RunKit Go.UtfKit Go.Lib Go.Shelf

theorem parts_mem (s : ByteArray) : ∀ (f i : Nat) (p : Part), p ∈ partsF s f i → ∃ j, j < s.size ∧ p = cutAt s j
  | 0, _, _, h => by simp [partsF] at h
  | f + 1, i, p, h => by
    unfold partsF at h
    split at h
    · rcases List.mem_cons.1 h with rfl | h
      · exact ⟨i, by assumption, rfl⟩
      · exact parts_mem s f _ p h
    · simp at h
theorem parts_chars (s : ByteArray) : ∀ p ∈ parts s, p.char ≤ 1114111 := by
  intro p hp
  obtain ⟨j, hj, rfl⟩ := parts_mem s _ _ p hp
  have hv := decodeN_valid (s.size - j) (byteAt s j) (byteAt s (j + 1)) (byteAt s (j + 2)) (byteAt s (j + 3)) (byteAt_lt _ _)
  rw [decode_cut _ _ _ _ _ (byteAt_lt _ _) (byteAt_lt _ _) (byteAt_lt _ _) (byteAt_lt _ _)] at hv
  cases ho : (cutAt s j).ok with
  | false =>
    have := cut_char_bad _ _ _ _ _ ho
    change (cutAt s j).char = 65533 at this
    omega
  | true =>
    change (if (cutAt s j).ok = true then ((cutAt s j).char, (cutAt s j).len) else (65533, 1)).1 < 55296 ∨ (57343 < (if (cutAt s j).ok = true then ((cutAt s j).char, (cutAt s j).len) else (65533, 1)).1 ∧ (if (cutAt s j).ok = true then ((cutAt s j).char, (cutAt s j).len) else (65533, 1)).1 ≤ 1114111) at hv
    rw [ho] at hv
    simp only [if_true] at hv
    omega

/-- The bytes told. -/
def takeByte (a : Bool × List UInt8) (p : Part) : Bool × List UInt8 :=
  (decide (p.char = 13), if a.1 = true ∧ p.char = 10 then a.2 else if p.char = 13 then a.2 ++ encodeRune 10 else a.2 ++ encodeRune (p.char : Nat))
def told (d : List Part) : List UInt8 := (d.foldl takeByte (false, [])).2
theorem taken_bytes : ∀ (d : List Part) (m : Bool) (l : List UInt8), d.foldl takePart (m, byteCells l) = ((d.foldl takeByte (m, l)).1, byteCells (d.foldl takeByte (m, l)).2)
  | [], _, _ => rfl
  | p :: r, m, l => by
    simp only [List.foldl_cons]
    have e : takePart (m, byteCells l) p = ((takeByte (m, l) p).1, byteCells (takeByte (m, l) p).2) := by
      unfold takePart takeByte
      simp only
      repeat' split
      all_goals (try rfl)
      all_goals simp [byteCells]
      all_goals exact (byteCells_encodeRune _).symm
    rw [e]
    exact taken_bytes r _ _
theorem taken_told (d : List Part) : (taken d).2 = byteCells (told d) := by
  have := taken_bytes d false []
  unfold taken told
  rw [show (false, ([] : List Value)) = (false, byteCells []) from rfl, this]

set_option maxRecDepth 100000 in
set_option maxHeartbeats 1000000 in
/-- Decode: the bytes of a slice, whatever it is, that reads as the text s. -/
theorem decode_any (a : Option Addr) (n cap : Nat) (s : ByteArray) (w : World) (ht : Tabs w) (hn : n ≤ 65536) (hs : s.size = n) (hconv : ∀ p : Over w, (convert 42 9 (.slice a n cap)).run Tryz.prog p.out = .ok (.string s) p.out) :
    Calls Tryz.prog 48 #[.slice a n cap] w fun e w' => e = .returned (.tuple #[.string ⟨(told (parts s)).toArray⟩, .int .i64 0]) ∧ Below w.heap.size w w' := by
  have b1 : Below w.heap.size w (w.alloc (.cells #[.pointer none, .slice none 0 0] TB)) := (Below.refl _ _).alloc (Nat.le_refl _) _
  have b2 : Below w.heap.size w ((w.alloc (.cells #[.pointer none, .slice none 0 0] TB)).alloc (.cells #[.bool false] 4)) := b1.alloc (by simp) _
  have hcv : (convert 42 9 (.slice a n cap)).run Tryz.prog ((w.alloc (.cells #[.pointer none, .slice none 0 0] TB)).alloc (.cells #[.bool false] 4)) = .ok (.string s) ((w.alloc (.cells #[.pointer none, .slice none 0 0] TB)).alloc (.cells #[.bool false] 4)) := hconv ⟨_, b2⟩
  have h0 : DecInv w [] ((w.alloc (.cells #[.pointer none, .slice none 0 0] TB)).alloc (.cells #[.bool false] 4)) := ⟨b2, by
      have := heap_alloc_new (w.alloc (.cells #[.pointer none, .slice none 0 0] TB)) (.cells #[.bool false] 4)
      simpa [taken] using this, .inl ⟨Nat.le_refl _, .slice none 0 0, by
      rw [Below.heap_alloc _ _ _ (by simp)]; exact heap_alloc_new w _, World.ownsRowF_nil _ _ _ _, by simp [Value.ownBlock]⟩⟩
  have hc := each_any 80 #[.pointer (some ⟨w.heap.size + 1, 0, none⟩), .pointer (some ⟨w.heap.size, 0, none⟩)] s (DecInv w) _ (dec_takes s w ht _ (by simp) (by omega) (parts_chars s)) h0 (by omega)
  have HC := Lib.hid hc
  have hnI : ((n : Nat) : Int) ≤ 65536 := by omega
  have hnF := eq_false (show ¬ (65536 : Int) < (n : Int) by omega)
  clear hc h0 b1 b2 hconv
  go_enter Tryz.func48, Tryz.ntmps48
  go_wp2_with (first
    | (go_at_call 79; refine HC.out.mono ?_; rintro e w1 ⟨rfl, hI⟩; have hbu := hI.built; rw [taken_told] at hbu; have HX := Lib.hid (And.intro hI hbu); clear hI hbu)
    | (go_at_call 63; refine (Tryz.Builder_String_any_f _ _ (told (parts s)) _ HX.out.2 HX.out.1.below.size).mono ?_; rintro e w2 ⟨rfl, _, hb2⟩))
  go_ret2
  exact ⟨rfl, HX.out.1.below.trans hb2⟩
end Go.Proofs.YtkfmfldkllkcbaaGreatDoor.U
namespace Go.UtfKit
open Go Go.Lib

def clean (z : Int) : Nat := if z < 0 ∨ (55296 ≤ z ∧ z ≤ 57343) ∨ 1114111 < z then 65533 else z.toNat
def partOf (z : Int) : Part := ⟨clean z, (encodeRuneZ z).length, true⟩

theorem byteAt_list (l : List UInt8) (k : Nat) (h : k < l.length) : byteAt ⟨l.toArray⟩ k = l[k].toNat := by
  unfold byteAt ByteArray.get!
  simp [h]
theorem byteAt_past (s : ByteArray) (k : Nat) (h : s.size ≤ k) : byteAt s k = 0 := by
  unfold byteAt ByteArray.get!
  have : ¬ k < s.data.size := by have : s.data.size = s.size := rfl; omega
  simp only [Array.getElem!_eq_getD, Array.getD_eq_getD_getElem?]
  rw [Array.getElem?_eq_none (by omega)]
  rfl

theorem byteAt_mid (pre post : List UInt8) (zs : List Int) (hb : ∀ x ∈ zs, 0 ≤ x ∧ x < 256) (j : Nat) (x : Int) (hx : zs[j]? = some x) :
    (byteAt ⟨(pre ++ zs.map (fun x => x.toNat.toUInt8) ++ post).toArray⟩ (pre.length + j) : Int) = x := by
  have hj : j < zs.length := (List.getElem?_eq_some_iff.1 hx).1
  have hv : zs[j] = x := (List.getElem?_eq_some_iff.1 hx).2
  have hm := hb x (List.mem_of_getElem? hx)
  rw [byteAt_list _ _ (by simp; omega)]
  rw [List.getElem_append_left (by simp; omega), List.getElem_append_right (by omega)]
  simp only [List.getElem_map, Nat.add_sub_cancel_left, hv]
  have : x.toNat.toUInt8.toNat = x.toNat := by
    simp; omega
  rw [this]; omega

/-- The part that the bytes of a character make. -/
theorem cutN_encode (z : Int) (n b0 b1 b2 b3 : Nat) (hn : (encodeRuneZ z).length ≤ n) (h : ∀ (j : Nat) (x : Int), (encodeRuneZ z)[j]? = some x → ([b0, b1, b2, b3].map (fun k : Nat => (k : Int)))[j]? = some x) : cutN n b0 b1 b2 b3 = partOf z := by
  unfold partOf clean
  by_cases c0 : z < 0 ∨ (55296 ≤ z ∧ z ≤ 57343) ∨ 1114111 < z
  · rw [if_pos c0]
    rw [encodeRuneZ_bad c0] at *
    have h0 := h 0 _ rfl
    have h1 := h 1 _ rfl
    have h2 := h 2 _ rfl
    simp at h0 h1 h2 hn
    obtain rfl : b0 = 239 := by omega
    obtain rfl : b1 = 191 := by omega
    obtain rfl : b2 = 189 := by omega
    have e1 : 1 < n := by omega
    have e2 : 2 < n := by omega
    simp [cutN, sec, tailB, e1, e2]
  · rw [if_neg c0]
    by_cases c1 : z < 128
    · rw [encodeRuneZ_one (by omega) (by omega)] at *
      have h0 := h 0 _ rfl
      simp at h0
      have e : b0 < 128 := by omega
      simp only [cutN, e, if_true, List.length_cons, List.length_nil]
      congr 1; omega
    by_cases c2 : z < 2048
    · rw [encodeRuneZ_two (by omega) (by omega)] at *
      have h0 := h 0 _ rfl
      have h1 := h 1 _ rfl
      simp at h0 h1 hn
      have e0 : ¬ b0 < 128 := by omega
      have e1 : ¬ b0 < 194 := by omega
      have e2 : b0 < 224 := by omega
      have e3 : 1 < n ∧ sec b0 b1 = true := ⟨by omega, by
        unfold sec
        rw [if_neg (by omega), if_neg (by omega), if_neg (by omega), if_neg (by omega)]
        simp; omega⟩
      simp only [cutN, e0, e1, e2, if_true, if_false, if_pos e3, List.length_cons, List.length_nil]
      congr 1; omega
    by_cases c3 : z < 65536
    · rw [encodeRuneZ_three (by omega)] at *
      have h0 := h 0 _ rfl
      have h1 := h 1 _ rfl
      have h2 := h 2 _ rfl
      simp at h0 h1 h2 hn
      have e0 : ¬ b0 < 128 := by omega
      have e1 : ¬ b0 < 194 := by omega
      have e2 : ¬ b0 < 224 := by omega
      have e3 : b0 < 240 := by omega
      have e4 : 1 < n ∧ sec b0 b1 = true := ⟨by omega, by
        unfold sec
        repeat' split
        all_goals (simp; omega)⟩
      have e5 : 2 < n ∧ tailB b2 = true := ⟨by omega, by simp [tailB]; omega⟩
      simp only [cutN, e0, e1, e2, e3, if_true, if_false, if_pos e4, if_pos e5, List.length_cons, List.length_nil]
      congr 1; omega
    · rw [encodeRuneZ_four (by omega) (by omega)] at *
      have h0 := h 0 _ rfl
      have h1 := h 1 _ rfl
      have h2 := h 2 _ rfl
      have h3 := h 3 _ rfl
      simp at h0 h1 h2 h3 hn
      have e0 : ¬ b0 < 128 := by omega
      have e1 : ¬ b0 < 194 := by omega
      have e2 : ¬ b0 < 224 := by omega
      have e3 : ¬ b0 < 240 := by omega
      have e3' : b0 < 245 := by omega
      have e4 : 1 < n ∧ sec b0 b1 = true := ⟨by omega, by
        unfold sec
        repeat' split
        all_goals (simp; omega)⟩
      have e5 : 2 < n ∧ tailB b2 = true := ⟨by omega, by simp [tailB]; omega⟩
      have e6 : 3 < n ∧ tailB b3 = true := ⟨by omega, by simp [tailB]; omega⟩
      simp only [cutN, e0, e1, e2, e3, e3', if_true, if_false, if_pos e4, if_pos e5, if_pos e6, List.length_cons, List.length_nil]
      congr 1; omega

theorem cut_text (pre post : List UInt8) (z : Int) : cutAt ⟨(pre ++ encodeRune z ++ post).toArray⟩ pre.length = partOf z := by
  unfold cutAt encodeRune
  have hm := byteAt_mid pre post (encodeRuneZ z) (encodeRuneZ_byte z)
  have hlen := (encodeRuneZ_length z).2
  refine cutN_encode z _ _ _ _ _ (by simp [ByteArray.size]) (fun j x hx => ?_)
  have h := hm j x hx
  have hj : j < (encodeRuneZ z).length := (List.getElem?_eq_some_iff.1 hx).1
  rcases (by omega : j = 0 ∨ j = 1 ∨ j = 2 ∨ j = 3) with rfl | rfl | rfl | rfl <;> simpa using h

theorem encodeRune_length (z : Int) : (encodeRune z).length = (encodeRuneZ z).length := by simp [encodeRune]

/-- THE PARTS OF WHAT WAS ENCODED. -/
theorem parts_encoded (zs : List Int) : ∀ (pre : List UInt8), partsFrom ⟨(pre ++ zs.flatMap encodeRune).toArray⟩ pre.length = zs.map partOf := by
  induction zs with
  | nil => intro pre; rw [partsFrom_end _ _ (by simp [ByteArray.size])]; rfl
  | cons z r ih =>
    intro pre
    have hl := (encodeRuneZ_length z).1
    have hl2 := encodeRune_length z
    rw [partsFrom_step _ _ (by simp [ByteArray.size]; omega)]
    have e : (pre ++ (z :: r).flatMap encodeRune) = pre ++ encodeRune z ++ r.flatMap encodeRune := by simp
    rw [e, cut_text]
    have h := ih (pre ++ encodeRune z)
    have e2 : pre.length + (partOf z).len = (pre ++ encodeRune z).length := by simp [partOf, hl2]
    rw [e2, h]; rfl
theorem parts_text (zs : List Int) : parts ⟨(zs.flatMap encodeRune).toArray⟩ = zs.map partOf := parts_encoded zs []

theorem encode_clean (z : Int) : encodeRuneZ (clean z) = encodeRuneZ z := by
  unfold clean
  by_cases c0 : z < 0 ∨ (55296 ≤ z ∧ z ≤ 57343) ∨ 1114111 < z
  · rw [if_pos c0, encodeRuneZ_bad c0]; decide
  · rw [if_neg c0]
    congr 1; omega
theorem encodeR_clean (z : Int) : encodeRune (clean z) = encodeRune z := by unfold encodeRune; rw [encode_clean]
theorem clean_cr {z : Int} (h : z ≠ 13) : clean z ≠ 13 := by
  unfold clean
  split <;> omega
theorem clean_small {z : Nat} (h : z < 55296 ∨ (57343 < z ∧ z ≤ 1114111)) : clean z = z := by
  unfold clean
  rw [if_neg (by omega)]
  omega
theorem encode_no_cr {z : Int} (h : z ≠ 13) : ∀ x ∈ encodeRuneZ z, x ≠ 13 := by
  intro x hx
  by_cases c0 : z < 0 ∨ (55296 ≤ z ∧ z ≤ 57343) ∨ 1114111 < z
  · rw [encodeRuneZ_bad c0] at hx
    simp at hx; omega
  by_cases c1 : z < 128
  · rw [encodeRuneZ_one (by omega) (by omega)] at hx
    simp at hx; omega
  by_cases c2 : z < 2048
  · rw [encodeRuneZ_two (by omega) (by omega)] at hx
    simp at hx; omega
  by_cases c3 : z < 65536
  · rw [encodeRuneZ_three (by omega)] at hx
    simp at hx; omega
  · rw [encodeRuneZ_four (by omega) (by omega)] at hx
    simp at hx; omega

/-! Two texts. -/
theorem byteAt_left (a b : ByteArray) (k : Nat) (h : k < a.size) : byteAt (a ++ b) k = byteAt a k := by
  have e1 : a = ⟨a.data.toList.toArray⟩ := rfl
  have hk : k < a.data.toList.length := by simpa using h
  have e2 : a ++ b = ⟨(a.data.toList ++ b.data.toList).toArray⟩ := by apply ByteArray.ext; simp
  rw [e2, byteAt_list _ _ (by simp; omega), List.getElem_append_left hk]
  conv => rhs; rw [e1]
  rw [byteAt_list _ _ hk]
theorem byteAt_right (a b : ByteArray) (k : Nat) : byteAt (a ++ b) (a.size + k) = byteAt b k := by
  by_cases h : k < b.size
  · have e1 : b = ⟨b.data.toList.toArray⟩ := rfl
    have hk : k < b.data.toList.length := by simpa using h
    have hs : a.data.toList.length = a.size := by simp
    have e2 : a ++ b = ⟨(a.data.toList ++ b.data.toList).toArray⟩ := by apply ByteArray.ext; simp
    rw [e2, byteAt_list _ _ (by simp; omega), List.getElem_append_right (by omega)]
    conv => rhs; rw [e1]
    rw [byteAt_list _ _ hk]
    simp [hs]
  · rw [byteAt_past _ _ (by simp; omega), byteAt_past _ _ (by omega)]

/-- A well-formed part reads as far as it goes, and no further. -/
theorem cutN_ok_more {n b0 b1 b2 b3 m c1 c2 c3 : Nat} (h : (cutN n b0 b1 b2 b3).ok = true) (hm : (cutN n b0 b1 b2 b3).len ≤ m)
    (e1 : 1 < (cutN n b0 b1 b2 b3).len → c1 = b1) (e2 : 2 < (cutN n b0 b1 b2 b3).len → c2 = b2) (e3 : 3 < (cutN n b0 b1 b2 b3).len → c3 = b3) : cutN m b0 c1 c2 c3 = cutN n b0 b1 b2 b3 := by
  by_cases k1 : b0 < 128
  · simp [cutN, k1]
  by_cases k2 : b0 < 194
  · simp [cutN, k1, k2] at h
  by_cases k3 : b0 < 224
  · by_cases h1 : 1 < n ∧ sec b0 b1 = true
    · have e : cutN n b0 b1 b2 b3 = ⟨b0 % 32 * 64 + b1 % 64, 2, true⟩ := by simp only [cutN, k1, k2, k3, if_true, if_false, if_pos h1]
      rw [e] at hm e1 e2 e3 ⊢
      simp only at hm e1 e2 e3
      obtain rfl := e1 (by omega)
      have g1 : 1 < m ∧ sec b0 c1 = true := ⟨by omega, h1.2⟩
      simp only [cutN, k1, k2, k3, if_true, if_false, if_pos g1]
    · simp only [cutN, k1, k2, k3, if_true, if_false, if_neg h1] at h; cases h
  by_cases k4 : b0 < 240
  · by_cases h1 : 1 < n ∧ sec b0 b1 = true
    · by_cases h2 : 2 < n ∧ tailB b2 = true
      · have e : cutN n b0 b1 b2 b3 = ⟨b0 % 16 * 4096 + b1 % 64 * 64 + b2 % 64, 3, true⟩ := by simp only [cutN, k1, k2, k3, k4, if_true, if_false, if_pos h1, if_pos h2]
        rw [e] at hm e1 e2 e3 ⊢
        simp only at hm e1 e2 e3
        obtain rfl := e1 (by omega)
        obtain rfl := e2 (by omega)
        have g1 : 1 < m ∧ sec b0 c1 = true := ⟨by omega, h1.2⟩
        have g2 : 2 < m ∧ tailB c2 = true := ⟨by omega, h2.2⟩
        simp only [cutN, k1, k2, k3, k4, if_true, if_false, if_pos g1, if_pos g2]
      · simp only [cutN, k1, k2, k3, k4, if_true, if_false, if_pos h1, if_neg h2] at h; cases h
    · simp only [cutN, k1, k2, k3, k4, if_true, if_false, if_neg h1] at h; cases h
  by_cases k5 : b0 < 245
  · by_cases h1 : 1 < n ∧ sec b0 b1 = true
    · by_cases h2 : 2 < n ∧ tailB b2 = true
      · by_cases h3 : 3 < n ∧ tailB b3 = true
        · have e : cutN n b0 b1 b2 b3 = ⟨b0 % 8 * 262144 + b1 % 64 * 4096 + b2 % 64 * 64 + b3 % 64, 4, true⟩ := by simp only [cutN, k1, k2, k3, k4, k5, if_true, if_false, if_pos h1, if_pos h2, if_pos h3]
          rw [e] at hm e1 e2 e3 ⊢
          simp only at hm e1 e2 e3
          obtain rfl := e1 (by omega)
          obtain rfl := e2 (by omega)
          obtain rfl := e3 (by omega)
          have g1 : 1 < m ∧ sec b0 c1 = true := ⟨by omega, h1.2⟩
          have g2 : 2 < m ∧ tailB c2 = true := ⟨by omega, h2.2⟩
          have g3 : 3 < m ∧ tailB c3 = true := ⟨by omega, h3.2⟩
          simp only [cutN, k1, k2, k3, k4, k5, if_true, if_false, if_pos g1, if_pos g2, if_pos g3]
        · simp only [cutN, k1, k2, k3, k4, k5, if_true, if_false, if_pos h1, if_pos h2, if_neg h3] at h; cases h
      · simp only [cutN, k1, k2, k3, k4, k5, if_true, if_false, if_pos h1, if_neg h2] at h; cases h
    · simp only [cutN, k1, k2, k3, k4, k5, if_true, if_false, if_neg h1] at h; cases h
  · simp only [cutN, k1, k2, k3, k4, k5, if_false] at h; cases h

theorem cutAt_left (a b : ByteArray) (i : Nat) (hi : i < a.size) (h : (cutAt a i).ok = true) : cutAt (a ++ b) i = cutAt a i := by
  have hl := cutAt_len a i hi
  unfold cutAt at h hl ⊢
  rw [byteAt_left a b i hi]
  refine cutN_ok_more h (by simp; omega) (fun k => ?_) (fun k => ?_) (fun k => ?_)
  all_goals exact byteAt_left a b _ (by omega)
theorem cutAt_right (a b : ByteArray) (i : Nat) : cutAt (a ++ b) (a.size + i) = cutAt b i := by
  unfold cutAt
  rw [byteAt_right, Nat.add_assoc, Nat.add_assoc, Nat.add_assoc, byteAt_right, byteAt_right, byteAt_right]
  congr 1
  simp; omega
theorem partsF_right (a b : ByteArray) : ∀ (f i : Nat), partsF (a ++ b) f (a.size + i) = partsF b f i
  | 0, _ => rfl
  | f + 1, i => by
    unfold partsF
    rw [cutAt_right, Nat.add_assoc, partsF_right a b f]
    by_cases h : i < b.size
    · rw [if_pos h, if_pos (by simp; omega)]
    · rw [if_neg h, if_neg (by simp; omega)]
theorem parts_right (a b : ByteArray) : partsFrom (a ++ b) a.size = parts b := by
  have := partsF_right a b (b.size - 0) 0
  unfold parts partsFrom
  rw [Nat.add_zero] at this
  rw [← this]
  congr 1
  simp
theorem parts_two (a b : ByteArray) : ∀ (f i : Nat), a.size - i ≤ f → i ≤ a.size → (∀ p ∈ partsFrom a i, p.ok = true) → partsFrom (a ++ b) i = partsFrom a i ++ parts b
  | 0, i, hf, hi, _ => by
    obtain rfl : i = a.size := by omega
    rw [parts_right, partsFrom_end a _ (Nat.le_refl _)]; rfl
  | f + 1, i, hf, hi, h => by
    by_cases hlt : i < a.size
    · have hl := cutAt_len a i hlt
      rw [partsFrom_step a i hlt] at h ⊢
      have hok := h _ (List.mem_cons_self ..)
      rw [partsFrom_step (a ++ b) i (by simp; omega), cutAt_left a b i hlt hok]
      rw [parts_two a b f _ (by omega) hl.2 (fun p hp => h p (List.mem_cons_of_mem _ hp))]
      rfl
    · obtain rfl : i = a.size := by omega
      rw [parts_right, partsFrom_end a _ (Nat.le_refl _)]; rfl
theorem parts_append (a b : ByteArray) (h : ∀ p ∈ parts a, p.ok = true) : parts (a ++ b) = parts a ++ parts b := parts_two a b a.size 0 (by omega) (Nat.zero_le _) h

/-! How many bytes begin a part. -/
def lead (s : ByteArray) (i : Nat) : Bool := !decide (128 ≤ byteAt s i ∧ byteAt s i ≤ 191)
/-- Of the first k bytes. -/
def leads (s : ByteArray) : Nat → Nat
  | 0 => 0
  | k + 1 => leads s k + if lead s k = true then 1 else 0
theorem leads_add (s : ByteArray) (i : Nat) : ∀ n, (∀ j, j < n → lead s (i + j) = false) → leads s (i + n) = leads s i
  | 0, _ => rfl
  | n + 1, h => by
    have e : leads s (i + (n + 1)) = leads s (i + n) + if lead s (i + n) = true then 1 else 0 := rfl
    rw [e, leads_add s i n (fun j hj => h j (by omega)), h n (by omega)]
    simp
theorem ok_bytes {n b0 b1 b2 b3 : Nat} (h : (cutN n b0 b1 b2 b3).ok = true) : ¬ (128 ≤ b0 ∧ b0 ≤ 191) ∧ (2 ≤ (cutN n b0 b1 b2 b3).len → 128 ≤ b1 ∧ b1 ≤ 191) ∧ (3 ≤ (cutN n b0 b1 b2 b3).len → 128 ≤ b2 ∧ b2 ≤ 191) ∧ (4 ≤ (cutN n b0 b1 b2 b3).len → 128 ≤ b3 ∧ b3 ≤ 191) ∧ (cutN n b0 b1 b2 b3).len ≤ 4 := by
  have h0 : ¬ (128 ≤ b0 ∧ b0 ≤ 191) := by
    rintro ⟨h1, h2⟩
    have e1 : ¬ b0 < 128 := by omega
    have e2 : b0 < 194 := by omega
    simp [cutN, e1, e2] at h
  refine ⟨h0, ?_⟩
  rcases cut_cases n b0 b1 b2 b3 with ⟨hs, hl⟩ | ⟨hs, ⟨⟨h1, h1'⟩, ho, hl⟩ | ⟨h1, ho, hl⟩⟩ | ⟨hs, ⟨⟨h1, h1'⟩, ⟨h2, h2'⟩, ho, hl⟩ | ⟨⟨h1, h1'⟩, h2, ho, hl⟩ | ⟨h1, ho, hl⟩⟩ | ⟨hs, ⟨⟨h1, h1'⟩, ⟨h2, h2'⟩, ⟨h3, h3'⟩, ho, hl⟩ | ⟨⟨h1, h1'⟩, ⟨h2, h2'⟩, h3, ho, hl⟩ | ⟨⟨h1, h1'⟩, h2, ho, hl⟩ | ⟨h1, ho, hl⟩⟩
  all_goals first | (rw [ho] at h; cases h; done) | skip
  all_goals rw [hl]
  all_goals refine ⟨fun hh => ?_, fun hh => ?_, fun hh => ?_, by omega⟩
  all_goals first | omega | exact sec_tail h1' | (simpa [tailB] using h2') | (simpa [tailB] using h3')
theorem leads_part (s : ByteArray) (i : Nat) (hi : i < s.size) (h : (cutAt s i).ok = true) : leads s (i + (cutAt s i).len) = leads s i + 1 := by
  have hl := cutAt_len s i hi
  have hb := ok_bytes (n := s.size - i) (b0 := byteAt s i) (b1 := byteAt s (i + 1)) (b2 := byteAt s (i + 2)) (b3 := byteAt s (i + 3)) h
  change ¬ _ ∧ (2 ≤ (cutAt s i).len → _) ∧ (3 ≤ (cutAt s i).len → _) ∧ (4 ≤ (cutAt s i).len → _) ∧ (cutAt s i).len ≤ 4 at hb
  generalize (cutAt s i).len = n at *
  obtain ⟨m, rfl⟩ : ∃ m, n = m + 1 := ⟨n - 1, by omega⟩
  rw [show i + (m + 1) = (i + 1) + m from by omega, leads_add]
  · have e : leads s (i + 1) = leads s i + if lead s i = true then 1 else 0 := rfl
    have hlead : lead s i = true := by
      have := hb.1
      unfold lead
      rw [Bool.not_eq_true', decide_eq_false_iff_not]
      exact this
    rw [e, hlead]; rfl
  · intro j hj
    unfold lead
    rw [Bool.not_eq_false', decide_eq_true_eq]
    rcases (by omega : j = 0 ∨ j = 1 ∨ j = 2) with rfl | rfl | rfl
    · exact hb.2.1 (by omega)
    · exact hb.2.2.1 (by omega)
    · exact hb.2.2.2.1 (by omega)
theorem leads_parts (s : ByteArray) : ∀ (f i : Nat), s.size - i ≤ f → i ≤ s.size → (∀ p ∈ partsFrom s i, p.ok = true) → leads s s.size = leads s i + (partsFrom s i).length
  | 0, i, hf, hi, _ => by
    obtain rfl : i = s.size := by omega
    rw [partsFrom_end s _ (Nat.le_refl _)]; rfl
  | f + 1, i, hf, hi, h => by
    by_cases hlt : i < s.size
    · have hl := cutAt_len s i hlt
      rw [partsFrom_step s i hlt] at h ⊢
      have hok := h _ (List.mem_cons_self ..)
      have := leads_parts s f _ (by omega) hl.2 (fun p hp => h p (List.mem_cons_of_mem _ hp))
      rw [this, leads_part s i hlt hok]
      simp; omega
    · obtain rfl : i = s.size := by omega
      rw [partsFrom_end s _ (Nat.le_refl _)]; rfl
theorem leads_all (s : ByteArray) (h : ∀ p ∈ parts s, p.ok = true) : leads s s.size = (parts s).length := by
  have := leads_parts s s.size 0 (by omega) (Nat.zero_le _) h
  rw [this]
  simp [leads, parts]
end Go.UtfKit
namespace Go.Proofs.YtkfmfldkllkcbaaGreatDoor.U
open Go.RowKit Go.RunKit Go.UtfKit Go.Lib

def partBytes (s : ByteArray) (i n : Nat) : List Int := (List.range n).map fun j => (byteAt s (i + j) : Int)

theorem sec_cases {a b : Nat} (h : sec a b = true) : 128 ≤ b ∧ b ≤ 191 ∧ (a = 224 → 160 ≤ b) ∧ (a = 237 → b ≤ 159) ∧ (a = 240 → 144 ≤ b) ∧ (a = 244 → b ≤ 143) := by
  unfold sec at h
  repeat' split at h
  all_goals simp at h
  all_goals omega
theorem tailB_cases {b : Nat} (h : tailB b = true) : 128 ≤ b ∧ b ≤ 191 := by simpa [tailB] using h

theorem encode_part (n b0 b1 b2 b3 : Nat) (h : (cutN n b0 b1 b2 b3).ok = true) :
    encodeRuneZ ((cutN n b0 b1 b2 b3).char : Nat) = [(b0 : Int), b1, b2, b3].take (cutN n b0 b1 b2 b3).len := by
  by_cases c1 : b0 < 128
  · have e : cutN n b0 b1 b2 b3 = ⟨b0, 1, true⟩ := by unfold cutN; rw [if_pos c1]
    rw [e]
    exact encodeRuneZ_one (by simp) (by simp only; omega)
  by_cases c2 : b0 < 194
  · have e : cutN n b0 b1 b2 b3 = ⟨65533, 1, false⟩ := by unfold cutN; rw [if_neg c1, if_pos c2]
    rw [e] at h; cases h
  by_cases c3 : b0 < 224
  · by_cases h1 : 1 < n ∧ sec b0 b1 = true
    · have e : cutN n b0 b1 b2 b3 = ⟨b0 % 32 * 64 + b1 % 64, 2, true⟩ := by unfold cutN; rw [if_neg c1, if_neg c2, if_pos c3, if_pos h1]
      have hs := sec_cases h1.2
      rw [e]
      simp only
      rw [encodeRuneZ_two (by omega) (by omega)]
      simp only [List.take_succ_cons, List.take_zero]
      congr 1
      · omega
      · congr 1; omega
    · have e : cutN n b0 b1 b2 b3 = ⟨65533, 1, false⟩ := by unfold cutN; rw [if_neg c1, if_neg c2, if_pos c3, if_neg h1]
      rw [e] at h; cases h
  by_cases c4 : b0 < 240
  · by_cases h1 : 1 < n ∧ sec b0 b1 = true
    · by_cases h2 : 2 < n ∧ tailB b2 = true
      · have e : cutN n b0 b1 b2 b3 = ⟨b0 % 16 * 4096 + b1 % 64 * 64 + b2 % 64, 3, true⟩ := by unfold cutN; rw [if_neg c1, if_neg c2, if_neg c3, if_pos c4, if_pos h1, if_pos h2]
        have hs := sec_cases h1.2
        have ht := tailB_cases h2.2
        rw [e]
        simp only
        rw [encodeRuneZ_three (by omega)]
        simp only [List.take_succ_cons, List.take_zero]
        congr 1
        · omega
        · congr 1
          · omega
          · congr 1; omega
      · have e : cutN n b0 b1 b2 b3 = ⟨65533, 2, false⟩ := by unfold cutN; rw [if_neg c1, if_neg c2, if_neg c3, if_pos c4, if_pos h1, if_neg h2]
        rw [e] at h; cases h
    · have e : cutN n b0 b1 b2 b3 = ⟨65533, 1, false⟩ := by unfold cutN; rw [if_neg c1, if_neg c2, if_neg c3, if_pos c4, if_neg h1]
      rw [e] at h; cases h
  by_cases c5 : b0 < 245
  · by_cases h1 : 1 < n ∧ sec b0 b1 = true
    · by_cases h2 : 2 < n ∧ tailB b2 = true
      · by_cases h3 : 3 < n ∧ tailB b3 = true
        · have e : cutN n b0 b1 b2 b3 = ⟨b0 % 8 * 262144 + b1 % 64 * 4096 + b2 % 64 * 64 + b3 % 64, 4, true⟩ := by unfold cutN; rw [if_neg c1, if_neg c2, if_neg c3, if_neg c4, if_pos c5, if_pos h1, if_pos h2, if_pos h3]
          have hs := sec_cases h1.2
          have ht := tailB_cases h2.2
          have hu := tailB_cases h3.2
          rw [e]
          simp only
          rw [encodeRuneZ_four (by omega) (by omega)]
          simp only [List.take_succ_cons, List.take_zero]
          congr 1
          · omega
          · congr 1
            · omega
            · congr 1
              · omega
              · congr 1; omega
        · have e : cutN n b0 b1 b2 b3 = ⟨65533, 3, false⟩ := by unfold cutN; rw [if_neg c1, if_neg c2, if_neg c3, if_neg c4, if_pos c5, if_pos h1, if_pos h2, if_neg h3]
          rw [e] at h; cases h
      · have e : cutN n b0 b1 b2 b3 = ⟨65533, 2, false⟩ := by unfold cutN; rw [if_neg c1, if_neg c2, if_neg c3, if_neg c4, if_pos c5, if_pos h1, if_neg h2]
        rw [e] at h; cases h
    · have e : cutN n b0 b1 b2 b3 = ⟨65533, 1, false⟩ := by unfold cutN; rw [if_neg c1, if_neg c2, if_neg c3, if_neg c4, if_pos c5, if_neg h1]
      rw [e] at h; cases h
  · have e : cutN n b0 b1 b2 b3 = ⟨65533, 1, false⟩ := by unfold cutN; rw [if_neg c1, if_neg c2, if_neg c3, if_neg c4, if_neg c5]
    rw [e] at h; cases h

/-- The bytes of a well-formed part, as they stand in the text. -/
theorem encode_at (s : ByteArray) (i : Nat) (hi : i < s.size) (h : (cutAt s i).ok = true) : encodeRune ((cutAt s i).char : Nat) = (s.extract i (i + (cutAt s i).len)).data.toList := by
  have hl := cutAt_len s i hi
  have h1 := encode_part _ _ _ _ _ h
  change encodeRuneZ ((cutAt s i).char : Nat) = _ at h1
  have hlen : (cutAt s i).len ≤ 4 := by
    have := (encodeRuneZ_length ((cutAt s i).char : Nat)).2
    rcases cut_cases (s.size - i) (byteAt s i) (byteAt s (i + 1)) (byteAt s (i + 2)) (byteAt s (i + 3)) with ⟨_, e⟩ | ⟨_, ⟨_, _, e⟩ | ⟨_, _, e⟩⟩ | ⟨_, ⟨_, _, _, e⟩ | ⟨_, _, _, e⟩ | ⟨_, _, e⟩⟩ | ⟨_, ⟨_, _, _, _, e⟩ | ⟨_, _, _, _, e⟩ | ⟨_, _, _, e⟩ | ⟨_, _, e⟩⟩
    all_goals (change (cutAt s i).len = _ at e; omega)
  change encodeRuneZ ((cutAt s i).char : Nat) = [(byteAt s i : Int), byteAt s (i + 1), byteAt s (i + 2), byteAt s (i + 3)].take (cutAt s i).len at h1
  unfold encodeRune
  rw [h1]
  generalize (cutAt s i).len = n at *
  have hb : ∀ k, k < s.size → s.data.toList[k]? = some ((byteAt s k : Int).toNat.toUInt8) := fun k hk => by
    have hk' : k < s.data.toList.length := by simpa using hk
    rw [List.getElem?_eq_getElem hk', byteAt_get s k hk]
    simp
    rfl
  apply List.ext_getElem?
  intro j
  have er : (s.extract i (i + n)).data.toList[j]? = if j < n then s.data.toList[i + j]? else none := by
    simp [List.getElem?_take, List.getElem?_drop]
  rw [er]
  by_cases hj : j < n
  · rw [if_pos hj, hb (i + j) (by omega), List.getElem?_map, List.getElem?_take, if_pos hj]
    rcases (by omega : j = 0 ∨ j = 1 ∨ j = 2 ∨ j = 3) with rfl | rfl | rfl | rfl <;> rfl
  · rw [if_neg hj, List.getElem?_map, List.getElem?_take, if_neg hj]
    rfl
end Go.Proofs.YtkfmfldkllkcbaaGreatDoor.U
