/-
  How bytes are cut into parts: the document's way, beside the model's own decoding. No conditions.
-/
import Derived.Lib.DecodeN
import Derived.Lib.RuneCount
namespace Go.UtfKit
open Go Go.Lib

/-- May b be the second byte behind a? -/
def sec (a b : Nat) : Bool :=
  if a = 224 then decide (160 ≤ b ∧ b ≤ 191) else if a = 237 then decide (128 ≤ b ∧ b ≤ 159) else if a = 240 then decide (144 ≤ b ∧ b ≤ 191) else if a = 244 then decide (128 ≤ b ∧ b ≤ 143) else decide (128 ≤ b ∧ b ≤ 191)
def tailB (b : Nat) : Bool := decide (128 ≤ b ∧ b ≤ 191)

/-- A part: its character, how many bytes, whether it is well-formed. -/
structure Part where
  char : Nat
  len : Nat
  ok : Bool
  deriving DecidableEq

def cutN (n b0 b1 b2 b3 : Nat) : Part :=
  if b0 < 128 then ⟨b0, 1, true⟩
  else if b0 < 194 then ⟨65533, 1, false⟩
  else if b0 < 224 then
    if 1 < n ∧ sec b0 b1 = true then ⟨b0 % 32 * 64 + b1 % 64, 2, true⟩ else ⟨65533, 1, false⟩
  else if b0 < 240 then
    if 1 < n ∧ sec b0 b1 = true then
      if 2 < n ∧ tailB b2 = true then ⟨b0 % 16 * 4096 + b1 % 64 * 64 + b2 % 64, 3, true⟩ else ⟨65533, 2, false⟩
    else ⟨65533, 1, false⟩
  else if b0 < 245 then
    if 1 < n ∧ sec b0 b1 = true then
      if 2 < n ∧ tailB b2 = true then
        if 3 < n ∧ tailB b3 = true then ⟨b0 % 8 * 262144 + b1 % 64 * 4096 + b2 % 64 * 64 + b3 % 64, 4, true⟩ else ⟨65533, 3, false⟩
      else ⟨65533, 2, false⟩
    else ⟨65533, 1, false⟩
  else ⟨65533, 1, false⟩

/-- How many bytes the first one asks for (Go's table). -/
def sizeT (b : Nat) : Nat := if b < 128 then 0 else if b < 194 then 1 else if b < 224 then 2 else if b < 240 then 3 else if b < 245 then 4 else 1
/-- utf8.FullRuneInString of n bytes that begin so. -/
def fullN (n b0 b1 b2 : Nat) : Bool := decide (0 < n) && (decide (sizeT b0 ≤ n) || (decide (1 < n) && !sec b0 b1) || (decide (2 < n) && !tailB b2))
/-- beginningLen of n bytes that begin so. -/
def begN (n b0 b1 b2 : Nat) : Nat :=
  if 1 < n ∧ fullN 2 b0 b1 0 = false then
    if 2 < n ∧ fullN 3 b0 b1 b2 = false then 3 else 2
  else 1

set_option maxRecDepth 100000 in
set_option maxHeartbeats 4000000 in
theorem decode_cut (n b0 b1 b2 b3 : Nat) (h0 : b0 < 256) (h1 : b1 < 256) (h2 : b2 < 256) (h3 : b3 < 256) :
    decodeN n b0 b1 b2 b3 = if (cutN n b0 b1 b2 b3).ok = true then ((cutN n b0 b1 b2 b3).char, (cutN n b0 b1 b2 b3).len) else (65533, 1) := by
  by_cases c1 : b0 < 128
  · simp [decodeN, cutN, c1]
  by_cases c2 : b0 < 194
  · simp only [cutN, c1, c2, if_true, if_false]
    unfold decodeN
    repeat' split
    all_goals first | rfl | (exfalso; omega) | (simp at *; done)
  by_cases c3 : b0 < 224
  · have hs : sec b0 b1 = decide (128 ≤ b1 ∧ b1 ≤ 191) := by unfold sec; rw [if_neg (by omega), if_neg (by omega), if_neg (by omega), if_neg (by omega)]
    simp only [cutN, c1, c2, c3, if_true, if_false, hs, decide_eq_true_eq]
    unfold decodeN
    repeat' split
    all_goals first | rfl | (exfalso; omega) | (simp at *; done) | (exfalso; simp at *; omega)
  by_cases c4 : b0 < 240
  · simp only [cutN, c1, c2, c3, c4, if_true, if_false, sec, tailB, decide_eq_true_eq]
    unfold decodeN
    repeat' split
    all_goals first | rfl | (exfalso; simp at *; omega) | (exfalso; omega) | (simp at *; done)
  by_cases c5 : b0 < 245
  · simp only [cutN, c1, c2, c3, c4, c5, if_true, if_false, sec, tailB, decide_eq_true_eq]
    unfold decodeN
    repeat' split
    all_goals first | rfl | (exfalso; simp at *; omega) | (exfalso; omega) | (simp at *; done)
  · simp only [cutN, c1, c2, c3, c4, c5, if_false]
    unfold decodeN
    repeat' split
    all_goals first | rfl | (exfalso; omega) | (simp at *; done)
end Go.UtfKit

