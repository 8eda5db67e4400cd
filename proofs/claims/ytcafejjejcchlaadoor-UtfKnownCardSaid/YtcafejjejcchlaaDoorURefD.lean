/-
  The document's Decode. Conditions: the slice reads as the text.
-/
import Derived.Test.YtcafejjejcchlaaDoorUBytes
import Derived.Test.YtcafejjejcchlaaDoorURefR
import Derived.Test.YtcafejjejcchlaaDoorUDec2
import Derived.Lib.AppendStr
namespace Go.Proofs.YtcafejjejcchlaaDoor
open Go.RowKit Go.RunKit Go.UtfKit Go.Lib

/-- The mark and the bytes behind the parts d. -/
def st (d : List Part) : Bool × List UInt8 := d.foldl takeByte (false, [])
theorem st_snoc (d : List Part) (p : Part) : st (d ++ [p]) = takeByte (st d) p := by simp [st]
theorem told_eq (d : List Part) : told d = (st d).2 := rfl
/-- Where the mark is set, the next part is no line feed. -/
def Calm (s : ByteArray) (d : List Part) (pos : Nat) : Prop := (st d).1 = true → pos < s.size → (cutAt s pos).char ≠ 10

/-- What is held at the loop's head. -/
structure Head (w0 : World) (s : ByteArray) (d : List Part) (pos m cap : Nat) (b : Option Addr) (w : World) : Prop where
  split : d ++ partsFrom s pos = parts s
  row : w.ownsRow w0.heap.size 5 1 (.slice b m cap) m (byteCells (st d).2)
  calm : Calm s d pos
  below : Below w0.heap.size w0 w

theorem bad_takes {s : ByteArray} {d : List Part} {pos : Nat} (h : (cutAt s pos).ok = false) : st (d ++ [cutAt s pos]) = (false, (st d).2 ++ encodeRune 65533) := by
  have hc := cut_char_bad _ _ _ _ _ h
  change (cutAt s pos).char = 65533 at hc
  rw [st_snoc]
  simp [takeByte, hc]
theorem cr_takes {s : ByteArray} {d : List Part} {pos : Nat} (h : (cutAt s pos).char = 13) : st (d ++ [cutAt s pos]) = (true, (st d).2 ++ encodeRune 10) := by
  rw [st_snoc]
  simp [takeByte, h]
theorem else_takes {s : ByteArray} {d : List Part} {pos : Nat} (hp : pos < s.size) (hcalm : Calm s d pos) (h : (cutAt s pos).char ≠ 13) : st (d ++ [cutAt s pos]) = (false, (st d).2 ++ encodeRune ((cutAt s pos).char : Nat)) := by
  rw [st_snoc]
  have h1 : ¬ ((st d).1 = true ∧ (cutAt s pos).char = 10) := fun e => hcalm e.1 hp e.2
  simp [takeByte, h, h1]
theorem lf_takes {d : List Part} (h : (st d).1 = true) : st (d ++ [⟨10, 1, true⟩]) = (false, (st d).2) := by
  rw [st_snoc]
  simp [takeByte, h]
theorem cut_lf {s : ByteArray} {pos : Nat} (h : byteAt s pos = 10) : cutAt s pos = ⟨10, 1, true⟩ := by
  unfold cutAt cutN
  rw [h]; rfl
theorem char_ten {s : ByteArray} {pos : Nat} (h : (cutAt s pos).char = 10) : byteAt s pos = 10 := by
  by_cases c : byteAt s pos < 128
  · have : cutAt s pos = ⟨byteAt s pos, 1, true⟩ := by unfold cutAt cutN; rw [if_pos c]
    rw [this] at h; exact h
  · exfalso
    cases ho : (cutAt s pos).ok with
    | false =>
      have hc := cut_char_bad _ _ _ _ _ ho
      change (cutAt s pos).char = 65533 at hc
      omega
    | true =>
      have h1 := encode_part _ _ _ _ _ ho
      change encodeRuneZ ((cutAt s pos).char : Nat) = [(byteAt s pos : Int), _, _, _].take (cutAt s pos).len at h1
      rw [h] at h1
      have h2 : encodeRuneZ ((10 : Nat) : Int) = [10] := by decide
      rw [h2] at h1
      cases hl : (cutAt s pos).len with
      | zero => rw [hl] at h1; simp at h1
      | succ k => rw [hl] at h1; simp at h1; omega
theorem cr_len {s : ByteArray} {pos : Nat} (h : (cutAt s pos).char = 13) : (cutAt s pos).ok = true ∧ (cutAt s pos).len = 1 := by
  cases ho : (cutAt s pos).ok with
  | false =>
    have hc := cut_char_bad _ _ _ _ _ ho
    change (cutAt s pos).char = 65533 at hc
    omega
  | true =>
    refine ⟨rfl, ?_⟩
    by_cases c : byteAt s pos < 128
    · have : cutAt s pos = ⟨byteAt s pos, 1, true⟩ := by unfold cutAt cutN; rw [if_pos c]
      rw [this]
    · exfalso
      have h1 := encode_part _ _ _ _ _ ho
      change encodeRuneZ ((cutAt s pos).char : Nat) = [(byteAt s pos : Int), _, _, _].take (cutAt s pos).len at h1
      rw [h] at h1
      have h2 : encodeRuneZ ((13 : Nat) : Int) = [13] := by decide
      rw [h2] at h1
      cases hl : (cutAt s pos).len with
      | zero => rw [hl] at h1; simp at h1
      | succ k => rw [hl] at h1; simp at h1; omega
end Go.Proofs.YtcafejjejcchlaaDoor
