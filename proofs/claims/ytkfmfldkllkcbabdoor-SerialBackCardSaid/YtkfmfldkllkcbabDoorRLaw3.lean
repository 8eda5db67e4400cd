/-
  The law on texts that a comment cuts. Conditions: both texts together are no longer than 2^48 bytes (their sum is reckoned ahead of all else); the library's variable MaxLen holds a number, its two tables what its text lays.
-/
import Derived.Test.YtkfmfldkllkcbabDoorRWell
import Derived.Test.YtkfmfldkllkcbabDoorRWords
import Derived.Test.YtkfmfldkllkcbabDoorRKind
import Derived.Test.YtkfmfldkllkcbabDoorUDec2
import Derived.Test.YtkfmfldkllkcbabDoorUMath2
import Derived.Test.YtkfmfldkllkcbabDoorRMem
import Derived.Test.YtkfmfldkllkcbabDoorUBytes
import Derived.Laws.IdiomStrings
import Derived.Lib.SlBytesConst
import Derived.Deep.RegionHeld3
import Derived.Deep.RegionHeld3
import Derived.Deep.RegionHeld3
import Derived.Deep.RegionHeld
import Derived.Lib.RuneBytes
namespace Go.Proofs.YtkfmfldkllkcbabDoor
open Go.RowKit Go.RunKit Go.CharrefKit Go.Lib Go.TokenKit Go.TreeKit

theorem bl_join (a b : ByteArray) : bl (a ++ b) = bl a ++ bl b := by simp [bl]
theorem enc_zero {z : Int} (h : z ≠ 0) : ∀ x ∈ encodeRuneZ z, x ≠ 0 := by
  intro x hx
  by_cases c0 : z < 0 ∨ (55296 ≤ z ∧ z ≤ 57343) ∨ 1114111 < z
  · rw [encodeRuneZ_bad c0] at hx
    simp at hx; omega
  by_cases c1 : z < 128
  · rw [encodeRuneZ_one (by omega) (by omega)] at hx
    simp at hx; omega
  by_cases c2 : z < 2048
  · rw [encodeRuneZ_two (by omega) (by omega)] at hx
    simp at hx; omega
  by_cases c3 : z < 65536
  · rw [encodeRuneZ_three (by omega)] at hx
    simp at hx; omega
  · rw [encodeRuneZ_four (by omega) (by omega)] at hx
    simp at hx; omega
theorem well_from (s : ByteArray) : ∀ (f i : Nat), s.size - i ≤ f → i ≤ s.size → (∀ p, p ∈ UtfKit.partsFrom s i → wellP p = true) → ∀ b, b ∈ (bl s).drop i → b ≠ 0
  | 0, i, hf, hi, _, b, hb => by
    rw [List.drop_eq_nil_of_le (by rw [bl_length]; omega)] at hb
    cases hb
  | f + 1, i, hf, hi, hok, b, hb => by
    by_cases h : i < s.size
    · have hl := UtfKit.cutAt_len s i h
      rw [UtfKit.partsFrom_step s i h] at hok
      have ho := hok _ (List.mem_cons_self)
      unfold wellP at ho
      simp only [Bool.and_eq_true, decide_eq_true_eq] at ho
      have he := U.encode_at s i h ho.1
      have e : (s.extract i (i + (UtfKit.cutAt s i).len)).data.toList = ((bl s).drop i).take (UtfKit.cutAt s i).len := by
        simp [bl, List.extract]
      rw [← List.take_append_drop (UtfKit.cutAt s i).len ((bl s).drop i), List.mem_append, ← e, ← he, List.drop_drop] at hb
      rcases hb with hb | hb
      · unfold encodeRune at hb
        obtain ⟨y, hy, rfl⟩ := List.mem_map.1 hb
        have h1 := enc_zero (z := ((UtfKit.cutAt s i).char : Nat)) (by have := ho.2; omega) y hy
        have h2 := encodeRuneZ_byte _ y hy
        intro e0
        have := congrArg UInt8.toNat e0
        simp at this
        omega
      · exact well_from s f _ (by omega) hl.2 (fun p hp => hok p (List.mem_cons_of_mem _ hp)) b hb
    · rw [List.drop_eq_nil_of_le (by rw [bl_length]; omega)] at hb
      cases hb
theorem well_zero {s : ByteArray} (h : wellL s = true) : ∀ b, b ∈ bl s → b ≠ 0 := fun b hb =>
  well_from s s.size 0 (by omega) (Nat.zero_le _) (fun p hp => List.all_eq_true.1 h p hp) b (by simpa using hb)
end Go.Proofs.YtkfmfldkllkcbabDoor

