/-
  What Decode tells of a well-formed text without the character 13: itself. No conditions.
-/
import Derived.Test.YtkfmfldkllkcbaaGreatDoorPKU
import Derived.Test.YtkfmfldkllkcbaaGreatDoorRTell
namespace Go.Proofs.YtkfmfldkllkcbaaGreatDoor
open Go.RowKit Go.RunKit Go.UtfKit Go.CharrefKit Go.Lib Go.TokenKit Go.TreeKit

theorem byteAt_mem {s : ByteArray} {j : Nat} (hj : j < s.size) : ∃ b, b ∈ bl s ∧ byteAt s j = b.toNat := by
  have hl : j < (bl s).length := by rw [bl_length]; exact hj
  refine ⟨(bl s)[j], List.getElem_mem hl, ?_⟩
  rw [U.byteAt_get s j hj]
  rfl
theorem ascii_ok {s : ByteArray} (h : ∀ b, b ∈ bl s → b.toNat < 128) : ∀ p, p ∈ UtfKit.parts s → p.ok = true := by
  intro p hp
  obtain ⟨j, hj, rfl⟩ := U.parts_mem s _ _ p hp
  obtain ⟨b, hb, e⟩ := byteAt_mem hj
  have hlt : byteAt s j < 128 := by rw [e]; exact h b hb
  unfold cutAt cutN
  rw [if_pos hlt]
theorem char_of_cr {s : ByteArray} {i : Nat} (hi : i < s.size) (ho : (cutAt s i).ok = true) (h : (cutAt s i).char = 13) : ∃ b, b ∈ bl s ∧ b.toNat = 13 := by
  have h1 := U.encode_at s i hi ho
  have hl := cutAt_len s i hi
  rw [h, show encodeRune ((13 : Nat) : Int) = [13] by decide] at h1
  refine ⟨13, ?_, rfl⟩
  have hm : (13 : UInt8) ∈ (s.extract i (i + (cutAt s i).len)).data.toList := by rw [← h1]; simp
  have e : (s.extract i (i + (cutAt s i).len)).data.toList = ((bl s).drop i).take (cutAt s i).len := by
    simp [bl, List.extract]
  rw [e] at hm
  exact List.mem_of_mem_drop (List.mem_of_mem_take hm)
theorem told_from (s : ByteArray) (h13 : ∀ b, b ∈ bl s → b.toNat ≠ 13) : ∀ (f i : Nat) (l : List UInt8), s.size - i ≤ f → i ≤ s.size → (∀ p, p ∈ partsFrom s i → p.ok = true) → ((partsFrom s i).foldl U.takeByte (false, l)).2 = l ++ (bl s).drop i
  | 0, i, l, hf, hi, _ => by
    rw [partsFrom_end s i (by omega), List.drop_eq_nil_of_le (by rw [bl_length]; omega)]
    simp
  | f + 1, i, l, hf, hi, hok => by
    by_cases h : i < s.size
    · have hl := cutAt_len s i h
      rw [partsFrom_step s i h] at hok ⊢
      have ho := hok _ (List.mem_cons_self)
      have hc : ¬ (cutAt s i).char = 13 := fun e => by
        obtain ⟨b, hb, e2⟩ := char_of_cr h ho e
        exact h13 b hb e2
      rw [List.foldl_cons]
      have et : U.takeByte (false, l) (cutAt s i) = (false, l ++ encodeRune ((cutAt s i).char : Nat)) := by
        unfold U.takeByte
        simp [hc]
      rw [et, told_from s h13 f (i + (cutAt s i).len) _ (by omega) hl.2 (fun p hp => hok p (List.mem_cons_of_mem _ hp))]
      rw [U.encode_at s i h ho]
      have e : (s.extract i (i + (cutAt s i).len)).data.toList = ((bl s).drop i).take (cutAt s i).len := by
        simp [bl, List.extract]
      rw [e, List.append_assoc]
      congr 1
      rw [← List.drop_drop]
      exact List.take_append_drop _ _
    · rw [partsFrom_end s i (by omega), List.drop_eq_nil_of_le (by rw [bl_length]; omega)]
      simp
theorem told_plain {s : ByteArray} (h13 : ∀ b, b ∈ bl s → b.toNat ≠ 13) (hok : ∀ p, p ∈ UtfKit.parts s → p.ok = true) : U.told (UtfKit.parts s) = bl s := by
  have := told_from s h13 s.size 0 [] (by omega) (Nat.zero_le _) hok
  unfold U.told UtfKit.parts
  simpa using this
theorem decL_plain {s : ByteArray} (hs : s.size ≤ 65536) (h13 : ∀ b, b ∈ bl s → b.toNat ≠ 13) (hok : ∀ p, p ∈ UtfKit.parts s → p.ok = true) : decL s = .ok (bl s) := by
  unfold decL
  rw [if_pos hs, told_plain h13 hok]
end Go.Proofs.YtkfmfldkllkcbaaGreatDoor
