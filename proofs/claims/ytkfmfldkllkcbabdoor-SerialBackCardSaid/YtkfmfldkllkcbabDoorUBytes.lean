/-
  The bytes of a well-formed part are those of its character. No conditions.
-/
import Derived.Test.YtkfmfldkllkcbabDoorUMath2
import Derived.Test.YtkfmfldkllkcbabDoorUDec2
import Derived.Lib.RuneBytes
namespace Go.Proofs.YtkfmfldkllkcbabDoor.U
open Go.RowKit Go.RunKit Go.UtfKit Go.Lib

theorem sec_cases {a b : Nat} (h : sec a b = true) : 128 ≤ b ∧ b ≤ 191 ∧ (a = 224 → 160 ≤ b) ∧ (a = 237 → b ≤ 159) ∧ (a = 240 → 144 ≤ b) ∧ (a = 244 → b ≤ 143) := by
  unfold sec at h
  repeat' split at h
  all_goals simp at h
  all_goals omega
theorem tailB_cases {b : Nat} (h : tailB b = true) : 128 ≤ b ∧ b ≤ 191 := by simpa [tailB] using h

theorem encode_part (n b0 b1 b2 b3 : Nat) (h : (cutN n b0 b1 b2 b3).ok = true) :
    encodeRuneZ ((cutN n b0 b1 b2 b3).char : Nat) = [(b0 : Int), b1, b2, b3].take (cutN n b0 b1 b2 b3).len := by
  by_cases c1 : b0 < 128
  · have e : cutN n b0 b1 b2 b3 = ⟨b0, 1, true⟩ := by unfold cutN; rw [if_pos c1]
    rw [e]
    exact encodeRuneZ_one (by simp) (by simp only; omega)
  by_cases c2 : b0 < 194
  · have e : cutN n b0 b1 b2 b3 = ⟨65533, 1, false⟩ := by unfold cutN; rw [if_neg c1, if_pos c2]
    rw [e] at h; cases h
  by_cases c3 : b0 < 224
  · by_cases h1 : 1 < n ∧ sec b0 b1 = true
    · have e : cutN n b0 b1 b2 b3 = ⟨b0 % 32 * 64 + b1 % 64, 2, true⟩ := by unfold cutN; rw [if_neg c1, if_neg c2, if_pos c3, if_pos h1]
      have hs := sec_cases h1.2
      rw [e]
      simp only
      rw [encodeRuneZ_two (by omega) (by omega)]
      simp only [List.take_succ_cons, List.take_zero]
      congr 1
      · omega
      · congr 1; omega
    · have e : cutN n b0 b1 b2 b3 = ⟨65533, 1, false⟩ := by unfold cutN; rw [if_neg c1, if_neg c2, if_pos c3, if_neg h1]
      rw [e] at h; cases h
  by_cases c4 : b0 < 240
  · by_cases h1 : 1 < n ∧ sec b0 b1 = true
    · by_cases h2 : 2 < n ∧ tailB b2 = true
      · have e : cutN n b0 b1 b2 b3 = ⟨b0 % 16 * 4096 + b1 % 64 * 64 + b2 % 64, 3, true⟩ := by unfold cutN; rw [if_neg c1, if_neg c2, if_neg c3, if_pos c4, if_pos h1, if_pos h2]
        have hs := sec_cases h1.2
        have ht := tailB_cases h2.2
        rw [e]
        simp only
        rw [encodeRuneZ_three (by omega)]
        simp only [List.take_succ_cons, List.take_zero]
        congr 1
        · omega
        · congr 1
          · omega
          · congr 1; omega
      · have e : cutN n b0 b1 b2 b3 = ⟨65533, 2, false⟩ := by unfold cutN; rw [if_neg c1, if_neg c2, if_neg c3, if_pos c4, if_pos h1, if_neg h2]
        rw [e] at h; cases h
    · have e : cutN n b0 b1 b2 b3 = ⟨65533, 1, false⟩ := by unfold cutN; rw [if_neg c1, if_neg c2, if_neg c3, if_pos c4, if_neg h1]
      rw [e] at h; cases h
  by_cases c5 : b0 < 245
  · by_cases h1 : 1 < n ∧ sec b0 b1 = true
    · by_cases h2 : 2 < n ∧ tailB b2 = true
      · by_cases h3 : 3 < n ∧ tailB b3 = true
        · have e : cutN n b0 b1 b2 b3 = ⟨b0 % 8 * 262144 + b1 % 64 * 4096 + b2 % 64 * 64 + b3 % 64, 4, true⟩ := by unfold cutN; rw [if_neg c1, if_neg c2, if_neg c3, if_neg c4, if_pos c5, if_pos h1, if_pos h2, if_pos h3]
          have hs := sec_cases h1.2
          have ht := tailB_cases h2.2
          have hu := tailB_cases h3.2
          rw [e]
          simp only
          rw [encodeRuneZ_four (by omega) (by omega)]
          simp only [List.take_succ_cons, List.take_zero]
          congr 1
          · omega
          · congr 1
            · omega
            · congr 1
              · omega
              · congr 1; omega
        · have e : cutN n b0 b1 b2 b3 = ⟨65533, 3, false⟩ := by unfold cutN; rw [if_neg c1, if_neg c2, if_neg c3, if_neg c4, if_pos c5, if_pos h1, if_pos h2, if_neg h3]
          rw [e] at h; cases h
      · have e : cutN n b0 b1 b2 b3 = ⟨65533, 2, false⟩ := by unfold cutN; rw [if_neg c1, if_neg c2, if_neg c3, if_neg c4, if_pos c5, if_pos h1, if_neg h2]
        rw [e] at h; cases h
    · have e : cutN n b0 b1 b2 b3 = ⟨65533, 1, false⟩ := by unfold cutN; rw [if_neg c1, if_neg c2, if_neg c3, if_neg c4, if_pos c5, if_neg h1]
      rw [e] at h; cases h
  · have e : cutN n b0 b1 b2 b3 = ⟨65533, 1, false⟩ := by unfold cutN; rw [if_neg c1, if_neg c2, if_neg c3, if_neg c4, if_neg c5]
    rw [e] at h; cases h

/-- The bytes of a well-formed part, as they stand in the text. -/
theorem encode_at (s : ByteArray) (i : Nat) (hi : i < s.size) (h : (cutAt s i).ok = true) : encodeRune ((cutAt s i).char : Nat) = (s.extract i (i + (cutAt s i).len)).data.toList := by
  have hl := cutAt_len s i hi
  have h1 := encode_part _ _ _ _ _ h
  change encodeRuneZ ((cutAt s i).char : Nat) = _ at h1
  have hlen : (cutAt s i).len ≤ 4 := by
    have := (encodeRuneZ_length ((cutAt s i).char : Nat)).2
    rcases cut_cases (s.size - i) (byteAt s i) (byteAt s (i + 1)) (byteAt s (i + 2)) (byteAt s (i + 3)) with ⟨_, e⟩ | ⟨_, ⟨_, _, e⟩ | ⟨_, _, e⟩⟩ | ⟨_, ⟨_, _, _, e⟩ | ⟨_, _, _, e⟩ | ⟨_, _, e⟩⟩ | ⟨_, ⟨_, _, _, _, e⟩ | ⟨_, _, _, _, e⟩ | ⟨_, _, _, e⟩ | ⟨_, _, e⟩⟩
    all_goals (change (cutAt s i).len = _ at e; omega)
  change encodeRuneZ ((cutAt s i).char : Nat) = [(byteAt s i : Int), byteAt s (i + 1), byteAt s (i + 2), byteAt s (i + 3)].take (cutAt s i).len at h1
  unfold encodeRune
  rw [h1]
  generalize (cutAt s i).len = n at *
  have hb : ∀ k, k < s.size → s.data.toList[k]? = some ((byteAt s k : Int).toNat.toUInt8) := fun k hk => by
    have hk' : k < s.data.toList.length := by simpa using hk
    rw [List.getElem?_eq_getElem hk', byteAt_get s k hk]
    simp
    rfl
  apply List.ext_getElem?
  intro j
  have er : (s.extract i (i + n)).data.toList[j]? = if j < n then s.data.toList[i + j]? else none := by
    simp [List.getElem?_take, List.getElem?_drop]
  rw [er]
  by_cases hj : j < n
  · rw [if_pos hj, hb (i + j) (by omega), List.getElem?_map, List.getElem?_take, if_pos hj]
    rcases (by omega : j = 0 ∨ j = 1 ∨ j = 2 ∨ j = 3) with rfl | rfl | rfl | rfl <;> rfl
  · rw [if_neg hj, List.getElem?_map, List.getElem?_take, if_neg hj]
    rfl
end Go.Proofs.YtkfmfldkllkcbabDoor.U

