/-
  Parts of what was encoded; parts of two texts, one behind the other; how many bytes begin a part. No conditions.
-/
import Derived.Test.YtmhdocgoeahbdaaDoorUMath2
import Derived.Lib.RuneBytes
namespace Go.UtfKit
open Go Go.Lib

theorem byteAt_list (l : List UInt8) (k : Nat) (h : k < l.length) : byteAt ⟨l.toArray⟩ k = l[k].toNat := by
  unfold byteAt ByteArray.get!
  simp [h]
theorem byteAt_past (s : ByteArray) (k : Nat) (h : s.size ≤ k) : byteAt s k = 0 := by
  unfold byteAt ByteArray.get!
  have : ¬ k < s.data.size := by have : s.data.size = s.size := rfl; omega
  simp only [Array.getElem!_eq_getD, Array.getD_eq_getD_getElem?]
  rw [Array.getElem?_eq_none (by omega)]
  rfl

/-! Two texts. -/
theorem byteAt_left (a b : ByteArray) (k : Nat) (h : k < a.size) : byteAt (a ++ b) k = byteAt a k := by
  have e1 : a = ⟨a.data.toList.toArray⟩ := rfl
  have hk : k < a.data.toList.length := by simpa using h
  have e2 : a ++ b = ⟨(a.data.toList ++ b.data.toList).toArray⟩ := by apply ByteArray.ext; simp
  rw [e2, byteAt_list _ _ (by simp; omega), List.getElem_append_left hk]
  conv => rhs; rw [e1]
  rw [byteAt_list _ _ hk]
theorem byteAt_right (a b : ByteArray) (k : Nat) : byteAt (a ++ b) (a.size + k) = byteAt b k := by
  by_cases h : k < b.size
  · have e1 : b = ⟨b.data.toList.toArray⟩ := rfl
    have hk : k < b.data.toList.length := by simpa using h
    have hs : a.data.toList.length = a.size := by simp
    have e2 : a ++ b = ⟨(a.data.toList ++ b.data.toList).toArray⟩ := by apply ByteArray.ext; simp
    rw [e2, byteAt_list _ _ (by simp; omega), List.getElem_append_right (by omega)]
    conv => rhs; rw [e1]
    rw [byteAt_list _ _ hk]
    simp [hs]
  · rw [byteAt_past _ _ (by simp; omega), byteAt_past _ _ (by omega)]

/-- A well-formed part reads as far as it goes, and no further. -/
theorem cutN_ok_more {n b0 b1 b2 b3 m c1 c2 c3 : Nat} (h : (cutN n b0 b1 b2 b3).ok = true) (hm : (cutN n b0 b1 b2 b3).len ≤ m)
    (e1 : 1 < (cutN n b0 b1 b2 b3).len → c1 = b1) (e2 : 2 < (cutN n b0 b1 b2 b3).len → c2 = b2) (e3 : 3 < (cutN n b0 b1 b2 b3).len → c3 = b3) : cutN m b0 c1 c2 c3 = cutN n b0 b1 b2 b3 := by
  by_cases k1 : b0 < 128
  · simp [cutN, k1]
  by_cases k2 : b0 < 194
  · simp [cutN, k1, k2] at h
  by_cases k3 : b0 < 224
  · by_cases h1 : 1 < n ∧ sec b0 b1 = true
    · have e : cutN n b0 b1 b2 b3 = ⟨b0 % 32 * 64 + b1 % 64, 2, true⟩ := by simp only [cutN, k1, k2, k3, if_true, if_false, if_pos h1]
      rw [e] at hm e1 e2 e3 ⊢
      simp only at hm e1 e2 e3
      obtain rfl := e1 (by omega)
      have g1 : 1 < m ∧ sec b0 c1 = true := ⟨by omega, h1.2⟩
      simp only [cutN, k1, k2, k3, if_true, if_false, if_pos g1]
    · simp only [cutN, k1, k2, k3, if_true, if_false, if_neg h1] at h; cases h
  by_cases k4 : b0 < 240
  · by_cases h1 : 1 < n ∧ sec b0 b1 = true
    · by_cases h2 : 2 < n ∧ tailB b2 = true
      · have e : cutN n b0 b1 b2 b3 = ⟨b0 % 16 * 4096 + b1 % 64 * 64 + b2 % 64, 3, true⟩ := by simp only [cutN, k1, k2, k3, k4, if_true, if_false, if_pos h1, if_pos h2]
        rw [e] at hm e1 e2 e3 ⊢
        simp only at hm e1 e2 e3
        obtain rfl := e1 (by omega)
        obtain rfl := e2 (by omega)
        have g1 : 1 < m ∧ sec b0 c1 = true := ⟨by omega, h1.2⟩
        have g2 : 2 < m ∧ tailB c2 = true := ⟨by omega, h2.2⟩
        simp only [cutN, k1, k2, k3, k4, if_true, if_false, if_pos g1, if_pos g2]
      · simp only [cutN, k1, k2, k3, k4, if_true, if_false, if_pos h1, if_neg h2] at h; cases h
    · simp only [cutN, k1, k2, k3, k4, if_true, if_false, if_neg h1] at h; cases h
  by_cases k5 : b0 < 245
  · by_cases h1 : 1 < n ∧ sec b0 b1 = true
    · by_cases h2 : 2 < n ∧ tailB b2 = true
      · by_cases h3 : 3 < n ∧ tailB b3 = true
        · have e : cutN n b0 b1 b2 b3 = ⟨b0 % 8 * 262144 + b1 % 64 * 4096 + b2 % 64 * 64 + b3 % 64, 4, true⟩ := by simp only [cutN, k1, k2, k3, k4, k5, if_true, if_false, if_pos h1, if_pos h2, if_pos h3]
          rw [e] at hm e1 e2 e3 ⊢
          simp only at hm e1 e2 e3
          obtain rfl := e1 (by omega)
          obtain rfl := e2 (by omega)
          obtain rfl := e3 (by omega)
          have g1 : 1 < m ∧ sec b0 c1 = true := ⟨by omega, h1.2⟩
          have g2 : 2 < m ∧ tailB c2 = true := ⟨by omega, h2.2⟩
          have g3 : 3 < m ∧ tailB c3 = true := ⟨by omega, h3.2⟩
          simp only [cutN, k1, k2, k3, k4, k5, if_true, if_false, if_pos g1, if_pos g2, if_pos g3]
        · simp only [cutN, k1, k2, k3, k4, k5, if_true, if_false, if_pos h1, if_pos h2, if_neg h3] at h; cases h
      · simp only [cutN, k1, k2, k3, k4, k5, if_true, if_false, if_pos h1, if_neg h2] at h; cases h
    · simp only [cutN, k1, k2, k3, k4, k5, if_true, if_false, if_neg h1] at h; cases h
  · simp only [cutN, k1, k2, k3, k4, k5, if_false] at h; cases h

theorem cutAt_left (a b : ByteArray) (i : Nat) (hi : i < a.size) (h : (cutAt a i).ok = true) : cutAt (a ++ b) i = cutAt a i := by
  have hl := cutAt_len a i hi
  unfold cutAt at h hl ⊢
  rw [byteAt_left a b i hi]
  refine cutN_ok_more h (by simp; omega) (fun k => ?_) (fun k => ?_) (fun k => ?_)
  all_goals exact byteAt_left a b _ (by omega)
theorem cutAt_right (a b : ByteArray) (i : Nat) : cutAt (a ++ b) (a.size + i) = cutAt b i := by
  unfold cutAt
  rw [byteAt_right, Nat.add_assoc, Nat.add_assoc, Nat.add_assoc, byteAt_right, byteAt_right, byteAt_right]
  congr 1
  simp; omega
theorem partsF_right (a b : ByteArray) : ∀ (f i : Nat), partsF (a ++ b) f (a.size + i) = partsF b f i
  | 0, _ => rfl
  | f + 1, i => by
    unfold partsF
    rw [cutAt_right, Nat.add_assoc, partsF_right a b f]
    by_cases h : i < b.size
    · rw [if_pos h, if_pos (by simp; omega)]
    · rw [if_neg h, if_neg (by simp; omega)]
theorem parts_right (a b : ByteArray) : partsFrom (a ++ b) a.size = parts b := by
  have := partsF_right a b (b.size - 0) 0
  unfold parts partsFrom
  rw [Nat.add_zero] at this
  rw [← this]
  congr 1
  simp
theorem parts_two (a b : ByteArray) : ∀ (f i : Nat), a.size - i ≤ f → i ≤ a.size → (∀ p ∈ partsFrom a i, p.ok = true) → partsFrom (a ++ b) i = partsFrom a i ++ parts b
  | 0, i, hf, hi, _ => by
    obtain rfl : i = a.size := by omega
    rw [parts_right, partsFrom_end a _ (Nat.le_refl _)]; rfl
  | f + 1, i, hf, hi, h => by
    by_cases hlt : i < a.size
    · have hl := cutAt_len a i hlt
      rw [partsFrom_step a i hlt] at h ⊢
      have hok := h _ (List.mem_cons_self ..)
      rw [partsFrom_step (a ++ b) i (by simp; omega), cutAt_left a b i hlt hok]
      rw [parts_two a b f _ (by omega) hl.2 (fun p hp => h p (List.mem_cons_of_mem _ hp))]
      rfl
    · obtain rfl : i = a.size := by omega
      rw [parts_right, partsFrom_end a _ (Nat.le_refl _)]; rfl
theorem parts_append (a b : ByteArray) (h : ∀ p ∈ parts a, p.ok = true) : parts (a ++ b) = parts a ++ parts b := parts_two a b a.size 0 (by omega) (Nat.zero_le _) h

/-! How many bytes begin a part. -/
end Go.UtfKit

