/-
  Parts of what was encoded; parts of two texts, one behind the other; how many bytes begin a part. No conditions.
-/
import Derived.Test.YtcafejjejcchlaaDoorUMath2
import Derived.Lib.RuneBytes
namespace Go.UtfKit
open Go Go.Lib

def clean (z : Int) : Nat := if z < 0 ∨ (55296 ≤ z ∧ z ≤ 57343) ∨ 1114111 < z then 65533 else z.toNat
def partOf (z : Int) : Part := ⟨clean z, (encodeRuneZ z).length, true⟩

theorem byteAt_list (l : List UInt8) (k : Nat) (h : k < l.length) : byteAt ⟨l.toArray⟩ k = l[k].toNat := by
  unfold byteAt ByteArray.get!
  simp [h]
theorem byteAt_past (s : ByteArray) (k : Nat) (h : s.size ≤ k) : byteAt s k = 0 := by
  unfold byteAt ByteArray.get!
  have : ¬ k < s.data.size := by have : s.data.size = s.size := rfl; omega
  simp only [Array.getElem!_eq_getD, Array.getD_eq_getD_getElem?]
  rw [Array.getElem?_eq_none (by omega)]
  rfl

theorem byteAt_mid (pre post : List UInt8) (zs : List Int) (hb : ∀ x ∈ zs, 0 ≤ x ∧ x < 256) (j : Nat) (x : Int) (hx : zs[j]? = some x) :
    (byteAt ⟨(pre ++ zs.map (fun x => x.toNat.toUInt8) ++ post).toArray⟩ (pre.length + j) : Int) = x := by
  have hj : j < zs.length := (List.getElem?_eq_some_iff.1 hx).1
  have hv : zs[j] = x := (List.getElem?_eq_some_iff.1 hx).2
  have hm := hb x (List.mem_of_getElem? hx)
  rw [byteAt_list _ _ (by simp; omega)]
  rw [List.getElem_append_left (by simp; omega), List.getElem_append_right (by omega)]
  simp only [List.getElem_map, Nat.add_sub_cancel_left, hv]
  have : x.toNat.toUInt8.toNat = x.toNat := by
    simp; omega
  rw [this]; omega

/-- The part that the bytes of a character make. -/
theorem cutN_encode (z : Int) (n b0 b1 b2 b3 : Nat) (hn : (encodeRuneZ z).length ≤ n) (h : ∀ (j : Nat) (x : Int), (encodeRuneZ z)[j]? = some x → ([b0, b1, b2, b3].map (fun k : Nat => (k : Int)))[j]? = some x) : cutN n b0 b1 b2 b3 = partOf z := by
  unfold partOf clean
  by_cases c0 : z < 0 ∨ (55296 ≤ z ∧ z ≤ 57343) ∨ 1114111 < z
  · rw [if_pos c0]
    rw [encodeRuneZ_bad c0] at *
    have h0 := h 0 _ rfl
    have h1 := h 1 _ rfl
    have h2 := h 2 _ rfl
    simp at h0 h1 h2 hn
    obtain rfl : b0 = 239 := by omega
    obtain rfl : b1 = 191 := by omega
    obtain rfl : b2 = 189 := by omega
    have e1 : 1 < n := by omega
    have e2 : 2 < n := by omega
    simp [cutN, sec, tailB, e1, e2]
  · rw [if_neg c0]
    by_cases c1 : z < 128
    · rw [encodeRuneZ_one (by omega) (by omega)] at *
      have h0 := h 0 _ rfl
      simp at h0
      have e : b0 < 128 := by omega
      simp only [cutN, e, if_true, List.length_cons, List.length_nil]
      congr 1; omega
    by_cases c2 : z < 2048
    · rw [encodeRuneZ_two (by omega) (by omega)] at *
      have h0 := h 0 _ rfl
      have h1 := h 1 _ rfl
      simp at h0 h1 hn
      have e0 : ¬ b0 < 128 := by omega
      have e1 : ¬ b0 < 194 := by omega
      have e2 : b0 < 224 := by omega
      have e3 : 1 < n ∧ sec b0 b1 = true := ⟨by omega, by
        unfold sec
        rw [if_neg (by omega), if_neg (by omega), if_neg (by omega), if_neg (by omega)]
        simp; omega⟩
      simp only [cutN, e0, e1, e2, if_true, if_false, if_pos e3, List.length_cons, List.length_nil]
      congr 1; omega
    by_cases c3 : z < 65536
    · rw [encodeRuneZ_three (by omega)] at *
      have h0 := h 0 _ rfl
      have h1 := h 1 _ rfl
      have h2 := h 2 _ rfl
      simp at h0 h1 h2 hn
      have e0 : ¬ b0 < 128 := by omega
      have e1 : ¬ b0 < 194 := by omega
      have e2 : ¬ b0 < 224 := by omega
      have e3 : b0 < 240 := by omega
      have e4 : 1 < n ∧ sec b0 b1 = true := ⟨by omega, by
        unfold sec
        repeat' split
        all_goals (simp; omega)⟩
      have e5 : 2 < n ∧ tailB b2 = true := ⟨by omega, by simp [tailB]; omega⟩
      simp only [cutN, e0, e1, e2, e3, if_true, if_false, if_pos e4, if_pos e5, List.length_cons, List.length_nil]
      congr 1; omega
    · rw [encodeRuneZ_four (by omega) (by omega)] at *
      have h0 := h 0 _ rfl
      have h1 := h 1 _ rfl
      have h2 := h 2 _ rfl
      have h3 := h 3 _ rfl
      simp at h0 h1 h2 h3 hn
      have e0 : ¬ b0 < 128 := by omega
      have e1 : ¬ b0 < 194 := by omega
      have e2 : ¬ b0 < 224 := by omega
      have e3 : ¬ b0 < 240 := by omega
      have e3' : b0 < 245 := by omega
      have e4 : 1 < n ∧ sec b0 b1 = true := ⟨by omega, by
        unfold sec
        repeat' split
        all_goals (simp; omega)⟩
      have e5 : 2 < n ∧ tailB b2 = true := ⟨by omega, by simp [tailB]; omega⟩
      have e6 : 3 < n ∧ tailB b3 = true := ⟨by omega, by simp [tailB]; omega⟩
      simp only [cutN, e0, e1, e2, e3, e3', if_true, if_false, if_pos e4, if_pos e5, if_pos e6, List.length_cons, List.length_nil]
      congr 1; omega

theorem cut_text (pre post : List UInt8) (z : Int) : cutAt ⟨(pre ++ encodeRune z ++ post).toArray⟩ pre.length = partOf z := by
  unfold cutAt encodeRune
  have hm := byteAt_mid pre post (encodeRuneZ z) (encodeRuneZ_byte z)
  have hlen := (encodeRuneZ_length z).2
  refine cutN_encode z _ _ _ _ _ (by simp [ByteArray.size]) (fun j x hx => ?_)
  have h := hm j x hx
  have hj : j < (encodeRuneZ z).length := (List.getElem?_eq_some_iff.1 hx).1
  rcases (by omega : j = 0 ∨ j = 1 ∨ j = 2 ∨ j = 3) with rfl | rfl | rfl | rfl <;> simpa using h

theorem encodeRune_length (z : Int) : (encodeRune z).length = (encodeRuneZ z).length := by simp [encodeRune]

/-- THE PARTS OF WHAT WAS ENCODED. -/
theorem parts_encoded (zs : List Int) : ∀ (pre : List UInt8), partsFrom ⟨(pre ++ zs.flatMap encodeRune).toArray⟩ pre.length = zs.map partOf := by
  induction zs with
  | nil => intro pre; rw [partsFrom_end _ _ (by simp [ByteArray.size])]; rfl
  | cons z r ih =>
    intro pre
    have hl := (encodeRuneZ_length z).1
    have hl2 := encodeRune_length z
    rw [partsFrom_step _ _ (by simp [ByteArray.size]; omega)]
    have e : (pre ++ (z :: r).flatMap encodeRune) = pre ++ encodeRune z ++ r.flatMap encodeRune := by simp
    rw [e, cut_text]
    have h := ih (pre ++ encodeRune z)
    have e2 : pre.length + (partOf z).len = (pre ++ encodeRune z).length := by simp [partOf, hl2]
    rw [e2, h]; rfl
theorem parts_text (zs : List Int) : parts ⟨(zs.flatMap encodeRune).toArray⟩ = zs.map partOf := parts_encoded zs []

theorem encode_clean (z : Int) : encodeRuneZ (clean z) = encodeRuneZ z := by
  unfold clean
  by_cases c0 : z < 0 ∨ (55296 ≤ z ∧ z ≤ 57343) ∨ 1114111 < z
  · rw [if_pos c0, encodeRuneZ_bad c0]; decide
  · rw [if_neg c0]
    congr 1; omega
theorem encodeR_clean (z : Int) : encodeRune (clean z) = encodeRune z := by unfold encodeRune; rw [encode_clean]
theorem clean_cr {z : Int} (h : z ≠ 13) : clean z ≠ 13 := by
  unfold clean
  split <;> omega
theorem clean_small {z : Nat} (h : z < 55296 ∨ (57343 < z ∧ z ≤ 1114111)) : clean z = z := by
  unfold clean
  rw [if_neg (by omega)]
  omega
theorem encode_no_cr {z : Int} (h : z ≠ 13) : ∀ x ∈ encodeRuneZ z, x ≠ 13 := by
  intro x hx
  by_cases c0 : z < 0 ∨ (55296 ≤ z ∧ z ≤ 57343) ∨ 1114111 < z
  · rw [encodeRuneZ_bad c0] at hx
    simp at hx; omega
  by_cases c1 : z < 128
  · rw [encodeRuneZ_one (by omega) (by omega)] at hx
    simp at hx; omega
  by_cases c2 : z < 2048
  · rw [encodeRuneZ_two (by omega) (by omega)] at hx
    simp at hx; omega
  by_cases c3 : z < 65536
  · rw [encodeRuneZ_three (by omega)] at hx
    simp at hx; omega
  · rw [encodeRuneZ_four (by omega) (by omega)] at hx
    simp at hx; omega

/-! Two texts. -/
theorem byteAt_left (a b : ByteArray) (k : Nat) (h : k < a.size) : byteAt (a ++ b) k = byteAt a k := by
  have e1 : a = ⟨a.data.toList.toArray⟩ := rfl
  have hk : k < a.data.toList.length := by simpa using h
  have e2 : a ++ b = ⟨(a.data.toList ++ b.data.toList).toArray⟩ := by apply ByteArray.ext; simp
  rw [e2, byteAt_list _ _ (by simp; omega), List.getElem_append_left hk]
  conv => rhs; rw [e1]
  rw [byteAt_list _ _ hk]
theorem byteAt_right (a b : ByteArray) (k : Nat) : byteAt (a ++ b) (a.size + k) = byteAt b k := by
  by_cases h : k < b.size
  · have e1 : b = ⟨b.data.toList.toArray⟩ := rfl
    have hk : k < b.data.toList.length := by simpa using h
    have hs : a.data.toList.length = a.size := by simp
    have e2 : a ++ b = ⟨(a.data.toList ++ b.data.toList).toArray⟩ := by apply ByteArray.ext; simp
    rw [e2, byteAt_list _ _ (by simp; omega), List.getElem_append_right (by omega)]
    conv => rhs; rw [e1]
    rw [byteAt_list _ _ hk]
    simp [hs]
  · rw [byteAt_past _ _ (by simp; omega), byteAt_past _ _ (by omega)]

/-- A well-formed part reads as far as it goes, and no further. -/
theorem cutN_ok_more {n b0 b1 b2 b3 m c1 c2 c3 : Nat} (h : (cutN n b0 b1 b2 b3).ok = true) (hm : (cutN n b0 b1 b2 b3).len ≤ m)
    (e1 : 1 < (cutN n b0 b1 b2 b3).len → c1 = b1) (e2 : 2 < (cutN n b0 b1 b2 b3).len → c2 = b2) (e3 : 3 < (cutN n b0 b1 b2 b3).len → c3 = b3) : cutN m b0 c1 c2 c3 = cutN n b0 b1 b2 b3 := by
  by_cases k1 : b0 < 128
  · simp [cutN, k1]
  by_cases k2 : b0 < 194
  · simp [cutN, k1, k2] at h
  by_cases k3 : b0 < 224
  · by_cases h1 : 1 < n ∧ sec b0 b1 = true
    · have e : cutN n b0 b1 b2 b3 = ⟨b0 % 32 * 64 + b1 % 64, 2, true⟩ := by simp only [cutN, k1, k2, k3, if_true, if_false, if_pos h1]
      rw [e] at hm e1 e2 e3 ⊢
      simp only at hm e1 e2 e3
      obtain rfl := e1 (by omega)
      have g1 : 1 < m ∧ sec b0 c1 = true := ⟨by omega, h1.2⟩
      simp only [cutN, k1, k2, k3, if_true, if_false, if_pos g1]
    · simp only [cutN, k1, k2, k3, if_true, if_false, if_neg h1] at h; cases h
  by_cases k4 : b0 < 240
  · by_cases h1 : 1 < n ∧ sec b0 b1 = true
    · by_cases h2 : 2 < n ∧ tailB b2 = true
      · have e : cutN n b0 b1 b2 b3 = ⟨b0 % 16 * 4096 + b1 % 64 * 64 + b2 % 64, 3, true⟩ := by simp only [cutN, k1, k2, k3, k4, if_true, if_false, if_pos h1, if_pos h2]
        rw [e] at hm e1 e2 e3 ⊢
        simp only at hm e1 e2 e3
        obtain rfl := e1 (by omega)
        obtain rfl := e2 (by omega)
        have g1 : 1 < m ∧ sec b0 c1 = true := ⟨by omega, h1.2⟩
        have g2 : 2 < m ∧ tailB c2 = true := ⟨by omega, h2.2⟩
        simp only [cutN, k1, k2, k3, k4, if_true, if_false, if_pos g1, if_pos g2]
      · simp only [cutN, k1, k2, k3, k4, if_true, if_false, if_pos h1, if_neg h2] at h; cases h
    · simp only [cutN, k1, k2, k3, k4, if_true, if_false, if_neg h1] at h; cases h
  by_cases k5 : b0 < 245
  · by_cases h1 : 1 < n ∧ sec b0 b1 = true
    · by_cases h2 : 2 < n ∧ tailB b2 = true
      · by_cases h3 : 3 < n ∧ tailB b3 = true
        · have e : cutN n b0 b1 b2 b3 = ⟨b0 % 8 * 262144 + b1 % 64 * 4096 + b2 % 64 * 64 + b3 % 64, 4, true⟩ := by simp only [cutN, k1, k2, k3, k4, k5, if_true, if_false, if_pos h1, if_pos h2, if_pos h3]
          rw [e] at hm e1 e2 e3 ⊢
          simp only at hm e1 e2 e3
          obtain rfl := e1 (by omega)
          obtain rfl := e2 (by omega)
          obtain rfl := e3 (by omega)
          have g1 : 1 < m ∧ sec b0 c1 = true := ⟨by omega, h1.2⟩
          have g2 : 2 < m ∧ tailB c2 = true := ⟨by omega, h2.2⟩
          have g3 : 3 < m ∧ tailB c3 = true := ⟨by omega, h3.2⟩
          simp only [cutN, k1, k2, k3, k4, k5, if_true, if_false, if_pos g1, if_pos g2, if_pos g3]
        · simp only [cutN, k1, k2, k3, k4, k5, if_true, if_false, if_pos h1, if_pos h2, if_neg h3] at h; cases h
      · simp only [cutN, k1, k2, k3, k4, k5, if_true, if_false, if_pos h1, if_neg h2] at h; cases h
    · simp only [cutN, k1, k2, k3, k4, k5, if_true, if_false, if_neg h1] at h; cases h
  · simp only [cutN, k1, k2, k3, k4, k5, if_false] at h; cases h

theorem cutAt_left (a b : ByteArray) (i : Nat) (hi : i < a.size) (h : (cutAt a i).ok = true) : cutAt (a ++ b) i = cutAt a i := by
  have hl := cutAt_len a i hi
  unfold cutAt at h hl ⊢
  rw [byteAt_left a b i hi]
  refine cutN_ok_more h (by simp; omega) (fun k => ?_) (fun k => ?_) (fun k => ?_)
  all_goals exact byteAt_left a b _ (by omega)
theorem cutAt_right (a b : ByteArray) (i : Nat) : cutAt (a ++ b) (a.size + i) = cutAt b i := by
  unfold cutAt
  rw [byteAt_right, Nat.add_assoc, Nat.add_assoc, Nat.add_assoc, byteAt_right, byteAt_right, byteAt_right]
  congr 1
  simp; omega
theorem partsF_right (a b : ByteArray) : ∀ (f i : Nat), partsF (a ++ b) f (a.size + i) = partsF b f i
  | 0, _ => rfl
  | f + 1, i => by
    unfold partsF
    rw [cutAt_right, Nat.add_assoc, partsF_right a b f]
    by_cases h : i < b.size
    · rw [if_pos h, if_pos (by simp; omega)]
    · rw [if_neg h, if_neg (by simp; omega)]
theorem parts_right (a b : ByteArray) : partsFrom (a ++ b) a.size = parts b := by
  have := partsF_right a b (b.size - 0) 0
  unfold parts partsFrom
  rw [Nat.add_zero] at this
  rw [← this]
  congr 1
  simp
theorem parts_two (a b : ByteArray) : ∀ (f i : Nat), a.size - i ≤ f → i ≤ a.size → (∀ p ∈ partsFrom a i, p.ok = true) → partsFrom (a ++ b) i = partsFrom a i ++ parts b
  | 0, i, hf, hi, _ => by
    obtain rfl : i = a.size := by omega
    rw [parts_right, partsFrom_end a _ (Nat.le_refl _)]; rfl
  | f + 1, i, hf, hi, h => by
    by_cases hlt : i < a.size
    · have hl := cutAt_len a i hlt
      rw [partsFrom_step a i hlt] at h ⊢
      have hok := h _ (List.mem_cons_self ..)
      rw [partsFrom_step (a ++ b) i (by simp; omega), cutAt_left a b i hlt hok]
      rw [parts_two a b f _ (by omega) hl.2 (fun p hp => h p (List.mem_cons_of_mem _ hp))]
      rfl
    · obtain rfl : i = a.size := by omega
      rw [parts_right, partsFrom_end a _ (Nat.le_refl _)]; rfl
theorem parts_append (a b : ByteArray) (h : ∀ p ∈ parts a, p.ok = true) : parts (a ++ b) = parts a ++ parts b := parts_two a b a.size 0 (by omega) (Nat.zero_le _) h

/-! How many bytes begin a part. -/
def lead (s : ByteArray) (i : Nat) : Bool := !decide (128 ≤ byteAt s i ∧ byteAt s i ≤ 191)
/-- Of the first k bytes. -/
def leads (s : ByteArray) : Nat → Nat
  | 0 => 0
  | k + 1 => leads s k + if lead s k = true then 1 else 0
theorem leads_add (s : ByteArray) (i : Nat) : ∀ n, (∀ j, j < n → lead s (i + j) = false) → leads s (i + n) = leads s i
  | 0, _ => rfl
  | n + 1, h => by
    have e : leads s (i + (n + 1)) = leads s (i + n) + if lead s (i + n) = true then 1 else 0 := rfl
    rw [e, leads_add s i n (fun j hj => h j (by omega)), h n (by omega)]
    simp
theorem ok_bytes {n b0 b1 b2 b3 : Nat} (h : (cutN n b0 b1 b2 b3).ok = true) : ¬ (128 ≤ b0 ∧ b0 ≤ 191) ∧ (2 ≤ (cutN n b0 b1 b2 b3).len → 128 ≤ b1 ∧ b1 ≤ 191) ∧ (3 ≤ (cutN n b0 b1 b2 b3).len → 128 ≤ b2 ∧ b2 ≤ 191) ∧ (4 ≤ (cutN n b0 b1 b2 b3).len → 128 ≤ b3 ∧ b3 ≤ 191) ∧ (cutN n b0 b1 b2 b3).len ≤ 4 := by
  have h0 : ¬ (128 ≤ b0 ∧ b0 ≤ 191) := by
    rintro ⟨h1, h2⟩
    have e1 : ¬ b0 < 128 := by omega
    have e2 : b0 < 194 := by omega
    simp [cutN, e1, e2] at h
  refine ⟨h0, ?_⟩
  rcases cut_cases n b0 b1 b2 b3 with ⟨hs, hl⟩ | ⟨hs, ⟨⟨h1, h1'⟩, ho, hl⟩ | ⟨h1, ho, hl⟩⟩ | ⟨hs, ⟨⟨h1, h1'⟩, ⟨h2, h2'⟩, ho, hl⟩ | ⟨⟨h1, h1'⟩, h2, ho, hl⟩ | ⟨h1, ho, hl⟩⟩ | ⟨hs, ⟨⟨h1, h1'⟩, ⟨h2, h2'⟩, ⟨h3, h3'⟩, ho, hl⟩ | ⟨⟨h1, h1'⟩, ⟨h2, h2'⟩, h3, ho, hl⟩ | ⟨⟨h1, h1'⟩, h2, ho, hl⟩ | ⟨h1, ho, hl⟩⟩
  all_goals first | (rw [ho] at h; cases h; done) | skip
  all_goals rw [hl]
  all_goals refine ⟨fun hh => ?_, fun hh => ?_, fun hh => ?_, by omega⟩
  all_goals first | omega | exact sec_tail h1' | (simpa [tailB] using h2') | (simpa [tailB] using h3')
theorem leads_part (s : ByteArray) (i : Nat) (hi : i < s.size) (h : (cutAt s i).ok = true) : leads s (i + (cutAt s i).len) = leads s i + 1 := by
  have hl := cutAt_len s i hi
  have hb := ok_bytes (n := s.size - i) (b0 := byteAt s i) (b1 := byteAt s (i + 1)) (b2 := byteAt s (i + 2)) (b3 := byteAt s (i + 3)) h
  change ¬ _ ∧ (2 ≤ (cutAt s i).len → _) ∧ (3 ≤ (cutAt s i).len → _) ∧ (4 ≤ (cutAt s i).len → _) ∧ (cutAt s i).len ≤ 4 at hb
  generalize (cutAt s i).len = n at *
  obtain ⟨m, rfl⟩ : ∃ m, n = m + 1 := ⟨n - 1, by omega⟩
  rw [show i + (m + 1) = (i + 1) + m from by omega, leads_add]
  · have e : leads s (i + 1) = leads s i + if lead s i = true then 1 else 0 := rfl
    have hlead : lead s i = true := by
      have := hb.1
      unfold lead
      rw [Bool.not_eq_true', decide_eq_false_iff_not]
      exact this
    rw [e, hlead]; rfl
  · intro j hj
    unfold lead
    rw [Bool.not_eq_false', decide_eq_true_eq]
    rcases (by omega : j = 0 ∨ j = 1 ∨ j = 2) with rfl | rfl | rfl
    · exact hb.2.1 (by omega)
    · exact hb.2.2.1 (by omega)
    · exact hb.2.2.2.1 (by omega)
theorem leads_parts (s : ByteArray) : ∀ (f i : Nat), s.size - i ≤ f → i ≤ s.size → (∀ p ∈ partsFrom s i, p.ok = true) → leads s s.size = leads s i + (partsFrom s i).length
  | 0, i, hf, hi, _ => by
    obtain rfl : i = s.size := by omega
    rw [partsFrom_end s _ (Nat.le_refl _)]; rfl
  | f + 1, i, hf, hi, h => by
    by_cases hlt : i < s.size
    · have hl := cutAt_len s i hlt
      rw [partsFrom_step s i hlt] at h ⊢
      have hok := h _ (List.mem_cons_self ..)
      have := leads_parts s f _ (by omega) hl.2 (fun p hp => h p (List.mem_cons_of_mem _ hp))
      rw [this, leads_part s i hlt hok]
      simp; omega
    · obtain rfl : i = s.size := by omega
      rw [partsFrom_end s _ (Nat.le_refl _)]; rfl
theorem leads_all (s : ByteArray) (h : ∀ p ∈ parts s, p.ok = true) : leads s s.size = (parts s).length := by
  have := leads_parts s s.size 0 (by omega) (Nat.zero_le _) h
  rw [this]
  simp [leads, parts]
end Go.UtfKit
