/-
  A character as a text, and texts as rows of bytes. No conditions.
-/
import Derived.Test.YtkfmfldkllkcbabDoorCBuild
import Derived.Laws.Cover4
import Derived.Laws.IdiomStrings
import Derived.Lib.QuoteLoop
namespace Go.CharrefKit
open Go Go.Lib
theorem encode_eq (r : Int) : Utf8.encode r = ⟨(encodeRune r).toArray⟩ := by
  unfold encodeRune
  by_cases c0 : r < 0 ∨ (55296 ≤ r ∧ r ≤ 57343) ∨ 1114111 < r
  · rw [encodeRuneZ_bad c0]
    have hv : Utf8.valid r = false := by
      simp only [Utf8.valid, Bool.or_eq_false_iff, Bool.and_eq_false_iff, decide_eq_false_iff_not]
      omega
    simp only [Utf8.encode, hv, Bool.false_eq_true, if_false, Utf8.runeError]
    decide
  · have hv : Utf8.valid r = true := by
      simp only [Utf8.valid, Bool.or_eq_true, Bool.and_eq_true, decide_eq_true_eq]
      omega
    obtain ⟨n, rfl⟩ : ∃ n : Nat, r = n := ⟨r.toNat, by omega⟩
    simp only [Utf8.encode, hv, if_true, Int.toNat_natCast]
    by_cases c1 : n < 128
    · rw [encodeRuneZ_one (by omega) (by omega), if_pos c1]
      simp
    · rw [if_neg c1]
      by_cases c2 : n < 2048
      · rw [encodeRuneZ_two (by omega) (by omega), if_pos c2]
        have t1 : ((192 : Int) + (n : Int) / 64).toNat = 192 + n / 64 := by omega
        have t2 : ((128 : Int) + (n : Int) % 64).toNat = 128 + n % 64 := by omega
        simp only [List.map_cons, List.map_nil, t1, t2]
      · rw [if_neg c2]
        have t2 : ((128 : Int) + (n : Int) / 64 % 64).toNat = 128 + n / 64 % 64 := by omega
        have t3 : ((128 : Int) + (n : Int) % 64).toNat = 128 + n % 64 := by omega
        by_cases c3 : n < 65536
        · rw [encodeRuneZ_three (by omega), if_pos c3]
          have t1 : ((224 : Int) + (n : Int) / 4096).toNat = 224 + n / 4096 := by omega
          simp only [List.map_cons, List.map_nil, t1, t2, t3]
        · rw [encodeRuneZ_four (by omega) (by omega), if_neg c3]
          have t0 : ((240 : Int) + (n : Int) / 262144).toNat = 240 + n / 262144 := by omega
          have t1 : ((128 : Int) + (n : Int) / 4096 % 64).toNat = 128 + n / 4096 % 64 := by omega
          simp only [List.map_cons, List.map_nil, t0, t1, t2, t3]
theorem runesBytes_one (r : Int) : runesBytes [r] = ⟨(encodeRune r).toArray⟩ := by
  have : runesBytes [r] = (⟨#[]⟩ : ByteArray) ++ Utf8.encode r := rfl
  rw [this, encode_eq]
  apply ByteArray.ext
  simp
theorem encodeRune_len (r : Int) : (encodeRune r).length ≤ 4 := by
  have := encodeRuneZ_length_le r
  simpa [encodeRune] using this
/-- The bytes of a text. -/
def bl (s : ByteArray) : List UInt8 := s.data.toList
theorem bl_length (s : ByteArray) : (bl s).length = s.size := by simp [bl]
theorem bl_of (l : List UInt8) : bl ⟨l.toArray⟩ = l := by simp [bl]
theorem bl_drop (s : ByteArray) (i : Nat) : bl (s.extract i s.size) = (bl s).drop i := by
  simp [bl, List.extract, List.take_of_length_le]
theorem bl_take (s : ByteArray) (p : Nat) : bl (s.extract 0 p) = (bl s).take p := by
  simp [bl, List.extract]
theorem ib_none {c : UInt8} : ∀ {l : List UInt8}, indexByte l c = -1 → ∀ b ∈ l, b ≠ c
  | [], _, b, h => by simp at h
  | x :: r, h, b, hb => by
    simp only [indexByte] at h
    split at h
    · cases h
    · rename_i hx
      have h2 : indexByte r c = -1 := by
        by_cases e : indexByte r c = -1
        · exact e
        · have hg := indexByte_ge r c
          simp only [beq_iff_eq, e, if_false] at h; omega
      rcases List.mem_cons.1 hb with rfl | hb
      · simpa using hx
      · exact ib_none h2 b hb
theorem ib_some {c : UInt8} : ∀ {l : List UInt8} {p : Nat}, indexByte l c = (p : Int) → ∃ x y, l = x ++ c :: y ∧ x.length = p ∧ ∀ b ∈ x, b ≠ c
  | [], p, h => by simp only [indexByte] at h; omega
  | b :: r, p, h => by
    simp only [indexByte] at h
    split at h
    · rename_i hb
      have hb : b = c := by simpa using hb
      subst hb
      exact ⟨[], r, rfl, by simp; omega, by simp⟩
    · rename_i hb
      have hb : b ≠ c := by simpa using hb
      split at h
      · omega
      · have hg := indexByte_ge r c
        rename_i hne
        have hne : indexByte r c ≠ -1 := by simpa using hne
        obtain ⟨x, y, e, hl, hn⟩ := ib_some (c := c) (l := r) (p := p - 1) (by omega)
        refine ⟨b :: x, y, by rw [e]; rfl, by simp; omega, ?_⟩
        intro z hz
        rcases List.mem_cons.1 hz with rfl | hz
        · exact hb
        · exact hn z hz
theorem ne38 {b : UInt8} (h : b ≠ 38) : b.toNat ≠ 38 := fun e => h (UInt8.toNat_inj.1 e)
end Go.CharrefKit
namespace Go.Proofs.YtkfmfldkllkcbabDoor
open Go.RowKit Go.RunKit Go.CharrefKit Go.Lib

theorem Tryd.underRunes : Tryd.prog.underlying 56 = some (.slice 21) := by kernel_rfl
set_option maxRecDepth 100000 in
set_option maxHeartbeats 1000000 in
theorem string_one (g : Nat) (r : Int) (w : World) (hc : w.cell? ⟨g, 0, none⟩ = some (.int .i32 r)) :
    Calls Tryd.prog 23 #[.slice (some ⟨g, 0, none⟩) 1 1] w fun e w' => e = .returned (.string ⟨(encodeRune r).toArray⟩) ∧ w = w' := by
  have hcv := run_convert_runes (P := Tryd.prog) w 56 9 21 ⟨g, 0, none⟩ 1 1 [r] (Nat.le_refl _) Tryd.underRunes underRune underString (fun j hj => by
    obtain rfl : j = 0 := by simp at hj; exact hj
    simpa [go_sem] using hc)
  rw [List.take_of_length_le (by simp), runesBytes_one] at hcv
  clear hc
  generalize (⟨(encodeRune r).toArray⟩ : ByteArray) = t at *
  go_enter Tryd.func23, Tryd.ntmps23
  go_wp2
  go_ret
  exact ⟨rfl, rfl⟩
end Go.Proofs.YtkfmfldkllkcbabDoor

