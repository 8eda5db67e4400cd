/-
  A plain text is one token: by definition. No conditions.
-/
import Derived.Test.YtfjphhmbnhglcaaGreatDoorTLaw1
namespace Go.TokenKit
open Go Go.Lib Go.CharrefKit
theorem has_no {s m : Bytes} (h : hasL s m = false) : ∀ b, b ∈ s → ∀ c, c ∈ m → b ≠ c := by
  intro b hb c hc e
  unfold hasL at h
  rw [List.any_eq_false] at h
  have := h b hb
  rw [List.any_eq_true] at this
  exact this ⟨c, hc, beq_iff_eq.2 e⟩
theorem mark_no : ∀ {l : Bytes}, (∀ b, b ∈ l → b ≠ 60) → markL l = false
  | [], _ => rfl
  | [_], _ => rfl
  | a :: c :: r, h => by
    have : (a == 60) = false := by rw [beq_eq_false_iff_ne]; exact h a (by simp)
    simp only [markL, this, Bool.false_and]
theorem decodeL_plainAll (attr : Bool) (l : Bytes) (h : ∀ b, b ∈ l → b ≠ 38) : decodeL attr l = l := by
  have := decodeL_ahead (attr := attr) l [] (fun b hb e => h b hb (UInt8.toNat_inj.1 e))
  rw [List.append_nil, decodeL_nil, List.append_nil] at this
  exact this
theorem words_no {l : Bytes} (h : ∀ b, b ∈ l → b ≠ 60) : wordsN l = l.length :=
  wordsN_eq l l.length (Nat.le_refl _) (fun _ _ => mark_no fun b hb => h b (List.mem_of_mem_drop hb)) (.inl rfl)
theorem plain_told {l : Bytes} (h : hasL l [60, 38, 0] = false) (hl : l.length ≤ 65536) : answerL l = (if l = [] then [] else [⟨3, [], [], false, l⟩], 0, 0) := by
  have h60 : ∀ b, b ∈ l → b ≠ 60 := fun b hb => has_no h b hb 60 (by simp)
  have h38 : ∀ b, b ∈ l → b ≠ 38 := fun b hb => has_no h b hb 38 (by simp)
  have h0 : l.contains 0 = false := by
    rw [Bool.eq_false_iff]
    intro hc
    exact has_no h 0 (List.contains_iff_mem.1 hc) 0 (by simp) rfl
  unfold answerL
  rw [if_neg (by omega), h0]
  by_cases hn : l = []
  · subst hn; rfl
  · have h1 : oneL l = .ok (⟨3, [], [], false, l⟩, []) := by
      unfold oneL
      rw [mark_no h60, words_no h60, List.take_length, List.drop_length, decodeL_plainAll false l h38]; rfl
    have h2 : toksL l = .ok [⟨3, [], [], false, l⟩] := by
      show toksAt 0 l = _
      rw [toksAt_step 0 hn, h1]
      rfl
    rw [h2, if_neg hn]; rfl
end Go.TokenKit
