/-
  A style sheet's tokens, one by one, in the order of the takers. No conditions.
-/
import Derived.Test.YtmhdocgoeahbdaaGreatDoorQTake6
import Derived.Test.YtmhdocgoeahbdaaGreatDoorQChars
namespace Go.CssKit
open Go Go.Lib
theorem dropWhile_len (p : Int → Bool) (l : Chars) : (l.dropWhile p).length ≤ l.length := (List.dropWhile_sublist _).length_le
theorem textL_le (q : Int) (l : Chars) : (textL q l).2.length ≤ l.length := (text_len q l.length l (Nat.le_refl _)).1
theorem nameL_le (l : Chars) : (nameL l).2.length ≤ l.length := (name_len l.length l (Nat.le_refl _)).1
theorem comL_le (l : Chars) : (comL l).length ≤ l.length := com_len l.length l (Nat.le_refl _)
theorem nameAt_pos {l : Chars} (h : nameAt l 0 = true) : 0 < (nameL l).1.length ∧ (nameL l).2.length < l.length := by
  rw [nameL_step]
  by_cases h1 : nameC (at_ l 0) = true
  · rw [if_pos h1]
    have := name_pos h1
    have h2 := nameL_le (l.drop 1)
    rw [List.length_drop] at h2
    simp only [List.length_cons]; omega
  · rw [if_neg h1]
    have he : escAt l 0 = true := by
      unfold nameAt at h
      split at h
      · rename_i h45
        exfalso; apply h1
        rw [h45]; decide
      · simp only [Bool.or_eq_true] at h
        rcases h with h | h
        · exfalso; apply h1
          unfold nameC; rw [h]; rfl
        · exact h
    rw [if_pos he]
    have := esc_pos he
    have h2 := esc_len (l.drop 1)
    have h3 := nameL_le (escL (l.drop 1)).2
    rw [List.length_drop] at h2
    simp only [List.length_cons]; omega
theorem one_lt {l : Chars} (hl : l ≠ []) : (oneT l).2.length < l.length := by
  have h0 := List.length_pos_iff.2 hl
  have hdrop1 : ∀ k, (l.drop 1).drop k = l.drop (k + 1) := fun k => by rw [List.drop_drop, Nat.add_comm]
  have hd : (l.drop 1).length < l.length := by rw [List.length_drop]; omega
  unfold oneT
  split
  · rename_i h
    unfold whiteT
    cases l with
    | nil => exact absurd rfl hl
    | cons c r =>
      rw [at_cons] at h
      simp only
      rw [List.dropWhile_cons_of_pos h]
      have := dropWhile_len isW r
      simp only [List.length_cons]; omega
  split
  · have h1 := textL_le (at_ l 0) (l.drop 1)
    unfold quoteT
    split
    · simp only; omega
    · simp only [List.length_drop] at h1 ⊢; omega
  split
  · have h1 := nameL_le (l.drop 1)
    unfold hashT; simp only; omega
  split
  · rename_i hn
    have h1 := num_pos hn
    have h2 := num_le l
    have h3 := nameL_le (l.drop (numN l))
    rw [List.length_drop] at h3
    unfold numberT
    split
    · simp only; omega
    · split
      · simp only [List.length_drop]; omega
      · simp only [List.length_drop]; omega
  split
  · simp only [List.length_drop]; omega
  split
  · simp only [List.length_drop]; omega
  split
  · rename_i hn
    have h1 := (nameAt_pos hn).2
    unfold wordT
    split
    · simp only [List.length_drop]; omega
    · exact h1
  split
  · have h1 := nameL_le (l.drop 1)
    unfold atT; simp only; omega
  split
  · exact hd
  · exact hd
theorem toksF_more : ∀ (f g : Nat) (l : Chars), l.length ≤ f → l.length ≤ g → toksF f l = toksF g l
  | 0, 0, _, _, _ => rfl
  | 0, g + 1, l, h, _ => by
    obtain rfl : l = [] := List.length_eq_zero_iff.1 (by omega)
    rfl
  | f + 1, 0, l, _, h => by
    obtain rfl : l = [] := List.length_eq_zero_iff.1 (by omega)
    rfl
  | f + 1, g + 1, l, hf, hg => by
    unfold toksF
    by_cases hc : comL l = []
    · rw [if_pos hc, if_pos hc]
    · rw [if_neg hc, if_neg hc]
      have h1 := one_lt hc
      have h2 := comL_le l
      rw [toksF_more f g _ (by omega) (by omega)]
/-- The tokens of what no comment begins. -/
def toksD (l : Chars) : List CT := if l = [] then [] else (oneT l).1 :: toksC (oneT l).2
theorem toksC_com (l : Chars) : toksC l = toksD (comL l) := by
  cases hl : l with
  | nil => rfl
  | cons c r =>
    conv => lhs; unfold toksC; rw [List.length_cons]; unfold toksF
    unfold toksD
    by_cases hc : comL (c :: r) = []
    · rw [if_pos hc, if_pos hc]
    · rw [if_neg hc, if_neg hc]
      have h1 := one_lt hc
      have h2 := comL_le (c :: r)
      rw [List.length_cons] at h2
      rw [toksF_more r.length _ _ (by omega) (Nat.le_refl _)]
      rfl
theorem toksD_nil : toksD [] = [] := rfl
theorem toksD_step {l : Chars} (h : l ≠ []) : toksD l = (oneT l).1 :: toksD (comL (oneT l).2) := by
  conv => lhs; unfold toksD
  rw [if_neg h, toksC_com]
theorem toksD_len : ∀ (n : Nat) (l : Chars), l.length ≤ n → (toksD l).length ≤ l.length
  | 0, l, h => by
    obtain rfl : l = [] := List.length_eq_zero_iff.1 (by omega)
    exact Nat.le_refl _
  | n + 1, l, h => by
    by_cases hl : l = []
    · subst hl; exact Nat.le_refl _
    · rw [toksD_step hl, List.length_cons]
      have h1 := one_lt hl
      have h2 := comL_le (oneT l).2
      have := toksD_len n (comL (oneT l).2) (by omega)
      omega
/-- What the k-th taker takes. -/
def takeL (l : Chars) : Nat → CT × Chars
  | 0 => if isW (at_ l 0) = true then whiteT l else (⟨0, [], [], false⟩, l)
  | 1 => if at_ l 0 = 34 ∨ at_ l 0 = 39 then quoteT l else (⟨0, [], [], false⟩, l)
  | 2 => if at_ l 0 = 35 ∧ (nameC (at_ l 1) || escAt l 1) = true then hashT l else (⟨0, [], [], false⟩, l)
  | 3 => if numAt l = true then numberT l else (⟨0, [], [], false⟩, l)
  | 4 => markT l
  | 5 => if nameAt l 0 = true then wordT l else (⟨0, [], [], false⟩, l)
  | 6 => if at_ l 0 = 64 ∧ nameAt l 1 = true then atT l else (⟨0, [], [], false⟩, l)
  | 7 => if signsC.contains (at_ l 0) = true then (⟨11, bytesC (l.take 1), [], false⟩, l.drop 1) else (⟨0, [], [], false⟩, l)
  | _ => (⟨12, bytesC (l.take 1), [], false⟩, l.drop 1)
theorem quoteT_kind (l : Chars) : (quoteT l).1.kind ≠ 0 := by unfold quoteT; split <;> simp
theorem numberT_kind (l : Chars) : (numberT l).1.kind ≠ 0 := by
  unfold numberT
  split
  · simp
  · split <;> simp
theorem wordT_kind (l : Chars) : (wordT l).1.kind ≠ 0 := by unfold wordT; split <;> simp
/-- None of the first k takes anything. -/
def NoneUp (l : Chars) (k : Nat) : Prop := ∀ j, j < k → (takeL l j).1.kind = 0
theorem none_succ {l : Chars} {k : Nat} (h : NoneUp l k) (hk : (takeL l k).1.kind = 0) : NoneUp l (k + 1) := fun j hj => by
  by_cases e : j = k
  · subst e; exact hk
  · exact h j (by omega)
theorem take_zero {l : Chars} {k : Nat} (hk : k < 8) (h : (takeL l k).1.kind = 0) : takeL l k = (⟨0, [], [], false⟩, l) := by
  rcases (by omega : k = 0 ∨ k = 1 ∨ k = 2 ∨ k = 3 ∨ k = 4 ∨ k = 5 ∨ k = 6 ∨ k = 7) with rfl | rfl | rfl | rfl | rfl | rfl | rfl | rfl
  all_goals
    unfold takeL at h ⊢
    simp only at h ⊢
  · split
    · rename_i e; rw [if_pos e] at h; cases h
    · rfl
  · split
    · rename_i e; rw [if_pos e] at h; exact absurd h (quoteT_kind l)
    · rfl
  · split
    · rename_i e; rw [if_pos e] at h; cases h
    · rfl
  · split
    · rename_i e; rw [if_pos e] at h; exact absurd h (numberT_kind l)
    · rfl
  · unfold markT at h ⊢
    split
    · rename_i e; rw [if_pos e] at h; cases h
    · rename_i e
      rw [if_neg e] at h
      split
      · rename_i e2; rw [if_pos e2] at h; cases h
      · rfl
  · split
    · rename_i e; rw [if_pos e] at h; exact absurd h (wordT_kind l)
    · rfl
  · split
    · rename_i e; rw [if_pos e] at h; cases h
    · rfl
  · split
    · rename_i e; rw [if_pos e] at h; cases h
    · rfl
theorem none_facts {l : Chars} {k : Nat} (h : NoneUp l k) :
    (0 < k → ¬ isW (at_ l 0) = true) ∧ (1 < k → ¬ (at_ l 0 = 34 ∨ at_ l 0 = 39)) ∧ (2 < k → ¬ (at_ l 0 = 35 ∧ (nameC (at_ l 1) || escAt l 1) = true)) ∧ (3 < k → ¬ numAt l = true) ∧ (4 < k → ¬ openAt l = true ∧ ¬ closeAt l = true) ∧
    (5 < k → ¬ nameAt l 0 = true) ∧ (6 < k → ¬ (at_ l 0 = 64 ∧ nameAt l 1 = true)) ∧ (7 < k → ¬ signsC.contains (at_ l 0) = true) := by
  refine ⟨fun hk e => ?_, fun hk e => ?_, fun hk e => ?_, fun hk e => ?_, fun hk => ⟨fun e => ?_, fun e => ?_⟩, fun hk e => ?_, fun hk e => ?_, fun hk e => ?_⟩
  · have := h 0 hk; unfold takeL at this; simp only at this; rw [if_pos e] at this; cases this
  · have := h 1 hk; unfold takeL at this; simp only at this; rw [if_pos e] at this; exact quoteT_kind l this
  · have := h 2 hk; unfold takeL at this; simp only at this; rw [if_pos e] at this; cases this
  · have := h 3 hk; unfold takeL at this; simp only at this; rw [if_pos e] at this; exact numberT_kind l this
  · have := h 4 hk; unfold takeL markT at this; simp only at this; rw [if_pos e] at this; cases this
  · have := h 4 hk
    unfold takeL markT at this; simp only at this
    by_cases ho : openAt l = true
    · rw [if_pos ho] at this; cases this
    · rw [if_neg ho, if_pos e] at this; cases this
  · have := h 5 hk; unfold takeL at this; simp only at this; rw [if_pos e] at this; exact wordT_kind l this
  · have := h 6 hk; unfold takeL at this; simp only at this; rw [if_pos e] at this; cases this
  · have := h 7 hk; unfold takeL at this; simp only at this; rw [if_pos e] at this; cases this
theorem take_hit {l : Chars} {k : Nat} (hk : k < 9) (h : NoneUp l k) (hh : (takeL l k).1.kind ≠ 0) : oneT l = takeL l k := by
  obtain ⟨f0, f1, f2, f3, f4, f5, f6, f7⟩ := none_facts h
  have zero : ∀ {c : Prop} [Decidable c] {x : CT × Chars}, (if c then x else (⟨0, [], [], false⟩, l)).1.kind ≠ 0 → c := fun {c} _ {x} hx => by
    by_cases hc : c
    · exact hc
    · rw [if_neg hc] at hx; exact absurd rfl hx
  rcases (by omega : k = 0 ∨ k = 1 ∨ k = 2 ∨ k = 3 ∨ k = 4 ∨ k = 5 ∨ k = 6 ∨ k = 7 ∨ k = 8) with rfl | rfl | rfl | rfl | rfl | rfl | rfl | rfl | rfl
  all_goals
    unfold takeL at hh ⊢
    unfold oneT
    simp only at hh ⊢
  · rw [if_pos (zero hh), if_pos (zero hh)]
  · rw [if_neg (f0 (by omega)), if_pos (zero hh), if_pos (zero hh)]
  · rw [if_neg (f0 (by omega)), if_neg (f1 (by omega)), if_pos (zero hh), if_pos (zero hh)]
  · rw [if_neg (f0 (by omega)), if_neg (f1 (by omega)), if_neg (f2 (by omega)), if_pos (zero hh), if_pos (zero hh)]
  · rw [if_neg (f0 (by omega)), if_neg (f1 (by omega)), if_neg (f2 (by omega)), if_neg (f3 (by omega))]
    unfold markT at hh ⊢
    by_cases ho : openAt l = true
    · rw [if_pos ho, if_pos ho]
    · rw [if_neg ho] at hh
      rw [if_neg ho, if_neg ho, if_pos (zero hh), if_pos (zero hh)]
  · rw [if_neg (f0 (by omega)), if_neg (f1 (by omega)), if_neg (f2 (by omega)), if_neg (f3 (by omega)), if_neg (f4 (by omega)).1, if_neg (f4 (by omega)).2, if_pos (zero hh), if_pos (zero hh)]
  · rw [if_neg (f0 (by omega)), if_neg (f1 (by omega)), if_neg (f2 (by omega)), if_neg (f3 (by omega)), if_neg (f4 (by omega)).1, if_neg (f4 (by omega)).2, if_neg (f5 (by omega)), if_pos (zero hh), if_pos (zero hh)]
  · rw [if_neg (f0 (by omega)), if_neg (f1 (by omega)), if_neg (f2 (by omega)), if_neg (f3 (by omega)), if_neg (f4 (by omega)).1, if_neg (f4 (by omega)).2, if_neg (f5 (by omega)), if_neg (f6 (by omega)), if_pos (zero hh), if_pos (zero hh)]
  · rw [if_neg (f0 (by omega)), if_neg (f1 (by omega)), if_neg (f2 (by omega)), if_neg (f3 (by omega)), if_neg (f4 (by omega)).1, if_neg (f4 (by omega)).2, if_neg (f5 (by omega)), if_neg (f6 (by omega)), if_neg (f7 (by omega))]
end Go.CssKit
namespace Go.Proofs.YtmhdocgoeahbdaaGreatDoor
open Go.RowKit Go.RunKit Go.UtfKit Go.Lib Go.CssKit

theorem ascii_left {w : World} {b g : Nat} {l : Chars} (h : RC w b g l) (hl : l ≠ []) (hn : NoneUp l 7) : 0 ≤ at_ l 0 ∧ at_ l 0 < 128 := by
  have hf := (none_facts hn).2.2.2.2.2.1 (by omega)
  have h0 := List.length_pos_iff.2 hl
  have hok := h.ok (at_ l 0) (by rw [at_some h0]; exact List.getElem_mem h0)
  unfold okC at hok
  refine ⟨by omega, ?_⟩
  by_cases h45 : at_ l 0 = 45
  · omega
  · by_cases h128 : at_ l 0 < 128
    · exact h128
    · exfalso; apply hf
      unfold nameAt
      rw [if_neg h45]
      have : begC (at_ l 0) = true := by unfold begC; simp; omega
      rw [this]; rfl
/-- The takers, one behind the other. -/
theorem take_any (b g k : Nat) (hk : k < 9) (l : Chars) (w : World) (h : RC w b g l) (hl : l ≠ []) (hn : NoneUp l k) : TakeAs (34 + k) b g w (takeL l k) := by
  rcases (by omega : k = 0 ∨ k = 1 ∨ k = 2 ∨ k = 3 ∨ k = 4 ∨ k = 5 ∨ k = 6 ∨ k = 7 ∨ k = 8) with rfl | rfl | rfl | rfl | rfl | rfl | rfl | rfl | rfl
  · exact white7_any b g l w h
  · exact text7_any b g l w h
  · exact hash7_any b g l w h
  · exact number7_any b g l w h
  · exact mark7_any b g l w h
  · exact word7_any b g l w h
  · exact atWord7_any b g l w h
  · have := ascii_left h hl hn
    exact sign7_any b g l w h this.1 this.2
  · exact delim7_any b g l w h hl
end Go.Proofs.YtmhdocgoeahbdaaGreatDoor
