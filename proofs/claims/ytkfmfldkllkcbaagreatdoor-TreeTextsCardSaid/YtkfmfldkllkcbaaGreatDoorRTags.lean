/-
  Documents of one text, and of a text and a tag: the document's answer, by definition. No conditions.
-/
import Derived.Test.YtkfmfldkllkcbaaGreatDoorPKR
namespace Go.TreeKit
open Go Go.Lib Go.CharrefKit Go.TokenKit

theorem mark_no : ∀ {l : Bytes}, (∀ b, b ∈ l → b ≠ 60) → markL l = false
  | [], _ => rfl
  | [_], _ => rfl
  | a :: c :: r, h => by
    have : (a == 60) = false := by rw [beq_eq_false_iff_ne]; exact h a (by simp)
    simp only [markL, this, Bool.false_and]
theorem mark_not {a : UInt8} (h : a ≠ 60) (r : Bytes) : markL (a :: r) = false := by
  cases r with
  | nil => rfl
  | cons c r =>
    have : (a == 60) = false := by rw [beq_eq_false_iff_ne]; exact h
    simp only [markL, this, Bool.false_and]
theorem decodeL_no (attr : Bool) (l : Bytes) (h : ∀ b, b ∈ l → b ≠ 38) : decodeL attr l = l := by
  have := decodeL_ahead (attr := attr) l [] (fun b hb e => h b hb (UInt8.toNat_inj.1 e))
  rw [List.append_nil, decodeL_nil, List.append_nil] at this
  exact this
/-- Bytes of a text up to a mark. -/
theorem words_upto : ∀ {l r : Bytes}, (∀ b, b ∈ l → b ≠ 60) → (r = [] ∨ markL r = true) → wordsN (l ++ r) = l.length
  | [], r, _, hr => by
    rcases hr with rfl | hr
    · rfl
    · cases r with
      | nil => rfl
      | cons b t => rw [List.nil_append]; unfold wordsN; rw [hr]; rfl
  | b :: l, r, h, hr => by
    rw [List.cons_append]
    unfold wordsN
    rw [mark_not (h b (by simp)), words_upto (fun x hx => h x (by simp [hx])) hr]
    rfl
/-- A text up to a mark, or the end. -/
theorem one_text {l r : Bytes} (hl : l ≠ []) (h60 : ∀ b, b ∈ l → b ≠ 60) (h38 : ∀ b, b ∈ l → b ≠ 38) (hr : r = [] ∨ markL r = true) : oneL (l ++ r) = .ok (⟨3, [], [], false, l⟩, r) := by
  have hm : markL (l ++ r) = false := by
    cases l with
    | nil => exact absurd rfl hl
    | cons b t => exact mark_not (h60 b (by simp)) _
  unfold oneL
  rw [hm, words_upto h60 hr, List.take_left, List.drop_left, decodeL_no false l h38]
  rfl
theorem before_stop {stops : Bytes} {c : UInt8} (hc : stops.contains c = true) : ∀ {n : Bytes} (r : Bytes), (∀ b, b ∈ n → stops.contains b = false) → before stops (n ++ c :: r) = n ∧ behind stops (n ++ c :: r) = c :: r
  | [], r, _ => ⟨by simp only [List.nil_append, before, List.takeWhile, hc, Bool.not_true], by simp only [List.nil_append, behind, List.dropWhile, hc, Bool.not_true]⟩
  | b :: n, r, h => by
    have hb := h b (by simp)
    obtain ⟨h1, h2⟩ := before_stop hc (n := n) r (fun x hx => h x (by simp [hx]))
    unfold before at h1
    unfold behind at h2
    exact ⟨by unfold before; simp only [List.cons_append, List.takeWhile, hb, Bool.not_false]; rw [h1], by unfold behind; simp only [List.cons_append, List.dropWhile, hb, Bool.not_false]; exact h2⟩
/-- A byte of a name. -/
def nameB (b : UInt8) : Bool := isL b || isD b
theorem all256 {p : UInt8 → Bool} (h : ((List.range 256).all fun k => p (UInt8.ofNat k)) = true) (b : UInt8) : p b = true := by
  have := List.all_eq_true.1 h b.toNat (List.mem_range.2 b.toNat_lt)
  simpa using this
theorem name_stops (b : UInt8) (h : nameB b = true) : tagStops.contains b = false ∧ b ≠ 0 ∧ b.toNat < 128 ∧ b.toNat ≠ 13 := by
  have key := all256 (p := fun b => !nameB b || (!tagStops.contains b && b != 0 && decide (b.toNat < 128) && !decide (b.toNat = 13))) (by kernel_rfl) b
  simp only [h, Bool.not_true, Bool.false_or, Bool.and_eq_true, Bool.not_eq_true', bne_iff_ne, decide_eq_true_eq, decide_eq_false_iff_not] at key
  exact ⟨key.1.1.1, key.1.1.2, key.1.2, key.2⟩
theorem small_name (b : UInt8) (h : nameB b = true) : nameB (smallB b) = true := by
  have key := all256 (p := fun b => !nameB b || nameB (smallB b)) (by kernel_rfl) b
  simpa [h] using key
theorem word_name {n : Bytes} (h : ∀ b, b ∈ n → nameB b = true) : wordL [] (smallL n) = true := by
  unfold wordL smallL
  rw [List.all_eq_true]
  intro b hb
  obtain ⟨c, hc, rfl⟩ := List.mem_map.1 hb
  have := small_name c (h c hc)
  unfold nameB at this
  rw [this]; rfl
theorem attrsL_end (l : List At) (r : Bytes) : attrsL l (62 :: r) = .ok (l, false, r) := by rw [attrsL_step]; rfl
theorem tag_name {n : Bytes} (h : ∀ b, b ∈ n → nameB b = true) (k : Nat) (r : Bytes) : tagL k (n ++ 62 :: r) = .ok (⟨k, smallL n, [], false, []⟩, r) := by
  obtain ⟨h1, h2⟩ := before_stop (stops := tagStops) (c := 62) (by decide) (n := n) r (fun b hb => (name_stops b (h b hb)).1)
  unfold tagL
  rw [h1, h2, if_pos (word_name h), attrsL_end]
theorem mark_start {x : UInt8} (hx : isL x = true) (l : Bytes) : markL (60 :: x :: l) = true := by simp only [markL, hx, Bool.true_or]; rfl
theorem one_start {x : UInt8} (hx : isL x = true) (l : Bytes) : oneL (60 :: x :: l) = tagL 1 (x :: l) := by
  unfold oneL
  rw [if_pos (mark_start hx l)]
  show (if isL x = true then _ else _) = _
  rw [if_pos hx]; rfl
theorem answer_of {l : Bytes} {ts : List Tok} (hl : l.length ≤ 65536) (h0 : ∀ b, b ∈ l → b ≠ 0) (h : toksAt 0 l = .ok ts) : answerL l = (ts, 0, 0) := by
  have hc : l.contains 0 = false := by
    rw [Bool.eq_false_iff]
    intro hc
    exact h0 0 (List.contains_iff_mem.1 hc) rfl
  unfold answerL
  rw [if_neg (by omega), hc]
  have h2 : toksL l = .ok ts := h
  rw [h2]
  rfl

/-! The text x, and a start tag behind it. -/
def nmText (n : Bytes) : Bytes := 120 :: 60 :: (n ++ [62])
def nmToks (n : Bytes) : List Tok := [⟨3, [], [], false, [120]⟩, ⟨1, smallL n, [], false, []⟩]
theorem nm_told {x : UInt8} {n : Bytes} (hx : isL x = true) (h : ∀ b, b ∈ x :: n → nameB b = true) (hl : (x :: n).length ≤ 200) : answerL (nmText (x :: n)) = (nmToks (x :: n), 0, 0) := by
  refine answer_of (by unfold nmText; simp only [List.length_cons, List.length_append, List.length_nil] at hl ⊢; omega) ?_ ?_
  · intro b hb
    unfold nmText at hb
    rw [List.mem_cons, List.mem_cons, List.mem_append, List.mem_singleton] at hb
    rcases hb with rfl | rfl | hb | rfl
    · decide
    · decide
    · exact (name_stops b (h b hb)).2.1
    · decide
  · have h1 : oneL (nmText (x :: n)) = .ok (⟨3, [], [], false, [120]⟩, 60 :: ((x :: n) ++ [62])) :=
      one_text (l := [120]) (r := 60 :: ((x :: n) ++ [62])) (by simp) (by decide) (by decide) (.inr (mark_start hx _))
    have h2 : oneL (60 :: ((x :: n) ++ [62])) = .ok (⟨1, smallL (x :: n), [], false, []⟩, []) := by
      show oneL (60 :: x :: (n ++ [62])) = _
      rw [one_start hx]
      exact tag_name h 1 []
    rw [toksAt_step 0 (by unfold nmText; simp), h1]
    simp only
    rw [toksAt_step _ (by simp), h2]
    rfl
def nmTree (n : Bytes) : List Nd := [⟨0, [], [], [], -1, [1, 2]⟩, ⟨2, [], [], [120], 0, []⟩, ⟨1, n, [], [], 0, []⟩]
theorem nm_built (n : Bytes) : buildL (nmToks n) = if kindL (smallL n) = 0 then ([], 50, 1) else (nmTree (smallL n), 0, 0) := by
  unfold buildL nmToks
  have h1 : takeB beginB ⟨3, [], [], false, [120]⟩ (0 == 0) = .ok ⟨[⟨0, [], [], [], -1, [1]⟩, ⟨2, [], [], [], 0, []⟩], [⟨0, [], 0⟩], [120]⟩ := by rfl
  unfold buildF
  rw [h1]
  simp only
  unfold buildF
  have h2 : ∀ s : BS, takeB s ⟨1, smallL n, [], false, []⟩ (0 + 1 == 0) = if kindL (smallL n) == 0 then .error 50 else startL s ⟨1, smallL n, [], false, []⟩ (kindL (smallL n)) := fun s => by
    rfl
  rw [h2]
  have hk := kind_le (smallL n)
  generalize kindL (smallL n) = k at *
  generalize smallL n = m at *
  by_cases h0 : k = 0
  · subst h0
    rfl
  · rw [if_neg h0, if_neg (by simpa using h0)]
    have : k = 1 ∨ k = 2 ∨ k = 3 ∨ k = 4 ∨ k = 5 ∨ k = 6 ∨ k = 7 ∨ k = 8 := by omega
    rcases this with rfl | rfl | rfl | rfl | rfl | rfl | rfl | rfl <;> rfl

/-! Two texts with a comment between. -/
def cmText (a b : Bytes) : Bytes := a ++ 60 :: 33 :: 45 :: 45 :: 120 :: 45 :: 45 :: 62 :: b
def textTok (a : Bytes) : List Tok := if a = [] then [] else [⟨3, [], [], false, a⟩]
theorem one_comment (b : Bytes) : oneL (60 :: 33 :: 45 :: 45 :: 120 :: 45 :: 45 :: 62 :: b) = .ok (⟨4, [], [], false, [120]⟩, b) := by
  have hm : markL (60 :: 33 :: 45 :: 45 :: 120 :: 45 :: 45 :: 62 :: b) = true := rfl
  have hc : cut (120 :: 45 :: 45 :: 62 :: b) [45, 45, 62] = ([120], b, true) := by
    have hi : Lib.index (120 :: 45 :: 45 :: 62 :: b) [45, 45, 62] = ((1 : Nat) : Int) := index_first (by simp only [List.length_cons]; omega) rfl (fun j hj => by
      obtain rfl : j = 0 := by omega
      rfl)
    unfold cut
    rw [hi]
    rfl
  unfold oneL
  rw [if_pos hm]
  show commentL (120 :: 45 :: 45 :: 62 :: b) = _
  unfold commentL
  rw [hc]
  rfl
theorem cm_toks {a b : Bytes} (ha : ∀ x, x ∈ a → x ≠ 60 ∧ x ≠ 38) (hb : ∀ x, x ∈ b → x ≠ 60 ∧ x ≠ 38) : toksAt 0 (cmText a b) = .ok (textTok a ++ ⟨4, [], [], false, [120]⟩ :: textTok b) := by
  have hB : ∀ p, toksAt p b = .ok (textTok b) := fun p => by
    unfold textTok
    by_cases h : b = []
    · subst h; rfl
    · have h1 := one_text (l := b) (r := []) h (fun x hx => (hb x hx).1) (fun x hx => (hb x hx).2) (.inl rfl)
      rw [List.append_nil] at h1
      rw [toksAt_step p h, h1, if_neg h]
      rfl
  have hC : ∀ p, toksAt p (60 :: 33 :: 45 :: 45 :: 120 :: 45 :: 45 :: 62 :: b) = .ok (⟨4, [], [], false, [120]⟩ :: textTok b) := fun p => by
    rw [toksAt_step p (by simp), one_comment]
    simp only
    rw [hB]
  unfold textTok cmText
  by_cases h : a = []
  · subst h
    exact hC 0
  · have h1 := one_text (l := a) (r := 60 :: 33 :: 45 :: 45 :: 120 :: 45 :: 45 :: 62 :: b) h (fun x hx => (ha x hx).1) (fun x hx => (ha x hx).2) (.inr rfl)
    rw [toksAt_step 0 (by simp [h]), h1, if_neg h]
    simp only
    rw [hC]
    rfl
theorem cm_told {a b : Bytes} (ha : ∀ x, x ∈ a → x ≠ 60 ∧ x ≠ 38 ∧ x ≠ 0) (hb : ∀ x, x ∈ b → x ≠ 60 ∧ x ≠ 38 ∧ x ≠ 0) (hl : a.length ≤ 2000) (hl2 : b.length ≤ 2000) : answerL (cmText a b) = (textTok a ++ ⟨4, [], [], false, [120]⟩ :: textTok b, 0, 0) := by
  refine answer_of (by unfold cmText; simp only [List.length_cons, List.length_append]; omega) ?_ (cm_toks (fun x hx => ⟨(ha x hx).1, (ha x hx).2.1⟩) (fun x hx => ⟨(hb x hx).1, (hb x hx).2.1⟩))
  intro x hx
  unfold cmText at hx
  simp only [List.mem_append, List.mem_cons] at hx
  rcases hx with hx | rfl | rfl | rfl | rfl | rfl | rfl | rfl | rfl | hx
  · exact (ha x hx).2.2
  all_goals first | decide | exact (hb x hx).2.2
def oneTree (d : Bytes) : List Nd := [⟨0, [], [], [], -1, [1]⟩, ⟨2, [], [], d, 0, []⟩]
theorem cm_built {a b : Bytes} (h : a ++ b ≠ []) : buildL (textTok a ++ ⟨4, [], [], false, [120]⟩ :: textTok b) = (oneTree (a ++ b), 0, 0) := by
  have hcons : ∀ (d : Bytes) (f : Bool), d ≠ [] → takeB beginB ⟨3, [], [], false, d⟩ f = .ok ⟨[⟨0, [], [], [], -1, [1]⟩, ⟨2, [], [], [], 0, []⟩], [⟨0, [], 0⟩], d⟩ := fun d f hd => by
    show textL beginB d = _
    unfold textL
    rw [if_neg hd]
    rfl
  have hmore : ∀ (d e : Bytes) (f : Bool), e ≠ [] → takeB ⟨[⟨0, [], [], [], -1, [1]⟩, ⟨2, [], [], [], 0, []⟩], [⟨0, [], 0⟩], d⟩ ⟨3, [], [], false, e⟩ f = .ok ⟨[⟨0, [], [], [], -1, [1]⟩, ⟨2, [], [], [], 0, []⟩], [⟨0, [], 0⟩], d ++ e⟩ := fun d e f he => by
    show textL _ e = _
    unfold textL
    rw [if_neg he]
    rfl
  have hcm : ∀ (s : BS) (f : Bool), takeB s ⟨4, [], [], false, [120]⟩ f = .ok s := fun s f => rfl
  have hfl : ∀ d : Bytes, d ≠ [] → (flushL ⟨[⟨0, [], [], [], -1, [1]⟩, ⟨2, [], [], [], 0, []⟩], [⟨0, [], 0⟩], d⟩).t = oneTree d := fun d hd => by
    unfold flushL
    rw [if_neg hd]
    rfl
  unfold textTok buildL
  by_cases ha : a = []
  · subst ha
    have hb : b ≠ [] := by simpa using h
    rw [if_pos rfl, if_neg hb]
    simp only [List.nil_append, buildF, hcm, hcons b _ hb, hfl b hb]
  · rw [if_neg ha]
    by_cases hb : b = []
    · subst hb
      rw [if_pos rfl]
      simp only [List.append_nil, List.cons_append, List.nil_append, buildF, hcm, hcons a _ ha, hfl a ha]
    · rw [if_neg hb]
      simp only [List.cons_append, List.nil_append, buildF, hcm, hcons a _ ha, hmore a b _ hb, hfl (a ++ b) (by simp [ha])]
end Go.TreeKit
