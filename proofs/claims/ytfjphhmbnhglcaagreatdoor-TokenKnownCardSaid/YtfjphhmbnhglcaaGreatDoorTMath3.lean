/-
  What follows a tag is read as if it stood alone; tokens are such as may be: by definition. No conditions.
-/
import Derived.Test.YtfjphhmbnhglcaaGreatDoorTMath2
namespace Go.TokenKit
open Go Go.Lib Go.CharrefKit

/-! A text that goes on. -/
theorem before_app {stops l : Bytes} (b : Bytes) : behind stops l ≠ [] → before stops (l ++ b) = before stops l ∧ behind stops (l ++ b) = behind stops l ++ b := by
  induction l with
  | nil => intro h; exact absurd rfl h
  | cons x r ih =>
    intro h
    unfold before behind at ih ⊢
    unfold behind at h
    cases hx : stops.contains x with
    | true => simp only [List.cons_append, List.takeWhile, List.dropWhile, hx, Bool.not_true]; exact ⟨trivial, trivial⟩
    | false =>
      simp only [List.dropWhile, hx, Bool.not_false] at h
      obtain ⟨h1, h2⟩ := ih h
      simp only [List.cons_append, List.takeWhile, List.dropWhile, hx, Bool.not_false]
      exact ⟨by rw [h1], h2⟩
theorem skip_app {l : Bytes} (b : Bytes) : skipL l ≠ [] → skipL (l ++ b) = skipL l ++ b := by
  induction l with
  | nil => intro h; exact absurd rfl h
  | cons x r ih =>
    intro h
    unfold skipL at ih ⊢ h
    cases hx : blanks.contains x with
    | true =>
      simp only [List.dropWhile, hx] at h
      simp only [List.cons_append, List.dropWhile, hx]
      exact ih h
    | false => simp only [List.cons_append, List.dropWhile, hx]
theorem mem_before {stops : Bytes} {c : UInt8} : ∀ {l : Bytes}, c ∈ before stops l → stops.contains c = false
  | [], h => by cases h
  | x :: r, h => by
    unfold before at h
    cases hx : stops.contains x with
    | true => simp only [List.takeWhile, hx, Bool.not_true] at h; cases h
    | false =>
      simp only [List.takeWhile, hx, Bool.not_false] at h
      rcases List.mem_cons.1 h with rfl | h
      · exact hx
      · exact mem_before h
theorem quoted_app {q : UInt8} {l v r : Bytes} (b : Bytes) (h : quotedL q l = some (v, r)) : quotedL q (l ++ b) = some (v, r ++ b) := by
  unfold quotedL at h ⊢
  split at h
  · rename_i hc
    have hm := List.contains_iff_mem.1 hc
    have hne : behind [q] l ≠ [] := by
      intro e
      have := before_behind [q] l
      rw [e, List.append_nil] at this
      rw [← this] at hm
      have := mem_before hm
      simp at this
    obtain ⟨h1, h2⟩ := before_app b hne
    rw [if_pos (List.contains_iff_mem.2 (List.mem_append_left _ hm)), h1, h2]
    simp only [Option.some.injEq, Prod.mk.injEq] at h
    rw [← h.1, ← h.2]
    cases hb : behind [q] l with
    | nil => exact absurd hb hne
    | cons x t => rfl
  · cases h
theorem value_app {l v r : Bytes} (b : Bytes) (h : valueL l = some (v, r)) (hr : r ≠ []) : valueL (l ++ b) = some (v, r ++ b) := by
  cases l with
  | nil => cases h
  | cons x t =>
    rw [valueL] at h
    rw [List.cons_append, valueL]
    split at h
    · rename_i hx; rw [if_pos hx]; exact quoted_app b h
    · rename_i hx
      rw [if_neg hx]
      split at h
      · rename_i hx; rw [if_pos hx]; exact quoted_app b h
      · rename_i hx
        rw [if_neg hx]
        split at h
        · cases h
        · rename_i hbad
          simp only [Option.some.injEq, Prod.mk.injEq] at h
          obtain ⟨h1, h2⟩ := before_app (stops := plainStops) (l := x :: t) b (by rw [h.2]; exact hr)
          rw [← List.cons_append, h1, h2, if_neg hbad, h.1, h.2]
theorem attr_app {l r : Bytes} {a : At} (b : Bytes) (h : attrL l = some (a, r)) (hr : r ≠ []) : attrL (l ++ b) = some (a, r ++ b) := by
  unfold attrL at h ⊢
  simp only at h ⊢
  split at h
  · cases h
  · rename_i hn
    split at h
    · simp only [Option.some.injEq, Prod.mk.injEq] at h
      exact absurd h.2.symm hr
    · rename_i d t hd
      have hs : skipL (behind nameStops l) ≠ [] := by rw [hd]; simp
      have hb : behind nameStops l ≠ [] := by intro e; rw [e] at hs; exact hs rfl
      obtain ⟨h1, h2⟩ := before_app b hb
      rw [h1, h2, skip_app b hs, hd, if_neg hn]
      simp only [List.cons_append]
      split at h
      · rename_i h61
        rw [if_pos h61]
        split at h
        · cases h
        · rename_i v r'' hv
          simp only [Option.some.injEq, Prod.mk.injEq] at h
          have hst : skipL t ≠ [] := by intro e; rw [e] at hv; cases hv
          rw [skip_app b hst, value_app b hv (by rw [h.2]; exact hr)]
          simp only [Option.some.injEq, Prod.mk.injEq]
          exact ⟨h.1, by rw [h.2]⟩
      · rename_i h61
        rw [if_neg h61]
        simp only [Option.some.injEq, Prod.mk.injEq] at h ⊢
        exact ⟨h.1, by rw [← h.2]; rfl⟩
theorem attrs_ne {ats bs : List At} {self : Bool} {l r : Bytes} (h : attrsL ats l = .ok (bs, self, r)) : l ≠ [] := by
  intro e; subst e; rw [attrsL_step] at h; cases h
theorem attrs_app (b : Bytes) : ∀ (n : Nat) (ats bs : List At) (self : Bool) (l r : Bytes), l.length ≤ n → attrsL ats l = .ok (bs, self, r) → attrsL ats (l ++ b) = .ok (bs, self, r ++ b)
  | n, ats, bs, self, l, r, hn, h => by
    rw [attrsL_step] at h ⊢
    have hs := skip_len l
    split at h
    · cases h
    · rename_i c t ht
      rw [skip_app b (by rw [ht]; simp), ht]
      rw [ht] at hs
      simp only [List.length_cons] at hs
      simp only [List.cons_append]
      split at h
      · rename_i hc
        rw [if_pos hc]
        simp only [Except.ok.injEq, Prod.mk.injEq] at h ⊢
        exact ⟨h.1, h.2.1, by rw [h.2.2]⟩
      · rename_i hc
        rw [if_neg hc]
        split at h
        · rename_i hc
          rw [if_pos hc]
          split at h
          · cases h
          · rename_i d t'
            simp only [List.cons_append]
            split at h
            · rename_i hd
              rw [if_pos hd]
              simp only [Except.ok.injEq, Prod.mk.injEq] at h ⊢
              exact ⟨h.1, h.2.1, by rw [h.2.2]⟩
            · cases h
        · rename_i hc
          rw [if_neg hc]
          split at h
          · cases h
          · rename_i a r' ha
            have hlen := attr_len ha
            simp only [List.length_cons] at hlen
            split at h
            · cases h
            · rename_i h1
              split at h
              · cases h
              · rename_i h2
                have := attr_app b ha (attrs_ne h)
                rw [List.cons_append] at this
                rw [this]
                simp only
                rw [if_neg h1, if_neg h2]
                cases n with
                | zero => omega
                | succ n => exact attrs_app b n _ _ _ _ _ (by omega) h
theorem tag_app {k : Nat} {l r : Bytes} {t : Tok} (b : Bytes) (h : tagL k l = .ok (t, r)) : tagL k (l ++ b) = .ok (t, r ++ b) := by
  unfold tagL at h ⊢
  split at h
  · rename_i hw
    split at h
    · cases h
    · rename_i bs self r' ha
      obtain ⟨h1, h2⟩ := before_app (stops := tagStops) (l := l) b (attrs_ne ha)
      rw [h1, h2, if_pos hw, attrs_app b _ _ _ _ _ _ (Nat.le_refl _) ha]
      simp only [Except.ok.injEq, Prod.mk.injEq] at h ⊢
      exact ⟨h.1, by rw [h.2]⟩
  · cases h
theorem endL_app {l r : Bytes} {t : Tok} (b : Bytes) (h : endL l = .ok (t, r)) : endL (l ++ b) = .ok (t, r ++ b) := by
  cases l with
  | nil => cases h
  | cons x s =>
    rw [endL] at h
    rw [List.cons_append, endL]
    split at h
    · rename_i hx
      rw [if_pos hx]
      split at h
      · cases h
      · rename_i t' r' ht
        have := tag_app b ht
        rw [List.cons_append] at this
        rw [this]
        simp only
        split at h
        · cases h
        · rename_i hs
          rw [if_neg hs]
          simp only [Except.ok.injEq, Prod.mk.injEq] at h ⊢
          exact ⟨h.1, by rw [h.2]⟩
    · cases h
theorem index_app {sub : Bytes} (hsub : sub ≠ []) (b : Bytes) : ∀ {s : Bytes}, 0 ≤ Lib.index s sub → Lib.index (s ++ b) sub = Lib.index s sub
  | [], h => by
    unfold Lib.index at h
    cases sub with
    | nil => exact absurd rfl hsub
    | cons x y => simp at h
  | c :: l, h => by
    rw [List.cons_append]
    unfold Lib.index at h ⊢
    split at h
    · rename_i hp
      have hp' : sub.isPrefixOf (c :: (l ++ b)) = true := by
        rw [List.isPrefixOf_iff_prefix] at hp ⊢
        rw [← List.cons_append]
        exact hp.trans (List.prefix_append _ _)
      rw [if_pos hp', if_pos hp]
    · rename_i hp
      split at h
      · omega
      · rename_i hi
        have hi' : ¬ Lib.index l sub = -1 := by simpa using hi
        have hge := Lib.index_ge l sub
        have h0 : 0 ≤ Lib.index l sub := by omega
        have hroom := Lib.index_room l sub h0
        have hp' : ¬ sub.isPrefixOf (c :: (l ++ b)) = true := by
          intro hq
          apply hp
          rw [List.isPrefixOf_iff_prefix] at hq ⊢
          rw [← List.cons_append] at hq
          exact List.prefix_of_prefix_length_le hq (List.prefix_append _ _) (by simp only [List.length_cons]; omega)
        rw [if_neg hp', if_neg hp, index_app hsub b h0]
theorem cut_app {sep : Bytes} (hsep : sep ≠ []) (b : Bytes) {l : Bytes} (h : (cut l sep).2.2 = true) : (cut (l ++ b) sep).2.2 = true ∧ (cut (l ++ b) sep).1 = (cut l sep).1 ∧ (cut (l ++ b) sep).2.1 = (cut l sep).2.1 ++ b := by
  have h0 : 0 ≤ Lib.index l sep := by
    unfold cut at h
    split at h
    · rename_i hh; simpa using hh
    · cases h
  have hroom := Lib.index_room l sep h0
  have e := index_app hsep b h0
  unfold cut
  rw [e]
  simp only [h0, if_true]
  have h1 : (Lib.index l sep).toNat + sep.length ≤ l.length := by omega
  refine ⟨trivial, ?_, ?_⟩
  · rw [List.take_append_of_le_length (by omega)]
  · rw [List.drop_append_of_le_length (by omega)]
theorem mark_app {l : Bytes} (b : Bytes) (h : 2 ≤ l.length) : markL (l ++ b) = markL l := by
  match l, h with
  | _ :: _ :: _, _ => rfl
theorem mark_two {l : Bytes} (h : markL l = true) : 2 ≤ l.length := by
  match l, h with
  | _ :: _ :: _, _ => simp
theorem words_stop : ∀ {l : Bytes}, l.drop (wordsN l) ≠ [] → markL (l.drop (wordsN l)) = true
  | [], h => absurd rfl h
  | x :: r, h => by
    unfold wordsN at h ⊢
    cases hm : markL (x :: r) with
    | true => simp only [if_true, List.drop_zero]; exact hm
    | false =>
      rw [hm] at h
      simp only [Bool.false_eq_true, if_false, List.drop_succ_cons] at h ⊢
      exact words_stop h
theorem words_app (b : Bytes) : ∀ {l : Bytes}, l.drop (wordsN l) ≠ [] → wordsN (l ++ b) = wordsN l
  | [], h => absurd rfl h
  | x :: r, h => by
    have h2 := mark_two (words_stop h)
    rw [List.length_drop] at h2
    have hma := mark_app (l := x :: r) b (by omega)
    rw [List.cons_append] at hma ⊢
    unfold wordsN at h ⊢
    rw [hma]
    cases hm : markL (x :: r) with
    | true => rfl
    | false =>
      rw [hm] at h
      simp only [Bool.false_eq_true, if_false, List.drop_succ_cons] at h ⊢
      rw [words_app b h]
/-- A token with more behind: it is the same. -/
theorem one_app {l r : Bytes} {t : Tok} (b : Bytes) (h : oneL l = .ok (t, r)) (hr : t.kind ≠ 3 ∨ r ≠ []) : oneL (l ++ b) = .ok (t, r ++ b) := by
  unfold oneL at h ⊢
  split at h
  · rename_i hm
    have h2 := mark_two hm
    rw [mark_app b h2, if_pos hm]
    have hg : (l ++ b).getD 1 0 = l.getD 1 0 := by
      match l, h2 with
      | _ :: _ :: _, _ => rfl
    rw [hg]
    split at h
    · rename_i hx
      rw [if_pos hx, List.drop_append_of_le_length (by omega)]
      exact tag_app b h
    · rename_i hx
      rw [if_neg hx]
      split at h
      · rename_i h47
        rw [if_pos h47, List.drop_append_of_le_length (by omega)]
        exact endL_app b h
      · rename_i h47
        rw [if_neg h47]
        split at h
        · rename_i hp
          have hpp := List.isPrefixOf_iff_prefix.1 hp
          have h4 : 4 ≤ l.length := hpp.length_le
          have hp' : hasPrefix (l ++ b) [60, 33, 45, 45] = true := List.isPrefixOf_iff_prefix.2 (hpp.trans (List.prefix_append _ _))
          rw [if_pos hp', List.drop_append_of_le_length h4]
          unfold commentL at h ⊢
          split at h
          · rename_i hc
            rw [Bool.and_eq_true] at hc
            obtain ⟨c1, c2, c3⟩ := cut_app (by simp) b hc.1
            rw [c1, c2, c3, hc.2]
            simp only [Bool.and_self, if_true, Except.ok.injEq, Prod.mk.injEq] at h ⊢
            exact ⟨h.1, by rw [h.2]⟩
          · cases h
        · rename_i hp
          split at h
          · rename_i hd
            have h9 : 9 ≤ l.length := by
              have := congrArg List.length hd
              simp only [smallL, List.length_map, List.length_take] at this
              have h9 : doctypeB.length = 9 := rfl
              omega
            have hp' : ¬ hasPrefix (l ++ b) [60, 33, 45, 45] = true := by
              intro hq
              apply hp
              exact List.isPrefixOf_iff_prefix.2 (List.prefix_of_prefix_length_le (List.isPrefixOf_iff_prefix.1 hq) (List.prefix_append _ _) (by simp only [List.length_cons, List.length_nil]; omega))
            rw [if_neg hp', List.take_append_of_le_length h9, if_pos hd, List.drop_append_of_le_length h9]
            unfold doctypeL at h ⊢
            split at h
            · rename_i hc
              obtain ⟨c1, c2, c3⟩ := cut_app (by simp) b hc
              rw [c1, c2, c3]
              simp only [if_true, Except.ok.injEq, Prod.mk.injEq] at h ⊢
              exact ⟨h.1, by rw [h.2]⟩
            · cases h
          · cases h
  · rename_i hm
    simp only [Except.ok.injEq, Prod.mk.injEq] at h
    obtain ⟨rfl, rfl⟩ := h
    have hne : l.drop (wordsN l) ≠ [] := by
      rcases hr with hr | hr
      · exact absurd rfl hr
      · exact hr
    have h2 := mark_two (words_stop hne)
    rw [List.length_drop] at h2
    rw [mark_app b (by omega), if_neg hm, words_app b hne, List.take_append_of_le_length (words_len l), List.drop_append_of_le_length (words_len l)]
end Go.TokenKit
