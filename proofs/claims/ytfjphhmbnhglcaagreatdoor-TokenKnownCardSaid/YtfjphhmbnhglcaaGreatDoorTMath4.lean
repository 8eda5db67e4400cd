/-
  The tokens of a text behind another one; tokens are such as may be: by definition. No conditions.
-/
import Derived.Test.YtfjphhmbnhglcaaGreatDoorTMath3
import Derived.Test.YtfjphhmbnhglcaaGreatDoorTToks
namespace Go.TokenKit
open Go Go.Lib Go.CharrefKit

theorem toks_app (b : Bytes) : ∀ (n : Nat) (l : Bytes) (p : Nat) (ts : List Tok), l.length ≤ n → toksAt p l = .ok ts → (∀ t, ts.getLast? = some t → t.kind ≠ 3) →
    toksAt p (l ++ b) = match toksAt (p + l.length) b with
      | .error x => .error x
      | .ok us => .ok (ts ++ us)
  | n, [], p, ts, _, h, _ => by
    rw [toksAt_nil] at h
    cases h
    rw [List.nil_append, List.length_nil, Nat.add_zero]
    cases toksAt p b <;> rfl
  | n, c :: l, p, ts, hn, h, hl => by
    rw [toksAt_step p (by simp)] at h
    rw [toksAt_step p (l := c :: l ++ b) (by simp)]
    split at h
    · cases h
    · rename_i t r h1
      have hlen := one_len (by simp) h1
      split at h
      · cases h
      · rename_i ts' h2
        cases h
        have hr : t.kind ≠ 3 ∨ r ≠ [] := by
          by_cases hr : r = []
          · left
            subst hr
            rw [toksAt_nil] at h2
            cases h2
            exact hl t rfl
          · exact .inr hr
        rw [one_app b h1 hr]
        simp only
        have e : p + ((c :: l ++ b).length - (r ++ b).length) = p + ((c :: l).length - r.length) := by simp only [List.length_append]; omega
        rw [e]
        cases n with
        | zero => simp at hn
        | succ n =>
          have hl' : ∀ u, ts'.getLast? = some u → u.kind ≠ 3 := fun u hu => hl u (by
            cases ts' with
            | nil => cases hu
            | cons x y => rw [List.getLast?_cons_cons]; exact hu)
          simp only [List.length_cons] at hlen hn
          rw [toks_app b n r _ ts' (by omega) h2 hl', show p + ((c :: l).length - r.length) + r.length = p + (c :: l).length by simp only [List.length_cons]; omega]
          cases toksAt (p + (c :: l).length) b <;> rfl
theorem toks_shift (p : Nat) : ∀ (n : Nat) (l : Bytes) (q : Nat), l.length ≤ n → toksAt (p + q) l = match toksAt q l with
      | .error x => .error (x.1, p + x.2)
      | .ok us => .ok us
  | n, [], q, _ => rfl
  | n, c :: l, q, hn => by
    rw [toksAt_step _ (by simp), toksAt_step q (by simp)]
    cases h1 : oneL (c :: l) with
    | error e => rfl
    | ok x =>
      obtain ⟨t, r⟩ := x
      simp only
      have hlen := one_len (by simp) h1
      cases n with
      | zero => simp at hn
      | succ n =>
        simp only [List.length_cons] at hlen hn
        rw [Nat.add_assoc, toks_shift p n r _ (by omega)]
        cases toksAt (q + ((c :: l).length - r.length)) r <;> rfl

/-! Tokens are such as may be. -/
structure RightT (t : Tok) : Prop where
  low : 1 ≤ t.kind
  high : t.kind ≤ 5
  small : smallL t.name = t.name
  name : t.kind ≤ 2 → t.name ≠ []
  none : ¬ t.kind ≤ 2 → t.name = []
  size : t.attrs.length ≤ 16
  bare : t.kind ≠ 1 → t.attrs = [] ∧ t.self = false
  apart : (t.attrs.map (·.1)).Nodup
theorem small_twice (l : Bytes) : smallL (smallL l) = smallL l := by
  unfold smallL
  rw [List.map_map]
  congr 1
  funext b
  have key := all256 (p := fun b => smallB (smallB b) == smallB b) (by kernel_rfl) b
  simpa using key
theorem attrs_right : ∀ (n : Nat) (ats bs : List At) (self : Bool) (l r : Bytes), l.length ≤ n → attrsL ats l = .ok (bs, self, r) → ats.length ≤ 16 → (ats.map (·.1)).Nodup → bs.length ≤ 16 ∧ (bs.map (·.1)).Nodup
  | n, ats, bs, self, l, r, hn, h, h16, hd => by
    rw [attrsL_step] at h
    have hs := skip_len l
    split at h
    · cases h
    · rename_i c t ht
      rw [ht] at hs
      simp only [List.length_cons] at hs
      split at h
      · cases h; exact ⟨h16, hd⟩
      · split at h
        · split at h
          · cases h
          · split at h
            · cases h; exact ⟨h16, hd⟩
            · cases h
        · split at h
          · cases h
          · rename_i a r' ha
            have hlen := attr_len ha
            simp only [List.length_cons] at hlen
            split at h
            · cases h
            · rename_i h1
              split at h
              · cases h
              · rename_i h2
                cases n with
                | zero => omega
                | succ n =>
                  refine attrs_right n _ _ _ _ _ (by omega) h (by simp; omega) ?_
                  rw [List.map_append, List.nodup_append]
                  refine ⟨hd, by simp, fun x hx y hy => ?_⟩
                  simp only [List.map_cons, List.map_nil, List.mem_singleton] at hy
                  subst hy
                  obtain ⟨z, hz, rfl⟩ := List.mem_map.1 hx
                  intro e
                  apply h1
                  rw [List.any_eq_true]
                  exact ⟨z, hz, beq_iff_eq.2 e⟩
theorem let_stops (b : UInt8) (h : isL b = true) : tagStops.contains b = false := by
  have key := all256 (p := fun b => !isL b || !tagStops.contains b) (by kernel_rfl) b
  simpa [h] using key
theorem tag_right {k : Nat} {x : UInt8} {s r : Bytes} {t : Tok} (hx : isL x = true) (h : tagL k (x :: s) = .ok (t, r)) :
    t.kind = k ∧ smallL t.name = t.name ∧ t.name ≠ [] ∧ t.attrs.length ≤ 16 ∧ (t.attrs.map (·.1)).Nodup := by
  unfold tagL at h
  split at h
  · split at h
    · cases h
    · rename_i bs self r' ha
      obtain ⟨h1, h2⟩ := attrs_right _ _ _ _ _ _ (Nat.le_refl _) ha (by simp) (by simp)
      cases h
      refine ⟨rfl, small_twice _, ?_, h1, h2⟩
      simp only [before, List.takeWhile, let_stops x hx, Bool.not_false, smallL, List.map_cons]
      simp
  · cases h
theorem end_right {l r : Bytes} {t : Tok} (h : endL l = .ok (t, r)) : RightT t ∧ t.kind = 2 := by
  cases l with
  | nil => cases h
  | cons x s =>
    rw [endL] at h
    split at h
    · rename_i hx
      split at h
      · cases h
      · rename_i t' r' ht
        obtain ⟨h1, h2, h3, h4, h5⟩ := tag_right hx ht
        split at h
        · cases h
        · rename_i hs
          cases h
          have hs' : t.self = false ∧ t.attrs = [] := by
            cases hq : t.self <;> cases hw : t.attrs <;> simp_all
          exact ⟨⟨by omega, by omega, h2, fun _ => h3, fun hh => by omega, h4, fun _ => ⟨hs'.2, hs'.1⟩, h5⟩, h1⟩
    · cases h
theorem plain_right {k : Nat} (d : Bytes) (h1 : 3 ≤ k) (h2 : k ≤ 5) : RightT ⟨k, [], [], false, d⟩ :=
  ⟨by show 1 ≤ k; omega, h2, rfl, fun h => absurd h (by show ¬ k ≤ 2; omega), fun _ => rfl, by simp, fun _ => ⟨rfl, rfl⟩, by simp⟩
theorem one_right {l r : Bytes} {t : Tok} (h : oneL l = .ok (t, r)) : RightT t ∧ (t.kind = 3 → markL l = false ∧ (r = [] ∨ markL r = true)) := by
  unfold oneL at h
  split at h
  · rename_i hm
    split at h
    · rename_i hx
      match l, hm, hx with
      | c :: x :: s, hm, hx =>
        obtain ⟨h1, h2, h3, h4, h5⟩ := tag_right (x := x) (s := s) hx h
        exact ⟨⟨by omega, by omega, h2, fun _ => h3, fun hh => by omega, h4, fun hh => absurd h1 hh, h5⟩, fun h3 => by omega⟩
    · split at h
      · obtain ⟨h1, h2⟩ := end_right h
        exact ⟨h1, fun h3 => by omega⟩
      · split at h
        · unfold commentL at h
          split at h
          · cases h
            exact ⟨plain_right _ (by omega) (by omega), fun h3 => by cases h3⟩
          · cases h
        · split at h
          · unfold doctypeL at h
            split at h
            · cases h
              exact ⟨plain_right _ (by omega) (by omega), fun h3 => by cases h3⟩
            · cases h
          · cases h
  · rename_i hm
    cases h
    refine ⟨plain_right _ (by omega) (by omega), fun _ => ⟨by simpa using hm, ?_⟩⟩
    by_cases hd : l.drop (wordsN l) = []
    · exact .inl hd
    · exact .inr (words_stop hd)
structure RightL (ts : List Tok) : Prop where
  each : ∀ (i : Nat) (t : Tok), ts[i]? = some t → RightT t
  next : ∀ (i : Nat) (t u : Tok), ts[i]? = some t → ts[i + 1]? = some u → t.kind = 3 → u.kind ≠ 3
theorem toks_right : ∀ (n : Nat) (l : Bytes) (p : Nat) (ts : List Tok), l.length ≤ n → toksAt p l = .ok ts → RightL ts ∧ (markL l = true → ∀ t, ts[0]? = some t → t.kind ≠ 3)
  | n, [], p, ts, _, h => by
    rw [toksAt_nil] at h
    cases h
    exact ⟨⟨fun i t h => by simp at h, fun i t u h => by simp at h⟩, fun h => by cases h⟩
  | n, c :: l, p, ts, hn, h => by
    rw [toksAt_step p (by simp)] at h
    split at h
    · cases h
    · rename_i t r h1
      have hlen := one_len (by simp) h1
      obtain ⟨hr, hk⟩ := one_right h1
      split at h
      · cases h
      · rename_i ts' h2
        cases h
        cases n with
        | zero => simp at hn
        | succ n =>
          simp only [List.length_cons] at hlen hn
          obtain ⟨⟨g1, g2⟩, g3⟩ := toks_right n r _ ts' (by omega) h2
          refine ⟨⟨fun i u hu => ?_, fun i u v hu hv h3 => ?_⟩, fun hm u hu h3 => ?_⟩
          · cases i with
            | zero => cases hu; exact hr
            | succ i => exact g1 i u (by simpa using hu)
          · cases i with
            | zero =>
              cases hu
              obtain ⟨_, hk2⟩ := hk h3
              rw [List.getElem?_cons_succ] at hv
              rcases hk2 with rfl | hk2
              · rw [toksAt_nil] at h2
                cases h2
                cases hv
              · exact g3 hk2 v hv
            | succ i => exact g2 i u v (by simpa using hu) (by simpa using hv) h3
          · cases hu
            obtain ⟨hk1, _⟩ := hk h3
            rw [hm] at hk1
            cases hk1
theorem toks_err : ∀ (n : Nat) (l : Bytes) (p : Nat) (x : Nat × Nat), l.length ≤ n → toksAt p l = .error x → x.1 ≠ 0
  | n, [], p, x, _, h => by rw [toksAt_nil] at h; cases h
  | n, c :: l, p, x, hn, h => by
    rw [toksAt_step p (by simp)] at h
    split at h
    · rename_i e he
      cases h
      have := Go.Proofs.YtfjphhmbnhglcaaGreatDoor.oneL_err he
      show e ≠ 0
      omega
    · rename_i t r h1
      have hlen := one_len (by simp) h1
      cases n with
      | zero => simp at hn
      | succ n =>
        simp only [List.length_cons] at hlen hn
        split at h
        · rename_i y hy
          cases h
          exact toks_err n r _ _ (by omega) hy
        · cases h
theorem zero_app {a b : Bytes} (ha : a.contains 0 = false) (hb : b.contains 0 = false) : (a ++ b).contains 0 = false := by
  rw [Bool.eq_false_iff] at *
  intro h
  rcases List.mem_append.1 (List.contains_iff_mem.1 h) with h | h
  · exact ha (List.contains_iff_mem.2 h)
  · exact hb (List.contains_iff_mem.2 h)
/-- A text behind one that ends with a tag. -/
theorem parts_told {a b : Bytes} {ts us : List Tok} {p f q : Nat} (ha : answerL a = (ts, 0, p)) (hne : ts ≠ []) (hl : ∀ t, ts.getLast? = some t → t.kind ≠ 3) (hb : answerL b = (us, f, q)) (hf : f ≠ 42) (hla : a.length ≤ 2000) (hlb : b.length ≤ 2000) :
    (f = 0 ∧ answerL (a ++ b) = (ts ++ us, 0, 0)) ∨ (f ≠ 0 ∧ answerL (a ++ b) = ([], f, q + a.length)) := by
  unfold answerL at ha hb
  rw [if_neg (by omega)] at ha hb
  split at ha
  · cases ha
  rename_i ha0
  split at hb
  · cases hb; exact absurd rfl hf
  rename_i hb0
  have h0 := zero_app (Bool.eq_false_iff.2 ha0) (Bool.eq_false_iff.2 hb0)
  split at ha
  · cases ha; exact absurd rfl hne
  rename_i vs hvs
  cases ha
  have happ := toks_app b _ a 0 ts (Nat.le_refl _) hvs hl
  have hsh := toks_shift a.length _ b 0 (Nat.le_refl _)
  rw [Nat.zero_add] at happ
  rw [Nat.add_zero] at hsh
  unfold answerL
  rw [if_neg (by simp only [List.length_append]; omega), h0]
  simp only [Bool.false_eq_true, if_false]
  show _ ∨ (_ ∧ (match toksAt 0 (a ++ b) with | .error (e, p) => ([], e, p) | .ok ts => (ts, 0, 0)) = _)
  have hb' : (match toksAt 0 b with | .error (e, p) => (([], e, p) : List Tok × Nat × Nat) | .ok ts => (ts, 0, 0)) = (us, f, q) := hb
  have herr := toks_err b.length b 0
  cases hbt : toksAt 0 b with
  | error x =>
    obtain ⟨e, x⟩ := x
    rw [hbt] at hb' hsh
    rw [hsh] at happ
    right
    rw [happ]
    simp only [Prod.mk.injEq] at hb' ⊢
    have := herr _ (Nat.le_refl _) hbt
    simp only at this
    exact ⟨by omega, trivial, hb'.2.1, by omega⟩
  | ok vs =>
    rw [hbt] at hb' hsh
    rw [hsh] at happ
    left
    simp only [Prod.mk.injEq] at hb'
    refine ⟨hb'.2.1.symm, ?_⟩
    show (match toksAt 0 (a ++ b) with | .error (e, p) => (([], e, p) : List Tok × Nat × Nat) | .ok ts => (ts, 0, 0)) = _
    rw [happ, hb'.1]
theorem answer_right {l : Bytes} {ts : List Tok} {e p : Nat} (h : answerL l = (ts, e, p)) : RightL ts := by
  have hn : RightL [] := ⟨fun i t h => by simp at h, fun i t u h => by simp at h⟩
  unfold answerL at h
  split at h
  · cases h; exact hn
  · split at h
    · cases h; exact hn
    · split at h
      · cases h; exact hn
      · rename_i us hu
        cases h
        exact (toks_right _ l 0 _ (Nat.le_refl _) hu).1
end Go.TokenKit
