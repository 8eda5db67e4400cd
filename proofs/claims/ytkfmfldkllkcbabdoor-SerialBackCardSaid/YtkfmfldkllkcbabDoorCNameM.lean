/-
  Names, asked for from the longest on: what is found is what the document says. No conditions.
-/
import Derived.Test.YtkfmfldkllkcbabDoorCMath
namespace Go.CharrefKit
open Go

abbrev Entry := List Nat × Nat × Bool
theorem tab_fact {e : Entry} (h : e ∈ tab) : (∀ b ∈ e.1, isLet b = true) ∧ 2 ≤ e.1.length ∧ e.1.length ≤ 6 := by
  have := List.all_eq_true.1 tab_letters e h
  simp only [Bool.and_eq_true, decide_eq_true_eq, List.all_eq_true] at this
  exact ⟨this.1.1, this.1.2, this.2⟩
theorem tab_same {e e' : Entry} (h : e ∈ tab) (h' : e' ∈ tab) (hn : e.1 = e'.1) : e = e' := by
  have := List.all_eq_true.1 (List.all_eq_true.1 tab_names e h) e' h'
  simp only [Bool.or_eq_true, Bool.not_eq_true', decide_eq_false_iff_not, decide_eq_true_eq] at this
  rcases this with h | h
  · exact absurd hn h
  · exact h
theorem mem_tabC {e : Entry} : e ∈ tabC ↔ e ∈ tab :=
  ⟨fun h => of_decide_eq_true (List.all_eq_true.1 tabC_in e h), fun h => of_decide_eq_true (List.all_eq_true.1 tab_in e h)⟩
theorem isLet_not {b : Nat} (h : isLet b = true) : b ≠ 59 := by
  rintro rfl
  cases h

theorem hit_pos {r : List Nat} {e : Entry} (h : 0 < hit r e) : e.1 <+: r ∧ ((r[e.1.length]? = some 59 ∧ hit r e = e.1.length + 1) ∨ (r[e.1.length]? ≠ some 59 ∧ e.2.2 = true ∧ hit r e = e.1.length)) := by
  unfold hit at h ⊢
  by_cases hp : e.1.isPrefixOf r = true
  · rw [if_pos hp] at h ⊢
    refine ⟨List.isPrefixOf_iff_prefix.1 hp, ?_⟩
    by_cases h1 : r[e.1.length]? = some 59
    · rw [if_pos h1]; exact .inl ⟨h1, rfl⟩
    · rw [if_neg h1] at h ⊢
      by_cases h2 : e.2.2 = true
      · rw [if_pos h2]; exact .inr ⟨h1, h2, rfl⟩
      · rw [if_neg h2] at h; omega
  · rw [if_neg hp] at h; omega
theorem prefix_at {a r : List Nat} (h : a <+: r) {j : Nat} (hj : j < a.length) : r[j]? = a[j]? := by
  obtain ⟨t, rfl⟩ := h
  rw [List.getElem?_append_left hj]
theorem prefix_take {a r : List Nat} (h : a <+: r) : a = r.take a.length := List.prefix_iff_eq_take.1 h
theorem hit_one {r : List Nat} {e e' : Entry} (h : e ∈ tab) (h' : e' ∈ tab) (hp : 0 < hit r e) (he : hit r e = hit r e') : e = e' := by
  have key : ∀ {a b : Entry}, a ∈ tab → b ∈ tab → 0 < hit r a → hit r a = hit r b → ¬ a.1.length < b.1.length := by
    intro a b ha hb hpa hab hlt
    obtain ⟨p1, q1⟩ := hit_pos hpa
    obtain ⟨p2, q2⟩ := hit_pos (hab ▸ hpa)
    rcases q1 with ⟨c, q1⟩ | ⟨_, _, q1⟩
    · have hx : r[a.1.length]? = b.1[a.1.length]? := prefix_at p2 hlt
      have hm : b.1[a.1.length]'hlt ∈ b.1 := List.getElem_mem hlt
      have := isLet_not ((tab_fact hb).1 _ hm)
      rw [c, List.getElem?_eq_getElem hlt] at hx
      exact this (Option.some.inj hx).symm
    · rcases q2 with ⟨_, q2⟩ | ⟨_, _, q2⟩ <;> omega
  have h1 := key h h' hp he
  have h2 := key h' h (he ▸ hp) he.symm
  obtain ⟨p1, _⟩ := hit_pos hp
  obtain ⟨p2, _⟩ := hit_pos (he ▸ hp)
  refine tab_same h h' ?_
  rw [prefix_take p1, prefix_take p2, show e.1.length = e'.1.length by omega]

theorem best_spec (r : List Nat) : ∀ (l : List Entry) (b : Nat × Nat), b.1 ≤ (best r l b).1 ∧ (∀ e ∈ l, hit r e ≤ (best r l b).1) ∧ (best r l b = b ∨ ∃ e ∈ l, best r l b = (hit r e, e.2.1) ∧ 0 < hit r e)
  | [], b => ⟨Nat.le_refl _, fun _ h => by simp at h, .inl rfl⟩
  | x :: l, b => by
    have e0 : best r (x :: l) b = best r l (if b.1 < hit r x then (hit r x, x.2.1) else b) := rfl
    rw [e0]
    obtain ⟨i1, i2, i3⟩ := best_spec r l (if b.1 < hit r x then (hit r x, x.2.1) else b)
    by_cases hx : b.1 < hit r x
    · rw [if_pos hx] at i1 i2 i3 ⊢
      refine ⟨by simp only at i1; omega, fun e he => ?_, ?_⟩
      · rcases List.mem_cons.1 he with rfl | he
        · exact i1
        · exact i2 e he
      · rcases i3 with h | ⟨e, he, h⟩
        · exact .inr ⟨x, List.mem_cons_self .., h, by omega⟩
        · exact .inr ⟨e, List.mem_cons_of_mem _ he, h⟩
    · rw [if_neg hx] at i1 i2 i3 ⊢
      refine ⟨i1, fun e he => ?_, ?_⟩
      · rcases List.mem_cons.1 he with rfl | he
        · omega
        · exact i2 e he
      · rcases i3 with h | ⟨e, he, h⟩
        · exact .inl h
        · exact .inr ⟨e, List.mem_cons_of_mem _ he, h⟩
/-- The longest is the one that is as long as any. -/
theorem best_is {r : List Nat} {e : Entry} (he : e ∈ tab) (hp : 0 < hit r e) (hmax : ∀ e' ∈ tab, hit r e' ≤ hit r e) : best r tab (0, 0) = (hit r e, e.2.1) := by
  obtain ⟨_, h2, h3⟩ := best_spec r tab (0, 0)
  have h2 := h2 e he
  rcases h3 with h | ⟨e', he', h, hp'⟩
  · rw [h] at h2; simp only at h2; omega
  · have : hit r e' = hit r e := by
      have := hmax e' he'
      rw [h] at h2; simp only at h2; omega
    have := hit_one he' he hp' this
    subst this; exact h
theorem best_none {r : List Nat} (h : ∀ e ∈ tab, hit r e = 0) : best r tab (0, 0) = (0, 0) := by
  obtain ⟨_, _, h3⟩ := best_spec r tab (0, 0)
  rcases h3 with h3 | ⟨e, he, _, hp⟩
  · exact h3
  · have := h e he; omega

/-- The program's way: from k letters down. -/
def codeName (attr : Bool) (r : List Nat) : Nat → Ref
  | 0 => noRef
  | k + 1 =>
    match tabC.find? (fun e => decide (e.1 = r.take (k + 1))) with
    | none => codeName attr r k
    | some e =>
      if r[k + 1]? = some 59 then ⟨e.2.1, k + 3, true⟩
      else if e.2.2 = true then (if attr = true ∧ goesOn r[k + 1]? = true then noRef else ⟨e.2.1, k + 2, true⟩)
      else codeName attr r k
theorem codeName_nameL (attr : Bool) (r : List Nat) : ∀ (K : Nat), K ≤ r.length → (∀ e ∈ tab, 0 < hit r e → e.1.length ≤ K) → codeName attr r K = nameL attr r
  | 0, _, h => by
    have hn : best r tab (0, 0) = (0, 0) := best_none (fun e he => by
      by_cases hp : 0 < hit r e
      · have := h e he hp
        have := (tab_fact he).2.1
        omega
      · omega)
    unfold nameL
    rw [hn]; rfl
  | k + 1, hK, h => by
    unfold codeName
    cases hf : tabC.find? (fun e => decide (e.1 = r.take (k + 1))) with
    | none =>
      refine codeName_nameL attr r k (by omega) (fun e he hp => ?_)
      have h1 := h e he hp
      by_cases h2 : e.1.length = k + 1
      · exfalso
        have := List.find?_eq_none.1 hf e (mem_tabC.2 he)
        simp only [decide_eq_true_eq] at this
        apply this
        rw [← h2]
        exact prefix_take (hit_pos hp).1
      · omega
    | some e =>
      have hm : e ∈ tab := mem_tabC.1 (List.mem_of_find?_eq_some hf)
      have hn : e.1 = r.take (k + 1) := by simpa using List.find?_some hf
      have hl : e.1.length = k + 1 := by rw [hn, List.length_take]; omega
      have hpre : e.1.isPrefixOf r = true := List.isPrefixOf_iff_prefix.2 (List.prefix_iff_eq_take.2 (by rw [hl]; exact hn))
      have same : ∀ e' ∈ tab, 0 < hit r e' → e'.1.length = k + 1 → e' = e := fun e' he' hp' hl' => tab_same he' hm (by rw [prefix_take (hit_pos hp').1, hl', hn])
      have hk : r[k]? = e.1[k]? := prefix_at (List.isPrefixOf_iff_prefix.1 hpre) (by omega)
      have hk59 : r[k]? ≠ some 59 := by
        rw [hk, List.getElem?_eq_getElem (by omega)]
        intro e2
        exact isLet_not ((tab_fact hm).1 _ (List.getElem_mem (by omega))) (Option.some.inj e2)
      simp only
      by_cases h59 : r[k + 1]? = some 59
      · rw [if_pos h59]
        have hh : hit r e = k + 2 := by unfold hit; rw [if_pos hpre, hl, if_pos h59]
        have hb := best_is (r := r) hm (by omega) (fun e' he' => by
          by_cases hp' : 0 < hit r e'
          · have := h e' he' hp'
            rcases (hit_pos hp').2 with ⟨_, q⟩ | ⟨_, _, q⟩ <;> omega
          · omega)
        unfold nameL
        rw [hb, hh]
        simp only
        rw [if_neg (show ¬ k + 2 = 0 by omega), if_neg (by rintro ⟨_, q, _⟩; exact q h59)]
      · rw [if_neg h59]
        by_cases hbare : e.2.2 = true
        · rw [if_pos hbare]
          have hh : hit r e = k + 1 := by unfold hit; rw [if_pos hpre, hl, if_neg h59, if_pos hbare]
          have hb := best_is (r := r) hm (by omega) (fun e' he' => by
            by_cases hp' : 0 < hit r e'
            · have h1 := h e' he' hp'
              by_cases h2 : e'.1.length = k + 1
              · rw [same e' he' hp' h2]; exact Nat.le_refl _
              · rcases (hit_pos hp').2 with ⟨_, q⟩ | ⟨_, _, q⟩ <;> omega
            · omega)
          unfold nameL
          rw [hb, hh]
          simp only [Nat.add_sub_cancel]
          rw [if_neg (show ¬ k + 1 = 0 by omega)]
          by_cases hg : attr = true ∧ goesOn r[k + 1]? = true
          · rw [if_pos hg, if_pos ⟨hg.1, hk59, hg.2⟩]
          · rw [if_neg hg, if_neg (fun q => hg ⟨q.1, q.2.2⟩)]
        · rw [if_neg hbare]
          refine codeName_nameL attr r k (by omega) (fun e' he' hp' => ?_)
          have h1 := h e' he' hp'
          by_cases h2 : e'.1.length = k + 1
          · exfalso
            have := same e' he' hp' h2
            subst this
            rcases (hit_pos hp').2 with ⟨q, _⟩ | ⟨_, q, _⟩
            · rw [hl] at q; exact h59 q
            · exact hbare q
          · omega
/-- How many letters, no more than six. -/
def lettersN (r : List Nat) : Nat := ((r.take 6).takeWhile isLet).length
theorem lettersN_le (r : List Nat) : lettersN r ≤ r.length ∧ lettersN r ≤ 6 := by
  have h1 : ((r.take 6).takeWhile isLet).length ≤ (r.take 6).length := (List.takeWhile_sublist _).length_le
  rw [List.length_take] at h1
  unfold lettersN
  omega
theorem takeWhile_more {p : Nat → Bool} : ∀ {l : List Nat} {k : Nat}, k ≤ l.length → (∀ b ∈ l.take k, p b = true) → k ≤ (l.takeWhile p).length
  | _, 0, _, _ => Nat.zero_le _
  | [], k + 1, h, _ => by simp at h
  | x :: r, k + 1, h, hp => by
    have hx := hp x (by simp)
    rw [List.takeWhile_cons, if_pos hx]
    have := takeWhile_more (p := p) (l := r) (k := k) (by simpa using h) (fun b hb => hp b (by rw [List.take_succ_cons]; exact List.mem_cons_of_mem _ hb))
    simp only [List.length_cons]; omega
theorem letters_hits (r : List Nat) : ∀ e ∈ tab, 0 < hit r e → e.1.length ≤ lettersN r := by
  intro e he hp
  have hf := tab_fact he
  have hpre := (hit_pos hp).1
  have hl := hpre.length_le
  unfold lettersN
  refine takeWhile_more (by rw [List.length_take]; omega) (fun b hb => ?_)
  rw [List.take_take, Nat.min_eq_left hf.2.2, ← prefix_take hpre] at hb
  exact hf.1 b hb
theorem codeName_letters (attr : Bool) (r : List Nat) : codeName attr r (lettersN r) = nameL attr r := codeName_nameL attr r _ (lettersN_le r).1 (letters_hits r)
end Go.CharrefKit

