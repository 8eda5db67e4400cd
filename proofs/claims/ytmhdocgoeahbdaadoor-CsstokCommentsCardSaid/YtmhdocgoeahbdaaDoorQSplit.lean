/-
  A sign ; parts a text: what stands ahead has the same tokens whatever is behind, if none of them is open. No conditions.
-/
import Derived.Test.YtmhdocgoeahbdaaDoorQToksM
namespace Go.CssKit
open Go Go.Lib

theorem app_lt {u s : Chars} {n : Nat} (h : n < u.length) : at_ (u ++ s) n = at_ u n := by
  rw [at_some (by simp; omega), at_some h, List.getElem_append_left h]
theorem app_eq (u r : Chars) (c : Int) : at_ (u ++ c :: r) u.length = c := by
  rw [at_some (by simp)]; simp
theorem test_app (p : Int → Bool) (hp : p 59 = p (-1)) {u : Chars} {n : Nat} (h : n ≤ u.length) (r : Chars) : p (at_ (u ++ 59 :: r) n) = p (at_ u n) := by
  by_cases hn : n < u.length
  · rw [app_lt hn]
  · obtain rfl : n = u.length := by omega
    rw [app_eq, at_none (Nat.le_refl _), hp]
theorem is_app (c : Int) (h1 : c ≠ 59) (h2 : c ≠ -1) {u : Chars} {n : Nat} (h : n ≤ u.length) (r : Chars) : at_ (u ++ 59 :: r) n = c ↔ at_ u n = c := by
  have := test_app (fun x => decide (x = c)) (by rw [decide_eq_false (fun e => h1 e.symm), decide_eq_false (fun e => h2 e.symm)]) h r
  simpa only [decide_eq_decide] using this
theorem escA_app {u : Chars} {n : Nat} (h : n ≤ u.length) (r : Chars) : escAt (u ++ 59 :: r) n = escAt u n := by
  unfold escAt
  by_cases hn : n < u.length
  · have e := test_app (fun c => c == 10) rfl (show n + 1 ≤ u.length by omega) r
    try simp only at e
    rw [app_lt hn, e]
  · obtain rfl : n = u.length := by omega
    rw [app_eq, at_none (Nat.le_refl _)]; rfl
theorem nameA_app {u : Chars} {n : Nat} (h : n ≤ u.length) (r : Chars) : nameAt (u ++ 59 :: r) n = nameAt u n := by
  unfold nameAt
  by_cases hn : n < u.length
  · have e1 := test_app (fun c => c == 45) rfl (show n + 1 ≤ u.length by omega) r
    have e2 := test_app begC rfl (show n + 1 ≤ u.length by omega) r
    try simp only at e1
    rw [app_lt hn, e1, e2, escA_app h, escA_app (show n + 1 ≤ u.length by omega)]
  · obtain rfl : n = u.length := by omega
    rw [app_eq, at_none (Nat.le_refl _), escA_app (Nat.le_refl _), if_neg (by decide), if_neg (by decide)]
    rfl
theorem open_app (u r : Chars) : openAt (u ++ 59 :: r) = openAt u := by
  unfold openAt
  rcases u with _ | ⟨a, _ | ⟨b, _ | ⟨c, _ | ⟨d, u⟩⟩⟩⟩ <;> simp [at_]
theorem close_app (u r : Chars) : closeAt (u ++ 59 :: r) = closeAt u := by
  unfold closeAt
  rcases u with _ | ⟨a, _ | ⟨b, _ | ⟨c, u⟩⟩⟩ <;> simp [at_]
theorem takeWhile_app (p : Int → Bool) (hp : p 59 = false) : ∀ u r : Chars, (u ++ 59 :: r).takeWhile p = u.takeWhile p
  | [], r => by rw [List.nil_append, List.takeWhile_cons_of_neg (by rw [hp]; decide)]; rfl
  | c :: u, r => by
    rw [List.cons_append]
    by_cases h : p c = true
    · rw [List.takeWhile_cons_of_pos h, List.takeWhile_cons_of_pos h, takeWhile_app p hp u r]
    · rw [List.takeWhile_cons_of_neg h, List.takeWhile_cons_of_neg h]
theorem dropWhile_app (p : Int → Bool) (hp : p 59 = false) : ∀ u r : Chars, (u ++ 59 :: r).dropWhile p = u.dropWhile p ++ 59 :: r
  | [], r => by rw [List.nil_append, List.dropWhile_cons_of_neg (by rw [hp]; decide)]; rfl
  | c :: u, r => by
    rw [List.cons_append]
    by_cases h : p c = true
    · rw [List.dropWhile_cons_of_pos h, List.dropWhile_cons_of_pos h, dropWhile_app p hp u r]
    · rw [List.dropWhile_cons_of_neg h, List.dropWhile_cons_of_neg h]; rfl
theorem drop_app {u : Chars} {n : Nat} (h : n ≤ u.length) (r : Chars) : (u ++ 59 :: r).drop n = u.drop n ++ 59 :: r := List.drop_append_of_le_length h
theorem take_app {u : Chars} {n : Nat} (h : n ≤ u.length) (r : Chars) : (u ++ 59 :: r).take n = u.take n := List.take_append_of_le_length h
theorem hexRun_app : ∀ (f : Nat) (u r : Chars), hexRun f (u ++ 59 :: r) = hexRun f u
  | 0, _, _ => rfl
  | f + 1, [], r => by
    show (if 0 ≤ hexC 59 then _ else []) = []
    rw [if_neg (by decide)]
  | f + 1, c :: u, r => by
    show (if 0 ≤ hexC c then c :: hexRun f (u ++ 59 :: r) else []) = if 0 ≤ hexC c then c :: hexRun f u else []
    rw [hexRun_app f u r]
theorem escL_semi (r : Chars) : escL (59 :: r) = (59, r) := by
  unfold escL
  rw [if_pos (show hexRun 6 (59 :: r) = [] from hexRun_app 6 [] r)]
theorem escL_app {u : Chars} (hu : u ≠ []) (r : Chars) : escL (u ++ 59 :: r) = ((escL u).1, (escL u).2 ++ 59 :: r) := by
  have hl := (hexRun_le 6 u).1
  unfold escL
  rw [hexRun_app]
  by_cases h : hexRun 6 u = []
  · rw [if_pos h, if_pos h]
    cases u with
    | nil => exact absurd rfl hu
    | cons c u => rfl
  · rw [if_neg h, if_neg h, test_app isW rfl hl r]
    by_cases hw : isW (at_ u (hexRun 6 u).length) = true
    · have hp := at_pos (l := u) (n := (hexRun 6 u).length) (fun e => by rw [e] at hw; exact absurd hw (by decide))
      rw [if_pos hw, if_pos hw, drop_app (by omega)]
    · rw [if_neg hw, if_neg hw, drop_app hl]

/-- A name that begins in u: it ends in u, or it goes on behind the sign. -/
def NameA (u : Chars) : Prop := (∃ v u', u'.length ≤ u.length ∧ ∀ r, nameL (u ++ 59 :: r) = (v, u' ++ 59 :: r)) ∨ ∃ v, ∀ r, nameL (u ++ 59 :: r) = (v ++ (nameL r).1, (nameL r).2)
theorem NameA.lift {u u' p : Chars} (hl : u'.length ≤ u.length) (hs : ∀ r, nameL (u ++ 59 :: r) = (p ++ (nameL (u' ++ 59 :: r)).1, (nameL (u' ++ 59 :: r)).2)) (h : NameA u') : NameA u := by
  rcases h with ⟨v, u2, h2, hv⟩ | ⟨v, hv⟩
  · exact .inl ⟨p ++ v, u2, by omega, fun r => by rw [hs, hv]⟩
  · exact .inr ⟨p ++ v, fun r => by rw [hs, hv, List.append_assoc]⟩
theorem nameL_app : ∀ (n : Nat) (u : Chars), u.length ≤ n → NameA u
  | _, [], _ => .inl ⟨[], [], Nat.le_refl _, fun r => by
      rw [List.nil_append, nameL_step, at_cons, if_neg (by decide), if_neg (by rw [show escAt (59 :: r) 0 = false by simp [escAt, at_]]; decide)]⟩
  | 0, _ :: _, h => by simp at h
  | n + 1, c :: u, h => by
    have hu : u.length ≤ n := by simpa using h
    by_cases hn : nameC c = true
    · exact NameA.lift (p := [c]) (u' := u) (by simp) (fun r => by rw [List.cons_append, nameL_step, at_cons, if_pos hn]; rfl) (nameL_app n u hu)
    · have ha := fun r => escA_app (u := c :: u) (n := 0) (Nat.zero_le _) r
      by_cases he : escAt (c :: u) 0 = true
      · cases u with
        | nil => exact .inr ⟨[59], fun r => by rw [nameL_step, ha, List.cons_append, at_cons, if_neg hn, if_pos he, List.nil_append, List.drop_succ_cons, List.drop_zero, escL_semi]; rfl⟩
        | cons d u =>
          have hl := esc_len (d :: u)
          refine NameA.lift (p := [(escL (d :: u)).1]) (u' := (escL (d :: u)).2) (by simp at hl ⊢; omega) (fun r => ?_) (nameL_app n _ (by simp at hl hu; omega))
          rw [nameL_step, ha, List.cons_append, at_cons, if_neg hn, if_pos he, List.drop_succ_cons, List.drop_zero, escL_app (by simp)]
          rfl
      · exact .inl ⟨[], c :: u, Nat.le_refl _, fun r => by rw [nameL_step, ha, show at_ (c :: u ++ 59 :: r) 0 = c from by rw [List.cons_append, at_cons], if_neg hn, if_neg he]⟩

def TextA (q : Int) (u : Chars) : Prop := (∃ v c u', (c = q ∨ c = 10) ∧ ∀ r, textL q (u ++ 59 :: r) = (v, c :: (u' ++ 59 :: r))) ∨ ∃ v, ∀ r, textL q (u ++ 59 :: r) = (v ++ (textL q r).1, (textL q r).2)
theorem TextA.lift {q : Int} {u u' p : Chars} (hs : ∀ r, textL q (u ++ 59 :: r) = (p ++ (textL q (u' ++ 59 :: r)).1, (textL q (u' ++ 59 :: r)).2)) (h : TextA q u') : TextA q u := by
  rcases h with ⟨v, c, u2, h2, hv⟩ | ⟨v, hv⟩
  · exact .inl ⟨p ++ v, c, u2, h2, fun r => by rw [hs, hv]⟩
  · exact .inr ⟨p ++ v, fun r => by rw [hs, hv, List.append_assoc]⟩
theorem textL_app (q : Int) (hq : q ≠ 59) : ∀ (n : Nat) (u : Chars), u.length ≤ n → TextA q u
  | _, [], _ => .inr ⟨[59], fun r => by rw [List.nil_append, textL_step, if_neg (by omega), if_pos (by decide)]; rfl⟩
  | 0, _ :: _, h => by simp at h
  | n + 1, c :: u, h => by
    have hu : u.length ≤ n := by simpa using h
    by_cases h1 : c = q ∨ c = 10
    · exact .inl ⟨[], c, u, h1, fun r => by rw [List.cons_append, textL_step, if_pos h1]⟩
    · by_cases h2 : c = 92
      · have hne : ∀ r : Chars, u ++ 59 :: r ≠ [] := fun r e => by simp at e
        have h3 := fun r => is_app 10 (by decide) (by decide) (Nat.zero_le u.length) r
        by_cases h4 : at_ u 0 = 10
        · have hp := at_pos (l := u) (n := 0) (by rw [h4]; decide)
          refine TextA.lift (p := []) (u' := u.drop 1) (fun r => ?_) (textL_app q hq n _ (by rw [List.length_drop]; omega))
          rw [List.cons_append, textL_step, if_neg h1, if_neg (by simp [h2]), if_neg (hne r), if_pos ((h3 r).mpr h4), drop_app (by omega)]
          rfl
        · cases u with
          | nil => exact .inr ⟨[59], fun r => by rw [List.cons_append, textL_step, if_neg h1, if_neg (by simp [h2]), if_neg (hne r), if_neg (mt (h3 r).mp h4), List.nil_append, escL_semi]; rfl⟩
          | cons d u =>
            have hl := esc_len (d :: u)
            refine TextA.lift (p := [(escL (d :: u)).1]) (u' := (escL (d :: u)).2) (fun r => ?_) (textL_app q hq n _ (by simp at hl hu; omega))
            rw [List.cons_append, textL_step, if_neg h1, if_neg (by simp [h2]), if_neg (hne r), if_neg (mt (h3 r).mp h4), escL_app (by simp)]
            rfl
      · exact TextA.lift (p := [c]) (u' := u) (fun r => by rw [List.cons_append, textL_step, if_neg h1, if_pos h2]; rfl) (textL_app q hq n u hu)

theorem inC_app : ∀ u : Chars, (∃ u', u'.length ≤ u.length ∧ ∀ r, inC (u ++ 59 :: r) = u' ++ 59 :: r) ∨ ∀ r, inC (u ++ 59 :: r) = inC r
  | [] => .inr fun r => by
      show (if (59 : Int) = 42 ∧ at_ r 0 = 47 then r.drop 1 else inC r) = inC r
      rw [if_neg (fun e => absurd e.1 (by decide))]
  | c :: u => by
    have h3 := fun r => is_app 47 (by decide) (by decide) (Nat.zero_le u.length) r
    have hst : ∀ r, inC (c :: u ++ 59 :: r) = if c = 42 ∧ at_ u 0 = 47 then (u ++ 59 :: r).drop 1 else inC (u ++ 59 :: r) := fun r => by
      show (if c = 42 ∧ at_ (u ++ 59 :: r) 0 = 47 then (u ++ 59 :: r).drop 1 else inC (u ++ 59 :: r)) = _
      by_cases h : c = 42 ∧ at_ u 0 = 47
      · rw [if_pos h, if_pos ⟨h.1, (h3 r).mpr h.2⟩]
      · rw [if_neg h, if_neg (fun e => h ⟨e.1, (h3 r).mp e.2⟩)]
    by_cases h : c = 42 ∧ at_ u 0 = 47
    · have hp := at_pos (l := u) (n := 0) (by rw [h.2]; decide)
      exact .inl ⟨u.drop 1, by simp; omega, fun r => by rw [hst, if_pos h, drop_app (by omega)]⟩
    · rcases inC_app u with ⟨u', hl, hv⟩ | hv
      · exact .inl ⟨u', by simp; omega, fun r => by rw [hst, if_neg h, hv]⟩
      · exact .inr fun r => by rw [hst, if_neg h, hv]
theorem comL_app : ∀ (n : Nat) (u : Chars), u.length ≤ n → (∃ u', u'.length ≤ u.length ∧ ∀ r, comL (u ++ 59 :: r) = u' ++ 59 :: r) ∨ ∀ r, comL (u ++ 59 :: r) = comL (inC r) := fun n u hu => by
  by_cases h : at_ u 0 = 47 ∧ at_ u 1 = 42
  · have hp := at_pos (l := u) (n := 1) (by rw [h.2]; decide)
    have hst : ∀ r, comL (u ++ 59 :: r) = comL (inC (u.drop 2 ++ 59 :: r)) := fun r => by
      rw [comL_step, app_lt (by omega), app_lt hp, if_pos h, drop_app (by omega)]
    rcases inC_app (u.drop 2) with ⟨u', hl, hv⟩ | hv
    · rw [List.length_drop] at hl
      match n, hu with
      | 0, hu => omega
      | n + 1, hu =>
        rcases comL_app n u' (by omega) with ⟨u2, hl2, hv2⟩ | hv2
        · exact .inl ⟨u2, by omega, fun r => by rw [hst, hv, hv2]⟩
        · exact .inr fun r => by rw [hst, hv, hv2]
    · exact .inr fun r => by rw [hst, hv]
  · refine .inl ⟨u, Nat.le_refl _, fun r => ?_⟩
    rw [comL_step, if_neg]
    intro e
    have e0 := (is_app 47 (by decide) (by decide) (Nat.zero_le u.length) r).mp e.1
    have hp := at_pos (l := u) (n := 0) (by rw [e0]; decide)
    exact h ⟨e0, (is_app 42 (by decide) (by decide) (show 1 ≤ u.length by omega) r).mp e.2⟩

theorem digs_app {u : Chars} {n : Nat} (h : n ≤ u.length) (r : Chars) : digsN (u ++ 59 :: r) n = digsN u n ∧ digsN u n ≤ u.length := by
  unfold digsN
  rw [drop_app h, takeWhile_app isDg rfl]
  have := (List.takeWhile_sublist isDg (l := u.drop n)).length_le
  rw [List.length_drop] at this
  exact ⟨rfl, by omega⟩
theorem sign_app {u : Chars} {n : Nat} (h : n ≤ u.length) (r : Chars) : signN (u ++ 59 :: r) n = signN u n ∧ signN u n ≤ u.length := by
  unfold signN
  by_cases hn : n < u.length
  · rw [app_lt hn]
    exact ⟨rfl, by split <;> omega⟩
  · obtain rfl : n = u.length := by omega
    rw [app_eq, at_none (Nat.le_refl _), if_neg (by decide), if_neg (by decide)]
    exact ⟨rfl, Nat.le_refl _⟩
theorem dot_app {u : Chars} {n : Nat} (h : n ≤ u.length) (r : Chars) : dotN (u ++ 59 :: r) n = dotN u n ∧ dotN u n ≤ u.length := by
  unfold dotN
  by_cases hn : n < u.length
  · rw [app_lt hn]
    exact ⟨rfl, by split <;> omega⟩
  · obtain rfl : n = u.length := by omega
    rw [app_eq, at_none (Nat.le_refl _), if_neg (by decide), if_neg (by decide)]
    exact ⟨rfl, Nat.le_refl _⟩
theorem frac_app {u : Chars} {n : Nat} (h : n ≤ u.length) (r : Chars) : fracN (u ++ 59 :: r) n = fracN u n ∧ fracN u n ≤ u.length := by
  unfold fracN
  by_cases hn : n < u.length
  · have hd := digs_app (show n + 1 ≤ u.length by omega) r
    rw [app_lt hn, test_app isDg rfl (show n + 1 ≤ u.length by omega) r, hd.1]
    exact ⟨rfl, by split; exact hd.2; omega⟩
  · obtain rfl : n = u.length := by omega
    rw [app_eq, at_none (Nat.le_refl _), if_neg (fun e => absurd e.1 (by decide)), if_neg (fun e => absurd e.1 (by decide))]
    exact ⟨rfl, Nat.le_refl _⟩
theorem expo_app {u : Chars} {n : Nat} (h : n ≤ u.length) (r : Chars) : expoN (u ++ 59 :: r) n = expoN u n ∧ expoN u n ≤ u.length := by
  unfold expoN
  by_cases hn : n < u.length
  · have hs := sign_app (show n + 1 ≤ u.length by omega) r
    have hd := digs_app hs.2 r
    rw [app_lt hn, hs.1, test_app isDg rfl hs.2 r, hd.1]
    exact ⟨rfl, by split; exact hd.2; omega⟩
  · obtain rfl : n = u.length := by omega
    rw [app_eq, at_none (Nat.le_refl _), if_neg (fun e => absurd e.1 (by decide)), if_neg (fun e => absurd e.1 (by decide))]
    exact ⟨rfl, Nat.le_refl _⟩
theorem num_app (u r : Chars) : numN (u ++ 59 :: r) = numN u ∧ numN u ≤ u.length := by
  unfold numN
  have h1 := sign_app (Nat.zero_le u.length) r
  have h2 := digs_app h1.2 r
  have h3 := frac_app h2.2 r
  have h4 := expo_app h3.2 r
  rw [h1.1, h2.1, h3.1, h4.1]
  exact ⟨rfl, h4.2⟩
theorem numAt_app (u r : Chars) : numAt (u ++ 59 :: r) = numAt u := by
  unfold numAt
  have h1 := sign_app (Nat.zero_le u.length) r
  have h2 := dot_app h1.2 r
  rw [h1.1, h2.1, test_app isDg rfl h2.2 r]

/-- A token that begins in u: it ends in u, or it takes all, and is no sign. -/
def OneA (u : Chars) : Prop := (∃ t u', ∀ r, oneT (u ++ 59 :: r) = (t, u' ++ 59 :: r)) ∨ ((oneT (u ++ [59])).2 = [] ∧ (oneT (u ++ [59])).1.kind ≠ 11)
theorem one_app {u : Chars} (hu : u ≠ []) (r : Chars) : oneT (u ++ 59 :: r) =
    if isW (at_ u 0) = true then whiteT (u ++ 59 :: r)
    else if at_ u 0 = 34 ∨ at_ u 0 = 39 then quoteT (u ++ 59 :: r)
    else if at_ u 0 = 35 ∧ (nameC (at_ u 1) || escAt u 1) = true then hashT (u ++ 59 :: r)
    else if numAt u = true then numberT (u ++ 59 :: r)
    else if openAt u = true then (⟨13, [], [], false⟩, (u ++ 59 :: r).drop 4)
    else if closeAt u = true then (⟨14, [], [], false⟩, (u ++ 59 :: r).drop 3)
    else if nameAt u 0 = true then wordT (u ++ 59 :: r)
    else if at_ u 0 = 64 ∧ nameAt u 1 = true then atT (u ++ 59 :: r)
    else if signsC.contains (at_ u 0) = true then (⟨11, bytesC ((u ++ 59 :: r).take 1), [], false⟩, (u ++ 59 :: r).drop 1)
    else (⟨12, bytesC ((u ++ 59 :: r).take 1), [], false⟩, (u ++ 59 :: r).drop 1) := by
  have h0 := List.length_pos_iff.2 hu
  have h1 : 1 ≤ u.length := h0
  unfold oneT
  rw [app_lt h0, test_app nameC rfl h1 r, escA_app h1 r, numAt_app, open_app, close_app, nameA_app (Nat.zero_le _), nameA_app h1]
theorem oneT_app {u : Chars} (hu : u ≠ []) : OneA u := by
  have h0 := List.length_pos_iff.2 hu
  have h1 : 1 ≤ u.length := h0
  have hs := one_app hu
  unfold OneA
  by_cases c1 : isW (at_ u 0) = true
  · exact .inl ⟨_, u.dropWhile isW, fun r => by rw [hs r, if_pos c1]; unfold whiteT; rw [dropWhile_app isW rfl]⟩
  by_cases c2 : at_ u 0 = 34 ∨ at_ u 0 = 39
  · have hq : ∀ r, oneT (u ++ 59 :: r) = quoteT (u ++ 59 :: r) := fun r => by rw [hs r, if_neg c1, if_pos c2]
    rcases textL_app (at_ u 0) (by omega) _ (u.drop 1) (Nat.le_refl _) with ⟨v, c, u', hc, hv⟩ | ⟨v, hv⟩
    · by_cases h10 : c = 10
      · exact .inl ⟨⟨7, bytesC v, [], false⟩, c :: u', fun r => by rw [hq]; unfold quoteT; rw [app_lt h0, drop_app h1, hv r]; simp only [at_cons]; rw [if_pos h10]; rfl⟩
      · exact .inl ⟨⟨6, bytesC v, [], false⟩, u', fun r => by rw [hq]; unfold quoteT; rw [app_lt h0, drop_app h1, hv r]; simp only [at_cons]; rw [if_neg h10]; rfl⟩
    · have e : oneT (u ++ [59]) = (⟨6, bytesC (v ++ (textL (at_ u 0) []).1), [], false⟩, []) := by
        rw [hq]; unfold quoteT; rw [app_lt h0, drop_app h1, hv []]; rfl
      exact .inr (by rw [e]; exact ⟨rfl, by simp⟩)
  by_cases c3 : at_ u 0 = 35 ∧ (nameC (at_ u 1) || escAt u 1) = true
  · have hq : ∀ r, oneT (u ++ 59 :: r) = hashT (u ++ 59 :: r) := fun r => by rw [hs r, if_neg c1, if_neg c2, if_pos c3]
    rcases nameL_app _ (u.drop 1) (Nat.le_refl _) with ⟨v, u', _, hv⟩ | ⟨v, hv⟩
    · exact .inl ⟨⟨5, bytesC v, [], nameAt (u.drop 1) 0⟩, u', fun r => by rw [hq]; unfold hashT; rw [drop_app h1, hv r, nameA_app (Nat.zero_le _)]⟩
    · have e : oneT (u ++ [59]) = (⟨5, bytesC (v ++ (nameL []).1), [], nameAt (u.drop 1) 0⟩, []) := by
        rw [hq]; unfold hashT; rw [drop_app h1, hv [], nameA_app (Nat.zero_le _)]; rfl
      exact .inr (by rw [e]; exact ⟨rfl, by simp⟩)
  by_cases c4 : numAt u = true
  · have hq : ∀ r, oneT (u ++ 59 :: r) = numberT (u ++ 59 :: r) := fun r => by rw [hs r, if_neg c1, if_neg c2, if_neg c3, if_pos c4]
    have hn := fun r => num_app u r
    have hn2 := (hn []).2
    have hq2 : ∀ r, numberT (u ++ 59 :: r) = if nameAt (u.drop (numN u)) 0 = true then (⟨10, bytesC (u.take (numN u)), bytesC (nameL (u.drop (numN u) ++ 59 :: r)).1, false⟩, (nameL (u.drop (numN u) ++ 59 :: r)).2)
        else if at_ (u.drop (numN u)) 0 = 37 then (⟨9, bytesC (u.take (numN u)), [], false⟩, (u.drop (numN u) ++ 59 :: r).drop 1)
        else (⟨8, bytesC (u.take (numN u)), [], false⟩, u.drop (numN u) ++ 59 :: r) := fun r => by
      unfold numberT
      rw [(hn r).1, drop_app hn2, take_app hn2, nameA_app (Nat.zero_le _)]
      by_cases hp : at_ (u.drop (numN u)) 0 = 37
      · rw [if_pos hp, if_pos ((is_app 37 (by decide) (by decide) (Nat.zero_le _) r).mpr hp)]
      · rw [if_neg hp, if_neg (mt (is_app 37 (by decide) (by decide) (Nat.zero_le _) r).mp hp)]
    by_cases hk : nameAt (u.drop (numN u)) 0 = true
    · rcases nameL_app _ (u.drop (numN u)) (Nat.le_refl _) with ⟨v, u', _, hv⟩ | ⟨v, hv⟩
      · exact .inl ⟨⟨10, bytesC (u.take (numN u)), bytesC v, false⟩, u', fun r => by rw [hq, hq2, if_pos hk, hv r]⟩
      · have e : oneT (u ++ [59]) = (⟨10, bytesC (u.take (numN u)), bytesC (v ++ (nameL []).1), false⟩, []) := by
          rw [hq, hq2, if_pos hk, hv []]; rfl
        exact .inr (by rw [e]; exact ⟨rfl, by simp⟩)
    · by_cases hp : at_ (u.drop (numN u)) 0 = 37
      · have hl := at_pos (l := u.drop (numN u)) (n := 0) (by rw [hp]; decide)
        exact .inl ⟨⟨9, bytesC (u.take (numN u)), [], false⟩, (u.drop (numN u)).drop 1, fun r => by rw [hq, hq2, if_neg hk, if_pos hp, drop_app (by omega)]⟩
      · exact .inl ⟨⟨8, bytesC (u.take (numN u)), [], false⟩, u.drop (numN u), fun r => by rw [hq, hq2, if_neg hk, if_neg hp]⟩
  by_cases c5 : openAt u = true
  · have hl : 4 ≤ u.length := by
      have h3 : at_ u 3 = 45 := by unfold openAt at c5; simp only [Bool.and_eq_true, beq_iff_eq] at c5; exact c5.2
      exact at_pos (l := u) (n := 3) (by rw [h3]; decide)
    exact .inl ⟨_, u.drop 4, fun r => by rw [hs r, if_neg c1, if_neg c2, if_neg c3, if_neg c4, if_pos c5, drop_app hl]⟩
  by_cases c6 : closeAt u = true
  · have hl : 3 ≤ u.length := by
      have h3 : at_ u 2 = 62 := by unfold closeAt at c6; simp only [Bool.and_eq_true, beq_iff_eq] at c6; exact c6.2
      exact at_pos (l := u) (n := 2) (by rw [h3]; decide)
    exact .inl ⟨_, u.drop 3, fun r => by rw [hs r, if_neg c1, if_neg c2, if_neg c3, if_neg c4, if_neg c5, if_pos c6, drop_app hl]⟩
  by_cases c7 : nameAt u 0 = true
  · have hq : ∀ r, oneT (u ++ 59 :: r) = wordT (u ++ 59 :: r) := fun r => by rw [hs r, if_neg c1, if_neg c2, if_neg c3, if_neg c4, if_neg c5, if_neg c6, if_pos c7]
    rcases nameL_app _ u (Nat.le_refl _) with ⟨v, u', _, hv⟩ | ⟨v, hv⟩
    · by_cases hp : at_ u' 0 = 40
      · have hl := at_pos (l := u') (n := 0) (by rw [hp]; decide)
        exact .inl ⟨⟨3, bytesC v, [], false⟩, u'.drop 1, fun r => by rw [hq]; unfold wordT; rw [hv r]; simp only; rw [if_pos ((is_app 40 (by decide) (by decide) (Nat.zero_le _) r).mpr hp), drop_app (by omega)]⟩
      · exact .inl ⟨⟨2, bytesC v, [], false⟩, u', fun r => by rw [hq]; unfold wordT; rw [hv r]; simp only; rw [if_neg (mt (is_app 40 (by decide) (by decide) (Nat.zero_le _) r).mp hp)]⟩
    · have e : oneT (u ++ [59]) = (⟨2, bytesC (v ++ (nameL []).1), [], false⟩, []) := by
        rw [hq]; unfold wordT; rw [hv []]; rfl
      exact .inr (by rw [e]; exact ⟨rfl, by simp⟩)
  by_cases c8 : at_ u 0 = 64 ∧ nameAt u 1 = true
  · have hq : ∀ r, oneT (u ++ 59 :: r) = atT (u ++ 59 :: r) := fun r => by rw [hs r, if_neg c1, if_neg c2, if_neg c3, if_neg c4, if_neg c5, if_neg c6, if_neg c7, if_pos c8]
    rcases nameL_app _ (u.drop 1) (Nat.le_refl _) with ⟨v, u', _, hv⟩ | ⟨v, hv⟩
    · exact .inl ⟨⟨4, bytesC v, [], false⟩, u', fun r => by rw [hq]; unfold atT; rw [drop_app h1, hv r]⟩
    · have e : oneT (u ++ [59]) = (⟨4, bytesC (v ++ (nameL []).1), [], false⟩, []) := by
        rw [hq]; unfold atT; rw [drop_app h1, hv []]; rfl
      exact .inr (by rw [e]; exact ⟨rfl, by simp⟩)
  by_cases c9 : signsC.contains (at_ u 0) = true
  · exact .inl ⟨⟨11, bytesC (u.take 1), [], false⟩, u.drop 1, fun r => by rw [hs r, if_neg c1, if_neg c2, if_neg c3, if_neg c4, if_neg c5, if_neg c6, if_neg c7, if_neg c8, if_pos c9, drop_app h1, take_app h1]⟩
  · exact .inl ⟨⟨12, bytesC (u.take 1), [], false⟩, u.drop 1, fun r => by rw [hs r, if_neg c1, if_neg c2, if_neg c3, if_neg c4, if_neg c5, if_neg c6, if_neg c7, if_neg c8, if_neg c9, drop_app h1, take_app h1]⟩

theorem toksC_step {l l' : Chars} (h : comL l = l') (hl : l' ≠ []) : toksC l = (oneT l').1 :: toksC (oneT l').2 := by
  rw [toksC_com, h]; unfold toksD; rw [if_neg hl]
theorem toksC_end {l : Chars} (h : comL l = []) : toksC l = [] := by
  rw [toksC_com, h]; rfl
theorem toksC_same {l l' : Chars} (h : comL l = comL l') : toksC l = toksC l' := by
  rw [toksC_com, toksC_com, h]
theorem one_semi (r : Chars) : oneT (59 :: r) = (⟨11, [59], [], false⟩, r) := by
  have h1 : nameAt (59 :: r) 0 = false := by simp [nameAt, escAt, at_, begC]
  have h2 : numAt (59 :: r) = false := by simp [numAt, dotN, signN, at_, isDg]
  have h3 : openAt (59 :: r) = false := by simp [openAt, at_]
  have h4 : closeAt (59 :: r) = false := by simp [closeAt, at_]
  unfold oneT
  rw [at_cons, if_neg (by decide), if_neg (by decide), if_neg (fun e => absurd e.1 (by decide)), if_neg (by rw [h2]; decide), if_neg (by rw [h3]; decide), if_neg (by rw [h4]; decide), if_neg (by rw [h1]; decide), if_neg (fun e => absurd e.1 (by decide)), if_pos (by decide)]
  rfl
/-- What stands ahead of a sign that ends a token has its tokens whatever is behind. -/
theorem toks_app : ∀ (n : Nat) (u : Chars), u.length ≤ n → (toksC (u ++ 59 :: [120, 59])).length = (toksC (u ++ [59])).length + 2 → (∀ t, (toksC (u ++ [59])).getLast? = some t → t.kind = 11) →
    ∀ r, toksC (u ++ 59 :: r) = toksC (u ++ [59]) ++ toksC r := fun n u hn h2 hl r => by
  rcases comL_app n u hn with ⟨u', hlen, hv⟩ | hv
  · by_cases hu : u' = []
    · subst hu
      rw [toksC_step (hv r) (by simp), toksC_step (hv []) (by simp), List.nil_append, List.nil_append, one_semi, one_semi]
      rfl
    · rcases oneT_app hu with ⟨t, u2, ho⟩ | ⟨e1, e2⟩
      · have hlt := one_lt (l := u' ++ [59]) (by simp)
        rw [ho []] at hlt
        simp only [List.length_append, List.length_cons, List.length_nil] at hlt
        have st : ∀ r, toksC (u ++ 59 :: r) = t :: toksC (u2 ++ 59 :: r) := fun r => by
          rw [toksC_step (hv r) (by simp), ho r]
        match n, hn with
        | 0, hn => omega
        | n + 1, hn =>
          rw [st, st []] at h2
          rw [st []] at hl
          rw [st, st [], toks_app n u2 (by omega) (by simpa using h2) (fun x hx => hl x (by
            rw [List.getLast?_cons, hx]; rfl)) r]
          rfl
      · exfalso
        have e : toksC (u ++ [59]) = [(oneT (u' ++ [59])).1] := by
          rw [toksC_step (hv []) (by simp), e1]; rfl
        exact e2 (hl _ (by rw [e]; rfl))
  · exfalso
    rw [toksC_end (show comL (u ++ 59 :: [120, 59]) = [] by rw [hv]; rfl), toksC_end (show comL (u ++ [59]) = [] by rw [hv]; rfl)] at h2
    simp at h2
end Go.CssKit

