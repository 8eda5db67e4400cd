/-
  What is escaped, decoded; names with their sign; two texts with a blank between. No conditions.
-/
import Derived.Test.YtcafejjejcchlaaCNameM
import Derived.Test.YtcafejjejcchlaaCTab
namespace Go.CharrefKit
open Go Go.Lib

theorem nats_append (a b : List UInt8) : nats (a ++ b) = nats a ++ nats b := by simp [nats]
theorem nats_cons (a : UInt8) (b : List UInt8) : nats (a :: b) = a.toNat :: nats b := rfl
theorem nats_drop (a : List UInt8) (n : Nat) : nats (a.drop n) = (nats a).drop n := by simp [nats, List.map_drop]
theorem nats_length (a : List UInt8) : (nats a).length = a.length := by simp [nats]

/-- A name with its sign. -/
theorem named_ref {attr : Bool} {e : Entry} (he : e ∈ tab) (t : List Nat) : findL attr (38 :: (e.1 ++ 59 :: t)) = ⟨e.2.1, e.1.length + 2, true⟩ := by
  have hf := tab_fact he
  have hne : ∀ u, e.1 ++ 59 :: t ≠ 35 :: u := by
    intro u h
    cases hl : e.1 with
    | nil => rw [hl] at hf; simp at hf
    | cons c v =>
      rw [hl] at h hf
      simp only [List.cons_append, List.cons.injEq] at h
      have := hf.1 c (List.mem_cons_self ..)
      rw [h.1] at this
      cases this
  rw [findL_name hne]
  have hpre : e.1.isPrefixOf (e.1 ++ 59 :: t) = true := List.isPrefixOf_iff_prefix.2 ⟨_, rfl⟩
  have h59 : (e.1 ++ 59 :: t)[e.1.length]? = some 59 := by rw [List.getElem?_append_right (Nat.le_refl _), Nat.sub_self]; rfl
  have hh : hit (e.1 ++ 59 :: t) e = e.1.length + 1 := by unfold hit; rw [if_pos hpre, if_pos h59]
  have hb := best_is (r := e.1 ++ 59 :: t) he (by omega) (fun e' he' => by
    by_cases hp : 0 < hit (e.1 ++ 59 :: t) e'
    · obtain ⟨q1, q2⟩ := hit_pos hp
      have hle : e'.1.length ≤ e.1.length := by
        rcases Nat.lt_or_ge e.1.length e'.1.length with h | h
        · exfalso
          have h1 := prefix_at q1 h
          rw [h59, List.getElem?_eq_getElem h] at h1
          exact isLet_not ((tab_fact he').1 _ (List.getElem_mem h)) (Option.some.inj h1).symm
        · exact h
      rcases q2 with ⟨_, q⟩ | ⟨_, _, q⟩ <;> omega
    · omega)
  unfold nameL
  rw [hb, hh]
  simp only [Nat.add_sub_cancel]
  rw [if_neg (show ¬ e.1.length + 1 = 0 by omega), if_neg (by rintro ⟨_, q, _⟩; exact q h59)]

/-! What is escaped. -/
def esc (l : List UInt8) : List UInt8 := l.flatMap fun b => if b = 38 then [38, 97, 109, 112, 59] else [b]
def plain (l : List UInt8) : List UInt8 := l.filter fun b => decide (b ≠ 38)
theorem amp_in : (([97, 109, 112], 38, true) : Entry) ∈ tab := of_decide_eq_true (by kernel_rfl)
theorem enc_amp : encodeRune 38 = [38] := by decide
theorem decode_amp (attr : Bool) (t : List UInt8) : decodeL attr ([38, 97, 109, 112, 59] ++ t) = 38 :: decodeL attr t := by
  have h : findL attr (nats ([38, 97, 109, 112, 59] ++ t)) = ⟨38, 5, true⟩ := named_ref (attr := attr) amp_in (nats t)
  rw [decodeL_ref (by rw [h]), h]
  show encodeRune 38 ++ _ = _
  rw [enc_amp]
  rfl
theorem decode_esc (attr : Bool) : ∀ l : List UInt8, decodeL attr (esc l) = l
  | [] => rfl
  | b :: r => by
    have e : esc (b :: r) = (if b = 38 then [38, 97, 109, 112, 59] else [b]) ++ esc r := by simp [esc]
    rw [e]
    by_cases h : b = 38
    · subst h
      rw [if_pos rfl, decode_amp, decode_esc attr r]
    · rw [if_neg h, decodeL_ahead [b] _ (fun c hc => by
        simp at hc; subst hc
        exact fun e => h (UInt8.toNat_inj.1 e)), decode_esc attr r]
      rfl
theorem decode_plain (attr : Bool) (l : List UInt8) : decodeL attr (plain l) = plain l := by
  have := decodeL_ahead (attr := attr) (plain l) [] (fun c hc => by
    have h2 := (List.mem_filter.1 hc).2
    have h3 : c ≠ 38 := of_decide_eq_true h2
    exact fun e => h3 (UInt8.toNat_inj.1 e))
  rw [List.append_nil, decodeL_nil, List.append_nil] at this
  exact this
/-- A name with its sign, behind a text. -/
theorem decode_named {attr : Bool} {e : Entry} (he : e ∈ tab) (a b : List UInt8) (ha : ∀ c ∈ a, c.toNat ≠ 38) : decodeL attr (a ++ 38 :: (bytesOf e.1 ++ 59 :: b)) = a ++ (encodeRune ((e.2.1 : Nat) : Int) ++ decodeL attr b) := by
  rw [decodeL_ahead a _ ha]
  congr 1
  have hn := nats_bytesOf (tabC_small (mem_tabC.2 he))
  have h : findL attr (nats (38 :: (bytesOf e.1 ++ 59 :: b))) = ⟨e.2.1, e.1.length + 2, true⟩ := by
    rw [nats_cons, nats_append, hn, nats_cons]
    exact named_ref he (nats b)
  rw [decodeL_ref (by rw [h]), h]
  congr 2
  have hl : (bytesOf e.1).length = e.1.length := by simp [bytesOf]
  rw [show e.1.length + 2 = (e.1.length + 1) + 1 from rfl, List.drop_succ_cons, ← hl]
  rw [List.drop_append]
  simp

/-! A blank between. -/
theorem takeWhile_stop {p : Nat → Bool} {b : Nat} (hb : p b = false) : ∀ (l t : List Nat), (l ++ b :: t).takeWhile p = l.takeWhile p
  | [], t => by simp [List.takeWhile, hb]
  | x :: l, t => by
    rw [List.cons_append, List.takeWhile_cons, List.takeWhile_cons, takeWhile_stop hb l t]
theorem at_blank {l t : List Nat} {n : Nat} (hn : n ≤ l.length) : ((l ++ 32 :: t)[n]? = some 59 ↔ l[n]? = some 59) := by
  rcases Nat.lt_or_ge n l.length with h | h
  · rw [List.getElem?_append_left h]
  · obtain rfl : n = l.length := by omega
    rw [List.getElem?_append_right (Nat.le_refl _), Nat.sub_self, List.getElem?_eq_none (Nat.le_refl _)]
    simp
theorem hex_other {q : Nat} {l : List Nat} (h1 : q ≠ 120) (h2 : q ≠ 88) : isHex (q :: l) = false := by
  unfold isHex
  split
  · rename_i e; simp only [List.cons.injEq] at e; exact absurd e.1 h1
  · rename_i e; simp only [List.cons.injEq] at e; exact absurd e.1 h2
  · rfl
theorem number_blank (l t : List Nat) : numberL (l ++ 32 :: t) = numberL l := by
  have hx : isHex (l ++ 32 :: t) = isHex l := by
    cases l with
    | nil => rfl
    | cons q v =>
      show isHex (q :: (v ++ 32 :: t)) = isHex (q :: v)
      by_cases h1 : q = 120
      · subst h1; rfl
      · by_cases h2 : q = 88
        · subst h2; rfl
        · rw [hex_other h1 h2, hex_other h1 h2]
  have hb : baseOf (l ++ 32 :: t) = baseOf l := by unfold baseOf; rw [hx]
  have hh : headOf (l ++ 32 :: t) = headOf l := by unfold headOf; rw [hx]
  have hle : headOf l ≤ l.length := by
    unfold headOf
    split
    · rename_i h
      cases l with
      | nil => cases h
      | cons q v => simp
    · omega
  have hd : (l ++ 32 :: t).drop (headOf l) = l.drop (headOf l) ++ 32 :: t := by rw [List.drop_append_of_le_length hle]
  have hp : isDig (baseOf l) 32 = false := by
    unfold isDig baseOf
    split <;> decide
  unfold numberL
  rw [hb, hh, hd]
  unfold digs
  rw [takeWhile_stop hp]
  have hlen : headOf l + ((l.drop (headOf l)).takeWhile (isDig (baseOf l))).length ≤ l.length := by
    have := (List.takeWhile_sublist (isDig (baseOf l)) (l := l.drop (headOf l))).length_le
    rw [List.length_drop] at this
    omega
  simp only [at_blank hlen]
theorem prefix_blank {a : List Nat} (ha : ∀ b ∈ a, isLet b = true) : ∀ (l t : List Nat), a.isPrefixOf (l ++ 32 :: t) = a.isPrefixOf l := by
  induction a with
  | nil => intro l t; simp
  | cons x r ih =>
    intro l t
    cases l with
    | nil =>
      have h := ha x (List.mem_cons_self ..)
      have hx : (x == 32) = false := by
        rw [beq_eq_false_iff_ne]
        rintro rfl
        cases h
      show ((x == 32) && r.isPrefixOf t) = false
      rw [hx]; rfl
    | cons q v =>
      show ((x == q) && r.isPrefixOf (v ++ 32 :: t)) = ((x == q) && r.isPrefixOf v)
      rw [ih (fun b hb => ha b (List.mem_cons_of_mem _ hb))]
theorem hit_blank {e : Entry} (he : e ∈ tab) (l t : List Nat) : hit (l ++ 32 :: t) e = hit l e := by
  unfold hit
  rw [prefix_blank (tab_fact he).1]
  by_cases hp : e.1.isPrefixOf l = true
  · have hle := (List.isPrefixOf_iff_prefix.1 hp).length_le
    rw [if_pos hp, if_pos hp]
    simp only [at_blank hle]
  · rw [if_neg hp, if_neg hp]
theorem best_blank (l t : List Nat) : ∀ (es : List Entry) (b : Nat × Nat), (∀ e ∈ es, e ∈ tab) → best (l ++ 32 :: t) es b = best l es b
  | [], _, _ => rfl
  | e :: es, b, h => by
    show best (l ++ 32 :: t) es (if b.1 < hit (l ++ 32 :: t) e then (hit (l ++ 32 :: t) e, e.2.1) else b) = best l es (if b.1 < hit l e then (hit l e, e.2.1) else b)
    rw [hit_blank (h e (List.mem_cons_self ..)), best_blank l t es _ (fun x hx => h x (List.mem_cons_of_mem _ hx))]
theorem goesOn_blank {l t : List Nat} {n : Nat} (hn : n ≤ l.length) : goesOn (l ++ 32 :: t)[n]? = goesOn l[n]? := by
  rcases Nat.lt_or_ge n l.length with h | h
  · rw [List.getElem?_append_left h]
  · obtain rfl : n = l.length := by omega
    rw [List.getElem?_append_right (Nat.le_refl _), Nat.sub_self, List.getElem?_eq_none (Nat.le_refl _)]
    rfl
theorem name_blank (attr : Bool) (l t : List Nat) : nameL attr (l ++ 32 :: t) = nameL attr l := by
  have hb := best_blank l t tab (0, 0) (fun _ h => h)
  have hl := best_len l tab (0, 0) (Nat.zero_le _)
  unfold nameL
  rw [hb]
  simp only [goesOn_blank hl, at_blank (show (best l tab (0, 0)).1 - 1 ≤ l.length by omega), ne_eq]
theorem find_blank (attr : Bool) (l t : List Nat) (hl : l ≠ []) : findL attr (l ++ 32 :: t) = findL attr l := by
  rcases find_cases attr l with ⟨r, rfl⟩ | ⟨r, rfl, hr⟩ | ⟨hn, h0⟩
  · show findL attr (38 :: 35 :: (r ++ 32 :: t)) = _
    rw [findL_num, findL_num, number_blank]
  · show findL attr (38 :: (r ++ 32 :: t)) = _
    rw [findL_name hr, findL_name (fun u hu => by
      cases r with
      | nil => cases hu
      | cons q v =>
        simp only [List.cons_append, List.cons.injEq] at hu
        exact hr v (by rw [hu.1])), name_blank]
  · rw [h0]
    cases l with
    | nil => exact absurd rfl hl
    | cons b v => exact findL_not (fun e => hn v (by rw [e]))
theorem decode_blank (attr : Bool) : ∀ (n : Nat) (a b : List UInt8), a.length ≤ n → decodeL attr (a ++ 32 :: b) = decodeL attr a ++ 32 :: decodeL attr b
  | n, [], b, _ => by
    show decodeL attr (32 :: b) = 32 :: decodeL attr b
    exact decodeL_plain (by
      show (findL attr (32 :: nats b)).ok = false
      rw [findL_not (by decide)]; rfl)
  | 0, c :: r, b, h => by simp at h
  | n + 1, c :: r, b, h => by
    have hf : findL attr (nats ((c :: r) ++ 32 :: b)) = findL attr (nats (c :: r)) := by
      rw [nats_append, nats_cons]
      exact find_blank attr (nats (c :: r)) (nats b) (by simp [nats])
    cases hok : (findL attr (nats (c :: r))).ok with
    | true =>
      have hl := findL_len hok
      rw [nats_length] at hl
      rw [decodeL_ref (by rw [hf]; exact hok), decodeL_ref hok, hf, List.append_assoc]
      congr 1
      rw [List.drop_append_of_le_length hl.2]
      refine decode_blank attr n _ b ?_
      rw [List.length_drop]
      simp only [List.length_cons] at h ⊢
      omega
    | false =>
      rw [List.cons_append, decodeL_plain (by rw [← List.cons_append, hf]; exact hok), decodeL_plain hok, decode_blank attr n r b (by simpa using h)]
      rfl
end Go.CharrefKit
