/-
  Numbers written out. No conditions.
-/
import Derived.Test.YtcafejjejcchlaaCPieces
import Derived.Test.YtcafejjejcchlaaCNum2
namespace Go.CharrefKit
open Go Go.Lib

theorem valueOf_append (base : Nat) (a : List Nat) : ∀ (b : List Nat), valueOf base (a ++ b) = valueOf base a * base ^ b.length + valueOf base b := by
  have key : ∀ (b : List Nat) (v : Nat), b.foldl (fun v d => v * base + digitV d) v = v * base ^ b.length + b.foldl (fun v d => v * base + digitV d) 0 := by
    intro b
    induction b with
    | nil => intro v; simp
    | cons c r ih =>
      intro v
      simp only [List.foldl_cons, List.length_cons]
      rw [ih (v * base + digitV c), ih (0 * base + digitV c)]
      simp only [Nat.zero_mul, Nat.zero_add]
      rw [Nat.add_mul, Nat.pow_succ, Nat.mul_assoc, Nat.mul_comm base (base ^ r.length)]
      omega
  intro b
  unfold valueOf
  rw [List.foldl_append, key]
theorem valueOf_cons (base d : Nat) (b : List Nat) : valueOf base (d :: b) = digitV d * base ^ b.length + valueOf base b := by
  have := valueOf_append base [d] b
  simpa [valueOf] using this

/-- A number's text. -/
structure Digits (base n : Nat) (l : List Nat) : Prop where
  all : ∀ b ∈ l, digitV b < base
  some : l ≠ []
  value : valueOf base l = n

theorem takeWhile_all {p : Nat → Bool} : ∀ {l t : List Nat}, (∀ b ∈ l, p b = true) → (∀ b, t[0]? = Option.some b → p b = false) → (l ++ t).takeWhile p = l
  | [], [], _, _ => rfl
  | [], c :: t, _, h => by
    have := h c rfl
    simp [this]
  | x :: l, t, h, ht => by
    rw [List.cons_append, List.takeWhile_cons, if_pos (h x (List.mem_cons_self ..)), takeWhile_all (fun b hb => h b (List.mem_cons_of_mem _ hb)) ht]
theorem digit_not_x {b base : Nat} (hb : base ≤ 16) (h : digitV b < base) : b ≠ 120 ∧ b ≠ 88 ∧ b ≠ 59 := by
  refine ⟨?_, ?_, ?_⟩ <;> (rintro rfl; have := (show digitV 120 = 16 from rfl); have := (show digitV 88 = 16 from rfl); have := (show digitV 59 = 16 from rfl); omega)
theorem dec_number {n : Nat} {l t : List Nat} (h : Digits 10 n l) (ht : ∀ b, t[0]? = Option.some b → ¬ digitV b < 10) : numberL (l ++ t) = ⟨charOf n, l.length + (if t[0]? = Option.some 59 then 1 else 0), true⟩ := by
  obtain ⟨q, v, rfl⟩ : ∃ q v, l = q :: v := by
    cases l with
    | nil => exact absurd rfl h.some
    | cons q v => exact ⟨q, v, rfl⟩
  have hq := digit_not_x (by omega) (h.all q (List.mem_cons_self ..))
  have hx : isHex (q :: v ++ t) = false := hex_other hq.1 hq.2.1
  have hb : baseOf (q :: v ++ t) = 10 := by unfold baseOf; rw [hx]; rfl
  have hh : headOf (q :: v ++ t) = 0 := by unfold headOf; rw [hx]; rfl
  have hd : digs 10 (q :: v ++ t) = q :: v := takeWhile_all (fun b hb => by simpa [isDig] using h.all b hb) (fun b hb => by simpa [isDig] using ht b hb)
  unfold numberL
  simp only [hb, hh, List.drop_zero, hd, Nat.zero_add, h.value]
  rw [if_neg h.some, List.getElem?_append_right (Nat.le_refl _), Nat.sub_self]
theorem hex_number {n : Nat} {l t : List Nat} (h : Digits 16 n l) (ht : ∀ b, t[0]? = Option.some b → ¬ digitV b < 16) : numberL (120 :: (l ++ t)) = ⟨charOf n, 1 + l.length + (if t[0]? = Option.some 59 then 1 else 0), true⟩ := by
  have hb : baseOf (120 :: (l ++ t)) = 16 := rfl
  have hh : headOf (120 :: (l ++ t)) = 1 := rfl
  have hd : digs 16 ((120 :: (l ++ t)).drop 1) = l := takeWhile_all (fun b hb => by simpa [isDig] using h.all b hb) (fun b hb => by simpa [isDig] using ht b hb)
  unfold numberL
  simp only [hb, hh, hd, h.value]
  rw [if_neg h.some, show 1 + l.length = l.length + 1 from Nat.add_comm _ _, List.getElem?_cons_succ, List.getElem?_append_right (Nat.le_refl _), Nat.sub_self]

theorem encode_charOf {v : Nat} (h0 : 0 < v) (h1 : ¬ (128 ≤ v ∧ v ≤ 159)) : encodeRune ((charOf v : Nat) : Int) = encodeRune (v : Int) := by
  unfold charOf
  rw [if_neg h1]
  by_cases hb : v = 0 ∨ 1114111 < v ∨ (55296 ≤ v ∧ v ≤ 57343)
  · rw [if_pos hb]
    unfold encodeRune
    rw [encodeRuneZ_bad (r := (v : Int)) (by omega)]
    decide
  · rw [if_neg hb]

theorem drop_more (a b : List UInt8) (n : Nat) (h : a.length = n) : (a ++ b).drop n = b := by rw [← h]; simp
/-- A number to the base 10, read. -/
theorem decode_dec {attr : Bool} {v : Nat} {l : List UInt8} (h : Digits 10 v (nats l)) (h0 : 0 < v) (h1 : ¬ (128 ≤ v ∧ v ≤ 159)) (c : UInt8) (t : List UInt8) (hc : ¬ digitV c.toNat < 10) :
    decodeL attr ([38, 35] ++ l ++ c :: t) = encodeRune (v : Int) ++ (if c.toNat = 59 then decodeL attr t else decodeL attr (c :: t)) := by
  have hf : findL attr (nats ([38, 35] ++ l ++ c :: t)) = ⟨charOf v, l.length + (if c.toNat = 59 then 1 else 0) + 2, true⟩ := by
    have e : nats ([38, 35] ++ l ++ c :: t) = 38 :: 35 :: (nats l ++ nats (c :: t)) := by rw [nats_append, nats_append]; rfl
    rw [e, findL_num, dec_number h (fun b hb => by
      have : c.toNat = b := Option.some.inj hb
      rw [← this]; exact hc)]
    have e2 : (nats (c :: t))[0]? = Option.some c.toNat := rfl
    rw [e2, nats_length]
    simp
  rw [decodeL_ref (by rw [hf]), hf]
  simp only
  rw [encode_charOf h0 h1]
  congr 1
  by_cases h59 : c.toNat = 59
  · rw [if_pos h59, if_pos h59]
    congr 1
    have : [38, 35] ++ l ++ c :: t = ([38, 35] ++ l ++ [c]) ++ t := by simp
    rw [this]
    exact drop_more _ _ _ (by simp)
  · rw [if_neg h59, if_neg h59]
    congr 1
    exact drop_more _ _ _ (by simp)
theorem decode_hex {attr : Bool} {v : Nat} {l : List UInt8} (h : Digits 16 v (nats l)) (h0 : 0 < v) (h1 : ¬ (128 ≤ v ∧ v ≤ 159)) (t : List UInt8) (hc : ∀ c, t[0]? = Option.some c → ¬ digitV c.toNat < 16) :
    decodeL attr ([38, 35, 120] ++ l ++ t) = encodeRune (v : Int) ++ (if t[0]? = Option.some 59 then decodeL attr (t.drop 1) else decodeL attr t) := by
  have e0 : (nats t)[0]? = t[0]?.map UInt8.toNat := by unfold nats; rw [List.getElem?_map]
  have e59 : ((nats t)[0]? = Option.some 59) ↔ (t[0]? = Option.some 59) := by
    rw [e0]
    cases t[0]? with
    | none => simp
    | some c =>
      simp only [Option.map_some, Option.some.injEq]
      exact ⟨fun e => UInt8.toNat_inj.1 e, fun e => by rw [e]; rfl⟩
  have hf : findL attr (nats ([38, 35, 120] ++ l ++ t)) = ⟨charOf v, 1 + l.length + (if t[0]? = Option.some 59 then 1 else 0) + 2, true⟩ := by
    have e : nats ([38, 35, 120] ++ l ++ t) = 38 :: 35 :: (120 :: (nats l ++ nats t)) := by rw [nats_append, nats_append]; rfl
    rw [e, findL_num, hex_number h (fun b hb => by
      rw [e0] at hb
      cases ht : t[0]? with
      | none => rw [ht] at hb; cases hb
      | some c =>
        rw [ht] at hb
        have : c.toNat = b := Option.some.inj hb
        rw [← this]; exact hc c ht), nats_length]
    simp only [e59]
    rfl
  rw [decodeL_ref (by rw [hf]), hf]
  simp only
  rw [encode_charOf h0 h1]
  congr 1
  by_cases h59 : t[0]? = Option.some 59
  · rw [if_pos h59, if_pos h59]
    congr 1
    cases t with
    | nil => cases h59
    | cons c u =>
      have : [38, 35, 120] ++ l ++ c :: u = ([38, 35, 120] ++ l ++ [c]) ++ u := by simp
      rw [this]
      exact drop_more _ _ _ (by simp; omega)
  · rw [if_neg h59, if_neg h59]
    congr 1
    exact drop_more _ _ _ (by simp; omega)
theorem plain_one (attr : Bool) (c : UInt8) (t : List UInt8) (h : c.toNat ≠ 38) : decodeL attr (c :: t) = c :: decodeL attr t := decodeL_ahead [c] t (fun b hb => by simp at hb; subst hb; exact h)
/-- The law's two texts. -/
theorem numbers1 {v : Nat} {a b : List UInt8} (ha : Digits 10 v (nats a)) (hb : Digits 16 v (nats b)) (h0 : 0 < v) (h1 : ¬ (128 ≤ v ∧ v ≤ 159)) :
    decodeL false ([38, 35] ++ a ++ [59] ++ ([38, 35, 120] ++ b) ++ [59]) = encodeRune (v : Int) ++ encodeRune (v : Int) := by
  have e : [38, 35] ++ a ++ [59] ++ ([38, 35, 120] ++ b) ++ [59] = [38, 35] ++ a ++ 59 :: ([38, 35, 120] ++ b ++ [59]) := by simp
  rw [e, decode_dec ha h0 h1 59 _ (by decide), if_pos (show (59 : UInt8).toNat = 59 from rfl), decode_hex hb h0 h1 [59] (fun c hc => by
    have : (59 : UInt8) = c := Option.some.inj hc
    subst this; decide), if_pos (show ([59] : List UInt8)[0]? = Option.some 59 from rfl)]
  rw [List.drop_succ_cons, List.drop_zero, decodeL_nil, List.append_nil]
theorem numbers2 {v : Nat} {a b : List UInt8} (ha : Digits 10 v (nats a)) (hb : Digits 16 v (nats b)) (h0 : 0 < v) (h1 : ¬ (128 ≤ v ∧ v ≤ 159)) :
    decodeL true ([38, 35] ++ a ++ [33] ++ ([38, 35, 120] ++ b) ++ [32] ++ ([38, 35, 120] ++ b)) = encodeRune (v : Int) ++ [33] ++ encodeRune (v : Int) ++ [32] ++ encodeRune (v : Int) := by
  have e : [38, 35] ++ a ++ [33] ++ ([38, 35, 120] ++ b) ++ [32] ++ ([38, 35, 120] ++ b) = [38, 35] ++ a ++ 33 :: ([38, 35, 120] ++ b ++ 32 :: ([38, 35, 120] ++ b ++ [])) := by simp
  rw [e, decode_dec ha h0 h1 33 _ (by decide), if_neg (by decide), plain_one true 33 _ (by decide), decode_hex hb h0 h1 _ (fun c hc => by
    have : (32 : UInt8) = c := Option.some.inj hc
    subst this; decide), if_neg (by simp), plain_one true 32 _ (by decide), decode_hex hb h0 h1 [] (fun c hc => by cases hc), if_neg (by simp), decodeL_nil]
  simp
end Go.CharrefKit
