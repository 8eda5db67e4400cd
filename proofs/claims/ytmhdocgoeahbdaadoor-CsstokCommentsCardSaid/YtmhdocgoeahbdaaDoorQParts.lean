/-
  The characters of texts put together at a byte of ASCII; a comment is passed over. No conditions.
-/
import Derived.Test.YtmhdocgoeahbdaaDoorQSplit
import Derived.Test.YtmhdocgoeahbdaaDoorUMath3
namespace Go.CssKit
open Go Go.Lib Go.UtfKit

theorem sec_not {a b : Nat} (h : b < 128) : sec a b = false := by
  cases hs : sec a b with
  | false => rfl
  | true => have := sec_tail hs; omega
theorem tail_not {b : Nat} (h : b < 128) : tailB b = false := by simp [tailB]; omega
theorem cutN_one (m b0 b1 b2 b3 c1 c2 c3 : Nat) (h : b1 < 128) : cutN m b0 b1 b2 b3 = cutN 1 b0 c1 c2 c3 := by
  simp [cutN, sec_not h]
theorem cutN_two (m b0 b1 b2 b3 c2 c3 : Nat) (hm : 2 ≤ m) (h : b2 < 128) : cutN m b0 b1 b2 b3 = cutN 2 b0 b1 c2 c3 := by
  simp [cutN, tail_not h, show 1 < m by omega]
theorem cutN_three (m b0 b1 b2 b3 c3 : Nat) (hm : 3 ≤ m) (h : b3 < 128) : cutN m b0 b1 b2 b3 = cutN 3 b0 b1 b2 c3 := by
  simp [cutN, tail_not h, show 1 < m by omega, show 2 < m by omega]
theorem cutN_four (m n b0 b1 b2 b3 : Nat) (hm : 4 ≤ m) (hn : 4 ≤ n) : cutN m b0 b1 b2 b3 = cutN n b0 b1 b2 b3 := by
  simp [cutN, show 1 < m by omega, show 2 < m by omega, show 3 < m by omega, show 1 < n by omega, show 2 < n by omega, show 3 < n by omega]
/-- What stands ahead of a byte of ASCII is cut as if nothing were behind. -/
theorem cutAt_front (a b : ByteArray) (hb : 0 < b.size) (h0 : byteAt b 0 < 128) (i : Nat) (hi : i < a.size) : cutAt (a ++ b) i = cutAt a i := by
  have hsz : (a ++ b).size = a.size + b.size := by simp
  unfold cutAt
  rw [byteAt_left a b i hi]
  have hat : ∀ k, i + k = a.size → byteAt (a ++ b) (i + k) < 128 := fun k hk => by
    rw [hk]
    have := byteAt_right a b 0
    rw [Nat.add_zero] at this
    rw [this]; exact h0
  by_cases h1 : i + 1 = a.size
  · rw [show a.size - i = 1 by omega]
    exact cutN_one _ _ _ _ _ _ _ _ (hat 1 h1)
  · rw [byteAt_left a b (i + 1) (by omega)]
    by_cases h2 : i + 2 = a.size
    · rw [show a.size - i = 2 by omega]
      exact cutN_two _ _ _ _ _ _ _ (by omega) (hat 2 h2)
    · rw [byteAt_left a b (i + 2) (by omega)]
      by_cases h3 : i + 3 = a.size
      · rw [show a.size - i = 3 by omega]
        exact cutN_three _ _ _ _ _ _ (by omega) (hat 3 h3)
      · rw [byteAt_left a b (i + 3) (by omega)]
        exact cutN_four _ _ _ _ _ _ (by omega) (by omega)
theorem parts_front2 (a b : ByteArray) (hb : 0 < b.size) (h0 : byteAt b 0 < 128) : ∀ (f i : Nat), a.size - i ≤ f → i ≤ a.size → partsFrom (a ++ b) i = partsFrom a i ++ parts b
  | 0, i, hf, hi => by
    obtain rfl : i = a.size := by omega
    rw [parts_right, partsFrom_end a _ (Nat.le_refl _)]; rfl
  | f + 1, i, hf, hi => by
    by_cases hlt : i < a.size
    · have hl := cutAt_len a i hlt
      rw [partsFrom_step a i hlt, partsFrom_step (a ++ b) i (by simp; omega), cutAt_front a b hb h0 i hlt, parts_front2 a b hb h0 f _ (by omega) hl.2]
      rfl
    · obtain rfl : i = a.size := by omega
      rw [parts_right, partsFrom_end a _ (Nat.le_refl _)]; rfl
theorem codes_front (a b : ByteArray) (hb : 0 < b.size) (h0 : byteAt b 0 < 128) : codes (a ++ b) = codes a ++ codes b := by
  unfold codes parts
  rw [parts_front2 a b hb h0 a.size 0 (by omega) (Nat.zero_le _), List.map_append]
  rfl
theorem codes_ascii (a b : ByteArray) (h : ∀ p ∈ parts a, p.ok = true) : codes (a ++ b) = codes a ++ codes b := by
  unfold codes
  rw [parts_append a b h, List.map_append]
theorem charsL_cons (b : Bool) (r : Int) (t : Chars) : charsL b (r :: t) = if b = true ∧ r = 10 then charsL false t else if r = 13 then 10 :: charsL true t else if r = 12 then 10 :: charsL false t else if r = 0 then 65533 :: charsL false t else r :: charsL false t := by
  cases b <;> rfl
theorem charsL_plain : ∀ (b : Bool) (x y : Chars) (c : Int), c ≠ 10 → c ≠ 13 → c ≠ 12 → c ≠ 0 → charsL b (x ++ c :: y) = charsL b x ++ c :: charsL false y
  | b, [], y, c, h1, h2, h3, h4 => by
    show (if b = true ∧ c = 10 then _ else if c = 13 then _ else if c = 12 then _ else if c = 0 then _ else c :: charsL false y) = _
    rw [if_neg (fun e => h1 e.2), if_neg h2, if_neg h3, if_neg h4]
    cases b <;> rfl
  | b, r :: x, y, c, h1, h2, h3, h4 => by
    have i1 := charsL_plain false x y c h1 h2 h3 h4
    have i2 := charsL_plain true x y c h1 h2 h3 h4
    rw [List.cons_append, charsL_cons, charsL_cons, i1, i2]
    by_cases c1 : b = true ∧ r = 10
    · rw [if_pos c1, if_pos c1]
    rw [if_neg c1, if_neg c1]
    by_cases c2 : r = 13
    · rw [if_pos c2, if_pos c2]; rfl
    rw [if_neg c2, if_neg c2]
    by_cases c3 : r = 12
    · rw [if_pos c3, if_pos c3]; rfl
    rw [if_neg c3, if_neg c3]
    by_cases c4 : r = 0
    · rw [if_pos c4, if_pos c4]; rfl
    rw [if_neg c4, if_neg c4]; rfl
theorem charsL_nil (b : Bool) : charsL b [] = [] := by cases b <;> rfl

/-- The characters of a text, a ; and another text. -/
theorem charsOf_semi (a r : ByteArray) : charsOf (a ++ (⟨#[59]⟩ ++ r)) = charsOf a ++ 59 :: charsOf r := by
  have hb : 0 < ((⟨#[59]⟩ : ByteArray) ++ r).size := by rw [ByteArray.size_append]; exact Nat.lt_of_lt_of_le (by decide) (Nat.le_add_right _ _)
  have h0 : byteAt ((⟨#[59]⟩ : ByteArray) ++ r) 0 = 59 := byteAt_left ⟨#[59]⟩ r 0 (by decide)
  unfold charsOf
  rw [codes_front a _ hb (by omega), codes_ascii ⟨#[59]⟩ r (by decide), show codes ⟨#[59]⟩ = [59] by decide]
  exact charsL_plain false (codes a) (codes r) 59 (by decide) (by decide) (by decide) (by decide)

theorem cut_ascii {n b0 b1 b2 b3 : Nat} (h : (cutN n b0 b1 b2 b3).char < 128) : cutN n b0 b1 b2 b3 = ⟨b0, 1, true⟩ := by
  by_cases c1 : b0 < 128
  · simp [cutN, c1]
  · exfalso
    unfold cutN at h
    rw [if_neg c1] at h
    split at h
    · simp at h
    · split at h
      · split at h
        · simp only at h; omega
        · simp at h
      · split at h
        · split at h
          · rename_i h2
            have hs := sec_tail h2.2
            have hz : b0 = 224 → 160 ≤ b1 := fun e => by
              have := h2.2
              unfold sec at this
              rw [if_pos e] at this
              simp at this; omega
            split at h
            · simp only at h; omega
            · simp at h
          · simp at h
        · split at h
          · split at h
            · rename_i h2
              have hs := sec_tail h2.2
              have hz : b0 = 240 → 144 ≤ b1 := fun e => by
                have := h2.2
                unfold sec at this
                rw [if_neg (by omega), if_neg (by omega), if_pos e] at this
                simp at this; omega
              split at h
              · split at h
                · simp only at h; omega
                · simp at h
              · simp at h
            · simp at h
          · simp at h
/-- No comment ends within, nor could one that is closed right behind end one place early. -/
def NoShut (s : ByteArray) : Prop := (∀ i, i + 1 < s.size → ¬ (byteAt s i = 42 ∧ byteAt s (i + 1) = 47)) ∧ (∀ i, i + 1 = s.size → byteAt s i ≠ 42)
def codesFrom (s : ByteArray) (i : Nat) : Chars := (partsFrom s i).map fun p => ((p.char : Nat) : Int)
theorem codesFrom_step (s : ByteArray) (i : Nat) (h : i < s.size) : codesFrom s i = ((cutAt s i).char : Int) :: codesFrom s (i + (cutAt s i).len) := by
  unfold codesFrom; rw [partsFrom_step s i h]; rfl
theorem codesFrom_end (s : ByteArray) (i : Nat) (h : s.size ≤ i) : codesFrom s i = [] := by
  unfold codesFrom; rw [partsFrom_end s i h]; rfl
theorem inC_pass {d : Int} (hd : d ≠ 42) (l : Chars) : inC (d :: l) = inC l := by
  show (if d = 42 ∧ _ then _ else inC l) = inC l
  rw [if_neg (fun e => hd e.1)]
theorem inC_star {l : Chars} (hl : at_ l 0 ≠ 47) : inC (42 :: l) = inC l := by
  show (if (42 : Int) = 42 ∧ at_ l 0 = 47 then _ else inC l) = inC l
  rw [if_neg (fun e => hl e.2)]
theorem inC_comment (s : ByteArray) (hs : NoShut s) (tl : Chars) : ∀ (f i : Nat) (b : Bool), s.size - i ≤ f → inC (charsL b (codesFrom s i) ++ 42 :: 47 :: tl) = tl
  | f, i, b, hf => by
    by_cases hi : i < s.size
    · have hc := cutAt_len s i hi
      match f, hf with
      | 0, hf => omega
      | f + 1, hf =>
        have ih := fun b => inC_comment s hs tl f (i + (cutAt s i).len) b (by omega)
        rw [codesFrom_step s i hi]
        obtain ⟨c, hce⟩ : ∃ c : Int, ((cutAt s i).char : Int) = c := ⟨_, rfl⟩
        rw [hce]
        unfold charsL
        by_cases c1 : b = true ∧ c = 10
        · rw [if_pos c1]; exact ih false
        · rw [if_neg c1]
          by_cases c2 : c = 13
          · rw [if_pos c2, List.cons_append, inC_pass (by decide)]; exact ih true
          · rw [if_neg c2]
            by_cases c3 : c = 12
            · rw [if_pos c3, List.cons_append, inC_pass (by decide)]; exact ih false
            · rw [if_neg c3]
              by_cases c4 : c = 0
              · rw [if_pos c4, List.cons_append, inC_pass (by decide)]; exact ih false
              · rw [if_neg c4, List.cons_append]
                by_cases c5 : c = 42
                · subst c5
                  have e1 : (cutAt s i).char = 42 := by omega
                  have e2 : cutAt s i = ⟨byteAt s i, 1, true⟩ := cut_ascii (by unfold cutAt at e1; rw [e1]; decide)
                  rw [e2] at e1
                  have e1 : byteAt s i = 42 := e1
                  rw [inC_star]
                  · exact ih false
                  · rw [e2]
                    show at_ (charsL false (codesFrom s (i + 1)) ++ 42 :: 47 :: tl) 0 ≠ 47
                    by_cases h2 : i + 1 < s.size
                    · rw [codesFrom_step s (i + 1) h2]
                      obtain ⟨d, hde⟩ : ∃ d : Int, ((cutAt s (i + 1)).char : Int) = d := ⟨_, rfl⟩
                      rw [hde]
                      have hd : d ≠ 47 := fun e => by
                        have e3 : (cutAt s (i + 1)).char = 47 := by omega
                        have e4 : cutAt s (i + 1) = ⟨byteAt s (i + 1), 1, true⟩ := cut_ascii (by unfold cutAt at e3; rw [e3]; decide)
                        rw [e4] at e3
                        exact hs.1 i h2 ⟨e1, e3⟩
                      unfold charsL
                      rw [if_neg (fun e => absurd e.1 (by decide))]
                      repeat' split
                      all_goals rw [List.cons_append, at_cons]
                      all_goals first | decide | exact hd
                    · exact absurd e1 (hs.2 i (by omega))
                · rw [inC_pass c5]; exact ih false
    · rw [codesFrom_end s i (by omega), charsL_nil, List.nil_append]
      show (if (42 : Int) = 42 ∧ at_ (47 :: tl) 0 = 47 then (47 :: tl).drop 1 else _) = tl
      rw [if_pos ⟨rfl, at_cons _ _⟩]
      rfl
/-- A comment is passed over. -/
theorem toks_comment (s b : ByteArray) (hs : NoShut s) : toksC (charsOf (⟨#[47, 42]⟩ ++ (s ++ (⟨#[42, 47]⟩ ++ b)))) = toksC (charsOf b) := by
  have hb : 0 < ((⟨#[42, 47]⟩ : ByteArray) ++ b).size := by rw [ByteArray.size_append]; exact Nat.lt_of_lt_of_le (by decide) (Nat.le_add_right _ _)
  have h0 : byteAt ((⟨#[42, 47]⟩ : ByteArray) ++ b) 0 = 42 := byteAt_left ⟨#[42, 47]⟩ b 0 (by decide)
  have e : charsOf (⟨#[47, 42]⟩ ++ (s ++ (⟨#[42, 47]⟩ ++ b))) = 47 :: 42 :: (charsL false (codes s) ++ 42 :: 47 :: charsOf b) := by
    unfold charsOf
    rw [codes_ascii ⟨#[47, 42]⟩ _ (by decide), codes_front s _ hb (by omega), codes_ascii ⟨#[42, 47]⟩ b (by decide), show codes ⟨#[47, 42]⟩ = [47, 42] by decide, show codes ⟨#[42, 47]⟩ = [42, 47] by decide]
    have h1 := charsL_plain false (codes s) (47 :: codes b) 42 (by decide) (by decide) (by decide) (by decide)
    have h2 := charsL_plain false [] (codes b) 47 (by decide) (by decide) (by decide) (by decide)
    have h3 := charsL_plain false [] (42 :: (codes s ++ 42 :: 47 :: codes b)) 47 (by decide) (by decide) (by decide) (by decide)
    have h4 := charsL_plain false [] (codes s ++ 42 :: 47 :: codes b) 42 (by decide) (by decide) (by decide) (by decide)
    simp only [List.nil_append, charsL_nil] at h2 h3 h4
    show charsL false (47 :: 42 :: (codes s ++ 42 :: 47 :: codes b)) = _
    rw [h3, h4, h1, h2]
  apply toksC_same
  rw [e, comL_step, if_pos ⟨by rw [at_cons], rfl⟩]
  show comL (inC (charsL false (codes s) ++ 42 :: 47 :: charsOf b)) = _
  rw [show codes s = codesFrom s 0 from rfl, inC_comment s hs (charsOf b) s.size 0 false (by omega)]
/-- The whole of the law, over texts. -/
theorem comments_all (a b s : ByteArray) (hs : NoShut s)
    (h2 : (toksC (charsOf (a ++ (⟨#[59]⟩ ++ ⟨#[120, 59]⟩)))).length = (toksC (charsOf (a ++ ⟨#[59]⟩))).length + 2)
    (hl : ∀ t, (toksC (charsOf (a ++ ⟨#[59]⟩))).getLast? = some t → t.kind = 11) :
    toksC (charsOf (a ++ (⟨#[59]⟩ ++ (⟨#[47, 42]⟩ ++ (s ++ (⟨#[42, 47]⟩ ++ b)))))) = toksC (charsOf (a ++ ⟨#[59]⟩)) ++ toksC (charsOf b) := by
  have e0 : charsOf (a ++ ⟨#[59]⟩) = charsOf a ++ [59] := by
    have := charsOf_semi a ⟨#[]⟩
    rw [show charsOf ⟨#[]⟩ = [] by decide, show (⟨#[59]⟩ : ByteArray) ++ ⟨#[]⟩ = ⟨#[59]⟩ from rfl] at this
    exact this
  rw [charsOf_semi, show charsOf ⟨#[120, 59]⟩ = [120, 59] by decide, e0] at h2
  rw [e0] at hl
  rw [charsOf_semi, e0, toks_app _ _ (Nat.le_refl _) h2 hl, toks_comment s b hs]
end Go.CssKit

