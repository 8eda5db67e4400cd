/-
  Style sheets' tokens over lists of characters: the document's answer, by definition. No conditions.
-/
import Derived.Test.YtmhdocgoeahbdaaGreatDoorCMath
import Derived.Test.YtmhdocgoeahbdaaGreatDoorUMath
namespace Go.CssKit
open Go Go.Lib
abbrev Chars := List Int
/-- The bytes of characters. -/
def bytesC (l : Chars) : List UInt8 := l.flatMap encodeRune
structure CT where
  kind : Nat
  value : List UInt8
  unit : List UInt8
  id : Bool
  deriving DecidableEq
/-- The characters, line ends made one sign; ret: a carriage return stood ahead. -/
def charsL : Bool → Chars → Chars
  | _, [] => []
  | ret, r :: t =>
    if ret = true ∧ r = 10 then charsL false t
    else if r = 13 then 10 :: charsL true t
    else if r = 12 then 10 :: charsL false t
    else if r = 0 then 65533 :: charsL false t
    else r :: charsL false t
def at_ (l : Chars) (n : Nat) : Int := l.getD n (-1)
def isW (c : Int) : Bool := c == 9 || c == 10 || c == 32
def isDg (c : Int) : Bool := decide (48 ≤ c) && decide (c ≤ 57)
def begC (c : Int) : Bool := (decide (97 ≤ c) && decide (c ≤ 122)) || (decide (65 ≤ c) && decide (c ≤ 90)) || c == 95 || decide (128 ≤ c)
def nameC (c : Int) : Bool := begC c || isDg c || c == 45
def hexC (c : Int) : Int := if 48 ≤ c ∧ c ≤ 57 then c - 48 else if 97 ≤ c ∧ c ≤ 102 then c - 87 else if 65 ≤ c ∧ c ≤ 70 then c - 55 else -1
def escAt (l : Chars) (n : Nat) : Bool := at_ l n == 92 && !(at_ l (n + 1) == 10)
def nameAt (l : Chars) (n : Nat) : Bool := if at_ l n = 45 then at_ l (n + 1) == 45 || begC (at_ l (n + 1)) || escAt l (n + 1) else begC (at_ l n) || escAt l n
def signN (l : Chars) (n : Nat) : Nat := if at_ l n = 43 ∨ at_ l n = 45 then n + 1 else n
def dotN (l : Chars) (n : Nat) : Nat := if at_ l n = 46 then n + 1 else n
def numAt (l : Chars) : Bool := isDg (at_ l (dotN l (signN l 0)))
def digsN (l : Chars) (n : Nat) : Nat := n + ((l.drop n).takeWhile isDg).length
def fracN (l : Chars) (n : Nat) : Nat := if at_ l n = 46 ∧ isDg (at_ l (n + 1)) = true then digsN l (n + 1) else n
def expoN (l : Chars) (n : Nat) : Nat := if (at_ l n = 101 ∨ at_ l n = 69) ∧ isDg (at_ l (signN l (n + 1))) = true then digsN l (signN l (n + 1)) else n
def numN (l : Chars) : Nat := expoN l (fracN l (digsN l (signN l 0)))
/-- At most so many digits to the base 16. -/
def hexRun : Nat → Chars → Chars
  | 0, _ => []
  | _ + 1, [] => []
  | f + 1, c :: r => if 0 ≤ hexC c then c :: hexRun f r else []
def hexVal (ds : Chars) : Int := ds.foldl (fun n c => n * 16 + hexC c) 0
def cleanC (n : Int) : Int := if n = 0 ∨ (55296 ≤ n ∧ n ≤ 57343) ∨ 1114111 < n then 65533 else n
/-- What stands behind a \: its character, and what is behind. -/
def escL (l : Chars) : Int × Chars :=
  if hexRun 6 l = [] then (match l with
    | [] => (65533, [])
    | c :: r => (c, r))
  else (cleanC (hexVal (hexRun 6 l)), if isW (at_ l (hexRun 6 l).length) then l.drop ((hexRun 6 l).length + 1) else l.drop (hexRun 6 l).length)
def nameF : Nat → Chars → Chars × Chars
  | 0, l => ([], l)
  | f + 1, l =>
    if nameC (at_ l 0) = true then (at_ l 0 :: (nameF f (l.drop 1)).1, (nameF f (l.drop 1)).2)
    else if escAt l 0 = true then ((escL (l.drop 1)).1 :: (nameF f (escL (l.drop 1)).2).1, (nameF f (escL (l.drop 1)).2).2)
    else ([], l)
/-- A name, and what is behind. -/
def nameL (l : Chars) : Chars × Chars := nameF l.length l
def textF (q : Int) : Nat → Chars → Chars × Chars
  | 0, l => ([], l)
  | _ + 1, [] => ([], [])
  | f + 1, c :: r =>
    if c = q ∨ c = 10 then ([], c :: r)
    else if c ≠ 92 then (c :: (textF q f r).1, (textF q f r).2)
    else if r = [] then ([], [])
    else if at_ r 0 = 10 then textF q f (r.drop 1)
    else ((escL r).1 :: (textF q f (escL r).2).1, (textF q f (escL r).2).2)
/-- A text up to its quote, a line's end, or the end; and what is left. -/
def textL (q : Int) (l : Chars) : Chars × Chars := textF q l.length l
/-- What is behind a comment that is open. -/
def inC : Chars → Chars
  | [] => []
  | c :: r => if c = 42 ∧ at_ r 0 = 47 then r.drop 1 else inC r
def comF : Nat → Chars → Chars
  | 0, l => l
  | f + 1, l => if at_ l 0 = 47 ∧ at_ l 1 = 42 then comF f (inC (l.drop 2)) else l
/-- What is behind comments. -/
def comL (l : Chars) : Chars := comF l.length l
def signsC : Chars := [44, 58, 59, 40, 41, 91, 93, 123, 125]
def openAt (l : Chars) : Bool := at_ l 0 == 60 && at_ l 1 == 33 && at_ l 2 == 45 && at_ l 3 == 45
def closeAt (l : Chars) : Bool := at_ l 0 == 45 && at_ l 1 == 45 && at_ l 2 == 62
def whiteT (l : Chars) : CT × Chars := (⟨1, [], [], false⟩, l.dropWhile isW)
def quoteT (l : Chars) : CT × Chars :=
  if at_ (textL (at_ l 0) (l.drop 1)).2 0 = 10 then (⟨7, bytesC (textL (at_ l 0) (l.drop 1)).1, [], false⟩, (textL (at_ l 0) (l.drop 1)).2)
  else (⟨6, bytesC (textL (at_ l 0) (l.drop 1)).1, [], false⟩, (textL (at_ l 0) (l.drop 1)).2.drop 1)
def hashT (l : Chars) : CT × Chars := (⟨5, bytesC (nameL (l.drop 1)).1, [], nameAt (l.drop 1) 0⟩, (nameL (l.drop 1)).2)
def numberT (l : Chars) : CT × Chars :=
  if nameAt (l.drop (numN l)) 0 = true then (⟨10, bytesC (l.take (numN l)), bytesC (nameL (l.drop (numN l))).1, false⟩, (nameL (l.drop (numN l))).2)
  else if at_ (l.drop (numN l)) 0 = 37 then (⟨9, bytesC (l.take (numN l)), [], false⟩, (l.drop (numN l)).drop 1)
  else (⟨8, bytesC (l.take (numN l)), [], false⟩, l.drop (numN l))
def wordT (l : Chars) : CT × Chars :=
  if at_ (nameL l).2 0 = 40 then (⟨3, bytesC (nameL l).1, [], false⟩, (nameL l).2.drop 1) else (⟨2, bytesC (nameL l).1, [], false⟩, (nameL l).2)
def atT (l : Chars) : CT × Chars := (⟨4, bytesC (nameL (l.drop 1)).1, [], false⟩, (nameL (l.drop 1)).2)
/-- The token that begins here, and what is behind. -/
def oneT (l : Chars) : CT × Chars :=
  if isW (at_ l 0) = true then whiteT l
  else if at_ l 0 = 34 ∨ at_ l 0 = 39 then quoteT l
  else if at_ l 0 = 35 ∧ (nameC (at_ l 1) || escAt l 1) = true then hashT l
  else if numAt l = true then numberT l
  else if openAt l = true then (⟨13, [], [], false⟩, l.drop 4)
  else if closeAt l = true then (⟨14, [], [], false⟩, l.drop 3)
  else if nameAt l 0 = true then wordT l
  else if at_ l 0 = 64 ∧ nameAt l 1 = true then atT l
  else if signsC.contains (at_ l 0) = true then (⟨11, bytesC (l.take 1), [], false⟩, l.drop 1)
  else (⟨12, bytesC (l.take 1), [], false⟩, l.drop 1)
def toksF : Nat → Chars → List CT
  | 0, _ => []
  | f + 1, l => if comL l = [] then [] else (oneT (comL l)).1 :: toksF f (oneT (comL l)).2
def toksC (l : Chars) : List CT := toksF l.length l

/-! What is read is shorter. -/
theorem at_nil (n : Nat) : at_ [] n = -1 := by simp [at_]
theorem at_cons (c : Int) (r : Chars) : at_ (c :: r) 0 = c := by simp [at_]
theorem at_drop (l : Chars) (k n : Nat) : at_ (l.drop k) n = at_ l (k + n) := by simp [at_, List.getD_eq_getElem?_getD, List.getElem?_drop]
theorem at_some {l : Chars} {n : Nat} (h : n < l.length) : at_ l n = l[n] := by simp [at_, h]
theorem at_none {l : Chars} {n : Nat} (h : l.length ≤ n) : at_ l n = -1 := by simp [at_, h]
theorem at_pos {l : Chars} {n : Nat} (h : at_ l n ≠ -1) : n < l.length := by
  by_cases hn : n < l.length
  · exact hn
  · exact absurd (at_none (by omega)) h
theorem hexRun_le : ∀ (f : Nat) (l : Chars), (hexRun f l).length ≤ l.length ∧ (hexRun f l).length ≤ f
  | 0, l => ⟨Nat.zero_le _, Nat.le_refl _⟩
  | f + 1, [] => ⟨Nat.le_refl _, Nat.zero_le _⟩
  | f + 1, c :: r => by
    have := hexRun_le f r
    unfold hexRun
    split
    · simp only [List.length_cons]; omega
    · simp
theorem esc_len (l : Chars) : (escL l).2.length ≤ l.length := by
  unfold escL
  split
  · split
    · exact Nat.le_refl _
    · simp
  · simp only
    split
    · rw [List.length_drop]; omega
    · rw [List.length_drop]; omega
theorem nameC_neg : nameC (-1) = false := by decide
theorem isW_neg : isW (-1) = false := by decide
theorem isDg_neg : isDg (-1) = false := by decide
theorem begC_neg : begC (-1) = false := by decide
theorem name_pos {l : Chars} (h : nameC (at_ l 0) = true) : 0 < l.length := at_pos fun e => by rw [e] at h; cases h
theorem esc_pos {l : Chars} {n : Nat} (h : escAt l n = true) : n < l.length := at_pos fun e => by
  unfold escAt at h
  rw [e] at h
  cases h
theorem nameF_more : ∀ (f g : Nat) (l : Chars), l.length ≤ f → l.length ≤ g → nameF f l = nameF g l
  | 0, 0, _, _, _ => rfl
  | 0, g + 1, l, h, _ => by
    obtain rfl : l = [] := List.length_eq_zero_iff.1 (by omega)
    rfl
  | f + 1, 0, l, _, h => by
    obtain rfl : l = [] := List.length_eq_zero_iff.1 (by omega)
    rfl
  | f + 1, g + 1, l, hf, hg => by
    unfold nameF
    split
    · rename_i h
      have := name_pos h
      rw [nameF_more f g _ (by rw [List.length_drop]; omega) (by rw [List.length_drop]; omega)]
    · split
      · rename_i h
        have h1 := esc_pos h
        have h2 := esc_len (l.drop 1)
        rw [List.length_drop] at h2
        rw [nameF_more f g _ (by omega) (by omega)]
      · rfl
theorem nameL_step (l : Chars) : nameL l = if nameC (at_ l 0) = true then (at_ l 0 :: (nameL (l.drop 1)).1, (nameL (l.drop 1)).2)
    else if escAt l 0 = true then ((escL (l.drop 1)).1 :: (nameL (escL (l.drop 1)).2).1, (nameL (escL (l.drop 1)).2).2)
    else ([], l) := by
  cases l with
  | nil => rfl
  | cons c r =>
    conv => lhs; unfold nameL; rw [List.length_cons]; unfold nameF
    split
    · rfl
    · split
      · have h2 := esc_len ((c :: r).drop 1)
        have h3 : ((c :: r).drop 1).length = r.length := rfl
        rw [nameF_more r.length _ _ (by omega) (Nat.le_refl _)]
        rfl
      · rfl
theorem name_len : ∀ (n : Nat) (l : Chars), l.length ≤ n → (nameL l).2.length ≤ l.length ∧ (nameL l).1.length ≤ l.length
  | 0, l, h => by
    obtain rfl : l = [] := List.length_eq_zero_iff.1 (by omega)
    exact ⟨Nat.le_refl _, Nat.le_refl _⟩
  | n + 1, l, h => by
    rw [nameL_step]
    split
    · rename_i hp
      have := name_pos hp
      have ih := name_len n (l.drop 1) (by rw [List.length_drop]; omega)
      rw [List.length_drop] at ih
      simp only [List.length_cons]; omega
    · split
      · rename_i hp
        have h1 := esc_pos hp
        have h2 := esc_len (l.drop 1)
        rw [List.length_drop] at h2
        have ih := name_len n (escL (l.drop 1)).2 (by omega)
        simp only [List.length_cons]; omega
      · exact ⟨Nat.le_refl _, by simp⟩
theorem textF_more (q : Int) : ∀ (f g : Nat) (l : Chars), l.length ≤ f → l.length ≤ g → textF q f l = textF q g l
  | 0, 0, _, _, _ => rfl
  | 0, g + 1, l, h, _ => by
    obtain rfl : l = [] := List.length_eq_zero_iff.1 (by omega)
    rfl
  | f + 1, 0, l, _, h => by
    obtain rfl : l = [] := List.length_eq_zero_iff.1 (by omega)
    rfl
  | f + 1, g + 1, [], _, _ => rfl
  | f + 1, g + 1, c :: r, hf, hg => by
    simp only [List.length_cons] at hf hg
    unfold textF
    have h2 := esc_len r
    rw [textF_more q f g r (by omega) (by omega), textF_more q f g (r.drop 1) (by rw [List.length_drop]; omega) (by rw [List.length_drop]; omega), textF_more q f g (escL r).2 (by omega) (by omega)]
theorem textL_nil (q : Int) : textL q [] = ([], []) := rfl
theorem textL_step (q c : Int) (r : Chars) : textL q (c :: r) =
    if c = q ∨ c = 10 then ([], c :: r)
    else if c ≠ 92 then (c :: (textL q r).1, (textL q r).2)
    else if r = [] then ([], [])
    else if at_ r 0 = 10 then textL q (r.drop 1)
    else ((escL r).1 :: (textL q (escL r).2).1, (textL q (escL r).2).2) := by
  conv => lhs; unfold textL; rw [List.length_cons]; unfold textF
  have h2 := esc_len r
  rw [textF_more q r.length (r.drop 1).length (r.drop 1) (by rw [List.length_drop]; omega) (Nat.le_refl _), textF_more q r.length (escL r).2.length (escL r).2 (by omega) (Nat.le_refl _)]
  rfl
theorem text_len (q : Int) : ∀ (n : Nat) (l : Chars), l.length ≤ n → (textL q l).2.length ≤ l.length ∧ (textL q l).1.length ≤ l.length
  | 0, l, h => by
    obtain rfl : l = [] := List.length_eq_zero_iff.1 (by omega)
    exact ⟨Nat.le_refl _, Nat.le_refl _⟩
  | n + 1, [], h => ⟨Nat.le_refl _, Nat.le_refl _⟩
  | n + 1, c :: r, h => by
    simp only [List.length_cons] at h
    rw [textL_step]
    have h2 := esc_len r
    have i1 := text_len q n r (by omega)
    have i2 := text_len q n (r.drop 1) (by rw [List.length_drop]; omega)
    have i3 := text_len q n (escL r).2 (by omega)
    rw [List.length_drop] at i2
    repeat' split
    all_goals simp only [List.length_cons, List.length_nil]; omega
theorem inC_len : ∀ l : Chars, (inC l).length ≤ l.length
  | [] => Nat.le_refl _
  | c :: r => by
    have := inC_len r
    unfold inC
    split
    · rw [List.length_drop, List.length_cons]; omega
    · rw [List.length_cons]; omega
theorem comF_more : ∀ (f g : Nat) (l : Chars), l.length ≤ f → l.length ≤ g → comF f l = comF g l
  | 0, 0, _, _, _ => rfl
  | 0, g + 1, l, h, _ => by
    obtain rfl : l = [] := List.length_eq_zero_iff.1 (by omega)
    rfl
  | f + 1, 0, l, _, h => by
    obtain rfl : l = [] := List.length_eq_zero_iff.1 (by omega)
    rfl
  | f + 1, g + 1, l, hf, hg => by
    unfold comF
    split
    · rename_i h
      have h1 := at_pos (l := l) (n := 1) (by rw [h.2]; decide)
      have h2 := inC_len (l.drop 2)
      rw [List.length_drop] at h2
      exact comF_more f g _ (by omega) (by omega)
    · rfl
theorem comL_step (l : Chars) : comL l = if at_ l 0 = 47 ∧ at_ l 1 = 42 then comL (inC (l.drop 2)) else l := by
  cases l with
  | nil => rfl
  | cons c r =>
    conv => lhs; unfold comL; rw [List.length_cons]; unfold comF
    split
    · have h2 := inC_len ((c :: r).drop 2)
      rw [List.length_drop, List.length_cons] at h2
      exact comF_more _ _ _ (by omega) (Nat.le_refl _)
    · rfl
theorem com_len : ∀ (n : Nat) (l : Chars), l.length ≤ n → (comL l).length ≤ l.length
  | 0, l, h => by
    obtain rfl : l = [] := List.length_eq_zero_iff.1 (by omega)
    exact Nat.le_refl _
  | n + 1, l, h => by
    rw [comL_step]
    split
    · rename_i hh
      have h1 := at_pos (l := l) (n := 1) (by rw [hh.2]; decide)
      have h2 := inC_len (l.drop 2)
      rw [List.length_drop] at h2
      have := com_len n (inC (l.drop 2)) (by omega)
      omega
    · exact Nat.le_refl _
end Go.CssKit
