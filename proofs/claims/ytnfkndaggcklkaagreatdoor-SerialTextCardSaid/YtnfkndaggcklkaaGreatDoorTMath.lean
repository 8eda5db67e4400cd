/-
  Tokens over lists of bytes: the document's answer, by definition. No conditions.
-/
import Derived.Test.YtnfkndaggcklkaaGreatDoorCMath
import Derived.Lib.IndexMore
import Derived.Lib.Strings
import Derived.Lib.SlTrimSet
namespace Go.TokenKit
open Go Go.Lib Go.CharrefKit

abbrev Bytes := List UInt8
def blanks : Bytes := [9, 10, 12, 32]
def isL (b : UInt8) : Bool := isLet b.toNat
def isD (b : UInt8) : Bool := isNum b.toNat
def smallB (b : UInt8) : UInt8 := if 65 ≤ b.toNat ∧ b.toNat ≤ 90 then b + 32 else b
def smallL (l : Bytes) : Bytes := l.map smallB
/-- Letters, digits and some more bytes alone. -/
def wordL (more l : Bytes) : Bool := l.all fun b => isL b || isD b || more.contains b
def before (stops l : Bytes) : Bytes := l.takeWhile fun b => !stops.contains b
def behind (stops l : Bytes) : Bytes := l.dropWhile fun b => !stops.contains b
def skipL (l : Bytes) : Bytes := l.dropWhile (blanks.contains ·)
/-- Does a text begin with a < that is no byte of a text? -/
def markL : Bytes → Bool
  | a :: c :: _ => a == 60 && (isL c || c == 47 || c == 33 || c == 63)
  | _ => false

abbrev At := Bytes × Bytes
structure Tok where
  kind : Nat
  name : Bytes
  attrs : List At
  self : Bool
  data : Bytes
  deriving DecidableEq

/-- From behind a quote to the next one. -/
def quotedL (q : UInt8) (l : Bytes) : Option (Bytes × Bytes) := if l.contains q then some (before [q] l, (behind [q] l).drop 1) else none
/-- Bytes that a value without quotes may not have. -/
def badB (b : UInt8) : Bool := [34, 39, 60, 61, 96].contains b
def plainStops : Bytes := [9, 10, 12, 32, 62]
/-- The bytes of a value, and what is behind. -/
def valueL : Bytes → Option (Bytes × Bytes)
  | [] => none
  | b :: r =>
    if b = 34 then quotedL 34 r
    else if b = 39 then quotedL 39 r
    else if (before plainStops (b :: r)).isEmpty || (before plainStops (b :: r)).any badB then none
    else some (before plainStops (b :: r), behind plainStops (b :: r))
def nameStops : Bytes := [9, 10, 12, 32, 61, 47, 62]
/-- An attribute, and what is behind. -/
def attrL (l : Bytes) : Option (At × Bytes) :=
  let n := smallL (before nameStops l)
  let r := skipL (behind nameStops l)
  if n.isEmpty || !wordL [45, 95] n then none
  else match r with
    | [] => some ((n, []), [])
    | b :: r' =>
      if b = 61 then
        match valueL (skipL r') with
        | none => none
        | some (v, r'') => some ((n, decodeL true v), r'')
      else some ((n, []), b :: r')
/-- The attributes, whether it is self-closed, and what is behind. -/
def attrsF : Nat → List At → Bytes → Except Nat (List At × Bool × Bytes)
  | 0, _, _ => .error 40
  | f + 1, as, l =>
    match skipL l with
    | [] => .error 40
    | b :: r =>
      if b = 62 then .ok (as, false, r)
      else if b = 47 then (match r with
        | [] => .error 40
        | c :: r' => if c = 62 then .ok (as, true, r') else .error 40)
      else match attrL (b :: r) with
        | none => .error 41
        | some (a, r') =>
          if as.any (fun x => x.1 == a.1) then .error 41
          else if 16 ≤ as.length then .error 3
          else attrsF f (as ++ [a]) r'
def attrsL (as : List At) (l : Bytes) : Except Nat (List At × Bool × Bytes) := attrsF (l.length + 1) as l
def tagStops : Bytes := [9, 10, 12, 32, 47, 62]
/-- A tag from its name on. -/
def tagL (kind : Nat) (l : Bytes) : Except Nat (Tok × Bytes) :=
  if wordL [] (smallL (before tagStops l)) then
    match attrsL [] (behind tagStops l) with
    | .error e => .error e
    | .ok (as, self, r) => .ok (⟨kind, smallL (before tagStops l), as, self, []⟩, r)
  else .error 40
def endL : Bytes → Except Nat (Tok × Bytes)
  | [] => .error 40
  | b :: r =>
    if isL b then
      match tagL 2 (b :: r) with
      | .error e => .error e
      | .ok (t, r') => if t.self || !t.attrs.isEmpty then .error 40 else .ok (t, r')
    else .error 40
def mayL (d : Bytes) : Bool :=
  if hasPrefix d [62] || hasPrefix d [45, 62] then false
  else if contains d [45, 45, 33, 62] || contains d [60, 33, 45, 45] then false
  else !hasSuffix d [60, 33, 45]
def commentL (l : Bytes) : Except Nat (Tok × Bytes) :=
  if (cut l [45, 45, 62]).2.2 && mayL (cut l [45, 45, 62]).1 then .ok (⟨4, [], [], false, (cut l [45, 45, 62]).1⟩, (cut l [45, 45, 62]).2.1) else .error 43
def doctypeL (l : Bytes) : Except Nat (Tok × Bytes) :=
  if (cut l [62]).2.2 then .ok (⟨5, [], [], false, trimS (cut l [62]).1 blanks⟩, (cut l [62]).2.1) else .error 43
def doctypeB : Bytes := [60, 33, 100, 111, 99, 116, 121, 112, 101]
/-- How many bytes a text has. -/
def wordsN : Bytes → Nat
  | [] => 0
  | b :: r => if markL (b :: r) then 0 else wordsN r + 1
/-- The token that begins here, and what is behind. -/
def oneL (l : Bytes) : Except Nat (Tok × Bytes) :=
  if markL l then
    (if isL (l.getD 1 0) then tagL 1 (l.drop 1)
    else if l.getD 1 0 = 47 then endL (l.drop 2)
    else if hasPrefix l [60, 33, 45, 45] then commentL (l.drop 4)
    else if smallL (l.take 9) = doctypeB then doctypeL (l.drop 9)
    else .error 43)
  else .ok (⟨3, [], [], false, decodeL false (l.take (wordsN l))⟩, l.drop (wordsN l))
def toksF : Nat → Nat → Bytes → Except (Nat × Nat) (List Tok)
  | 0, _, _ => .ok []
  | f + 1, p, l =>
    if l = [] then .ok []
    else match oneL l with
      | .error e => .error (e, p)
      | .ok (t, r) =>
        match toksF f (p + (l.length - r.length)) r with
        | .error x => .error x
        | .ok ts => .ok (t :: ts)
def toksL (l : Bytes) : Except (Nat × Nat) (List Tok) := toksF l.length 0 l
/-- P4.1: the tokens, the error, its place. -/
def answerL (l : Bytes) : List Tok × Nat × Nat :=
  if 65536 < l.length then ([], 3, 0)
  else if l.contains 0 then ([], 42, (before [0] l).length)
  else match toksL l with
    | .error (e, p) => ([], e, p)
    | .ok ts => (ts, 0, 0)

/-! What is read is shorter. -/
theorem before_behind (stops l : Bytes) : before stops l ++ behind stops l = l := List.takeWhile_append_dropWhile
theorem behind_len (stops l : Bytes) : (behind stops l).length ≤ l.length := (List.dropWhile_sublist _).length_le
theorem before_len (stops l : Bytes) : (before stops l).length + (behind stops l).length = l.length := by
  rw [← List.length_append, before_behind]
theorem skip_len (l : Bytes) : (skipL l).length ≤ l.length := (List.dropWhile_sublist _).length_le
theorem quoted_len {q : UInt8} {l v r : Bytes} (h : quotedL q l = some (v, r)) : r.length ≤ l.length := by
  unfold quotedL at h
  split at h
  · simp only [Option.some.injEq, Prod.mk.injEq] at h
    rw [← h.2, List.length_drop]
    have := behind_len [q] l
    omega
  · cases h
theorem value_len {l v r : Bytes} (h : valueL l = some (v, r)) : r.length ≤ l.length := by
  cases l with
  | nil => cases h
  | cons b t =>
    rw [valueL] at h
    split at h
    · have := quoted_len h; simp only [List.length_cons]; omega
    · split at h
      · have := quoted_len h; simp only [List.length_cons]; omega
      · split at h
        · cases h
        · simp only [Option.some.injEq, Prod.mk.injEq] at h
          rw [← h.2]
          exact behind_len _ _
theorem attr_len {l r : Bytes} {a : At} (h : attrL l = some (a, r)) : r.length < l.length := by
  unfold attrL at h
  simp only at h
  have h1 := before_len nameStops l
  have h2 := skip_len (behind nameStops l)
  split at h
  · cases h
  · rename_i hn
    have h3 : 0 < (before nameStops l).length := by
      cases hb : before nameStops l with
      | nil => rw [hb] at hn; simp [smallL] at hn
      | cons => simp
    split at h
    · rename_i hr
      simp only [Option.some.injEq, Prod.mk.injEq] at h
      rw [← h.2]; simp only [List.length_nil]; omega
    · rename_i b r' hr
      rw [hr] at h2
      simp only [List.length_cons] at h2
      split at h
      · split at h
        · cases h
        · rename_i v r'' hv
          simp only [Option.some.injEq, Prod.mk.injEq] at h
          rw [← h.2]
          have h4 := value_len hv
          have h5 := skip_len r'
          omega
      · simp only [Option.some.injEq, Prod.mk.injEq] at h
        rw [← h.2]
        simp only [List.length_cons]; omega
theorem attrsF_more : ∀ (f g : Nat) (as : List At) (l : Bytes), l.length < f → l.length < g → attrsF f as l = attrsF g as l
  | 0, _, _, _, h, _ => by omega
  | _, 0, _, _, _, h => by omega
  | f + 1, g + 1, as, l, hf, hg => by
    unfold attrsF
    have hs := skip_len l
    split
    · rfl
    · rename_i b r hr
      rw [hr] at hs
      split
      · rfl
      · split
        · rfl
        · split
          · rfl
          · rename_i a r' ha
            have h1 := attr_len ha
            split
            · rfl
            · split
              · rfl
              · exact attrsF_more f g _ r' (by omega) (by omega)
/-- One step of the attributes. -/
theorem attrsL_step (as : List At) (l : Bytes) : attrsL as l = match skipL l with
    | [] => .error 40
    | b :: r =>
      if b = 62 then .ok (as, false, r)
      else if b = 47 then (match r with
        | [] => .error 40
        | c :: r' => if c = 62 then .ok (as, true, r') else .error 40)
      else match attrL (b :: r) with
        | none => .error 41
        | some (a, r') =>
          if as.any (fun x => x.1 == a.1) then .error 41
          else if 16 ≤ as.length then .error 3
          else attrsL (as ++ [a]) r' := by
  have hs := skip_len l
  conv => lhs; unfold attrsL attrsF
  split
  · rfl
  · rename_i b r hr
    rw [hr] at hs
    split
    · rfl
    · split
      · rfl
      · split
        · rfl
        · rename_i a r' ha
          have h1 := attr_len ha
          split
          · rfl
          · split
            · rfl
            · exact attrsF_more _ _ _ r' (by omega) (by omega)
theorem attrsF_len : ∀ (f : Nat) (as : List At) (l : Bytes) (bs : List At) (self : Bool) (r : Bytes), attrsF f as l = .ok (bs, self, r) → r.length < l.length
  | 0, _, _, _, _, _, h => by cases h
  | f + 1, as, l, bs, self, r, h => by
    unfold attrsF at h
    have hs := skip_len l
    split at h
    · cases h
    · rename_i b t ht
      rw [ht] at hs
      simp only [List.length_cons] at hs
      split at h
      · simp only [Except.ok.injEq, Prod.mk.injEq] at h
        rw [← h.2.2]; omega
      · split at h
        · split at h
          · cases h
          · split at h
            · simp only [Except.ok.injEq, Prod.mk.injEq] at h
              rw [← h.2.2]; simp only [List.length_cons] at hs; omega
            · cases h
        · split at h
          · cases h
          · rename_i a r' ha
            have h1 := attr_len ha
            simp only [List.length_cons] at h1
            split at h
            · cases h
            · split at h
              · cases h
              · have := attrsF_len f _ r' bs self r h
                omega
theorem tag_len {k : Nat} {l r : Bytes} {t : Tok} (h : tagL k l = .ok (t, r)) : r.length < l.length := by
  unfold tagL at h
  split at h
  · split at h
    · cases h
    · rename_i as self r' ha
      simp only [Except.ok.injEq, Prod.mk.injEq] at h
      have := attrsF_len _ _ _ _ _ _ ha
      have := behind_len tagStops l
      rw [← h.2]; omega
  · cases h
theorem end_len {l r : Bytes} {t : Tok} (h : endL l = .ok (t, r)) : r.length < l.length := by
  cases l with
  | nil => cases h
  | cons b s =>
    rw [endL] at h
    split at h
    · split at h
      · cases h
      · rename_i t' r' ht
        split at h
        · cases h
        · simp only [Except.ok.injEq, Prod.mk.injEq] at h
          have := tag_len ht
          rw [← h.2]; exact this
    · cases h
theorem cut_len (l p : Bytes) : (cut l p).2.1.length ≤ l.length := by
  unfold cut
  split
  · simp
  · simp
theorem words_pos {l : Bytes} (h : l ≠ []) (hm : markL l = false) : 1 ≤ wordsN l := by
  cases l with
  | nil => exact absurd rfl h
  | cons b r => unfold wordsN; rw [hm]; simp
theorem one_len {l r : Bytes} {t : Tok} (hl : l ≠ []) (h : oneL l = .ok (t, r)) : r.length < l.length := by
  unfold oneL at h
  split at h
  · rename_i hm
    have h2 : 2 ≤ l.length := by
      match l, hm with
      | _ :: _ :: _, _ => simp
    split at h
    · have := tag_len h; rw [List.length_drop] at this; omega
    · split at h
      · have := end_len h; rw [List.length_drop] at this; omega
      · split at h
        · unfold commentL at h
          split at h
          · simp only [Except.ok.injEq, Prod.mk.injEq] at h
            have := cut_len (l.drop 4) [45, 45, 62]
            rw [List.length_drop] at this
            rw [← h.2]; omega
          · cases h
        · split at h
          · unfold doctypeL at h
            split at h
            · simp only [Except.ok.injEq, Prod.mk.injEq] at h
              have := cut_len (l.drop 9) [62]
              rw [List.length_drop] at this
              rw [← h.2]; omega
            · cases h
          · cases h
  · rename_i hm
    simp only [Except.ok.injEq, Prod.mk.injEq] at h
    have := words_pos hl (by simpa using hm)
    have := List.length_pos_iff.2 hl
    rw [← h.2, List.length_drop]; omega
theorem toksF_more : ∀ (f g p : Nat) (l : Bytes), l.length ≤ f → l.length ≤ g → toksF f p l = toksF g p l
  | 0, 0, _, _, _, _ => rfl
  | 0, g + 1, p, l, h, _ => by
    obtain rfl : l = [] := List.length_eq_zero_iff.1 (by omega)
    rfl
  | f + 1, 0, p, l, _, h => by
    obtain rfl : l = [] := List.length_eq_zero_iff.1 (by omega)
    rfl
  | f + 1, g + 1, p, l, hf, hg => by
    unfold toksF
    split
    · rfl
    · rename_i hl
      split
      · rfl
      · rename_i t r h1
        have := one_len hl h1
        rw [toksF_more f g _ r (by omega) (by omega)]
def toksAt (p : Nat) (l : Bytes) : Except (Nat × Nat) (List Tok) := toksF l.length p l
theorem toksAt_nil (p : Nat) : toksAt p [] = .ok [] := rfl
/-- One step of the tokens. -/
theorem toksAt_step (p : Nat) {l : Bytes} (hl : l ≠ []) : toksAt p l = match oneL l with
    | .error e => .error (e, p)
    | .ok (t, r) =>
      match toksAt (p + (l.length - r.length)) r with
      | .error x => .error x
      | .ok ts => .ok (t :: ts) := by
  obtain ⟨b, s, rfl⟩ : ∃ b s, l = b :: s := by
    cases l with
    | nil => exact absurd rfl hl
    | cons b s => exact ⟨b, s, rfl⟩
  conv => lhs; unfold toksAt; rw [List.length_cons]; unfold toksF
  rw [if_neg hl]
  split
  · rfl
  · rename_i t r h1
    have := one_len hl h1
    simp only [List.length_cons] at this
    rw [toksF_more s.length r.length _ r (by omega) (Nat.le_refl _)]
    rfl
end Go.TokenKit

