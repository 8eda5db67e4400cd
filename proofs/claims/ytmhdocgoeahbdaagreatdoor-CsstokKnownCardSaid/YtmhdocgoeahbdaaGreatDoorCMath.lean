/-
  Character references over lists of bytes: the document's answer, by definition. No conditions.
-/
import Derived.Lib.RuneBytes
import Derived.KernelRfl
namespace Go.CharrefKit
open Go Go.Lib

def isLet (b : Nat) : Bool := decide (97 ≤ b ∧ b ≤ 122) || decide (65 ≤ b ∧ b ≤ 90)
def isNum (b : Nat) : Bool := decide (48 ≤ b ∧ b ≤ 57)
def digitV (b : Nat) : Nat := if 48 ≤ b ∧ b ≤ 57 then b - 48 else if 97 ≤ b ∧ b ≤ 102 then b - 97 + 10 else if 65 ≤ b ∧ b ≤ 70 then b - 65 + 10 else 16

/-- What stands at a place: its character, how many bytes; is there one? -/
structure Ref where
  char : Nat
  len : Nat
  ok : Bool
  deriving DecidableEq
def noRef : Ref := ⟨0, 0, false⟩

def winTab : List Nat := [8364, 129, 8218, 402, 8222, 8230, 8224, 8225, 710, 8240, 352, 8249, 338, 141, 381, 143, 144, 8216, 8217, 8220, 8221, 8226, 8211, 8212, 732, 8482, 353, 8250, 339, 157, 382, 376]
/-- The character of a number. -/
def charOf (v : Nat) : Nat :=
  if 128 ≤ v ∧ v ≤ 159 then winTab.getD (v - 128) 0
  else if v = 0 ∨ 1114111 < v ∨ (55296 ≤ v ∧ v ≤ 57343) then 65533 else v

def isDig (base b : Nat) : Bool := decide (digitV b < base)
def digs (base : Nat) (l : List Nat) : List Nat := l.takeWhile (isDig base)
def valueOf (base : Nat) (ds : List Nat) : Nat := ds.foldl (fun v b => v * base + digitV b) 0
/-- Is it a number to the base 16? -/
def isHex : List Nat → Bool
  | 120 :: _ => true
  | 88 :: _ => true
  | _ => false
def baseOf (l : List Nat) : Nat := if isHex l = true then 16 else 10
def headOf (l : List Nat) : Nat := if isHex l = true then 1 else 0
/-- A reference by number, behind &#. -/
def numberL (l : List Nat) : Ref :=
  let ds := digs (baseOf l) (l.drop (headOf l))
  if ds = [] then noRef
  else ⟨charOf (valueOf (baseOf l) ds), headOf l + ds.length + (if l[headOf l + ds.length]? = some 59 then 1 else 0), true⟩

/-- The names, as the document has them. -/
def tab : List (List Nat × Nat × Bool) :=
  [([97, 109, 112], 38, true), ([108, 116], 60, true), ([103, 116], 62, true), ([113, 117, 111, 116], 34, true), ([65, 77, 80], 38, true), ([76, 84], 60, true), ([71, 84], 62, true), ([81, 85, 79, 84], 34, true), ([67, 79, 80, 89], 169, true), ([82, 69, 71], 174, true), ([110, 98, 115, 112], 160, true), ([99, 101, 110, 116], 162, true), ([112, 111, 117, 110, 100], 163, true), ([121, 101, 110], 165, true), ([115, 101, 99, 116], 167, true), ([99, 111, 112, 121], 169, true), ([108, 97, 113, 117, 111], 171, true), ([110, 111, 116], 172, true), ([115, 104, 121], 173, true), ([114, 101, 103], 174, true), ([100, 101, 103], 176, true), ([112, 108, 117, 115, 109, 110], 177, true), ([112, 97, 114, 97], 182, true), ([109, 105, 100, 100, 111, 116], 183, true), ([114, 97, 113, 117, 111], 187, true), ([116, 105, 109, 101, 115], 215, true), ([100, 105, 118, 105, 100, 101], 247, true), ([97, 112, 111, 115], 39, false), ([101, 110, 115, 112], 8194, false), ([101, 109, 115, 112], 8195, false), ([116, 104, 105, 110, 115, 112], 8201, false), ([122, 119, 110, 106], 8204, false), ([122, 119, 106], 8205, false), ([108, 114, 109], 8206, false), ([114, 108, 109], 8207, false), ([110, 100, 97, 115, 104], 8211, false), ([109, 100, 97, 115, 104], 8212, false), ([108, 115, 113, 117, 111], 8216, false), ([114, 115, 113, 117, 111], 8217, false), ([108, 100, 113, 117, 111], 8220, false), ([114, 100, 113, 117, 111], 8221, false), ([98, 117, 108, 108], 8226, false), ([104, 101, 108, 108, 105, 112], 8230, false), ([108, 115, 97, 113, 117, 111], 8249, false), ([114, 115, 97, 113, 117, 111], 8250, false), ([101, 117, 114, 111], 8364, false), ([108, 97, 114, 114], 8592, false), ([117, 97, 114, 114], 8593, false), ([114, 97, 114, 114], 8594, false), ([100, 97, 114, 114], 8595, false), ([105, 110], 8712, false), ([110, 111, 116, 105, 110], 8713, false), ([109, 105, 110, 117, 115], 8722, false), ([105, 110, 102, 105, 110], 8734, false), ([110, 101], 8800, false), ([108, 101], 8804, false), ([103, 101], 8805, false), ([108, 97, 110, 103], 10216, false), ([114, 97, 110, 103], 10217, false)]
/-- The names, rising. -/
def tabC : List (List Nat × Nat × Bool) :=
  [([65, 77, 80], 38, true), ([67, 79, 80, 89], 169, true), ([71, 84], 62, true), ([76, 84], 60, true), ([81, 85, 79, 84], 34, true), ([82, 69, 71], 174, true), ([97, 109, 112], 38, true), ([97, 112, 111, 115], 39, false), ([98, 117, 108, 108], 8226, false), ([99, 101, 110, 116], 162, true), ([99, 111, 112, 121], 169, true), ([100, 97, 114, 114], 8595, false), ([100, 101, 103], 176, true), ([100, 105, 118, 105, 100, 101], 247, true), ([101, 109, 115, 112], 8195, false), ([101, 110, 115, 112], 8194, false), ([101, 117, 114, 111], 8364, false), ([103, 101], 8805, false), ([103, 116], 62, true), ([104, 101, 108, 108, 105, 112], 8230, false), ([105, 110], 8712, false), ([105, 110, 102, 105, 110], 8734, false), ([108, 97, 110, 103], 10216, false), ([108, 97, 113, 117, 111], 171, true), ([108, 97, 114, 114], 8592, false), ([108, 100, 113, 117, 111], 8220, false), ([108, 101], 8804, false), ([108, 114, 109], 8206, false), ([108, 115, 97, 113, 117, 111], 8249, false), ([108, 115, 113, 117, 111], 8216, false), ([108, 116], 60, true), ([109, 100, 97, 115, 104], 8212, false), ([109, 105, 100, 100, 111, 116], 183, true), ([109, 105, 110, 117, 115], 8722, false), ([110, 98, 115, 112], 160, true), ([110, 100, 97, 115, 104], 8211, false), ([110, 101], 8800, false), ([110, 111, 116], 172, true), ([110, 111, 116, 105, 110], 8713, false), ([112, 97, 114, 97], 182, true), ([112, 108, 117, 115, 109, 110], 177, true), ([112, 111, 117, 110, 100], 163, true), ([113, 117, 111, 116], 34, true), ([114, 97, 110, 103], 10217, false), ([114, 97, 113, 117, 111], 187, true), ([114, 97, 114, 114], 8594, false), ([114, 100, 113, 117, 111], 8221, false), ([114, 101, 103], 174, true), ([114, 108, 109], 8207, false), ([114, 115, 97, 113, 117, 111], 8250, false), ([114, 115, 113, 117, 111], 8217, false), ([115, 101, 99, 116], 167, true), ([115, 104, 121], 173, true), ([116, 104, 105, 110, 115, 112], 8201, false), ([116, 105, 109, 101, 115], 215, true), ([117, 97, 114, 114], 8593, false), ([121, 101, 110], 165, true), ([122, 119, 106], 8205, false), ([122, 119, 110, 106], 8204, false)]

/-- How many bytes a name has at a place, its ; among them; 0: it isn't there. -/
def hit (r : List Nat) (e : List Nat × Nat × Bool) : Nat :=
  if e.1.isPrefixOf r = true then (if r[e.1.length]? = some 59 then e.1.length + 1 else if e.2.2 = true then e.1.length else 0) else 0
/-- The longest. -/
def best (r : List Nat) (l : List (List Nat × Nat × Bool)) (b : Nat × Nat) : Nat × Nat := l.foldl (fun b e => if b.1 < hit r e then (hit r e, e.2.1) else b) b
def goesOn : Option Nat → Bool
  | some c => decide (c = 61) || isLet c || isNum c
  | none => false
/-- A reference by name, behind &. -/
def nameL (attr : Bool) (r : List Nat) : Ref :=
  let b := best r tab (0, 0)
  if b.1 = 0 then noRef
  else if attr = true ∧ r[b.1 - 1]? ≠ some 59 ∧ goesOn r[b.1]? = true then noRef
  else ⟨b.2, b.1 + 1, true⟩

/-- P3.1. -/
def findL (attr : Bool) : List Nat → Ref
  | 38 :: 35 :: r => if (numberL r).ok = true then ⟨(numberL r).char, (numberL r).len + 2, true⟩ else noRef
  | 38 :: r => nameL attr r
  | _ => noRef

def nats (l : List UInt8) : List Nat := l.map UInt8.toNat
/-- P3.2. -/
def decodeF : Nat → Bool → List UInt8 → List UInt8
  | 0, _, _ => []
  | _, _, [] => []
  | f + 1, attr, b :: r => if (findL attr (nats (b :: r))).ok = true then encodeRune ((findL attr (nats (b :: r))).char : Nat) ++ decodeF f attr ((b :: r).drop (findL attr (nats (b :: r))).len) else b :: decodeF f attr r
def decodeL (attr : Bool) (l : List UInt8) : List UInt8 := decodeF l.length attr l

/-! What is told of the tables. -/
theorem tab_letters : (tab.all fun e => e.1.all isLet && decide (2 ≤ e.1.length) && decide (e.1.length ≤ 6)) = true := by kernel_rfl
theorem tab_names : (tab.all fun e => tab.all fun e' => !decide (e.1 = e'.1) || decide (e = e')) = true := by kernel_rfl
theorem tab_in : (tab.all fun e => decide (e ∈ tabC)) = true := by kernel_rfl
theorem tabC_in : (tabC.all fun e => decide (e ∈ tab)) = true := by kernel_rfl

theorem numberL_len {l : List Nat} (h : (numberL l).ok = true) : 1 ≤ (numberL l).len ∧ (numberL l).len ≤ l.length := by
  unfold numberL at h ⊢
  simp only at h ⊢
  split at h
  · cases h
  · rename_i hne
    have h1 : 0 < (digs (baseOf l) (l.drop (headOf l))).length := List.length_pos_iff.2 hne
    have h2 : (digs (baseOf l) (l.drop (headOf l))).length ≤ (l.drop (headOf l)).length := (List.takeWhile_sublist _).length_le
    rw [List.length_drop] at h2
    rw [if_neg hne]
    simp only
    refine ⟨by omega, ?_⟩
    split
    · rename_i h3
      have := (List.getElem?_eq_some_iff.1 h3).1
      omega
    · omega
theorem hit_len (r : List Nat) (e : List Nat × Nat × Bool) : hit r e ≤ r.length := by
  unfold hit
  split
  · rename_i h
    have h1 := (List.isPrefixOf_iff_prefix.1 h).length_le
    split
    · rename_i h2
      have := (List.getElem?_eq_some_iff.1 h2).1
      omega
    · split
      · exact h1
      · omega
  · omega
theorem best_len (r : List Nat) : ∀ (l : List (List Nat × Nat × Bool)) (b : Nat × Nat), b.1 ≤ r.length → (best r l b).1 ≤ r.length
  | [], b, h => h
  | e :: t, b, h => by
    unfold best
    rw [List.foldl_cons]
    refine best_len r t _ ?_
    split
    · exact hit_len r e
    · exact h
theorem findL_num (attr : Bool) (r : List Nat) : findL attr (38 :: 35 :: r) = if (numberL r).ok = true then ⟨(numberL r).char, (numberL r).len + 2, true⟩ else noRef := rfl
theorem findL_name {attr : Bool} {r : List Nat} (h : ∀ t, r ≠ 35 :: t) : findL attr (38 :: r) = nameL attr r := by
  unfold findL
  split
  · rename_i e; simp only [List.cons.injEq, true_and] at e; exact absurd e (h _)
  · rename_i e; simp only [List.cons.injEq, true_and] at e; rw [e]
  · rename_i h1; exact absurd rfl (h1 r)
theorem findL_not {attr : Bool} {b : Nat} {r : List Nat} (h : b ≠ 38) : findL attr (b :: r) = noRef := by
  unfold findL
  split
  · rename_i e; simp only [List.cons.injEq] at e; exact absurd e.1 h
  · rename_i e; simp only [List.cons.injEq] at e; exact absurd e.1 h
  · rfl
/-- The three ways. -/
theorem find_cases (attr : Bool) (l : List Nat) : (∃ r, l = 38 :: 35 :: r) ∨ (∃ r, l = 38 :: r ∧ ∀ t, r ≠ 35 :: t) ∨ ((∀ r, l ≠ 38 :: r) ∧ findL attr l = noRef) := by
  cases l with
  | nil => exact .inr (.inr ⟨fun r h => (by cases h), rfl⟩)
  | cons b t =>
    by_cases hb : b = 38
    · subst hb
      cases t with
      | nil => exact .inr (.inl ⟨[], rfl, fun t h => (by cases h)⟩)
      | cons c u =>
        by_cases hc : c = 35
        · subst hc; exact .inl ⟨u, rfl⟩
        · exact .inr (.inl ⟨c :: u, rfl, fun t h => by simp only [List.cons.injEq] at h; exact hc h.1⟩)
    · exact .inr (.inr ⟨fun r h => by simp only [List.cons.injEq] at h; exact hb h.1, findL_not hb⟩)
theorem findL_len {attr : Bool} {l : List Nat} (h : (findL attr l).ok = true) : 1 ≤ (findL attr l).len ∧ (findL attr l).len ≤ l.length := by
  rcases find_cases attr l with ⟨r, rfl⟩ | ⟨r, rfl, hr⟩ | ⟨_, h0⟩
  · rw [findL_num] at h ⊢
    split at h
    · rename_i h1
      have := numberL_len h1
      rw [if_pos h1]
      simp only [List.length_cons]
      omega
    · cases h
  · rw [findL_name hr] at h ⊢
    unfold nameL at h ⊢
    simp only at h ⊢
    have hb := best_len r tab (0, 0) (Nat.zero_le _)
    split at h
    · cases h
    · split at h
      · cases h
      · rename_i h1 h2
        rw [if_neg h1, if_neg h2]
        simp only [List.length_cons]
        omega
  · rw [h0] at h; cases h

theorem decodeF_more : ∀ (f g : Nat) (attr : Bool) (l : List UInt8), l.length ≤ f → l.length ≤ g → decodeF f attr l = decodeF g attr l
  | 0, 0, _, _, _, _ => rfl
  | 0, g + 1, attr, l, h, _ => by
    obtain rfl : l = [] := List.length_eq_zero_iff.1 (by omega)
    rfl
  | f + 1, 0, attr, l, _, h => by
    obtain rfl : l = [] := List.length_eq_zero_iff.1 (by omega)
    rfl
  | f + 1, g + 1, attr, [], _, _ => rfl
  | f + 1, g + 1, attr, b :: r, hf, hg => by
    unfold decodeF
    simp only [List.length_cons] at hf hg
    split
    · rename_i h
      have := findL_len h
      rw [decodeF_more f g attr _ (by simp only [List.length_drop, List.length_cons]; omega) (by simp only [List.length_drop, List.length_cons]; omega)]
    · rw [decodeF_more f g attr r (by omega) (by omega)]
theorem decodeL_nil (attr : Bool) : decodeL attr [] = [] := rfl
theorem decodeL_ref {attr : Bool} {l : List UInt8} (h : (findL attr (nats l)).ok = true) : decodeL attr l = encodeRune ((findL attr (nats l)).char : Nat) ++ decodeL attr (l.drop (findL attr (nats l)).len) := by
  cases l with
  | nil => cases h
  | cons b r =>
    have := findL_len h
    have e : decodeL attr (b :: r) = encodeRune ((findL attr (nats (b :: r))).char : Nat) ++ decodeF r.length attr ((b :: r).drop (findL attr (nats (b :: r))).len) := by
      unfold decodeL
      rw [List.length_cons, decodeF, if_pos h]
    rw [e]
    unfold decodeL
    rw [decodeF_more _ ((b :: r).drop (findL attr (nats (b :: r))).len).length attr _ (by simp only [List.length_drop, List.length_cons]; omega) (Nat.le_refl _)]
theorem decodeL_plain {attr : Bool} {b : UInt8} {r : List UInt8} (h : (findL attr (nats (b :: r))).ok = false) : decodeL attr (b :: r) = b :: decodeL attr r := by
  unfold decodeL
  rw [List.length_cons, decodeF, if_neg (by rw [h]; decide)]
theorem decodeL_ahead {attr : Bool} : ∀ (x y : List UInt8), (∀ b ∈ x, b.toNat ≠ 38) → decodeL attr (x ++ y) = x ++ decodeL attr y
  | [], y, _ => rfl
  | b :: x, y, h => by
    have h1 : (findL attr (nats (b :: (x ++ y)))).ok = false := by
      show (findL attr (b.toNat :: nats (x ++ y))).ok = false
      rw [findL_not (h b (List.mem_cons_self ..))]; rfl
    rw [List.cons_append, decodeL_plain h1, decodeL_ahead x y (fun c hc => h c (List.mem_cons_of_mem _ hc))]
    rfl
end Go.CharrefKit
