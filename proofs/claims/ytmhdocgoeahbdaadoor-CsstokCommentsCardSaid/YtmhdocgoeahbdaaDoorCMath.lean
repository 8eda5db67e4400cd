/-
  Character references over lists of bytes: the document's answer, by definition. No conditions.
-/
import Derived.Lib.RuneBytes
import Derived.KernelRfl
namespace Go.CharrefKit
open Go Go.Lib

def isLet (b : Nat) : Bool := decide (97 ≤ b ∧ b ≤ 122) || decide (65 ≤ b ∧ b ≤ 90)
def isNum (b : Nat) : Bool := decide (48 ≤ b ∧ b ≤ 57)
/-- What stands at a place: its character, how many bytes; is there one? -/
structure Ref where
  char : Nat
  len : Nat
  ok : Bool
  deriving DecidableEq
def noRef : Ref := ⟨0, 0, false⟩

/-- The names, as the document has them. -/
def tab : List (List Nat × Nat × Bool) :=
  [([97, 109, 112], 38, true), ([108, 116], 60, true), ([103, 116], 62, true), ([113, 117, 111, 116], 34, true), ([65, 77, 80], 38, true), ([76, 84], 60, true), ([71, 84], 62, true), ([81, 85, 79, 84], 34, true), ([67, 79, 80, 89], 169, true), ([82, 69, 71], 174, true), ([110, 98, 115, 112], 160, true), ([99, 101, 110, 116], 162, true), ([112, 111, 117, 110, 100], 163, true), ([121, 101, 110], 165, true), ([115, 101, 99, 116], 167, true), ([99, 111, 112, 121], 169, true), ([108, 97, 113, 117, 111], 171, true), ([110, 111, 116], 172, true), ([115, 104, 121], 173, true), ([114, 101, 103], 174, true), ([100, 101, 103], 176, true), ([112, 108, 117, 115, 109, 110], 177, true), ([112, 97, 114, 97], 182, true), ([109, 105, 100, 100, 111, 116], 183, true), ([114, 97, 113, 117, 111], 187, true), ([116, 105, 109, 101, 115], 215, true), ([100, 105, 118, 105, 100, 101], 247, true), ([97, 112, 111, 115], 39, false), ([101, 110, 115, 112], 8194, false), ([101, 109, 115, 112], 8195, false), ([116, 104, 105, 110, 115, 112], 8201, false), ([122, 119, 110, 106], 8204, false), ([122, 119, 106], 8205, false), ([108, 114, 109], 8206, false), ([114, 108, 109], 8207, false), ([110, 100, 97, 115, 104], 8211, false), ([109, 100, 97, 115, 104], 8212, false), ([108, 115, 113, 117, 111], 8216, false), ([114, 115, 113, 117, 111], 8217, false), ([108, 100, 113, 117, 111], 8220, false), ([114, 100, 113, 117, 111], 8221, false), ([98, 117, 108, 108], 8226, false), ([104, 101, 108, 108, 105, 112], 8230, false), ([108, 115, 97, 113, 117, 111], 8249, false), ([114, 115, 97, 113, 117, 111], 8250, false), ([101, 117, 114, 111], 8364, false), ([108, 97, 114, 114], 8592, false), ([117, 97, 114, 114], 8593, false), ([114, 97, 114, 114], 8594, false), ([100, 97, 114, 114], 8595, false), ([105, 110], 8712, false), ([110, 111, 116, 105, 110], 8713, false), ([109, 105, 110, 117, 115], 8722, false), ([105, 110, 102, 105, 110], 8734, false), ([110, 101], 8800, false), ([108, 101], 8804, false), ([103, 101], 8805, false), ([108, 97, 110, 103], 10216, false), ([114, 97, 110, 103], 10217, false)]
/-- How many bytes a name has at a place, its ; among them; 0: it isn't there. -/
def hit (r : List Nat) (e : List Nat × Nat × Bool) : Nat :=
  if e.1.isPrefixOf r = true then (if r[e.1.length]? = some 59 then e.1.length + 1 else if e.2.2 = true then e.1.length else 0) else 0
/-- The longest. -/
def best (r : List Nat) (l : List (List Nat × Nat × Bool)) (b : Nat × Nat) : Nat × Nat := l.foldl (fun b e => if b.1 < hit r e then (hit r e, e.2.1) else b) b
def goesOn : Option Nat → Bool
  | some c => decide (c = 61) || isLet c || isNum c
  | none => false
/-- A reference by name, behind &. -/
def nameL (attr : Bool) (r : List Nat) : Ref :=
  let b := best r tab (0, 0)
  if b.1 = 0 then noRef
  else if attr = true ∧ r[b.1 - 1]? ≠ some 59 ∧ goesOn r[b.1]? = true then noRef
  else ⟨b.2, b.1 + 1, true⟩

/-! What is told of the tables. -/
end Go.CharrefKit

