/-
  Trees over lists: the elements of the subset, and how tokens are built into a tree. No conditions.
-/
import Derived.Test.YtkfmfldkllkcbabDoorTMath
namespace Go.TreeKit
open Go Go.Lib Go.CharrefKit Go.TokenKit

/-- An open node. -/
structure Opd where
  node : Nat
  name : Bytes
  kind : Nat
  deriving DecidableEq
/-- The elements of the subset, and their kinds. -/
def kindTab : List (Bytes × Nat) := [([100, 105, 118], 1), ([117, 108], 1), ([111, 108], 1), ([115, 101, 99, 116, 105, 111, 110], 1), ([97, 114, 116, 105, 99, 108, 101], 1), ([104, 101, 97, 100, 101, 114], 1), ([102, 111, 111, 116, 101, 114], 1), ([109, 97, 105, 110], 1), ([110, 97, 118], 1), ([97, 115, 105, 100, 101], 1), ([98, 108, 111, 99, 107, 113, 117, 111, 116, 101], 1), ([102, 105, 103, 117, 114, 101], 1),
  ([112], 2), ([108, 105], 3), ([104, 49], 4), ([104, 50], 4), ([104, 51], 4), ([104, 52], 4), ([104, 53], 4), ([104, 54], 4),
  ([115, 112, 97, 110], 5), ([98], 5), ([105], 5), ([101, 109], 5), ([115, 116, 114, 111, 110, 103], 5), ([117], 5), ([115], 5), ([115, 109, 97, 108, 108], 5), ([99, 111, 100, 101], 5), ([98, 100, 105], 5), ([98, 100, 111], 5), ([97, 98, 98, 114], 5), ([99, 105, 116, 101], 5), ([113], 5), ([115, 117, 98], 5), ([115, 117, 112], 5), ([109, 97, 114, 107], 5),
  ([97], 6), ([98, 114], 7), ([119, 98, 114], 7), ([104, 114], 8)]
def kindL (w : Bytes) : Nat := ((kindTab.find? fun p => p.1 == w).map (·.2)).getD 0
theorem kind_le (w : Bytes) : kindL w ≤ 8 := by
  unfold kindL
  cases h : kindTab.find? fun p => p.1 == w with
  | none => exact Nat.zero_le _
  | some p =>
    have hm := List.mem_of_find?_eq_some h
    have : (kindTab.all fun p => decide (p.2 ≤ 8)) = true := by decide
    simpa using List.all_eq_true.1 this p hm
def voidK (k : Nat) : Bool := k == 7 || k == 8
def endsK (k : Nat) : Bool := k == 1 || k == 2 || k == 3 || k == 4 || k == 8
def wallO (o : Opd) : Bool := o.kind == 4 || (o.kind == 1 && !(o.name == [100, 105, 118]))
/-- Is an element of a kind open? (The last of the list is the document.) -/
def hasR (k : Nat) : List Opd → Bool
  | [] => false
  | [_] => false
  | o :: r => if o.kind == k then true else if k == 3 && wallO o then false else hasR k r
def topO (l : List Opd) : Opd := l.headD ⟨0, [], 0⟩
def takesL (k : Nat) (l : List Opd) : Bool :=
  if endsK k && hasR 2 l then false
  else if k == 3 || k == 6 then !hasR k l
  else if k == 4 then !((topO l).kind == 4)
  else true
end Go.TreeKit

