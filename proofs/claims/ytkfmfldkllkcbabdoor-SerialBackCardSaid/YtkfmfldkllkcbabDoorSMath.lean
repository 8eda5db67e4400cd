/-
  Escaped texts over lists of bytes: the document's answer, by definition; what the language's characters make of it. No conditions.
-/
import Derived.Test.YtkfmfldkllkcbabDoorUBytes
import Derived.Test.YtkfmfldkllkcbabDoorUDec2
import Derived.Test.YtkfmfldkllkcbabDoorRWords
import Derived.Test.YtkfmfldkllkcbabDoorRKind
import Derived.Test.YtkfmfldkllkcbabDoorUMath2
import Derived.Laws.IdiomStrings
import Derived.Lib.SlBytesConst
import Derived.Deep.RegionHeld3
import Derived.Deep.RegionHeld3
import Derived.Deep.RegionHeld3
import Derived.Deep.RegionHeld
import Derived.Lib.RuneBytes
namespace Go.SerialKit
open Go Go.Lib Go.TokenKit
def ampB : Bytes := [38, 97, 109, 112, 59]
def ltB : Bytes := [38, 108, 116, 59]
def gtB : Bytes := [38, 103, 116, 59]
def nbspB : Bytes := [38, 110, 98, 115, 112, 59]
def crB : Bytes := [38, 35, 49, 51, 59]
def quotB : Bytes := [38, 113, 117, 111, 116, 59]
/-- A byte alone, escaped. -/
def oneE (attr : Bool) (b : UInt8) : Bytes :=
  if b = 38 then ampB else if b = 13 then crB else if b = 60 ∧ attr = false then ltB else if b = 62 ∧ attr = false then gtB else if b = 34 ∧ attr = true then quotB else [b]
/-- P6.1. -/
def escR (attr : Bool) : Bytes → Bytes
  | [] => []
  | [b] => oneE attr b
  | b :: c :: r => if b = 194 ∧ c = 160 then nbspB ++ escR attr r else oneE attr b ++ escR attr (c :: r)
theorem escR_cons {attr : Bool} {b : UInt8} (h : b ≠ 194) (r : Bytes) : escR attr (b :: r) = oneE attr b ++ escR attr r := by
  cases r with
  | nil => simp [escR]
  | cons c r => rw [escR, if_neg (fun e => h e.1)]
theorem escR_not {attr : Bool} {b c : UInt8} (h : c ≠ 160) (r : Bytes) : escR attr (b :: c :: r) = oneE attr b ++ escR attr (c :: r) := by
  rw [escR, if_neg (fun e => h e.2)]
/-- How a character is written, if not as itself. -/
def refOf (attr : Bool) (r : Int) : Bytes :=
  if attr = true then (if r = 34 then quotB else if r = 38 then ampB else if r = 160 then nbspB else if r = 13 then crB else [])
  else (if r = 60 then ltB else if r = 62 then gtB else if r = 38 then ampB else if r = 160 then nbspB else if r = 13 then crB else [])
/-- A byte that is written as itself. -/
theorem oneE_plain {attr : Bool} {b : UInt8} (h : refOf attr (b.toNat : Int) = []) : oneE attr b = [b] := by
  have ne : ∀ {k : Nat}, k < 256 → b.toNat ≠ k → b ≠ UInt8.ofNat k := fun hk h e => h (by rw [e]; simp; omega)
  unfold refOf at h
  unfold oneE
  cases attr with
  | true =>
    simp only [if_true] at h
    repeat' split at h
    all_goals first | (simp [quotB, ampB, nbspB, crB] at h; done) | skip
    rename_i h1 h2 h3 h4
    rw [if_neg (show b ≠ 38 from ne (k := 38) (by omega) (by omega)), if_neg (show b ≠ 13 from ne (k := 13) (by omega) (by omega)), if_neg (by simp), if_neg (by simp), if_neg (fun e => (show b ≠ 34 from ne (k := 34) (by omega) (by omega)) e.1)]
  | false =>
    simp only [Bool.false_eq_true, if_false] at h
    repeat' split at h
    all_goals first | (simp [ltB, gtB, ampB, nbspB, crB] at h; done) | skip
    rename_i h1 h2 h3 h4 h5
    rw [if_neg (show b ≠ 38 from ne (k := 38) (by omega) (by omega)), if_neg (show b ≠ 13 from ne (k := 13) (by omega) (by omega)), if_neg (fun e => (show b ≠ 60 from ne (k := 60) (by omega) (by omega)) e.1), if_neg (fun e => (show b ≠ 62 from ne (k := 62) (by omega) (by omega)) e.1), if_neg (by simp)]
theorem refOf_big {attr : Bool} {r : Int} (h : 63 ≤ r) (h2 : r ≠ 160) : refOf attr r = [] := by
  unfold refOf
  cases attr
  all_goals
    simp only [Bool.false_eq_true, if_false, if_true]
    repeat' split
    all_goals first | rfl | omega
/-- Bytes that are written as they stand. -/
theorem escR_pass {attr : Bool} : ∀ (x r : Bytes), (∀ b, b ∈ x → oneE attr b = [b] ∧ b ≠ 194) → escR attr (x ++ r) = x ++ escR attr r
  | [], r, _ => rfl
  | b :: x, r, h => by
    rw [List.cons_append, escR_cons (h b (by simp)).2, (h b (by simp)).1, escR_pass x r (fun c hc => h c (by simp [hc]))]
    rfl
theorem u8_of {x : Int} (_h0 : 0 ≤ x) (h1 : x < 256) : (x.toNat.toUInt8).toNat = x.toNat := by
  simp; omega
theorem escR_rune {attr : Bool} {z : Int} (h0 : 0 ≤ z) (h1 : z ≤ 1114111) (hs : ¬ (55296 ≤ z ∧ z ≤ 57343)) (h : refOf attr z = []) (r : Bytes) : escR attr (encodeRune z ++ r) = encodeRune z ++ escR attr r := by
  have high : ∀ x : Int, 128 ≤ x → x < 256 → x ≠ 160 ∨ True → oneE attr x.toNat.toUInt8 = [x.toNat.toUInt8] := fun x hx hy _ => by
    by_cases h160 : x = 160
    · subst h160
      cases attr <;> rfl
    · refine oneE_plain (refOf_big ?_ ?_)
      · rw [u8_of (by omega) hy]; omega
      · rw [u8_of (by omega) hy]; omega
  have n194 : ∀ x : Int, 0 ≤ x → x < 256 → x ≠ 194 → x.toNat.toUInt8 ≠ 194 := fun x hx hy hn e => by
    have := congrArg UInt8.toNat e
    rw [u8_of hx hy] at this
    simp at this
    omega
  unfold encodeRune
  by_cases c1 : z ≤ 127
  · rw [encodeRuneZ_one h0 c1]
    refine escR_pass _ _ (fun b hb => ?_)
    simp only [List.map_cons, List.map_nil, List.mem_singleton] at hb
    subst hb
    refine ⟨oneE_plain (by rw [u8_of h0 (by omega), Int.toNat_of_nonneg h0]; exact h), n194 z h0 (by omega) (by omega)⟩
  by_cases c2 : z ≤ 2047
  · rw [encodeRuneZ_two (by omega) c2]
    have hne : z ≠ 160 := fun e => by subst e; cases attr <;> simp [refOf, nbspB] at h
    by_cases c194 : z < 192
    · have e1 : (192 + z / 64) = 194 := by omega
      have hne2 : ((128 + z % 64).toNat.toUInt8) ≠ 160 := fun e => by
        have := congrArg UInt8.toNat e
        rw [u8_of (by omega) (by omega)] at this
        simp at this
        omega
      simp only [List.map_cons, List.map_nil, e1, List.cons_append, List.nil_append]
      rw [escR_not hne2, escR_cons (n194 _ (by omega) (by omega) (by omega)), high 194 (by omega) (by omega) (.inr trivial), high _ (by omega) (by omega) (.inr trivial)]
      rfl
    · refine escR_pass _ _ (fun b hb => ?_)
      simp only [List.map_cons, List.map_nil, List.mem_cons, List.not_mem_nil, or_false] at hb
      rcases hb with rfl | rfl
      · exact ⟨high _ (by omega) (by omega) (.inr trivial), n194 _ (by omega) (by omega) (by omega)⟩
      · exact ⟨high _ (by omega) (by omega) (.inr trivial), n194 _ (by omega) (by omega) (by omega)⟩
  by_cases c3 : z ≤ 65535
  · rw [encodeRuneZ_three (by omega)]
    refine escR_pass _ _ (fun b hb => ?_)
    simp only [List.map_cons, List.map_nil, List.mem_cons, List.not_mem_nil, or_false] at hb
    rcases hb with rfl | rfl | rfl
    all_goals exact ⟨high _ (by omega) (by omega) (.inr trivial), n194 _ (by omega) (by omega) (by omega)⟩
  · rw [encodeRuneZ_four (by omega) h1]
    refine escR_pass _ _ (fun b hb => ?_)
    simp only [List.map_cons, List.map_nil, List.mem_cons, List.not_mem_nil, or_false] at hb
    rcases hb with rfl | rfl | rfl | rfl
    all_goals exact ⟨high _ (by omega) (by omega) (.inr trivial), n194 _ (by omega) (by omega) (by omega)⟩
end Go.SerialKit

