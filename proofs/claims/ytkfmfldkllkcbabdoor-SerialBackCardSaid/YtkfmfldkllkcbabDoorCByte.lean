/-
  Functions of one byte; the beginning of a text. No conditions.
-/
import Derived.Test.YtkfmfldkllkcbabDoorCMath
import Derived.Test.YtkfmfldkllkcbabDoorKit
import Derived.Test.YtkfmfldkllkcbabDoorShelf
import Derived.Laws.Strings
import Derived.Laws.Cover1
namespace Go.Proofs.YtkfmfldkllkcbabDoor
open Go.RowKit Go.RunKit Go.CharrefKit Go.Lib

set_option maxRecDepth 100000 in
set_option maxHeartbeats 1000000 in
theorem isLetter_any (b : Nat) (hb : b < 256) (w : World) :
    Calls Tryd.prog 63 #[.int .u8 (b : Nat)] w fun e w' => e = .returned (.bool (isLet b)) ∧ w = w' := by
  by_cases h1 : (97 : Int) ≤ b <;> by_cases h2 : (b : Int) ≤ 122 <;> by_cases h3 : (65 : Int) ≤ b <;> by_cases h4 : (b : Int) ≤ 90
  all_goals (try (exfalso; omega))
  all_goals
    go_enter Tryd.func63, Tryd.ntmps63
    go_wp2
    go_ret
    refine ⟨ret1_eq (congrArg Value.bool ?_), rfl⟩
    unfold isLet
    try simp
    try omega
def refDigV (b : Nat) : Int := if digitV b < 16 then ((digitV b : Nat) : Int) else -1
theorem digitV_cases (b : Nat) : (48 ≤ b ∧ b ≤ 57 ∧ digitV b = b - 48) ∨ (97 ≤ b ∧ b ≤ 102 ∧ digitV b = b - 97 + 10) ∨ (65 ≤ b ∧ b ≤ 70 ∧ digitV b = b - 65 + 10) ∨ (¬ (48 ≤ b ∧ b ≤ 57) ∧ ¬ (97 ≤ b ∧ b ≤ 102) ∧ ¬ (65 ≤ b ∧ b ≤ 70) ∧ digitV b = 16) := by
  unfold digitV
  repeat' split
  all_goals omega
set_option maxRecDepth 100000 in
set_option maxHeartbeats 1000000 in
theorem digit_any (b : Nat) (hb : b < 256) (w : World) :
    Calls Tryd.prog 46 #[.int .u8 (b : Nat)] w fun e w' => e = .returned (.int .i32 (((digitV b : Nat) : Int))) ∧ w = w' := by
  by_cases h1 : (48 : Int) ≤ b <;> by_cases h2 : (b : Int) ≤ 57 <;> by_cases h3 : (97 : Int) ≤ b <;> by_cases h4 : (b : Int) ≤ 102 <;> by_cases h5 : (65 : Int) ≤ b <;> by_cases h6 : (b : Int) ≤ 70
  all_goals (try (exfalso; omega))
  all_goals
    go_enter Tryd.func46, Tryd.ntmps46
    go_wp2
    go_ret
    refine ⟨ret1_eq (congrArg (Value.int IntKind.i32) ?_), rfl⟩
    have hd := digitV_cases b
    try unfold refDigV
    (try split) <;> omega
/-! Texts as lists. -/
def natsOf (s : ByteArray) : List Nat := nats s.data.toList
theorem natsOf_length (s : ByteArray) : (natsOf s).length = s.size := by simp [natsOf, nats]
theorem natsOf_extract (s : ByteArray) (i j : Nat) : natsOf (s.extract i j) = ((natsOf s).drop i).take (j - i) := by
  simp [natsOf, nats, List.extract]
theorem natsOf_drop (s : ByteArray) (i : Nat) : natsOf (s.extract i s.size) = (natsOf s).drop i := by
  rw [natsOf_extract s i _, List.take_of_length_le]
  simp [natsOf_length]
theorem nats_inj : ∀ {a b : List UInt8}, nats a = nats b → a = b
  | [], [], _ => rfl
  | [], _ :: _, h => by cases h
  | _ :: _, [], h => by cases h
  | x :: a, y :: b, h => by
    simp only [nats, List.map_cons, List.cons.injEq] at h
    rw [UInt8.toNat_inj.1 h.1, nats_inj (a := a) (b := b) h.2]
theorem toList_eq_nats (a b : ByteArray) : (a.toList == b.toList) = decide (natsOf a = natsOf b) := by
  rw [Bool.eq_iff_iff, beq_iff_eq, decide_eq_true_eq, ByteArray.toList_eq, ByteArray.toList_eq]
  exact ⟨fun h => by unfold natsOf; rw [h], fun h => nats_inj h⟩
/-- Does a text begin with another one? -/
def hasPre (s p : ByteArray) : Bool := (natsOf p).isPrefixOf (natsOf s)
theorem hasPre_yes (s p : ByteArray) : ((s.extract 0 p.size).toList == p.toList) = hasPre s p := by
  have h2 := natsOf_length p
  have e : natsOf (s.extract 0 p.size) = (natsOf s).take p.size := by rw [natsOf_extract s 0 _]; simp
  unfold hasPre
  rw [toList_eq_nats, Bool.eq_iff_iff, List.isPrefixOf_iff_prefix, decide_eq_true_eq, List.prefix_iff_eq_take, h2, ← e]
  exact ⟨fun h => h.symm, fun h => h.symm⟩
theorem hasPre_no {s p : ByteArray} (h : ¬ p.size ≤ s.size) : hasPre s p = false := by
  have h1 := natsOf_length s
  have h2 := natsOf_length p
  unfold hasPre
  rw [Bool.eq_false_iff]
  intro hp
  have := (List.isPrefixOf_iff_prefix.1 hp).length_le
  omega
theorem natsOf_at (s : ByteArray) (i : Nat) (h : i < s.size) : (natsOf s)[i]? = some (s[i]'h).toNat := by
  have h2 : i < s.data.toList.length := by simpa using h
  simp only [natsOf, nats, List.getElem?_map, List.getElem?_eq_getElem h2, Option.map_some]
  rfl

set_option maxRecDepth 100000 in
set_option maxHeartbeats 1000000 in
theorem hasPrefix1_any (s p : ByteArray) (w : World) :
    Calls Tryd.prog 45 #[.string s, .string p] w fun e w' => e = .returned (.bool (hasPre s p)) ∧ w = w' := by
  by_cases h : (p.size : Int) ≤ s.size
  · go_enter Tryd.func45, Tryd.ntmps45
    go_wp2
    go_ret
    exact ⟨ret1_eq (congrArg Value.bool (hasPre_yes s p)), rfl⟩
  · have hF := eq_false h
    go_enter Tryd.func45, Tryd.ntmps45
    go_wp2
    go_ret
    exact ⟨ret1_eq (congrArg Value.bool (hasPre_no (by omega)).symm), rfl⟩
set_option maxRecDepth 100000 in
set_option maxHeartbeats 1000000 in
theorem hasPrefix_any (s p : ByteArray) (w : World) :
    Calls Tryd.prog 34 #[.string s, .string p] w fun e w' => e = .returned (.bool (hasPre s p)) ∧ w = w' := by
  have H := Lib.hid (hasPrefix1_any s p w)
  go_enter Tryd.func34, Tryd.ntmps34
  go_wp2_with (go_at_call 45; refine H.out.mono ?_; rintro e w1 ⟨rfl, rfl⟩)
  go_ret
  exact ⟨rfl, rfl⟩
end Go.Proofs.YtkfmfldkllkcbabDoor

