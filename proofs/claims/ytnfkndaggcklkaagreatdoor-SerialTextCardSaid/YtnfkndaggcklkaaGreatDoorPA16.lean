/-
  Escaped texts, character by character as the language cuts them. No conditions.
  A run by the kernel of a function that touches no memory, its callees taken by a table of their answers; the callees may lay blocks of their own. No conditions.
  The document's cut of a text's first part. No conditions.
  The document's cut of a text's first part: it is 'cutAt'. No conditions.
  The document's cut of a text's first part, walked. No conditions.
  What the cut's loop comes to is the part. No conditions.
  The document's cut of a text's first part is 'cutAt', at whatever place of a text. No conditions.
  Is a text well-formed, and without the character 0: the document's way. No conditions.
-/
import Derived.Test.YtnfkndaggcklkaaGreatDoorPA15
import Derived.Test.YtnfkndaggcklkaaGreatDoorPA1
import Derived.Test.YtnfkndaggcklkaaGreatDoorPA0
import Derived.Test.YtnfkndaggcklkaaGreatDoorRows
import Derived.Laws.BitsLemmas
import Derived.Laws.Bits64
namespace Go.Proofs.YtnfkndaggcklkaaGreatDoor
open Go.RowKit Go.RunKit Go.UtfKit Go.CharrefKit Go.Lib Go.TokenKit Go.TreeKit Go.SerialKit

theorem drop_cut {s : ByteArray} {i : Nat} (hi : i < s.size) (ho : (cutAt s i).ok = true) : (bl s).drop i = encodeRune ((cutAt s i).char : Nat) ++ (bl s).drop (i + (cutAt s i).len) := by
  have e : (s.extract i (i + (cutAt s i).len)).data.toList = ((bl s).drop i).take (cutAt s i).len := by
    simp [bl, List.extract]
  rw [U.encode_at s i hi ho, e, ← List.drop_drop]
  exact (List.take_append_drop _ _).symm
theorem cut_valid {s : ByteArray} {j : Nat} (ho : (cutAt s j).ok = true) : (cutAt s j).char ≤ 1114111 ∧ ¬ (55296 ≤ (cutAt s j).char ∧ (cutAt s j).char ≤ 57343) := by
  have hv := decodeN_valid (s.size - j) (byteAt s j) (byteAt s (j + 1)) (byteAt s (j + 2)) (byteAt s (j + 3)) (byteAt_lt _ _)
  rw [decode_cut _ _ _ _ _ (byteAt_lt _ _) (byteAt_lt _ _) (byteAt_lt _ _) (byteAt_lt _ _)] at hv
  change (if (cutAt s j).ok = true then ((cutAt s j).char, (cutAt s j).len) else (65533, 1)).1 < 55296 ∨ (57343 < (if (cutAt s j).ok = true then ((cutAt s j).char, (cutAt s j).len) else (65533, 1)).1 ∧ (if (cutAt s j).ok = true then ((cutAt s j).char, (cutAt s j).len) else (65533, 1)).1 ≤ 1114111) at hv
  rw [ho] at hv
  simp only [if_true] at hv
  omega
theorem byte_drop {s : ByteArray} {i : Nat} (hi : i < s.size) : ∃ b, (bl s).drop i = b :: (bl s).drop (i + 1) ∧ byteAt s i = b.toNat := by
  have hl : i < (bl s).length := by rw [bl_length]; exact hi
  refine ⟨(bl s)[i], List.drop_eq_getElem_cons hl, ?_⟩
  rw [U.byteAt_get s i hi]
  rfl
theorem ref_one (attr : Bool) (r : Int) (h : refOf attr r ≠ []) : (r = 34 ∨ r = 38 ∨ r = 60 ∨ r = 62 ∨ r = 13) ∨ r = 160 := by
  unfold refOf at h
  cases attr
  all_goals
    simp only [Bool.false_eq_true, if_false, if_true] at h
    repeat' split at h
    all_goals first | (exact absurd rfl h) | omega
theorem esc_step (attr : Bool) (s : ByteArray) (pos : Nat) (h : pos < s.size) :
    (refOf attr ((Utf8.decode s pos).1 : Nat) = [] → escR attr ((bl s).drop pos) = ((bl s).drop pos).take (Utf8.decode s pos).2 ++ escR attr ((bl s).drop (pos + (Utf8.decode s pos).2))) ∧
    (refOf attr ((Utf8.decode s pos).1 : Nat) ≠ [] → escR attr ((bl s).drop pos) = refOf attr ((Utf8.decode s pos).1 : Nat) ++ escR attr ((bl s).drop (pos + (Utf8.decode s pos).2)) ∧ Lib.runeLen ((Utf8.decode s pos).1 : Nat) = ((Utf8.decode s pos).2 : Nat)) ∧
    1 ≤ (Utf8.decode s pos).2 ∧ pos + (Utf8.decode s pos).2 ≤ s.size := by
  rw [decode_at_cut]
  have hl := cutAt_len s pos h
  cases ho : (cutAt s pos).ok with
  | true =>
    rw [if_pos rfl]
    simp only
    have hd := drop_cut h ho
    obtain ⟨hv1, hv2⟩ := cut_valid ho
    have hlen : (encodeRune ((cutAt s pos).char : Nat)).length = (cutAt s pos).len := by
      have := congrArg List.length hd
      rw [List.length_append, List.length_drop, List.length_drop, bl_length] at this
      omega
    refine ⟨fun hr => ?_, fun hr => ?_, hl⟩
    · have e : ((bl s).drop pos).take (cutAt s pos).len = encodeRune ((cutAt s pos).char : Nat) := by
        rw [hd, ← hlen, List.take_left]
      rw [e, hd]
      exact escR_rune (by omega) (by omega) (by omega) hr _
    · rcases ref_one attr _ hr with hc | hc
      · generalize (cutAt s pos).char = c at *
        have hc2 : c = 34 ∨ c = 38 ∨ c = 60 ∨ c = 62 ∨ c = 13 := by omega
        rcases hc2 with rfl | rfl | rfl | rfl | rfl
        all_goals
          refine ⟨?_, ?_⟩
          · rw [hd]
            cases attr
            all_goals first
              | (exact absurd rfl hr)
              | (exact escR_cons (by decide) _)
          · rw [← hlen]; decide
      · generalize (cutAt s pos).char = c at *
        have hc2 : c = 160 := by omega
        subst hc2
        refine ⟨?_, by rw [← hlen]; decide⟩
        rw [hd]
        cases attr
        all_goals
          show escR _ (194 :: 160 :: (bl s).drop (pos + (cutAt s pos).len)) = _
          rw [escR, if_pos ⟨rfl, rfl⟩]
          rfl
  | false =>
    rw [if_neg (by decide)]
    simp only
    have hbig : refOf attr ((65533 : Nat) : Int) = [] := refOf_big (by omega) (by omega)
    refine ⟨fun _ => ?_, fun hr => absurd hbig hr, Nat.le_refl _, by omega⟩
    obtain ⟨b, hb, hbn⟩ := byte_drop h
    have h128 : 128 ≤ b.toNat := by
      rw [← hbn]
      by_cases hlt : byteAt s pos < 128
      · have : (cutAt s pos).ok = true := by unfold cutAt cutN; rw [if_pos hlt]
        rw [this] at ho; cases ho
      · omega
    have h1 : oneE attr b = [b] := by
      by_cases h160 : b.toNat = 160
      · obtain rfl : b = 160 := UInt8.toNat_inj.1 (by simpa using h160)
        cases attr <;> rfl
      · exact oneE_plain (refOf_big (by omega) (by omega))
    have hgoal : escR attr (b :: (bl s).drop (pos + 1)) = b :: escR attr ((bl s).drop (pos + 1)) := by
      by_cases hp : pos + 1 < s.size
      · obtain ⟨c, hc, hcn⟩ := byte_drop hp
        rw [hc]
        by_cases h194 : b = 194 ∧ c = 160
        · exfalso
          obtain ⟨rfl, rfl⟩ := h194
          have hb0 : byteAt s pos = 194 := hbn
          have hb1 : byteAt s (pos + 1) = 160 := hcn
          have hn : 1 < s.size - pos := by omega
          have : (cutAt s pos).ok = true := by
            unfold cutAt cutN
            rw [hb0, hb1]
            simp [sec, hn]
          rw [this] at ho; cases ho
        · rw [escR, if_neg h194, h1]
          rfl
      · rw [List.drop_eq_nil_of_le (by rw [bl_length]; omega)]
        show oneE attr b = _
        rw [h1]; rfl
    rw [hb, hgoal]
    rfl
end Go.Proofs.YtnfkndaggcklkaaGreatDoor

namespace Go.RunKit
open Go Go.RowKit

/-- The answers of the callees. -/
abbrev Table := FuncId → Array Value → Option Value
def inside (n : Nat) : List Oper → Bool
  | [] => true
  | o :: r => (match o.dst with
    | some d => Nat.blt d n
    | none => true) && inside n r
variable {P : Program} {T : Table}

end Go.RunKit

namespace Go.Proofs.YtnfkndaggcklkaaGreatDoor.U
open Go.RowKit Go.RunKit Go.UtfKit Go.Lib

/-- How many bytes a part has that begins so; 0: none does. -/
def sizeR (b : Nat) : Nat := if b < 128 then 1 else if b < 194 then 0 else if b < 224 then 2 else if b < 240 then 3 else if b < 245 then 4 else 0

set_option maxRecDepth 100000 in
set_option maxHeartbeats 1000000 in
theorem size_any (b : Nat) (hb : b < 256) (w : World) : Calls Tryz.prog 91 #[.int .u8 (b : Nat)] w fun e w' => e = .returned (.int .i64 (sizeR b : Nat)) ∧ w = w' := by
  by_cases c1 : b < 128
  · have E : Hid (sizeR b = 1) := Lib.hid (by simp [sizeR, c1])
    have d1 : (b : Int) < 128 := by omega
    go_enter Tryz.func91, Tryz.ntmps91
    go_wp2
    go_ret
    rw [E.out]; exact ⟨rfl, rfl⟩
  have d1 := eq_false (show ¬ (b : Int) < 128 by omega)
  by_cases c2 : b < 194
  · have E : Hid (sizeR b = 0) := Lib.hid (by simp [sizeR, c1, c2])
    have d2 := eq_false (show ¬ (194 : Int) ≤ b by omega)
    have d3 := eq_false (show ¬ (224 : Int) ≤ b by omega)
    have d4 := eq_false (show ¬ (240 : Int) ≤ b by omega)
    go_enter Tryz.func91, Tryz.ntmps91
    go_wp2
    go_ret
    rw [E.out]; exact ⟨rfl, rfl⟩
  have d2 : (194 : Int) ≤ b := by omega
  by_cases c3 : b < 224
  · have E : Hid (sizeR b = 2) := Lib.hid (by simp [sizeR, c1, c2, c3])
    have d3 : (b : Int) ≤ 223 := by omega
    go_enter Tryz.func91, Tryz.ntmps91
    go_wp2
    go_ret
    rw [E.out]; exact ⟨rfl, rfl⟩
  have d3 : (224 : Int) ≤ b := by omega
  have d3' := eq_false (show ¬ (b : Int) ≤ 223 by omega)
  by_cases c4 : b < 240
  · have E : Hid (sizeR b = 3) := Lib.hid (by simp [sizeR, c1, c2, c3, c4])
    have d4 : (b : Int) ≤ 239 := by omega
    go_enter Tryz.func91, Tryz.ntmps91
    go_wp2
    go_ret
    rw [E.out]; exact ⟨rfl, rfl⟩
  have d4 : (240 : Int) ≤ b := by omega
  have d4' := eq_false (show ¬ (b : Int) ≤ 239 by omega)
  by_cases c5 : b < 245
  · have E : Hid (sizeR b = 4) := Lib.hid (by simp [sizeR, c1, c2, c3, c4, c5])
    have d5 : (b : Int) ≤ 244 := by omega
    go_enter Tryz.func91, Tryz.ntmps91
    go_wp2
    go_ret
    rw [E.out]; exact ⟨rfl, rfl⟩
  · have E : Hid (sizeR b = 0) := Lib.hid (by simp [sizeR, c1, c2, c3, c4, c5])
    have d5 := eq_false (show ¬ (b : Int) ≤ 244 by omega)
    go_enter Tryz.func91, Tryz.ntmps91
    go_wp2
    go_ret
    rw [E.out]; exact ⟨rfl, rfl⟩

set_option maxRecDepth 100000 in
set_option maxHeartbeats 2000000 in
theorem second_any (a b : Nat) (w : World) : Calls Tryz.prog 92 #[.int .u8 (a : Nat), .int .u8 (b : Nat)] w fun e w' => e = .returned (.bool (sec a b)) ∧ w = w' := by
  have key : ∀ (lo hi : Nat), sec a b = decide (lo ≤ b ∧ b ≤ hi) → ((lo : Int) ≤ b ∧ (b : Int) ≤ hi ∧ sec a b = true) ∨ (¬ (lo : Int) ≤ b ∧ sec a b = false) ∨ ((lo : Int) ≤ b ∧ ¬ (b : Int) ≤ hi ∧ sec a b = false) := by
    intro lo hi h
    rw [h]
    by_cases h1 : lo ≤ b
    · by_cases h2 : b ≤ hi
      · exact .inl ⟨by omega, by omega, by simp [h1, h2]⟩
      · exact .inr (.inr ⟨by omega, by omega, by simp [h2]⟩)
    · exact .inr (.inl ⟨by omega, by simp [h1]⟩)
  by_cases c0 : a = 224
  · subst c0
    rcases key 160 191 rfl with ⟨h1, h2, h3⟩ | ⟨h1, h3⟩ | ⟨h1, h2, h3⟩
    all_goals
      rw [h3]
      clear h3 key
      first | (have h1' := eq_false h1) | skip
      first | (have h2' := eq_false h2) | skip
      go_enter Tryz.func92, Tryz.ntmps92
      go_wp2
      go_ret
      refine ⟨ret1_eq ?_, rfl⟩
      first | rfl | (simp; omega)
  have e0 := eq_false (show ¬ (a : Int) = 224 by omega)
  by_cases c1 : a = 237
  · subst c1
    rcases key 128 159 rfl with ⟨h1, h2, h3⟩ | ⟨h1, h3⟩ | ⟨h1, h2, h3⟩
    all_goals
      rw [h3]
      clear h3 key
      first | (have h1' := eq_false h1) | skip
      first | (have h2' := eq_false h2) | skip
      go_enter Tryz.func92, Tryz.ntmps92
      go_wp2
      go_ret
      refine ⟨ret1_eq ?_, rfl⟩
      first | rfl | (simp; omega)
  have e1 := eq_false (show ¬ (a : Int) = 237 by omega)
  by_cases c2 : a = 240
  · subst c2
    rcases key 144 191 rfl with ⟨h1, h2, h3⟩ | ⟨h1, h3⟩ | ⟨h1, h2, h3⟩
    all_goals
      rw [h3]
      clear h3 key
      first | (have h1' := eq_false h1) | skip
      first | (have h2' := eq_false h2) | skip
      go_enter Tryz.func92, Tryz.ntmps92
      go_wp2
      go_ret
      refine ⟨ret1_eq ?_, rfl⟩
      first | rfl | (simp; omega)
  have e2 := eq_false (show ¬ (a : Int) = 240 by omega)
  by_cases c3 : a = 244
  · subst c3
    rcases key 128 143 rfl with ⟨h1, h2, h3⟩ | ⟨h1, h3⟩ | ⟨h1, h2, h3⟩
    all_goals
      rw [h3]
      clear h3 key
      first | (have h1' := eq_false h1) | skip
      first | (have h2' := eq_false h2) | skip
      go_enter Tryz.func92, Tryz.ntmps92
      go_wp2
      go_ret
      refine ⟨ret1_eq ?_, rfl⟩
      first | rfl | (simp; omega)
  have e3 := eq_false (show ¬ (a : Int) = 244 by omega)
  rcases key 128 191 (by unfold sec; rw [if_neg c0, if_neg c1, if_neg c2, if_neg c3]) with ⟨h1, h2, h3⟩ | ⟨h1, h3⟩ | ⟨h1, h2, h3⟩
  all_goals
    rw [h3]
    clear h3 key
    first | (have h1' := eq_false h1) | skip
    first | (have h2' := eq_false h2) | skip
    go_enter Tryz.func92, Tryz.ntmps92
    go_wp2
    go_ret
    refine ⟨ret1_eq ?_, rfl⟩
    first | rfl | (simp; omega)
end Go.Proofs.YtnfkndaggcklkaaGreatDoor.U

namespace Go.Proofs.YtnfkndaggcklkaaGreatDoor.U
open Go.RowKit Go.RunKit Go.UtfKit Go.Lib

def partCells (p : Part) : Array Value := #[.int .i32 (p.char : Nat), .int .i64 (p.len : Nat), .bool p.ok]

/-- The character so far, behind i bytes of n. -/
def soFar (s : ByteArray) (n : Nat) : Nat → Nat
  | 0 => 0
  | 1 => byteAt s 0 % (if n = 2 then 32 else if n = 3 then 16 else 8)
  | i + 1 => soFar s n i * 64 + byteAt s i % 64
/-- The bytes behind the first, up to i, go on a part. -/
def Tails (s : ByteArray) (i : Nat) : Prop := ∀ j, 1 ≤ j → j < i → j < s.size ∧ (j = 1 → sec (byteAt s 0) (byteAt s 1) = true) ∧ tailB (byteAt s j) = true

theorem tails_one (s : ByteArray) : Tails s 1 := fun j h1 h2 => by omega
theorem tails_succ {s : ByteArray} {k : Nat} (hk : 1 ≤ k) (h : Tails s k) (h1 : k < s.size) (h2 : k = 1 → sec (byteAt s 0) (byteAt s 1) = true) (h3 : tailB (byteAt s k) = true) : Tails s (k + 1) := by
  intro j hj1 hj2
  by_cases e : j = k
  · subst e; exact ⟨h1, h2, h3⟩
  · exact h j hj1 (by omega)
theorem tails_not {s : ByteArray} {k : Nat} (hk : 1 ≤ k) (h : ¬ k < s.size ∨ (k = 1 ∧ sec (byteAt s 0) (byteAt s 1) = false) ∨ tailB (byteAt s k) = false) : ¬ Tails s (k + 1) := by
  intro ht
  obtain ⟨h1, h2, h3⟩ := ht k hk (by omega)
  rcases h with h | ⟨e, h⟩ | h
  · exact h h1
  · rw [h2 e] at h; cases h
  · rw [h3] at h; cases h

/-- A block of three cells of the call's own, and what a store of three leaves there. -/
def three (w : World) (b : Nat) (T : TypeId) (x y z : Value) : Prop := w.heap[b]? = some (Obj.cells #[x, y, z] T (0, 0))
theorem three_store {w : World} {b : Nat} {T : TypeId} {x y z x' y' z' : Value} (h : three w b T x y z) : three (((w.setCell ⟨b, 0, none⟩ x').setCell ⟨b, 1, none⟩ y').setCell ⟨b, 2, none⟩ z') b T x' y' z' := by
  unfold three at h ⊢
  simp [World.setCell, Array.getElem?_modify, h]
theorem three_cells {w : World} {b : Nat} {T : TypeId} {x y z : Value} (h : three w b T x y z) : w.cell? ⟨b, 0, none⟩ = some x ∧ w.cell? ⟨b, 1, none⟩ = some y ∧ w.cell? ⟨b, 2, none⟩ = some z ∧
    w.frozen? ⟨b, 0, none⟩ = false ∧ w.frozen? ⟨b, 1, none⟩ = false ∧ w.frozen? ⟨b, 2, none⟩ = false := by
  unfold three at h
  refine ⟨?_, ?_, ?_, frozen_of_row _ _ _ _ _ h, frozen_of_row _ _ _ _ _ h, frozen_of_row _ _ _ _ _ h⟩
  all_goals rw [cell_of_row _ _ _ _ _ _ h]; rfl

theorem wraps_i32 (n : Int) (h₀ : 0 ≤ n) (h₁ : n < 2 ^ 31) : IntKind.i32.wrap n = n := by
  rw [IntKind.wrap_i32]; omega
theorem and_low (b j : Nat) (hb : b < 256) (hj : j ≤ 8) : bits .and .i32 (b : Int) (((2 ^ j - 1 : Nat)) : Int) = ((b % 2 ^ j : Nat) : Int) := by
  have hp : 2 ^ j ≤ 2 ^ 8 := Nat.pow_le_pow_right (by decide) hj
  have h := (bits_nat .i32 31 (by decide) wraps_i32 b (2 ^ j - 1) (by omega) (by omega)).1
  rw [Nat.and_two_pow_sub_one_eq_mod] at h
  exact h
theorem or_low (x c : Nat) (hx : x < 16777216) : bits .or .i32 (wrap32 ((x : Int) * 64)) ((c : Int) % 64) = ((x * 64 + c % 64 : Nat) : Int) := by
  have e1 : wrap32 ((x : Int) * 64) = ((x * 64 : Nat) : Int) := by rw [IntWalk.wrap32_in _ ⟨by omega, by omega⟩]; push_cast; rfl
  have e2 : ((c : Int) % 64) = ((c % 64 : Nat) : Int) := by omega
  rw [e1, e2, (bits_nat .i32 31 (by decide) wraps_i32 (x * 64) (c % 64) (by omega) (by omega)).2]
  congr 1
  have h := Nat.shiftLeft_add_eq_or_of_lt (show c % 64 < 2 ^ 6 by omega) x
  rw [Nat.shiftLeft_eq] at h
  exact h.symm
theorem soFar_lt (s : ByteArray) (n : Nat) : soFar s n 1 < 32 ∧ soFar s n 2 < 2048 ∧ soFar s n 3 < 131072 ∧ soFar s n 4 < 8388608 := by
  have h1 : soFar s n 1 < 32 := by
    have e : soFar s n 1 = byteAt s 0 % (if n = 2 then 32 else if n = 3 then 16 else 8) := rfl
    rw [e]
    repeat' split
    all_goals omega
  have h2 : soFar s n 2 = soFar s n 1 * 64 + byteAt s 1 % 64 := rfl
  have h3 : soFar s n 3 = soFar s n 2 * 64 + byteAt s 2 % 64 := rfl
  have h4 : soFar s n 4 = soFar s n 3 * 64 + byteAt s 3 % 64 := rfl
  omega
theorem soFar_small (s : ByteArray) (n k : Nat) (hk : 1 ≤ k) (hk4 : k ≤ 4) : soFar s n k < 16777216 := by
  have := soFar_lt s n
  rcases (by omega : k = 1 ∨ k = 2 ∨ k = 3 ∨ k = 4) with rfl | rfl | rfl | rfl <;> omega
theorem soFar_succ (s : ByteArray) (n k : Nat) (hk : 1 ≤ k) : soFar s n (k + 1) = soFar s n k * 64 + byteAt s k % 64 := by
  obtain ⟨j, rfl⟩ : ∃ j, k = j + 1 := ⟨k - 1, by omega⟩
  rfl
theorem partAgg : (Tryz.prog.underlying 90).any (fun d => match d with | .struct _ | .array _ _ => true | _ => false) = true := by kernel_rfl
theorem partSize : (Tryz.prog.info? 90).map (·.size) = some 3 := by kernel_rfl
theorem part_results {fn : Func} (h : fn.results = #[.cell 2 90]) (tmps : Array Value) (w : World) (b : Nat) (x y z : Value) (hp : tmps.getD 2 undef = .pointer (some ⟨b, 0, none⟩)) (hc : three w b 90 x y z) :
    (results fn tmps).run Tryz.prog w = .ok (.agg #[x, y, z]) w := by
  cases hd : Tryz.prog.underlying 90 with
  | none => have := partAgg; rw [hd] at this; cases this
  | some d =>
    have ha := partAgg
    rw [hd] at ha
    exact results_cell_row h tmps w b _ _ _ d hp hc hd (by cases d <;> first | rfl | cases ha) partSize

end Go.Proofs.YtnfkndaggcklkaaGreatDoor.U

namespace Go.Proofs.YtnfkndaggcklkaaGreatDoor.U
open Go.RowKit Go.RunKit Go.UtfKit Go.Lib

set_option maxRecDepth 100000 in
set_option maxHeartbeats 4000000 in
theorem cut_more (s : ByteArray) (w : World) (hs : 0 < s.size) (b0 n : Nat) (e0 : (s[0]'hs).toNat = b0) (hz : sizeR b0 = n) (hn : n = 2 ∨ n = 3 ∨ n = 4) (hlt : b0 < 256) :
    Calls Tryz.prog 58 #[.string s] w fun e w' => ((∃ i, 1 ≤ i ∧ i < n ∧ Tails s i ∧ ¬ Tails s (i + 1) ∧ e = .returned (.agg #[.int .i32 65533, .int .i64 (i : Nat), .bool false])) ∨
      (Tails s n ∧ e = .returned (.agg #[.int .i32 (soFar s n n : Nat), .int .i64 (n : Nat), .bool true]))) ∧ Below w.heap.size w w' := by
  have hb : Below w.heap.size w (w.alloc (.cells #[.int .i32 0, .int .i64 0, .bool false] 90)) := (Below.refl _ _).alloc (Nat.le_refl _) _
  have hS := Lib.hid (size_any b0 hlt)
  rw [hz] at hS
  have E0 : Hid (byteAt s 0 = b0) := Lib.hid ((byteAt_get s 0 hs).trans e0)
  rcases hn with rfl | rfl | rfl
  · go_enter Tryz.func58, Tryz.ntmps58
    go_wp2_with (go_at_call 91; refine (hS.out _).mono ?_; rintro e w' ⟨rfl, rfl⟩)
    go_quiet (fail)
    go_wp2
    have hth : three ((w.alloc (.cells #[.int .i32 0, .int .i64 0, .bool false] 90)).drewN nq) w.heap.size 90 (.int .i32 0) (.int .i64 0) (.bool false) := heap_alloc_new w _
    have hbw := below_drewN hb nq
    generalize (w.alloc (.cells #[.int .i32 0, .int .i64 0, .bool false] 90)).drewN nq = W at *
    have hm : bits BinOp.and IntKind.i32 (b0 : Int) 31 = ((soFar s 2 1 : Nat) : Int) := by
      have h := and_low b0 5 hlt (by omega)
      have e : soFar s 2 1 = b0 % 2 ^ 5 := by unfold soFar; rw [E0.out]; rfl
      rw [e]; exact h
    rw [hm]
    clear hm
    go_loopw [4, 5] (fun r i wr => ∃ (k : Nat), 1 ≤ k ∧ k ≤ 2 ∧ i = .int .i64 k ∧ r = .int .i32 (soFar s 2 k : Nat) ∧ Hid (Tails s k) ∧ Below w.heap.size w wr ∧ three wr w.heap.size 90 (.int .i32 0) (.int .i64 0) (.bool false)) (fun _ i _ => 3 - (RowKit.intOf i).toNat)
    case atStart => exact ⟨1, by omega, by omega, rfl, rfl, Lib.hid (tails_one s), hbw, hth⟩
    case round =>
      clear hbw hth
      obtain ⟨k, hk1, hk2, rfl, rfl, HT, hbw, hc⟩ := hrel
      obtain ⟨c0, c1, c2, f0, f1, f2⟩ := three_cells hc
      have HC := Lib.hid (And.intro hc hbw)
      clear hc hbw
      by_cases hlt2 : k < 2
      · by_cases hks : k < s.size
        · have ek := byteAt_get s k hks
          have HO := Lib.hid (or_low (soFar s 2 k) (s[k]'hks).toNat (soFar_small s 2 k hk1 (by omega)))
          have HN : Hid (soFar s 2 (k + 1) = soFar s 2 k * 64 + (s[k]'hks).toNat % 64) := Lib.hid (by rw [soFar_succ s 2 k hk1, ek])
          by_cases k1 : k = 1
          · subst k1
            have z1 := eq_false (show ¬ (s.size : Int) ≤ 1 by omega)
            have z2 : 1 < s.size := hks
            have z3 : (1 : Int) < s.size := by omega
            have HS2 := Lib.hid (second_any b0 (s[1]'hks).toNat)
            have EK := Lib.hid ek
            clear ek
            cases hv : sec b0 (s[1]'hks).toNat with
            | true =>
              rw [hv] at HS2
              obtain ⟨t1, t2⟩ := sec_tail hv
              have HV := Lib.hid hv
              clear hv
              have t1' := eq_false (show ¬ ((s[1]'hks).toNat : Int) < 128 by omega)
              have t2' := eq_false (show ¬ (191 : Int) < ((s[1]'hks).toNat : Int) by omega)
              go_wp2
              go_quiet (first | (go_at_call 92; exact Calls.quiet_of_same ((HS2.out _).mono fun _ _ h => ⟨h.1, h.2.symm⟩)))
              go_wp2
              exact ⟨⟨2, by omega, by omega, rfl, by rw [HO.out, HN.out], Lib.hid (tails_succ (by omega) HT.out z2 (fun _ => by rw [E0.out, EK.out]; exact HV.out) (by rw [EK.out]; simp [tailB, t1, t2])), below_drewN HC.out.2 _, HC.out.1⟩, by simp [RowKit.intOf]⟩
            | false =>
              rw [hv] at HS2
              have HV := Lib.hid hv
              clear hv
              go_wp2
              go_quiet (first | (go_at_call 92; exact Calls.quiet_of_same ((HS2.out _).mono fun _ _ h => ⟨h.1, h.2.symm⟩)))
              go_wp2
              refine bodyPost_ret (part_results rfl _ _ w.heap.size (.int .i32 65533) (.int .i64 1) (.bool false) rfl (three_store HC.out.1)) rfl ?_
              exact ⟨.inl ⟨1, by omega, by omega, HT.out, tails_not (by omega) (.inr (.inl ⟨rfl, by rw [E0.out, EK.out]; exact HV.out⟩)), rfl⟩, (((below_drewN HC.out.2 _).setCell (Nat.le_refl _) _).setCell (Nat.le_refl _) _).setCell (Nat.le_refl _) _⟩
          · exact absurd hlt2 (by omega)
        · have z1 : (s.size : Int) ≤ (k : Int) := by omega
          go_wp2
          go_quiet (fail)
          go_wp2
          refine bodyPost_ret (part_results rfl _ _ w.heap.size (.int .i32 65533) (.int .i64 k) (.bool false) rfl (three_store HC.out.1)) rfl ?_
          exact ⟨.inl ⟨k, by omega, by omega, HT.out, tails_not (by omega) (.inl hks), rfl⟩, (((below_drewN HC.out.2 _).setCell (Nat.le_refl _) _).setCell (Nat.le_refl _) _).setCell (Nat.le_refl _) _⟩
      · obtain rfl : k = 2 := by omega
        go_wp2
        refine bodyPost_ret (part_results rfl _ _ w.heap.size (.int .i32 (soFar s 2 2 : Nat)) (.int .i64 2) (.bool true) rfl (three_store HC.out.1)) rfl ?_
        exact ⟨.inr ⟨HT.out, rfl⟩, ((HC.out.2.setCell (Nat.le_refl _) _).setCell (Nat.le_refl _) _).setCell (Nat.le_refl _) _⟩
  · go_enter Tryz.func58, Tryz.ntmps58
    go_wp2_with (go_at_call 91; refine (hS.out _).mono ?_; rintro e w' ⟨rfl, rfl⟩)
    go_quiet (fail)
    go_wp2
    have hth : three ((w.alloc (.cells #[.int .i32 0, .int .i64 0, .bool false] 90)).drewN nq) w.heap.size 90 (.int .i32 0) (.int .i64 0) (.bool false) := heap_alloc_new w _
    have hbw := below_drewN hb nq
    generalize (w.alloc (.cells #[.int .i32 0, .int .i64 0, .bool false] 90)).drewN nq = W at *
    have hm : bits BinOp.and IntKind.i32 (b0 : Int) 15 = ((soFar s 3 1 : Nat) : Int) := by
      have h := and_low b0 4 hlt (by omega)
      have e : soFar s 3 1 = b0 % 2 ^ 4 := by unfold soFar; rw [E0.out]; rfl
      rw [e]; exact h
    rw [hm]
    clear hm
    go_loopw [4, 5] (fun r i wr => ∃ (k : Nat), 1 ≤ k ∧ k ≤ 3 ∧ i = .int .i64 k ∧ r = .int .i32 (soFar s 3 k : Nat) ∧ Hid (Tails s k) ∧ Below w.heap.size w wr ∧ three wr w.heap.size 90 (.int .i32 0) (.int .i64 0) (.bool false)) (fun _ i _ => 4 - (RowKit.intOf i).toNat)
    case atStart => exact ⟨1, by omega, by omega, rfl, rfl, Lib.hid (tails_one s), hbw, hth⟩
    case round =>
      clear hbw hth
      obtain ⟨k, hk1, hk2, rfl, rfl, HT, hbw, hc⟩ := hrel
      obtain ⟨c0, c1, c2, f0, f1, f2⟩ := three_cells hc
      have HC := Lib.hid (And.intro hc hbw)
      clear hc hbw
      by_cases hlt2 : k < 3
      · by_cases hks : k < s.size
        · have ek := byteAt_get s k hks
          have HO := Lib.hid (or_low (soFar s 3 k) (s[k]'hks).toNat (soFar_small s 3 k hk1 (by omega)))
          have HN : Hid (soFar s 3 (k + 1) = soFar s 3 k * 64 + (s[k]'hks).toNat % 64) := Lib.hid (by rw [soFar_succ s 3 k hk1, ek])
          by_cases k1 : k = 1
          · subst k1
            have z1 := eq_false (show ¬ (s.size : Int) ≤ 1 by omega)
            have z2 : 1 < s.size := hks
            have z3 : (1 : Int) < s.size := by omega
            have HS2 := Lib.hid (second_any b0 (s[1]'hks).toNat)
            have EK := Lib.hid ek
            clear ek
            cases hv : sec b0 (s[1]'hks).toNat with
            | true =>
              rw [hv] at HS2
              obtain ⟨t1, t2⟩ := sec_tail hv
              have HV := Lib.hid hv
              clear hv
              have t1' := eq_false (show ¬ ((s[1]'hks).toNat : Int) < 128 by omega)
              have t2' := eq_false (show ¬ (191 : Int) < ((s[1]'hks).toNat : Int) by omega)
              go_wp2
              go_quiet (first | (go_at_call 92; exact Calls.quiet_of_same ((HS2.out _).mono fun _ _ h => ⟨h.1, h.2.symm⟩)))
              go_wp2
              exact ⟨⟨2, by omega, by omega, rfl, by rw [HO.out, HN.out], Lib.hid (tails_succ (by omega) HT.out z2 (fun _ => by rw [E0.out, EK.out]; exact HV.out) (by rw [EK.out]; simp [tailB, t1, t2])), below_drewN HC.out.2 _, HC.out.1⟩, by simp [RowKit.intOf]⟩
            | false =>
              rw [hv] at HS2
              have HV := Lib.hid hv
              clear hv
              go_wp2
              go_quiet (first | (go_at_call 92; exact Calls.quiet_of_same ((HS2.out _).mono fun _ _ h => ⟨h.1, h.2.symm⟩)))
              go_wp2
              refine bodyPost_ret (part_results rfl _ _ w.heap.size (.int .i32 65533) (.int .i64 1) (.bool false) rfl (three_store HC.out.1)) rfl ?_
              exact ⟨.inl ⟨1, by omega, by omega, HT.out, tails_not (by omega) (.inr (.inl ⟨rfl, by rw [E0.out, EK.out]; exact HV.out⟩)), rfl⟩, (((below_drewN HC.out.2 _).setCell (Nat.le_refl _) _).setCell (Nat.le_refl _) _).setCell (Nat.le_refl _) _⟩
          · have z0 := eq_false (show ¬ (k : Int) = 1 by omega)
            have z1 := eq_false (show ¬ (s.size : Int) ≤ (k : Int) by omega)
            have z3 : (k : Int) < s.size := by omega
            have EK := Lib.hid ek
            clear ek
            by_cases t1 : (s[k]'hks).toNat < 128
            · have t1' : ((s[k]'hks).toNat : Int) < 128 := by omega
              go_wp2
              go_quiet (fail)
              go_wp2
              refine bodyPost_ret (part_results rfl _ _ w.heap.size (.int .i32 65533) (.int .i64 k) (.bool false) rfl (three_store HC.out.1)) rfl ?_
              exact ⟨.inl ⟨k, by omega, by omega, HT.out, tails_not (by omega) (.inr (.inr (by rw [EK.out]; simp [tailB]; omega))), rfl⟩, (((below_drewN HC.out.2 _).setCell (Nat.le_refl _) _).setCell (Nat.le_refl _) _).setCell (Nat.le_refl _) _⟩
            · have t1' := eq_false (show ¬ ((s[k]'hks).toNat : Int) < 128 by omega)
              by_cases t2 : 191 < (s[k]'hks).toNat
              · have t2' : (191 : Int) < ((s[k]'hks).toNat : Int) := by omega
                go_wp2
                go_quiet (fail)
                go_wp2
                refine bodyPost_ret (part_results rfl _ _ w.heap.size (.int .i32 65533) (.int .i64 k) (.bool false) rfl (three_store HC.out.1)) rfl ?_
                exact ⟨.inl ⟨k, by omega, by omega, HT.out, tails_not (by omega) (.inr (.inr (by rw [EK.out]; simp [tailB]; omega))), rfl⟩, (((below_drewN HC.out.2 _).setCell (Nat.le_refl _) _).setCell (Nat.le_refl _) _).setCell (Nat.le_refl _) _⟩
              · have t2' := eq_false (show ¬ (191 : Int) < ((s[k]'hks).toNat : Int) by omega)
                go_wp2
                go_quiet (fail)
                go_wp2
                exact ⟨⟨k + 1, by omega, by omega, by go_num, by rw [HO.out, HN.out], Lib.hid (tails_succ (by omega) HT.out hks (fun e => absurd e k1) (by rw [EK.out]; simp [tailB]; omega)), below_drewN HC.out.2 _, HC.out.1⟩, by simp [RowKit.intOf]; omega⟩
        · have z1 : (s.size : Int) ≤ (k : Int) := by omega
          go_wp2
          go_quiet (fail)
          go_wp2
          refine bodyPost_ret (part_results rfl _ _ w.heap.size (.int .i32 65533) (.int .i64 k) (.bool false) rfl (three_store HC.out.1)) rfl ?_
          exact ⟨.inl ⟨k, by omega, by omega, HT.out, tails_not (by omega) (.inl hks), rfl⟩, (((below_drewN HC.out.2 _).setCell (Nat.le_refl _) _).setCell (Nat.le_refl _) _).setCell (Nat.le_refl _) _⟩
      · obtain rfl : k = 3 := by omega
        go_wp2
        refine bodyPost_ret (part_results rfl _ _ w.heap.size (.int .i32 (soFar s 3 3 : Nat)) (.int .i64 3) (.bool true) rfl (three_store HC.out.1)) rfl ?_
        exact ⟨.inr ⟨HT.out, rfl⟩, ((HC.out.2.setCell (Nat.le_refl _) _).setCell (Nat.le_refl _) _).setCell (Nat.le_refl _) _⟩
  · go_enter Tryz.func58, Tryz.ntmps58
    go_wp2_with (go_at_call 91; refine (hS.out _).mono ?_; rintro e w' ⟨rfl, rfl⟩)
    go_quiet (fail)
    go_wp2
    have hth : three ((w.alloc (.cells #[.int .i32 0, .int .i64 0, .bool false] 90)).drewN nq) w.heap.size 90 (.int .i32 0) (.int .i64 0) (.bool false) := heap_alloc_new w _
    have hbw := below_drewN hb nq
    generalize (w.alloc (.cells #[.int .i32 0, .int .i64 0, .bool false] 90)).drewN nq = W at *
    have hm : bits BinOp.and IntKind.i32 (b0 : Int) 7 = ((soFar s 4 1 : Nat) : Int) := by
      have h := and_low b0 3 hlt (by omega)
      have e : soFar s 4 1 = b0 % 2 ^ 3 := by unfold soFar; rw [E0.out]; rfl
      rw [e]; exact h
    rw [hm]
    clear hm
    go_loopw [4, 5] (fun r i wr => ∃ (k : Nat), 1 ≤ k ∧ k ≤ 4 ∧ i = .int .i64 k ∧ r = .int .i32 (soFar s 4 k : Nat) ∧ Hid (Tails s k) ∧ Below w.heap.size w wr ∧ three wr w.heap.size 90 (.int .i32 0) (.int .i64 0) (.bool false)) (fun _ i _ => 5 - (RowKit.intOf i).toNat)
    case atStart => exact ⟨1, by omega, by omega, rfl, rfl, Lib.hid (tails_one s), hbw, hth⟩
    case round =>
      clear hbw hth
      obtain ⟨k, hk1, hk2, rfl, rfl, HT, hbw, hc⟩ := hrel
      obtain ⟨c0, c1, c2, f0, f1, f2⟩ := three_cells hc
      have HC := Lib.hid (And.intro hc hbw)
      clear hc hbw
      by_cases hlt2 : k < 4
      · by_cases hks : k < s.size
        · have ek := byteAt_get s k hks
          have HO := Lib.hid (or_low (soFar s 4 k) (s[k]'hks).toNat (soFar_small s 4 k hk1 (by omega)))
          have HN : Hid (soFar s 4 (k + 1) = soFar s 4 k * 64 + (s[k]'hks).toNat % 64) := Lib.hid (by rw [soFar_succ s 4 k hk1, ek])
          by_cases k1 : k = 1
          · subst k1
            have z1 := eq_false (show ¬ (s.size : Int) ≤ 1 by omega)
            have z2 : 1 < s.size := hks
            have z3 : (1 : Int) < s.size := by omega
            have HS2 := Lib.hid (second_any b0 (s[1]'hks).toNat)
            have EK := Lib.hid ek
            clear ek
            cases hv : sec b0 (s[1]'hks).toNat with
            | true =>
              rw [hv] at HS2
              obtain ⟨t1, t2⟩ := sec_tail hv
              have HV := Lib.hid hv
              clear hv
              have t1' := eq_false (show ¬ ((s[1]'hks).toNat : Int) < 128 by omega)
              have t2' := eq_false (show ¬ (191 : Int) < ((s[1]'hks).toNat : Int) by omega)
              go_wp2
              go_quiet (first | (go_at_call 92; exact Calls.quiet_of_same ((HS2.out _).mono fun _ _ h => ⟨h.1, h.2.symm⟩)))
              go_wp2
              exact ⟨⟨2, by omega, by omega, rfl, by rw [HO.out, HN.out], Lib.hid (tails_succ (by omega) HT.out z2 (fun _ => by rw [E0.out, EK.out]; exact HV.out) (by rw [EK.out]; simp [tailB, t1, t2])), below_drewN HC.out.2 _, HC.out.1⟩, by simp [RowKit.intOf]⟩
            | false =>
              rw [hv] at HS2
              have HV := Lib.hid hv
              clear hv
              go_wp2
              go_quiet (first | (go_at_call 92; exact Calls.quiet_of_same ((HS2.out _).mono fun _ _ h => ⟨h.1, h.2.symm⟩)))
              go_wp2
              refine bodyPost_ret (part_results rfl _ _ w.heap.size (.int .i32 65533) (.int .i64 1) (.bool false) rfl (three_store HC.out.1)) rfl ?_
              exact ⟨.inl ⟨1, by omega, by omega, HT.out, tails_not (by omega) (.inr (.inl ⟨rfl, by rw [E0.out, EK.out]; exact HV.out⟩)), rfl⟩, (((below_drewN HC.out.2 _).setCell (Nat.le_refl _) _).setCell (Nat.le_refl _) _).setCell (Nat.le_refl _) _⟩
          · have z0 := eq_false (show ¬ (k : Int) = 1 by omega)
            have z1 := eq_false (show ¬ (s.size : Int) ≤ (k : Int) by omega)
            have z3 : (k : Int) < s.size := by omega
            have EK := Lib.hid ek
            clear ek
            by_cases t1 : (s[k]'hks).toNat < 128
            · have t1' : ((s[k]'hks).toNat : Int) < 128 := by omega
              go_wp2
              go_quiet (fail)
              go_wp2
              refine bodyPost_ret (part_results rfl _ _ w.heap.size (.int .i32 65533) (.int .i64 k) (.bool false) rfl (three_store HC.out.1)) rfl ?_
              exact ⟨.inl ⟨k, by omega, by omega, HT.out, tails_not (by omega) (.inr (.inr (by rw [EK.out]; simp [tailB]; omega))), rfl⟩, (((below_drewN HC.out.2 _).setCell (Nat.le_refl _) _).setCell (Nat.le_refl _) _).setCell (Nat.le_refl _) _⟩
            · have t1' := eq_false (show ¬ ((s[k]'hks).toNat : Int) < 128 by omega)
              by_cases t2 : 191 < (s[k]'hks).toNat
              · have t2' : (191 : Int) < ((s[k]'hks).toNat : Int) := by omega
                go_wp2
                go_quiet (fail)
                go_wp2
                refine bodyPost_ret (part_results rfl _ _ w.heap.size (.int .i32 65533) (.int .i64 k) (.bool false) rfl (three_store HC.out.1)) rfl ?_
                exact ⟨.inl ⟨k, by omega, by omega, HT.out, tails_not (by omega) (.inr (.inr (by rw [EK.out]; simp [tailB]; omega))), rfl⟩, (((below_drewN HC.out.2 _).setCell (Nat.le_refl _) _).setCell (Nat.le_refl _) _).setCell (Nat.le_refl _) _⟩
              · have t2' := eq_false (show ¬ (191 : Int) < ((s[k]'hks).toNat : Int) by omega)
                go_wp2
                go_quiet (fail)
                go_wp2
                exact ⟨⟨k + 1, by omega, by omega, by go_num, by rw [HO.out, HN.out], Lib.hid (tails_succ (by omega) HT.out hks (fun e => absurd e k1) (by rw [EK.out]; simp [tailB]; omega)), below_drewN HC.out.2 _, HC.out.1⟩, by simp [RowKit.intOf]; omega⟩
        · have z1 : (s.size : Int) ≤ (k : Int) := by omega
          go_wp2
          go_quiet (fail)
          go_wp2
          refine bodyPost_ret (part_results rfl _ _ w.heap.size (.int .i32 65533) (.int .i64 k) (.bool false) rfl (three_store HC.out.1)) rfl ?_
          exact ⟨.inl ⟨k, by omega, by omega, HT.out, tails_not (by omega) (.inl hks), rfl⟩, (((below_drewN HC.out.2 _).setCell (Nat.le_refl _) _).setCell (Nat.le_refl _) _).setCell (Nat.le_refl _) _⟩
      · obtain rfl : k = 4 := by omega
        go_wp2
        refine bodyPost_ret (part_results rfl _ _ w.heap.size (.int .i32 (soFar s 4 4 : Nat)) (.int .i64 4) (.bool true) rfl (three_store HC.out.1)) rfl ?_
        exact ⟨.inr ⟨HT.out, rfl⟩, ((HC.out.2.setCell (Nat.le_refl _) _).setCell (Nat.le_refl _) _).setCell (Nat.le_refl _) _⟩
end Go.Proofs.YtnfkndaggcklkaaGreatDoor.U

namespace Go.Proofs.YtnfkndaggcklkaaGreatDoor.U
open Go.RowKit Go.RunKit Go.UtfKit Go.Lib

theorem tailB_of_sec {a b : Nat} (h : sec a b = true) : tailB b = true := by
  obtain ⟨h1, h2⟩ := sec_tail h
  simp [tailB, h1, h2]
theorem tails_two (s : ByteArray) : Tails s 2 ↔ (1 < s.size ∧ sec (byteAt s 0) (byteAt s 1) = true) :=
  ⟨fun h => ⟨(h 1 (by omega) (by omega)).1, (h 1 (by omega) (by omega)).2.1 rfl⟩, fun h => tails_succ (by omega) (tails_one s) h.1 (fun _ => h.2) (tailB_of_sec h.2)⟩
theorem tails_more (s : ByteArray) (k : Nat) (hk : 2 ≤ k) : Tails s (k + 1) ↔ (Tails s k ∧ k < s.size ∧ tailB (byteAt s k) = true) :=
  ⟨fun h => ⟨fun j h1 h2 => h j h1 (by omega), (h k (by omega) (by omega)).1, (h k (by omega) (by omega)).2.2⟩, fun h => tails_succ (by omega) h.1 h.2.1 (fun e => by omega) h.2.2⟩
theorem sizeR_two {b : Nat} (h : sizeR b = 2) : ¬ b < 128 ∧ ¬ b < 194 ∧ b < 224 := by
  unfold sizeR at h
  repeat' split at h
  all_goals omega
theorem sizeR_three {b : Nat} (h : sizeR b = 3) : ¬ b < 128 ∧ ¬ b < 194 ∧ ¬ b < 224 ∧ b < 240 := by
  unfold sizeR at h
  repeat' split at h
  all_goals omega
theorem sizeR_four {b : Nat} (h : sizeR b = 4) : ¬ b < 128 ∧ ¬ b < 194 ∧ ¬ b < 224 ∧ ¬ b < 240 ∧ b < 245 := by
  unfold sizeR at h
  repeat' split at h
  all_goals omega
theorem sizeR_none {b : Nat} (h : sizeR b = 0) : ¬ b < 128 ∧ (b < 194 ∨ (¬ b < 194 ∧ ¬ b < 224 ∧ ¬ b < 240 ∧ ¬ b < 245)) := by
  unfold sizeR at h
  repeat' split at h
  all_goals omega
theorem sizeR_one {b : Nat} (h : sizeR b = 1) : b < 128 := by
  unfold sizeR at h
  repeat' split at h
  all_goals omega

theorem cutAt_zero (s : ByteArray) : cutAt s 0 = cutN s.size (byteAt s 0) (byteAt s 1) (byteAt s 2) (byteAt s 3) := rfl

theorem cut_bad {s : ByteArray} {n i : Nat} (hz : sizeR (byteAt s 0) = n) (hn : n = 2 ∨ n = 3 ∨ n = 4) (h1 : 1 ≤ i) (hi : i < n) (ht : Tails s i) (hf : ¬ Tails s (i + 1)) : cutAt s 0 = ⟨65533, i, false⟩ := by
  rw [cutAt_zero]
  unfold cutN
  by_cases i1 : i = 1
  · subst i1
    rw [tails_two] at hf
    rcases hn with rfl | rfl | rfl
    · obtain ⟨a, b, c⟩ := sizeR_two hz
      rw [if_neg a, if_neg b, if_pos c, if_neg hf]
    · obtain ⟨a, b, c, d⟩ := sizeR_three hz
      rw [if_neg a, if_neg b, if_neg c, if_pos d, if_neg hf]
    · obtain ⟨a, b, c, d, e⟩ := sizeR_four hz
      rw [if_neg a, if_neg b, if_neg c, if_neg d, if_pos e, if_neg hf]
  · by_cases i2 : i = 2
    · subst i2
      rw [tails_more s 2 (by omega)] at hf
      have hf2 : ¬ (2 < s.size ∧ tailB (byteAt s 2) = true) := fun h => hf ⟨ht, h⟩
      have ht2 := (tails_two s).1 ht
      rcases hn with rfl | rfl | rfl
      · omega
      · obtain ⟨a, b, c, d⟩ := sizeR_three hz
        rw [if_neg a, if_neg b, if_neg c, if_pos d, if_pos ht2, if_neg hf2]
      · obtain ⟨a, b, c, d, e⟩ := sizeR_four hz
        rw [if_neg a, if_neg b, if_neg c, if_neg d, if_pos e, if_pos ht2, if_neg hf2]
    · obtain rfl : i = 3 := by omega
      obtain rfl : n = 4 := by omega
      rw [tails_more s 3 (by omega)] at hf
      have hf3 : ¬ (3 < s.size ∧ tailB (byteAt s 3) = true) := fun h => hf ⟨ht, h⟩
      have ht3 := (tails_more s 2 (by omega)).1 ht
      have ht2 := (tails_two s).1 ht3.1
      obtain ⟨a, b, c, d, e⟩ := sizeR_four hz
      rw [if_neg a, if_neg b, if_neg c, if_neg d, if_pos e, if_pos ht2, if_pos ht3.2, if_neg hf3]

theorem cut_good {s : ByteArray} {n : Nat} (hz : sizeR (byteAt s 0) = n) (hn : n = 2 ∨ n = 3 ∨ n = 4) (ht : Tails s n) : cutAt s 0 = ⟨soFar s n n, n, true⟩ := by
  rw [cutAt_zero]
  unfold cutN
  rcases hn with rfl | rfl | rfl
  · have ht2 := (tails_two s).1 ht
    obtain ⟨a, b, c⟩ := sizeR_two hz
    rw [if_neg a, if_neg b, if_pos c, if_pos ht2]
    rfl
  · have ht3 := (tails_more s 2 (by omega)).1 ht
    have ht2 := (tails_two s).1 ht3.1
    obtain ⟨a, b, c, d⟩ := sizeR_three hz
    rw [if_neg a, if_neg b, if_neg c, if_pos d, if_pos ht2, if_pos ht3.2]
    have e : soFar s 3 3 = (byteAt s 0 % 16 * 64 + byteAt s 1 % 64) * 64 + byteAt s 2 % 64 := rfl
    rw [e]
    congr 1
    omega
  · have ht4 := (tails_more s 3 (by omega)).1 ht
    have ht3 := (tails_more s 2 (by omega)).1 ht4.1
    have ht2 := (tails_two s).1 ht3.1
    obtain ⟨a, b, c, d, e⟩ := sizeR_four hz
    rw [if_neg a, if_neg b, if_neg c, if_neg d, if_pos e, if_pos ht2, if_pos ht3.2, if_pos ht4.2]
    have e : soFar s 4 4 = ((byteAt s 0 % 8 * 64 + byteAt s 1 % 64) * 64 + byteAt s 2 % 64) * 64 + byteAt s 3 % 64 := rfl
    rw [e]
    congr 1
    omega
end Go.Proofs.YtnfkndaggcklkaaGreatDoor.U

namespace Go.Proofs.YtnfkndaggcklkaaGreatDoor.U
open Go.RowKit Go.RunKit Go.UtfKit Go.Lib

set_option maxRecDepth 100000 in
set_option maxHeartbeats 1000000 in
theorem cut_few (s : ByteArray) (w : World) (hs : 0 < s.size) (b0 : Nat) (e0 : (s[0]'hs).toNat = b0) (hlt : b0 < 256) (hz : sizeR b0 = 0 ∨ sizeR b0 = 1) :
    Calls Tryz.prog 58 #[.string s] w fun e w' => e = .returned (.agg (partCells (cutAt s 0))) ∧ Below w.heap.size w w' := by
  have hS := Lib.hid (size_any b0 hlt)
  have E0 : byteAt s 0 = b0 := (byteAt_get s 0 hs).trans e0
  rcases hz with hz | hz
  · rw [hz] at hS
    obtain ⟨a, b⟩ := sizeR_none hz
    have E : Hid (cutAt s 0 = ⟨65533, 1, false⟩) := Lib.hid (by
      rw [cutAt_zero, E0]
      unfold cutN
      rcases b with b | ⟨b, c, d, e⟩
      · rw [if_neg a, if_pos b]
      · rw [if_neg a, if_neg b, if_neg c, if_neg d, if_neg e])
    clear E0 a b
    go_enter Tryz.func58, Tryz.ntmps58
    go_wp2_with (go_at_call 91; refine (hS.out _).mono ?_; rintro e w' ⟨rfl, rfl⟩)
    refine bodyPost_ret (part_results rfl _ _ w.heap.size (.int .i32 65533) (.int .i64 1) (.bool false) rfl (heap_alloc_new w _)) rfl ?_
    rw [E.out]
    exact ⟨rfl, (Below.refl _ _).alloc (Nat.le_refl _) _⟩
  · rw [hz] at hS
    have a := sizeR_one hz
    have E : Hid (cutAt s 0 = ⟨b0, 1, true⟩) := Lib.hid (by
      rw [cutAt_zero, E0]
      unfold cutN
      rw [if_pos a])
    clear E0 a
    go_enter Tryz.func58, Tryz.ntmps58
    go_wp2_with (go_at_call 91; refine (hS.out _).mono ?_; rintro e w' ⟨rfl, rfl⟩)
    refine bodyPost_ret (part_results rfl _ _ w.heap.size (.int .i32 (b0 : Nat)) (.int .i64 1) (.bool true) rfl (heap_alloc_new w _)) rfl ?_
    rw [E.out]
    exact ⟨rfl, (Below.refl _ _).alloc (Nat.le_refl _) _⟩

/-- THE CUT. -/
theorem cut_any (s : ByteArray) (w : World) (hs : 0 < s.size) :
    Calls Tryz.prog 58 #[.string s] w fun e w' => e = .returned (.agg (partCells (cutAt s 0))) ∧ Below w.heap.size w w' := by
  have E0 := byteAt_get s 0 hs
  have hlt := byteAt_lt s 0
  by_cases hn : sizeR (byteAt s 0) = 2 ∨ sizeR (byteAt s 0) = 3 ∨ sizeR (byteAt s 0) = 4
  · refine (cut_more s w hs _ _ E0.symm rfl hn hlt).mono ?_
    rintro e w' ⟨h, hb⟩
    refine ⟨?_, hb⟩
    rcases h with ⟨i, h1, h2, h3, h4, rfl⟩ | ⟨h1, rfl⟩
    · rw [cut_bad rfl hn h1 h2 h3 h4]; rfl
    · rw [cut_good rfl hn h1]; rfl
  · refine cut_few s w hs _ E0.symm hlt ?_
    have : sizeR (byteAt s 0) ≤ 4 := by
      unfold sizeR
      repeat' split
      all_goals omega
    omega

theorem cutAt_drop (s : ByteArray) (pos : Nat) : cutAt (s.extract pos s.size) 0 = cutAt s pos := by
  unfold cutAt
  rw [byteAt_drop, byteAt_drop, byteAt_drop, byteAt_drop]
  have : (s.extract pos s.size).size - 0 = s.size - pos := by simp
  rw [this]
  simp only [Nat.zero_add, Nat.add_zero]
theorem cut_at (s : ByteArray) (pos : Nat) (hp : pos < s.size) (w : World) :
    Calls Tryz.prog 58 #[.string (s.extract pos s.size)] w fun e w' => e = .returned (.agg (partCells (cutAt s pos))) ∧ Below w.heap.size w w' := by
  have := cut_any (s.extract pos s.size) w (by simp; omega)
  rwa [cutAt_drop] at this
end Go.Proofs.YtnfkndaggcklkaaGreatDoor.U

namespace Go.Proofs.YtnfkndaggcklkaaGreatDoor
open Go.RowKit Go.RunKit Go.UtfKit Go.CharrefKit Go.Lib Go.TokenKit Go.TreeKit

/-- Parts that are well-formed, none of them the character 0. -/
def wellP (p : Part) : Bool := p.ok && decide (p.char ≠ 0)
def wellL (s : ByteArray) : Bool := (parts s).all wellP

set_option maxRecDepth 100000 in
set_option maxHeartbeats 1000000 in
theorem refWell05_any (s : ByteArray) (w : World) (hs : s.size ≤ 1099511627776) :
    Calls Tryz.prog 30 #[.string s] w fun e w' => e = .returned (.bool (wellL s)) ∧ Below w.heap.size w w' := by
  have D0 : Hid (wellL s = (partsFrom s 0).all wellP) := Lib.hid rfl
  go_enter Tryz.func30, Tryz.ntmps30
  go_wp2
  go_loopw [3] (fun i wr => ∃ pos : Nat, i = .int .i64 pos ∧ pos ≤ s.size ∧ Hid (wellL s = (partsFrom s pos).all wellP) ∧ Below w.heap.size w wr) (fun i _ => s.size - (RowKit.intOf i).toNat)
  case atStart => exact ⟨0, rfl, Nat.zero_le _, D0, Below.refl _ _⟩
  case round =>
    clear D0
    obtain ⟨pos, rfl, hpos, HD, hb⟩ := hrel
    by_cases hlt : pos < s.size
    · have HC := Lib.hid (U.cut_at s pos hlt wr)
      have hltI : (pos : Int) < s.size := by omega
      have hl2 := cutAt_len s pos hlt
      have HE := Lib.hid (HD.out)
      rw [partsFrom_step s pos hlt] at HE
      obtain ⟨c, n, k, hp⟩ : ∃ c n k, Hid (cutAt s pos = ⟨c, n, k⟩) := ⟨(cutAt s pos).char, (cutAt s pos).len, (cutAt s pos).ok, Lib.hid rfl⟩
      rw [hp.out] at HC HE hl2
      simp only at hl2
      have HB := Lib.hid hb
      clear hb HD
      cases k with
      | false =>
        have he : Hid (wellL s = false) := Lib.hid (by rw [HE.out]; rfl)
        go_wp2_with (go_at_call 58; refine HC.out.mono ?_; rintro e w1 ⟨rfl, hb1⟩; unfold U.partCells)
        go_ret
        exact ⟨ret1_eq (congrArg Value.bool he.out.symm), (HB.out.trans (hb1.mono HB.out.size)).alloc (by have := HB.out.size; have := hb1.size; omega) _⟩
      | true =>
        by_cases hc : c = 0
        · subst hc
          have he : Hid (wellL s = false) := Lib.hid (by rw [HE.out]; rfl)
          go_wp2_with (go_at_call 58; refine HC.out.mono ?_; rintro e w1 ⟨rfl, hb1⟩; unfold U.partCells)
          go_ret
          exact ⟨ret1_eq (congrArg Value.bool he.out.symm), (HB.out.trans (hb1.mono HB.out.size)).alloc (by have := HB.out.size; have := hb1.size; omega) _⟩
        · have hcI : (((c : Nat) : Int) = 0) = False := eq_false (by omega)
          have hcB : (((c : Nat) : Int) == 0) = false := by rw [beq_eq_false_iff_ne]; omega
          have HN : Hid (wellL s = (partsFrom s (pos + n)).all wellP) := Lib.hid (by rw [HE.out]; simp [wellP, hc])
          clear hc
          go_wp2_with (go_at_call 58; refine HC.out.mono ?_; rintro e w1 ⟨rfl, hb1⟩; unfold U.partCells)
          exact ⟨⟨pos + n, by go_num, by omega, HN, (HB.out.trans (hb1.mono HB.out.size)).alloc (by have := HB.out.size; have := hb1.size; omega) _⟩, by simp [RowKit.intOf]; omega⟩
    · have he : Hid (wellL s = true) := Lib.hid (by
        rw [HD.out, partsFrom_end s _ (by omega)]; rfl)
      have hltI : ((pos : Int) < s.size) = False := eq_false (by omega)
      go_wp2
      go_ret
      exact ⟨ret1_eq (congrArg Value.bool he.out.symm), hb⟩
theorem well_ok {s : ByteArray} (h : wellL s = true) : ∀ p, p ∈ parts s → p.ok = true := fun p hp => by
  have := List.all_eq_true.1 h p hp
  unfold wellP at this
  simp only [Bool.and_eq_true] at this
  exact this.1
end Go.Proofs.YtnfkndaggcklkaaGreatDoor

