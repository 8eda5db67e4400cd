/-
  Escaped texts, character by character as the language cuts them. No conditions.
-/
import Derived.Test.YtkfmfldkllkcbabDoorSMath
import Derived.Test.YtkfmfldkllkcbabDoorUBytes
import Derived.Test.YtkfmfldkllkcbabDoorUDec2
import Derived.Test.YtkfmfldkllkcbabDoorRWords
import Derived.Test.YtkfmfldkllkcbabDoorRKind
import Derived.Test.YtkfmfldkllkcbabDoorUMath2
import Derived.Laws.IdiomStrings
import Derived.Lib.SlBytesConst
import Derived.Deep.RegionHeld3
import Derived.Deep.RegionHeld3
import Derived.Deep.RegionHeld3
import Derived.Deep.RegionHeld
import Derived.Lib.RuneBytes
namespace Go.Proofs.YtkfmfldkllkcbabDoor
open Go.RowKit Go.RunKit Go.UtfKit Go.CharrefKit Go.Lib Go.TokenKit Go.TreeKit Go.SerialKit

theorem drop_cut {s : ByteArray} {i : Nat} (hi : i < s.size) (ho : (cutAt s i).ok = true) : (bl s).drop i = encodeRune ((cutAt s i).char : Nat) ++ (bl s).drop (i + (cutAt s i).len) := by
  have e : (s.extract i (i + (cutAt s i).len)).data.toList = ((bl s).drop i).take (cutAt s i).len := by
    simp [bl, List.extract]
  rw [U.encode_at s i hi ho, e, ← List.drop_drop]
  exact (List.take_append_drop _ _).symm
theorem cut_valid {s : ByteArray} {j : Nat} (ho : (cutAt s j).ok = true) : (cutAt s j).char ≤ 1114111 ∧ ¬ (55296 ≤ (cutAt s j).char ∧ (cutAt s j).char ≤ 57343) := by
  have hv := decodeN_valid (s.size - j) (byteAt s j) (byteAt s (j + 1)) (byteAt s (j + 2)) (byteAt s (j + 3)) (byteAt_lt _ _)
  rw [decode_cut _ _ _ _ _ (byteAt_lt _ _) (byteAt_lt _ _) (byteAt_lt _ _) (byteAt_lt _ _)] at hv
  change (if (cutAt s j).ok = true then ((cutAt s j).char, (cutAt s j).len) else (65533, 1)).1 < 55296 ∨ (57343 < (if (cutAt s j).ok = true then ((cutAt s j).char, (cutAt s j).len) else (65533, 1)).1 ∧ (if (cutAt s j).ok = true then ((cutAt s j).char, (cutAt s j).len) else (65533, 1)).1 ≤ 1114111) at hv
  rw [ho] at hv
  simp only [if_true] at hv
  omega
theorem byte_drop {s : ByteArray} {i : Nat} (hi : i < s.size) : ∃ b, (bl s).drop i = b :: (bl s).drop (i + 1) ∧ byteAt s i = b.toNat := by
  have hl : i < (bl s).length := by rw [bl_length]; exact hi
  refine ⟨(bl s)[i], List.drop_eq_getElem_cons hl, ?_⟩
  rw [U.byteAt_get s i hi]
  rfl
theorem ref_one (attr : Bool) (r : Int) (h : refOf attr r ≠ []) : (r = 34 ∨ r = 38 ∨ r = 60 ∨ r = 62 ∨ r = 13) ∨ r = 160 := by
  unfold refOf at h
  cases attr
  all_goals
    simp only [Bool.false_eq_true, if_false, if_true] at h
    repeat' split at h
    all_goals first | (exact absurd rfl h) | omega
theorem esc_step (attr : Bool) (s : ByteArray) (pos : Nat) (h : pos < s.size) :
    (refOf attr ((Utf8.decode s pos).1 : Nat) = [] → escR attr ((bl s).drop pos) = ((bl s).drop pos).take (Utf8.decode s pos).2 ++ escR attr ((bl s).drop (pos + (Utf8.decode s pos).2))) ∧
    (refOf attr ((Utf8.decode s pos).1 : Nat) ≠ [] → escR attr ((bl s).drop pos) = refOf attr ((Utf8.decode s pos).1 : Nat) ++ escR attr ((bl s).drop (pos + (Utf8.decode s pos).2)) ∧ Lib.runeLen ((Utf8.decode s pos).1 : Nat) = ((Utf8.decode s pos).2 : Nat)) ∧
    1 ≤ (Utf8.decode s pos).2 ∧ pos + (Utf8.decode s pos).2 ≤ s.size := by
  rw [decode_at_cut]
  have hl := cutAt_len s pos h
  cases ho : (cutAt s pos).ok with
  | true =>
    rw [if_pos rfl]
    simp only
    have hd := drop_cut h ho
    obtain ⟨hv1, hv2⟩ := cut_valid ho
    have hlen : (encodeRune ((cutAt s pos).char : Nat)).length = (cutAt s pos).len := by
      have := congrArg List.length hd
      rw [List.length_append, List.length_drop, List.length_drop, bl_length] at this
      omega
    refine ⟨fun hr => ?_, fun hr => ?_, hl⟩
    · have e : ((bl s).drop pos).take (cutAt s pos).len = encodeRune ((cutAt s pos).char : Nat) := by
        rw [hd, ← hlen, List.take_left]
      rw [e, hd]
      exact escR_rune (by omega) (by omega) (by omega) hr _
    · rcases ref_one attr _ hr with hc | hc
      · generalize (cutAt s pos).char = c at *
        have hc2 : c = 34 ∨ c = 38 ∨ c = 60 ∨ c = 62 ∨ c = 13 := by omega
        rcases hc2 with rfl | rfl | rfl | rfl | rfl
        all_goals
          refine ⟨?_, ?_⟩
          · rw [hd]
            cases attr
            all_goals first
              | (exact absurd rfl hr)
              | (exact escR_cons (by decide) _)
          · rw [← hlen]; decide
      · generalize (cutAt s pos).char = c at *
        have hc2 : c = 160 := by omega
        subst hc2
        refine ⟨?_, by rw [← hlen]; decide⟩
        rw [hd]
        cases attr
        all_goals
          show escR _ (194 :: 160 :: (bl s).drop (pos + (cutAt s pos).len)) = _
          rw [escR, if_pos ⟨rfl, rfl⟩]
          rfl
  | false =>
    rw [if_neg (by decide)]
    simp only
    have hbig : refOf attr ((65533 : Nat) : Int) = [] := refOf_big (by omega) (by omega)
    refine ⟨fun _ => ?_, fun hr => absurd hbig hr, Nat.le_refl _, by omega⟩
    obtain ⟨b, hb, hbn⟩ := byte_drop h
    have h128 : 128 ≤ b.toNat := by
      rw [← hbn]
      by_cases hlt : byteAt s pos < 128
      · have : (cutAt s pos).ok = true := by unfold cutAt cutN; rw [if_pos hlt]
        rw [this] at ho; cases ho
      · omega
    have h1 : oneE attr b = [b] := by
      by_cases h160 : b.toNat = 160
      · obtain rfl : b = 160 := UInt8.toNat_inj.1 (by simpa using h160)
        cases attr <;> rfl
      · exact oneE_plain (refOf_big (by omega) (by omega))
    have hgoal : escR attr (b :: (bl s).drop (pos + 1)) = b :: escR attr ((bl s).drop (pos + 1)) := by
      by_cases hp : pos + 1 < s.size
      · obtain ⟨c, hc, hcn⟩ := byte_drop hp
        rw [hc]
        by_cases h194 : b = 194 ∧ c = 160
        · exfalso
          obtain ⟨rfl, rfl⟩ := h194
          have hb0 : byteAt s pos = 194 := hbn
          have hb1 : byteAt s (pos + 1) = 160 := hcn
          have hn : 1 < s.size - pos := by omega
          have : (cutAt s pos).ok = true := by
            unfold cutAt cutN
            rw [hb0, hb1]
            simp [sec, hn]
          rw [this] at ho; cases ho
        · rw [escR, if_neg h194, h1]
          rfl
      · rw [List.drop_eq_nil_of_le (by rw [bl_length]; omega)]
        show oneE attr b = _
        rw [h1]; rfl
    rw [hb, hgoal]
    rfl
end Go.Proofs.YtkfmfldkllkcbabDoor

