/-
  A text is plain (well-formed, without the character 0): what the library tells of it; names of attributes. No conditions.
-/
import Derived.Test.YtkfmfldkllkcbabDoorUBytes
import Derived.Test.YtkfmfldkllkcbabDoorUDec2
import Derived.Test.YtkfmfldkllkcbabDoorRWords
import Derived.Test.YtkfmfldkllkcbabDoorRKind
import Derived.Test.YtkfmfldkllkcbabDoorUMath2
import Derived.Test.YtkfmfldkllkcbabDoorRWell
import Derived.Test.YtkfmfldkllkcbabDoorRLaw3
import Derived.Lib.ValidLaws
import Derived.Lib.IndexLaws
import Derived.Laws.IdiomStrings
import Derived.Lib.SlBytesConst
import Derived.Deep.RegionHeld3
import Derived.Deep.RegionHeld3
import Derived.Deep.RegionHeld3
import Derived.Deep.RegionHeld
import Derived.Lib.RuneBytes
namespace Go.Proofs.YtkfmfldkllkcbabDoor
open Go.RowKit Go.RunKit Go.UtfKit Go.CharrefKit Go.Lib Go.TokenKit Go.TreeKit

theorem bl_tail (s : ByteArray) (i : Nat) : (⟨((bl s).drop i).toArray⟩ : ByteArray) = s.extract i s.size := by
  refine ByteArray.ext (Array.toList_inj.1 ?_)
  have e : (s.extract i s.size).data.toList = ((bl s).drop i).take (s.size - i) := by
    simp [bl, List.extract]
  rw [e, List.take_of_length_le (by rw [List.length_drop, bl_length]; exact Nat.le_refl _)]
theorem cut_tail (s : ByteArray) (i : Nat) : cutAt (s.extract i s.size) 0 = cutAt s i := by
  unfold cutAt
  rw [U.byteAt_drop, U.byteAt_drop, U.byteAt_drop, U.byteAt_drop]
  have : (s.extract i s.size).size = s.size - i := by simp
  rw [this]
  rfl
theorem ok_not {s : ByteArray} {i : Nat} (hi : i < s.size) (ho : (cutAt s i).ok = true) : ¬ ((cutAt s i).char = 65533 ∧ (cutAt s i).len = 1) := by
  intro ⟨h1, h2⟩
  have he := congrArg List.length (U.encode_at s i hi ho)
  rw [h1, h2, show (encodeRune ((65533 : Nat) : Int)).length = 3 by decide] at he
  have hl : (s.extract i (i + 1)).data.toList.length = 1 := by
    have e : (s.extract i (i + 1)).data.toList = ((bl s).drop i).take 1 := by
      simp [bl, List.extract]
    rw [e, List.length_take, List.length_drop, bl_length]
    omega
  omega
theorem valid_from (s : ByteArray) : ∀ (f i : Nat), s.size - i ≤ f → i ≤ s.size → Lib.validD ((bl s).drop i) = (partsFrom s i).all (·.ok)
  | 0, i, hf, hi => by
    rw [partsFrom_end s i (by omega), List.drop_eq_nil_of_le (by rw [bl_length]; omega)]
    rfl
  | f + 1, i, hf, hi => by
    by_cases h : i < s.size
    · have hne : (bl s).drop i ≠ [] := fun e => by
        have := congrArg List.length e
        rw [List.length_drop, bl_length] at this
        simp at this
        omega
      have hl := cutAt_len s i h
      rw [validD_step _ hne, partsFrom_step s i h]
      unfold Lib.decodeL
      rw [bl_tail, decode_at_cut, cut_tail, List.all_cons]
      cases ho : (cutAt s i).ok with
      | false => simp
      | true =>
        have hn := ok_not h ho
        rw [if_pos rfl]
        simp only
        rw [if_neg hn, List.drop_drop, valid_from s f (i + (cutAt s i).len) (by omega) hl.2]
        simp
    · rw [partsFrom_end s i (by omega), List.drop_eq_nil_of_le (by rw [bl_length]; omega)]
      rfl
theorem valid_parts (s : ByteArray) : Lib.validD (bl s) = (parts s).all (·.ok) := by
  have := valid_from s s.size 0 (by omega) (Nat.zero_le _)
  simpa [parts] using this
/-- What the code asks of a text. -/
theorem plain_eq (s : ByteArray) : wellL s = (Lib.validD (bl s) && decide (Lib.indexByte (bl s) 0 < 0)) := by
  rw [valid_parts, Bool.eq_iff_iff, Bool.and_eq_true, decide_eq_true_eq]
  constructor
  · intro h
    refine ⟨List.all_eq_true.2 fun p hp => well_ok h p hp, ?_⟩
    have hz := well_zero h
    have hg := indexByte_ge (bl s) 0
    by_cases hlt : Lib.indexByte (bl s) 0 < 0
    · exact hlt
    · obtain ⟨o, ho⟩ : ∃ o : Nat, Lib.indexByte (bl s) 0 = o := ⟨(Lib.indexByte (bl s) 0).toNat, by omega⟩
      have := (indexByte_some ho).1
      exact absurd rfl (hz 0 (List.mem_of_getElem? this))
  · intro ⟨h1, h2⟩
    have hg := indexByte_ge (bl s) 0
    have hno := indexByte_none (show Lib.indexByte (bl s) 0 = -1 by omega)
    refine List.all_eq_true.2 fun p hp => ?_
    have hok := List.all_eq_true.1 h1 p hp
    unfold wellP
    rw [hok, Bool.true_and, decide_eq_true_eq]
    intro hc
    obtain ⟨j, hj, rfl⟩ := U.parts_mem s _ _ p hp
    have he := U.encode_at s j hj hok
    rw [hc, show encodeRune ((0 : Nat) : Int) = [0] by decide] at he
    have e : (s.extract j (j + (cutAt s j).len)).data.toList = ((bl s).drop j).take (cutAt s j).len := by
      simp [bl, List.extract]
    have hm : (0 : UInt8) ∈ bl s := by
      refine List.mem_of_mem_drop (i := j) (List.mem_of_mem_take (i := (cutAt s j).len) ?_)
      rw [← e, ← he]
      simp
    obtain ⟨k, hk⟩ := List.mem_iff_getElem?.1 hm
    exact hno k hk
/-- The characters of an attribute's name. -/
def signsN : Bytes := [97, 98, 99, 100, 101, 102, 103, 104, 105, 106, 107, 108, 109, 110, 111, 112, 113, 114, 115, 116, 117, 118, 119, 120, 121, 122, 48, 49, 50, 51, 52, 53, 54, 55, 56, 57, 45, 95]
def attrNameL (n : Bytes) : Bool := !n.isEmpty && n.all (signsN.contains ·)
theorem dropWhile_none {p : UInt8 → Bool} : ∀ l : Bytes, l.dropWhile p = [] ↔ l.all p = true
  | [] => by simp
  | b :: r => by
    rw [List.dropWhile_cons, List.all_cons]
    cases h : p b with
    | false => simp
    | true => simp only [if_true, Bool.true_and]; exact dropWhile_none r
theorem trim_all (l : Bytes) : (Lib.trimLeftS l signsN = []) = (l.all (signsN.contains ·) = true) := by
  rw [eq_iff_iff]
  unfold Lib.trimLeftS
  exact dropWhile_none l
end Go.Proofs.YtkfmfldkllkcbabDoor

