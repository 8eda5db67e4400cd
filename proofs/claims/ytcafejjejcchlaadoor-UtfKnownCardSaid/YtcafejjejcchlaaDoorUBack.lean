/-
  What is decoded is decoded as itself; two texts, one behind the other. No conditions.
-/
import Derived.Test.YtcafejjejcchlaaDoorULawD
import Derived.Test.YtcafejjejcchlaaDoorULawS
namespace Go.Proofs.YtcafejjejcchlaaDoor
open Go.RowKit Go.RunKit Go.UtfKit Go.Lib

/-- The characters told of parts, the mark being m. -/
def toldRunes : Bool → List Part → List Int
  | _, [] => []
  | m, p :: r => (if m = true ∧ p.char = 10 then [] else if p.char = 13 then [10] else [((p.char : Nat) : Int)]) ++ toldRunes (decide (p.char = 13)) r
theorem textOf_append (a b : List Int) : textOf (a ++ b) = textOf a ++ textOf b := by simp [textOf]
theorem fold_told : ∀ (d : List Part) (m : Bool) (l : List UInt8), (d.foldl takeByte (m, l)).2 = l ++ textOf (toldRunes m d)
  | [], m, l => by simp [toldRunes, textOf]
  | p :: r, m, l => by
    simp only [List.foldl_cons, toldRunes]
    rw [show takeByte (m, l) p = (decide (p.char = 13), (takeByte (m, l) p).2) from rfl, fold_told r, textOf_append, ← List.append_assoc]
    congr 1
    unfold takeByte
    simp only
    repeat' split
    all_goals simp [textOf]
theorem told_text (d : List Part) : told d = textOf (toldRunes false d) := by
  have := fold_told d false []
  simp only [List.nil_append] at this
  exact this
theorem toldRunes_no_cr : ∀ (d : List Part) (m : Bool), ∀ z ∈ toldRunes m d, z ≠ 13
  | [], m, z, h => by simp [toldRunes] at h
  | p :: r, m, z, h => by
    simp only [toldRunes, List.mem_append] at h
    rcases h with h | h
    · split at h
      · cases h
      · split at h
        · simp at h; omega
        · simp at h; omega
    · exact toldRunes_no_cr r _ z h
theorem toldRunes_len : ∀ (d : List Part) (m : Bool), (toldRunes m d).length ≤ d.length
  | [], _ => Nat.le_refl _
  | p :: r, m => by
    have := toldRunes_len r (decide (p.char = 13))
    simp only [toldRunes, List.length_append, List.length_cons]
    repeat' split
    all_goals simp; omega
theorem toldRunes_plain : ∀ (zs : List Int), (∀ z ∈ zs, z ≠ 13) → toldRunes false (zs.map partOf) = zs.map fun z => ((clean z : Nat) : Int)
  | [], _ => rfl
  | z :: r, h => by
    have h1 := clean_cr (h z (List.mem_cons_self ..))
    have h2 := toldRunes_plain r (fun x hx => h x (List.mem_cons_of_mem _ hx))
    have e1 : (partOf z).char = clean z := rfl
    simp only [List.map_cons, toldRunes, e1, h1, if_false, decide_false, h2]
    simp
theorem textOf_clean (zs : List Int) : textOf (zs.map fun z => ((clean z : Nat) : Int)) = textOf zs := by
  induction zs with
  | nil => rfl
  | cons z r ih =>
    have e1 : textOf (z :: r) = encodeRune z ++ textOf r := by simp [textOf]
    have e2 : textOf (((clean z : Nat) : Int) :: r.map fun z => ((clean z : Nat) : Int)) = encodeRune ((clean z : Nat) : Int) ++ textOf (r.map fun z => ((clean z : Nat) : Int)) := by simp [textOf]
    rw [List.map_cons, e2, ih, e1, encodeR_clean]
theorem told_again (zs : List Int) (h : ∀ z ∈ zs, z ≠ 13) : told (zs.map partOf) = textOf zs := by rw [told_text, toldRunes_plain zs h, textOf_clean]
theorem parts_textOf (zs : List Int) : parts ⟨(textOf zs).toArray⟩ = zs.map partOf := parts_text zs
theorem chars_text (zs : List Int) : textOf ((zs.map partOf).map fun p => ((p.char : Nat) : Int)) = textOf zs := by
  rw [List.map_map]
  exact textOf_clean zs
theorem text_no_cr : ∀ (zs : List Int), (∀ z ∈ zs, z ≠ 13) → ∀ x ∈ textOf zs, x.toNat ≠ 13
  | [], _, x, h => by simp [textOf] at h
  | z :: r, hz, x, h => by
    have e1 : textOf (z :: r) = encodeRune z ++ textOf r := by simp [textOf]
    rw [e1, List.mem_append] at h
    rcases h with h | h
    · unfold encodeRune at h
      obtain ⟨y, hy, rfl⟩ := List.mem_map.1 h
      have h1 := encode_no_cr (hz z (List.mem_cons_self ..)) y hy
      have h2 := encodeRuneZ_byte z y hy
      simp; omega
    · exact text_no_cr r (fun y hy => hz y (List.mem_cons_of_mem _ hy)) x h

/-- What is decoded is the text of characters without a carriage return. -/
structure Plain (t : ByteArray) (zs : List Int) : Prop where
  text : t = ⟨(textOf zs).toArray⟩
  calm : ∀ z ∈ zs, z ≠ 13
theorem decText_plain (s : ByteArray) (hs : s.size ≤ 65536) : ∃ zs, Plain (decText s) zs ∧ zs.length ≤ s.size := by
  refine ⟨toldRunes false (parts s), ⟨?_, toldRunes_no_cr _ _⟩, ?_⟩
  · unfold decText
    rw [if_pos hs, told_text]
  · have h1 := parts_len s (s.size - 0) 0
    change (parts s).length ≤ _ at h1
    have := toldRunes_len (parts s) false
    omega
theorem Plain.size {t : ByteArray} {zs : List Int} (h : Plain t zs) : t.size ≤ 4 * zs.length := by
  have := textOf_len zs
  rw [h.text]
  simpa [ByteArray.size] using this
theorem Plain.parts {t : ByteArray} {zs : List Int} (h : Plain t zs) : parts t = zs.map partOf := by rw [h.text]; exact parts_textOf zs
theorem Plain.well {t : ByteArray} {zs : List Int} (h : Plain t zs) : (UtfKit.parts t).all (·.ok) = true := by
  rw [h.parts, List.all_map, List.all_eq_true]
  intro z _; rfl
theorem Plain.again {t : ByteArray} {zs : List Int} (h : Plain t zs) (ht : t.size ≤ 65536) : decText t = t := by
  have e := told_again zs h.calm
  rw [← h.parts] at e
  unfold decText
  rw [if_pos ht, e, ← h.text]
theorem Plain.no_cr {t : ByteArray} {zs : List Int} (h : Plain t zs) (j : Nat) (hj : j < t.size) : byteAt t j ≠ 13 := by
  have e := text_no_cr zs h.calm
  rw [h.text] at hj ⊢
  have hj2 : j < (textOf zs).length := by simpa [ByteArray.size] using hj
  rw [byteAt_list _ _ hj2]
  exact e _ (List.getElem_mem hj2)
theorem Plain.back {t : ByteArray} {zs : List Int} (h : Plain t zs) : (⟨(textOf ((UtfKit.parts t).map fun p => ((p.char : Nat) : Int))).toArray⟩ : ByteArray) = t := by
  rw [h.parts, chars_text, ← h.text]

/-! Two texts. -/
theorem char_cr {s : ByteArray} {pos : Nat} (h : (cutAt s pos).char = 13) : byteAt s pos = 13 ∧ (cutAt s pos).len = 1 := by
  have hl := cr_len h
  refine ⟨?_, hl.2⟩
  have h1 := encode_part _ _ _ _ _ hl.1
  change encodeRuneZ ((cutAt s pos).char : Nat) = [(byteAt s pos : Int), _, _, _].take (cutAt s pos).len at h1
  rw [h, hl.2] at h1
  have h2 : encodeRuneZ ((13 : Nat) : Int) = [13] := by decide
  rw [h2] at h1
  simp at h1
  omega
theorem mark_end (s : ByteArray) (hl : 0 < s.size → byteAt s (s.size - 1) ≠ 13) : ∀ (f i : Nat) (m : Bool) (l : List UInt8), s.size - i ≤ f → i ≤ s.size → (i < s.size ∨ m = false) → ((partsFrom s i).foldl takeByte (m, l)).1 = false
  | 0, i, m, l, hf, hi, hm => by
    obtain rfl : i = s.size := by omega
    rw [partsFrom_end s _ (Nat.le_refl _)]
    rcases hm with h | h
    · omega
    · exact h
  | f + 1, i, m, l, hf, hi, hm => by
    by_cases hlt : i < s.size
    · have hc := cutAt_len s i hlt
      rw [partsFrom_step s i hlt, List.foldl_cons]
      rw [show takeByte (m, l) (cutAt s i) = (decide ((cutAt s i).char = 13), (takeByte (m, l) (cutAt s i)).2) from rfl]
      refine mark_end s hl f _ _ _ (by omega) hc.2 ?_
      by_cases he : i + (cutAt s i).len < s.size
      · exact .inl he
      · refine .inr ?_
        simp only [decide_eq_false_iff_not]
        intro h
        have := char_cr h
        refine hl (by omega) ?_
        rw [show s.size - 1 = i by omega]
        exact this.1
    · obtain rfl : i = s.size := by omega
      rw [partsFrom_end s _ (Nat.le_refl _)]
      rcases hm with h | h
      · omega
      · exact h
theorem told_two (a b : List Part) (h : (a.foldl takeByte (false, [])).1 = false) : told (a ++ b) = told a ++ told b := by
  unfold told
  rw [List.foldl_append]
  have e : a.foldl takeByte (false, []) = (false, (a.foldl takeByte (false, [])).2) := Prod.ext h rfl
  rw [e, fold_told, fold_told b false []]
  simp
theorem decText_two (a b : ByteArray) (ha : a.size ≤ 20000) (hb : b.size ≤ 20000) (hw : (parts a).all (·.ok) = true) (hl : 0 < a.size → byteAt a (a.size - 1) ≠ 13) : decText (a ++ b) = decText a ++ decText b := by
  unfold decText
  have hsz : (a ++ b).size = a.size + b.size := by simp
  rw [if_pos (by omega), if_pos (by omega), if_pos (by omega), parts_append a b (fun p hp => List.all_eq_true.1 hw p hp), told_two]
  · apply ByteArray.ext; simp
  · exact mark_end a hl a.size 0 false [] (by omega) (Nat.zero_le _) (.inr rfl)
end Go.Proofs.YtcafejjejcchlaaDoor
