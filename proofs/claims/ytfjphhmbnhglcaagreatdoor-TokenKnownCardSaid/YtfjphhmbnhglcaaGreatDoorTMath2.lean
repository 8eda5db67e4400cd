/-
  Tags of any name; values in quotes: what the document says, by definition. No conditions.
-/
import Derived.Test.YtfjphhmbnhglcaaGreatDoorTLawPM
namespace Go.TokenKit
open Go Go.Lib Go.CharrefKit
theorem before_stop {stops : Bytes} {c : UInt8} (hc : stops.contains c = true) : ∀ {n : Bytes} (r : Bytes), (∀ b, b ∈ n → stops.contains b = false) → before stops (n ++ c :: r) = n ∧ behind stops (n ++ c :: r) = c :: r
  | [], r, _ => ⟨by simp only [List.nil_append, before, List.takeWhile, hc, Bool.not_true], by simp only [List.nil_append, behind, List.dropWhile, hc, Bool.not_true]⟩
  | b :: n, r, h => by
    have hb := h b (by simp)
    obtain ⟨h1, h2⟩ := before_stop hc (n := n) r (fun x hx => h x (by simp [hx]))
    unfold before at h1
    unfold behind at h2
    exact ⟨by unfold before; simp only [List.cons_append, List.takeWhile, hb, Bool.not_false]; rw [h1], by unfold behind; simp only [List.cons_append, List.dropWhile, hb, Bool.not_false]; exact h2⟩
/-- A byte of a name. -/
def nameB (b : UInt8) : Bool := isL b || isD b
theorem all256 {p : UInt8 → Bool} (h : ((List.range 256).all fun k => p (UInt8.ofNat k)) = true) (b : UInt8) : p b = true := by
  have := List.all_eq_true.1 h b.toNat (List.mem_range.2 b.toNat_lt)
  simpa using this
theorem name_stops (b : UInt8) (h : nameB b = true) : tagStops.contains b = false ∧ b ≠ 0 := by
  have key := all256 (p := fun b => !nameB b || (!tagStops.contains b && b != 0)) (by kernel_rfl) b
  simp only [h, Bool.not_true, Bool.false_or, Bool.and_eq_true, Bool.not_eq_true', bne_iff_ne] at key
  exact key
theorem small_name (b : UInt8) (h : nameB b = true) : nameB (smallB b) = true := by
  have key := all256 (p := fun b => !nameB b || nameB (smallB b)) (by kernel_rfl) b
  simpa [h] using key
theorem word_name {n : Bytes} (h : ∀ b, b ∈ n → nameB b = true) : wordL [] (smallL n) = true := by
  unfold wordL smallL
  rw [List.all_eq_true]
  intro b hb
  obtain ⟨c, hc, rfl⟩ := List.mem_map.1 hb
  have := small_name c (h c hc)
  unfold nameB at this
  rw [this]; rfl
theorem attrsL_end (l : List At) (r : Bytes) : attrsL l (62 :: r) = .ok (l, false, r) := by rw [attrsL_step]; rfl
theorem attrsL_self (l : List At) (r : Bytes) : attrsL l (47 :: 62 :: r) = .ok (l, true, r) := by rw [attrsL_step]; rfl
theorem tag_name {n : Bytes} (h : ∀ b, b ∈ n → nameB b = true) (k : Nat) (r : Bytes) : tagL k (n ++ 62 :: r) = .ok (⟨k, smallL n, [], false, []⟩, r) := by
  obtain ⟨h1, h2⟩ := before_stop (stops := tagStops) (c := 62) (by decide) (n := n) r (fun b hb => (name_stops b (h b hb)).1)
  unfold tagL
  rw [h1, h2, if_pos (word_name h), attrsL_end]
theorem tag_self {n : Bytes} (h : ∀ b, b ∈ n → nameB b = true) (k : Nat) (r : Bytes) : tagL k (n ++ 47 :: 62 :: r) = .ok (⟨k, smallL n, [], true, []⟩, r) := by
  obtain ⟨h1, h2⟩ := before_stop (stops := tagStops) (c := 47) (by decide) (n := n) (62 :: r) (fun b hb => (name_stops b (h b hb)).1)
  unfold tagL
  rw [h1, h2, if_pos (word_name h), attrsL_self]
theorem one_start {x : UInt8} (hx : isL x = true) (l : Bytes) : oneL (60 :: x :: l) = tagL 1 (x :: l) := by
  have hm : markL (60 :: x :: l) = true := by simp only [markL, hx, Bool.true_or]; rfl
  unfold oneL
  rw [if_pos hm]
  show (if isL x = true then _ else _) = _
  rw [if_pos hx]; rfl
theorem one_end (l : Bytes) : oneL (60 :: 47 :: l) = endL l := by
  have hm : markL (60 :: 47 :: l) = true := rfl
  unfold oneL
  rw [if_pos hm]
  show (if isL 47 = true then _ else if (47 : UInt8) = 47 then _ else _) = _
  rw [if_neg (by decide), if_pos rfl]; rfl
def tagsText (n : Bytes) : Bytes := 60 :: (n ++ 62 :: 60 :: 47 :: (n ++ 62 :: 60 :: (n ++ 47 :: 62 :: [])))
theorem tags_told {x : UInt8} {n : Bytes} (hx : isL x = true) (h : ∀ b, b ∈ x :: n → nameB b = true) (hl : (x :: n).length ≤ 200) :
    answerL (tagsText (x :: n)) = ([⟨1, smallL (x :: n), [], false, []⟩, ⟨2, smallL (x :: n), [], false, []⟩, ⟨1, smallL (x :: n), [], true, []⟩], 0, 0) := by
  have hlen : (tagsText (x :: n)).length ≤ 65536 := by
    unfold tagsText
    simp only [List.length_cons, List.length_append, List.length_nil] at hl ⊢
    omega
  have h0 : (tagsText (x :: n)).contains 0 = false := by
    rw [Bool.eq_false_iff]
    intro hc
    have hm := List.contains_iff_mem.1 hc
    have hn : ∀ b, b ∈ x :: n → b ≠ 0 := fun b hb => (name_stops b (h b hb)).2
    unfold tagsText at hm
    simp only [List.mem_cons, List.mem_append, List.not_mem_nil, or_false] at hm
    have h1 : (0 : UInt8) ≠ x := fun e => hn x (by simp) e.symm
    have h2 : ¬ (0 : UInt8) ∈ n := fun e => hn 0 (by simp [e]) rfl
    simp [h1, h2] at hm
  have e1 : oneL (tagsText (x :: n)) = .ok (⟨1, smallL (x :: n), [], false, []⟩, 60 :: 47 :: ((x :: n) ++ 62 :: 60 :: ((x :: n) ++ 47 :: 62 :: []))) := by
    show oneL (60 :: x :: (n ++ 62 :: _)) = _
    rw [one_start hx]
    exact tag_name h 1 _
  have e2 : oneL (60 :: 47 :: ((x :: n) ++ 62 :: 60 :: ((x :: n) ++ 47 :: 62 :: []))) = .ok (⟨2, smallL (x :: n), [], false, []⟩, 60 :: ((x :: n) ++ 47 :: 62 :: [])) := by
    rw [one_end]
    have ht := tag_name h 2 (60 :: ((x :: n) ++ 47 :: 62 :: []))
    show endL (x :: (n ++ 62 :: 60 :: ((x :: n) ++ 47 :: 62 :: []))) = _
    unfold endL
    simp only
    rw [if_pos hx]
    rw [show tagL 2 (x :: (n ++ 62 :: 60 :: ((x :: n) ++ 47 :: 62 :: []))) = _ from ht]
    rfl
  have e3 : oneL (60 :: ((x :: n) ++ 47 :: 62 :: [])) = .ok (⟨1, smallL (x :: n), [], true, []⟩, []) := by
    show oneL (60 :: x :: (n ++ 47 :: 62 :: [])) = _
    rw [one_start hx]
    exact tag_self h 1 _
  unfold answerL
  rw [if_neg (by omega), h0]
  have : toksL (tagsText (x :: n)) = .ok [⟨1, smallL (x :: n), [], false, []⟩, ⟨2, smallL (x :: n), [], false, []⟩, ⟨1, smallL (x :: n), [], true, []⟩] := by
    show toksAt 0 _ = _
    rw [toksAt_step 0 (by simp [tagsText]), e1]
    simp only
    rw [toksAt_step _ (by simp), e2]
    simp only
    rw [toksAt_step _ (by simp), e3]
    rfl
  rw [this]; rfl

/-- A value in quotes. -/
theorem quoted_told {q : UInt8} {v : Bytes} (h : ∀ b, b ∈ v → b ≠ q) (r : Bytes) : quotedL q (v ++ q :: r) = some (v, r) := by
  obtain ⟨h1, h2⟩ := before_stop (stops := [q]) (c := q) (by simp) (n := v) r (fun b hb => by have := h b hb; simp [this])
  unfold quotedL
  rw [if_pos (List.contains_iff_mem.2 (by simp)), h1, h2]
  rfl
def valuesText (v : Bytes) : Bytes := 60 :: 112 :: 32 :: 97 :: 61 :: 34 :: (v ++ 34 :: 32 :: 98 :: 32 :: 61 :: 32 :: 39 :: (v ++ 39 :: 62 :: []))
theorem values_told {v : Bytes} (h : hasL v [34, 39, 38, 0] = false) (hl : v.length ≤ 2000) : answerL (valuesText v) = ([⟨1, [112], [([97], v), ([98], v)], false, []⟩], 0, 0) := by
  have h34 : ∀ b, b ∈ v → b ≠ 34 := fun b hb => has_no h b hb 34 (by simp)
  have h39 : ∀ b, b ∈ v → b ≠ 39 := fun b hb => has_no h b hb 39 (by simp)
  have h38 : ∀ b, b ∈ v → b ≠ 38 := fun b hb => has_no h b hb 38 (by simp)
  have hz : ∀ b, b ∈ v → b ≠ 0 := fun b hb => has_no h b hb 0 (by simp)
  have hlen : (valuesText v).length ≤ 65536 := by
    unfold valuesText
    simp only [List.length_cons, List.length_append, List.length_nil]
    omega
  have h0 : (valuesText v).contains 0 = false := by
    rw [Bool.eq_false_iff]
    intro hc
    have hm := List.contains_iff_mem.1 hc
    unfold valuesText at hm
    have h2 : ¬ (0 : UInt8) ∈ v := fun e => hz 0 e rfl
    simp [h2] at hm
  have a1 : attrL (97 :: 61 :: 34 :: (v ++ 34 :: 32 :: 98 :: 32 :: 61 :: 32 :: 39 :: (v ++ 39 :: 62 :: []))) = some (([97], v), 32 :: 98 :: 32 :: 61 :: 32 :: 39 :: (v ++ 39 :: 62 :: [])) := by
    have := attrL_value (l := 97 :: 61 :: 34 :: (v ++ 34 :: 32 :: 98 :: 32 :: 61 :: 32 :: 39 :: (v ++ 39 :: 62 :: []))) (n := [97]) (r := 61 :: 34 :: (v ++ 34 :: 32 :: 98 :: 32 :: 61 :: 32 :: 39 :: (v ++ 39 :: 62 :: []))) rfl rfl (by decide) (by decide) rfl
    rw [this]
    have e : valueL (skipL (trimPrefix (61 :: 34 :: (v ++ 34 :: 32 :: 98 :: 32 :: 61 :: 32 :: 39 :: (v ++ 39 :: 62 :: []))) [61])) = some (v, 32 :: 98 :: 32 :: 61 :: 32 :: 39 :: (v ++ 39 :: 62 :: [])) := quoted_told h34 _
    rw [e]
    simp only [decodeL_plainAll true v h38]
  have a2 : attrL (98 :: 32 :: 61 :: 32 :: 39 :: (v ++ 39 :: 62 :: [])) = some (([98], v), 62 :: []) := by
    have := attrL_value (l := 98 :: 32 :: 61 :: 32 :: 39 :: (v ++ 39 :: 62 :: [])) (n := [98]) (r := 61 :: 32 :: 39 :: (v ++ 39 :: 62 :: [])) rfl rfl (by decide) (by decide) rfl
    rw [this]
    have e : valueL (skipL (trimPrefix (61 :: 32 :: 39 :: (v ++ 39 :: 62 :: [])) [61])) = some (v, 62 :: []) := quoted_told h39 _
    rw [e]
    simp only [decodeL_plainAll true v h38]
  have s1 : attrsL [] (32 :: 97 :: 61 :: 34 :: (v ++ 34 :: 32 :: 98 :: 32 :: 61 :: 32 :: 39 :: (v ++ 39 :: 62 :: []))) = .ok ([([97], v), ([98], v)], false, []) := by
    rw [attrsL_step, show skipL (32 :: 97 :: 61 :: 34 :: (v ++ 34 :: 32 :: 98 :: 32 :: 61 :: 32 :: 39 :: (v ++ 39 :: 62 :: []))) = 97 :: 61 :: 34 :: (v ++ 34 :: 32 :: 98 :: 32 :: 61 :: 32 :: 39 :: (v ++ 39 :: 62 :: [])) from rfl]
    simp only
    rw [if_neg (by decide), if_neg (by decide), a1]
    simp only
    rw [if_neg (by simp), if_neg (by simp), attrsL_step, show skipL (32 :: 98 :: 32 :: 61 :: 32 :: 39 :: (v ++ 39 :: 62 :: [])) = 98 :: 32 :: 61 :: 32 :: 39 :: (v ++ 39 :: 62 :: []) from rfl]
    simp only
    rw [if_neg (by decide), if_neg (by decide), a2]
    simp only
    rw [if_neg (by simp), if_neg (by simp), List.nil_append, List.cons_append, List.nil_append, attrsL_end]
  have e1 : oneL (valuesText v) = .ok (⟨1, [112], [([97], v), ([98], v)], false, []⟩, []) := by
    unfold valuesText
    rw [one_start (by decide)]
    unfold tagL
    rw [if_pos (by rfl)]
    show (match attrsL [] (32 :: 97 :: 61 :: 34 :: (v ++ 34 :: 32 :: 98 :: 32 :: 61 :: 32 :: 39 :: (v ++ 39 :: 62 :: []))) with
      | .error e => Except.error e
      | .ok (q, self, r) => Except.ok ((⟨1, [112], q, self, []⟩ : Tok), r)) = _
    rw [s1]
  unfold answerL
  rw [if_neg (by omega), h0]
  have : toksL (valuesText v) = .ok [⟨1, [112], [([97], v), ([98], v)], false, []⟩] := by
    show toksAt 0 _ = _
    rw [toksAt_step 0 (by simp [valuesText]), e1]
    rfl
  rw [this]; rfl
end Go.TokenKit
