/-
  Trees over lists: the elements of the subset, and how tokens are built into a tree. No conditions.
-/
import Derived.Test.YtnfkndaggcklkaaGreatDoorTMath
namespace Go.TreeKit
open Go Go.Lib Go.CharrefKit Go.TokenKit

structure Nd where
  kind : Nat
  name : Bytes
  attrs : List At
  data : Bytes
  up : Int
  kids : List Nat
  deriving DecidableEq
/-- An open node. -/
structure Opd where
  node : Nat
  name : Bytes
  kind : Nat
  deriving DecidableEq
/-- The builder: nodes; the open ones, the top first; the words of the text under way. -/
structure BS where
  t : List Nd
  o : List Opd
  ws : Bytes

/-- The elements of the subset, and their kinds. -/
def kindTab : List (Bytes × Nat) := [([100, 105, 118], 1), ([117, 108], 1), ([111, 108], 1), ([115, 101, 99, 116, 105, 111, 110], 1), ([97, 114, 116, 105, 99, 108, 101], 1), ([104, 101, 97, 100, 101, 114], 1), ([102, 111, 111, 116, 101, 114], 1), ([109, 97, 105, 110], 1), ([110, 97, 118], 1), ([97, 115, 105, 100, 101], 1), ([98, 108, 111, 99, 107, 113, 117, 111, 116, 101], 1), ([102, 105, 103, 117, 114, 101], 1),
  ([112], 2), ([108, 105], 3), ([104, 49], 4), ([104, 50], 4), ([104, 51], 4), ([104, 52], 4), ([104, 53], 4), ([104, 54], 4),
  ([115, 112, 97, 110], 5), ([98], 5), ([105], 5), ([101, 109], 5), ([115, 116, 114, 111, 110, 103], 5), ([117], 5), ([115], 5), ([115, 109, 97, 108, 108], 5), ([99, 111, 100, 101], 5), ([98, 100, 105], 5), ([98, 100, 111], 5), ([97, 98, 98, 114], 5), ([99, 105, 116, 101], 5), ([113], 5), ([115, 117, 98], 5), ([115, 117, 112], 5), ([109, 97, 114, 107], 5),
  ([97], 6), ([98, 114], 7), ([119, 98, 114], 7), ([104, 114], 8)]
def kindL (w : Bytes) : Nat := ((kindTab.find? fun p => p.1 == w).map (·.2)).getD 0
theorem kind_le (w : Bytes) : kindL w ≤ 8 := by
  unfold kindL
  cases h : kindTab.find? fun p => p.1 == w with
  | none => exact Nat.zero_le _
  | some p =>
    have hm := List.mem_of_find?_eq_some h
    have : (kindTab.all fun p => decide (p.2 ≤ 8)) = true := by decide
    simpa using List.all_eq_true.1 this p hm
theorem kind_nil : kindL [] = 0 := by decide
def voidK (k : Nat) : Bool := k == 7 || k == 8
def endsK (k : Nat) : Bool := k == 1 || k == 2 || k == 3 || k == 4 || k == 8
def wallO (o : Opd) : Bool := o.kind == 4 || (o.kind == 1 && !(o.name == [100, 105, 118]))
/-- Is an element of a kind open? (The last of the list is the document.) -/
def hasR (k : Nat) : List Opd → Bool
  | [] => false
  | [_] => false
  | o :: r => if o.kind == k then true else if k == 3 && wallO o then false else hasR k r
def topO (l : List Opd) : Opd := l.headD ⟨0, [], 0⟩
def takesL (k : Nat) (l : List Opd) : Bool :=
  if endsK k && hasR 2 l then false
  else if k == 3 || k == 6 then !hasR k l
  else if k == 4 then !((topO l).kind == 4)
  else true
def closeAllL (ks : List Nat) : List Opd → List Opd
  | [] => []
  | o :: r => if ks.contains o.kind then closeAllL ks r else o :: r
def closeOneL (k : Nat) (l : List Opd) : List Opd := if (topO l).kind == k then l.tail else l
def closeAheadL (k : Nat) (l : List Opd) : List Opd :=
  if k == 3 then closeOneL 3 (closeAllL [2] l) else if endsK k then closeOneL 2 l else l
/-- The text under way gets its words. -/
def flushL (s : BS) : BS := if s.ws = [] then s else ⟨s.t.modify (s.t.length - 1) (fun n => { n with data := s.ws }), s.o, []⟩
def addL (s : BS) (n : Nd) : Except Nat BS :=
  if 16384 ≤ s.t.length then .error 3
  else .ok ⟨((flushL s).t.modify (topO s.o).node (fun m => { m with kids := m.kids ++ [s.t.length] })) ++ [{ n with up := (topO s.o).node }], s.o, []⟩
def atTextL (s : BS) : Bool := match s.t.getLast? with
  | some n => n.kind == 2 && n.up == ((topO s.o).node : Int)
  | none => false
def textNd : Nd := ⟨2, [], [], [], 0, []⟩
def textL (s : BS) (d : Bytes) : Except Nat BS :=
  if d = [] then .ok s
  else if atTextL s then .ok ⟨s.t, s.o, s.ws ++ d⟩
  else match addL s textNd with
    | .error e => .error e
    | .ok s2 => .ok ⟨s2.t, s2.o, s2.ws ++ d⟩
def startL (s : BS) (t : Tok) (k : Nat) : Except Nat BS :=
  if t.self && !voidK k then .error 51
  else if !takesL k (closeAheadL k s.o) then .error 51
  else if 200 < (closeAheadL k s.o).length then .error 52
  else match addL ⟨s.t, closeAheadL k s.o, s.ws⟩ ⟨1, t.name, t.attrs, [], 0, []⟩ with
    | .error e => .error e
    | .ok s2 => .ok (if voidK k then s2 else ⟨s2.t, ⟨s.t.length, t.name, k⟩ :: s2.o, s2.ws⟩)
def closeEndL (k : Nat) (l : List Opd) : List Opd := if k == 1 then closeAllL [2, 3] l else if k == 3 then closeAllL [2] l else l
def endTagL (s : BS) (name : Bytes) (k : Nat) : Except Nat BS :=
  if (topO (closeEndL k s.o)).name = name then .ok ⟨s.t, (closeEndL k s.o).tail, s.ws⟩ else .error 51
def tagB (s : BS) (t : Tok) : Except Nat BS :=
  if kindL t.name == 0 then .error 50
  else if t.kind == 2 then endTagL s t.name (kindL t.name)
  else startL s t (kindL t.name)
def takeB (s : BS) (t : Tok) (first : Bool) : Except Nat BS :=
  if t.kind == 5 then (if first then .ok s else .error 51)
  else if t.kind == 3 then textL s t.data
  else if t.kind == 1 || t.kind == 2 then tagB s t
  else .ok s
def rootNd : Nd := ⟨0, [], [], [], -1, []⟩
def beginB : BS := ⟨[rootNd], [⟨0, [], 0⟩], []⟩
def buildF : Nat → BS → List Tok → Except (Nat × Nat) BS
  | _, s, [] => .ok s
  | i, s, t :: r => match takeB s t (i == 0) with
    | .error e => .error (e, i)
    | .ok s2 => buildF (i + 1) s2 r
/-- P5.2: the tree, the error, its place. -/
def buildL (l : List Tok) : List Nd × Nat × Nat := match buildF 0 beginB l with
  | .error (e, i) => ([], e, i)
  | .ok s => ((flushL s).t, 0, 0)

/-- What a builder's state always is. -/
structure WF (s : BS) : Prop where
  root : ∃ r, s.o = r ++ [⟨0, [], 0⟩]
  nodes : ∀ o, o ∈ s.o → o.node < s.t.length
  few : s.t.length ≤ 16384
  kids : ∀ n, n ∈ s.t → n.kids.length ≤ s.t.length
theorem mem_modify {α : Type} {f : α → α} : ∀ {l : List α} {i : Nat} {a : α}, a ∈ l.modify i f → a ∈ l ∨ ∃ b, b ∈ l ∧ a = f b
  | [], i, a, h => by simp at h
  | x :: r, 0, a, h => by
    simp only [List.modify_zero_cons, List.mem_cons] at h
    rcases h with rfl | h
    · exact .inr ⟨x, by simp, rfl⟩
    · exact .inl (by simp [h])
  | x :: r, i + 1, a, h => by
    simp only [List.modify_succ_cons, List.mem_cons] at h
    rcases h with rfl | h
    · exact .inl (by simp)
    · rcases mem_modify h with h | ⟨b, hb, e⟩
      · exact .inl (by simp [h])
      · exact .inr ⟨b, by simp [hb], e⟩
theorem WF.pos {s : BS} (h : WF s) : 0 < s.t.length := by
  obtain ⟨r, hr⟩ := h.root
  have := h.nodes ⟨0, [], 0⟩ (by rw [hr]; simp)
  simpa using this
theorem WF.ne {s : BS} (h : WF s) : s.o ≠ [] := by
  obtain ⟨r, hr⟩ := h.root
  rw [hr]; simp
theorem WF.top {s : BS} (h : WF s) : (topO s.o).node < s.t.length := by
  cases hs : s.o with
  | nil => exact absurd hs h.ne
  | cons o r => exact h.nodes o (by rw [hs]; simp)
theorem WF.close {s : BS} (h : WF s) {l : List Opd} (hr : ∃ r, l = r ++ [⟨0, [], 0⟩]) (hs : ∀ o, o ∈ l → o ∈ s.o) : WF ⟨s.t, l, s.ws⟩ := ⟨hr, fun o ho => h.nodes o (hs o ho), h.few, h.kids⟩
theorem closeAll_root {ks : List Nat} (h0 : ks.contains 0 = false) : ∀ {l : List Opd}, (∃ r, l = r ++ [⟨0, [], 0⟩]) → ∃ r, closeAllL ks l = r ++ [⟨0, [], 0⟩]
  | [], ⟨r, hr⟩ => by simp at hr
  | o :: l, ⟨[], hr⟩ => by
    simp only [List.nil_append, List.cons.injEq] at hr
    obtain ⟨rfl, rfl⟩ := hr
    exact ⟨[], by unfold closeAllL; rw [if_neg (by rw [h0]; decide)]; rfl⟩
  | o :: l, ⟨x :: r, hr⟩ => by
    simp only [List.cons_append, List.cons.injEq] at hr
    obtain ⟨rfl, hl⟩ := hr
    unfold closeAllL
    by_cases hc : ks.contains o.kind = true
    · rw [if_pos hc]
      exact closeAll_root h0 ⟨r, hl⟩
    · rw [if_neg hc]
      exact ⟨o :: r, by rw [hl]; rfl⟩
theorem closeAll_sub {ks : List Nat} : ∀ {l : List Opd}, ∀ o, o ∈ closeAllL ks l → o ∈ l
  | [], _, h => by cases h
  | x :: r, o, h => by
    unfold closeAllL at h
    split at h
    · exact List.mem_cons_of_mem _ (closeAll_sub o h)
    · exact h
theorem closeAll_le (ks : List Nat) : ∀ l : List Opd, (closeAllL ks l).length ≤ l.length
  | [] => Nat.le_refl _
  | o :: r => by
    unfold closeAllL
    split
    · have := closeAll_le ks r; simp only [List.length_cons]; omega
    · exact Nat.le_refl _
theorem closeOne_le (k : Nat) (l : List Opd) : (closeOneL k l).length ≤ l.length := by
  unfold closeOneL
  split
  · rw [List.length_tail]; omega
  · exact Nat.le_refl _
theorem closeAhead_le (k : Nat) (l : List Opd) : (closeAheadL k l).length ≤ l.length := by
  unfold closeAheadL
  split
  · exact Nat.le_trans (closeOne_le _ _) (closeAll_le _ _)
  · split
    · exact closeOne_le _ _
    · exact Nat.le_refl _
theorem closeEnd_le (k : Nat) (l : List Opd) : (closeEndL k l).length ≤ l.length := by
  unfold closeEndL
  split
  · exact closeAll_le _ _
  · split
    · exact closeAll_le _ _
    · exact Nat.le_refl _
theorem root_ne {l : List Opd} (h : ∃ r, l = r ++ [⟨0, [], 0⟩]) : l ≠ [] := by obtain ⟨r, e⟩ := h; rw [e]; simp
theorem tail_root {l : List Opd} (h : ∃ r, l = r ++ [⟨0, [], 0⟩]) (hk : (topO l).kind ≠ 0) : ∃ r, l.tail = r ++ [⟨0, [], 0⟩] := by
  obtain ⟨r, rfl⟩ := h
  cases r with
  | nil => exact absurd rfl hk
  | cons x r => exact ⟨r, rfl⟩
theorem tail_root' {l : List Opd} (h : ∃ r, l = r ++ [⟨0, [], 0⟩]) (hk : (topO l).name ≠ []) : ∃ r, l.tail = r ++ [⟨0, [], 0⟩] := by
  obtain ⟨r, rfl⟩ := h
  cases r with
  | nil => exact absurd rfl hk
  | cons x r => exact ⟨r, rfl⟩
theorem closeOne_root {k : Nat} {l : List Opd} (h0 : k ≠ 0) (h : ∃ r, l = r ++ [⟨0, [], 0⟩]) : ∃ r, closeOneL k l = r ++ [⟨0, [], 0⟩] := by
  unfold closeOneL
  split
  · rename_i hk
    exact tail_root h (by rw [beq_iff_eq] at hk; rw [hk]; exact h0)
  · exact h
theorem closeOne_sub {k : Nat} {l : List Opd} : ∀ o, o ∈ closeOneL k l → o ∈ l := fun o h => by
  unfold closeOneL at h
  split at h
  · exact List.mem_of_mem_tail h
  · exact h
theorem closeAhead_root {k : Nat} {l : List Opd} (h : ∃ r, l = r ++ [⟨0, [], 0⟩]) : ∃ r, closeAheadL k l = r ++ [⟨0, [], 0⟩] := by
  unfold closeAheadL
  split
  · exact closeOne_root (by decide) (closeAll_root (by decide) h)
  · split
    · exact closeOne_root (by decide) h
    · exact h
theorem closeAhead_sub {k : Nat} {l : List Opd} : ∀ o, o ∈ closeAheadL k l → o ∈ l := fun o h => by
  unfold closeAheadL at h
  split at h
  · exact closeAll_sub o (closeOne_sub o h)
  · split at h
    · exact closeOne_sub o h
    · exact h
theorem closeEnd_root {k : Nat} {l : List Opd} (h : ∃ r, l = r ++ [⟨0, [], 0⟩]) : ∃ r, closeEndL k l = r ++ [⟨0, [], 0⟩] := by
  unfold closeEndL
  split
  · exact closeAll_root (by decide) h
  · split
    · exact closeAll_root (by decide) h
    · exact h
theorem closeEnd_sub {k : Nat} {l : List Opd} : ∀ o, o ∈ closeEndL k l → o ∈ l := fun o h => by
  unfold closeEndL at h
  split at h
  · exact closeAll_sub o h
  · split at h
    · exact closeAll_sub o h
    · exact h
theorem flush_len (s : BS) : (flushL s).t.length = s.t.length := by unfold flushL; split <;> simp
theorem flush_o (s : BS) : (flushL s).o = s.o := by unfold flushL; split <;> rfl
theorem flush_ws (s : BS) : (flushL s).ws = [] := by
  unfold flushL
  split
  · assumption
  · rfl
theorem WF.flush {s : BS} (h : WF s) : WF (flushL s) := ⟨by rw [flush_o]; exact h.root, by rw [flush_o, flush_len]; exact h.nodes, by rw [flush_len]; exact h.few, fun n hn => by
  rw [flush_len]
  unfold flushL at hn
  split at hn
  · exact h.kids n hn
  · rcases mem_modify hn with hn | ⟨m, hm, rfl⟩
    · exact h.kids n hn
    · exact h.kids m hm⟩
theorem addL_len {s s2 : BS} {n : Nd} (h : addL s n = .ok s2) : s2.t.length = s.t.length + 1 ∧ s2.o = s.o ∧ s2.ws = [] ∧ s.t.length < 16384 := by
  unfold addL at h
  split at h
  · cases h
  · cases h
    refine ⟨?_, rfl, rfl, by omega⟩
    simp [flush_len]
theorem WF.add {s s2 : BS} {n : Nd} (h : WF s) (hn : n.kids = []) (ha : addL s n = .ok s2) : WF s2 := by
  obtain ⟨h1, h2, h3, h4⟩ := addL_len ha
  refine ⟨by rw [h2]; exact h.root, by rw [h1, h2]; exact fun o ho => Nat.lt_succ_of_lt (h.nodes o ho), by rw [h1]; omega, fun m hm => ?_⟩
  rw [h1]
  have hf := h.flush.kids
  rw [flush_len] at hf
  unfold addL at ha
  split at ha
  · cases ha
  · cases ha
    rcases List.mem_append.1 hm with hm | hm
    · rcases mem_modify hm with hm2 | ⟨m', hm2, rfl⟩
      · have := hf m hm2; omega
      · have := hf m' hm2
        simp only [List.length_append, List.length_cons, List.length_nil]; omega
    · rw [List.mem_singleton] at hm
      subst hm
      simp [hn]
theorem WF.text {s s2 : BS} {d : Bytes} (h : WF s) (ha : textL s d = .ok s2) : WF s2 := by
  unfold textL at ha
  split at ha
  · cases ha; exact h
  · split at ha
    · cases ha; exact ⟨h.root, h.nodes, h.few, h.kids⟩
    · split at ha
      · cases ha
      · rename_i s3 h3
        cases ha
        have := h.add rfl h3
        exact ⟨this.root, this.nodes, this.few, this.kids⟩
theorem WF.start {s s2 : BS} {t : Tok} {k : Nat} (h : WF s) (ha : startL s t k = .ok s2) : WF s2 := by
  unfold startL at ha
  split at ha
  · cases ha
  · split at ha
    · cases ha
    · split at ha
      · cases ha
      · split at ha
        · cases ha
        · rename_i s3 h3
          have hc : WF ⟨s.t, closeAheadL k s.o, s.ws⟩ := h.close (closeAhead_root h.root) closeAhead_sub
          have hw := hc.add rfl h3
          obtain ⟨h1, h2, h3', h4⟩ := addL_len h3
          cases ha
          split
          · exact hw
          · obtain ⟨r, hr⟩ := hw.root
            refine ⟨⟨⟨s.t.length, t.name, k⟩ :: r, by simp only [hr]; rfl⟩, fun o ho => ?_, hw.few, hw.kids⟩
            rcases List.mem_cons.1 ho with rfl | ho
            · show s.t.length < s3.t.length
              rw [h1]; exact Nat.lt_succ_self _
            · exact hw.nodes o ho
theorem WF.endTag {s s2 : BS} {name : Bytes} {k : Nat} (hn : name ≠ []) (h : WF s) (ha : endTagL s name k = .ok s2) : WF s2 := by
  unfold endTagL at ha
  split at ha
  · rename_i hh
    cases ha
    exact h.close (tail_root' (closeEnd_root h.root) (by rw [hh]; exact hn)) (fun o ho => closeEnd_sub o (List.mem_of_mem_tail ho))
  · cases ha
theorem kind_name {w : Bytes} (h : kindL w ≠ 0) : w ≠ [] := fun e => h (by rw [e]; exact kind_nil)
theorem WF.take {s s2 : BS} {t : Tok} {f : Bool} (h : WF s) (ha : takeB s t f = .ok s2) : WF s2 := by
  unfold takeB at ha
  split at ha
  · split at ha
    · cases ha; exact h
    · cases ha
  · split at ha
    · exact h.text ha
    · split at ha
      · unfold tagB at ha
        split at ha
        · cases ha
        · rename_i hk
          split at ha
          · exact h.endTag (kind_name (by simpa using hk)) ha
          · exact h.start ha
      · cases ha; exact h
theorem WF.begin_ : WF beginB := ⟨⟨[], rfl⟩, fun o ho => by simp [beginB] at ho; subst ho; decide, by decide, fun n hn => by simp [beginB] at hn; subst hn; decide⟩
end Go.TreeKit

