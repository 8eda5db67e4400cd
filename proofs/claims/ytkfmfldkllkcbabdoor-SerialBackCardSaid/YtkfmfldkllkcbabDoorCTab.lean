/-
  The names of the program, looked up by halves. No conditions.
-/
import Derived.Test.YtkfmfldkllkcbabDoorCSearch
namespace Go.CharrefKit
open Go
/-- Names as texts. -/
def strOf (l : List Nat) : ByteArray := ⟨(l.map Nat.toUInt8).toArray⟩
def nameCells : List Entry → List Value
  | [] => []
  | (n, c, b) :: r => .string (strOf n) :: .int .i32 ((c : Nat) : Int) :: .bool b :: nameCells r
theorem nameCells_at : ∀ {l : List Entry} {k : Nat} {e : Entry}, l[k]? = some e → (nameCells l)[k * 3]? = some (.string (strOf e.1)) ∧ (nameCells l)[k * 3 + 1]? = some (.int .i32 ((e.2.1 : Nat) : Int)) ∧ (nameCells l)[k * 3 + 2]? = some (.bool e.2.2)
  | [], _, _, h => by simp at h
  | (n, c, b) :: r, 0, e, h => by
    simp only [List.getElem?_cons_zero, Option.some.injEq] at h; subst h; exact ⟨rfl, rfl, rfl⟩
  | (n, c, b) :: r, k + 1, e, h => by
    have := nameCells_at (l := r) (k := k) (e := e) (by simpa using h)
    rw [show (k + 1) * 3 = k * 3 + 1 + 1 + 1 from by omega]
    simpa [nameCells] using this
def oldNames : Nat → List Value
  | 0 => []
  | n + 1 => .string ⟨#[]⟩ :: .int .i32 0 :: .bool false :: oldNames n

/-- The order of texts is one. -/
theorem less_trans : ∀ {a b c : List UInt8}, Op.bytesLess a b = true → Op.bytesLess b c = true → Op.bytesLess a c = true
  | _, [], _, h, _ => by simp [Op.bytesLess] at h
  | _, _ :: _, [], _, h => by simp [Op.bytesLess] at h
  | [], _ :: _, _ :: _, _, _ => rfl
  | x :: a, y :: b, z :: c, h1, h2 => by
    simp only [Op.bytesLess, Bool.or_eq_true, decide_eq_true_eq, Bool.and_eq_true, beq_iff_eq] at h1 h2 ⊢
    rcases h1 with h1 | ⟨rfl, h1⟩
    · rcases h2 with h2 | ⟨rfl, h2⟩
      · exact .inl (UInt8.lt_trans h1 h2)
      · exact .inl h1
    · rcases h2 with h2 | ⟨rfl, h2⟩
      · exact .inl h2
      · exact .inr ⟨rfl, less_trans h1 h2⟩
theorem less_irrefl : ∀ (a : List UInt8), Op.bytesLess a a = false
  | [] => rfl
  | x :: a => by
    simp only [Op.bytesLess, Bool.or_eq_false_iff, decide_eq_false_iff_not, Bool.and_eq_false_iff]
    exact ⟨UInt8.lt_irrefl x, .inr (less_irrefl a)⟩
def bytesOf (l : List Nat) : List UInt8 := l.map Nat.toUInt8
theorem rising_table : ((List.range 58).all fun i => Op.bytesLess (bytesOf (tabC.getD i ([], 0, false)).1) (bytesOf (tabC.getD (i + 1) ([], 0, false)).1)) = true := by kernel_rfl
theorem small_table : (tabC.all fun e => e.1.all fun b => decide (b < 256)) = true := by kernel_rfl
theorem tabC_len : tabC.length = 59 := by kernel_rfl
theorem rising {i j : Nat} (hij : i < j) (hj : j < 59) : Op.bytesLess (bytesOf (tabC.getD i ([], 0, false)).1) (bytesOf (tabC.getD j ([], 0, false)).1) = true := by
  induction j with
  | zero => omega
  | succ j ih =>
    have hs := List.all_eq_true.1 rising_table j (List.mem_range.2 (by omega))
    by_cases e : i = j
    · subst e; exact hs
    · exact less_trans (ih (by omega) (by omega)) hs
/-- What the search asks. -/
def atLeast (word : List UInt8) (i : Nat) : Bool := !Op.bytesLess (bytesOf (tabC.getD i ([], 0, false)).1) word
theorem atLeast_mono (word : List UInt8) (a b : Nat) (hab : a ≤ b) (hb : b < 59) (h : atLeast word a = true) : atLeast word b = true := by
  by_cases e : a = b
  · subst e; exact h
  · unfold atLeast at h ⊢
    rw [Bool.not_eq_true'] at h ⊢
    cases hl : Op.bytesLess (bytesOf (tabC.getD b ([], 0, false)).1) word with
    | false => rfl
    | true => rw [less_trans (rising (by omega) hb) hl] at h; cases h
theorem nats_bytesOf {l : List Nat} (h : ∀ b ∈ l, b < 256) : nats (bytesOf l) = l := by
  induction l with
  | nil => rfl
  | cons x r ih =>
    have h1 := h x (List.mem_cons_self ..)
    show (x.toUInt8).toNat :: nats (bytesOf r) = x :: r
    rw [ih (fun b hb => h b (List.mem_cons_of_mem _ hb))]
    congr 1
    simp; omega
theorem tabC_small {e : Entry} (h : e ∈ tabC) : ∀ b ∈ e.1, b < 256 := by
  have := List.all_eq_true.1 small_table e h
  simpa using this
end Go.CharrefKit
namespace Go.Proofs.YtkfmfldkllkcbabDoor
open Go.RowKit Go.RunKit Go.CharrefKit Go.Lib

theorem names_lit (w : World) : litOf Tryd.prog 48 w = some (81, .pointer (some ⟨w.heap.size, 0, none⟩), .agg (nameCells tabC).toArray, w.alloc (.cells (oldNames 59).toArray 81)) := by kernel_rfl
theorem under59 : Tryd.prog.underlying 81 = some (.array 59 80) := by kernel_rfl
theorem size59 : (Tryd.prog.info? 81).map (·.size) = some 177 := by kernel_rfl
theorem names_size : (nameCells tabC).toArray.size = 177 := by kernel_rfl
theorem names_one : (nameCells tabC).toArray.all (·.oneCell') = true := by kernel_rfl
theorem info59 : (Tryd.prog.info? 81).map (fun i => (i.zero, i.size)) = some (some (.agg (oldNames 59).toArray), 177) := by kernel_rfl
set_option maxRecDepth 10000 in
theorem names_any (w : World) : Calls Tryd.prog 48 #[] w fun e w' => e = .returned (.agg (nameCells tabC).toArray) ∧ w' = w.alloc (.cells (nameCells tabC).toArray 81) :=
  calls_of_lit (names_lit w) under59 rfl (by rw [names_size]; exact size59) (by kernel_rfl) names_one

/-- A world that holds the names, and a word. -/
structure Laid (gl gw : Nat) (word : ByteArray) (w : World) : Prop where
  names : ∀ k e, tabC[k]? = some e → w.cell? ⟨gl, k * 3, none⟩ = some (.string (strOf e.1))
  word : w.cell? ⟨gw, 0, none⟩ = some (.string word)

set_option maxRecDepth 100000 in
set_option maxHeartbeats 1000000 in
theorem asks_any (gl gw : Nat) (word : ByteArray) (w : World) (h : Laid gl gw word w) (m i : Nat) (hi : i < 59) :
    Calls Tryd.prog 51 (#[.int .i64 i] ++ #[.pointer (some ⟨gl, 0, none⟩), .pointer (some ⟨gw, 0, none⟩)]) (w.drewN m) fun e w' => e = .returned (.bool (atLeast word.data.toList i)) ∧ ∃ q, w' = (w.drewN m).drewN q := by
  obtain ⟨e, he⟩ := some_at tabC_len hi
  have c1 := h.names i e he
  have c2 := h.word
  have hV : Hid (atLeast word.data.toList i = !Op.bytesLess (strOf e.1).toList word.toList) := Lib.hid (by
    unfold atLeast
    rw [ByteArray.toList_eq, ByteArray.toList_eq, List.getD_eq_getElem?_getD, he]
    rfl)
  have hiI : (i : Int) < 59 := by omega
  clear he h
  go_enter Tryd.func51, Tryd.ntmps51
  go_wp2
  go_quiet (fail)
  go_wp2
  go_ret
  exact ⟨by rw [hV.out]; rfl, _, rfl⟩

/-- The search for a word: it stands where it stands; or nowhere. -/
theorem search_word (word : List UInt8) (c : Nat) (h : FirstAt (atLeast word) 59 c) :
    (∃ e, tabC[c]? = some e ∧ bytesOf e.1 = word) ∨ ((c = 59 ∨ ∃ e, tabC[c]? = some e ∧ bytesOf e.1 ≠ word) ∧ ∀ e ∈ tabC, bytesOf e.1 ≠ word) := by
  have key : ∀ e ∈ tabC, bytesOf e.1 = word → tabC[c]? = some e := by
    intro e he hw
    obtain ⟨j, hj, hje⟩ := List.getElem_of_mem he
    have hj59 : j < 59 := by have := tabC_len; omega
    have hd : (tabC.getD j ([], 0, false)).1 = e.1 := by rw [List.getD_eq_getElem?_getD, List.getElem?_eq_getElem hj, hje]; rfl
    have h1 : atLeast word j = true := by unfold atLeast; rw [hd, hw, less_irrefl]; rfl
    have h2 : c ≤ j := by
      rcases Nat.lt_or_ge j c with hlt | hge
      · have := h.2.1 j hlt; rw [this] at h1; cases h1
      · exact hge
    have h3 : ¬ c < j := by
      intro hlt
      have h4 := h.2.2 c (Nat.le_refl _) (by omega)
      unfold atLeast at h4
      have h5 := rising hlt hj59
      rw [hd, hw] at h5
      rw [h5] at h4; cases h4
    obtain rfl : c = j := by omega
    rw [List.getElem?_eq_getElem hj, hje]
  by_cases hx : ∃ e ∈ tabC, bytesOf e.1 = word
  · obtain ⟨e, he, hw⟩ := hx
    exact .inl ⟨e, key e he hw, hw⟩
  · refine .inr ⟨?_, fun e he hw => hx ⟨e, he, hw⟩⟩
    by_cases hc : c = 59
    · exact .inl hc
    · obtain ⟨e, he⟩ := some_at tabC_len (show c < 59 by have := h.1; omega)
      exact .inr ⟨e, he, fun hw => hx ⟨e, List.mem_of_getElem? he, hw⟩⟩
end Go.Proofs.YtkfmfldkllkcbabDoor

