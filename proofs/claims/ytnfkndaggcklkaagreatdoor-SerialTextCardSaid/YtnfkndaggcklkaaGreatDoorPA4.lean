/-
  How many letters; what goes on behind a name. No conditions.
  sort.Search over a closure that only reads, and may draw: it hands back how many places below n are false. Conditions: the closure answers p at each place; p does not fall.
  The names of the program, looked up by halves. No conditions.
  References by name, walked: the program's way. Conditions: the text begins with &.
  Find of charref. Conditions: the text is no longer than 2^40 bytes.
  strings.Builder in this program: copyCheck and WriteString at a builder that the call itself has made. Conditions: the bytes are no more than 2^47.
  A character as a text, and texts as rows of bytes. No conditions.
-/
import Derived.Test.YtnfkndaggcklkaaGreatDoorPA3
import Derived.Deep.LoopGhost
import Derived.Deep.Draws
import Derived.Shelf.Abstract
import Derived.BigRegion
import Derived.Test.YtnfkndaggcklkaaGreatDoorShelf
import Derived.Shelf.Strings.BuilderRune
import Derived.Shelf.Strings.BuilderF
import Derived.Lib.OthersKept
import Derived.Laws.Cover4
import Derived.Laws.IdiomStrings
import Derived.Lib.QuoteLoop
namespace Go.Proofs.YtnfkndaggcklkaaGreatDoor
open Go.RowKit Go.RunKit Go.CharrefKit Go.Lib

theorem letters_done {r : List Nat} {k : Nat} (hk : k ≤ r.length) (h6 : k ≤ 6) (hall : ∀ b ∈ r.take k, isLet b = true) (he : k = 6 ∨ ∀ b, r[k]? = some b → isLet b = false) : lettersN r = k := by
  unfold lettersN
  rw [takeWhile_take (k := k)]
  · rw [List.length_take, List.length_take]; omega
  · intro b hb
    rw [List.take_take, Nat.min_eq_left h6] at hb
    exact hall b hb
  · intro b hb
    rw [List.getElem?_take] at hb
    split at hb
    · rcases he with h | h
      · omega
      · exact h b hb
    · cases hb

set_option maxRecDepth 100000 in
set_option maxHeartbeats 1000000 in
theorem letters_any (s : ByteArray) (hsz : s.size ≤ 1099511627776) (w : World) :
    Calls Tryz.prog 204 #[.string s] w fun e w' => e = .returned (.int .i64 ((lettersN (natsOf s) : Nat) : Int)) ∧ w = w' := by
  have hl := natsOf_length s
  go_enter Tryz.func204, Tryz.ntmps204
  go_wp2
  go_loop [3] (fun i => ∃ k : Nat, i = .int .i64 (k : Nat) ∧ k ≤ s.size ∧ k ≤ 6 ∧ Hid (∀ b ∈ (natsOf s).take k, isLet b = true)) (fun i => 6 - (RowKit.intOf i).toNat)
  case atStart => exact ⟨0, rfl, by omega, by omega, Lib.hid (by simp)⟩
  case round =>
    obtain ⟨k, rfl, hk, h6, HA⟩ := hrel
    by_cases hlt : k < s.size
    · have hltI : (k : Int) < s.size := by omega
      have hat := natsOf_at s k hlt
      by_cases hk6 : k < 6
      · have hk6I : (k : Int) < 6 := by omega
        have HL := Lib.hid (isLetter_any (s[k]'hlt).toNat (UInt8.toNat_lt _) w)
        cases hv : isLet (s[k]'hlt).toNat with
        | true =>
          rw [hv] at HL
          have HX : Hid (∀ b ∈ (natsOf s).take (k + 1), isLet b = true) := Lib.hid (fun b hb => by
            rw [take_snoc hat, List.mem_append] at hb
            rcases hb with hb | hb
            · exact HA.out b hb
            · simp at hb; subst hb; exact hv)
          clear hat hv
          go_wp2_with (go_at_call 219; refine HL.out.mono ?_; rintro e w1 ⟨rfl, rfl⟩)
          exact ⟨⟨k + 1, by go_num, by omega, by omega, HX⟩, by simp [RowKit.intOf]; omega⟩
        | false =>
          rw [hv] at HL
          have HE := Lib.hid (letters_done (r := natsOf s) (by omega) h6 HA.out (.inr (fun b hb => by rw [hat] at hb; cases hb; exact hv)))
          clear hat hv
          go_wp2_with (go_at_call 219; refine HL.out.mono ?_; rintro e w1 ⟨rfl, rfl⟩)
          go_ret
          exact ⟨by rw [HE.out]; rfl, rfl⟩
      · have hk6I := eq_false (show ¬ (k : Int) < 6 by omega)
        have HE := Lib.hid (letters_done (r := natsOf s) (by omega) h6 HA.out (.inl (by omega)))
        clear hat
        go_wp2
        go_ret
        exact ⟨by rw [HE.out]; rfl, rfl⟩
    · have hltI := eq_false (show ¬ (k : Int) < s.size by omega)
      have HE := Lib.hid (letters_done (r := natsOf s) (by omega) h6 HA.out (.inr (fun b hb => by rw [List.getElem?_eq_none (by omega)] at hb; cases hb)))
      go_wp2
      go_ret
      exact ⟨by rw [HE.out]; rfl, rfl⟩

theorem isNum_digit (b : Nat) : isNum b = decide (digitV b < 10) := by
  have := digitV_cases b
  unfold isNum
  rw [decide_eq_decide]
  omega
set_option maxRecDepth 100000 in
set_option maxHeartbeats 1000000 in
theorem goesOn_any (s : ByteArray) (w : World) :
    Calls Tryz.prog 207 #[.string s] w fun e w' => e = .returned (.bool (goesOn (natsOf s)[0]?)) ∧ w = w' := by
  have hl := natsOf_length s
  by_cases h0 : s.size = 0
  · have he : s = ⟨#[]⟩ := ByteArray.ext (Array.eq_empty_of_size_eq_zero h0)
    subst he
    go_enter Tryz.func207, Tryz.ntmps207
    go_wp2
    go_ret
    exact ⟨rfl, rfl⟩
  · have hp : 0 < s.size := by omega
    have hpI : (0 : Int) < s.size := by omega
    have hne : (s.toList == []) = false := by
      rw [ByteArray.toList_eq, beq_eq_false_iff_ne]
      intro e
      have : s.data.toList.length = s.size := by simp
      rw [e] at this
      simp at this; omega
    have hat := natsOf_at s 0 hp
    have HL := Lib.hid (isLetter_any (s[0]'hp).toNat (UInt8.toNat_lt _) w)
    have HD := Lib.hid (digit_any (s[0]'hp).toNat (UInt8.toNat_lt _) w)
    have HV : Hid (goesOn (natsOf s)[0]? = (decide ((s[0]'hp).toNat = 61) || isLet (s[0]'hp).toNat || decide (digitV (s[0]'hp).toNat < 10))) := Lib.hid (by rw [hat]; unfold goesOn; simp only; rw [isNum_digit])
    clear hat hl
    by_cases h61 : (s[0]'hp).toNat = 61
    · have HV2 : Hid (goesOn (natsOf s)[0]? = true) := Lib.hid (by rw [HV.out, decide_eq_true h61]; rfl)
      have h61I : ((((s[0]'hp).toNat : Nat) : Int) == 61) = true := beq_iff_eq.2 (by rw [h61]; rfl)
      clear h61 HV
      go_enter Tryz.func207, Tryz.ntmps207
      go_wp2
      go_ret
      exact ⟨by rw [HV2.out]; rfl, rfl⟩
    · have h61I : ((((s[0]'hp).toNat : Nat) : Int) == 61) = false := beq_eq_false_iff_ne.2 (by omega)
      cases hv : isLet (s[0]'hp).toNat with
      | true =>
        rw [hv] at HL
        have HV2 : Hid (goesOn (natsOf s)[0]? = true) := Lib.hid (by rw [HV.out, hv]; simp)
        clear h61 HV hv
        go_enter Tryz.func207, Tryz.ntmps207
        go_wp2_with (go_at_call 219; refine HL.out.mono ?_; rintro e w1 ⟨rfl, rfl⟩)
        go_ret
        exact ⟨by rw [HV2.out]; rfl, rfl⟩
      | false =>
        rw [hv] at HL
        by_cases hd : digitV (s[0]'hp).toNat < 10
        · have HV2 : Hid (goesOn (natsOf s)[0]? = true) := Lib.hid (by rw [HV.out, decide_eq_true hd]; simp)
          have hdI : ((digitV (s[0]'hp).toNat : Nat) : Int) < 10 := by omega
          clear h61 HV hv hd
          go_enter Tryz.func207, Tryz.ntmps207
          go_wp2_with (first
            | (go_at_call 219; refine HL.out.mono ?_; rintro e w1 ⟨rfl, rfl⟩)
            | (go_at_call 201; refine HD.out.mono ?_; rintro e w1 ⟨rfl, rfl⟩))
          go_ret
          exact ⟨by rw [HV2.out]; rfl, rfl⟩
        · have HV2 : Hid (goesOn (natsOf s)[0]? = false) := Lib.hid (by rw [HV.out, decide_eq_false hd, decide_eq_false h61, hv]; rfl)
          have hdI := eq_false (show ¬ ((digitV (s[0]'hp).toNat : Nat) : Int) < 10 by omega)
          clear h61 HV hv hd
          go_enter Tryz.func207, Tryz.ntmps207
          go_wp2_with (first
            | (go_at_call 219; refine HL.out.mono ?_; rintro e w1 ⟨rfl, rfl⟩)
            | (go_at_call 201; refine HD.out.mono ?_; rintro e w1 ⟨rfl, rfl⟩))
          go_ret
          exact ⟨by rw [HV2.out]; rfl, rfl⟩
end Go.Proofs.YtnfkndaggcklkaaGreatDoor

namespace Go.Proofs.YtnfkndaggcklkaaGreatDoor
open Go.RowKit Go.RunKit Go.Shelf

/-- The first place at which p holds lies at c. -/
def FirstAt (p : Nat → Bool) (n c : Nat) : Prop := c ≤ n ∧ (∀ t, t < c → p t = false) ∧ (∀ t, c ≤ t → t < n → p t = true)

set_option maxHeartbeats 1000000 in
set_option maxRecDepth 100000 in
theorem search_any (g : Nat) (cb : Array Value) (n : Nat) (p : Nat → Bool) (w : World) (eg : ∀ args w, (callFunc g args).run Tryz.prog w = .ok (.enter g args) w) (hsz : n < 4611686018427387904)
    (hf : ∀ (m i : Nat), i < n → Calls Tryz.prog g (#[.int .i64 i] ++ cb) (w.drewN m) fun e w' => e = .returned (.bool (p i)) ∧ ∃ q, w' = (w.drewN m).drewN q)
    (hmono : ∀ a b, a ≤ b → b < n → p a = true → p b = true) :
    Calls Tryz.prog 205 #[.int .i64 n, .func (.func g) #[] cb] w fun e w' => (∃ c, e = .returned (.int .i64 (c : Nat)) ∧ FirstAt p n c) ∧ ∃ q, w' = w.drewN q := by
  have HF := Lib.hid hf; clear hf
  have M := Lib.hid hmono; clear hmono
  go_enter Tryz.func205, Tryz.ntmps205
  go_wp2
  go_loopg [5, 6] n (fun kx s5 s6 wr => ∃ (lo hi q : Nat), s5 = .int .i64 lo ∧ s6 = .int .i64 hi ∧ lo ≤ hi ∧ hi ≤ n ∧ hi - lo ≤ kx ∧ wr = w.drewN q ∧
    Hid ((∀ t, t < lo → p t = false) ∧ (∀ t, hi ≤ t → t < n → p t = true)))
  case atStart => exact ⟨0, n, 0, rfl, rfl, Nat.zero_le _, Nat.le_refl _, by omega, rfl, Lib.hid ⟨fun t ht => absurd ht (Nat.not_lt_zero _), fun t h1 h2 => by omega⟩⟩
  case round =>
    obtain ⟨lo, hi, q, rfl, rfl, hlh, hin, hg, rfl, I⟩ := hrel
    by_cases hlt : lo < hi
    · have hc := HF.out q ((lo + hi) / 2) (by omega)
      rw [show (((lo + hi) / 2 : Nat) : Int) = ((lo : Int) + (hi : Int)) / 2 by omega] at hc
      cases hp : p ((lo + hi) / 2) <;> rw [hp] at hc
      · have HP := Lib.hid hp
        clear hp
        go_wp2_with (go_at_fn g; refine hc.mono ?_; rintro e w' ⟨rfl, nq, rfl⟩)
        go_roundg (hi - ((lo + hi) / 2 + 1))
        case measure => omega
        case rel =>
          exact ⟨(lo + hi) / 2 + 1, hi, q + nq, by rw [show ((lo : Int) + (hi : Int)) / 2 + 1 = (((lo + hi) / 2 + 1 : Nat) : Int) by omega], rfl, by omega, hin, Nat.le_refl _, rfl, Lib.hid ⟨fun t ht => (by
            cases h : p t with
            | false => rfl
            | true => have := M.out t ((lo + hi) / 2) (by omega) (by omega) h; rw [HP.out] at this; cases this), I.out.2⟩⟩
      · have HP := Lib.hid hp
        clear hp
        go_wp2_with (go_at_fn g; refine hc.mono ?_; rintro e w' ⟨rfl, nq, rfl⟩)
        go_roundg ((lo + hi) / 2 - lo)
        case measure => omega
        case rel =>
          exact ⟨lo, (lo + hi) / 2, q + nq, rfl, by rw [show ((lo : Int) + (hi : Int)) / 2 = (((lo + hi) / 2 : Nat) : Int) by omega], by omega, by omega, Nat.le_refl _, rfl, Lib.hid ⟨I.out.1, fun t ht htn => M.out ((lo + hi) / 2) t ht htn HP.out⟩⟩
    · obtain rfl : hi = lo := by omega
      go_wp2
      go_ret
      exact ⟨⟨hi, rfl, hin, I.out.1, I.out.2⟩, q, rfl⟩
end Go.Proofs.YtnfkndaggcklkaaGreatDoor

namespace Go.CharrefKit
open Go
/-- Names as texts. -/
def strOf (l : List Nat) : ByteArray := ⟨(l.map Nat.toUInt8).toArray⟩
def nameCells : List Entry → List Value
  | [] => []
  | (n, c, b) :: r => .string (strOf n) :: .int .i32 ((c : Nat) : Int) :: .bool b :: nameCells r
theorem nameCells_at : ∀ {l : List Entry} {k : Nat} {e : Entry}, l[k]? = some e → (nameCells l)[k * 3]? = some (.string (strOf e.1)) ∧ (nameCells l)[k * 3 + 1]? = some (.int .i32 ((e.2.1 : Nat) : Int)) ∧ (nameCells l)[k * 3 + 2]? = some (.bool e.2.2)
  | [], _, _, h => by simp at h
  | (n, c, b) :: r, 0, e, h => by
    simp only [List.getElem?_cons_zero, Option.some.injEq] at h; subst h; exact ⟨rfl, rfl, rfl⟩
  | (n, c, b) :: r, k + 1, e, h => by
    have := nameCells_at (l := r) (k := k) (e := e) (by simpa using h)
    rw [show (k + 1) * 3 = k * 3 + 1 + 1 + 1 from by omega]
    simpa [nameCells] using this
def oldNames : Nat → List Value
  | 0 => []
  | n + 1 => .string ⟨#[]⟩ :: .int .i32 0 :: .bool false :: oldNames n

/-- The order of texts is one. -/
theorem less_trans : ∀ {a b c : List UInt8}, Op.bytesLess a b = true → Op.bytesLess b c = true → Op.bytesLess a c = true
  | _, [], _, h, _ => by simp [Op.bytesLess] at h
  | _, _ :: _, [], _, h => by simp [Op.bytesLess] at h
  | [], _ :: _, _ :: _, _, _ => rfl
  | x :: a, y :: b, z :: c, h1, h2 => by
    simp only [Op.bytesLess, Bool.or_eq_true, decide_eq_true_eq, Bool.and_eq_true, beq_iff_eq] at h1 h2 ⊢
    rcases h1 with h1 | ⟨rfl, h1⟩
    · rcases h2 with h2 | ⟨rfl, h2⟩
      · exact .inl (UInt8.lt_trans h1 h2)
      · exact .inl h1
    · rcases h2 with h2 | ⟨rfl, h2⟩
      · exact .inl h2
      · exact .inr ⟨rfl, less_trans h1 h2⟩
theorem less_irrefl : ∀ (a : List UInt8), Op.bytesLess a a = false
  | [] => rfl
  | x :: a => by
    simp only [Op.bytesLess, Bool.or_eq_false_iff, decide_eq_false_iff_not, Bool.and_eq_false_iff]
    exact ⟨UInt8.lt_irrefl x, .inr (less_irrefl a)⟩
def bytesOf (l : List Nat) : List UInt8 := l.map Nat.toUInt8
theorem rising_table : ((List.range 58).all fun i => Op.bytesLess (bytesOf (tabC.getD i ([], 0, false)).1) (bytesOf (tabC.getD (i + 1) ([], 0, false)).1)) = true := by kernel_rfl
theorem small_table : (tabC.all fun e => e.1.all fun b => decide (b < 256)) = true := by kernel_rfl
theorem tabC_len : tabC.length = 59 := by kernel_rfl
theorem rising {i j : Nat} (hij : i < j) (hj : j < 59) : Op.bytesLess (bytesOf (tabC.getD i ([], 0, false)).1) (bytesOf (tabC.getD j ([], 0, false)).1) = true := by
  induction j with
  | zero => omega
  | succ j ih =>
    have hs := List.all_eq_true.1 rising_table j (List.mem_range.2 (by omega))
    by_cases e : i = j
    · subst e; exact hs
    · exact less_trans (ih (by omega) (by omega)) hs
/-- What the search asks. -/
def atLeast (word : List UInt8) (i : Nat) : Bool := !Op.bytesLess (bytesOf (tabC.getD i ([], 0, false)).1) word
theorem atLeast_mono (word : List UInt8) (a b : Nat) (hab : a ≤ b) (hb : b < 59) (h : atLeast word a = true) : atLeast word b = true := by
  by_cases e : a = b
  · subst e; exact h
  · unfold atLeast at h ⊢
    rw [Bool.not_eq_true'] at h ⊢
    cases hl : Op.bytesLess (bytesOf (tabC.getD b ([], 0, false)).1) word with
    | false => rfl
    | true => rw [less_trans (rising (by omega) hb) hl] at h; cases h
theorem nats_bytesOf {l : List Nat} (h : ∀ b ∈ l, b < 256) : nats (bytesOf l) = l := by
  induction l with
  | nil => rfl
  | cons x r ih =>
    have h1 := h x (List.mem_cons_self ..)
    show (x.toUInt8).toNat :: nats (bytesOf r) = x :: r
    rw [ih (fun b hb => h b (List.mem_cons_of_mem _ hb))]
    congr 1
    simp; omega
theorem tabC_small {e : Entry} (h : e ∈ tabC) : ∀ b ∈ e.1, b < 256 := by
  have := List.all_eq_true.1 small_table e h
  simpa using this
end Go.CharrefKit
namespace Go.Proofs.YtnfkndaggcklkaaGreatDoor
open Go.RowKit Go.RunKit Go.CharrefKit Go.Lib

theorem names_lit (w : World) : litOf Tryz.prog 203 w = some (197, .pointer (some ⟨w.heap.size, 0, none⟩), .agg (nameCells tabC).toArray, w.alloc (.cells (oldNames 59).toArray 197)) := by kernel_rfl
theorem under59 : Tryz.prog.underlying 197 = some (.array 59 196) := by kernel_rfl
theorem size59 : (Tryz.prog.info? 197).map (·.size) = some 177 := by kernel_rfl
theorem names_size : (nameCells tabC).toArray.size = 177 := by kernel_rfl
theorem names_one : (nameCells tabC).toArray.all (·.oneCell') = true := by kernel_rfl
theorem info59 : (Tryz.prog.info? 197).map (fun i => (i.zero, i.size)) = some (some (.agg (oldNames 59).toArray), 177) := by kernel_rfl
set_option maxRecDepth 10000 in
theorem names_any (w : World) : Calls Tryz.prog 203 #[] w fun e w' => e = .returned (.agg (nameCells tabC).toArray) ∧ w' = w.alloc (.cells (nameCells tabC).toArray 197) :=
  calls_of_lit (names_lit w) under59 rfl (by rw [names_size]; exact size59) (by kernel_rfl) names_one

/-- A world that holds the names, and a word. -/
structure Laid (gl gw : Nat) (word : ByteArray) (w : World) : Prop where
  names : ∀ k e, tabC[k]? = some e → w.cell? ⟨gl, k * 3, none⟩ = some (.string (strOf e.1))
  word : w.cell? ⟨gw, 0, none⟩ = some (.string word)

set_option maxRecDepth 100000 in
set_option maxHeartbeats 1000000 in
theorem asks_any (gl gw : Nat) (word : ByteArray) (w : World) (h : Laid gl gw word w) (m i : Nat) (hi : i < 59) :
    Calls Tryz.prog 206 (#[.int .i64 i] ++ #[.pointer (some ⟨gl, 0, none⟩), .pointer (some ⟨gw, 0, none⟩)]) (w.drewN m) fun e w' => e = .returned (.bool (atLeast word.data.toList i)) ∧ ∃ q, w' = (w.drewN m).drewN q := by
  obtain ⟨e, he⟩ := some_at tabC_len hi
  have c1 := h.names i e he
  have c2 := h.word
  have hV : Hid (atLeast word.data.toList i = !Op.bytesLess (strOf e.1).toList word.toList) := Lib.hid (by
    unfold atLeast
    rw [ByteArray.toList_eq, ByteArray.toList_eq, List.getD_eq_getElem?_getD, he]
    rfl)
  have hiI : (i : Int) < 59 := by omega
  clear he h
  go_enter Tryz.func206, Tryz.ntmps206
  go_wp2
  go_quiet (fail)
  go_wp2
  go_ret
  exact ⟨by rw [hV.out]; rfl, _, rfl⟩

/-- The search for a word: it stands where it stands; or nowhere. -/
theorem search_word (word : List UInt8) (c : Nat) (h : FirstAt (atLeast word) 59 c) :
    (∃ e, tabC[c]? = some e ∧ bytesOf e.1 = word) ∨ ((c = 59 ∨ ∃ e, tabC[c]? = some e ∧ bytesOf e.1 ≠ word) ∧ ∀ e ∈ tabC, bytesOf e.1 ≠ word) := by
  have key : ∀ e ∈ tabC, bytesOf e.1 = word → tabC[c]? = some e := by
    intro e he hw
    obtain ⟨j, hj, hje⟩ := List.getElem_of_mem he
    have hj59 : j < 59 := by have := tabC_len; omega
    have hd : (tabC.getD j ([], 0, false)).1 = e.1 := by rw [List.getD_eq_getElem?_getD, List.getElem?_eq_getElem hj, hje]; rfl
    have h1 : atLeast word j = true := by unfold atLeast; rw [hd, hw, less_irrefl]; rfl
    have h2 : c ≤ j := by
      rcases Nat.lt_or_ge j c with hlt | hge
      · have := h.2.1 j hlt; rw [this] at h1; cases h1
      · exact hge
    have h3 : ¬ c < j := by
      intro hlt
      have h4 := h.2.2 c (Nat.le_refl _) (by omega)
      unfold atLeast at h4
      have h5 := rising hlt hj59
      rw [hd, hw] at h5
      rw [h5] at h4; cases h4
    obtain rfl : c = j := by omega
    rw [List.getElem?_eq_getElem hj, hje]
  by_cases hx : ∃ e ∈ tabC, bytesOf e.1 = word
  · obtain ⟨e, he, hw⟩ := hx
    exact .inl ⟨e, key e he hw, hw⟩
  · refine .inr ⟨?_, fun e he hw => hx ⟨e, he, hw⟩⟩
    by_cases hc : c = 59
    · exact .inl hc
    · obtain ⟨e, he⟩ := some_at tabC_len (show c < 59 by have := h.1; omega)
      exact .inr ⟨e, he, fun hw => hx ⟨e, List.mem_of_getElem? he, hw⟩⟩
end Go.Proofs.YtnfkndaggcklkaaGreatDoor

namespace Go.Proofs.YtnfkndaggcklkaaGreatDoor
open Go.RowKit Go.RunKit Go.CharrefKit Go.Lib

/-- The names in a block. -/
def NamesIn (gl : Nat) (w : World) : Prop := gl < w.heap.size ∧ ∀ k e, tabC[k]? = some e → w.cell? ⟨gl, k * 3, none⟩ = some (.string (strOf e.1)) ∧ w.cell? ⟨gl, k * 3 + 1, none⟩ = some (.int .i32 ((e.2.1 : Nat) : Int)) ∧ w.cell? ⟨gl, k * 3 + 2, none⟩ = some (.bool e.2.2)
theorem NamesIn.on {gl : Nat} {w w' : World} (h : NamesIn gl w) (hb : Below w.heap.size w w') : NamesIn gl w' := ⟨Nat.lt_of_lt_of_le h.1 hb.size, fun k e he => by
  obtain ⟨a, b, c⟩ := h.2 k e he
  exact ⟨by rw [hb.cell h.1]; exact a, by rw [hb.cell h.1]; exact b, by rw [hb.cell h.1]; exact c⟩⟩
theorem names_laid (w : World) : NamesIn w.heap.size (w.alloc (.cells (nameCells tabC).toArray 197)) := ⟨by simp, fun k e he => by
  have := nameCells_at he
  rw [World.cell?_alloc_at _ _ _ _ rfl, World.cell?_alloc_at _ _ _ _ rfl, World.cell?_alloc_at _ _ _ _ rfl]
  exact ⟨by simp [this.1], by simp [this.2.1], by simp [this.2.2]⟩⟩

theorem code_none {attr : Bool} {r : List Nat} {k : Nat} (h : ∀ e ∈ tabC, e.1 ≠ r.take (k + 1)) : codeName attr r (k + 1) = codeName attr r k := by
  have : tabC.find? (fun e => decide (e.1 = r.take (k + 1))) = none := List.find?_eq_none.2 (fun e he => by simpa using h e he)
  simp only [codeName, this]
theorem code_some {attr : Bool} {r : List Nat} {k : Nat} {e : Entry} (he : e ∈ tabC) (hn : e.1 = r.take (k + 1)) :
    codeName attr r (k + 1) = if r[k + 1]? = some 59 then ⟨e.2.1, k + 3, true⟩ else if e.2.2 = true then (if attr = true ∧ goesOn r[k + 1]? = true then noRef else ⟨e.2.1, k + 2, true⟩) else codeName attr r k := by
  have : tabC.find? (fun e => decide (e.1 = r.take (k + 1))) = some e := by
    cases hf : tabC.find? (fun e => decide (e.1 = r.take (k + 1))) with
    | none =>
      have := List.find?_eq_none.1 hf e he
      simp only [decide_eq_true_eq] at this
      exact absurd hn this
    | some e' =>
      have h1 : e'.1 = r.take (k + 1) := by simpa using List.find?_some hf
      rw [tab_same (mem_tabC.1 (List.mem_of_find?_eq_some hf)) (mem_tabC.1 he) (by rw [h1, hn])]
  simp only [codeName, this]
theorem word_is {word : ByteArray} {e : Entry} (he : e ∈ tabC) : bytesOf e.1 = word.data.toList ↔ e.1 = natsOf word := by
  constructor
  · intro h
    have := nats_bytesOf (tabC_small he)
    rw [h] at this
    exact this.symm
  · intro h
    apply nats_inj
    rw [nats_bytesOf (tabC_small he), h]; rfl

set_option maxRecDepth 100000 in
set_option maxHeartbeats 4000000 in
theorem byName_any (attr : Bool) (s : ByteArray) (r : List Nat) (hs : natsOf s = 38 :: r) (hsz : s.size ≤ 1099511627776) (w : World) :
    Calls Tryz.prog 186 #[.string s, .bool attr] w fun e w' => e = .returned (refV (nameL attr r)) ∧ Below w.heap.size w w' := by
  have hsl := natsOf_length s
  rw [hs] at hsl
  simp only [List.length_cons] at hsl
  have HS := Lib.hid hs
  have h1s : natsOf (s.extract 1 s.size) = r := by rw [natsOf_drop, hs]; rfl
  have HL := Lib.hid (fun w => letters_any (s.extract 1 s.size) (by simp; omega) w)
  rw [h1s] at HL
  have HF := Lib.hid (codeName_letters attr r)
  have hln := (lettersN_le r).1
  have HR := Lib.hid (fun w => names_any w)
  have HNI := Lib.hid (fun w => names_laid w)
  have HO := Lib.hid names_one
  have HZ : Hid ((Tryz.prog.info? 197).map (·.size) = some (nameCells tabC).toArray.size ∧ (oldNames 59).toArray.size = (nameCells tabC).toArray.size) := Lib.hid ⟨by rw [names_size]; exact size59, by kernel_rfl⟩
  generalize (nameCells tabC).toArray = cs at *
  have hszI : (1 : Int) ≤ s.size := by omega
  clear hs h1s
  go_enter Tryz.func186, Tryz.ntmps186
  go_upto_region 1 with (fail)
  rename_i Q' K hK
  refine wp_region_list ?_
  refine wpList_calls rfl (by kernel_rfl) (HR.out w) ?_
  rintro e w1 ⟨rfl, rfl⟩
  refine ⟨_, rfl, ?_⟩
  have hb1 : Below w.heap.size w (w.alloc (.cells cs 197)) := (Below.refl _ _).alloc (Nat.le_refl _) _
  generalize w.alloc (.cells cs 197) = W1 at *
  refine wpList_alloc_row rfl rfl info59 ?_
  refine wpList_store_row rfl _ _ _ rfl W1.heap.size cs (by rfl) (by rfl) 197 _ (heap_alloc_last W1 _) HZ.out.1 HZ.out.2 HO.out ?_
  rw [World.setRow_alloc_new]
  refine wpList_nil ?_
  refine hK _ _ ?_
  go_frame
  have hb2 : Below w.heap.size w (W1.alloc (.cells cs 197)) := hb1.alloc hb1.size _
  have HN := Lib.hid (HNI.out W1)
  generalize W1.alloc (.cells cs 197) = W2 at *
  generalize W1.heap.size = gl at *
  clear HR HO HZ HNI hb1
  go_wp2_with (go_at_call 204; refine (HL.out _).mono ?_; rintro e w2 ⟨rfl, rfl⟩)
  go_loopw [8] (fun i wr => ∃ k : Nat, i = .int .i64 ((k : Int) + 1) ∧ k ≤ r.length ∧ Hid (nameL attr r = codeName attr r k) ∧ Below w.heap.size w wr ∧ Hid (NamesIn gl wr)) (fun i _ => (RowKit.intOf i).toNat)
  case atStart => exact ⟨lettersN r, by go_num, hln, Lib.hid HF.out.symm, hb2, HN⟩
  case round =>
    clear hb2 HN HF
    obtain ⟨k, rfl, hk, HF, hb, HN⟩ := hrel
    cases k with
    | zero =>
      have HV : Hid (refV (nameL attr r) = .tuple #[.int .i32 0, .int .i64 0, .bool false]) := Lib.hid (by rw [HF.out]; rfl)
      go_wp2
      go_ret3
      exact ⟨by rw [HV.out]; rfl, hb⟩
    | succ k =>
      have hkI : (1 : Int) < (k : Int) + 1 + 1 := by omega
      have hkI2 : (k : Int) + 1 + 1 ≤ s.size := by omega
      have HW : Hid (natsOf (s.extract 1 (k + 1 + 1)) = r.take (k + 1)) := Lib.hid (by rw [natsOf_extract, HS.out]; simp)
      have hsem := semi_at s (k + 1 + 1)
      have hrest : (natsOf s)[k + 1 + 1]? = r[k + 1]? := by rw [HS.out]; rfl
      have hrest0 : (natsOf (s.extract (k + 1 + 1) s.size))[0]? = r[k + 1]? := by rw [natsOf_drop, List.getElem?_drop, Nat.add_zero, hrest]
      rw [hrest] at hsem
      have HPre := Lib.hid (fun w => hasPrefix_any (s.extract (k + 1 + 1) s.size) ⟨#[59]⟩ w)
      rw [hsem] at HPre
      have HGo := Lib.hid (fun w => goesOn_any (s.extract (k + 1 + 1) s.size) w)
      rw [hrest0] at HGo
      clear hsem hrest hrest0 HL HS
      go_wp2
      go_region
      generalize s.extract 1 (k + 1 + 1) = word at *
      generalize s.extract (k + 1 + 1) s.size = rest at *
      have hb5 : Below w.heap.size w (wr.alloc (.cells #[.string word] 9)).drew := (hb.alloc hb.size _).drew
      have hn5 : NamesIn gl (wr.alloc (.cells #[.string word] 9)).drew := HN.out.on (((Below.refl _ _).alloc (Nat.le_refl _) _).drew)
      have hw5 : (wr.alloc (.cells #[.string word] 9)).drew.cell? ⟨wr.heap.size, 0, none⟩ = some (.string word) := by simp [go_sem]
      generalize (wr.alloc (.cells #[.string word] 9)).drew = w5 at *
      generalize wr.heap.size = gw at *
      have HSr := Lib.hid (search_any 206 #[.pointer (some ⟨gl, 0, none⟩), .pointer (some ⟨gw, 0, none⟩)] 59 (atLeast word.data.toList) w5 (enters_of Tryz.func206 (by kernel_rfl) rfl) (by omega) (fun m i hi => asks_any gl gw word w5 ⟨fun k e he => (hn5.2 k e he).1, hw5⟩ m i hi) (atLeast_mono _))
      have HN5 := Lib.hid hn5
      have HB5 := Lib.hid hb5
      have HW5 := Lib.hid hw5
      clear hb5 hn5 hw5 hb HN
      go_wp2_with (go_at_call 205; refine HSr.out.mono ?_; rintro e w6 ⟨⟨c, rfl, hfirst⟩, q, rfl⟩; clear HSr)
      have cw := HW5.out
      rcases search_word _ _ hfirst with ⟨e, hce, hwe⟩ | ⟨hc, hno⟩
      · have hcl : c < 59 := by
          have := (List.getElem?_eq_some_iff.1 hce).1
          have := tabC_len
          omega
        have hem := List.mem_of_getElem? hce
        have hn : e.1 = r.take (k + 1) := by rw [(word_is hem).1 hwe, HW.out]
        have hse : strOf e.1 = word := by
          apply ByteArray.ext
          apply Array.ext'
          exact hwe
        obtain ⟨c0, c1, c2⟩ := HN5.out.2 c e hce
        rw [hse] at c0
        have hcode := code_some (attr := attr) (k := k) hem hn
        have hcI : (c : Int) < 59 := by omega
        have hcne : ¬ (c : Int) = 59 := by omega
        have hcb : ((c : Int) == 59) = false := beq_eq_false_iff_ne.2 hcne
        clear hce hwe hfirst hn hse hem HW
        generalize e.2.1 = ch at *
        by_cases h59 : r[k + 1]? = some 59
        · rw [if_pos h59] at hcode
          rw [decide_eq_true h59] at HPre
          clear h59
          have HV : Hid (refV (nameL attr r) = .tuple #[.int .i32 ((ch : Nat) : Int), .int .i64 ((k : Int) + 1 + 1 + 1), .bool true]) := Lib.hid (by
            rw [HF.out, hcode]
            show Value.tuple #[.int .i32 ((ch : Nat) : Int), .int .i64 ((k + 3 : Nat) : Int), .bool true] = _
            have e9 : ((k + 3 : Nat) : Int) = (k : Int) + 1 + 1 + 1 := by omega
            rw [e9])
          clear hcode HF
          go_quiet (fail)
          go_wp2_with (first
            | (go_at_call 109; refine (HPre.out _).mono ?_; rintro e w7 ⟨rfl, rfl⟩)
            | (go_at_call 207; refine (HGo.out _).mono ?_; rintro e w8 ⟨rfl, rfl⟩))
          go_ret3
          exact ⟨by rw [HV.out]; rfl, below_drewN HB5.out _⟩
        · rw [if_neg h59] at hcode
          rw [decide_eq_false h59] at HPre
          clear h59
          cases hbare : e.2.2 with
          | true =>
            rw [hbare] at hcode c2
            rw [if_pos rfl] at hcode
            clear hbare
            cases attr with
            | true =>
              cases hg : goesOn r[k + 1]? with
              | true =>
                rw [hg] at hcode HGo
                rw [if_pos ⟨rfl, rfl⟩] at hcode
                clear hg
                have HV : Hid (refV (nameL true r) = .tuple #[.int .i32 0, .int .i64 0, .bool false]) := Lib.hid (by
                  rw [HF.out, hcode]
                  rfl)
                clear hcode HF
                go_quiet (fail)
                go_wp2_with (first
            | (go_at_call 109; refine (HPre.out _).mono ?_; rintro e w7 ⟨rfl, rfl⟩)
            | (go_at_call 207; refine (HGo.out _).mono ?_; rintro e w8 ⟨rfl, rfl⟩))
                go_ret3
                exact ⟨by rw [HV.out]; rfl, below_drewN HB5.out _⟩
              | false =>
                rw [hg] at hcode HGo
                rw [if_neg (by rintro ⟨_, q⟩; cases q)] at hcode
                clear hg
                have HV : Hid (refV (nameL true r) = .tuple #[.int .i32 ((ch : Nat) : Int), .int .i64 ((k : Int) + 1 + 1), .bool true]) := Lib.hid (by
                  rw [HF.out, hcode]
                  show Value.tuple #[.int .i32 ((ch : Nat) : Int), .int .i64 ((k + 2 : Nat) : Int), .bool true] = _
                  have e9 : ((k + 2 : Nat) : Int) = (k : Int) + 1 + 1 := by omega
                  rw [e9])
                clear hcode HF
                go_quiet (fail)
                go_wp2_with (first
            | (go_at_call 109; refine (HPre.out _).mono ?_; rintro e w7 ⟨rfl, rfl⟩)
            | (go_at_call 207; refine (HGo.out _).mono ?_; rintro e w8 ⟨rfl, rfl⟩))
                go_ret3
                exact ⟨by rw [HV.out]; rfl, below_drewN HB5.out _⟩
            | false =>
              rw [if_neg (by rintro ⟨q, _⟩; cases q)] at hcode
              have HV : Hid (refV (nameL false r) = .tuple #[.int .i32 ((ch : Nat) : Int), .int .i64 ((k : Int) + 1 + 1), .bool true]) := Lib.hid (by
                rw [HF.out, hcode]
                show Value.tuple #[.int .i32 ((ch : Nat) : Int), .int .i64 ((k + 2 : Nat) : Int), .bool true] = _
                have e9 : ((k + 2 : Nat) : Int) = (k : Int) + 1 + 1 := by omega
                rw [e9])
              clear hcode HF
              go_quiet (fail)
              go_wp2_with (first
            | (go_at_call 109; refine (HPre.out _).mono ?_; rintro e w7 ⟨rfl, rfl⟩)
            | (go_at_call 207; refine (HGo.out _).mono ?_; rintro e w8 ⟨rfl, rfl⟩))
              go_ret3
              exact ⟨by rw [HV.out]; rfl, below_drewN HB5.out _⟩
          | false =>
            rw [hbare] at hcode c2
            rw [if_neg (by decide)] at hcode
            clear hbare
            have HX : Hid (nameL attr r = codeName attr r k) := Lib.hid (by rw [HF.out, hcode])
            clear hcode HF
            go_quiet (fail)
            go_wp2_with (first
            | (go_at_call 109; refine (HPre.out _).mono ?_; rintro e w7 ⟨rfl, rfl⟩)
            | (go_at_call 207; refine (HGo.out _).mono ?_; rintro e w8 ⟨rfl, rfl⟩))
            exact ⟨⟨k, by go_num, by omega, HX, below_drewN HB5.out _, Lib.hid (HN5.out.on (below_drewN (Below.refl _ _) _))⟩, by simp [RowKit.intOf]; omega⟩
      · have hcode : codeName attr r (k + 1) = codeName attr r k := code_none (fun e he hn => hno e he ((word_is he).2 (by rw [hn, HW.out])))
        clear hno HW
        rcases hc with rfl | ⟨e, hce, hwe⟩
        · clear hfirst
          have HX : Hid (nameL attr r = codeName attr r k) := Lib.hid (by rw [HF.out, hcode])
          clear hcode HF
          go_quiet (fail)
          go_wp2_with (first
            | (go_at_call 109; refine (HPre.out _).mono ?_; rintro e w7 ⟨rfl, rfl⟩)
            | (go_at_call 207; refine (HGo.out _).mono ?_; rintro e w8 ⟨rfl, rfl⟩))
          exact ⟨⟨k, by go_num, by omega, HX, below_drewN HB5.out _, Lib.hid (HN5.out.on (below_drewN (Below.refl _ _) _))⟩, by simp [RowKit.intOf]; omega⟩
        · have hcl : c < 59 := by
            have := (List.getElem?_eq_some_iff.1 hce).1
            have := tabC_len
            omega
          obtain ⟨c0, c1, c2⟩ := HN5.out.2 c e hce
          have hcI : (c : Int) < 59 := by omega
          have hcne : ¬ (c : Int) = 59 := by omega
          have hcb : ((c : Int) == 59) = false := beq_eq_false_iff_ne.2 hcne
          have hneq : ((strOf e.1).toList == word.toList) = false := by
            rw [ByteArray.toList_eq, ByteArray.toList_eq, beq_eq_false_iff_ne]
            exact hwe
          clear hce hwe hfirst
          generalize strOf e.1 = other at *
          have HX : Hid (nameL attr r = codeName attr r k) := Lib.hid (by rw [HF.out, hcode])
          clear hcode HF
          go_quiet (fail)
          go_wp2_with (first
            | (go_at_call 109; refine (HPre.out _).mono ?_; rintro e w7 ⟨rfl, rfl⟩)
            | (go_at_call 207; refine (HGo.out _).mono ?_; rintro e w8 ⟨rfl, rfl⟩))
          exact ⟨⟨k, by go_num, by omega, HX, below_drewN HB5.out _, Lib.hid (HN5.out.on (below_drewN (Below.refl _ _) _))⟩, by simp [RowKit.intOf]; omega⟩
end Go.Proofs.YtnfkndaggcklkaaGreatDoor

namespace Go.Proofs.YtnfkndaggcklkaaGreatDoor
open Go.RowKit Go.RunKit Go.CharrefKit Go.Lib

theorem isHex_cases (r : List Nat) : (r = [] ∧ isHex r = false) ∨ (isHex r = true ∧ r.head? = some 120) ∨ (isHex r = true ∧ r.head? = some 88) ∨ ∃ q l, r = q :: l ∧ isHex r = false ∧ q ≠ 120 ∧ q ≠ 88 := by
  cases r with
  | nil => exact .inl ⟨rfl, rfl⟩
  | cons q l =>
    by_cases h1 : q = 120
    · subst h1; exact .inr (.inl ⟨rfl, rfl⟩)
    · by_cases h2 : q = 88
      · subst h2; exact .inr (.inr (.inl ⟨rfl, rfl⟩))
      · refine .inr (.inr (.inr ⟨q, l, rfl, ?_, h1, h2⟩))
        unfold isHex
        split
        · rename_i e; simp only [List.cons.injEq] at e; exact absurd e.1 h1
        · rename_i e; simp only [List.cons.injEq] at e; exact absurd e.1 h2
        · rfl
theorem byNumber_any (attr : Bool) (s : ByteArray) (r : List Nat) (hs : natsOf s = 38 :: 35 :: r) (hsz : s.size ≤ 1099511627776) (w : World) :
    Calls Tryz.prog 185 #[.string s] w fun e w' => e = .returned (refV (findL attr (natsOf s))) ∧ Below w.heap.size w w' := by
  rcases isHex_cases r with ⟨h, hx⟩ | ⟨hx, h⟩ | ⟨hx, h⟩ | ⟨q, l, h, hx, h1, h2⟩
  · exact byNumber_empty attr s r hs hsz w h hx
  · exact byNumber_hex attr s r hs hsz w hx h
  · exact byNumber_heX attr s r hs hsz w hx h
  · exact byNumber_dec attr s r hs hsz w q l h hx h1 h2

theorem pre_amp (s : ByteArray) : hasPre s ⟨#[38]⟩ = [38].isPrefixOf (natsOf s) := rfl
theorem pre_num (s : ByteArray) : hasPre s ⟨#[38, 35]⟩ = [38, 35].isPrefixOf (natsOf s) := rfl

set_option maxRecDepth 100000 in
set_option maxHeartbeats 1000000 in
theorem find_any (attr : Bool) (s : ByteArray) (hsz : s.size ≤ 1099511627776) (w : World) :
    Calls Tryz.prog 160 #[.string s, .bool attr] w fun e w' => e = .returned (refV (findL attr (natsOf s))) ∧ Below w.heap.size w w' := by
  have H1 := Lib.hid (fun w => hasPrefix_any s ⟨#[38, 35]⟩ w)
  have H2 := Lib.hid (fun w => hasPrefix_any s ⟨#[38]⟩ w)
  rw [pre_num] at H1
  rw [pre_amp] at H2
  rcases find_cases attr (natsOf s) with ⟨r, hs⟩ | ⟨r, hs, hr⟩ | ⟨hn, hf⟩
  · have HN := byNumber_any attr s r hs hsz w
    have e1 : [38, 35].isPrefixOf (natsOf s) = true := by rw [hs]; rfl
    rw [e1] at H1
    obtain ⟨x, hx⟩ : ∃ x, Hid (findL attr (natsOf s) = x) := ⟨_, Lib.hid rfl⟩
    rw [hx.out] at HN
    have HN := Lib.hid HN
    have HV : Hid (refV (findL attr (natsOf s)) = .tuple #[.int .i32 ((x.char : Nat) : Int), .int .i64 ((x.len : Nat) : Int), .bool x.ok]) := Lib.hid (by rw [hx.out]; rfl)
    unfold refV at HN
    clear hs e1 H2
    go_enter Tryz.func160, Tryz.ntmps160
    go_wp2_with (first
      | (go_at_call 109; refine (H1.out _).mono ?_; rintro e w1 ⟨rfl, rfl⟩)
      | (go_at_call 185; refine HN.out.mono ?_; rintro e w2 ⟨rfl, hb⟩))
    go_ret3
    exact ⟨by rw [HV.out]; rfl, hb⟩
  · have HN := byName_any attr s r hs hsz w
    have e1 : [38, 35].isPrefixOf (natsOf s) = false := by
      rw [hs]
      cases r with
      | nil => rfl
      | cons c t =>
        have hc : c ≠ 35 := fun e => hr t (by rw [e])
        show ((38 == 38) && ((35 == c) && List.isPrefixOf [] t)) = false
        rw [beq_eq_false_iff_ne.2 (fun e : 35 = c => hc e.symm)]; rfl
    have e2 : [38].isPrefixOf (natsOf s) = true := by rw [hs]; rfl
    rw [e1] at H1
    rw [e2] at H2
    have hfn : findL attr (natsOf s) = nameL attr r := by rw [hs]; exact findL_name hr
    obtain ⟨x, hx⟩ : ∃ x, Hid (nameL attr r = x) := ⟨_, Lib.hid rfl⟩
    rw [hx.out] at HN
    have HN := Lib.hid HN
    have HV : Hid (refV (findL attr (natsOf s)) = .tuple #[.int .i32 ((x.char : Nat) : Int), .int .i64 ((x.len : Nat) : Int), .bool x.ok]) := Lib.hid (by rw [hfn, hx.out]; rfl)
    unfold refV at HN
    clear hs e1 e2 hr hfn
    go_enter Tryz.func160, Tryz.ntmps160
    go_wp2_with (first
      | (go_at_call 109; refine (H1.out _).mono ?_; rintro e w1 ⟨rfl, rfl⟩; clear H1)
      | (go_at_call 109; refine (H2.out _).mono ?_; rintro e w1 ⟨rfl, rfl⟩)
      | (go_at_call 186; refine HN.out.mono ?_; rintro e w2 ⟨rfl, hb⟩))
    go_ret3
    exact ⟨by rw [HV.out]; rfl, hb⟩
  · have e0 : ∀ t : List Nat, (38 :: t).isPrefixOf (natsOf s) = false := by
      intro t
      cases hl : natsOf s with
      | nil => rfl
      | cons b u =>
        have hb : b ≠ 38 := fun e => hn u (by rw [hl, e])
        show ((38 == b) && List.isPrefixOf t u) = false
        rw [beq_eq_false_iff_ne.2 (fun e : 38 = b => hb e.symm)]; rfl
    rw [e0] at H1 H2
    have HV : Hid (refV (findL attr (natsOf s)) = .tuple #[.int .i32 0, .int .i64 0, .bool false]) := Lib.hid (by rw [hf]; rfl)
    clear hf hn e0
    go_enter Tryz.func160, Tryz.ntmps160
    go_wp2_with (first
      | (go_at_call 109; refine (H1.out _).mono ?_; rintro e w1 ⟨rfl, rfl⟩; clear H1)
      | (go_at_call 109; refine (H2.out _).mono ?_; rintro e w1 ⟨rfl, rfl⟩))
    go_ret3
    exact ⟨by rw [HV.out]; rfl, Below.refl _ _⟩
end Go.Proofs.YtnfkndaggcklkaaGreatDoor

namespace Go.Proofs.YtnfkndaggcklkaaGreatDoor
open Go.RowKit Go.RunKit Go.Lib Go.Shelf

theorem underByte : Tryz.prog.underlying 5 = some (.int .u8) := by kernel_rfl
theorem underRune : Tryz.prog.underlying 21 = some (.int .i32) := by kernel_rfl
theorem underString : Tryz.prog.underlying 9 = some .string := by kernel_rfl
theorem underBytes : Tryz.prog.underlying 42 = some (.slice 5) := by kernel_rfl
theorem Tryz.infoByte : (Tryz.prog.info? 5).map (fun i => (i.zero, i.size, i.bytes)) = some (some (.int .u8 0), 1, 1) := by kernel_rfl
theorem sizeBuilder : (Tryz.prog.info? 62).map (·.size) = some 2 := by kernel_rfl
theorem liesBuilder : liesAt Tryz.prog Tryz.prog.depth 62 (2 / Tryz.prog.cellsOf 62) 0 62 1 = true := by kernel_rfl
theorem underPtr : Tryz.prog.underlying 60 = some (.pointer 62) := by kernel_rfl
theorem underUnsafe : Tryz.prog.underlying 142 = some .unsafePointer := by kernel_rfl

set_option maxRecDepth 100000 in
set_option maxHeartbeats 1000000 in
theorem check_fresh (b : Nat) (w : World) (h0 : w.cell? ⟨b, 0, none⟩ = some (.pointer none)) (hsh : w.shape? b = some (62, 2)) (hfz : w.frozen? ⟨b, 0, none⟩ = false) :
    Calls Tryz.prog 101 #[.pointer (some ⟨b, 0, none⟩)] w fun e w' => e = .returned (.tuple #[]) ∧ w' = w.setCell ⟨b, 0, none⟩ (.pointer (some ⟨b, 0, none⟩)) := by
  obtain ⟨j, hj, hjs⟩ := Option.map_eq_some_iff.1 sizeBuilder
  go_enter Tryz.func101, Tryz.ntmps101
  go_wp2
  rw [Lib.run_to_unsafe w ⟨b, 0, none⟩ underPtr underUnsafe hj (by rw [hjs]; decide) hsh (Nat.zero_lt_succ 1)]
  simp only [Result.andThen]
  rw [Oper.upon_value]
  go_wp2
  rw [run_callFunc_extern Tryz.func134 (by kernel_rfl) (by kernel_rfl) (by kernel_rfl) (e := Extern.AbiNoEscape.same) (by kernel_rfl)]
  rw [Lib.run_noEscape]
  simp only [Result.andThen]
  rw [Oper.upon_value]
  go_wp2
  rw [Lib.run_from_unsafe w ⟨b, 0, none⟩ underUnsafe underPtr hj hsh liesBuilder]
  simp only [Result.andThen]
  rw [Oper.upon_value]
  go_wp2
  go_end0
  exact ⟨rfl, rfl⟩

set_option maxRecDepth 100000 in
set_option maxHeartbeats 1000000 in
theorem check_used (b : Nat) (w : World) (h0 : w.cell? ⟨b, 0, none⟩ = some (.pointer (some ⟨b, 0, none⟩))) :
    Calls Tryz.prog 101 #[.pointer (some ⟨b, 0, none⟩)] w fun e w' => e = .returned (.tuple #[]) ∧ w' = w := by
  obtain ⟨j, hj, _⟩ := Option.map_eq_some_iff.1 sizeBuilder
  go_enter Tryz.func101, Tryz.ntmps101
  go_wp2
  rw [Lib.run_neq_ptr_same w _ underPtr hj]
  go_wp2
  go_end0
  exact ⟨rfl, rfl⟩

abbrev TB : TypeId := 62
theorem check_any (B b : Nat) (bs : List Value) (w : World) (h : Lib.IsBuilderF TB 5 B b bs w) :
    Calls Tryz.prog 101 #[.pointer (some ⟨b, 0, none⟩)] w fun e w' => e = .returned (.tuple #[]) ∧ (Lib.BuilderAtF TB 5 B b (.pointer (some ⟨b, 0, none⟩)) bs w' ∧ Below B w w' ∧ Lib.OthersKept 5 (some b) w w') := by
  rcases h with h | h
  · refine (check_fresh b w h.cell0 h.shape h.frozen0).mono ?_
    rintro e w' ⟨rfl, rfl⟩
    exact ⟨rfl, h.used _, (Below.refl B w).setCell (p := ⟨b, 0, none⟩) h.1 _, (Lib.OthersKept.refl _ _ w).setCell ⟨b, 0, none⟩ rfl _⟩
  · refine (check_used b w h.cell0).mono ?_
    rintro e w' ⟨rfl, rfl⟩
    exact ⟨rfl, h, Below.refl B _, Lib.OthersKept.refl _ _ _⟩

set_option maxRecDepth 100000 in
set_option maxHeartbeats 1000000 in
/-- WriteString: the text's bytes go in behind. -/
theorem writeString_any (B b : Nat) (bs : List Value) (s : ByteArray) (w : World) (h : Lib.IsBuilderF TB 5 B b bs w) (hlen : bs.length + s.size ≤ 140737488351232) (hBw : B ≤ w.heap.size) :
    Calls Tryz.prog 93 #[.pointer (some ⟨b, 0, none⟩), .string s] w fun e w' => e = .returned (.tuple #[.int .i64 (s.size : Nat), .nilIface]) ∧
      (Lib.BuilderAtF TB 5 B b (.pointer (some ⟨b, 0, none⟩)) (bs ++ Lib.strCells s) w' ∧ Below B w w') := by
  obtain ⟨i0, hi, hz0, hz1, hz2⟩ := info_parts Tryz.infoByte
  go_enter Tryz.func93, Tryz.ntmps93
  go_wp2_with (go_at_call 101; refine (check_any B b bs _ h).mono ?_)
  rintro e w1 ⟨rfl, h1, hb1, hk1⟩
  obtain ⟨hB, v, hbk, hown, hne⟩ := h1
  have c0 : w1.cell? ⟨b, 0, none⟩ = some (.pointer (some ⟨b, 0, none⟩)) := by rw [Lib.cell_of_heap hbk]; rfl
  have c1 : w1.cell? ⟨b, 1, none⟩ = some v := by rw [Lib.cell_of_heap hbk]; rfl
  clear hk1
  go_wp2_with (at_builtin; refine Lib.wpList_append_own_stringF _ rfl _ _ 42 9 rfl B 5 i0 underBytes underString hi hz0 hz1 hz2 _ _ _ rfl hown s rfl ?c3 ?c4 ?c5 ?_)
  case c3 => unfold maxLen; omega
  case c4 => omega
  case c5 => have := hb1.size; omega
  intro v' w2 hown' hgrow _
  have hlt : b < w1.heap.size := by
    rcases Nat.lt_or_ge b w1.heap.size with h' | h'
    · exact h'
    · simp [Array.getElem?_eq_none h'] at hbk
  have hb2 : w2.heap[b]? = some (.cells #[.pointer (some ⟨b, 0, none⟩), v] TB (0, 0)) := by
    rw [hgrow.block b hlt (fun e => hne e.symm)]
    exact hbk
  have d0 : w2.cell? ⟨b, 0, none⟩ = some (.pointer (some ⟨b, 0, none⟩)) := by rw [Lib.cell_of_heap hb2]; rfl
  have d1 : w2.cell? ⟨b, 1, none⟩ = some v := by rw [Lib.cell_of_heap hb2]; rfl
  have f1 : w2.frozen? ⟨b, 1, none⟩ = false := Lib.frozen_of_heap hb2 1
  obtain ⟨ao, n', cap, rfl⟩ : ∃ ao n' cap, v' = .slice ao n' cap := by
    rcases hown'.2 with ⟨hv, _⟩ | ⟨g, cap, cur, fz, hv, _⟩
    · exact ⟨_, _, _, hv⟩
    · exact ⟨_, _, _, hv⟩
  go_wp2
  go_ret2
  refine ⟨rfl, ?_, ?_⟩
  · exact Lib.BuilderAtF.put (T := TB) (e := 5) hB hb2 (bs' := bs ++ Lib.strCells s) (by simpa [Lib.strCells_length] using hown') (by decide)
  · exact (hb1.grown hgrow (by have := hb1.size; omega) (fun k hk => (hown.lt k hk).1)).setCell (p := ⟨b, 1, none⟩) hB _
end Go.Proofs.YtnfkndaggcklkaaGreatDoor

namespace Go.CharrefKit
open Go Go.Lib
theorem encode_eq (r : Int) : Utf8.encode r = ⟨(encodeRune r).toArray⟩ := by
  unfold encodeRune
  by_cases c0 : r < 0 ∨ (55296 ≤ r ∧ r ≤ 57343) ∨ 1114111 < r
  · rw [encodeRuneZ_bad c0]
    have hv : Utf8.valid r = false := by
      simp only [Utf8.valid, Bool.or_eq_false_iff, Bool.and_eq_false_iff, decide_eq_false_iff_not]
      omega
    simp only [Utf8.encode, hv, Bool.false_eq_true, if_false, Utf8.runeError]
    decide
  · have hv : Utf8.valid r = true := by
      simp only [Utf8.valid, Bool.or_eq_true, Bool.and_eq_true, decide_eq_true_eq]
      omega
    obtain ⟨n, rfl⟩ : ∃ n : Nat, r = n := ⟨r.toNat, by omega⟩
    simp only [Utf8.encode, hv, if_true, Int.toNat_natCast]
    by_cases c1 : n < 128
    · rw [encodeRuneZ_one (by omega) (by omega), if_pos c1]
      simp
    · rw [if_neg c1]
      by_cases c2 : n < 2048
      · rw [encodeRuneZ_two (by omega) (by omega), if_pos c2]
        have t1 : ((192 : Int) + (n : Int) / 64).toNat = 192 + n / 64 := by omega
        have t2 : ((128 : Int) + (n : Int) % 64).toNat = 128 + n % 64 := by omega
        simp only [List.map_cons, List.map_nil, t1, t2]
      · rw [if_neg c2]
        have t2 : ((128 : Int) + (n : Int) / 64 % 64).toNat = 128 + n / 64 % 64 := by omega
        have t3 : ((128 : Int) + (n : Int) % 64).toNat = 128 + n % 64 := by omega
        by_cases c3 : n < 65536
        · rw [encodeRuneZ_three (by omega), if_pos c3]
          have t1 : ((224 : Int) + (n : Int) / 4096).toNat = 224 + n / 4096 := by omega
          simp only [List.map_cons, List.map_nil, t1, t2, t3]
        · rw [encodeRuneZ_four (by omega) (by omega), if_neg c3]
          have t0 : ((240 : Int) + (n : Int) / 262144).toNat = 240 + n / 262144 := by omega
          have t1 : ((128 : Int) + (n : Int) / 4096 % 64).toNat = 128 + n / 4096 % 64 := by omega
          simp only [List.map_cons, List.map_nil, t0, t1, t2, t3]
theorem runesBytes_one (r : Int) : runesBytes [r] = ⟨(encodeRune r).toArray⟩ := by
  have : runesBytes [r] = (⟨#[]⟩ : ByteArray) ++ Utf8.encode r := rfl
  rw [this, encode_eq]
  apply ByteArray.ext
  simp
theorem encodeRune_len (r : Int) : (encodeRune r).length ≤ 4 := by
  have := encodeRuneZ_length_le r
  simpa [encodeRune] using this
/-- The bytes of a text. -/
def bl (s : ByteArray) : List UInt8 := s.data.toList
theorem bl_length (s : ByteArray) : (bl s).length = s.size := by simp [bl]
theorem bl_of (l : List UInt8) : bl ⟨l.toArray⟩ = l := by simp [bl]
theorem bl_drop (s : ByteArray) (i : Nat) : bl (s.extract i s.size) = (bl s).drop i := by
  simp [bl, List.extract, List.take_of_length_le]
theorem bl_take (s : ByteArray) (p : Nat) : bl (s.extract 0 p) = (bl s).take p := by
  simp [bl, List.extract]
theorem ib_none {c : UInt8} : ∀ {l : List UInt8}, indexByte l c = -1 → ∀ b ∈ l, b ≠ c
  | [], _, b, h => by simp at h
  | x :: r, h, b, hb => by
    simp only [indexByte] at h
    split at h
    · cases h
    · rename_i hx
      have h2 : indexByte r c = -1 := by
        by_cases e : indexByte r c = -1
        · exact e
        · have hg := indexByte_ge r c
          simp only [beq_iff_eq, e, if_false] at h; omega
      rcases List.mem_cons.1 hb with rfl | hb
      · simpa using hx
      · exact ib_none h2 b hb
theorem ib_some {c : UInt8} : ∀ {l : List UInt8} {p : Nat}, indexByte l c = (p : Int) → ∃ x y, l = x ++ c :: y ∧ x.length = p ∧ ∀ b ∈ x, b ≠ c
  | [], p, h => by simp only [indexByte] at h; omega
  | b :: r, p, h => by
    simp only [indexByte] at h
    split at h
    · rename_i hb
      have hb : b = c := by simpa using hb
      subst hb
      exact ⟨[], r, rfl, by simp; omega, by simp⟩
    · rename_i hb
      have hb : b ≠ c := by simpa using hb
      split at h
      · omega
      · have hg := indexByte_ge r c
        rename_i hne
        have hne : indexByte r c ≠ -1 := by simpa using hne
        obtain ⟨x, y, e, hl, hn⟩ := ib_some (c := c) (l := r) (p := p - 1) (by omega)
        refine ⟨b :: x, y, by rw [e]; rfl, by simp; omega, ?_⟩
        intro z hz
        rcases List.mem_cons.1 hz with rfl | hz
        · exact hb
        · exact hn z hz
theorem ne38 {b : UInt8} (h : b ≠ 38) : b.toNat ≠ 38 := fun e => h (UInt8.toNat_inj.1 e)
end Go.CharrefKit
namespace Go.Proofs.YtnfkndaggcklkaaGreatDoor
open Go.RowKit Go.RunKit Go.CharrefKit Go.Lib

theorem Tryz.underRunes : Tryz.prog.underlying 163 = some (.slice 21) := by kernel_rfl
set_option maxRecDepth 100000 in
set_option maxHeartbeats 1000000 in
theorem string_one (g : Nat) (r : Int) (w : World) (hc : w.cell? ⟨g, 0, none⟩ = some (.int .i32 r)) :
    Calls Tryz.prog 161 #[.slice (some ⟨g, 0, none⟩) 1 1] w fun e w' => e = .returned (.string ⟨(encodeRune r).toArray⟩) ∧ w = w' := by
  have hcv := run_convert_runes (P := Tryz.prog) w 163 9 21 ⟨g, 0, none⟩ 1 1 [r] (Nat.le_refl _) Tryz.underRunes underRune underString (fun j hj => by
    obtain rfl : j = 0 := by simp at hj; exact hj
    simpa [go_sem] using hc)
  rw [List.take_of_length_le (by simp), runesBytes_one] at hcv
  clear hc
  generalize (⟨(encodeRune r).toArray⟩ : ByteArray) = t at *
  go_enter Tryz.func161, Tryz.ntmps161
  go_wp2
  go_ret
  exact ⟨rfl, rfl⟩
end Go.Proofs.YtnfkndaggcklkaaGreatDoor

