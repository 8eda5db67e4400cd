/-
  Well-formed texts as characters, one behind the other: what is escaped stays so. No conditions.
  How a character is written: inText, inValue, anywhere of package serial; WriteString, with what it keeps. No conditions.
  The chapter's second example, of trees. Conditions: the library's variable MaxLen holds a number, its two tables what its text lays.
  Documents of one text, and of a text and a tag: the document's answer, by definition. No conditions.
  The law on texts that a comment cuts. Conditions: both texts together are no longer than 2^48 bytes (their sum is reckoned ahead of all else); the library's variable MaxLen holds a number, its two tables what its text lays.
  A text is plain (well-formed, without the character 0): what the library tells of it; names of attributes. No conditions.
  isPlain, isAttrName of package tree, by contract. Conditions: the library's two tables hold what its text lays.
  A tree as it is read, wherever it lies; isRoot, isText of package tree. Conditions: the library's two tables hold what its text lays.
-/
import Derived.Test.YtnfkndaggcklkaaGreatDoorPA16
import Derived.Test.YtnfkndaggcklkaaGreatDoorPA0
import Derived.Test.YtnfkndaggcklkaaGreatDoorPA15
import Derived.Test.YtnfkndaggcklkaaGreatDoorPA9
import Derived.Lib.ValidLaws
import Derived.Lib.IndexLaws
import Derived.Test.YtnfkndaggcklkaaGreatDoorShelf2
namespace Go.SerialKit
open Go Go.Lib Go.TokenKit Go.TreeKit Go.CharrefKit
/-- The bytes of some characters. -/
def WB (l : Bytes) : Prop := ∃ zs : List Int, l = zs.flatMap encodeRune
theorem WB.nil : WB [] := ⟨[], rfl⟩
theorem WB.append {a b : Bytes} (ha : WB a) (hb : WB b) : WB (a ++ b) := by
  obtain ⟨x, rfl⟩ := ha
  obtain ⟨y, rfl⟩ := hb
  exact ⟨x ++ y, by rw [List.flatMap_append]⟩
theorem WB.one (z : Int) : WB (encodeRune z) := ⟨[z], by simp⟩
theorem ascii_rune (b : UInt8) (h : b.toNat < 128) : encodeRune ((b.toNat : Nat) : Int) = [b] := by
  unfold encodeRune
  rw [encodeRuneZ_one (by omega) (by omega)]
  simp
theorem WB.ascii : ∀ {l : Bytes}, (∀ b, b ∈ l → b.toNat < 128) → WB l
  | [], _ => WB.nil
  | b :: r, h => by
    have h1 := WB.one ((b.toNat : Nat) : Int)
    rw [ascii_rune b (h b (by simp))] at h1
    exact h1.append (WB.ascii fun x hx => h x (by simp [hx]))
theorem esc_byte (attr : Bool) (b : UInt8) : (∀ x, x ∈ oneE attr b → x = b ∨ x.toNat < 128) ∧ (∀ x, x ∈ oneE attr b → x ≠ 13) ∧ (attr = false → ∀ x, x ∈ oneE attr b → x ≠ 60) ∧ (attr = true → ∀ x, x ∈ oneE attr b → x ≠ 34) ∧ (b ≠ 0 → ∀ x, x ∈ oneE attr b → x ≠ 0) := by
  unfold oneE
  by_cases h1 : b = 38
  · rw [if_pos h1]; unfold ampB
    refine ⟨?_, ?_, fun _ => ?_, fun _ => ?_, fun _ => ?_⟩
    · exact fun x hx => .inr ((by decide : ∀ x ∈ ([38, 97, 109, 112, 59] : Bytes), x.toNat < 128) x hx)
    all_goals decide
  rw [if_neg h1]
  by_cases h2 : b = 13
  · rw [if_pos h2]; unfold crB
    refine ⟨?_, ?_, fun _ => ?_, fun _ => ?_, fun _ => ?_⟩
    · exact fun x hx => .inr ((by decide : ∀ x ∈ ([38, 35, 49, 51, 59] : Bytes), x.toNat < 128) x hx)
    all_goals decide
  rw [if_neg h2]
  by_cases h3 : b = 60 ∧ attr = false
  · rw [if_pos h3]; unfold ltB
    refine ⟨?_, ?_, fun _ => ?_, fun _ => ?_, fun _ => ?_⟩
    · exact fun x hx => .inr ((by decide : ∀ x ∈ ([38, 108, 116, 59] : Bytes), x.toNat < 128) x hx)
    all_goals decide
  rw [if_neg h3]
  by_cases h4 : b = 62 ∧ attr = false
  · rw [if_pos h4]; unfold gtB
    refine ⟨?_, ?_, fun _ => ?_, fun _ => ?_, fun _ => ?_⟩
    · exact fun x hx => .inr ((by decide : ∀ x ∈ ([38, 103, 116, 59] : Bytes), x.toNat < 128) x hx)
    all_goals decide
  rw [if_neg h4]
  by_cases h5 : b = 34 ∧ attr = true
  · rw [if_pos h5]; unfold quotB
    refine ⟨?_, ?_, fun _ => ?_, fun _ => ?_, fun _ => ?_⟩
    · exact fun x hx => .inr ((by decide : ∀ x ∈ ([38, 113, 117, 111, 116, 59] : Bytes), x.toNat < 128) x hx)
    all_goals decide
  rw [if_neg h5]
  simp only [List.mem_singleton]
  exact ⟨fun x hx => .inl hx, fun x hx e => h2 (by rw [← hx, e]), fun ha x hx e => h3 ⟨by rw [← hx, e], ha⟩, fun ha x hx e => h5 ⟨by rw [← hx, e], ha⟩, fun h0 x hx e => h0 (by rw [← hx, e])⟩
theorem esc_mem {P : UInt8 → Prop} {attr : Bool} (hn : ∀ x, x ∈ nbspB → P x) : ∀ {l : Bytes}, (∀ b, b ∈ l → ∀ x, x ∈ oneE attr b → P x) → ∀ x, x ∈ escR attr l → P x
  | [], _, x, hx => by cases hx
  | [b], h, x, hx => h b (by simp) x hx
  | b :: c :: r, h, x, hx => by
    rw [escR] at hx
    split at hx
    · rcases List.mem_append.1 hx with hx | hx
      · exact hn x hx
      · exact esc_mem hn (fun y hy => h y (by simp [hy])) x hx
    · rcases List.mem_append.1 hx with hx | hx
      · exact h b (by simp) x hx
      · exact esc_mem hn (fun y hy => h y (List.mem_cons_of_mem _ hy)) x hx
theorem esc_no13 (attr : Bool) (l : Bytes) : ∀ x, x ∈ escR attr l → x ≠ 13 := esc_mem (by decide) fun b _ => (esc_byte attr b).2.1
theorem esc_no60 (l : Bytes) : ∀ x, x ∈ escR false l → x ≠ 60 := esc_mem (by decide) fun b _ => (esc_byte false b).2.2.1 rfl
theorem esc_no34 (l : Bytes) : ∀ x, x ∈ escR true l → x ≠ 34 := esc_mem (by decide) fun b _ => (esc_byte true b).2.2.2.1 rfl
theorem esc_no0 (attr : Bool) {l : Bytes} (h : ∀ b, b ∈ l → b ≠ 0) : ∀ x, x ∈ escR attr l → x ≠ 0 := esc_mem (by decide) fun b hb => (esc_byte attr b).2.2.2.2 (h b hb)
theorem esc_ne {attr : Bool} {l : Bytes} (h : l ≠ []) : escR attr l ≠ [] := by
  have one : ∀ b, oneE attr b ≠ [] := fun b => by
    unfold oneE
    repeat' split
    all_goals simp [ampB, crB, ltB, gtB, quotB]
  match l, h with
  | [b], _ => exact one b
  | b :: c :: r, _ =>
    rw [escR]
    split
    · simp [nbspB]
    · intro e
      exact one b (List.append_eq_nil_iff.1 e).1
theorem refOf_ascii (attr : Bool) (z : Int) : ∀ x, x ∈ refOf attr z → x.toNat < 128 := by
  unfold refOf
  cases attr
  all_goals
    simp only [Bool.false_eq_true, if_false, if_true]
    repeat' split
    all_goals decide
end Go.SerialKit
namespace Go.Proofs.YtnfkndaggcklkaaGreatDoor
open Go.RowKit Go.RunKit Go.UtfKit Go.CharrefKit Go.Lib Go.TokenKit Go.TreeKit Go.SerialKit

theorem wb_escF (attr : Bool) (s : ByteArray) : ∀ (f i : Nat), s.size - i ≤ f → i ≤ s.size → (∀ p, p ∈ partsFrom s i → p.ok = true) → WB ((bl s).drop i) ∧ WB (escR attr ((bl s).drop i))
  | 0, i, hf, hi, _ => by
    rw [List.drop_eq_nil_of_le (by rw [bl_length]; omega)]
    exact ⟨WB.nil, WB.nil⟩
  | f + 1, i, hf, hi, hok => by
    by_cases h : i < s.size
    · have hl := cutAt_len s i h
      rw [partsFrom_step s i h] at hok
      have ho := hok _ (List.mem_cons_self)
      have ih := wb_escF attr s f (i + (cutAt s i).len) (by omega) hl.2 (fun p hp => hok p (List.mem_cons_of_mem _ hp))
      have hd := drop_cut h ho
      refine ⟨by rw [hd]; exact (WB.one _).append ih.1, ?_⟩
      have hst := esc_step attr s i h
      rw [decode_at_cut, if_pos ho] at hst
      by_cases hr : refOf attr ((cutAt s i).char : Nat) = []
      · obtain ⟨hv1, hv2⟩ := cut_valid ho
        rw [hd, escR_rune (by omega) (by omega) (by omega) hr]
        exact (WB.one _).append ih.2
      · rw [(hst.2.1 hr).1]
        exact (WB.ascii (refOf_ascii attr _)).append ih.2
    · rw [List.drop_eq_nil_of_le (by rw [bl_length]; omega)]
      exact ⟨WB.nil, WB.nil⟩
theorem wb_esc (attr : Bool) {s : ByteArray} (h : ∀ p, p ∈ parts s → p.ok = true) : WB (escR attr (bl s)) := by
  have := (wb_escF attr s s.size 0 (by omega) (Nat.zero_le _) h).2
  simpa using this
theorem wb_parts {s : ByteArray} (h : WB (bl s)) : ∀ p, p ∈ parts s → p.ok = true := by
  obtain ⟨zs, hz⟩ := h
  have e : s = ⟨(zs.flatMap encodeRune).toArray⟩ := by rw [← hz]; rfl
  intro p hp
  rw [e, parts_text] at hp
  obtain ⟨z, _, rfl⟩ := List.mem_map.1 hp
  rfl
/-- What Decode tells of bytes of characters without the character 13: themselves. -/
theorem decL_wb {s : ByteArray} (hs : s.size ≤ 65536) (h13 : ∀ b, b ∈ bl s → b.toNat ≠ 13) (h : WB (bl s)) : decL s = .ok (bl s) := decL_plain hs h13 (wb_parts h)
end Go.Proofs.YtnfkndaggcklkaaGreatDoor

namespace Go.SerialKit
def anyOf (r : Int) : Go.TokenKit.Bytes := if r = 38 then ampB else if r = 160 then nbspB else if r = 13 then crB else []
end Go.SerialKit
namespace Go.Proofs.YtnfkndaggcklkaaGreatDoor
open Go.RowKit Go.RunKit Go.UtfKit Go.CharrefKit Go.Lib Go.TokenKit Go.TreeKit Go.SerialKit

set_option maxRecDepth 100000 in
set_option maxHeartbeats 1000000 in
theorem anywhere_any (r : Int) (w : World) : Calls Tryz.prog 95 #[.int .i32 r] w fun e w' => e = .returned (.string ⟨(anyOf r).toArray⟩) ∧ w = w' := by
  unfold anyOf
  by_cases h1 : r = 38
  · subst h1
    go_enter Tryz.func95, Tryz.ntmps95
    go_big_wp2
    go_ret
    exact ⟨rfl, rfl⟩
  by_cases h2 : r = 160
  · subst h2
    go_enter Tryz.func95, Tryz.ntmps95
    go_big_wp2
    go_ret
    exact ⟨rfl, rfl⟩
  by_cases h3 : r = 13
  · subst h3
    go_enter Tryz.func95, Tryz.ntmps95
    go_big_wp2
    go_ret
    exact ⟨rfl, rfl⟩
  rw [if_neg h1, if_neg h2, if_neg h3]
  have b1 : (r == 38) = false := beq_eq_false_iff_ne.2 h1
  have b2 : (r == 160) = false := beq_eq_false_iff_ne.2 h2
  have b3 : (r == 13) = false := beq_eq_false_iff_ne.2 h3
  go_enter Tryz.func95, Tryz.ntmps95
  go_big_wp2
  go_ret
  exact ⟨rfl, rfl⟩
set_option maxRecDepth 100000 in
set_option maxHeartbeats 1000000 in
theorem inText_any (r : Int) (w : World) : Calls Tryz.prog 60 #[.int .i32 r] w fun e w' => e = .returned (.string ⟨(refOf false r).toArray⟩) ∧ w = w' := by
  have HA := Lib.hid (anywhere_any r w)
  by_cases h1 : r = 60
  · subst h1
    go_enter Tryz.func60, Tryz.ntmps60
    go_big_wp2
    go_ret
    exact ⟨rfl, rfl⟩
  by_cases h2 : r = 62
  · subst h2
    go_enter Tryz.func60, Tryz.ntmps60
    go_big_wp2
    go_ret
    exact ⟨rfl, rfl⟩
  have e : refOf false r = anyOf r := by unfold refOf anyOf; rw [if_neg (by decide), if_neg h1, if_neg h2]
  rw [e]
  have b1 : (r == 60) = false := beq_eq_false_iff_ne.2 h1
  have b2 : (r == 62) = false := beq_eq_false_iff_ne.2 h2
  clear e
  generalize anyOf r = l at *
  go_enter Tryz.func60, Tryz.ntmps60
  go_big_wp2_with (go_at_call 95; refine HA.out.mono ?_; rintro e w1 ⟨rfl, rfl⟩)
  go_ret
  exact ⟨rfl, rfl⟩
set_option maxRecDepth 100000 in
set_option maxHeartbeats 1000000 in
theorem inValue_any (r : Int) (w : World) : Calls Tryz.prog 61 #[.int .i32 r] w fun e w' => e = .returned (.string ⟨(refOf true r).toArray⟩) ∧ w = w' := by
  have HA := Lib.hid (anywhere_any r w)
  by_cases h1 : r = 34
  · subst h1
    go_enter Tryz.func61, Tryz.ntmps61
    go_big_wp2
    go_ret
    exact ⟨rfl, rfl⟩
  have e : refOf true r = anyOf r := by unfold refOf anyOf; rw [if_pos rfl, if_neg h1]
  rw [e]
  have b1 : (r == 34) = false := beq_eq_false_iff_ne.2 h1
  clear e
  generalize anyOf r = l at *
  go_enter Tryz.func61, Tryz.ntmps61
  go_big_wp2_with (go_at_call 95; refine HA.out.mono ?_; rintro e w1 ⟨rfl, rfl⟩)
  go_ret
  exact ⟨rfl, rfl⟩

set_option maxRecDepth 100000 in
set_option maxHeartbeats 1000000 in
/-- WriteString: the text's bytes go in behind; what is no row of bytes stays. -/
theorem writeStringK (B b : Nat) (bs : List Value) (s : ByteArray) (w : World) (h : Lib.IsBuilderF TB 5 B b bs w) (hlen : bs.length + s.size ≤ 140737488351232) (hBw : B ≤ w.heap.size) :
    Calls Tryz.prog 93 #[.pointer (some ⟨b, 0, none⟩), .string s] w fun e w' => e = .returned (.tuple #[.int .i64 (s.size : Nat), .nilIface]) ∧
      (Lib.BuilderAtF TB 5 B b (.pointer (some ⟨b, 0, none⟩)) (bs ++ Lib.strCells s) w' ∧ Below B w w' ∧ Lib.OthersKept 5 (some b) w w') := by
  obtain ⟨i0, hi, hz0, hz1, hz2⟩ := info_parts Tryz.infoByte
  go_enter Tryz.func93, Tryz.ntmps93
  go_wp2_with (go_at_call 101; refine (check_any B b bs _ h).mono ?_)
  rintro e w1 ⟨rfl, h1, hb1, hk1⟩
  obtain ⟨hB, v, hbk, hown, hne⟩ := h1
  have c0 : w1.cell? ⟨b, 0, none⟩ = some (.pointer (some ⟨b, 0, none⟩)) := by rw [Lib.cell_of_heap hbk]; rfl
  have c1 : w1.cell? ⟨b, 1, none⟩ = some v := by rw [Lib.cell_of_heap hbk]; rfl
  have HK1 := Lib.hid hk1
  clear hk1
  go_wp2_with (at_builtin; refine Lib.wpList_append_own_stringF _ rfl _ _ 42 9 rfl B 5 i0 underBytes underString hi hz0 hz1 hz2 _ _ _ rfl hown s rfl ?c3 ?c4 ?c5 ?_)
  case c3 => unfold maxLen; omega
  case c4 => omega
  case c5 => have := hb1.size; omega
  intro v' w2 hown' hgrow _
  have hlt : b < w1.heap.size := by
    rcases Nat.lt_or_ge b w1.heap.size with h' | h'
    · exact h'
    · simp [Array.getElem?_eq_none h'] at hbk
  have hb2 : w2.heap[b]? = some (.cells #[.pointer (some ⟨b, 0, none⟩), v] TB (0, 0)) := by
    rw [hgrow.block b hlt (fun e => hne e.symm)]
    exact hbk
  have d0 : w2.cell? ⟨b, 0, none⟩ = some (.pointer (some ⟨b, 0, none⟩)) := by rw [Lib.cell_of_heap hb2]; rfl
  have d1 : w2.cell? ⟨b, 1, none⟩ = some v := by rw [Lib.cell_of_heap hb2]; rfl
  have f1 : w2.frozen? ⟨b, 1, none⟩ = false := Lib.frozen_of_heap hb2 1
  obtain ⟨ao, n', cap, rfl⟩ : ∃ ao n' cap, v' = .slice ao n' cap := by
    rcases hown'.2 with ⟨hv, _⟩ | ⟨g, cap, cur, fz, hv, _⟩
    · exact ⟨_, _, _, hv⟩
    · exact ⟨_, _, _, hv⟩
  go_wp2
  go_ret2
  refine ⟨rfl, ?_, ?_, (HK1.out.grown hgrow (Lib.ownsRowF_kind hown)).setCell ⟨b, 1, none⟩ rfl _⟩
  · exact Lib.BuilderAtF.put (T := TB) (e := 5) hB hb2 (bs' := bs ++ Lib.strCells s) (by simpa [Lib.strCells_length] using hown') (by decide)
  · exact (hb1.grown hgrow (by have := hb1.size; omega) (fun k hk => (hown.lt k hk).1)).setCell (p := ⟨b, 1, none⟩) hB _
end Go.Proofs.YtnfkndaggcklkaaGreatDoor

namespace Go.TreeKit
open Go Go.Lib Go.TokenKit
end Go.TreeKit
namespace Go.Proofs.YtnfkndaggcklkaaGreatDoor
open Go.RowKit Go.RunKit Go.CharrefKit Go.Lib Go.TokenKit Go.TreeKit

theorem maxed_on {w w' : World} (h : Maxed w w.heap.size) (hb : Below w.heap.size w w') : Maxed w' w'.heap.size := h.at_ hb hb.size

end Go.Proofs.YtnfkndaggcklkaaGreatDoor

namespace Go.TreeKit
open Go Go.Lib Go.CharrefKit Go.TokenKit

theorem mark_not {a : UInt8} (h : a ≠ 60) (r : Bytes) : markL (a :: r) = false := by
  cases r with
  | nil => rfl
  | cons c r =>
    have : (a == 60) = false := by rw [beq_eq_false_iff_ne]; exact h
    simp only [markL, this, Bool.false_and]
/-- Bytes of a text up to a mark. -/
theorem words_upto : ∀ {l r : Bytes}, (∀ b, b ∈ l → b ≠ 60) → (r = [] ∨ markL r = true) → wordsN (l ++ r) = l.length
  | [], r, _, hr => by
    rcases hr with rfl | hr
    · rfl
    · cases r with
      | nil => rfl
      | cons b t => rw [List.nil_append]; unfold wordsN; rw [hr]; rfl
  | b :: l, r, h, hr => by
    rw [List.cons_append]
    unfold wordsN
    rw [mark_not (h b (by simp)), words_upto (fun x hx => h x (by simp [hx])) hr]
    rfl
theorem before_stop {stops : Bytes} {c : UInt8} (hc : stops.contains c = true) : ∀ {n : Bytes} (r : Bytes), (∀ b, b ∈ n → stops.contains b = false) → before stops (n ++ c :: r) = n ∧ behind stops (n ++ c :: r) = c :: r
  | [], r, _ => ⟨by simp only [List.nil_append, before, List.takeWhile, hc, Bool.not_true], by simp only [List.nil_append, behind, List.dropWhile, hc, Bool.not_true]⟩
  | b :: n, r, h => by
    have hb := h b (by simp)
    obtain ⟨h1, h2⟩ := before_stop hc (n := n) r (fun x hx => h x (by simp [hx]))
    unfold before at h1
    unfold behind at h2
    exact ⟨by unfold before; simp only [List.cons_append, List.takeWhile, hb, Bool.not_false]; rw [h1], by unfold behind; simp only [List.cons_append, List.dropWhile, hb, Bool.not_false]; exact h2⟩
/-- A byte of a name. -/
def nameB (b : UInt8) : Bool := isL b || isD b
theorem all256 {p : UInt8 → Bool} (h : ((List.range 256).all fun k => p (UInt8.ofNat k)) = true) (b : UInt8) : p b = true := by
  have := List.all_eq_true.1 h b.toNat (List.mem_range.2 b.toNat_lt)
  simpa using this
theorem name_stops (b : UInt8) (h : nameB b = true) : tagStops.contains b = false ∧ b ≠ 0 ∧ b.toNat < 128 ∧ b.toNat ≠ 13 := by
  have key := all256 (p := fun b => !nameB b || (!tagStops.contains b && b != 0 && decide (b.toNat < 128) && !decide (b.toNat = 13))) (by kernel_rfl) b
  simp only [h, Bool.not_true, Bool.false_or, Bool.and_eq_true, Bool.not_eq_true', bne_iff_ne, decide_eq_true_eq, decide_eq_false_iff_not] at key
  exact ⟨key.1.1.1, key.1.1.2, key.1.2, key.2⟩
theorem small_name (b : UInt8) (h : nameB b = true) : nameB (smallB b) = true := by
  have key := all256 (p := fun b => !nameB b || nameB (smallB b)) (by kernel_rfl) b
  simpa [h] using key
theorem word_name {n : Bytes} (h : ∀ b, b ∈ n → nameB b = true) : wordL [] (smallL n) = true := by
  unfold wordL smallL
  rw [List.all_eq_true]
  intro b hb
  obtain ⟨c, hc, rfl⟩ := List.mem_map.1 hb
  have := small_name c (h c hc)
  unfold nameB at this
  rw [this]; rfl
theorem attrsL_end (l : List At) (r : Bytes) : attrsL l (62 :: r) = .ok (l, false, r) := by rw [attrsL_step]; rfl
theorem tag_name {n : Bytes} (h : ∀ b, b ∈ n → nameB b = true) (k : Nat) (r : Bytes) : tagL k (n ++ 62 :: r) = .ok (⟨k, smallL n, [], false, []⟩, r) := by
  obtain ⟨h1, h2⟩ := before_stop (stops := tagStops) (c := 62) (by decide) (n := n) r (fun b hb => (name_stops b (h b hb)).1)
  unfold tagL
  rw [h1, h2, if_pos (word_name h), attrsL_end]
theorem mark_start {x : UInt8} (hx : isL x = true) (l : Bytes) : markL (60 :: x :: l) = true := by simp only [markL, hx, Bool.true_or]; rfl
theorem one_start {x : UInt8} (hx : isL x = true) (l : Bytes) : oneL (60 :: x :: l) = tagL 1 (x :: l) := by
  unfold oneL
  rw [if_pos (mark_start hx l)]
  show (if isL x = true then _ else _) = _
  rw [if_pos hx]; rfl
theorem answer_of {l : Bytes} {ts : List Tok} (hl : l.length ≤ 65536) (h0 : ∀ b, b ∈ l → b ≠ 0) (h : toksAt 0 l = .ok ts) : answerL l = (ts, 0, 0) := by
  have hc : l.contains 0 = false := by
    rw [Bool.eq_false_iff]
    intro hc
    exact h0 0 (List.contains_iff_mem.1 hc) rfl
  unfold answerL
  rw [if_neg (by omega), hc]
  have h2 : toksL l = .ok ts := h
  rw [h2]
  rfl

/-! The text x, and a start tag behind it. -/
/-! Two texts with a comment between. -/
end Go.TreeKit

namespace Go.Proofs.YtnfkndaggcklkaaGreatDoor
open Go.RowKit Go.RunKit Go.CharrefKit Go.Lib Go.TokenKit Go.TreeKit

theorem bl_join (a b : ByteArray) : bl (a ++ b) = bl a ++ bl b := by simp [bl]
theorem enc_zero {z : Int} (h : z ≠ 0) : ∀ x ∈ encodeRuneZ z, x ≠ 0 := by
  intro x hx
  by_cases c0 : z < 0 ∨ (55296 ≤ z ∧ z ≤ 57343) ∨ 1114111 < z
  · rw [encodeRuneZ_bad c0] at hx
    simp at hx; omega
  by_cases c1 : z < 128
  · rw [encodeRuneZ_one (by omega) (by omega)] at hx
    simp at hx; omega
  by_cases c2 : z < 2048
  · rw [encodeRuneZ_two (by omega) (by omega)] at hx
    simp at hx; omega
  by_cases c3 : z < 65536
  · rw [encodeRuneZ_three (by omega)] at hx
    simp at hx; omega
  · rw [encodeRuneZ_four (by omega) (by omega)] at hx
    simp at hx; omega
theorem well_from (s : ByteArray) : ∀ (f i : Nat), s.size - i ≤ f → i ≤ s.size → (∀ p, p ∈ UtfKit.partsFrom s i → wellP p = true) → ∀ b, b ∈ (bl s).drop i → b ≠ 0
  | 0, i, hf, hi, _, b, hb => by
    rw [List.drop_eq_nil_of_le (by rw [bl_length]; omega)] at hb
    cases hb
  | f + 1, i, hf, hi, hok, b, hb => by
    by_cases h : i < s.size
    · have hl := UtfKit.cutAt_len s i h
      rw [UtfKit.partsFrom_step s i h] at hok
      have ho := hok _ (List.mem_cons_self)
      unfold wellP at ho
      simp only [Bool.and_eq_true, decide_eq_true_eq] at ho
      have he := U.encode_at s i h ho.1
      have e : (s.extract i (i + (UtfKit.cutAt s i).len)).data.toList = ((bl s).drop i).take (UtfKit.cutAt s i).len := by
        simp [bl, List.extract]
      rw [← List.take_append_drop (UtfKit.cutAt s i).len ((bl s).drop i), List.mem_append, ← e, ← he, List.drop_drop] at hb
      rcases hb with hb | hb
      · unfold encodeRune at hb
        obtain ⟨y, hy, rfl⟩ := List.mem_map.1 hb
        have h1 := enc_zero (z := ((UtfKit.cutAt s i).char : Nat)) (by have := ho.2; omega) y hy
        have h2 := encodeRuneZ_byte _ y hy
        intro e0
        have := congrArg UInt8.toNat e0
        simp at this
        omega
      · exact well_from s f _ (by omega) hl.2 (fun p hp => hok p (List.mem_cons_of_mem _ hp)) b hb
    · rw [List.drop_eq_nil_of_le (by rw [bl_length]; omega)] at hb
      cases hb
theorem well_zero {s : ByteArray} (h : wellL s = true) : ∀ b, b ∈ bl s → b ≠ 0 := fun b hb =>
  well_from s s.size 0 (by omega) (Nat.zero_le _) (fun p hp => List.all_eq_true.1 h p hp) b (by simpa using hb)
end Go.Proofs.YtnfkndaggcklkaaGreatDoor

namespace Go.Proofs.YtnfkndaggcklkaaGreatDoor
open Go.RowKit Go.RunKit Go.UtfKit Go.CharrefKit Go.Lib Go.TokenKit Go.TreeKit

theorem bl_tail (s : ByteArray) (i : Nat) : (⟨((bl s).drop i).toArray⟩ : ByteArray) = s.extract i s.size := by
  refine ByteArray.ext (Array.toList_inj.1 ?_)
  have e : (s.extract i s.size).data.toList = ((bl s).drop i).take (s.size - i) := by
    simp [bl, List.extract]
  rw [e, List.take_of_length_le (by rw [List.length_drop, bl_length]; exact Nat.le_refl _)]
theorem cut_tail (s : ByteArray) (i : Nat) : cutAt (s.extract i s.size) 0 = cutAt s i := by
  unfold cutAt
  rw [U.byteAt_drop, U.byteAt_drop, U.byteAt_drop, U.byteAt_drop]
  have : (s.extract i s.size).size = s.size - i := by simp
  rw [this]
  rfl
theorem ok_not {s : ByteArray} {i : Nat} (hi : i < s.size) (ho : (cutAt s i).ok = true) : ¬ ((cutAt s i).char = 65533 ∧ (cutAt s i).len = 1) := by
  intro ⟨h1, h2⟩
  have he := congrArg List.length (U.encode_at s i hi ho)
  rw [h1, h2, show (encodeRune ((65533 : Nat) : Int)).length = 3 by decide] at he
  have hl : (s.extract i (i + 1)).data.toList.length = 1 := by
    have e : (s.extract i (i + 1)).data.toList = ((bl s).drop i).take 1 := by
      simp [bl, List.extract]
    rw [e, List.length_take, List.length_drop, bl_length]
    omega
  omega
theorem valid_from (s : ByteArray) : ∀ (f i : Nat), s.size - i ≤ f → i ≤ s.size → Lib.validD ((bl s).drop i) = (partsFrom s i).all (·.ok)
  | 0, i, hf, hi => by
    rw [partsFrom_end s i (by omega), List.drop_eq_nil_of_le (by rw [bl_length]; omega)]
    rfl
  | f + 1, i, hf, hi => by
    by_cases h : i < s.size
    · have hne : (bl s).drop i ≠ [] := fun e => by
        have := congrArg List.length e
        rw [List.length_drop, bl_length] at this
        simp at this
        omega
      have hl := cutAt_len s i h
      rw [validD_step _ hne, partsFrom_step s i h]
      unfold Lib.decodeL
      rw [bl_tail, decode_at_cut, cut_tail, List.all_cons]
      cases ho : (cutAt s i).ok with
      | false => simp
      | true =>
        have hn := ok_not h ho
        rw [if_pos rfl]
        simp only
        rw [if_neg hn, List.drop_drop, valid_from s f (i + (cutAt s i).len) (by omega) hl.2]
        simp
    · rw [partsFrom_end s i (by omega), List.drop_eq_nil_of_le (by rw [bl_length]; omega)]
      rfl
theorem valid_parts (s : ByteArray) : Lib.validD (bl s) = (parts s).all (·.ok) := by
  have := valid_from s s.size 0 (by omega) (Nat.zero_le _)
  simpa [parts] using this
/-- What the code asks of a text. -/
theorem plain_eq (s : ByteArray) : wellL s = (Lib.validD (bl s) && decide (Lib.indexByte (bl s) 0 < 0)) := by
  rw [valid_parts, Bool.eq_iff_iff, Bool.and_eq_true, decide_eq_true_eq]
  constructor
  · intro h
    refine ⟨List.all_eq_true.2 fun p hp => well_ok h p hp, ?_⟩
    have hz := well_zero h
    have hg := indexByte_ge (bl s) 0
    by_cases hlt : Lib.indexByte (bl s) 0 < 0
    · exact hlt
    · obtain ⟨o, ho⟩ : ∃ o : Nat, Lib.indexByte (bl s) 0 = o := ⟨(Lib.indexByte (bl s) 0).toNat, by omega⟩
      have := (indexByte_some ho).1
      exact absurd rfl (hz 0 (List.mem_of_getElem? this))
  · intro ⟨h1, h2⟩
    have hg := indexByte_ge (bl s) 0
    have hno := indexByte_none (show Lib.indexByte (bl s) 0 = -1 by omega)
    refine List.all_eq_true.2 fun p hp => ?_
    have hok := List.all_eq_true.1 h1 p hp
    unfold wellP
    rw [hok, Bool.true_and, decide_eq_true_eq]
    intro hc
    obtain ⟨j, hj, rfl⟩ := U.parts_mem s _ _ p hp
    have he := U.encode_at s j hj hok
    rw [hc, show encodeRune ((0 : Nat) : Int) = [0] by decide] at he
    have e : (s.extract j (j + (cutAt s j).len)).data.toList = ((bl s).drop j).take (cutAt s j).len := by
      simp [bl, List.extract]
    have hm : (0 : UInt8) ∈ bl s := by
      refine List.mem_of_mem_drop (i := j) (List.mem_of_mem_take (i := (cutAt s j).len) ?_)
      rw [← e, ← he]
      simp
    obtain ⟨k, hk⟩ := List.mem_iff_getElem?.1 hm
    exact hno k hk
/-- The characters of an attribute's name. -/
def signsN : Bytes := [97, 98, 99, 100, 101, 102, 103, 104, 105, 106, 107, 108, 109, 110, 111, 112, 113, 114, 115, 116, 117, 118, 119, 120, 121, 122, 48, 49, 50, 51, 52, 53, 54, 55, 56, 57, 45, 95]
def attrNameL (n : Bytes) : Bool := !n.isEmpty && n.all (signsN.contains ·)
theorem dropWhile_none {p : UInt8 → Bool} : ∀ l : Bytes, l.dropWhile p = [] ↔ l.all p = true
  | [] => by simp
  | b :: r => by
    rw [List.dropWhile_cons, List.all_cons]
    cases h : p b with
    | false => simp
    | true => simp only [if_true, Bool.true_and]; exact dropWhile_none r
theorem trim_all (l : Bytes) : (Lib.trimLeftS l signsN = []) = (l.all (signsN.contains ·) = true) := by
  rw [eq_iff_iff]
  unfold Lib.trimLeftS
  exact dropWhile_none l
end Go.Proofs.YtnfkndaggcklkaaGreatDoor

namespace Go.Proofs.YtnfkndaggcklkaaGreatDoor
open Go.RowKit Go.RunKit Go.CharrefKit Go.Lib Go.TokenKit Go.TreeKit

/-- The library's two tables, as utf8.ValidString asks for them. -/
def VTabs (w : World) : Prop := Lib.Utf8Tabs (Tryz.lays196_ren.g 3) (Tryz.lays196_ren.g 4) w
theorem VTabs.on {w w' : World} (h : VTabs w) (hb : Below w.heap.size w w') : VTabs w' := by
  refine ⟨fun c hc => ?_, fun i hi => ?_⟩
  · have := h.1 c hc
    rw [hb.cell (World.block_lt_of_cell? _ _ this)]; exact this
  · have := h.2 i hi
    exact ⟨by rw [hb.cell (World.block_lt_of_cell? _ _ this.1)]; exact this.1, by rw [hb.cell (World.block_lt_of_cell? _ _ this.2)]; exact this.2⟩

set_option maxRecDepth 100000 in
set_option maxHeartbeats 1000000 in
theorem isPlain_any (s : ByteArray) (w : World) (hs : s.size ≤ 9223372036854775807) (hv : VTabs w) :
    Calls Tryz.prog 123 #[.string s] w fun e w' => e = .returned (.bool (wellL s)) ∧ Below w.heap.size w w' := by
  rw [plain_eq]
  have hV := Tryz.utf8_ValidString s w hs hv
  change Calls Tryz.prog 153 #[.string s] w fun e w' => e = .returned (.bool (Lib.validD (bl s))) ∧ Below w.heap.size w w' at hV
  have hI := fun W => Tryz.strings_IndexByte s 0 W
  change ∀ W, Calls Tryz.prog 76 #[.string s, .int .u8 0] W fun e w' => e = .returned (.int .i64 (Lib.indexByte (bl s) 0)) ∧ w' = W at hI
  obtain ⟨v, hvv⟩ : ∃ v, Lib.validD (bl s) = v := ⟨_, rfl⟩
  obtain ⟨x, hx⟩ : ∃ x, Lib.indexByte (bl s) 0 = x := ⟨_, rfl⟩
  rw [hvv] at hV ⊢
  rw [hx] at hI ⊢
  have HV := Lib.hid hV
  have HI := Lib.hid hI
  clear hV hI hvv hx hv
  cases v with
  | false =>
    rw [Bool.false_and]
    go_enter Tryz.func123, Tryz.ntmps123
    go_big_wp2_with (go_at_call 153; refine HV.out.mono ?_; rintro e w1 ⟨rfl, hb1⟩)
    go_ret
    exact ⟨rfl, hb1⟩
  | true =>
    rw [Bool.true_and]
    by_cases hx : x < 0
    · have hd : decide (x < 0) = true := decide_eq_true hx
      rw [hd]
      go_enter Tryz.func123, Tryz.ntmps123
      go_big_wp2_with (first
        | (go_at_call 153; refine HV.out.mono ?_; rintro e w1 ⟨rfl, hb1⟩)
        | (go_at_call 76; refine (HI.out _).mono ?_; rintro e w2 ⟨rfl, rfl⟩))
      go_ret
      exact ⟨rfl, hb1⟩
    · have hd : decide (x < 0) = false := decide_eq_false hx
      have hxI : (x < 0) = False := eq_false hx
      rw [hd]
      go_enter Tryz.func123, Tryz.ntmps123
      go_big_wp2_with (first
        | (go_at_call 153; refine HV.out.mono ?_; rintro e w1 ⟨rfl, hb1⟩)
        | (go_at_call 76; refine (HI.out _).mono ?_; rintro e w2 ⟨rfl, rfl⟩))
      go_ret
      exact ⟨rfl, hb1⟩

set_option maxRecDepth 100000 in
set_option maxHeartbeats 1000000 in
theorem isAttrName_any (s : ByteArray) (w : World) :
    Calls Tryz.prog 126 #[.string s] w fun e w' => e = .returned (.bool (attrNameL (bl s))) ∧ Below w.heap.size w w' := by
  have hT := fun W => trimLeft_any s ⟨signsN.toArray⟩ W (by decide) (fun j b hb => by have := List.all_eq_true.1 (show signsN.all (fun b => decide (b.toNat < 128)) = true by decide) b (List.mem_of_getElem? hb); simpa using this)
  rw [bl_of signsN] at hT
  obtain ⟨t, ht⟩ : ∃ t, Lib.trimLeftS (bl s) signsN = t := ⟨_, rfl⟩
  have hta := trim_all (bl s)
  rw [ht] at hT hta
  have hlist := Lib.toList_data s
  by_cases h0 : bl s = []
  · have e0 : s.toList.isEmpty = true := by rw [hlist]; show (bl s).isEmpty = true; rw [h0]; rfl
    have e1 : (s.toList == []) = true := by rw [hlist]; exact beq_iff_eq.2 h0
    have e2 : (s.toList != []) = false := by rw [bne_eq_false_iff_eq, hlist]; exact h0
    have ea : attrNameL (bl s) = false := by rw [h0]; rfl
    rw [ea]
    clear hT hta hlist h0 ea
    go_enter Tryz.func126, Tryz.ntmps126
    go_big_wp2
    go_ret
    exact ⟨rfl, Below.refl _ _⟩
  · have hemp : (bl s).isEmpty = false := by cases hb : bl s with
      | nil => exact absurd hb h0
      | cons b r => rfl
    have e0 : s.toList.isEmpty = false := by rw [hlist]; exact hemp
    have e1 : (s.toList == []) = false := by rw [hlist]; exact beq_eq_false_iff_ne.2 h0
    have e2 : (s.toList != []) = true := by rw [bne_iff_ne, hlist]; exact h0
    have HT := Lib.hid hT
    by_cases hn : t = []
    · subst hn
      have ea : attrNameL (bl s) = true := by unfold attrNameL; rw [hemp, hta.mp rfl]; rfl
      rw [ea]
      clear hT hta hlist h0 ea hemp ht
      go_enter Tryz.func126, Tryz.ntmps126
      go_big_wp2_with (go_at_call 155; refine (HT.out _).mono ?_; rintro e w1 ⟨rfl, hb1⟩)
      go_ret
      exact ⟨rfl, hb1⟩
    · have ea : attrNameL (bl s) = false := by
        unfold attrNameL
        rw [hemp, Bool.not_false, Bool.true_and, Bool.eq_false_iff]
        intro hc
        exact hn (hta.mpr hc)
      rw [ea]
      obtain ⟨x, hx⟩ : ∃ x : ByteArray, ⟨t.toArray⟩ = x := ⟨_, rfl⟩
      have hxl : x.toList = t := by rw [← hx, Lib.toList_data]
      have f0 : x.toList.isEmpty = false := by rw [hxl]; cases t with
        | nil => exact absurd rfl hn
        | cons b r => rfl
      have f1 : (x.toList == []) = false := by rw [hxl]; exact beq_eq_false_iff_ne.2 hn
      rw [hx] at HT
      clear hT hta hlist h0 ea hemp ht hxl hx
      go_enter Tryz.func126, Tryz.ntmps126
      go_big_wp2_with (go_at_call 155; refine (HT.out _).mono ?_; rintro e w1 ⟨rfl, hb1⟩)
      go_ret
      exact ⟨rfl, hb1⟩
end Go.Proofs.YtnfkndaggcklkaaGreatDoor

namespace Go.TreeKit
open Go Go.Lib Go.TokenKit
/-- A node, whatever its numbers. -/
structure NI where
  kind : Nat
  name : Bytes
  attrs : List At
  data : Bytes
  up : Int
  kids : List Int
  deriving DecidableEq
def isRootB (x : NI) : Bool := x.kind == 0 && x.up == -1 && x.name.isEmpty && x.attrs.isEmpty && x.data.isEmpty
end Go.TreeKit
namespace Go.Proofs.YtnfkndaggcklkaaGreatDoor
open Go.RowKit Go.RunKit Go.CharrefKit Go.Lib Go.TokenKit Go.TreeKit

/-- Attributes, as they are read. -/
structure AttrsIn (w : World) (ao : Option Addr) (l : List At) : Prop where
  at_ : ∀ j a, l[j]? = some a → ∃ g o, ao = some ⟨g, o, none⟩ ∧ w.cell? ⟨g, o + j * 2, none⟩ = some (.string ⟨a.1.toArray⟩) ∧ w.cell? ⟨g, o + j * 2 + 1, none⟩ = some (.string ⟨a.2.toArray⟩)
theorem AttrsIn.on {w w' : World} {ao : Option Addr} {l : List At} (h : AttrsIn w ao l) (hb : Below w.heap.size w w') : AttrsIn w' ao l := ⟨fun j a ha => by
  obtain ⟨g, o, e, h1, h2⟩ := h.at_ j a ha
  exact ⟨g, o, e, by rw [hb.cell (World.block_lt_of_cell? _ _ h1)]; exact h1, by rw [hb.cell (World.block_lt_of_cell? _ _ h2)]; exact h2⟩⟩
/-- Whole numbers, as they are read. -/
structure IntsIn (w : World) (ao : Option Addr) (l : List Int) : Prop where
  at_ : ∀ j z, l[j]? = some z → ∃ g o, ao = some ⟨g, o, none⟩ ∧ w.cell? ⟨g, o + j, none⟩ = some (.int .i64 z)
theorem IntsIn.on {w w' : World} {ao : Option Addr} {l : List Int} (h : IntsIn w ao l) (hb : Below w.heap.size w w') : IntsIn w' ao l := ⟨fun j a ha => by
  obtain ⟨g, o, e, h1⟩ := h.at_ j a ha
  exact ⟨g, o, e, by rw [hb.cell (World.block_lt_of_cell? _ _ h1)]; exact h1⟩⟩
/-- A node, as it is read. -/
structure NodeIn (w : World) (g m : Nat) (x : NI) : Prop where
  kind : w.cell? ⟨g, m, none⟩ = some (.int .u8 ((x.kind : Nat) : Int))
  name : w.cell? ⟨g, m + 1, none⟩ = some (.string ⟨x.name.toArray⟩)
  attrs : ∃ ao cap, w.cell? ⟨g, m + 2, none⟩ = some (.slice ao x.attrs.length cap) ∧ AttrsIn w ao x.attrs ∧ x.attrs.length ≤ cap ∧ x.attrs.length ≤ 9223372036854775807
  data : w.cell? ⟨g, m + 3, none⟩ = some (.string ⟨x.data.toArray⟩)
  up : w.cell? ⟨g, m + 4, none⟩ = some (.int .i64 x.up)
  kids : ∃ ao cap, w.cell? ⟨g, m + 5, none⟩ = some (.slice ao x.kids.length cap) ∧ IntsIn w ao x.kids ∧ x.kids.length ≤ 9223372036854775807
  long : x.data.length ≤ 9223372036854775807 ∧ ∀ a, a ∈ x.attrs → a.2.length ≤ 9223372036854775807
theorem NodeIn.on {w w' : World} {g m : Nat} {x : NI} (h : NodeIn w g m x) (hb : Below w.heap.size w w') : NodeIn w' g m x := by
  have c : ∀ {a v}, w.cell? a = some v → w'.cell? a = some v := fun {a v} hc => by rw [hb.cell (World.block_lt_of_cell? _ _ hc)]; exact hc
  obtain ⟨ao, cap, h1, h2, h3⟩ := h.attrs
  obtain ⟨ko, kcap, k1, k2, k3⟩ := h.kids
  exact ⟨c h.kind, c h.name, ⟨ao, cap, c h1, h2.on hb, h3⟩, c h.data, c h.up, ⟨ko, kcap, c k1, k2.on hb, k3⟩, h.long⟩
/-- A tree, as it is read: its nodes stand in block g from o on. -/
structure TreeIn (w : World) (g o : Nat) (T : List NI) : Prop where
  at_ : ∀ k x, T[k]? = some x → NodeIn w g (o + k * 6) x
theorem TreeIn.on {w w' : World} {g o : Nat} {T : List NI} (h : TreeIn w g o T) (hb : Below w.heap.size w w') : TreeIn w' g o T := ⟨fun k x hx => (h.at_ k x hx).on hb⟩

theorem toList_nil {l : Bytes} (h : l = []) : (⟨l.toArray⟩ : ByteArray).toList.isEmpty = true ∧ ((⟨l.toArray⟩ : ByteArray).toList == []) = true ∧ ((⟨l.toArray⟩ : ByteArray).toList != []) = false := by
  subst h
  rw [Lib.toList_data]
  exact ⟨rfl, rfl, rfl⟩
theorem toList_ne {l : Bytes} (h : l ≠ []) : (⟨l.toArray⟩ : ByteArray).toList.isEmpty = false ∧ ((⟨l.toArray⟩ : ByteArray).toList == []) = false ∧ ((⟨l.toArray⟩ : ByteArray).toList != []) = true := by
  rw [Lib.toList_data]
  refine ⟨?_, beq_eq_false_iff_ne.2 h, bne_iff_ne.2 h⟩
  cases l with
  | nil => exact absurd rfl h
  | cons b r => rfl
theorem len_ne {α : Type} {l : List α} (h : l ≠ []) : (((l.length : Nat) : Int) = 0) = False := by
  have := List.length_pos_iff.2 h
  exact eq_false (by omega)
theorem nat_ne {α : Type} {l : List α} (h : l ≠ []) : (l.length = 0) = False := by
  have := List.length_pos_iff.2 h
  exact eq_false (by omega)
theorem empty_ne {α : Type} {l : List α} (h : l ≠ []) : l.isEmpty = false := by
  cases l with
  | nil => exact absurd rfl h
  | cons b r => rfl

set_option maxRecDepth 100000 in
set_option maxHeartbeats 2000000 in
theorem isRoot_any (g m : Nat) (x : NI) (w : World) (h : NodeIn w g m x) :
    Calls Tryz.prog 45 #[.pointer (some ⟨g, m, none⟩)] w fun e w' => e = .returned (.bool (isRootB x)) ∧ w = w' := by
  have c0 := h.kind
  have c1 := h.name
  obtain ⟨ao, cap, c2, _⟩ := h.attrs
  have c3 := h.data
  have c4 := h.up
  clear h
  obtain ⟨k, nm, ats, dt, up, kids⟩ := x
  simp only at c0 c1 c2 c3 c4
  unfold isRootB
  simp only
  by_cases h0 : k = 0
  · subst h0
    by_cases h4 : up = -1
    · subst h4
      by_cases h1 : nm = []
      · have t1 := toList_nil h1
        subst h1
        by_cases h2 : ats = []
        · subst h2
          by_cases h3 : dt = []
          · have t3 := toList_nil h3
            subst h3
            show Calls _ _ _ _ fun e w' => e = .returned (.bool true) ∧ w = w'
            obtain ⟨p1, p2, p3⟩ := t1
            obtain ⟨q1, q2, q3⟩ := t3
            go_enter Tryz.func45, Tryz.ntmps45
            go_big_wp2
            go_ret
            exact ⟨rfl, rfl⟩
          · obtain ⟨q1, q2, q3⟩ := toList_ne h3
            obtain ⟨p1, p2, p3⟩ := t1
            rw [empty_ne h3, Bool.and_false]
            obtain ⟨ds, hds⟩ : ∃ ds : ByteArray, ⟨dt.toArray⟩ = ds := ⟨_, rfl⟩
            rw [hds] at c3 q1 q2 q3
            clear hds
            clear h3
            go_enter Tryz.func45, Tryz.ntmps45
            go_big_wp2
            go_ret
            exact ⟨rfl, rfl⟩
        · have l2 := len_ne h2
          obtain ⟨p1, p2, p3⟩ := t1
          rw [empty_ne h2, Bool.and_false, Bool.false_and]
          have l3 := nat_ne h2
          generalize ats.length = n at *
          clear h2
          go_enter Tryz.func45, Tryz.ntmps45
          go_big_wp2
          go_ret
          exact ⟨rfl, rfl⟩
      · obtain ⟨p1, p2, p3⟩ := toList_ne h1
        rw [empty_ne h1, Bool.and_false, Bool.false_and, Bool.false_and]
        obtain ⟨ns, hns⟩ : ∃ ns : ByteArray, ⟨nm.toArray⟩ = ns := ⟨_, rfl⟩
        rw [hns] at c1 p1 p2 p3
        clear hns
        clear h1
        go_enter Tryz.func45, Tryz.ntmps45
        go_big_wp2
        go_ret
        exact ⟨rfl, rfl⟩
    · have h4I := eq_false h4
      rw [show (up == -1) = false from beq_eq_false_iff_ne.2 h4, Bool.and_false, Bool.false_and, Bool.false_and, Bool.false_and]
      go_enter Tryz.func45, Tryz.ntmps45
      go_big_wp2
      go_ret
      exact ⟨rfl, rfl⟩
  · have h0I : (((k : Nat) : Int) = 0) = False := eq_false (by omega)
    rw [show (k == 0) = false from beq_eq_false_iff_ne.2 h0, Bool.false_and, Bool.false_and, Bool.false_and, Bool.false_and]
    have h0N := eq_false h0
    clear h0
    go_enter Tryz.func45, Tryz.ntmps45
    go_big_wp2
    go_ret
    exact ⟨rfl, rfl⟩

/-- A text that may stand in a tree. -/
def isTextB (x : NI) : Bool := x.name.isEmpty && x.attrs.isEmpty && !x.data.isEmpty && wellL ⟨x.data.toArray⟩
set_option maxRecDepth 100000 in
set_option maxHeartbeats 2000000 in
theorem isText_any (g m : Nat) (x : NI) (w : World) (h : NodeIn w g m x) (hv : VTabs w) :
    Calls Tryz.prog 81 #[.pointer (some ⟨g, m, none⟩)] w fun e w' => e = .returned (.bool (isTextB x)) ∧ Below w.heap.size w w' := by
  have c1 := h.name
  obtain ⟨ao, cap, c2, _⟩ := h.attrs
  have c3 := h.data
  have hP := isPlain_any ⟨x.data.toArray⟩ w (by have := h.long.1; simpa [ByteArray.size] using this) hv
  clear h hv
  obtain ⟨k, nm, ats, dt, up, kids⟩ := x
  simp only at c1 c2 c3 hP
  unfold isTextB
  simp only
  obtain ⟨v, hv⟩ : ∃ v, wellL ⟨dt.toArray⟩ = v := ⟨_, rfl⟩
  rw [hv] at hP ⊢
  have HP := Lib.hid hP
  clear hP hv
  by_cases h1 : nm = []
  · have t1 := toList_nil h1
    subst h1
    by_cases h2 : ats = []
    · subst h2
      by_cases h3 : dt = []
      · have t3 := toList_nil h3
        subst h3
        show Calls _ _ _ _ fun e w' => e = .returned (.bool false) ∧ _
        obtain ⟨p1, p2, p3⟩ := t1
        obtain ⟨q1, q2, q3⟩ := t3
        go_enter Tryz.func81, Tryz.ntmps81
        go_big_wp2
        go_ret
        exact ⟨rfl, Below.refl _ _⟩
      · obtain ⟨q1, q2, q3⟩ := toList_ne h3
        obtain ⟨p1, p2, p3⟩ := t1
        rw [empty_ne h3, Bool.not_false, Bool.and_true]
        show Calls _ _ _ _ fun e w' => e = .returned (.bool v) ∧ _
        obtain ⟨ds, hds⟩ : ∃ ds : ByteArray, ⟨dt.toArray⟩ = ds := ⟨_, rfl⟩
        rw [hds] at c3 q1 q2 q3 HP
        clear hds
        clear h3
        go_enter Tryz.func81, Tryz.ntmps81
        go_big_wp2_with (go_at_call 123; refine HP.out.mono ?_; rintro e w1 ⟨rfl, hb1⟩)
        go_ret
        exact ⟨rfl, hb1⟩
    · have l2 := len_ne h2
      obtain ⟨p1, p2, p3⟩ := t1
      rw [empty_ne h2, Bool.and_false, Bool.false_and, Bool.false_and]
      have l3 := nat_ne h2
      generalize ats.length = n at *
      clear h2
      go_enter Tryz.func81, Tryz.ntmps81
      go_big_wp2
      go_ret
      exact ⟨rfl, Below.refl _ _⟩
  · obtain ⟨p1, p2, p3⟩ := toList_ne h1
    rw [empty_ne h1, Bool.false_and, Bool.false_and, Bool.false_and]
    obtain ⟨ns, hns⟩ : ∃ ns : ByteArray, ⟨nm.toArray⟩ = ns := ⟨_, rfl⟩
    rw [hns] at c1 p1 p2 p3
    clear hns
    clear h1
    go_enter Tryz.func81, Tryz.ntmps81
    go_big_wp2
    go_ret
    exact ⟨rfl, Below.refl _ _⟩
end Go.Proofs.YtnfkndaggcklkaaGreatDoor

