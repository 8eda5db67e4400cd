/-
  The reader of package token, step by step: take, takeUpTo, leaveOutBlanks, took, quoted. Conditions: texts are no longer than 2^31 bytes.
-/
import Derived.Test.YtfjphhmbnhglcaaGreatDoorTSmall
namespace Go.TokenKit
open Go Go.Lib
theorem any_none {cs : List UInt8} : ∀ {l : List UInt8}, indexAny l cs = -1 → before cs l = l ∧ behind cs l = []
  | [], _ => ⟨rfl, rfl⟩
  | b :: r, h => by
    simp only [indexAny] at h
    split at h
    · cases h
    · rename_i hb
      have hb : cs.contains b = false := by simpa using hb
      have h2 : indexAny r cs = -1 := by
        have hg := indexAny_ge cs r
        split at h
        · rename_i e; simpa using e
        · omega
      obtain ⟨i1, i2⟩ := any_none h2
      unfold before at i1
      unfold behind at i2
      exact ⟨by unfold before; simp only [List.takeWhile, hb, Bool.not_false]; rw [i1], by unfold behind; simp only [List.dropWhile, hb, Bool.not_false]; exact i2⟩
theorem any_some {cs : List UInt8} : ∀ {l : List UInt8} {p : Nat}, indexAny l cs = (p : Int) → p < l.length ∧ before cs l = l.take p ∧ behind cs l = l.drop p
  | [], p, h => by simp only [indexAny] at h; omega
  | b :: r, p, h => by
    simp only [indexAny] at h
    split at h
    · rename_i hb
      obtain rfl : p = 0 := by omega
      exact ⟨by simp, by simp only [before, List.takeWhile, hb, Bool.not_true]; rfl, by simp only [behind, List.dropWhile, hb, Bool.not_true]; rfl⟩
    · rename_i hb
      have hb : cs.contains b = false := by simpa using hb
      have hg := indexAny_ge cs r
      split at h
      · omega
      · rename_i hne
        have hne : indexAny r cs ≠ -1 := by simpa using hne
        obtain ⟨q, rfl⟩ : ∃ q, p = q + 1 := ⟨p - 1, by omega⟩
        obtain ⟨i1, i2, i3⟩ := any_some (cs := cs) (l := r) (p := q) (by omega)
        unfold before at i2
        unfold behind at i3
        exact ⟨by simp; omega, by unfold before; simp only [List.takeWhile, hb, Bool.not_false, List.take_succ_cons]; rw [i2], by unfold behind; simp only [List.dropWhile, hb, Bool.not_false, List.drop_succ_cons]; exact i3⟩
end Go.TokenKit
namespace Go.Proofs.YtfjphhmbnhglcaaGreatDoor
open Go.RowKit Go.RunKit Go.CharrefKit Go.Lib Go.TokenKit

abbrev TRd : TypeId := 62
/-- The reader's block: what it has not read yet. -/
def RB (w : World) (b : Nat) (cur : ByteArray) : Prop := w.heap[b]? = some (.cells #[.string cur] TRd (0, 0))
theorem RB.cell {w : World} {b : Nat} {cur : ByteArray} (h : RB w b cur) : w.cell? ⟨b, 0, none⟩ = some (.string cur) := by
  unfold RB at h; simp [World.cell?, h]
theorem RB.frozen {w : World} {b : Nat} {cur : ByteArray} (h : RB w b cur) : w.frozen? ⟨b, 0, none⟩ = false := frozen_of_row w b 0 _ _ h
theorem RB.lt {w : World} {b : Nat} {cur : ByteArray} (h : RB w b cur) : b < w.heap.size := (Array.getElem?_eq_some_iff.1 h).1
theorem RB.on {w w' : World} {b : Nat} {cur : ByteArray} (h : RB w b cur) (hb : Below w.heap.size w w') : RB w' b cur := (hb.block b h.lt).trans h
/-- All is as it was but for the reader and new blocks. -/
structure Moved (w : World) (b : Nat) (cur : ByteArray) (w' : World) : Prop where
  grown : w.grownBy w' (some b)
  rest : RB w' b cur
theorem grown_refl (w : World) (row : Option Nat) : w.grownBy w row := ⟨rfl, rfl, rfl, Nat.le_refl _, fun _ _ _ => rfl⟩
theorem Moved.refl {w : World} {b : Nat} {cur : ByteArray} (h : RB w b cur) : Moved w b cur w := ⟨grown_refl _ _, h⟩
theorem grown_below {w w' : World} (h : Below w.heap.size w w') (row : Option Nat) : w.grownBy w' row := ⟨h.os, h.tape, h.output, h.size, fun k hk _ => h.block k hk⟩
theorem grown_trans {a b c : World} {row : Option Nat} (h : a.grownBy b row) (k : b.grownBy c row) : a.grownBy c row :=
  ⟨k.os.trans h.os, k.tape.trans h.tape, k.output.trans h.output, Nat.le_trans h.size k.size, fun i hi hn => (k.block i (Nat.lt_of_lt_of_le hi h.size) hn).trans (h.block i hi hn)⟩
theorem Moved.trans {w w1 w2 : World} {b : Nat} {c1 c2 : ByteArray} (h : Moved w b c1 w1) (k : Moved w1 b c2 w2) : Moved w b c2 w2 := ⟨grown_trans h.grown k.grown, k.rest⟩
theorem Moved.on {w w1 w2 : World} {b : Nat} {c : ByteArray} (h : Moved w b c w1) (k : Below w1.heap.size w1 w2) : Moved w b c w2 := ⟨grown_trans h.grown (grown_below k _), h.rest.on k⟩
theorem Moved.from_ {w w1 w2 : World} {b : Nat} {c : ByteArray} (h : Below w.heap.size w w1) (k : Moved w1 b c w2) : Moved w b c w2 := ⟨grown_trans (grown_below h _) k.grown, k.rest⟩
theorem Moved.set {w : World} {b : Nat} {cur : ByteArray} (h : RB w b cur) (c : ByteArray) : Moved w b c (w.setCell ⟨b, 0, none⟩ (.string c)) := by
  refine ⟨⟨rfl, rfl, rfl, by simp [World.setCell], fun k _ hk => Below.heap_setCell _ _ _ _ (fun e => hk (by rw [e]))⟩, ?_⟩
  have := heap_setCell_same w b 0 _ _ (.string c) h
  simpa [RB] using this
theorem Moved.below {w0 w w' : World} {b : Nat} {c : ByteArray} (h : Moved w b c w') (hb : Below w0.heap.size w0 w) (hB : w0.heap.size ≤ b) : Below w0.heap.size w0 w' :=
  hb.grown h.grown hb.size (fun k hk => by cases hk; exact hB)
/-- The library's own variable of which only this is known: it holds a number. -/
structure Maxed (w : World) (b : Nat) : Prop where
  ex : ∃ m, w.cell? ⟨0, 0, none⟩ = some (.int .i64 m)
  lt : 0 < b
theorem Maxed.grown {w w' : World} {b : Nat} (h : Maxed w b) (hg : w.grownBy w' (some b)) : Maxed w' b := by
  obtain ⟨m, hm⟩ := h.ex
  exact ⟨⟨m, hg.cell hm (by have := h.lt; simp; omega)⟩, h.lt⟩
theorem Maxed.below {w w' : World} {b : Nat} (h : Maxed w b) (hb : Below w.heap.size w w') : Maxed w' b := h.grown (grown_below hb _)
theorem eq_mk {x : ByteArray} {l : List UInt8} (h : bl x = l) : x = ⟨l.toArray⟩ := by subst h; rfl

set_option maxRecDepth 100000 in
set_option maxHeartbeats 400000 in
theorem take_any (b : Nat) (cur : ByteArray) (n : Nat) (hn : n ≤ cur.size) (w : World) (h : RB w b cur) :
    Calls Tryz.prog 101 #[.pointer (some ⟨b, 0, none⟩), .int .i64 n] w fun e w' => e = .returned (.string (cur.extract 0 n)) ∧ Moved w b (cur.extract n cur.size) w' := by
  have hI : (n : Int) ≤ cur.size := by omega
  have hc := h.cell
  have hf := h.frozen
  have HM := Lib.hid (Moved.set h (cur.extract n cur.size))
  clear h
  go_enter Tryz.func101, Tryz.ntmps101
  go_big_wp2
  go_ret
  exact ⟨rfl, HM.out⟩
set_option maxRecDepth 100000 in
set_option maxHeartbeats 400000 in
theorem leave_any (b : Nat) (cur : ByteArray) (w : World) (h : RB w b cur) :
    Calls Tryz.prog 136 #[.pointer (some ⟨b, 0, none⟩)] w fun e w' => e = .returned (.tuple #[]) ∧ Moved w b ⟨(skipL (bl cur)).toArray⟩ w' := by
  have hc := h.cell
  have HT := Lib.hid (fun w => trimLeft_any cur ⟨#[9, 10, 12, 32]⟩ w (by decide) (ascii_of_all (by decide)))
  have HR := Lib.hid h
  clear h
  go_enter Tryz.func136, Tryz.ntmps136
  go_big_wp2_with (go_at_call 163; refine (HT.out _).mono ?_; rintro e w1 ⟨rfl, hb⟩; have hf := (HR.out.on hb).frozen; have hc1 := (HR.out.on hb).cell)
  go_end0
  exact ⟨rfl, (Moved.set (HR.out.on hb) _).from_ hb⟩
set_option maxRecDepth 100000 in
set_option maxHeartbeats 400000 in
theorem took_any (b : Nat) (cur sign : ByteArray) (w : World) (h : RB w b cur) :
    Calls Tryz.prog 137 #[.pointer (some ⟨b, 0, none⟩), .string sign] w fun e w' => e = .returned (.bool (Lib.hasPrefix (bl cur) (bl sign))) ∧ Moved w b ⟨(Lib.trimPrefix (bl cur) (bl sign)).toArray⟩ w' := by
  have hc := h.cell
  have hf := h.frozen
  have HM := Lib.hid (Moved.set h ⟨(Lib.trimPrefix (bl cur) (bl sign)).toArray⟩)
  have HT := Lib.hid (fun w => Tryz.strings_CutPrefix cur sign w)
  clear h
  go_enter Tryz.func137, Tryz.ntmps137
  go_big_wp2_with (go_at_call 169; refine (HT.out _).mono ?_; rintro e w1 ⟨rfl, rfl⟩)
  go_ret
  exact ⟨rfl, HM.out⟩
set_option maxRecDepth 100000 in
set_option maxHeartbeats 400000 in
theorem quoted_any (b : Nat) (cur q : ByteArray) (hsz : cur.size ≤ 4294967280) (w : World) (h : RB w b cur) (hm : Maxed w b) :
    Calls Tryz.prog 194 #[.pointer (some ⟨b, 0, none⟩), .string q] w fun e w' => e = .returned (.tuple #[.string ⟨(Lib.cut (bl cur) (bl q)).1.toArray⟩, .bool (Lib.cut (bl cur) (bl q)).2.2]) ∧ Moved w b ⟨(Lib.cut (bl cur) (bl q)).2.1.toArray⟩ w' := by
  obtain ⟨m, hmm⟩ := hm.ex
  have hc := h.cell
  have HR := Lib.hid h
  have HT := Lib.hid (Tryz.strings_Cut cur q m w (by omega) hmm)
  clear h hm
  go_enter Tryz.func194, Tryz.ntmps194
  go_big_wp2_with (go_at_call 104; refine HT.out.mono ?_; rintro e w1 ⟨rfl, n, rfl⟩; have hb := below_drewN (Below.refl w.heap.size w) n; have hf := (HR.out.on hb).frozen; have hc1 := (HR.out.on hb).cell)
  go_ret2
  exact ⟨rfl, (Moved.set (HR.out.on hb) _).from_ hb⟩
set_option maxRecDepth 100000 in
set_option maxHeartbeats 400000 in
theorem takeUpTo_any (b : Nat) (cur stops : ByteArray) (h2 : 2 ≤ stops.size) (hcs : stops.size < 4294967281) (hch : AllAscii stops) (hsz : cur.size ≤ 4294967280) (w : World) (h : RB w b cur) :
    Calls Tryz.prog 134 #[.pointer (some ⟨b, 0, none⟩), .string stops] w fun e w' => e = .returned (.string ⟨(before (bl stops) (bl cur)).toArray⟩) ∧ Moved w b ⟨(behind (bl stops) (bl cur)).toArray⟩ w' := by
  have hc := h.cell
  have HR := Lib.hid h
  have HT := Lib.hid (indexAny_any cur stops w h2 (by omega) hcs hch)
  clear h
  have hge := indexAny_ge (bl stops) (bl cur)
  by_cases hneg : Lib.indexAny (bl cur) (bl stops) = -1
  · obtain ⟨e1, e2⟩ := any_none hneg
    rw [hneg] at HT
    rw [e1, e2]
    have HK := Lib.hid (take_any b cur cur.size (Nat.le_refl _))
    clear e1 e2 hneg hge
    go_enter Tryz.func134, Tryz.ntmps134
    go_big_wp2_with (first
      | (go_at_call 167; refine HT.out.mono ?_; rintro e w1 ⟨rfl, hb⟩; have HR1 := Lib.hid (HR.out.on hb); have hc1 := HR1.out.cell)
      | (go_at_call 101; refine (HK.out _ HR1.out).mono ?_; rintro e w2 ⟨rfl, hm⟩))
    go_ret
    refine ⟨?_, ?_⟩
    · rfl
    · have := hm.from_ hb
      rwa [show cur.extract cur.size cur.size = ⟨([] : List UInt8).toArray⟩ from eq_mk (by rw [bl_drop, List.drop_of_length_le (by rw [bl_length]; exact Nat.le_refl _)])] at this
  · obtain ⟨p, hp⟩ : ∃ p : Nat, Lib.indexAny (bl cur) (bl stops) = (p : Int) := ⟨(Lib.indexAny (bl cur) (bl stops)).toNat, by omega⟩
    obtain ⟨e0, e1, e2⟩ := any_some hp
    rw [bl_length] at e0
    rw [hp] at HT
    rw [e1, e2]
    have HK := Lib.hid (take_any b cur p (Nat.le_of_lt e0))
    clear e1 e2 hneg hge hp
    go_enter Tryz.func134, Tryz.ntmps134
    go_big_wp2_with (first
      | (go_at_call 167; refine HT.out.mono ?_; rintro e w1 ⟨rfl, hb⟩; have HR1 := Lib.hid (HR.out.on hb); have hc1 := HR1.out.cell)
      | (go_at_call 101; refine (HK.out _ HR1.out).mono ?_; rintro e w2 ⟨rfl, hm⟩))
    go_ret
    refine ⟨?_, ?_⟩
    · rw [show cur.extract 0 p = ⟨((bl cur).take p).toArray⟩ from eq_mk (bl_take _ _)]; rfl
    · have := hm.from_ hb
      rwa [show cur.extract p cur.size = ⟨((bl cur).drop p).toArray⟩ from eq_mk (bl_drop _ _)] at this
end Go.Proofs.YtfjphhmbnhglcaaGreatDoor
