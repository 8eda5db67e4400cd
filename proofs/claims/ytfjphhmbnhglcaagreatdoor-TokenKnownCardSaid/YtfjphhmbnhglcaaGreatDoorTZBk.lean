/-
  The closed law on tokens: it hands back true. Conditions: the library's variable MaxLen holds a number.
-/
import Derived.Test.YtfjphhmbnhglcaaGreatDoorTZall
import Derived.Test.YtfjphhmbnhglcaaGreatDoorTParts
import Derived.Laws.OwnMore
namespace Go.TokenKit
open Go Go.Lib Go.CharrefKit
def lines : List ByteArray := [⟨#[]⟩, ⟨#[97]⟩, ⟨#[60]⟩, ⟨#[97, 60]⟩, ⟨#[60, 62]⟩, ⟨#[60, 32, 112, 62]⟩, ⟨#[60, 112]⟩, ⟨#[60, 112, 62]⟩, ⟨#[60, 80, 32, 67, 108, 97, 115, 115, 61, 34, 97, 32, 98, 34, 32, 105, 100, 61, 120, 62, 97, 32, 60, 32, 98, 60, 47, 112, 62]⟩, ⟨#[60, 98, 114, 47, 62, 60, 33, 45, 45, 32, 120, 32, 45, 45, 62, 97, 60, 98]⟩, ⟨#[60, 33, 68, 79, 67, 84, 89, 80, 69, 32, 104, 116, 109, 108, 32, 62, 32, 49, 32, 60, 32, 50]⟩, ⟨#[60, 47, 62]⟩, ⟨#[60, 47]⟩, ⟨#[60, 47, 32, 112, 62]⟩, ⟨#[60, 112, 32, 97, 32, 97, 62]⟩, ⟨#[60, 112, 32, 97, 32, 65, 62]⟩, ⟨#[60, 112, 32, 97, 61, 62]⟩, ⟨#[60, 112, 32, 97, 61, 32, 62]⟩, ⟨#[60, 112, 32, 97, 61, 34, 120, 62]⟩, ⟨#[60, 112, 32, 97, 61, 39, 120, 34, 121, 39, 62]⟩, ⟨#[60, 112, 32, 97, 61, 120, 34, 121, 62]⟩, ⟨#[60, 112, 32, 97, 61, 96, 62]⟩, ⟨#[60, 112, 32, 97, 61, 98, 61, 99, 62]⟩, ⟨#[60, 112, 32, 61, 97, 62]⟩, ⟨#[60, 112, 32, 97, 47, 62]⟩, ⟨#[60, 112, 32, 97, 47, 32, 62]⟩, ⟨#[60, 112, 47, 97, 62]⟩, ⟨#[60, 112, 32, 47, 32, 62]⟩, ⟨#[60, 112, 32, 97, 32, 61, 32, 98, 32, 62]⟩, ⟨#[60, 112, 32, 97, 10, 98, 9, 99, 61, 100, 62]⟩, ⟨#[60, 112, 32, 97, 95, 45, 57, 61, 49, 62]⟩, ⟨#[60, 112, 32, 97, 58, 98, 62]⟩, ⟨#[60, 112, 45, 113, 62]⟩, ⟨#[60, 112, 46, 113, 62]⟩, ⟨#[60, 112, 233, 62]⟩, ⟨#[60, 47, 112, 32, 97, 62]⟩, ⟨#[60, 47, 112, 47, 62]⟩, ⟨#[60, 47, 112, 32, 62]⟩, ⟨#[60, 63, 120, 63, 62]⟩, ⟨#[60, 33, 120, 62]⟩, ⟨#[60, 33, 45]⟩, ⟨#[60, 33, 45, 45]⟩, ⟨#[60, 33, 45, 45, 45, 45, 62]⟩, ⟨#[60, 33, 45, 45, 62]⟩, ⟨#[60, 33, 45, 45, 45, 62]⟩, ⟨#[60, 33, 45, 45, 97, 45, 45, 62, 98, 45, 45, 62]⟩, ⟨#[60, 33, 45, 45, 97, 45, 45, 33, 62, 98, 45, 45, 62]⟩, ⟨#[60, 33, 45, 45, 97, 60, 33, 45, 45, 98, 45, 45, 62]⟩, ⟨#[60, 33, 45, 45, 97, 60, 33, 45, 45, 45, 62]⟩, ⟨#[60, 33, 45, 45, 97, 60, 33, 45, 45, 62]⟩, ⟨#[60, 33, 45, 45, 32, 45, 32, 45, 45, 32, 45, 45, 62]⟩, ⟨#[60, 33, 100, 111, 99, 116, 121, 112, 101, 62]⟩, ⟨#[60, 33, 100, 111, 99, 116, 121, 112, 101, 104, 116, 109, 108, 62]⟩, ⟨#[60, 33, 68, 111, 99, 84, 121, 112, 101]⟩, ⟨#[60, 33, 100, 111, 99, 62]⟩, ⟨#[60, 112, 32, 97, 61, 38, 97, 109, 112, 59, 62, 38, 97, 109, 112, 59, 60, 47, 112, 62]⟩, ⟨#[60, 112, 32, 97, 61, 38, 108, 116, 62, 120]⟩, ⟨#[60, 112, 32, 97, 61, 39, 38, 108, 116, 120, 32, 38, 99, 111, 112, 121, 61, 49, 39, 32, 98, 61, 34, 38, 108, 116, 120, 34, 62, 38, 108, 116, 120]⟩, ⟨#[97, 0, 98]⟩, ⟨#[60, 112, 32, 97, 61, 47, 62]⟩, ⟨#[60, 112, 32, 97, 61, 47, 98, 62]⟩, ⟨#[60, 112, 32, 97, 61, 39, 39, 32, 98, 62]⟩, ⟨#[12, 60, 98, 114, 12, 47, 62]⟩, ⟨#[97, 60, 63]⟩, ⟨#[97, 60, 33]⟩, ⟨#[97, 60, 47]⟩, ⟨#[60, 97, 62, 60, 98, 62, 60, 47, 98, 62, 60, 47, 97, 62, 99]⟩, ⟨#[60, 112, 32, 97, 61, 49, 32, 98, 61, 50, 32, 99, 61, 51, 32, 100, 61, 52, 32, 101, 61, 53, 32, 102, 61, 54, 32, 103, 61, 55, 32, 104, 61, 56, 32, 105, 61, 57, 32, 106, 61, 48, 32, 107, 61, 49, 32, 108, 61, 50, 32, 109, 61, 51, 32, 110, 61, 52, 32, 111, 61, 53, 32, 112, 61, 54, 62]⟩, ⟨#[60, 112, 32, 97, 61, 49, 32, 98, 61, 50, 32, 99, 61, 51, 32, 100, 61, 52, 32, 101, 61, 53, 32, 102, 61, 54, 32, 103, 61, 55, 32, 104, 61, 56, 32, 105, 61, 57, 32, 106, 61, 48, 32, 107, 61, 49, 32, 108, 61, 50, 32, 109, 61, 51, 32, 110, 61, 52, 32, 111, 61, 53, 32, 112, 61, 54, 32, 113, 62]⟩, ⟨#[60, 112, 32, 97, 61, 49, 32, 98, 61, 50, 32, 99, 61, 51, 32, 100, 61, 52, 32, 101, 61, 53, 32, 102, 61, 54, 32, 103, 61, 55, 32, 104, 61, 56, 32, 105, 61, 57, 32, 106, 61, 48, 32, 107, 61, 49, 32, 108, 61, 50, 32, 109, 61, 51, 32, 110, 61, 52, 32, 111, 61, 53, 32, 112, 61, 54, 32, 112, 62]⟩]
theorem lines_len : lines.length = 70 := rfl
/-- A row of n bytes under way: k bytes a, noughts behind. -/
def halfCells (n k : Nat) : List Value := List.replicate k (Value.int .u8 97) ++ List.replicate (n - k) (Value.int .u8 0)
theorem half_set {n k : Nat} (h : k < n) : (halfCells n k).set k (Value.int .u8 97) = halfCells n (k + 1) := by
  unfold halfCells
  rw [List.set_append_right _ _ (by simp), List.length_replicate, Nat.sub_self, show n - k = (n - (k + 1)) + 1 by omega, List.replicate_succ, List.set_cons_zero, List.replicate_succ' (n := k), List.append_assoc]
  rfl
theorem half_all (n : Nat) : halfCells n n = List.replicate n (Value.int .u8 97) := by unfold halfCells; rw [Nat.sub_self, List.replicate_zero, List.append_nil]
theorem half_zero (n : Nat) : halfCells n 0 = List.replicate n (Value.int .u8 0) := by unfold halfCells; rw [List.replicate_zero, List.nil_append, Nat.sub_zero]
theorem as_none (n : Nat) : hasL (List.replicate n 97) [60, 38, 0] = false := by
  unfold hasL
  rw [List.any_eq_false]
  intro b hb
  rw [List.mem_replicate] at hb
  rw [hb.2]; decide
theorem as_told (n : Nat) (h : n ≤ 65536) (h0 : 0 < n) : answerL (List.replicate n 97) = ([⟨3, [], [], false, List.replicate n 97⟩], 0, 0) := by
  rw [plain_told (as_none n) (by rw [List.length_replicate]; exact h), if_neg (by intro e; have := congrArg List.length e; rw [List.length_replicate] at this; simp at this; omega)]
end Go.TokenKit
namespace Go.Proofs.YtfjphhmbnhglcaaGreatDoor
open Go.RowKit Go.RunKit Go.CharrefKit Go.Lib Go.TokenKit

/-- The texts in a block. -/
def LinesIn (g : Nat) (w : World) : Prop := ∀ k x, lines[k]? = some x → w.cell? ⟨g, k, none⟩ = some (.string x)
theorem LinesIn.on {g : Nat} {w w' : World} (h : LinesIn g w) (hb : Below w.heap.size w w') : LinesIn g w' := fun k x hk => by
  have a := h k x hk
  rw [hb.cell (World.block_lt_of_cell? _ _ a)]; exact a
theorem lines_laid (w : World) : LinesIn w.heap.size (w.alloc (.cells (lines.map Value.string).toArray 9)) := fun j x hx => by
  rw [World.cell?_alloc_at _ _ _ _ rfl, List.getElem?_toArray, List.getElem?_map, hx]; rfl
theorem line_at {k : Nat} (h : k < 70) : ∃ x, lines[k]? = some x := ⟨lines[k]'(by rw [lines_len]; exact h), by simp⟩
def bigWorld (w : World) (n : Nat) : World := w.alloc (.cells (madeCells #[.int .u8 0] n) 5)
theorem big_run (w : World) (n : Nat) (h : n ≤ 100000) : (Instr.makeSlice 39 (.int .i64 (n : Int)) (.int .i64 (n : Int))).run Tryz.prog w = .ok (.slice (some ⟨w.heap.size, 0, none⟩) n n) (bigWorld w n) := by
  obtain ⟨i0, hi, hz0, hz1, hz2⟩ := info_parts Tryz.infoByte
  have := run_make (P := Tryz.prog) w 39 5 i0 _ underBytes hi hz0 .i64 .i64 (n : Int) (n : Int) (by omega) (by omega) (by rw [hz2]; omega) (by omega)
  rw [hz1] at this
  simp only [Int.toNat_natCast, Nat.mul_one] at this
  exact this
/-- Bytes under way in a block. -/
structure HalfAt (w : World) (n g k : Nat) (wr : World) : Prop where
  below : Below w.heap.size w wr
  row : wr.heap[g]? = some (.cells (halfCells n k).toArray 5 (0, 0))
  le : w.heap.size ≤ g
theorem half_start {w w1 : World} (n : Nat) (hb : Below w.heap.size w w1) : HalfAt w n w1.heap.size 0 (bigWorld w1 n) :=
  ⟨hb.alloc hb.size _, by
    have h := heap_alloc_new w1 (.cells (madeCells #[.int .u8 0] n) 5)
    have e : (halfCells n 0).toArray = madeCells #[.int .u8 0] n := by rw [half_zero, ← toList_madeCells_one]
    rw [e]
    exact h, hb.size⟩
theorem HalfAt.step {w wr : World} {n g k : Nat} (h : HalfAt w n g k wr) (hk : k < n) : HalfAt w n g (k + 1) (wr.setCell ⟨g, k, none⟩ (.int .u8 97)) :=
  ⟨h.below.setCell h.le _, by
    rw [heap_setCell_same wr g k _ _ _ h.row, ← half_set hk]
    simp, h.le⟩
theorem HalfAt.cell {w wr : World} {n g k : Nat} (h : HalfAt w n g k wr) (hk : k < n) : wr.cell? ⟨g, k, none⟩ = some (.int .u8 0) ∧ wr.frozen? ⟨g, k, none⟩ = false := by
  refine ⟨?_, frozen_of_row wr g k _ _ h.row⟩
  rw [cell_of_row wr g k _ _ _ h.row, List.getElem?_toArray]
  unfold halfCells
  rw [List.getElem?_append_right (by simp), List.length_replicate, Nat.sub_self, show n - k = (n - (k + 1)) + 1 by omega, List.replicate_succ]
  rfl
theorem HalfAt.on {w wr w1 : World} {n g k : Nat} (h : HalfAt w n g k wr) (hb : Below wr.heap.size wr w1) : HalfAt w n g k w1 :=
  ⟨h.below.trans (hb.mono h.below.size), by rw [hb.block _ (Array.getElem?_eq_some_iff.1 h.row).1]; exact h.row, h.le⟩
theorem HalfAt.all {w wr : World} {N g : Nat} (h : HalfAt w N g N wr) (o n : Nat) (hn : o + n = N) (cap : Nat) :
    (convert 39 9 (.slice (some ⟨g, o, none⟩) n cap)).run Tryz.prog wr = .ok (.string ⟨(List.replicate n (97 : UInt8)).toArray⟩) wr := by
  have := run_convert_bytes_back (P := Tryz.prog) wr 39 9 5 ⟨g, o, none⟩ cap (List.replicate n (97 : UInt8)) underBytes underByte underString (fun j hj => by
    rw [List.length_replicate] at hj
    have e : (⟨g, o, none⟩ : Addr).add j = ⟨g, o + j, none⟩ := by
      unfold Addr.add
      by_cases h0 : j = 0
      · subst h0; rfl
      · simp [h0]
    rw [e, cell_of_row wr g (o + j) _ _ _ h.row, List.getElem?_toArray, half_all, List.getElem?_replicate, if_pos (by omega), List.getElem_replicate]
    rfl)
  rw [List.length_replicate] at this
  exact this

set_option maxRecDepth 100000 in
set_option maxHeartbeats 8000000 in
theorem lawKnown (w : World) (hM : Maxed w w.heap.size) : Calls Tryz.prog 4 #[] w fun e w' => e = .returned (.bool true) ∧ Below w.heap.size w w' := by
  have HM := Lib.hid hM
  have HW := Lib.hid fun w1 (hb : Below w.heap.size w w1) => works_any w1 (maxed_on hM hb)
  have HC0 := Lib.hid (lines_laid w)
  have HB0 : Hid (Below w.heap.size w (w.alloc (.cells (lines.map Value.string).toArray 9))) := Lib.hid ((Below.refl _ _).alloc (Nat.le_refl _) _)
  clear hM
  go_enter Tryz.func4, Tryz.ntmps4
  go_big_wp2
  go_loopw [2] (fun i wr => ∃ k : Nat, k ≤ 70 ∧ i = .int .i64 (k : Nat) ∧ Hid (LinesIn w.heap.size wr) ∧ Hid (Below w.heap.size w wr)) (fun i _ => 70 - (RowKit.intOf i).toNat)
  case atStart => exact ⟨0, by omega, rfl, HC0, HB0⟩
  case round =>
    clear HC0 HB0
    obtain ⟨k, hk, rfl, HC, HB⟩ := hrel
    by_cases hlt : k < 70
    · obtain ⟨x, hx⟩ := line_at hlt
      obtain ⟨j, hj⟩ : ∃ j, (k * 7 + 3) % 70 = j := ⟨_, rfl⟩
      have hj70 : j < 70 := by omega
      obtain ⟨y, hy⟩ := line_at hj70
      have c0 := HC.out k x hx
      have c1 := HC.out j y hy
      have d0 : ∀ q : Over wr, q.out.cell? ⟨w.heap.size, k, none⟩ = some (.string x) := fun q => q.cell c0
      have d1 : ∀ q : Over wr, q.out.cell? ⟨w.heap.size, j, none⟩ = some (.string y) := fun q => q.cell c1
      have HR := Lib.hid fun s (q : Over wr) => lawReads s q.out (maxed_on HM.out (HB.out.trans (q.below.mono HB.out.size)))
      have HP := Lib.hid fun a b (q : Over wr) => lawParts a b q.out (maxed_on HM.out (HB.out.trans (q.below.mono HB.out.size)))
      have hkI : (k : Int) < 70 := by omega
      have hj0 : (0 : Int) ≤ (j : Int) := by omega
      have hjI : (j : Int) < 70 := by omega
      have e1 : IntKind.i64.wrap ((k : Int) * 7) = (k : Int) * 7 := IntWalk.i64_in _ (by omega)
      have e2 : IntKind.i64.wrap ((k : Int) * 7 + 3) = (k : Int) * 7 + 3 := IntWalk.i64_in _ (by omega)
      have e3 : ((k : Int) * 7 + 3).tmod 70 = (j : Int) := by rw [Int.tmod_eq_emod_of_nonneg (by omega)]; omega
      have e4 : ((k : Int) * 7 + 3) % 70 = (j : Int) := by omega
      clear hx hy c0 c1 hj
      go_big_wp2
      refine wp_region_below (by kernel_rfl) (by kernel_rfl) ?_
      repeat (go_big_quiet_step (first | (go_at_call 3; exact calls_over (HR.out _ _)) | (go_at_call 17; exact calls_over (HP.out _ _ _))))
      refine wpQuiet_nil ?_
      intro _ hw'
      obtain ⟨q, hw''⟩ := hw'
      subst hw''
      clear e1 e2 e3 e4
      go_big_wp2
      exact ⟨⟨k + 1, by omega, by go_num, Lib.hid (HC.out.on q.below), Lib.hid (HB.out.trans (q.below.mono HB.out.size))⟩, by simp [RowKit.intOf]; omega⟩
    · have hkI : ¬ (k : Int) < 70 := by omega
      have hz : (Instr.makeSlice 39 (.int .i64 65537) (.int .i64 65537)).run Tryz.prog wr = .ok (.slice (some ⟨wr.heap.size, 0, none⟩) 65537 65537) (bigWorld wr 65537) := big_run wr 65537 (by omega)
      have HH0 := Lib.hid (half_start 65537 HB.out)
      generalize bigWorld wr 65537 = W at *
      generalize wr.heap.size = g at *
      clear HC
      go_big_wp2
      clear hz
      go_loopw [4] (fun i wr => ∃ k : Nat, k ≤ 65537 ∧ i = .int .i64 (k : Nat) ∧ Hid (HalfAt w 65537 g k wr)) (fun i _ => 65537 - (RowKit.intOf i).toNat)
      case atStart => exact ⟨0, by omega, rfl, HH0⟩
      case round =>
        clear HH0
        obtain ⟨i, hi, rfl, HH⟩ := hrel
        by_cases hil : i < 65537
        · have hiI : (i : Int) < 65537 := by omega
          obtain ⟨c0, f0⟩ := HH.out.cell hil
          go_big_wp2
          exact ⟨⟨i + 1, by omega, by go_num, Lib.hid (HH.out.step hil)⟩, by simp [RowKit.intOf]; omega⟩
        · have hiI : ¬ (i : Int) < 65537 := by omega
          have hi2 : i = 65537 := by omega
          rw [hi2] at HH
          have hc1 := HH.out.all 1 65536 (by omega) 65536
          obtain ⟨s1, hs1⟩ : ∃ s : ByteArray, (⟨(List.replicate 65536 (97 : UInt8)).toArray⟩ : ByteArray) = s := ⟨_, rfl⟩
          obtain ⟨s2, hs2⟩ : ∃ s : ByteArray, (⟨(List.replicate 65537 (97 : UInt8)).toArray⟩ : ByteArray) = s := ⟨_, rfl⟩
          rw [hs1] at hc1
          have HC2 := Lib.hid fun w1 (hb : Below wr.heap.size wr w1) => (show (convert 39 9 (.slice (some ⟨g, 0, none⟩) 65537 65537)).run Tryz.prog w1 = .ok (.string s2) w1 by rw [← hs2]; exact (HH.out.on hb).all 0 65537 (by omega) 65537)
          have hat : answerL (bl s1) = ([⟨3, [], [], false, List.replicate 65536 97⟩], 0, 0) := by rw [← hs1, bl_of]; exact as_told 65536 (by omega) (by omega)
          have HT := Lib.hid (tokens_at (n := 1) hat rfl wr (maxed_on HM.out HH.out.below))
          have HRd := Lib.hid fun w1 (hb : Below w.heap.size w w1) => lawReads s2 w1 (maxed_on HM.out hb)
          have HBr := Lib.hid HH.out.below
          clear hs1 hs2 hat hi2 HH hil
          go_big_wp2_with (first
            | (go_at_call 14; refine HT.out.mono ?_; rintro e w1 ⟨ao, cap, L, rfl, hb1, _, _, _⟩; have HB1 := Lib.hid (HBr.out.trans (hb1.mono HBr.out.size)); have hc2 := HC2.out w1 hb1; clear hb1 hc1)
            | (go_at_call 3; refine (HRd.out _ HB1.out).mono ?_; rintro e w2 ⟨rfl, hb2⟩; have HB2 := Lib.hid (HB1.out.trans (hb2.mono HB1.out.size)); clear hb2 hc2)
            | (go_at_call 13; refine (HW.out _ HB2.out).mono ?_; rintro e w3 ⟨rfl, hb3⟩))
          go_ret
          exact ⟨rfl, HB2.out.trans (hb3.mono HB2.out.size)⟩
end Go.Proofs.YtfjphhmbnhglcaaGreatDoor
