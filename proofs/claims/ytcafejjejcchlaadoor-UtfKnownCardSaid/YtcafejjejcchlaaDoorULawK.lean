/-
  The closed law on utf, walked: it hands back true. Conditions: the library's two tables hold what its text lays.
-/
import Derived.Test.YtcafejjejcchlaaDoorULawB
import Derived.Laws.OwnMore
namespace Go.Proofs.YtcafejjejcchlaaDoor
open Go.RowKit Go.RunKit Go.UtfKit Go.Lib Go.Shelf

def known : List (List UInt8 × List UInt8) := [([195, 169], [195, 169]), ([195], [239, 191, 189]), ([195, 40], [239, 191, 189, 40]), ([226, 130, 40], [239, 191, 189, 40]), ([240, 128, 128], [239, 191, 189, 239, 191, 189, 239, 191, 189]),
  ([128], [239, 191, 189]), ([237, 160, 128], [239, 191, 189, 239, 191, 189, 239, 191, 189]), ([244, 144], [239, 191, 189, 239, 191, 189]), ([192, 175], [239, 191, 189, 239, 191, 189]), ([240, 159, 152], [239, 191, 189]),
  ([240, 159, 152, 128], [240, 159, 152, 128]), ([13, 13, 10, 10, 13], [10, 10, 10, 10]), ([], []), ([239, 187, 191], [239, 187, 191]), ([0], [0])]
def knownCells : List (List UInt8 × List UInt8) → List Value
  | [] => []
  | (a, b) :: r => .string ⟨a.toArray⟩ :: .string ⟨b.toArray⟩ :: knownCells r
theorem knownCells_at : ∀ {l : List (List UInt8 × List UInt8)} {k : Nat} {p : List UInt8 × List UInt8}, l[k]? = some p → (knownCells l)[k * 2]? = some (.string ⟨p.1.toArray⟩) ∧ (knownCells l)[k * 2 + 1]? = some (.string ⟨p.2.toArray⟩)
  | [], _, _, h => by simp at h
  | x :: r, 0, p, h => by
    simp only [List.getElem?_cons_zero, Option.some.injEq] at h; subst h; exact ⟨rfl, rfl⟩
  | x :: r, k + 1, p, h => by
    have := knownCells_at (l := r) (k := k) (p := p) (by simpa using h)
    rw [show (k + 1) * 2 = k * 2 + 1 + 1 from by omega]
    simpa [knownCells] using this
theorem known_table : (known.all fun p => (told (parts ⟨p.1.toArray⟩) == p.2) && decide (p.1.length ≤ 5)) = true := by kernel_rfl
theorem known_told {p : List UInt8 × List UInt8} (h : p ∈ known) : decText ⟨p.1.toArray⟩ = ⟨p.2.toArray⟩ ∧ (⟨p.1.toArray⟩ : ByteArray).size ≤ 5 := by
  have := List.all_eq_true.1 known_table p h
  simp only [Bool.and_eq_true, beq_iff_eq, decide_eq_true_eq] at this
  have hs : (⟨p.1.toArray⟩ : ByteArray).size ≤ 5 := this.2
  refine ⟨?_, hs⟩
  unfold decText
  rw [if_pos (by omega), this.1]
theorem known_cells (w : World) (k : Nat) (p : List UInt8 × List UInt8) (h : known[k]? = some p) :
    (w.alloc (.cells (knownCells known).toArray 9)).cell? ⟨w.heap.size, k * 2, none⟩ = some (.string ⟨p.1.toArray⟩) ∧ (w.alloc (.cells (knownCells known).toArray 9)).cell? ⟨w.heap.size, k * 2 + 1, none⟩ = some (.string ⟨p.2.toArray⟩) := by
  have := knownCells_at h
  constructor
  · rw [cell_of_row _ _ _ _ _ _ (heap_alloc_new w _)]; simpa using this.1
  · rw [cell_of_row _ _ _ _ _ _ (heap_alloc_new w _)]; simpa using this.2

/-- Bytes laid as a row. -/
theorem bytes_laid (w : World) (l : List Nat) (n : Nat) (hl : ∀ x ∈ l, x < 256) (hn : l.length = n) : BytesAt (w.alloc (.cells ((l.map fun x : Nat => Value.int .u8 ((x : Nat) : Int)).toArray) 5)) (some ⟨w.heap.size, 0, none⟩) n n ⟨(l.map Nat.toUInt8).toArray⟩ := by
  subst hn
  refine ⟨by simp [ByteArray.size], fun j hj => ⟨_, rfl, ?_⟩⟩
  rw [add_at, cell_of_row _ _ _ _ _ _ (heap_alloc_new w _), byteAt_list _ _ (by simpa using hj)]
  have := hl l[j] (List.getElem_mem hj)
  simp [hj]
  omega

/-- The world behind a row of n noughts. -/
def zeroWorld (w : World) (n : Nat) : World := w.alloc (.cells (madeCells #[.int .u8 0] n) 5)
theorem zeroWorld_below (w : World) (n : Nat) : Below w.heap.size w (zeroWorld w n) := (Below.refl _ _).alloc (Nat.le_refl _) _
theorem zeroWorld_bytes (w : World) (n : Nat) : BytesAt (zeroWorld w n) (some ⟨w.heap.size, 0, none⟩) n n ⟨(List.replicate n (0 : UInt8)).toArray⟩ := by
  refine ⟨by simp [ByteArray.size], fun j hj => ⟨_, rfl, ?_⟩⟩
  unfold zeroWorld
  rw [add_at, cell_of_row _ _ _ _ _ _ (heap_alloc_new w _), byteAt_list _ _ (by simpa using hj)]
  rw [← Array.getElem?_toList, toList_madeCells_one]
  simp [hj]
theorem zeroWorld_run (w : World) (n : Nat) (h : n ≤ 100000) : (Instr.makeSlice 22 (.int .i64 (n : Int)) (.int .i64 (n : Int))).run Tryd.prog w = .ok (.slice (some ⟨w.heap.size, 0, none⟩) n n) (zeroWorld w n) := by
  obtain ⟨i0, hi, hz0, hz1, hz2⟩ := info_parts Tryd.infoByte
  have := run_make (P := Tryd.prog) w 22 5 i0 _ underBytes hi hz0 .i64 .i64 (n : Int) (n : Int) (by omega) (by omega) (by rw [hz2]; omega) (by omega)
  rw [hz1] at this
  simp only [Int.toNat_natCast, Nat.mul_one] at this
  exact this

theorem decErr_zeros (n : Nat) (h : n ≤ 65536) : decErr ⟨(List.replicate n (0 : UInt8)).toArray⟩ = 0 := by
  unfold decErr
  rw [if_pos]
  simpa [ByteArray.size] using h
def edges : List Int := [-1, 0, 127, 128, 2047, 2048, 55295, 55296, 57343, 57344, 65535, 65536, 1114111, 1114112, 2147483647, -2147483648]
theorem edges_laid (w : World) : Reads (w.alloc (.cells #[Value.int .i32 (-1), Value.int .i32 0, Value.int .i32 127, Value.int .i32 128, Value.int .i32 2047, Value.int .i32 2048, Value.int .i32 55295, Value.int .i32 55296, Value.int .i32 57343, Value.int .i32 57344, Value.int .i32 65535, Value.int .i32 65536, Value.int .i32 1114111, Value.int .i32 1114112, Value.int .i32 2147483647, Value.int .i32 (-2147483648)] 21)) (some ⟨w.heap.size, 0, none⟩) edges := by
  intro j z hz
  refine ⟨_, rfl, ?_⟩
  rw [add_at, cell_of_row _ _ _ _ _ _ (heap_alloc_new w _)]
  show ((edges.map (Value.int .i32)).toArray)[j]? = _
  simp [hz]

set_option maxRecDepth 100000 in
set_option maxHeartbeats 4000000 in
theorem lawKnown (w : World) (ht : Tabs w) :
    Calls Tryd.prog 6 #[] w fun e w' => e = .returned (.bool true) ∧ Below w.heap.size w w' := by
  have HW : Hid (∀ w1, Below w.heap.size w w1 → Calls Tryd.prog 7 #[] w1 fun e w' => e = .returned (.bool true) ∧ Below w.heap.size w w') := Lib.hid (fun w1 hb => from_base hb (works_any w1 (ht.on hb)))
  have HT := Lib.hid ht
  clear ht
  have HD : Hid (∀ w1 s g, Below w.heap.size w w1 → BytesAt w1 (some ⟨g, 0, none⟩) 5 5 s → Calls Tryd.prog 3 #[.slice (some ⟨g, 0, none⟩) 5 5] w1 fun e w' => e = .returned (.bool true) ∧ Below w.heap.size w w') := Lib.hid (fun w1 s g hb h => from_base hb (lawDecodes _ 5 5 s w1 (HT.out.on hb) h))
  have HRn : Hid (∀ w1 s, Below w.heap.size w w1 → Calls Tryd.prog 13 #[.string s] w1 fun e w' => e = .returned (.bool true) ∧ Below w.heap.size w w') := Lib.hid (fun w1 s hb => from_base hb (lawRunes s w1 (HT.out.on hb)))
  have HSt : Hid (∀ w1, Below w.heap.size w w1 → Calls Tryd.prog 14 #[.slice (some ⟨w1.heap.size, 0, none⟩) 16 16] (w1.alloc (.cells #[Value.int .i32 (-1), Value.int .i32 0, Value.int .i32 127, Value.int .i32 128, Value.int .i32 2047, Value.int .i32 2048, Value.int .i32 55295, Value.int .i32 55296, Value.int .i32 57343, Value.int .i32 57344, Value.int .i32 65535, Value.int .i32 65536, Value.int .i32 1114111, Value.int .i32 1114112, Value.int .i32 2147483647, Value.int .i32 (-2147483648)] 21)) fun e w' => e = .returned (.bool true) ∧ Below w.heap.size w w') := Lib.hid (fun w1 hb => from_base (hb.alloc hb.size _) (lawStrings (some ⟨w1.heap.size, 0, none⟩) 16 edges _ (HT.out.on (hb.alloc hb.size _)) (by decide) (edges_laid w1) (fun e => by cases e)))
  have HM := Lib.hid (fun (s : ByteArray) (n : Nat) (hn : s.size = n) (h : n ≤ 65536) (w1 : World) (hb : Below w.heap.size w w1) => decode_made s n hn w1 (HT.out.on hb) h)
  have hb0 : Below w.heap.size w (w.alloc (.cells (knownCells known).toArray 9)) := (Below.refl _ _).alloc (Nat.le_refl _) _
  have HC0 := Lib.hid (known_cells w)
  go_enter Tryd.func6, Tryd.ntmps6
  go_wp2
  go_loopw [2] (fun i wr => ∃ k : Nat, k ≤ 15 ∧ i = .int .i64 ((k * 2 : Nat)) ∧ Hid (∀ k p, known[k]? = some p → wr.cell? ⟨w.heap.size, k * 2, none⟩ = some (.string ⟨p.1.toArray⟩) ∧ wr.cell? ⟨w.heap.size, k * 2 + 1, none⟩ = some (.string ⟨p.2.toArray⟩)) ∧ Below w.heap.size w wr) (fun i _ => 30 - (RowKit.intOf i).toNat)
  case atStart => exact ⟨0, by omega, rfl, HC0, hb0⟩
  case round =>
    clear hb0 HC0
    obtain ⟨k, hk, rfl, HC, hb⟩ := hrel
    by_cases hlt : k < 15
    · obtain ⟨p, hp⟩ := some_at (l := known) (n := 15) rfl hlt
      obtain ⟨c0, c1⟩ := HC.out k p hp
      have hm := List.mem_of_getElem? hp
      have hkt := known_told hm
      obtain ⟨gc, w2, cv, hb2, dT⟩ := HM.out ⟨p.1.toArray⟩ _ rfl (by omega) _ hb
      rw [hkt.1] at dT
      have HB2 := Lib.hid (hb.trans (hb2.mono hb.size))
      have c1' : w2.cell? ⟨w.heap.size, k * 2 + 1, none⟩ = some (.string ⟨p.2.toArray⟩) := by rw [hb2.cell (World.block_lt_of_cell? _ _ c1)]; exact c1
      have HC2 : Hid (∀ k p, known[k]? = some p → w2.cell? ⟨w.heap.size, k * 2, none⟩ = some (.string ⟨p.1.toArray⟩) ∧ w2.cell? ⟨w.heap.size, k * 2 + 1, none⟩ = some (.string ⟨p.2.toArray⟩)) := Lib.hid (fun k p h => by
        obtain ⟨e0, e1⟩ := HC.out k p h
        exact ⟨by rw [hb2.cell (World.block_lt_of_cell? _ _ e0)]; exact e0, by rw [hb2.cell (World.block_lt_of_cell? _ _ e1)]; exact e1⟩)
      generalize (⟨p.1.toArray⟩ : ByteArray) = s1 at *
      generalize (⟨p.2.toArray⟩ : ByteArray) = s2 at *
      clear hp hm hkt hb2 hb HC
      go_wp2_with (go_at_call 8; refine dT.mono ?_; rintro e w3 ⟨rfl, hb3⟩; clear dT cv; have c3 : w3.cell? ⟨w.heap.size, k * 2 + 1, none⟩ = some (.string s2) := by (rw [hb3.cell (World.block_lt_of_cell? _ _ c1')]; exact c1'))
      have HB3 := Lib.hid (HB2.out.trans (hb3.mono HB2.out.size))
      have HC3 : Hid (∀ k p, known[k]? = some p → w3.cell? ⟨w.heap.size, k * 2, none⟩ = some (.string ⟨p.1.toArray⟩) ∧ w3.cell? ⟨w.heap.size, k * 2 + 1, none⟩ = some (.string ⟨p.2.toArray⟩)) := Lib.hid (fun k p h => by
        obtain ⟨e0, e1⟩ := HC2.out k p h
        exact ⟨by rw [hb3.cell (World.block_lt_of_cell? _ _ e0)]; exact e0, by rw [hb3.cell (World.block_lt_of_cell? _ _ e1)]; exact e1⟩)
      exact ⟨⟨k + 1, by omega, by go_num, HC3, HB3.out⟩, by simp [RowKit.intOf]; omega⟩
    · obtain rfl : k = 15 := by omega
      clear HC HM
      go_wp2
      generalize Value.int IntKind.i64 ((15 * 2 : Nat) : Int) = v2
      go_loopw [5] (fun i wr => ∃ k : Nat, k ≤ 256 ∧ i = .int .i64 k ∧ Below w.heap.size w wr) (fun i _ => 256 - (RowKit.intOf i).toNat)
      case atStart => exact ⟨0, by omega, rfl, hb⟩
      case round =>
        clear hb hlt hk
        obtain ⟨x, hx, rfl, hb⟩ := hrel
        by_cases hlt : x < 256
        · have hxI : (x : Int) < 256 := by omega
          obtain ⟨wo, rfl⟩ : ∃ wo : World, wo = wr := ⟨_, rfl⟩
          go_wp2
          go_loopw [6] (fun i wr => ∃ k : Nat, k ≤ 260 ∧ i = .int .i64 k ∧ Below w.heap.size w wr) (fun i _ => 260 - (RowKit.intOf i).toNat)
          case atStart => exact ⟨0, by omega, rfl, hb⟩
          case round =>
            clear hb
            obtain ⟨y, hy, rfl, hb⟩ := hrel
            by_cases hlt2 : y < 256
            · have hyI : (y : Int) < 256 := by omega
              have hy5 : BytesAt (wr.alloc (.cells #[.int .u8 (x : Int), .int .u8 (y : Int), .int .u8 128, .int .u8 191, .int .u8 120] 5)) (some ⟨wr.heap.size, 0, none⟩) 5 5 ⟨([x, y, 128, 191, 120].map Nat.toUInt8).toArray⟩ := bytes_laid wr [x, y, 128, 191, 120] 5 (fun z hz => by simp at hz; omega) rfl
              have hd5 := Lib.hid (HD.out _ _ _ (hb.alloc hb.size _) hy5)
              have hc3 : ∀ w2 : World, (convert 22 9 (.slice (some ⟨w2.heap.size, 0, none⟩) 3 3)).run Tryd.prog (w2.alloc (.cells #[.int .u8 (x : Int), .int .u8 (y : Int), .int .u8 128] 5)) = .ok (.string ⟨([x, y, 128].map Nat.toUInt8).toArray⟩) (w2.alloc (.cells #[.int .u8 (x : Int), .int .u8 (y : Int), .int .u8 128] 5)) := fun w2 => (bytes_laid w2 [x, y, 128] 3 (fun z hz => by simp at hz; omega) rfl).conv
              generalize (⟨([x, y, 128].map Nat.toUInt8).toArray⟩ : ByteArray) = s3 at *
              clear hy5
              go_wp2_with (first
                | (go_at_call 3; refine hd5.out.mono ?_; rintro e w2 ⟨rfl, hb2⟩; have hb2a := hb2.alloc hb2.size (.cells #[.int .u8 (x : Int), .int .u8 (y : Int), .int .u8 128] 5))
                | (go_at_call 13; refine (HRn.out _ s3 hb2a).mono ?_; rintro e w3 ⟨rfl, hb3⟩))
              exact ⟨⟨y + 5, by omega, by go_num, hb3⟩, by simp [RowKit.intOf]; omega⟩
            · go_wp2
              exact ⟨⟨x + 1, by omega, by go_num, hb⟩, by simp [RowKit.intOf]; omega⟩
        · have hz1 := fun w1 : World => zeroWorld_run w1 65536 (by omega)
          have hz2 := fun w1 : World => zeroWorld_run w1 65537 (by omega)
          have HZ1 := Lib.hid (hb.trans ((zeroWorld_below wr 65536).mono hb.size))
          have hd1 := decode_told (zeroWorld_bytes wr 65536) (HT.out.on HZ1.out)
          have he1 := decErr_zeros 65536 (by omega)
          rw [he1] at hd1
          have hd2 : ∀ w1 : World, _ := fun w1 => decode_over (some ⟨w1.heap.size, 0, none⟩) 65537 65537 (zeroWorld w1 65537) (by omega)
          have HD1 := Lib.hid hd1
          have HD2 := Lib.hid hd2
          clear hd1 hd2 he1
          generalize decText _ = t1 at *
          have HB := Lib.hid hb
          clear hb
          have hz1' : ∀ w1 : World, (Instr.makeSlice 22 (.int .i64 65536) (.int .i64 65536)).run Tryd.prog w1 = .ok (.slice (some ⟨w1.heap.size, 0, none⟩) 65536 65536) (zeroWorld w1 65536) := hz1
          have hz2' : ∀ w1 : World, (Instr.makeSlice 22 (.int .i64 65537) (.int .i64 65537)).run Tryd.prog w1 = .ok (.slice (some ⟨w1.heap.size, 0, none⟩) 65537 65537) (zeroWorld w1 65537) := hz2
          clear hz1 hz2
          go_wp2_with (first
            | (go_at_call 8; refine HD1.out.mono ?_; rintro e w2 ⟨rfl, hb2⟩; clear HD1; have HB2 := Lib.hid (HZ1.out.trans (hb2.mono HZ1.out.size)); clear hb2)
            | (go_at_call 8; refine (HD2.out _).mono ?_; rintro e w3 ⟨rfl, rfl⟩; have HB3 := Lib.hid (HB2.out.trans ((zeroWorld_below w2 65537).mono HB2.out.size)))
            | (go_at_call 14; refine (HSt.out _ HB3.out).mono ?_; rintro e w4 ⟨rfl, hb4⟩; have HB4 := Lib.hid hb4; clear hb4)
            | (go_at_call 7; refine (HW.out _ HB4.out).mono ?_; rintro e w' ⟨rfl, hb5⟩))
          go_ret
          exact ⟨rfl, hb5⟩
end Go.Proofs.YtcafejjejcchlaaDoor
