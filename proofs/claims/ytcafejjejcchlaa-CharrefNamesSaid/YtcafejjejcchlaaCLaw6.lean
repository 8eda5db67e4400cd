/-
  The closed law, walked: it hands back true. No conditions.
-/
import Derived.Test.YtcafejjejcchlaaCLaw5
import Derived.Test.YtcafejjejcchlaaCLaw2
namespace Go.CharrefKit
open Go Go.Lib
def known : List (List UInt8 × List UInt8) := [([38, 97, 109, 112, 59, 108, 116, 59, 32, 38, 108, 116, 32, 38, 110, 111, 116, 105, 110, 59, 32, 38, 110, 111, 116, 105, 110, 32, 38, 110, 111, 116, 105], [38, 108, 116, 59, 32, 60, 32, 226, 136, 137, 32, 194, 172, 105, 110, 32, 194, 172, 105]),
  ([38, 99, 111, 112, 121, 61, 49, 32, 38, 99, 111, 112, 121, 59, 61, 49, 32, 38, 99, 111, 112, 121, 120], [194, 169, 61, 49, 32, 194, 169, 61, 49, 32, 194, 169, 120]),
  ([38, 35, 54, 53, 59, 32, 38, 35, 120, 52, 49, 59, 32, 38, 35, 88, 52, 49, 32, 38, 35, 54, 53, 120, 32, 38, 35, 59, 32, 38, 35, 120, 59, 32, 38, 35], [65, 32, 65, 32, 65, 32, 65, 120, 32, 38, 35, 59, 32, 38, 35, 120, 59, 32, 38, 35]),
  ([38, 35, 48, 59, 32, 38, 35, 120, 68, 56, 48, 48, 59, 32, 38, 35, 49, 49, 49, 52, 49, 49, 50, 59, 32, 38, 35, 49, 50, 56, 59, 32, 38, 35, 49, 50, 57, 59], [239, 191, 189, 32, 239, 191, 189, 32, 239, 191, 189, 32, 226, 130, 172, 32, 194, 129]),
  ([38, 117, 110, 107, 110, 111, 119, 110, 59, 32, 38, 32, 38, 59, 32, 38, 65, 77, 80, 32, 38, 65, 109, 112, 59], [38, 117, 110, 107, 110, 111, 119, 110, 59, 32, 38, 32, 38, 59, 32, 38, 32, 38, 65, 109, 112, 59]),
  ([38, 35, 57, 57, 57, 57, 57, 57, 57, 57, 57, 57, 57, 57, 57, 57, 57, 57, 57, 57, 57, 57, 57, 57, 57, 59, 38, 35, 120, 48, 48, 48, 48, 48, 48, 48, 48, 48, 48, 48, 48, 48, 48, 52, 49, 59, 38, 35, 49, 51, 59], [239, 191, 189, 65, 13]),
  ([38, 38, 97, 109, 112, 59, 38], [38, 38, 38]),
  ([], [])]
def knownCells : List (List UInt8 × List UInt8) → List Value
  | [] => []
  | (a, b) :: r => .string ⟨a.toArray⟩ :: .string ⟨b.toArray⟩ :: knownCells r
theorem knownCells_at : ∀ {l : List (List UInt8 × List UInt8)} {k : Nat} {p : List UInt8 × List UInt8}, l[k]? = some p → (knownCells l)[k * 2]? = some (.string ⟨p.1.toArray⟩) ∧ (knownCells l)[k * 2 + 1]? = some (.string ⟨p.2.toArray⟩)
  | [], _, _, h => by simp at h
  | x :: r, 0, p, h => by
    simp only [List.getElem?_cons_zero, Option.some.injEq] at h; subst h; exact ⟨rfl, rfl⟩
  | x :: r, k + 1, p, h => by
    have := knownCells_at (l := r) (k := k) (p := p) (by simpa using h)
    rw [show (k + 1) * 2 = k * 2 + 1 + 1 from by omega]
    simpa [knownCells] using this
theorem known_table : (known.all fun p => (decodeL false p.1 == p.2) && decide (p.1.length ≤ 100)) = true := by kernel_rfl
theorem alone_table : (tab.all fun e => (decodeL false (38 :: bytesOf e.1) == encodeRune ((e.2.1 : Nat) : Int)) == e.2.2) = true := by kernel_rfl
theorem last_text : decodeL true [38, 110, 111, 116, 105, 110, 32, 38, 110, 111, 116, 105] = [38, 110, 111, 116, 105, 110, 32, 38, 110, 111, 116, 105] := by kernel_rfl
end Go.CharrefKit
namespace Go.Proofs.Ytcafejjejcchlaa
open Go.RowKit Go.RunKit Go.CharrefKit Go.Lib

theorem known_cells (w : World) (k : Nat) (p : List UInt8 × List UInt8) (h : known[k]? = some p) :
    (w.alloc (.cells (knownCells known).toArray 9)).cell? ⟨w.heap.size, k * 2, none⟩ = some (.string ⟨p.1.toArray⟩) ∧ (w.alloc (.cells (knownCells known).toArray 9)).cell? ⟨w.heap.size, k * 2 + 1, none⟩ = some (.string ⟨p.2.toArray⟩) := by
  have := knownCells_at h
  rw [World.cell?_alloc_at _ _ _ _ rfl, World.cell?_alloc_at _ _ _ _ rfl]
  exact ⟨by simpa using this.1, by simpa using this.2⟩
/-- The pairs in a block. -/
def PairsIn (g : Nat) (w : World) : Prop := ∀ k p, known[k]? = some p → w.cell? ⟨g, k * 2, none⟩ = some (.string ⟨p.1.toArray⟩) ∧ w.cell? ⟨g, k * 2 + 1, none⟩ = some (.string ⟨p.2.toArray⟩)
theorem PairsIn.on {g : Nat} {w w' : World} (h : PairsIn g w) (hb : Below w.heap.size w w') : PairsIn g w' := fun k p hk => by
  obtain ⟨a, b⟩ := h k p hk
  exact ⟨by rw [hb.cell (World.block_lt_of_cell? _ _ a)]; exact a, by rw [hb.cell (World.block_lt_of_cell? _ _ b)]; exact b⟩
/-- The names in a block. -/
def TabIn (g : Nat) (w : World) : Prop := ∀ k e, tab[k]? = some e → w.cell? ⟨g, k * 3, none⟩ = some (.string (strOf e.1)) ∧ w.cell? ⟨g, k * 3 + 1, none⟩ = some (.int .i32 ((e.2.1 : Nat) : Int)) ∧ w.cell? ⟨g, k * 3 + 2, none⟩ = some (.bool e.2.2)
theorem TabIn.on {g : Nat} {w w' : World} (h : TabIn g w) (hb : Below w.heap.size w w') : TabIn g w' := fun k p hk => by
  obtain ⟨a, b, c⟩ := h k p hk
  exact ⟨by rw [hb.cell (World.block_lt_of_cell? _ _ a)]; exact a, by rw [hb.cell (World.block_lt_of_cell? _ _ b)]; exact b, by rw [hb.cell (World.block_lt_of_cell? _ _ c)]; exact c⟩

def rests : List ByteArray := [⟨#[]⟩, ⟨#[59]⟩, ⟨#[61]⟩, ⟨#[120]⟩, ⟨#[32]⟩, ⟨#[59, 59]⟩, ⟨#[38]⟩]
theorem rests_len : rests.length = 7 := rfl
theorem rests_small : ∀ x ∈ rests, x.size ≤ 2 := by
  intro x hx
  simp only [rests, List.mem_cons, List.not_mem_nil, or_false] at hx
  rcases hx with rfl | rfl | rfl | rfl | rfl | rfl | rfl <;> decide
def RestsIn (g : Nat) (w : World) : Prop := ∀ j x, rests[j]? = some x → w.cell? ⟨g, j, none⟩ = some (.string x)
theorem RestsIn.on {g : Nat} {w w' : World} (h : RestsIn g w) (hb : Below w.heap.size w w') : RestsIn g w' := fun k p hk => by
  have a := h k p hk
  rw [hb.cell (World.block_lt_of_cell? _ _ a)]; exact a
theorem rests_laid (w : World) : RestsIn w.heap.size (w.alloc (.cells #[.string ⟨#[]⟩, .string ⟨#[59]⟩, .string ⟨#[61]⟩, .string ⟨#[120]⟩, .string ⟨#[32]⟩, .string ⟨#[59, 59]⟩, .string ⟨#[38]⟩] 9)) := fun j x hx => by
  rw [World.cell?_alloc_at _ _ _ _ rfl]
  show ((rests.map Value.string).toArray)[j]? = _
  rw [List.getElem?_toArray, List.getElem?_map, hx]; rfl
theorem named_text {e : Entry} (he : e ∈ tab) (w : World) : Calls Try.prog 14 #[.string (⟨#[38]⟩ ++ strOf e.1 ++ ⟨#[59]⟩), .bool true] w fun x w' => x = .returned (.string ⟨(encodeRune ((e.2.1 : Nat) : Int)).toArray⟩) ∧ Below w.heap.size w w' := by
  have hb : bl (⟨#[38]⟩ ++ strOf e.1 ++ ⟨#[59]⟩) = [] ++ 38 :: (bytesOf e.1 ++ 59 :: []) := by
    rw [bl_append, bl_append]
    have e1 : bl (strOf e.1) = bytesOf e.1 := by simp [bl, strOf, bytesOf]
    rw [e1]; rfl
  refine decode_text ?_ ?_ w
  · have h1 := (name_here (s := ⟨#[38]⟩) (r := []) rfl he).2.2
    have h2 := (tab_fact he).2.2
    simp only [ByteArray.size_append]
    show 1 + (strOf e.1).size + 1 ≤ _
    omega
  · rw [hb, decode_named he [] [] (fun c hc => by cases hc), decodeL_nil]; simp
theorem bare_text {e : Entry} (he : e ∈ tab) : ∃ D : ByteArray, (∀ w, Calls Try.prog 14 #[.string (⟨#[38]⟩ ++ strOf e.1), .bool false] w fun x w' => x = .returned (.string D) ∧ Below w.heap.size w w') ∧ (D.toList == (⟨(encodeRune ((e.2.1 : Nat) : Int)).toArray⟩ : ByteArray).toList) = e.2.2 := by
  have hb : bl (⟨#[38]⟩ ++ strOf e.1) = 38 :: bytesOf e.1 := by
    rw [bl_append]
    have e1 : bl (strOf e.1) = bytesOf e.1 := by simp [bl, strOf, bytesOf]
    rw [e1]; rfl
  refine ⟨⟨(decodeL false (38 :: bytesOf e.1)).toArray⟩, fun w => decode_text ?_ (by rw [hb]) w, ?_⟩
  · have h1 := (name_here (s := ⟨#[38]⟩) (r := []) rfl he).2.2
    have h2 := (tab_fact he).2.2
    simp only [ByteArray.size_append]
    show 1 + (strOf e.1).size ≤ _
    omega
  · have := List.all_eq_true.1 alone_table e he
    rw [ByteArray.toList_eq, ByteArray.toList_eq]
    simpa using this

set_option maxRecDepth 100000 in
set_option maxHeartbeats 8000000 in
theorem lawKnown (w : World) : Calls Try.prog 9 #[] w fun e w' => e = .returned (.bool true) ∧ Below w.heap.size w w' := by
  have HW : Hid (∀ w1, Below w.heap.size w w1 → Calls Try.prog 10 #[] w1 fun e w' => e = .returned (.bool true) ∧ Below w.heap.size w w') := Lib.hid (fun w1 hb => from_base hb (works_any w1))
  have hb0 : Below w.heap.size w (w.alloc (.cells (knownCells known).toArray 9)) := (Below.refl _ _).alloc (Nat.le_refl _) _
  have HC0 : Hid (PairsIn w.heap.size (w.alloc (.cells (knownCells known).toArray 9))) := Lib.hid (known_cells w)
  go_enter Try.func9, Try.ntmps9
  go_wp2
  go_loopw [2] (fun i wr => ∃ k : Nat, k ≤ 8 ∧ i = .int .i64 ((k * 2 : Nat)) ∧ Hid (PairsIn w.heap.size wr) ∧ Below w.heap.size w wr) (fun i _ => 16 - (RowKit.intOf i).toNat)
  case atStart => exact ⟨0, by omega, rfl, HC0, hb0⟩
  case round =>
    clear hb0 HC0
    obtain ⟨k, hk, rfl, HC, hb⟩ := hrel
    by_cases hlt : k < 8
    · obtain ⟨p, hp⟩ := some_at (l := known) (n := 8) rfl hlt
      obtain ⟨c0, c1⟩ := HC.out k p hp
      have hm := List.all_eq_true.1 known_table p (List.mem_of_getElem? hp)
      simp only [Bool.and_eq_true, beq_iff_eq, decide_eq_true_eq] at hm
      have hdec := fun w => decode_text (attr := false) (s := ⟨p.1.toArray⟩) (l := p.2) (by show p.1.toArray.size ≤ _; simp; omega) (by rw [bl_of p.1]; exact hm.1) w
      generalize (⟨p.1.toArray⟩ : ByteArray) = s1 at *
      generalize (⟨p.2.toArray⟩ : ByteArray) = s2 at *
      have d0 : ∀ q : Over wr, q.out.cell? ⟨w.heap.size, k * 2, none⟩ = some (.string s1) := fun q => q.cell c0
      have d1 : ∀ q : Over wr, q.out.cell? ⟨w.heap.size, k * 2 + 1, none⟩ = some (.string s2) := fun q => q.cell c1
      have HDc := Lib.hid hdec
      have hkI : (k : Int) * 2 < 16 := by omega
      have hkI2 : (k : Int) * 2 + 1 < 16 := by omega
      clear hp hm hdec c0 c1
      go_wp2
      refine wp_region_below (by kernel_rfl) (by kernel_rfl) ?_
      repeat (go_big_quiet_step (first | (go_at_call 14; exact calls_over (HDc.out _))))
      refine wpQuiet_nil ?_
      intro _ hw'
      obtain ⟨q, hw''⟩ := hw'
      subst hw''
      go_wp2
      exact ⟨⟨k + 1, by omega, by go_num, Lib.hid (HC.out.on q.below), hb.trans (q.below.mono hb.size)⟩, by simp [RowKit.intOf]; omega⟩
    · obtain rfl : k = 8 := by omega
      clear HC
      have HB := Lib.hid hb
      clear hb
      go_wp2_with (go_at_call 11; refine (calls_of_run (refNames_run _)).mono ?_; rintro e w' ⟨rfl, rfl⟩)
      have hb1 : Below w.heap.size w (wr.alloc (.cells (nameCells tab).toArray 26)) := HB.out.alloc HB.out.size _
      have HT : Hid (TabIn wr.heap.size (wr.alloc (.cells (nameCells tab).toArray 26))) := Lib.hid (refNames_block wr)
      generalize wr.alloc (.cells (nameCells tab).toArray 26) = W at *
      generalize wr.heap.size = gn at *
      generalize Value.int IntKind.i64 ((8 * 2 : Nat) : Int) = v2
      clear HB
      go_loopw [4] (fun i wr => ∃ k : Nat, k ≤ 59 ∧ i = .int .i64 k ∧ Hid (TabIn gn wr) ∧ Below w.heap.size w wr) (fun i _ => 59 - (RowKit.intOf i).toNat)
      case atStart => exact ⟨0, by omega, rfl, HT, hb1⟩
      case round =>
        clear hb1 HT
        obtain ⟨k, hk, rfl, HT, hb⟩ := hrel
        by_cases hlt : k < 59
        · obtain ⟨e, he⟩ := some_at tab_len hlt
          have hem := List.mem_of_getElem? he
          obtain ⟨c0, c1, c2⟩ := HT.out k e he
          have hns : (strOf e.1).size ≤ 6 := by
            have h1 := (name_here (s := ⟨#[38]⟩) (r := []) rfl hem).2.2
            have h2 := (tab_fact hem).2.2
            omega
          have N1 := Lib.hid (fun w => named_text hem w)
          obtain ⟨D, hD, hDb⟩ := bare_text hem
          have N2 := Lib.hid hD
          have hch : e.2.1 ≤ 1114111 := by simpa using List.all_eq_true.1 tab_le e hem
          have HWant := Lib.hid (fun w => want_one ((e.2.1 : Nat) : Int) (by omega) w)
          have HE := Lib.hid he
          have HEN : Hid (∀ W : World, TabIn gn W → W.cell? ⟨gn, k * 3, none⟩ = some (.string (strOf e.1)) ∧ W.cell? ⟨gn, k * 3 + 1, none⟩ = some (.int .i32 ((e.2.1 : Nat) : Int)) ∧ W.cell? ⟨gn, k * 3 + 2, none⟩ = some (.bool e.2.2)) := Lib.hid (fun W h => h k e he)
          have HDB := Lib.hid hDb
          clear he hem hD hDb c1 c2 HE
          generalize (⟨(encodeRune ((e.2.1 : Nat) : Int)).toArray⟩ : ByteArray) = want at *
          generalize strOf e.1 = nm at *
          generalize e.2.1 = ch at *
          generalize e.2.2 = bare at *
          have hkI : (k : Int) < 59 := by omega
          have hb3 := hb.alloc hb.size (.cells #[.string ⟨#[]⟩, .string ⟨#[59]⟩, .string ⟨#[61]⟩, .string ⟨#[120]⟩, .string ⟨#[32]⟩, .string ⟨#[59, 59]⟩, .string ⟨#[38]⟩] 9)
          have HT3 := Lib.hid (HT.out.on ((Below.refl _ _).alloc (Nat.le_refl _) (.cells #[.string ⟨#[]⟩, .string ⟨#[59]⟩, .string ⟨#[61]⟩, .string ⟨#[120]⟩, .string ⟨#[32]⟩, .string ⟨#[59, 59]⟩, .string ⟨#[38]⟩] 9)))
          have HR3 := Lib.hid (rests_laid wr)
          clear hb HT
          go_wp2
          generalize wr.heap.size = g3 at *
          go_loopw [43] (fun i wr => ∃ j : Nat, j ≤ 7 ∧ i = .int .i64 j ∧ Hid (TabIn gn wr) ∧ Hid (RestsIn g3 wr) ∧ Below w.heap.size w wr) (fun i _ => 7 - (RowKit.intOf i).toNat)
          case atStart => exact ⟨0, by omega, rfl, HT3, HR3, hb3⟩
          case round =>
            clear hb3 HT3 HR3 c0
            obtain ⟨j, hj, rfl, HT, HR, hb⟩ := hrel
            by_cases hlt2 : j < 7
            · obtain ⟨x, hx⟩ := some_at rests_len hlt2
              have cx := HR.out j x hx
              have hxs := rests_small x (List.mem_of_getElem? hx)
              have hjI : (j : Int) < 7 := by omega
              have HB := Lib.hid hb
              have HF := Lib.hid (fun (attr : Bool) (w : World) => lawFinds (⟨#[38]⟩ ++ nm ++ x) k (by omega) x attr w)
              clear hx hb
              go_wp2_with (first
                | (go_at_call_of 3 (Value.bool true); refine (HF.out true _).mono ?_; rintro e w1 ⟨rfl, hb1⟩; have HB1 := Lib.hid hb1; clear hb1)
                | (go_at_call_of 3 (Value.bool false); refine (HF.out false _).mono ?_; rintro e w2 ⟨rfl, hb2⟩; have HB2 := Lib.hid (HB1.out.trans (hb2.mono HB1.out.size)); clear hb2))
              exact ⟨⟨j + 1, by omega, by go_num, Lib.hid (HT.out.on HB2.out), Lib.hid (HR.out.on HB2.out), HB.out.trans (HB2.out.mono HB.out.size)⟩, by simp [RowKit.intOf]; omega⟩
            · obtain rfl : j = 7 := by omega
              obtain ⟨c0, c1, c2⟩ := HEN.out _ HT.out
              have HB := Lib.hid hb
              clear hb HR c0 c2
              go_wp2_with (go_at_call 16; refine (HWant.out _).mono ?_; rintro e w4 ⟨rfl, hb4⟩; have HB4 := Lib.hid hb4; clear hb4)
              have HT4 := Lib.hid (HT.out.on HB4.out)
              have d0 : ∀ q : Over w4, q.out.cell? ⟨gn, k * 3, none⟩ = some (.string nm) := fun q => q.cell (HEN.out _ HT4.out).1
              have d2 : ∀ q : Over w4, q.out.cell? ⟨gn, k * 3 + 2, none⟩ = some (.bool bare) := fun q => q.cell (HEN.out _ HT4.out).2.2
              have hdb := HDB.out
              have HB5 := Lib.hid (HB.out.trans (HB4.out.mono HB.out.size))
              clear c1 HT HB HB4 HDB HWant HEN
              cases bare
              all_goals
                refine wp_region_below (by kernel_rfl) (by kernel_rfl) ?_
                repeat (go_big_quiet_step (first | (go_at_call_of 14 (Value.bool true); exact calls_over (N1.out _)) | (go_at_call_of 14 (Value.bool false); exact calls_over (N2.out _))))
                refine wpQuiet_nil ?_
                intro _ hw'
                obtain ⟨q, hw''⟩ := hw'
                subst hw''
                go_wp2
                exact ⟨⟨k + 1, by omega, by go_num, Lib.hid (HT4.out.on q.below), HB5.out.trans (q.below.mono HB5.out.size)⟩, by simp [RowKit.intOf]; omega⟩
        · obtain rfl : k = 59 := by omega
          have HB := Lib.hid hb
          have hb2 := hb
          clear hb HT
          go_wp2
          clear HB
          generalize Value.int IntKind.i64 ((59 : Nat) : Int) = v3
          go_loopw [9] (fun i wr => ∃ k : Nat, (112 ≤ k ∧ k ≤ 176) ∧ i = .int .i32 k ∧ Below w.heap.size w wr) (fun i _ => 176 - (RowKit.intOf i).toNat)
          case atStart => exact ⟨112, by omega, rfl, hb2⟩
          case round =>
            clear hb2
            obtain ⟨r, hr, rfl, hb⟩ := hrel
            have HB := Lib.hid hb
            clear hb
            by_cases hlt : r < 176
            · have hrI : (r : Int) < 176 := by omega
              have D10 := Lib.hid (fun w => digits_10 r 0 (by omega) (by omega) w)
              go_wp2_with (first
                | (go_at_call 17; refine (D10.out _).mono ?_; rintro e w2 ⟨t, rfl, hD1, rfl⟩; clear D10; have hts := hD1.2; clear hD1)
                | (go_at_call 4; refine (lawDecodes _ false _).mono ?_; rintro e w3 ⟨rfl, hb3⟩; have HB3 := Lib.hid (HB.out.trans (hb3.mono HB.out.size)); clear hb3))
              exact ⟨⟨r + 1, by omega, by go_num, HB3.out⟩, by simp [RowKit.intOf]; omega⟩
            · obtain rfl : r = 176 := by omega
              have HL := Lib.hid (fun w => decode_text (attr := true) (s := ⟨#[38, 110, 111, 116, 105, 110, 32, 38, 110, 111, 116, 105]⟩) (l := [38, 110, 111, 116, 105, 110, 32, 38, 110, 111, 116, 105]) (by decide) last_text w)
              go_wp2_with (first
                | (go_at_call 14; refine (HL.out _).mono ?_; rintro e w3 ⟨rfl, hb3⟩; have HB3 := Lib.hid (HB.out.trans (hb3.mono HB.out.size)); clear hb3)
                | (go_at_call 10; refine (HW.out _ HB3.out).mono ?_; rintro e w' ⟨rfl, hb⟩))
              go_ret
              exact ⟨rfl, hb⟩
end Go.Proofs.Ytcafejjejcchlaa
