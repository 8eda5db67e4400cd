/-
  The law on Find. No conditions.
-/
import Derived.Test.YtcafejjejcchlaaCLaw1
namespace Go.Proofs.Ytcafejjejcchlaa
open Go.RowKit Go.RunKit Go.CharrefKit Go.Lib

set_option maxRecDepth 100000 in
set_option maxHeartbeats 2000000 in
theorem lawFinds (s : ByteArray) (q : Nat) (hq : q < 256) (rest : ByteArray) (attr : Bool) (w : World) : Calls Try.prog 3 #[.string s, .int .u8 (q : Nat), .string rest, .bool attr] w fun e w' => e = .returned (.bool true) ∧ Below w.heap.size w w' := by
  have HW : Hid (∀ w1, Below w.heap.size w w1 → Calls Try.prog 10 #[] w1 fun e w' => e = .returned (.bool true) ∧ Below w.heap.size w w') := Lib.hid (fun w1 hb => from_base hb (works_any w1))
  by_cases hbig : 5000 < s.size
  · have hI : (5000 : Int) < s.size := by omega
    go_enter Try.func3, Try.ntmps3
    go_wp2_with (go_at_call 10; refine (HW.out _ (Below.refl _ _)).mono ?_; rintro e w' ⟨rfl, hb⟩)
    go_ret
    exact ⟨rfl, hb⟩
  have hI := eq_false (show ¬ (5000 : Int) < s.size by omega)
  by_cases hbig2 : 5000 < rest.size
  · have hI2 : (5000 : Int) < rest.size := by omega
    go_enter Try.func3, Try.ntmps3
    go_wp2_with (go_at_call 10; refine (HW.out _ (Below.refl _ _)).mono ?_; rintro e w' ⟨rfl, hb⟩)
    go_ret
    exact ⟨rfl, hb⟩
  have hI2 := eq_false (show ¬ (5000 : Int) < rest.size by omega)
  obtain ⟨e, he⟩ := some_at tab_len (show q % 59 < 59 by omega)
  have hns : (strOf e.1).size ≤ 6 := by
    have h1 := (tab_fact (List.mem_of_getElem? he)).2.2
    have h2 := natsOf_length (strOf e.1)
    rw [natsOf_strOf (tab_small (List.mem_of_getElem? he))] at h2
    omega
  have hc0 := (refNames_block w (q % 59) e he).1
  have HN := Lib.hid (refNames_run w)
  have hb1 : Below w.heap.size w (w.alloc (.cells (nameCells tab).toArray 26)) := (Below.refl _ _).alloc (Nat.le_refl _) _
  generalize w.alloc (.cells (nameCells tab).toArray 26) = W at *
  clear he
  generalize strOf e.1 = nm at *
  go_enter Try.func3, Try.ntmps3
  go_wp2_with (go_at_call 11; refine (calls_of_run HN.out).mono ?_; rintro e w' ⟨rfl, rfl⟩)
  have hb2 : Below w.heap.size w (w'.alloc (.cells #[.string s, .string (⟨#[38]⟩ ++ nm ++ rest), .string (⟨#[38, 35]⟩ ++ rest), .string (⟨#[38, 35, 120]⟩ ++ rest)] 9)) := hb1.alloc hb1.size _
  have HC0 : Hid (∀ j x, [s, ⟨#[38]⟩ ++ nm ++ rest, ⟨#[38, 35]⟩ ++ rest, ⟨#[38, 35, 120]⟩ ++ rest][j]? = some x → (w'.alloc (.cells #[.string s, .string (⟨#[38]⟩ ++ nm ++ rest), .string (⟨#[38, 35]⟩ ++ rest), .string (⟨#[38, 35, 120]⟩ ++ rest)] 9)).cell? ⟨w'.heap.size, j, none⟩ = some (.string x)) := Lib.hid (fun j x hx => by
    rw [World.cell?_alloc_at _ _ _ _ rfl]
    show ((([s, ⟨#[38]⟩ ++ nm ++ rest, ⟨#[38, 35]⟩ ++ rest, ⟨#[38, 35, 120]⟩ ++ rest] : List ByteArray).map Value.string).toArray)[j]? = _
    rw [List.getElem?_toArray, List.getElem?_map, hx]; rfl)
  have HZ : Hid (∀ x ∈ [s, ⟨#[38]⟩ ++ nm ++ rest, ⟨#[38, 35]⟩ ++ rest, ⟨#[38, 35, 120]⟩ ++ rest], x.size ≤ 1099511627776) := Lib.hid (fun x hx => by
    have e1 : (⟨#[38]⟩ : ByteArray).size = 1 := rfl
    have e2 : (⟨#[38, 35]⟩ : ByteArray).size = 2 := rfl
    have e3 : (⟨#[38, 35, 120]⟩ : ByteArray).size = 3 := rfl
    simp only [List.mem_cons, List.not_mem_nil, or_false] at hx
    rcases hx with rfl | rfl | rfl | rfl
    · omega
    · simp only [ByteArray.size_append]; omega
    · simp only [ByteArray.size_append]; omega
    · simp only [ByteArray.size_append]; omega)
  obtain ⟨L, hL⟩ : ∃ L, L = [s, ⟨#[38]⟩ ++ nm ++ rest, ⟨#[38, 35]⟩ ++ rest, ⟨#[38, 35, 120]⟩ ++ rest] := ⟨_, rfl⟩
  rw [← hL] at HC0 HZ
  have hLl : L.length = 4 := by rw [hL]; rfl
  have HLL := Lib.hid hLl
  clear hL hLl hb1 HN hc0
  generalize w'.heap.size = gn at *
  go_loopw [49] (fun i wr => ∃ k : Nat, k ≤ 4 ∧ i = .int .i64 k ∧ Below w.heap.size w wr ∧ Hid (∀ j x, L[j]? = some x → wr.cell? ⟨gn, j, none⟩ = some (.string x))) (fun i _ => 4 - (RowKit.intOf i).toNat)
  case atStart => exact ⟨0, by omega, rfl, hb2, HC0⟩
  case round =>
    clear hb2 HC0
    obtain ⟨k, hk, rfl, hb, HC⟩ := hrel
    by_cases hlt : k < 4
    · obtain ⟨x, hx⟩ := some_at HLL.out hlt
      have c := HC.out k x hx
      have hxs := HZ.out x (List.mem_of_getElem? hx)
      have h1 := fun w => find_any attr x hxs w
      have h2 := fun w => refFind_any attr x hxs w
      obtain ⟨z, hz⟩ : ∃ z, findL attr (natsOf x) = z := ⟨_, rfl⟩
      rw [hz] at h1 h2
      obtain ⟨zc, zn, zk⟩ := z
      unfold refV at h1 h2
      simp only at h1 h2
      have H1 := Lib.hid h1
      have H2 := Lib.hid h2
      have HB := Lib.hid hb
      have hkI : (k : Int) < 4 := by omega
      clear hx hz h1 h2 hb hxs
      go_wp2_with (first
        | (go_at_call 12; refine (H1.out _).mono ?_; rintro e w1 ⟨rfl, hb1⟩; have HB1 := Lib.hid hb1; clear hb1)
        | (go_at_call 13; refine (H2.out _).mono ?_; rintro e w2 ⟨rfl, hb2⟩; have HB2 := Lib.hid (HB1.out.trans (hb2.mono HB1.out.size)); clear hb2))
      exact ⟨⟨k + 1, by omega, by go_num, HB.out.trans (HB2.out.mono HB.out.size), Lib.hid (fun j y hy => by
        have := HC.out j y hy
        rw [HB2.out.cell (World.block_lt_of_cell? _ _ this)]; exact this)⟩, by simp [RowKit.intOf]; omega⟩
    · obtain rfl : k = 4 := by omega
      have HB := Lib.hid hb
      clear hb HC
      go_wp2_with (go_at_call 10; refine (HW.out _ HB.out).mono ?_; rintro e w' ⟨rfl, hb⟩)
      go_ret
      exact ⟨rfl, hb⟩
theorem lawFindsZ (s : ByteArray) (z : Int) (hz : (Lit.int .u8 z).wf = true) (rest : ByteArray) (attr : Bool) (w : World) : Calls Try.prog 3 #[.string s, .int .u8 z, .string rest, .bool attr] w fun e w' => e = .returned (.bool true) ∧ Below w.heap.size w w' := by
  have e1 : IntKind.u8.min = 0 := by kernel_rfl
  have e2 : IntKind.u8.max = 255 := by kernel_rfl
  simp [Lit.wf, e1, e2] at hz
  obtain ⟨n, rfl⟩ : ∃ n : Nat, z = n := ⟨z.toNat, by omega⟩
  exact lawFinds s n (by omega) rest attr w
end Go.Proofs.Ytcafejjejcchlaa
