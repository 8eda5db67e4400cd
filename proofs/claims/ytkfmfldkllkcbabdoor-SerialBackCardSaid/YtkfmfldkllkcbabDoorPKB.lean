/-
  The library's two tables, as utf8.ValidString asks for them, out of the row's condition. No conditions.
  What is escaped, decoded; names with their sign; two texts with a blank between. No conditions.
  SerialBack: what is escaped, its references read, is what it was. Conditions: the library's two tables hold what its text lays.
-/
import Derived.Test.YtkfmfldkllkcbabDoorRVal
import Derived.Lib.LaidTab
import Derived.OpenShut
import Derived.ChangeArms
import Derived.LaidMore
import Derived.ProofKit
import Derived.Test.YtkfmfldkllkcbabDoorCNameM
import Derived.Test.YtkfmfldkllkcbabDoorCTab
import Derived.Test.YtkfmfldkllkcbabDoorPKS
import Derived.Test.YtkfmfldkllkcbabDoorRWell
import Derived.Test.YtkfmfldkllkcbabDoorCDec
namespace Go.Proofs.YtkfmfldkllkcbabDoor
open Go.RowKit Go.RunKit Go.UtfKit Go.CharrefKit Go.Lib Go.TokenKit Go.TreeKit Go.ChangeShapes Go.WideShapes Go.ChangeAt

theorem vgFirst : Tryd.prog.globalNamed "unicode/utf8.first" = some 1 := by kernel_rfl
theorem vgAcc : Tryd.prog.globalNamed "unicode/utf8.acceptRanges" = some 2 := by kernel_rfl
theorem vtFirst : (Tryd.prog.globals[1]?).map (·.type) = some 103 := by kernel_rfl
theorem vtAcc : (Tryd.prog.globals[2]?).map (·.type) = some 106 := by kernel_rfl
theorem vuFirst : Tryd.prog.underlying 103 = some (.array 256 5) := by kernel_rfl
theorem vuAcc : Tryd.prog.underlying 106 = some (.array 16 105) := by kernel_rfl
theorem vuByte : Tryd.prog.underlying 5 = some (.int .u8) := by kernel_rfl
theorem vfirstData : (Rows.laid_unicode_utf8_first : DataW Unit) = tabData .u8 ((List.range 256).map fun b => (firstT b : Int)) := by kernel_rfl

theorem vpair_cells {H : Type} {enc : TypeId × Value → H} {w : World} {base : Nat} {sp : Nat → Bool} {held : Bool} {fuel : Nat} {cs : List Value} {lo hi : Int} {p : List MemPlace}
    (h : DataW.trod enc Tryd.prog w base sp held fuel 105 cs = some (.agg [.lit (.int .u8 lo), .lit (.int .u8 hi)], p)) : cs[0]? = some (.int .u8 lo) ∧ cs[1]? = some (.int .u8 hi) := by
  obtain ⟨xs, m, rfl, hx, hlen, hn, hel⟩ := DataW.trod_struct Tryd.underlying105 h
  have c1 : Tryd.prog.cellsOf 5 = 1 := by kernel_rfl
  simp only [Prod.mk.injEq, DataW.agg.injEq] at hx
  have h0 := hel 0 _ rfl
  have h1 := hel 1 _ rfl
  change DataW.trod _ _ _ _ _ _ m 5 ((cs.drop 0).take (Tryd.prog.cellsOf 5)) = _ at h0
  change DataW.trod _ _ _ _ _ _ m 5 ((cs.drop 1).take (Tryd.prog.cellsOf 5)) = _ at h1
  rw [c1] at h0 h1
  match xs, hn, hx, h0, h1 with
  | [x0, x1], _, hx, h0, h1 =>
    simp only [List.map_cons, List.map_nil, List.cons.injEq] at hx
    obtain ⟨a, e1, e2, _⟩ := DataW.trod_int vuByte (show DataW.trod _ Tryd.prog w _ _ _ m 5 _ = some x0 from h0)
    obtain ⟨b, e3, e4, _⟩ := DataW.trod_int vuByte (show DataW.trod _ Tryd.prog w _ _ _ m 5 _ = some x1 from h1)
    rw [e2, e4] at hx
    have ha : a = lo := by simpa using hx.1.1.symm
    have hb : b = hi := by simpa using hx.1.2.1.symm
    subst ha; subst hb
    have f0 := congrArg (·[0]?) e1
    have f1 := congrArg (·[0]?) e3
    simp at f0 f1
    exact ⟨f0, f1⟩

theorem vtabs_of {W : World} (h : laidMet Tryd.prog [("unicode/utf8.acceptRanges", Rows.laid_unicode_utf8_acceptRanges), ("unicode/utf8.first", Rows.laid_unicode_utf8_first)] W) : VTabs W := by
  obtain ⟨ps, ⟨g0, t0, cs0, f0, p0, q0, hg0, ht0, hv0, hd0, ⟨g1, t1, cs1, f1, p1, q1, hg1, ht1, hv1, hd1, _, _⟩, _⟩, _⟩ := h
  obtain rfl := Option.some.inj (vgAcc.symm.trans hg0)
  obtain rfl := Option.some.inj (vgFirst.symm.trans hg1)
  obtain rfl := Option.some.inj (vtAcc.symm.trans ht0)
  obtain rfl := Option.some.inj (vtFirst.symm.trans ht1)
  rw [vfirstData] at hd1
  have e1 := cells_of_tab vuFirst vuByte (by kernel_rfl) (by kernel_rfl) hd1
  obtain ⟨xs, m, rfl, hx, hlen, hn, hel⟩ := DataW.trod_array vuAcc hd0
  have c2 : Tryd.prog.cellsOf 105 = 2 := by kernel_rfl
  rw [c2] at hel
  simp only [Rows.laid_unicode_utf8_acceptRanges, Prod.mk.injEq, DataW.agg.injEq] at hx
  have hk : ∀ i (lo hi : Int), i < 16 → (xs.map (·.1))[i]? = some (.agg [.lit (.int .u8 lo), .lit (.int .u8 hi)]) → cs0[i * 2]? = some (.int .u8 lo) ∧ cs0[i * 2 + 1]? = some (.int .u8 hi) := by
    intro i lo hi hi16 hd
    have h := hel i hi16
    cases hxi : xs[i]? with
    | none => rw [List.getElem?_map, hxi] at hd; cases hd
    | some x =>
      obtain ⟨x1, x2⟩ := x
      rw [List.getElem?_map, hxi] at hd
      simp only [Option.map_some, Option.some.injEq] at hd
      subst hd
      rw [hxi] at h
      have hp := vpair_cells h
      obtain ⟨hp1, hp2⟩ := hp
      refine ⟨?_, ?_⟩
      · simpa [List.getElem?_take, List.getElem?_drop] using hp1
      · simpa [List.getElem?_take, List.getElem?_drop] using hp2
  rw [← hx.1] at hk
  have v0 := fun i => World.var?_cell hg0 hv0 i
  have v1 := fun i => World.var?_cell hg1 hv1 i
  refine ⟨fun b hb => ?_, fun i hi => ⟨?_, ?_⟩⟩
  · refine (v1 b).trans ?_
    have e2 : cs1 = (((List.range 256).map fun b => (firstT b : Int)).map fun z => Value.int .u8 z).toArray := by rw [← e1]
    rw [e2]
    simp [hb]
  · rw [Nat.mul_comm]
    refine (v0 (i * 2)).trans ?_
    refine (hk i (accLo i) (accHi i) hi ?_).1
    rcases (by omega : i = 0 ∨ i = 1 ∨ i = 2 ∨ i = 3 ∨ i = 4 ∨ i = 5 ∨ i = 6 ∨ i = 7 ∨ i = 8 ∨ i = 9 ∨ i = 10 ∨ i = 11 ∨ i = 12 ∨ i = 13 ∨ i = 14 ∨ i = 15) with rfl | rfl | rfl | rfl | rfl | rfl | rfl | rfl | rfl | rfl | rfl | rfl | rfl | rfl | rfl | rfl <;> rfl
  · rw [Nat.mul_comm]
    refine (v0 (i * 2 + 1)).trans ?_
    refine (hk i (accLo i) (accHi i) hi ?_).2
    rcases (by omega : i = 0 ∨ i = 1 ∨ i = 2 ∨ i = 3 ∨ i = 4 ∨ i = 5 ∨ i = 6 ∨ i = 7 ∨ i = 8 ∨ i = 9 ∨ i = 10 ∨ i = 11 ∨ i = 12 ∨ i = 13 ∨ i = 14 ∨ i = 15) with rfl | rfl | rfl | rfl | rfl | rfl | rfl | rfl | rfl | rfl | rfl | rfl | rfl | rfl | rfl | rfl <;> rfl
end Go.Proofs.YtkfmfldkllkcbabDoor

namespace Go.CharrefKit
open Go Go.Lib

theorem nats_append (a b : List UInt8) : nats (a ++ b) = nats a ++ nats b := by simp [nats]
theorem nats_cons (a : UInt8) (b : List UInt8) : nats (a :: b) = a.toNat :: nats b := rfl
/-- A name with its sign. -/
theorem named_ref {attr : Bool} {e : Entry} (he : e ∈ tab) (t : List Nat) : findL attr (38 :: (e.1 ++ 59 :: t)) = ⟨e.2.1, e.1.length + 2, true⟩ := by
  have hf := tab_fact he
  have hne : ∀ u, e.1 ++ 59 :: t ≠ 35 :: u := by
    intro u h
    cases hl : e.1 with
    | nil => rw [hl] at hf; simp at hf
    | cons c v =>
      rw [hl] at h hf
      simp only [List.cons_append, List.cons.injEq] at h
      have := hf.1 c (List.mem_cons_self ..)
      rw [h.1] at this
      cases this
  rw [findL_name hne]
  have hpre : e.1.isPrefixOf (e.1 ++ 59 :: t) = true := List.isPrefixOf_iff_prefix.2 ⟨_, rfl⟩
  have h59 : (e.1 ++ 59 :: t)[e.1.length]? = some 59 := by rw [List.getElem?_append_right (Nat.le_refl _), Nat.sub_self]; rfl
  have hh : hit (e.1 ++ 59 :: t) e = e.1.length + 1 := by unfold hit; rw [if_pos hpre, if_pos h59]
  have hb := best_is (r := e.1 ++ 59 :: t) he (by omega) (fun e' he' => by
    by_cases hp : 0 < hit (e.1 ++ 59 :: t) e'
    · obtain ⟨q1, q2⟩ := hit_pos hp
      have hle : e'.1.length ≤ e.1.length := by
        rcases Nat.lt_or_ge e.1.length e'.1.length with h | h
        · exfalso
          have h1 := prefix_at q1 h
          rw [h59, List.getElem?_eq_getElem h] at h1
          exact isLet_not ((tab_fact he').1 _ (List.getElem_mem h)) (Option.some.inj h1).symm
        · exact h
      rcases q2 with ⟨_, q⟩ | ⟨_, _, q⟩ <;> omega
    · omega)
  unfold nameL
  rw [hb, hh]
  simp only [Nat.add_sub_cancel]
  rw [if_neg (show ¬ e.1.length + 1 = 0 by omega), if_neg (by rintro ⟨_, q, _⟩; exact q h59)]

/-! What is escaped. -/
def plain (l : List UInt8) : List UInt8 := l.filter fun b => decide (b ≠ 38)
theorem amp_in : (([97, 109, 112], 38, true) : Entry) ∈ tab := of_decide_eq_true (by kernel_rfl)
theorem enc_amp : encodeRune 38 = [38] := by decide
theorem decode_amp (attr : Bool) (t : List UInt8) : decodeL attr ([38, 97, 109, 112, 59] ++ t) = 38 :: decodeL attr t := by
  have h : findL attr (nats ([38, 97, 109, 112, 59] ++ t)) = ⟨38, 5, true⟩ := named_ref (attr := attr) amp_in (nats t)
  rw [decodeL_ref (by rw [h]), h]
  show encodeRune 38 ++ _ = _
  rw [enc_amp]
  rfl
/-- A name with its sign, behind a text. -/
theorem decode_named {attr : Bool} {e : Entry} (he : e ∈ tab) (a b : List UInt8) (ha : ∀ c ∈ a, c.toNat ≠ 38) : decodeL attr (a ++ 38 :: (bytesOf e.1 ++ 59 :: b)) = a ++ (encodeRune ((e.2.1 : Nat) : Int) ++ decodeL attr b) := by
  rw [decodeL_ahead a _ ha]
  congr 1
  have hn := nats_bytesOf (tabC_small (mem_tabC.2 he))
  have h : findL attr (nats (38 :: (bytesOf e.1 ++ 59 :: b))) = ⟨e.2.1, e.1.length + 2, true⟩ := by
    rw [nats_cons, nats_append, hn, nats_cons]
    exact named_ref he (nats b)
  rw [decodeL_ref (by rw [h]), h]
  congr 2
  have hl : (bytesOf e.1).length = e.1.length := by simp [bytesOf]
  rw [show e.1.length + 2 = (e.1.length + 1) + 1 from rfl, List.drop_succ_cons, ← hl]
  rw [List.drop_append]
  simp

/-! A blank between. -/
end Go.CharrefKit

namespace Go.SerialKit
open Go Go.Lib Go.TokenKit Go.TreeKit Go.CharrefKit
theorem lt_in : (([108, 116], 60, true) : Entry) ∈ tab := of_decide_eq_true (by kernel_rfl)
theorem gt_in : (([103, 116], 62, true) : Entry) ∈ tab := of_decide_eq_true (by kernel_rfl)
theorem quot_in : (([113, 117, 111, 116], 34, true) : Entry) ∈ tab := of_decide_eq_true (by kernel_rfl)
theorem nbsp_in : (([110, 98, 115, 112], 160, true) : Entry) ∈ tab := of_decide_eq_true (by kernel_rfl)
theorem back_lt (d : Bool) (t : Bytes) : decodeL d (ltB ++ t) = 60 :: decodeL d t := by
  have := decode_named (attr := d) lt_in [] t (fun c hc => by cases hc)
  rw [List.nil_append, List.nil_append, show encodeRune ((60 : Nat) : Int) = [60] by decide] at this
  exact this
theorem back_gt (d : Bool) (t : Bytes) : decodeL d (gtB ++ t) = 62 :: decodeL d t := by
  have := decode_named (attr := d) gt_in [] t (fun c hc => by cases hc)
  rw [List.nil_append, List.nil_append, show encodeRune ((62 : Nat) : Int) = [62] by decide] at this
  exact this
theorem back_quot (d : Bool) (t : Bytes) : decodeL d (quotB ++ t) = 34 :: decodeL d t := by
  have := decode_named (attr := d) quot_in [] t (fun c hc => by cases hc)
  rw [List.nil_append, List.nil_append, show encodeRune ((34 : Nat) : Int) = [34] by decide] at this
  exact this
theorem back_nbsp (d : Bool) (t : Bytes) : decodeL d (nbspB ++ t) = 194 :: 160 :: decodeL d t := by
  have := decode_named (attr := d) nbsp_in [] t (fun c hc => by cases hc)
  rw [List.nil_append, List.nil_append, show encodeRune ((160 : Nat) : Int) = [194, 160] by decide] at this
  exact this
theorem number_cr (u : List Nat) : numberL (49 :: 51 :: 59 :: u) = ⟨13, 3, true⟩ := by
  have hd : digs 10 (49 :: 51 :: 59 :: u) = [49, 51] := rfl
  unfold numberL
  rw [show baseOf (49 :: 51 :: 59 :: u) = 10 from rfl, show headOf (49 :: 51 :: 59 :: u) = 0 from rfl, List.drop_zero, hd]
  rfl
theorem back_cr (d : Bool) (t : Bytes) : decodeL d (crB ++ t) = 13 :: decodeL d t := by
  have h : findL d (nats (crB ++ t)) = ⟨13, 5, true⟩ := by
    change findL d (38 :: 35 :: 49 :: 51 :: 59 :: nats t) = _
    rw [findL_num, number_cr]
    rfl
  rw [decodeL_ref (by rw [h]), h]
  rw [show encodeRune ((13 : Nat) : Int) = [13] by decide]
  rfl
theorem back_one (d at_ : Bool) (x : UInt8) (t : Bytes) : decodeL d (oneE at_ x ++ t) = x :: decodeL d t := by
  unfold oneE
  by_cases h1 : x = 38
  · rw [if_pos h1, h1]; exact decode_amp d t
  rw [if_neg h1]
  by_cases h2 : x = 13
  · rw [if_pos h2, h2]; exact back_cr d t
  rw [if_neg h2]
  by_cases h3 : x = 60 ∧ at_ = false
  · rw [if_pos h3, h3.1]; exact back_lt d t
  rw [if_neg h3]
  by_cases h4 : x = 62 ∧ at_ = false
  · rw [if_pos h4, h4.1]; exact back_gt d t
  rw [if_neg h4]
  by_cases h5 : x = 34 ∧ at_ = true
  · rw [if_pos h5, h5.1]; exact back_quot d t
  rw [if_neg h5, decodeL_ahead [x] t (fun c hc => by
    simp at hc
    subst hc
    exact fun e => h1 (UInt8.toNat_inj.1 e))]
  rfl
theorem back_all (d at_ : Bool) : ∀ l : Bytes, decodeL d (escR at_ l) = l
  | [] => rfl
  | [x] => by
    have := back_one d at_ x []
    rw [List.append_nil] at this
    exact this
  | x :: y :: r => by
    rw [escR]
    split
    · rename_i h
      rw [back_nbsp, back_all d at_ r, h.1, h.2]
    · rw [back_one, back_all d at_ (y :: r)]
theorem back_bytes (d : Bool) (s : ByteArray) : (⟨(decodeL d (bl (⟨(escR d (bl s)).toArray⟩ : ByteArray))).toArray⟩ : ByteArray) = s := by
  have e : bl (⟨(escR d (bl s)).toArray⟩ : ByteArray) = escR d (bl s) := by simp [bl]
  rw [e, back_all]
  apply ByteArray.ext
  simp [bl]
end Go.SerialKit
namespace Go.Proofs.YtkfmfldkllkcbabDoor
open Go.RowKit Go.RunKit Go.UtfKit Go.CharrefKit Go.Lib Go.TokenKit Go.TreeKit Go.SerialKit

set_option maxRecDepth 100000 in
set_option maxHeartbeats 2000000 in
theorem lawBackS (s : ByteArray) (w : World) (hv : VTabs w) : Calls Tryd.prog 4 #[.string s] w fun e w' => e = .returned (.bool true) ∧ Below w.heap.size w w' := by
  have HW := Lib.hid fun (W : World) (hb : Below w.heap.size w W) => works06_any W (hv.on hb)
  clear hv
  by_cases hbig : 3000 < s.size
  · have hI : (3000 : Int) < s.size := by omega
    go_enter Tryd.func4, Tryd.ntmps4
    go_big_wp2_with (go_at_call 10; refine (HW.out _ (Below.refl _ _)).mono ?_; rintro e w1 ⟨rfl, hb1⟩)
    go_ret
    exact ⟨rfl, hb1⟩
  have hI : ((3000 : Int) < s.size) = False := eq_false (by omega)
  have hWA := fun W => refWell05_any s W (by omega)
  cases hwa : wellL s with
  | false =>
    rw [hwa] at hWA
    have HWA := Lib.hid hWA
    clear hWA hwa
    go_enter Tryd.func4, Tryd.ntmps4
    go_big_wp2_with (first
      | (go_at_call 11; refine (HWA.out _).mono ?_; rintro e w1 ⟨rfl, hb1⟩; have HB1 := Lib.hid hb1; clear hb1)
      | (go_at_call 10; refine (HW.out _ HB1.out).mono ?_; rintro e w2 ⟨rfl, hb2⟩))
    go_ret
    exact ⟨rfl, HB1.out.trans (hb2.mono HB1.out.size)⟩
  | true =>
    rw [hwa] at hWA
    have HWA := Lib.hid hWA
    have hT := fun W => escText_any s (by omega) W
    have hA := fun W => escAttr_any s (by omega) W
    have s1 := esc_size (attr := false) (a := s)
    have s2 := esc_size (attr := true) (a := s)
    have b1 := back_bytes false s
    have b2 := back_bytes true s
    generalize (⟨(escR false (bl s)).toArray⟩ : ByteArray) = t at *
    generalize (⟨(escR true (bl s)).toArray⟩ : ByteArray) = v at *
    have hDT := fun W => decode_any false t (by omega) W
    have hDA := fun W => decode_any true v (by omega) W
    rw [b1] at hDT
    rw [b2] at hDA
    have HT := Lib.hid hT
    have HA := Lib.hid hA
    have HDT := Lib.hid hDT
    have HDA := Lib.hid hDA
    clear hWA hwa hT hA s1 s2 b1 b2 hDT hDA hbig
    go_enter Tryd.func4, Tryd.ntmps4
    go_big_wp2_with (first
      | (go_at_call 11; refine (HWA.out _).mono ?_; clear HWA; rintro e w1 ⟨rfl, hb1⟩; have HB1 := Lib.hid hb1; clear hb1)
      | (go_at_call 7; refine (HT.out _).mono ?_; clear HT; rintro e w2 ⟨rfl, hb2⟩; have HB2 := Lib.hid (HB1.out.trans (hb2.mono HB1.out.size)); clear hb2)
      | (go_at_call_of 12 (Value.bool false); refine (HDT.out _).mono ?_; clear HDT; rintro e w3 ⟨rfl, hb3⟩; have HB3 := Lib.hid (HB2.out.trans (hb3.mono HB2.out.size)); clear hb3)
      | (go_at_call 9; refine (HA.out _).mono ?_; clear HA; rintro e w4 ⟨rfl, hb4⟩; have HB4 := Lib.hid (HB3.out.trans (hb4.mono HB3.out.size)); clear hb4)
      | (go_at_call_of 12 (Value.bool true); refine (HDA.out _).mono ?_; clear HDA; rintro e w5 ⟨rfl, hb5⟩; have HB5 := Lib.hid (HB4.out.trans (hb5.mono HB4.out.size)); clear hb5)
      | (go_at_call 10; refine (HW.out _ HB5.out).mono ?_; rintro e w6 ⟨rfl, hb6⟩))
    go_ret
    exact ⟨rfl, HB5.out.trans (hb6.mono HB5.out.size)⟩
end Go.Proofs.YtkfmfldkllkcbabDoor

