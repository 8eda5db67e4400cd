/-
  The library's two tables, out of the row's condition. No conditions.
-/
import Derived.Test.YtmhdocgoeahbdaaGreatDoorUFull
import Derived.Lib.LaidTab
import Derived.OpenShut
import Derived.ChangeArms
import Derived.LaidMore
import Derived.ProofKit
namespace Go.Proofs.YtmhdocgoeahbdaaGreatDoor.U
open Go.RowKit Go.RunKit Go.UtfKit Go.Lib Go.ChangeShapes Go.WideShapes Go.ChangeAt

theorem gFirst : Tryz.prog.globalNamed "unicode/utf8.first" = some 0 := by kernel_rfl
theorem gAcc : Tryz.prog.globalNamed "unicode/utf8.acceptRanges" = some 1 := by kernel_rfl
theorem tFirst : (Tryz.prog.globals[0]?).map (·.type) = some 109 := by kernel_rfl
theorem tAcc : (Tryz.prog.globals[1]?).map (·.type) = some 112 := by kernel_rfl
theorem uFirst : Tryz.prog.underlying 109 = some (.array 256 5) := by kernel_rfl
theorem uAcc : Tryz.prog.underlying 112 = some (.array 16 111) := by kernel_rfl
theorem uByte : Tryz.prog.underlying 5 = some (.int .u8) := by kernel_rfl
theorem firstData : (Rows.laid_unicode_utf8_first : DataW Unit) = tabData .u8 ((List.range 256).map fun b => (firstT b : Int)) := by kernel_rfl

theorem pair_cells {H : Type} {enc : TypeId × Value → H} {w : World} {base : Nat} {sp : Nat → Bool} {held : Bool} {fuel : Nat} {cs : List Value} {lo hi : Int} {p : List MemPlace}
    (h : DataW.trod enc Tryz.prog w base sp held fuel 111 cs = some (.agg [.lit (.int .u8 lo), .lit (.int .u8 hi)], p)) : cs[0]? = some (.int .u8 lo) ∧ cs[1]? = some (.int .u8 hi) := by
  obtain ⟨xs, m, rfl, hx, hlen, hn, hel⟩ := DataW.trod_struct Tryz.underlying111 h
  have c1 : Tryz.prog.cellsOf 5 = 1 := by kernel_rfl
  simp only [Prod.mk.injEq, DataW.agg.injEq] at hx
  have h0 := hel 0 _ rfl
  have h1 := hel 1 _ rfl
  change DataW.trod _ _ _ _ _ _ m 5 ((cs.drop 0).take (Tryz.prog.cellsOf 5)) = _ at h0
  change DataW.trod _ _ _ _ _ _ m 5 ((cs.drop 1).take (Tryz.prog.cellsOf 5)) = _ at h1
  rw [c1] at h0 h1
  match xs, hn, hx, h0, h1 with
  | [x0, x1], _, hx, h0, h1 =>
    simp only [List.map_cons, List.map_nil, List.cons.injEq] at hx
    obtain ⟨a, e1, e2, _⟩ := DataW.trod_int uByte (show DataW.trod _ Tryz.prog w _ _ _ m 5 _ = some x0 from h0)
    obtain ⟨b, e3, e4, _⟩ := DataW.trod_int uByte (show DataW.trod _ Tryz.prog w _ _ _ m 5 _ = some x1 from h1)
    rw [e2, e4] at hx
    have ha : a = lo := by simpa using hx.1.1.symm
    have hb : b = hi := by simpa using hx.1.2.1.symm
    subst ha; subst hb
    have f0 := congrArg (·[0]?) e1
    have f1 := congrArg (·[0]?) e3
    simp at f0 f1
    exact ⟨f0, f1⟩

theorem tabs_of {W : World} (h : laidMet Tryz.prog [("unicode/utf8.acceptRanges", Rows.laid_unicode_utf8_acceptRanges), ("unicode/utf8.first", Rows.laid_unicode_utf8_first)] W) : Tabs W := by
  obtain ⟨ps, ⟨g0, t0, cs0, f0, p0, q0, hg0, ht0, hv0, hd0, ⟨g1, t1, cs1, f1, p1, q1, hg1, ht1, hv1, hd1, _, _⟩, _⟩, _⟩ := h
  obtain rfl := Option.some.inj (gAcc.symm.trans hg0)
  obtain rfl := Option.some.inj (gFirst.symm.trans hg1)
  obtain rfl := Option.some.inj (tAcc.symm.trans ht0)
  obtain rfl := Option.some.inj (tFirst.symm.trans ht1)
  rw [firstData] at hd1
  have e1 := cells_of_tab uFirst uByte (by kernel_rfl) (by kernel_rfl) hd1
  obtain ⟨xs, m, rfl, hx, hlen, hn, hel⟩ := DataW.trod_array uAcc hd0
  have c2 : Tryz.prog.cellsOf 111 = 2 := by kernel_rfl
  rw [c2] at hel
  simp only [Rows.laid_unicode_utf8_acceptRanges, Prod.mk.injEq, DataW.agg.injEq] at hx
  have hk : ∀ i (lo hi : Int), i < 16 → (xs.map (·.1))[i]? = some (.agg [.lit (.int .u8 lo), .lit (.int .u8 hi)]) → cs0[i * 2]? = some (.int .u8 lo) ∧ cs0[i * 2 + 1]? = some (.int .u8 hi) := by
    intro i lo hi hi16 hd
    have h := hel i hi16
    cases hxi : xs[i]? with
    | none => rw [List.getElem?_map, hxi] at hd; cases hd
    | some x =>
      obtain ⟨x1, x2⟩ := x
      rw [List.getElem?_map, hxi] at hd
      simp only [Option.map_some, Option.some.injEq] at hd
      subst hd
      rw [hxi] at h
      have hp := pair_cells h
      obtain ⟨hp1, hp2⟩ := hp
      refine ⟨?_, ?_⟩
      · simpa [List.getElem?_take, List.getElem?_drop] using hp1
      · simpa [List.getElem?_take, List.getElem?_drop] using hp2
  rw [← hx.1] at hk
  have v0 := fun i => World.var?_cell hg0 hv0 i
  have v1 := fun i => World.var?_cell hg1 hv1 i
  refine ⟨fun b hb => ?_, fun i hi => ?_, fun i hi => ?_⟩
  · rw [v1 b]
    have e2 : cs1 = (((List.range 256).map fun b => (firstT b : Int)).map fun z => Value.int .u8 z).toArray := by rw [← e1]
    rw [e2]
    simp [hb]
  · rw [v0 (i * 2)]
    refine (hk i (accLo i) (accHi i) (by omega) ?_).1
    rcases (by omega : i = 0 ∨ i = 1 ∨ i = 2 ∨ i = 3 ∨ i = 4) with rfl | rfl | rfl | rfl | rfl <;> rfl
  · rw [v0 (i * 2 + 1)]
    refine (hk i (accLo i) (accHi i) (by omega) ?_).2
    rcases (by omega : i = 0 ∨ i = 1 ∨ i = 2 ∨ i = 3 ∨ i = 4) with rfl | rfl | rfl | rfl | rfl <;> rfl
end Go.Proofs.YtmhdocgoeahbdaaGreatDoor.U

