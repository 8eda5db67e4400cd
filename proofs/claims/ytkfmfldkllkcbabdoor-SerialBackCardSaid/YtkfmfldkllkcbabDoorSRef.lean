/-
  How a character is written: inText, inValue, anywhere of package serial; WriteString, with what it keeps. No conditions.
-/
import Derived.Test.YtkfmfldkllkcbabDoorSStep
namespace Go.SerialKit
def anyOf (r : Int) : Go.TokenKit.Bytes := if r = 38 then ampB else if r = 160 then nbspB else if r = 13 then crB else []
end Go.SerialKit
namespace Go.Proofs.YtkfmfldkllkcbabDoor
open Go.RowKit Go.RunKit Go.UtfKit Go.CharrefKit Go.Lib Go.TokenKit Go.TreeKit Go.SerialKit

set_option maxRecDepth 100000 in
set_option maxHeartbeats 1000000 in
theorem anywhere_any (r : Int) (w : World) : Calls Tryd.prog 25 #[.int .i32 r] w fun e w' => e = .returned (.string ⟨(anyOf r).toArray⟩) ∧ w = w' := by
  unfold anyOf
  by_cases h1 : r = 38
  · subst h1
    go_enter Tryd.func25, Tryd.ntmps25
    go_big_wp2
    go_ret
    exact ⟨rfl, rfl⟩
  by_cases h2 : r = 160
  · subst h2
    go_enter Tryd.func25, Tryd.ntmps25
    go_big_wp2
    go_ret
    exact ⟨rfl, rfl⟩
  by_cases h3 : r = 13
  · subst h3
    go_enter Tryd.func25, Tryd.ntmps25
    go_big_wp2
    go_ret
    exact ⟨rfl, rfl⟩
  rw [if_neg h1, if_neg h2, if_neg h3]
  have b1 : (r == 38) = false := beq_eq_false_iff_ne.2 h1
  have b2 : (r == 160) = false := beq_eq_false_iff_ne.2 h2
  have b3 : (r == 13) = false := beq_eq_false_iff_ne.2 h3
  go_enter Tryd.func25, Tryd.ntmps25
  go_big_wp2
  go_ret
  exact ⟨rfl, rfl⟩
set_option maxRecDepth 100000 in
set_option maxHeartbeats 1000000 in
theorem inText_any (r : Int) (w : World) : Calls Tryd.prog 15 #[.int .i32 r] w fun e w' => e = .returned (.string ⟨(refOf false r).toArray⟩) ∧ w = w' := by
  have HA := Lib.hid (anywhere_any r w)
  by_cases h1 : r = 60
  · subst h1
    go_enter Tryd.func15, Tryd.ntmps15
    go_big_wp2
    go_ret
    exact ⟨rfl, rfl⟩
  by_cases h2 : r = 62
  · subst h2
    go_enter Tryd.func15, Tryd.ntmps15
    go_big_wp2
    go_ret
    exact ⟨rfl, rfl⟩
  have e : refOf false r = anyOf r := by unfold refOf anyOf; rw [if_neg (by decide), if_neg h1, if_neg h2]
  rw [e]
  have b1 : (r == 60) = false := beq_eq_false_iff_ne.2 h1
  have b2 : (r == 62) = false := beq_eq_false_iff_ne.2 h2
  clear e
  generalize anyOf r = l at *
  go_enter Tryd.func15, Tryd.ntmps15
  go_big_wp2_with (go_at_call 25; refine HA.out.mono ?_; rintro e w1 ⟨rfl, rfl⟩)
  go_ret
  exact ⟨rfl, rfl⟩
set_option maxRecDepth 100000 in
set_option maxHeartbeats 1000000 in
theorem inValue_any (r : Int) (w : World) : Calls Tryd.prog 16 #[.int .i32 r] w fun e w' => e = .returned (.string ⟨(refOf true r).toArray⟩) ∧ w = w' := by
  have HA := Lib.hid (anywhere_any r w)
  by_cases h1 : r = 34
  · subst h1
    go_enter Tryd.func16, Tryd.ntmps16
    go_big_wp2
    go_ret
    exact ⟨rfl, rfl⟩
  have e : refOf true r = anyOf r := by unfold refOf anyOf; rw [if_pos rfl, if_neg h1]
  rw [e]
  have b1 : (r == 34) = false := beq_eq_false_iff_ne.2 h1
  clear e
  generalize anyOf r = l at *
  go_enter Tryd.func16, Tryd.ntmps16
  go_big_wp2_with (go_at_call 25; refine HA.out.mono ?_; rintro e w1 ⟨rfl, rfl⟩)
  go_ret
  exact ⟨rfl, rfl⟩

set_option maxRecDepth 100000 in
set_option maxHeartbeats 1000000 in
/-- WriteString: the text's bytes go in behind; what is no row of bytes stays. -/
theorem writeStringK (B b : Nat) (bs : List Value) (s : ByteArray) (w : World) (h : Lib.IsBuilderF TB 5 B b bs w) (hlen : bs.length + s.size ≤ 140737488351232) (hBw : B ≤ w.heap.size) :
    Calls Tryd.prog 20 #[.pointer (some ⟨b, 0, none⟩), .string s] w fun e w' => e = .returned (.tuple #[.int .i64 (s.size : Nat), .nilIface]) ∧
      (Lib.BuilderAtF TB 5 B b (.pointer (some ⟨b, 0, none⟩)) (bs ++ Lib.strCells s) w' ∧ Below B w w' ∧ Lib.OthersKept 5 (some b) w w') := by
  obtain ⟨i0, hi, hz0, hz1, hz2⟩ := info_parts Tryd.infoByte
  go_enter Tryd.func20, Tryd.ntmps20
  go_wp2_with (go_at_call 33; refine (check_any B b bs _ h).mono ?_)
  rintro e w1 ⟨rfl, h1, hb1, hk1⟩
  obtain ⟨hB, v, hbk, hown, hne⟩ := h1
  have c0 : w1.cell? ⟨b, 0, none⟩ = some (.pointer (some ⟨b, 0, none⟩)) := by rw [Lib.cell_of_heap hbk]; rfl
  have c1 : w1.cell? ⟨b, 1, none⟩ = some v := by rw [Lib.cell_of_heap hbk]; rfl
  have HK1 := Lib.hid hk1
  clear hk1
  go_wp2_with (at_builtin; refine Lib.wpList_append_own_stringF _ rfl _ _ 29 9 rfl B 5 i0 underBytes underString hi hz0 hz1 hz2 _ _ _ rfl hown s rfl ?c3 ?c4 ?c5 ?_)
  case c3 => unfold maxLen; omega
  case c4 => omega
  case c5 => have := hb1.size; omega
  intro v' w2 hown' hgrow _
  have hlt : b < w1.heap.size := by
    rcases Nat.lt_or_ge b w1.heap.size with h' | h'
    · exact h'
    · simp [Array.getElem?_eq_none h'] at hbk
  have hb2 : w2.heap[b]? = some (.cells #[.pointer (some ⟨b, 0, none⟩), v] TB (0, 0)) := by
    rw [hgrow.block b hlt (fun e => hne e.symm)]
    exact hbk
  have d0 : w2.cell? ⟨b, 0, none⟩ = some (.pointer (some ⟨b, 0, none⟩)) := by rw [Lib.cell_of_heap hb2]; rfl
  have d1 : w2.cell? ⟨b, 1, none⟩ = some v := by rw [Lib.cell_of_heap hb2]; rfl
  have f1 : w2.frozen? ⟨b, 1, none⟩ = false := Lib.frozen_of_heap hb2 1
  obtain ⟨ao, n', cap, rfl⟩ : ∃ ao n' cap, v' = .slice ao n' cap := by
    rcases hown'.2 with ⟨hv, _⟩ | ⟨g, cap, cur, fz, hv, _⟩
    · exact ⟨_, _, _, hv⟩
    · exact ⟨_, _, _, hv⟩
  go_wp2
  go_ret2
  refine ⟨rfl, ?_, ?_, (HK1.out.grown hgrow (Lib.ownsRowF_kind hown)).setCell ⟨b, 1, none⟩ rfl _⟩
  · exact Lib.BuilderAtF.put (T := TB) (e := 5) hB hb2 (bs' := bs ++ Lib.strCells s) (by simpa [Lib.strCells_length] using hown') (by decide)
  · exact (hb1.grown hgrow (by have := hb1.size; omega) (fun k hk => (hown.lt k hk).1)).setCell (p := ⟨b, 1, none⟩) hB _
end Go.Proofs.YtkfmfldkllkcbabDoor

