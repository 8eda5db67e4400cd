/-
  References by number: the program's way. No conditions.
-/
import Derived.Test.YtkfmfldkllkcbabDoorCByte
import Derived.Test.YtkfmfldkllkcbabDoorLit
import Derived.Deep.CutBlock
namespace Go.RunKit
open Go Go.RowKit
variable {P : Program}
/-- An operation that hands back a value, run by the kernel. -/
theorem wpList_value {ops : Array Oper} {Q : Exit → Act → World → Prop} {rest : List Oper} {o : Oper} {a : Act} {w : World} {v : Value} (hg : o.guard = none)
    (hr : (execOp a.eval o).run P w = .ok (.value v) w) (h : wpList P ops Q rest (a.put o.dst v) w) : wpList P ops Q (o :: rest) a w := by
  refine wpList_plain hg fun K hK => ?_
  unfold Oper.wp
  rw [hr, Oper.upon_value]
  exact hK _ _ h
end Go.RunKit
namespace Go.Proofs.YtkfmfldkllkcbabDoor
open Go.RowKit Go.RunKit Go.CharrefKit Go.Lib

def winCells : List Value := winTab.map fun x : Nat => .int .i32 ((x : Nat) : Int)
theorem info32 : (Tryd.prog.info? 99).map (fun i => (i.zero, i.size)) = some (some (.agg (Array.replicate 32 (.int .i32 0))), 32) := by kernel_rfl
theorem size32 : (Tryd.prog.info? 99).map (·.size) = some winCells.toArray.size := by kernel_rfl
theorem win_one : winCells.toArray.all (·.oneCell') = true := by kernel_rfl
theorem win_at (k : Nat) (hk : k < 32) : winCells.toArray[k]? = some (.int .i32 ((winTab.getD k 0 : Nat) : Int)) := by
  have h : k < winTab.length := hk
  simp only [winCells, List.getElem?_toArray, List.getElem?_map, List.getElem?_eq_getElem h, Option.map_some, List.getD_eq_getElem?_getD, Option.getD_some]

set_option maxRecDepth 100000 in
set_option maxHeartbeats 1000000 in
theorem windows_any (k : Nat) (hk : k < 32) (w : World) :
    Calls Tryd.prog 62 #[.int .i32 ((k : Int) + 128)] w fun e w' => e = .returned (.int .i32 ((winTab.getD k 0 : Nat) : Int)) ∧ Below w.heap.size w w' := by
  have hkI : (k : Int) < 32 := by omega
  have HC := Lib.hid (win_at k hk)
  have HS := Lib.hid size32
  have HO := Lib.hid win_one
  go_enter Tryd.func62, Tryd.ntmps62
  go_upto_region 1 with (fail)
  rename_i Q' K hK
  refine wp_region_list ?_
  refine wpList_value (v := .agg winCells.toArray) rfl (by kernel_rfl) ?_
  refine wpList_alloc_row rfl rfl info32 ?_
  refine wpList_store_row rfl _ _ _ rfl w.heap.size winCells.toArray (by rfl) (by rfl) 99 _ (heap_alloc_last w _) HS.out (by kernel_rfl) HO.out ?_
  rw [World.setRow_alloc_new]
  refine wpList_nil ?_
  refine hK _ _ ?_
  go_frame
  have hb : Below w.heap.size w (w.alloc (.cells winCells.toArray 99)) := (Below.refl _ _).alloc (Nat.le_refl _) _
  have hc : (w.alloc (.cells winCells.toArray 99)).cell? ⟨w.heap.size, k, none⟩ = some (.int .i32 ((winTab.getD k 0 : Nat) : Int)) := by
    rw [World.cell?_alloc_at _ _ _ _ rfl]; exact HC.out
  generalize winCells.toArray = cs at *
  generalize w.alloc (.cells cs 99) = W at *
  clear HC HS HO
  go_wp2
  go_ret
  exact ⟨rfl, hb⟩

set_option maxRecDepth 100000 in
set_option maxHeartbeats 1000000 in
theorem numbered_any (v : Nat) (hv : v ≤ 17825791) (w : World) :
    Calls Tryd.prog 47 #[.int .i32 (v : Nat)] w fun e w' => e = .returned (.int .i32 ((charOf v : Nat) : Int)) ∧ Below w.heap.size w w' := by
  by_cases h0 : 128 ≤ v ∧ v ≤ 159
  · obtain ⟨h1, h2⟩ := h0
    have H := windows_any (v - 128) (by omega) w
    have e : (((v - 128 : Nat) : Int) + 128) = v := by omega
    rw [e] at H
    have H := Lib.hid H
    have hc : charOf v = winTab.getD (v - 128) 0 := by unfold charOf; rw [if_pos ⟨h1, h2⟩]
    rw [← hc] at H
    have i1 : (128 : Int) ≤ v := by omega
    have i2 : (v : Int) ≤ 159 := by omega
    clear hc e
    go_enter Tryd.func47, Tryd.ntmps47
    go_wp2_with (go_at_call 62; refine H.out.mono ?_; rintro e w1 ⟨rfl, hb⟩)
    go_ret
    exact ⟨rfl, hb⟩
  by_cases h1 : v = 0 ∨ 1114111 < v ∨ (55296 ≤ v ∧ v ≤ 57343)
  · have hc : charOf v = 65533 := by unfold charOf; rw [if_neg h0, if_pos h1]
    rw [hc]
    by_cases a1 : (128 : Int) ≤ v <;> by_cases a2 : (v : Int) ≤ 159 <;> by_cases a3 : (v : Int) = 0 <;> by_cases a4 : (1114111 : Int) < v <;> by_cases a5 : (55296 : Int) ≤ v <;> by_cases a6 : (v : Int) ≤ 57343
    all_goals (try (exfalso; omega))
    all_goals
      clear hc h0 h1
      go_enter Tryd.func47, Tryd.ntmps47
      go_wp2
      go_ret
      exact ⟨rfl, Below.refl _ _⟩
  · have hc : charOf v = v := by unfold charOf; rw [if_neg h0, if_neg h1]
    rw [hc]
    by_cases a1 : (128 : Int) ≤ v <;> by_cases a2 : (v : Int) ≤ 159 <;> by_cases a3 : (v : Int) = 0 <;> by_cases a4 : (1114111 : Int) < v <;> by_cases a5 : (55296 : Int) ≤ v <;> by_cases a6 : (v : Int) ≤ 57343
    all_goals (try (exfalso; omega))
    all_goals
      clear hc h0 h1
      go_enter Tryd.func47, Tryd.ntmps47
      go_wp2
      go_ret
      exact ⟨rfl, Below.refl _ _⟩
end Go.Proofs.YtkfmfldkllkcbabDoor

