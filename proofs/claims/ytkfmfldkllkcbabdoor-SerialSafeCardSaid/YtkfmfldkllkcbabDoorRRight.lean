/-
  Right of package tree, by contract. Conditions: the library's two tables hold what its text lays.
-/
import Derived.Test.YtkfmfldkllkcbabDoorRStand
namespace Go.Proofs.YtkfmfldkllkcbabDoor
open Go.RowKit Go.RunKit Go.CharrefKit Go.Lib Go.TokenKit Go.TreeKit

/-- P5.4, as the code asks it. -/
def rightB (T : List NI) : Bool := !T.isEmpty && decide (T.length ≤ 16384) && isRootB (T.getD 0 noNI) && haveKidsB T && standL 1 [⟨0, [], 0⟩] (T.drop 1)
def rightE (T : List NI) : Nat := if rightB T then 0 else 53

set_option maxRecDepth 100000 in
set_option maxHeartbeats 2000000 in
theorem right_any (g o cap n : Nat) (T : List NI) (w : World) (hn : n = T.length) (h1 : 1 ≤ n) (hbig : n ≤ 9223372036854775807) (h : TreeIn w g o T) (hv : VTabs w) :
    Calls Tryd.prog 26 #[.slice (some ⟨g, o, none⟩) n cap] w fun e w' => e = .returned (.int .i64 ((rightE T : Nat) : Int)) ∧ Below w.heap.size w w' := by
  have hne : T.isEmpty = false := by cases T with
    | nil => simp at hn; omega
    | cons x r => rfl
  have h0 : ((n : Int) = 0) = False := eq_false (by omega)
  have h0B : ((n : Int) == 0) = false := by rw [beq_eq_false_iff_ne]; omega
  by_cases hlim : 16384 < n
  · have hlI : (16384 : Int) < (n : Int) := by omega
    have hr : rightE T = 53 := by unfold rightE rightB; rw [hne, decide_eq_false (show ¬ T.length ≤ 16384 by omega)]; rfl
    rw [hr]
    clear hn h hv hne hr hlim
    go_enter Tryd.func26, Tryd.ntmps26
    go_big_wp2
    go_ret
    exact ⟨rfl, Below.refl _ _⟩
  · have hlI : ¬ (16384 : Int) < (n : Int) := by omega
    have hpos : (0 : Int) < (n : Int) := by omega
    have hR := isRoot_any g o (T.getD 0 noNI) w (by have := h.at_ 0 _ (node_at (by omega)); simpa using this)
    have hK := haveKids_any g o cap n T w hn (by omega) h
    have hS := standRight_any g o cap n T w hn h1 (by omega) h hv
    obtain ⟨r1, hr1⟩ : ∃ r, isRootB (T.getD 0 noNI) = r := ⟨_, rfl⟩
    obtain ⟨r2, hr2⟩ : ∃ r, haveKidsB T = r := ⟨_, rfl⟩
    obtain ⟨r3, hr3⟩ : ∃ r, standL 1 [⟨0, [], 0⟩] (T.drop 1) = r := ⟨_, rfl⟩
    have hr : rightE T = if r1 && r2 && r3 then 0 else 53 := by unfold rightE rightB; rw [hne, decide_eq_true (show T.length ≤ 16384 by omega), hr1, hr2, hr3]; rfl
    rw [hr]
    rw [hr1] at hR
    rw [hr2] at hK
    rw [hr3] at hS
    have HR := Lib.hid hR
    have HK := Lib.hid hK
    have HS := Lib.hid hS
    clear hR hK hS hr1 hr2 hr3 hr hn h hv hne hlim
    cases r1 with
    | false =>
      show Calls _ _ _ _ fun e w' => e = .returned (.int .i64 53) ∧ _
      go_enter Tryd.func26, Tryd.ntmps26
      go_big_wp2_with (go_at_call 37; refine HR.out.mono ?_; rintro e w1 ⟨rfl, rfl⟩)
      go_ret
      exact ⟨rfl, Below.refl _ _⟩
    | true =>
      cases r2 with
      | false =>
        show Calls _ _ _ _ fun e w' => e = .returned (.int .i64 53) ∧ _
        go_enter Tryd.func26, Tryd.ntmps26
        go_big_wp2_with (first
          | (go_at_call 37; refine HR.out.mono ?_; rintro e w1 ⟨rfl, rfl⟩)
          | (go_at_call 38; refine HK.out.mono ?_; rintro e w1 ⟨rfl, rfl⟩))
        go_ret
        exact ⟨rfl, Below.refl _ _⟩
      | true =>
        cases r3 with
        | false =>
          show Calls _ _ _ _ fun e w' => e = .returned (.int .i64 53) ∧ _
          go_enter Tryd.func26, Tryd.ntmps26
          go_big_wp2_with (first
            | (go_at_call 37; refine HR.out.mono ?_; rintro e w1 ⟨rfl, rfl⟩)
            | (go_at_call 38; refine HK.out.mono ?_; rintro e w1 ⟨rfl, rfl⟩)
            | (go_at_call 39; refine HS.out.mono ?_; rintro e w1 ⟨rfl, hb1⟩))
          go_ret
          exact ⟨rfl, hb1⟩
        | true =>
          show Calls _ _ _ _ fun e w' => e = .returned (.int .i64 0) ∧ _
          go_enter Tryd.func26, Tryd.ntmps26
          go_big_wp2_with (first
            | (go_at_call 37; refine HR.out.mono ?_; rintro e w1 ⟨rfl, rfl⟩)
            | (go_at_call 38; refine HK.out.mono ?_; rintro e w1 ⟨rfl, rfl⟩)
            | (go_at_call 39; refine HS.out.mono ?_; rintro e w1 ⟨rfl, hb1⟩))
          go_ret
          exact ⟨rfl, hb1⟩
end Go.Proofs.YtkfmfldkllkcbabDoor

