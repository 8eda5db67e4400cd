/-
  Kind of package tree: the kinds of elements. Conditions: none.
-/
import Derived.Test.YtkfmfldkllkcbabDoorRStack
namespace Go.Proofs.YtkfmfldkllkcbabDoor
open Go.RowKit Go.RunKit Go.CharrefKit Go.Lib Go.TokenKit Go.TreeKit

set_option maxRecDepth 100000 in
set_option maxHeartbeats 2000000 in
theorem kind0 (w : World) : Calls Tryd.prog 56 #[.string ⟨#[100, 105, 118]⟩] w fun e w' => e = .returned (.int .u8 1) ∧ w = w' := by
  go_enter Tryd.func56, Tryd.ntmps56
  go_big_wp2
  go_ret
  exact ⟨rfl, rfl⟩
set_option maxRecDepth 100000 in
set_option maxHeartbeats 2000000 in
theorem kind1 (w : World) : Calls Tryd.prog 56 #[.string ⟨#[117, 108]⟩] w fun e w' => e = .returned (.int .u8 1) ∧ w = w' := by
  go_enter Tryd.func56, Tryd.ntmps56
  go_big_wp2
  go_ret
  exact ⟨rfl, rfl⟩
set_option maxRecDepth 100000 in
set_option maxHeartbeats 2000000 in
theorem kind2 (w : World) : Calls Tryd.prog 56 #[.string ⟨#[111, 108]⟩] w fun e w' => e = .returned (.int .u8 1) ∧ w = w' := by
  go_enter Tryd.func56, Tryd.ntmps56
  go_big_wp2
  go_ret
  exact ⟨rfl, rfl⟩
set_option maxRecDepth 100000 in
set_option maxHeartbeats 2000000 in
theorem kind3 (w : World) : Calls Tryd.prog 56 #[.string ⟨#[115, 101, 99, 116, 105, 111, 110]⟩] w fun e w' => e = .returned (.int .u8 1) ∧ w = w' := by
  go_enter Tryd.func56, Tryd.ntmps56
  go_big_wp2
  go_ret
  exact ⟨rfl, rfl⟩
set_option maxRecDepth 100000 in
set_option maxHeartbeats 2000000 in
theorem kind4 (w : World) : Calls Tryd.prog 56 #[.string ⟨#[97, 114, 116, 105, 99, 108, 101]⟩] w fun e w' => e = .returned (.int .u8 1) ∧ w = w' := by
  go_enter Tryd.func56, Tryd.ntmps56
  go_big_wp2
  go_ret
  exact ⟨rfl, rfl⟩
set_option maxRecDepth 100000 in
set_option maxHeartbeats 2000000 in
theorem kind5 (w : World) : Calls Tryd.prog 56 #[.string ⟨#[104, 101, 97, 100, 101, 114]⟩] w fun e w' => e = .returned (.int .u8 1) ∧ w = w' := by
  go_enter Tryd.func56, Tryd.ntmps56
  go_big_wp2
  go_ret
  exact ⟨rfl, rfl⟩
set_option maxRecDepth 100000 in
set_option maxHeartbeats 2000000 in
theorem kind6 (w : World) : Calls Tryd.prog 56 #[.string ⟨#[102, 111, 111, 116, 101, 114]⟩] w fun e w' => e = .returned (.int .u8 1) ∧ w = w' := by
  go_enter Tryd.func56, Tryd.ntmps56
  go_big_wp2
  go_ret
  exact ⟨rfl, rfl⟩
set_option maxRecDepth 100000 in
set_option maxHeartbeats 2000000 in
theorem kind7 (w : World) : Calls Tryd.prog 56 #[.string ⟨#[109, 97, 105, 110]⟩] w fun e w' => e = .returned (.int .u8 1) ∧ w = w' := by
  go_enter Tryd.func56, Tryd.ntmps56
  go_big_wp2
  go_ret
  exact ⟨rfl, rfl⟩
set_option maxRecDepth 100000 in
set_option maxHeartbeats 2000000 in
theorem kind8 (w : World) : Calls Tryd.prog 56 #[.string ⟨#[110, 97, 118]⟩] w fun e w' => e = .returned (.int .u8 1) ∧ w = w' := by
  go_enter Tryd.func56, Tryd.ntmps56
  go_big_wp2
  go_ret
  exact ⟨rfl, rfl⟩
set_option maxRecDepth 100000 in
set_option maxHeartbeats 2000000 in
theorem kind9 (w : World) : Calls Tryd.prog 56 #[.string ⟨#[97, 115, 105, 100, 101]⟩] w fun e w' => e = .returned (.int .u8 1) ∧ w = w' := by
  go_enter Tryd.func56, Tryd.ntmps56
  go_big_wp2
  go_ret
  exact ⟨rfl, rfl⟩
set_option maxRecDepth 100000 in
set_option maxHeartbeats 2000000 in
theorem kind10 (w : World) : Calls Tryd.prog 56 #[.string ⟨#[98, 108, 111, 99, 107, 113, 117, 111, 116, 101]⟩] w fun e w' => e = .returned (.int .u8 1) ∧ w = w' := by
  go_enter Tryd.func56, Tryd.ntmps56
  go_big_wp2
  go_ret
  exact ⟨rfl, rfl⟩
set_option maxRecDepth 100000 in
set_option maxHeartbeats 2000000 in
theorem kind11 (w : World) : Calls Tryd.prog 56 #[.string ⟨#[102, 105, 103, 117, 114, 101]⟩] w fun e w' => e = .returned (.int .u8 1) ∧ w = w' := by
  go_enter Tryd.func56, Tryd.ntmps56
  go_big_wp2
  go_ret
  exact ⟨rfl, rfl⟩
set_option maxRecDepth 100000 in
set_option maxHeartbeats 2000000 in
theorem kind12 (w : World) : Calls Tryd.prog 56 #[.string ⟨#[112]⟩] w fun e w' => e = .returned (.int .u8 2) ∧ w = w' := by
  go_enter Tryd.func56, Tryd.ntmps56
  go_big_wp2
  go_ret
  exact ⟨rfl, rfl⟩
set_option maxRecDepth 100000 in
set_option maxHeartbeats 2000000 in
theorem kind13 (w : World) : Calls Tryd.prog 56 #[.string ⟨#[108, 105]⟩] w fun e w' => e = .returned (.int .u8 3) ∧ w = w' := by
  go_enter Tryd.func56, Tryd.ntmps56
  go_big_wp2
  go_ret
  exact ⟨rfl, rfl⟩
set_option maxRecDepth 100000 in
set_option maxHeartbeats 2000000 in
theorem kind14 (w : World) : Calls Tryd.prog 56 #[.string ⟨#[104, 49]⟩] w fun e w' => e = .returned (.int .u8 4) ∧ w = w' := by
  go_enter Tryd.func56, Tryd.ntmps56
  go_big_wp2
  go_ret
  exact ⟨rfl, rfl⟩
set_option maxRecDepth 100000 in
set_option maxHeartbeats 2000000 in
theorem kind15 (w : World) : Calls Tryd.prog 56 #[.string ⟨#[104, 50]⟩] w fun e w' => e = .returned (.int .u8 4) ∧ w = w' := by
  go_enter Tryd.func56, Tryd.ntmps56
  go_big_wp2
  go_ret
  exact ⟨rfl, rfl⟩
set_option maxRecDepth 100000 in
set_option maxHeartbeats 2000000 in
theorem kind16 (w : World) : Calls Tryd.prog 56 #[.string ⟨#[104, 51]⟩] w fun e w' => e = .returned (.int .u8 4) ∧ w = w' := by
  go_enter Tryd.func56, Tryd.ntmps56
  go_big_wp2
  go_ret
  exact ⟨rfl, rfl⟩
set_option maxRecDepth 100000 in
set_option maxHeartbeats 2000000 in
theorem kind17 (w : World) : Calls Tryd.prog 56 #[.string ⟨#[104, 52]⟩] w fun e w' => e = .returned (.int .u8 4) ∧ w = w' := by
  go_enter Tryd.func56, Tryd.ntmps56
  go_big_wp2
  go_ret
  exact ⟨rfl, rfl⟩
set_option maxRecDepth 100000 in
set_option maxHeartbeats 2000000 in
theorem kind18 (w : World) : Calls Tryd.prog 56 #[.string ⟨#[104, 53]⟩] w fun e w' => e = .returned (.int .u8 4) ∧ w = w' := by
  go_enter Tryd.func56, Tryd.ntmps56
  go_big_wp2
  go_ret
  exact ⟨rfl, rfl⟩
set_option maxRecDepth 100000 in
set_option maxHeartbeats 2000000 in
theorem kind19 (w : World) : Calls Tryd.prog 56 #[.string ⟨#[104, 54]⟩] w fun e w' => e = .returned (.int .u8 4) ∧ w = w' := by
  go_enter Tryd.func56, Tryd.ntmps56
  go_big_wp2
  go_ret
  exact ⟨rfl, rfl⟩
set_option maxRecDepth 100000 in
set_option maxHeartbeats 2000000 in
theorem kind20 (w : World) : Calls Tryd.prog 56 #[.string ⟨#[115, 112, 97, 110]⟩] w fun e w' => e = .returned (.int .u8 5) ∧ w = w' := by
  go_enter Tryd.func56, Tryd.ntmps56
  go_big_wp2
  go_ret
  exact ⟨rfl, rfl⟩
set_option maxRecDepth 100000 in
set_option maxHeartbeats 2000000 in
theorem kind21 (w : World) : Calls Tryd.prog 56 #[.string ⟨#[98]⟩] w fun e w' => e = .returned (.int .u8 5) ∧ w = w' := by
  go_enter Tryd.func56, Tryd.ntmps56
  go_big_wp2
  go_ret
  exact ⟨rfl, rfl⟩
set_option maxRecDepth 100000 in
set_option maxHeartbeats 2000000 in
theorem kind22 (w : World) : Calls Tryd.prog 56 #[.string ⟨#[105]⟩] w fun e w' => e = .returned (.int .u8 5) ∧ w = w' := by
  go_enter Tryd.func56, Tryd.ntmps56
  go_big_wp2
  go_ret
  exact ⟨rfl, rfl⟩
set_option maxRecDepth 100000 in
set_option maxHeartbeats 2000000 in
theorem kind23 (w : World) : Calls Tryd.prog 56 #[.string ⟨#[101, 109]⟩] w fun e w' => e = .returned (.int .u8 5) ∧ w = w' := by
  go_enter Tryd.func56, Tryd.ntmps56
  go_big_wp2
  go_ret
  exact ⟨rfl, rfl⟩
set_option maxRecDepth 100000 in
set_option maxHeartbeats 2000000 in
theorem kind24 (w : World) : Calls Tryd.prog 56 #[.string ⟨#[115, 116, 114, 111, 110, 103]⟩] w fun e w' => e = .returned (.int .u8 5) ∧ w = w' := by
  go_enter Tryd.func56, Tryd.ntmps56
  go_big_wp2
  go_ret
  exact ⟨rfl, rfl⟩
set_option maxRecDepth 100000 in
set_option maxHeartbeats 2000000 in
theorem kind25 (w : World) : Calls Tryd.prog 56 #[.string ⟨#[117]⟩] w fun e w' => e = .returned (.int .u8 5) ∧ w = w' := by
  go_enter Tryd.func56, Tryd.ntmps56
  go_big_wp2
  go_ret
  exact ⟨rfl, rfl⟩
set_option maxRecDepth 100000 in
set_option maxHeartbeats 2000000 in
theorem kind26 (w : World) : Calls Tryd.prog 56 #[.string ⟨#[115]⟩] w fun e w' => e = .returned (.int .u8 5) ∧ w = w' := by
  go_enter Tryd.func56, Tryd.ntmps56
  go_big_wp2
  go_ret
  exact ⟨rfl, rfl⟩
set_option maxRecDepth 100000 in
set_option maxHeartbeats 2000000 in
theorem kind27 (w : World) : Calls Tryd.prog 56 #[.string ⟨#[115, 109, 97, 108, 108]⟩] w fun e w' => e = .returned (.int .u8 5) ∧ w = w' := by
  go_enter Tryd.func56, Tryd.ntmps56
  go_big_wp2
  go_ret
  exact ⟨rfl, rfl⟩
set_option maxRecDepth 100000 in
set_option maxHeartbeats 2000000 in
theorem kind28 (w : World) : Calls Tryd.prog 56 #[.string ⟨#[99, 111, 100, 101]⟩] w fun e w' => e = .returned (.int .u8 5) ∧ w = w' := by
  go_enter Tryd.func56, Tryd.ntmps56
  go_big_wp2
  go_ret
  exact ⟨rfl, rfl⟩
set_option maxRecDepth 100000 in
set_option maxHeartbeats 2000000 in
theorem kind29 (w : World) : Calls Tryd.prog 56 #[.string ⟨#[98, 100, 105]⟩] w fun e w' => e = .returned (.int .u8 5) ∧ w = w' := by
  go_enter Tryd.func56, Tryd.ntmps56
  go_big_wp2
  go_ret
  exact ⟨rfl, rfl⟩
set_option maxRecDepth 100000 in
set_option maxHeartbeats 2000000 in
theorem kind30 (w : World) : Calls Tryd.prog 56 #[.string ⟨#[98, 100, 111]⟩] w fun e w' => e = .returned (.int .u8 5) ∧ w = w' := by
  go_enter Tryd.func56, Tryd.ntmps56
  go_big_wp2
  go_ret
  exact ⟨rfl, rfl⟩
set_option maxRecDepth 100000 in
set_option maxHeartbeats 2000000 in
theorem kind31 (w : World) : Calls Tryd.prog 56 #[.string ⟨#[97, 98, 98, 114]⟩] w fun e w' => e = .returned (.int .u8 5) ∧ w = w' := by
  go_enter Tryd.func56, Tryd.ntmps56
  go_big_wp2
  go_ret
  exact ⟨rfl, rfl⟩
set_option maxRecDepth 100000 in
set_option maxHeartbeats 2000000 in
theorem kind32 (w : World) : Calls Tryd.prog 56 #[.string ⟨#[99, 105, 116, 101]⟩] w fun e w' => e = .returned (.int .u8 5) ∧ w = w' := by
  go_enter Tryd.func56, Tryd.ntmps56
  go_big_wp2
  go_ret
  exact ⟨rfl, rfl⟩
set_option maxRecDepth 100000 in
set_option maxHeartbeats 2000000 in
theorem kind33 (w : World) : Calls Tryd.prog 56 #[.string ⟨#[113]⟩] w fun e w' => e = .returned (.int .u8 5) ∧ w = w' := by
  go_enter Tryd.func56, Tryd.ntmps56
  go_big_wp2
  go_ret
  exact ⟨rfl, rfl⟩
set_option maxRecDepth 100000 in
set_option maxHeartbeats 2000000 in
theorem kind34 (w : World) : Calls Tryd.prog 56 #[.string ⟨#[115, 117, 98]⟩] w fun e w' => e = .returned (.int .u8 5) ∧ w = w' := by
  go_enter Tryd.func56, Tryd.ntmps56
  go_big_wp2
  go_ret
  exact ⟨rfl, rfl⟩
set_option maxRecDepth 100000 in
set_option maxHeartbeats 2000000 in
theorem kind35 (w : World) : Calls Tryd.prog 56 #[.string ⟨#[115, 117, 112]⟩] w fun e w' => e = .returned (.int .u8 5) ∧ w = w' := by
  go_enter Tryd.func56, Tryd.ntmps56
  go_big_wp2
  go_ret
  exact ⟨rfl, rfl⟩
set_option maxRecDepth 100000 in
set_option maxHeartbeats 2000000 in
theorem kind36 (w : World) : Calls Tryd.prog 56 #[.string ⟨#[109, 97, 114, 107]⟩] w fun e w' => e = .returned (.int .u8 5) ∧ w = w' := by
  go_enter Tryd.func56, Tryd.ntmps56
  go_big_wp2
  go_ret
  exact ⟨rfl, rfl⟩
set_option maxRecDepth 100000 in
set_option maxHeartbeats 2000000 in
theorem kind37 (w : World) : Calls Tryd.prog 56 #[.string ⟨#[97]⟩] w fun e w' => e = .returned (.int .u8 6) ∧ w = w' := by
  go_enter Tryd.func56, Tryd.ntmps56
  go_big_wp2
  go_ret
  exact ⟨rfl, rfl⟩
set_option maxRecDepth 100000 in
set_option maxHeartbeats 2000000 in
theorem kind38 (w : World) : Calls Tryd.prog 56 #[.string ⟨#[98, 114]⟩] w fun e w' => e = .returned (.int .u8 7) ∧ w = w' := by
  go_enter Tryd.func56, Tryd.ntmps56
  go_big_wp2
  go_ret
  exact ⟨rfl, rfl⟩
set_option maxRecDepth 100000 in
set_option maxHeartbeats 2000000 in
theorem kind39 (w : World) : Calls Tryd.prog 56 #[.string ⟨#[119, 98, 114]⟩] w fun e w' => e = .returned (.int .u8 7) ∧ w = w' := by
  go_enter Tryd.func56, Tryd.ntmps56
  go_big_wp2
  go_ret
  exact ⟨rfl, rfl⟩
set_option maxRecDepth 100000 in
set_option maxHeartbeats 2000000 in
theorem kind40 (w : World) : Calls Tryd.prog 56 #[.string ⟨#[104, 114]⟩] w fun e w' => e = .returned (.int .u8 8) ∧ w = w' := by
  go_enter Tryd.func56, Tryd.ntmps56
  go_big_wp2
  go_ret
  exact ⟨rfl, rfl⟩
set_option maxRecDepth 100000 in
set_option maxHeartbeats 8000000 in
theorem kindNone (nm : ByteArray) (w : World) (h0 : ¬ bl nm = [100, 105, 118]) (h1 : ¬ bl nm = [117, 108]) (h2 : ¬ bl nm = [111, 108]) (h3 : ¬ bl nm = [115, 101, 99, 116, 105, 111, 110]) (h4 : ¬ bl nm = [97, 114, 116, 105, 99, 108, 101]) (h5 : ¬ bl nm = [104, 101, 97, 100, 101, 114]) (h6 : ¬ bl nm = [102, 111, 111, 116, 101, 114]) (h7 : ¬ bl nm = [109, 97, 105, 110]) (h8 : ¬ bl nm = [110, 97, 118]) (h9 : ¬ bl nm = [97, 115, 105, 100, 101]) (h10 : ¬ bl nm = [98, 108, 111, 99, 107, 113, 117, 111, 116, 101]) (h11 : ¬ bl nm = [102, 105, 103, 117, 114, 101]) (h12 : ¬ bl nm = [112]) (h13 : ¬ bl nm = [108, 105]) (h14 : ¬ bl nm = [104, 49]) (h15 : ¬ bl nm = [104, 50]) (h16 : ¬ bl nm = [104, 51]) (h17 : ¬ bl nm = [104, 52]) (h18 : ¬ bl nm = [104, 53]) (h19 : ¬ bl nm = [104, 54]) (h20 : ¬ bl nm = [115, 112, 97, 110]) (h21 : ¬ bl nm = [98]) (h22 : ¬ bl nm = [105]) (h23 : ¬ bl nm = [101, 109]) (h24 : ¬ bl nm = [115, 116, 114, 111, 110, 103]) (h25 : ¬ bl nm = [117]) (h26 : ¬ bl nm = [115]) (h27 : ¬ bl nm = [115, 109, 97, 108, 108]) (h28 : ¬ bl nm = [99, 111, 100, 101]) (h29 : ¬ bl nm = [98, 100, 105]) (h30 : ¬ bl nm = [98, 100, 111]) (h31 : ¬ bl nm = [97, 98, 98, 114]) (h32 : ¬ bl nm = [99, 105, 116, 101]) (h33 : ¬ bl nm = [113]) (h34 : ¬ bl nm = [115, 117, 98]) (h35 : ¬ bl nm = [115, 117, 112]) (h36 : ¬ bl nm = [109, 97, 114, 107]) (h37 : ¬ bl nm = [97]) (h38 : ¬ bl nm = [98, 114]) (h39 : ¬ bl nm = [119, 98, 114]) (h40 : ¬ bl nm = [104, 114]) : Calls Tryd.prog 56 #[.string nm] w fun e w' => e = .returned (.int .u8 0) ∧ w = w' := by
  rw [show bl nm = nm.toList from (Lib.toList_data nm).symm] at h0
  have g0 : (nm.toList == [100, 105, 118]) = false := beq_eq_false_iff_ne.2 h0
  rw [show bl nm = nm.toList from (Lib.toList_data nm).symm] at h1
  have g1 : (nm.toList == [117, 108]) = false := beq_eq_false_iff_ne.2 h1
  rw [show bl nm = nm.toList from (Lib.toList_data nm).symm] at h2
  have g2 : (nm.toList == [111, 108]) = false := beq_eq_false_iff_ne.2 h2
  rw [show bl nm = nm.toList from (Lib.toList_data nm).symm] at h3
  have g3 : (nm.toList == [115, 101, 99, 116, 105, 111, 110]) = false := beq_eq_false_iff_ne.2 h3
  rw [show bl nm = nm.toList from (Lib.toList_data nm).symm] at h4
  have g4 : (nm.toList == [97, 114, 116, 105, 99, 108, 101]) = false := beq_eq_false_iff_ne.2 h4
  rw [show bl nm = nm.toList from (Lib.toList_data nm).symm] at h5
  have g5 : (nm.toList == [104, 101, 97, 100, 101, 114]) = false := beq_eq_false_iff_ne.2 h5
  rw [show bl nm = nm.toList from (Lib.toList_data nm).symm] at h6
  have g6 : (nm.toList == [102, 111, 111, 116, 101, 114]) = false := beq_eq_false_iff_ne.2 h6
  rw [show bl nm = nm.toList from (Lib.toList_data nm).symm] at h7
  have g7 : (nm.toList == [109, 97, 105, 110]) = false := beq_eq_false_iff_ne.2 h7
  rw [show bl nm = nm.toList from (Lib.toList_data nm).symm] at h8
  have g8 : (nm.toList == [110, 97, 118]) = false := beq_eq_false_iff_ne.2 h8
  rw [show bl nm = nm.toList from (Lib.toList_data nm).symm] at h9
  have g9 : (nm.toList == [97, 115, 105, 100, 101]) = false := beq_eq_false_iff_ne.2 h9
  rw [show bl nm = nm.toList from (Lib.toList_data nm).symm] at h10
  have g10 : (nm.toList == [98, 108, 111, 99, 107, 113, 117, 111, 116, 101]) = false := beq_eq_false_iff_ne.2 h10
  rw [show bl nm = nm.toList from (Lib.toList_data nm).symm] at h11
  have g11 : (nm.toList == [102, 105, 103, 117, 114, 101]) = false := beq_eq_false_iff_ne.2 h11
  rw [show bl nm = nm.toList from (Lib.toList_data nm).symm] at h12
  have g12 : (nm.toList == [112]) = false := beq_eq_false_iff_ne.2 h12
  rw [show bl nm = nm.toList from (Lib.toList_data nm).symm] at h13
  have g13 : (nm.toList == [108, 105]) = false := beq_eq_false_iff_ne.2 h13
  rw [show bl nm = nm.toList from (Lib.toList_data nm).symm] at h14
  have g14 : (nm.toList == [104, 49]) = false := beq_eq_false_iff_ne.2 h14
  rw [show bl nm = nm.toList from (Lib.toList_data nm).symm] at h15
  have g15 : (nm.toList == [104, 50]) = false := beq_eq_false_iff_ne.2 h15
  rw [show bl nm = nm.toList from (Lib.toList_data nm).symm] at h16
  have g16 : (nm.toList == [104, 51]) = false := beq_eq_false_iff_ne.2 h16
  rw [show bl nm = nm.toList from (Lib.toList_data nm).symm] at h17
  have g17 : (nm.toList == [104, 52]) = false := beq_eq_false_iff_ne.2 h17
  rw [show bl nm = nm.toList from (Lib.toList_data nm).symm] at h18
  have g18 : (nm.toList == [104, 53]) = false := beq_eq_false_iff_ne.2 h18
  rw [show bl nm = nm.toList from (Lib.toList_data nm).symm] at h19
  have g19 : (nm.toList == [104, 54]) = false := beq_eq_false_iff_ne.2 h19
  rw [show bl nm = nm.toList from (Lib.toList_data nm).symm] at h20
  have g20 : (nm.toList == [115, 112, 97, 110]) = false := beq_eq_false_iff_ne.2 h20
  rw [show bl nm = nm.toList from (Lib.toList_data nm).symm] at h21
  have g21 : (nm.toList == [98]) = false := beq_eq_false_iff_ne.2 h21
  rw [show bl nm = nm.toList from (Lib.toList_data nm).symm] at h22
  have g22 : (nm.toList == [105]) = false := beq_eq_false_iff_ne.2 h22
  rw [show bl nm = nm.toList from (Lib.toList_data nm).symm] at h23
  have g23 : (nm.toList == [101, 109]) = false := beq_eq_false_iff_ne.2 h23
  rw [show bl nm = nm.toList from (Lib.toList_data nm).symm] at h24
  have g24 : (nm.toList == [115, 116, 114, 111, 110, 103]) = false := beq_eq_false_iff_ne.2 h24
  rw [show bl nm = nm.toList from (Lib.toList_data nm).symm] at h25
  have g25 : (nm.toList == [117]) = false := beq_eq_false_iff_ne.2 h25
  rw [show bl nm = nm.toList from (Lib.toList_data nm).symm] at h26
  have g26 : (nm.toList == [115]) = false := beq_eq_false_iff_ne.2 h26
  rw [show bl nm = nm.toList from (Lib.toList_data nm).symm] at h27
  have g27 : (nm.toList == [115, 109, 97, 108, 108]) = false := beq_eq_false_iff_ne.2 h27
  rw [show bl nm = nm.toList from (Lib.toList_data nm).symm] at h28
  have g28 : (nm.toList == [99, 111, 100, 101]) = false := beq_eq_false_iff_ne.2 h28
  rw [show bl nm = nm.toList from (Lib.toList_data nm).symm] at h29
  have g29 : (nm.toList == [98, 100, 105]) = false := beq_eq_false_iff_ne.2 h29
  rw [show bl nm = nm.toList from (Lib.toList_data nm).symm] at h30
  have g30 : (nm.toList == [98, 100, 111]) = false := beq_eq_false_iff_ne.2 h30
  rw [show bl nm = nm.toList from (Lib.toList_data nm).symm] at h31
  have g31 : (nm.toList == [97, 98, 98, 114]) = false := beq_eq_false_iff_ne.2 h31
  rw [show bl nm = nm.toList from (Lib.toList_data nm).symm] at h32
  have g32 : (nm.toList == [99, 105, 116, 101]) = false := beq_eq_false_iff_ne.2 h32
  rw [show bl nm = nm.toList from (Lib.toList_data nm).symm] at h33
  have g33 : (nm.toList == [113]) = false := beq_eq_false_iff_ne.2 h33
  rw [show bl nm = nm.toList from (Lib.toList_data nm).symm] at h34
  have g34 : (nm.toList == [115, 117, 98]) = false := beq_eq_false_iff_ne.2 h34
  rw [show bl nm = nm.toList from (Lib.toList_data nm).symm] at h35
  have g35 : (nm.toList == [115, 117, 112]) = false := beq_eq_false_iff_ne.2 h35
  rw [show bl nm = nm.toList from (Lib.toList_data nm).symm] at h36
  have g36 : (nm.toList == [109, 97, 114, 107]) = false := beq_eq_false_iff_ne.2 h36
  rw [show bl nm = nm.toList from (Lib.toList_data nm).symm] at h37
  have g37 : (nm.toList == [97]) = false := beq_eq_false_iff_ne.2 h37
  rw [show bl nm = nm.toList from (Lib.toList_data nm).symm] at h38
  have g38 : (nm.toList == [98, 114]) = false := beq_eq_false_iff_ne.2 h38
  rw [show bl nm = nm.toList from (Lib.toList_data nm).symm] at h39
  have g39 : (nm.toList == [119, 98, 114]) = false := beq_eq_false_iff_ne.2 h39
  rw [show bl nm = nm.toList from (Lib.toList_data nm).symm] at h40
  have g40 : (nm.toList == [104, 114]) = false := beq_eq_false_iff_ne.2 h40
  go_enter Tryd.func56, Tryd.ntmps56
  go_big_wp2
  go_ret
  exact ⟨rfl, rfl⟩
theorem kind_any (nm : ByteArray) (w : World) : Calls Tryd.prog 56 #[.string nm] w fun e w' => e = .returned (.int .u8 ((kindL (bl nm) : Nat) : Int)) ∧ w = w' := by
  by_cases h0 : bl nm = [100, 105, 118]
  · rw [h0, show nm = ⟨#[100, 105, 118]⟩ from bl_eq h0]
    exact kind0 w
  by_cases h1 : bl nm = [117, 108]
  · rw [h1, show nm = ⟨#[117, 108]⟩ from bl_eq h1]
    exact kind1 w
  by_cases h2 : bl nm = [111, 108]
  · rw [h2, show nm = ⟨#[111, 108]⟩ from bl_eq h2]
    exact kind2 w
  by_cases h3 : bl nm = [115, 101, 99, 116, 105, 111, 110]
  · rw [h3, show nm = ⟨#[115, 101, 99, 116, 105, 111, 110]⟩ from bl_eq h3]
    exact kind3 w
  by_cases h4 : bl nm = [97, 114, 116, 105, 99, 108, 101]
  · rw [h4, show nm = ⟨#[97, 114, 116, 105, 99, 108, 101]⟩ from bl_eq h4]
    exact kind4 w
  by_cases h5 : bl nm = [104, 101, 97, 100, 101, 114]
  · rw [h5, show nm = ⟨#[104, 101, 97, 100, 101, 114]⟩ from bl_eq h5]
    exact kind5 w
  by_cases h6 : bl nm = [102, 111, 111, 116, 101, 114]
  · rw [h6, show nm = ⟨#[102, 111, 111, 116, 101, 114]⟩ from bl_eq h6]
    exact kind6 w
  by_cases h7 : bl nm = [109, 97, 105, 110]
  · rw [h7, show nm = ⟨#[109, 97, 105, 110]⟩ from bl_eq h7]
    exact kind7 w
  by_cases h8 : bl nm = [110, 97, 118]
  · rw [h8, show nm = ⟨#[110, 97, 118]⟩ from bl_eq h8]
    exact kind8 w
  by_cases h9 : bl nm = [97, 115, 105, 100, 101]
  · rw [h9, show nm = ⟨#[97, 115, 105, 100, 101]⟩ from bl_eq h9]
    exact kind9 w
  by_cases h10 : bl nm = [98, 108, 111, 99, 107, 113, 117, 111, 116, 101]
  · rw [h10, show nm = ⟨#[98, 108, 111, 99, 107, 113, 117, 111, 116, 101]⟩ from bl_eq h10]
    exact kind10 w
  by_cases h11 : bl nm = [102, 105, 103, 117, 114, 101]
  · rw [h11, show nm = ⟨#[102, 105, 103, 117, 114, 101]⟩ from bl_eq h11]
    exact kind11 w
  by_cases h12 : bl nm = [112]
  · rw [h12, show nm = ⟨#[112]⟩ from bl_eq h12]
    exact kind12 w
  by_cases h13 : bl nm = [108, 105]
  · rw [h13, show nm = ⟨#[108, 105]⟩ from bl_eq h13]
    exact kind13 w
  by_cases h14 : bl nm = [104, 49]
  · rw [h14, show nm = ⟨#[104, 49]⟩ from bl_eq h14]
    exact kind14 w
  by_cases h15 : bl nm = [104, 50]
  · rw [h15, show nm = ⟨#[104, 50]⟩ from bl_eq h15]
    exact kind15 w
  by_cases h16 : bl nm = [104, 51]
  · rw [h16, show nm = ⟨#[104, 51]⟩ from bl_eq h16]
    exact kind16 w
  by_cases h17 : bl nm = [104, 52]
  · rw [h17, show nm = ⟨#[104, 52]⟩ from bl_eq h17]
    exact kind17 w
  by_cases h18 : bl nm = [104, 53]
  · rw [h18, show nm = ⟨#[104, 53]⟩ from bl_eq h18]
    exact kind18 w
  by_cases h19 : bl nm = [104, 54]
  · rw [h19, show nm = ⟨#[104, 54]⟩ from bl_eq h19]
    exact kind19 w
  by_cases h20 : bl nm = [115, 112, 97, 110]
  · rw [h20, show nm = ⟨#[115, 112, 97, 110]⟩ from bl_eq h20]
    exact kind20 w
  by_cases h21 : bl nm = [98]
  · rw [h21, show nm = ⟨#[98]⟩ from bl_eq h21]
    exact kind21 w
  by_cases h22 : bl nm = [105]
  · rw [h22, show nm = ⟨#[105]⟩ from bl_eq h22]
    exact kind22 w
  by_cases h23 : bl nm = [101, 109]
  · rw [h23, show nm = ⟨#[101, 109]⟩ from bl_eq h23]
    exact kind23 w
  by_cases h24 : bl nm = [115, 116, 114, 111, 110, 103]
  · rw [h24, show nm = ⟨#[115, 116, 114, 111, 110, 103]⟩ from bl_eq h24]
    exact kind24 w
  by_cases h25 : bl nm = [117]
  · rw [h25, show nm = ⟨#[117]⟩ from bl_eq h25]
    exact kind25 w
  by_cases h26 : bl nm = [115]
  · rw [h26, show nm = ⟨#[115]⟩ from bl_eq h26]
    exact kind26 w
  by_cases h27 : bl nm = [115, 109, 97, 108, 108]
  · rw [h27, show nm = ⟨#[115, 109, 97, 108, 108]⟩ from bl_eq h27]
    exact kind27 w
  by_cases h28 : bl nm = [99, 111, 100, 101]
  · rw [h28, show nm = ⟨#[99, 111, 100, 101]⟩ from bl_eq h28]
    exact kind28 w
  by_cases h29 : bl nm = [98, 100, 105]
  · rw [h29, show nm = ⟨#[98, 100, 105]⟩ from bl_eq h29]
    exact kind29 w
  by_cases h30 : bl nm = [98, 100, 111]
  · rw [h30, show nm = ⟨#[98, 100, 111]⟩ from bl_eq h30]
    exact kind30 w
  by_cases h31 : bl nm = [97, 98, 98, 114]
  · rw [h31, show nm = ⟨#[97, 98, 98, 114]⟩ from bl_eq h31]
    exact kind31 w
  by_cases h32 : bl nm = [99, 105, 116, 101]
  · rw [h32, show nm = ⟨#[99, 105, 116, 101]⟩ from bl_eq h32]
    exact kind32 w
  by_cases h33 : bl nm = [113]
  · rw [h33, show nm = ⟨#[113]⟩ from bl_eq h33]
    exact kind33 w
  by_cases h34 : bl nm = [115, 117, 98]
  · rw [h34, show nm = ⟨#[115, 117, 98]⟩ from bl_eq h34]
    exact kind34 w
  by_cases h35 : bl nm = [115, 117, 112]
  · rw [h35, show nm = ⟨#[115, 117, 112]⟩ from bl_eq h35]
    exact kind35 w
  by_cases h36 : bl nm = [109, 97, 114, 107]
  · rw [h36, show nm = ⟨#[109, 97, 114, 107]⟩ from bl_eq h36]
    exact kind36 w
  by_cases h37 : bl nm = [97]
  · rw [h37, show nm = ⟨#[97]⟩ from bl_eq h37]
    exact kind37 w
  by_cases h38 : bl nm = [98, 114]
  · rw [h38, show nm = ⟨#[98, 114]⟩ from bl_eq h38]
    exact kind38 w
  by_cases h39 : bl nm = [119, 98, 114]
  · rw [h39, show nm = ⟨#[119, 98, 114]⟩ from bl_eq h39]
    exact kind39 w
  by_cases h40 : bl nm = [104, 114]
  · rw [h40, show nm = ⟨#[104, 114]⟩ from bl_eq h40]
    exact kind40 w
  have h0' : kindL (bl nm) = 0 := by
    unfold kindL
    rw [show (kindTab.find? fun p => p.1 == bl nm) = none from ?_]
    · rfl
    · rw [List.find?_eq_none]
      intro p hp
      simp only [kindTab, List.mem_cons, List.not_mem_nil, or_false] at hp
      rcases hp with rfl | rfl | rfl | rfl | rfl | rfl | rfl | rfl | rfl | rfl | rfl | rfl | rfl | rfl | rfl | rfl | rfl | rfl | rfl | rfl | rfl | rfl | rfl | rfl | rfl | rfl | rfl | rfl | rfl | rfl | rfl | rfl | rfl | rfl | rfl | rfl | rfl | rfl | rfl | rfl | rfl
      all_goals (simp only [beq_iff_eq]; intro e; exact absurd e.symm (by assumption))
  rw [h0']
  exact kindNone nm w h0 h1 h2 h3 h4 h5 h6 h7 h8 h9 h10 h11 h12 h13 h14 h15 h16 h17 h18 h19 h20 h21 h22 h23 h24 h25 h26 h27 h28 h29 h30 h31 h32 h33 h34 h35 h36 h37 h38 h39 h40
end Go.Proofs.YtkfmfldkllkcbabDoor

