/-
  Kind of package tree: the kinds of elements. Conditions: none.
  tag of the builder of package tree, by contract. Conditions: as for start.
  take of the builder of package tree, by contract. Conditions: as for tag and text.
  The builder's bounds, and the loop of Build, over lists. Conditions: none.
-/
import Derived.Test.YtnfkndaggcklkaaGreatDoorPA10
import Derived.Test.YtnfkndaggcklkaaGreatDoorPA13
namespace Go.Proofs.YtnfkndaggcklkaaGreatDoor
open Go.RowKit Go.RunKit Go.CharrefKit Go.Lib Go.TokenKit Go.TreeKit

set_option maxRecDepth 100000 in
set_option maxHeartbeats 2000000 in
theorem kind0 (w : World) : Calls Tryz.prog 52 #[.string ⟨#[100, 105, 118]⟩] w fun e w' => e = .returned (.int .u8 1) ∧ w = w' := by
  go_enter Tryz.func52, Tryz.ntmps52
  go_big_wp2
  go_ret
  exact ⟨rfl, rfl⟩
set_option maxRecDepth 100000 in
set_option maxHeartbeats 2000000 in
theorem kind1 (w : World) : Calls Tryz.prog 52 #[.string ⟨#[117, 108]⟩] w fun e w' => e = .returned (.int .u8 1) ∧ w = w' := by
  go_enter Tryz.func52, Tryz.ntmps52
  go_big_wp2
  go_ret
  exact ⟨rfl, rfl⟩
set_option maxRecDepth 100000 in
set_option maxHeartbeats 2000000 in
theorem kind2 (w : World) : Calls Tryz.prog 52 #[.string ⟨#[111, 108]⟩] w fun e w' => e = .returned (.int .u8 1) ∧ w = w' := by
  go_enter Tryz.func52, Tryz.ntmps52
  go_big_wp2
  go_ret
  exact ⟨rfl, rfl⟩
set_option maxRecDepth 100000 in
set_option maxHeartbeats 2000000 in
theorem kind3 (w : World) : Calls Tryz.prog 52 #[.string ⟨#[115, 101, 99, 116, 105, 111, 110]⟩] w fun e w' => e = .returned (.int .u8 1) ∧ w = w' := by
  go_enter Tryz.func52, Tryz.ntmps52
  go_big_wp2
  go_ret
  exact ⟨rfl, rfl⟩
set_option maxRecDepth 100000 in
set_option maxHeartbeats 2000000 in
theorem kind4 (w : World) : Calls Tryz.prog 52 #[.string ⟨#[97, 114, 116, 105, 99, 108, 101]⟩] w fun e w' => e = .returned (.int .u8 1) ∧ w = w' := by
  go_enter Tryz.func52, Tryz.ntmps52
  go_big_wp2
  go_ret
  exact ⟨rfl, rfl⟩
set_option maxRecDepth 100000 in
set_option maxHeartbeats 2000000 in
theorem kind5 (w : World) : Calls Tryz.prog 52 #[.string ⟨#[104, 101, 97, 100, 101, 114]⟩] w fun e w' => e = .returned (.int .u8 1) ∧ w = w' := by
  go_enter Tryz.func52, Tryz.ntmps52
  go_big_wp2
  go_ret
  exact ⟨rfl, rfl⟩
set_option maxRecDepth 100000 in
set_option maxHeartbeats 2000000 in
theorem kind6 (w : World) : Calls Tryz.prog 52 #[.string ⟨#[102, 111, 111, 116, 101, 114]⟩] w fun e w' => e = .returned (.int .u8 1) ∧ w = w' := by
  go_enter Tryz.func52, Tryz.ntmps52
  go_big_wp2
  go_ret
  exact ⟨rfl, rfl⟩
set_option maxRecDepth 100000 in
set_option maxHeartbeats 2000000 in
theorem kind7 (w : World) : Calls Tryz.prog 52 #[.string ⟨#[109, 97, 105, 110]⟩] w fun e w' => e = .returned (.int .u8 1) ∧ w = w' := by
  go_enter Tryz.func52, Tryz.ntmps52
  go_big_wp2
  go_ret
  exact ⟨rfl, rfl⟩
set_option maxRecDepth 100000 in
set_option maxHeartbeats 2000000 in
theorem kind8 (w : World) : Calls Tryz.prog 52 #[.string ⟨#[110, 97, 118]⟩] w fun e w' => e = .returned (.int .u8 1) ∧ w = w' := by
  go_enter Tryz.func52, Tryz.ntmps52
  go_big_wp2
  go_ret
  exact ⟨rfl, rfl⟩
set_option maxRecDepth 100000 in
set_option maxHeartbeats 2000000 in
theorem kind9 (w : World) : Calls Tryz.prog 52 #[.string ⟨#[97, 115, 105, 100, 101]⟩] w fun e w' => e = .returned (.int .u8 1) ∧ w = w' := by
  go_enter Tryz.func52, Tryz.ntmps52
  go_big_wp2
  go_ret
  exact ⟨rfl, rfl⟩
set_option maxRecDepth 100000 in
set_option maxHeartbeats 2000000 in
theorem kind10 (w : World) : Calls Tryz.prog 52 #[.string ⟨#[98, 108, 111, 99, 107, 113, 117, 111, 116, 101]⟩] w fun e w' => e = .returned (.int .u8 1) ∧ w = w' := by
  go_enter Tryz.func52, Tryz.ntmps52
  go_big_wp2
  go_ret
  exact ⟨rfl, rfl⟩
set_option maxRecDepth 100000 in
set_option maxHeartbeats 2000000 in
theorem kind11 (w : World) : Calls Tryz.prog 52 #[.string ⟨#[102, 105, 103, 117, 114, 101]⟩] w fun e w' => e = .returned (.int .u8 1) ∧ w = w' := by
  go_enter Tryz.func52, Tryz.ntmps52
  go_big_wp2
  go_ret
  exact ⟨rfl, rfl⟩
set_option maxRecDepth 100000 in
set_option maxHeartbeats 2000000 in
theorem kind12 (w : World) : Calls Tryz.prog 52 #[.string ⟨#[112]⟩] w fun e w' => e = .returned (.int .u8 2) ∧ w = w' := by
  go_enter Tryz.func52, Tryz.ntmps52
  go_big_wp2
  go_ret
  exact ⟨rfl, rfl⟩
set_option maxRecDepth 100000 in
set_option maxHeartbeats 2000000 in
theorem kind13 (w : World) : Calls Tryz.prog 52 #[.string ⟨#[108, 105]⟩] w fun e w' => e = .returned (.int .u8 3) ∧ w = w' := by
  go_enter Tryz.func52, Tryz.ntmps52
  go_big_wp2
  go_ret
  exact ⟨rfl, rfl⟩
set_option maxRecDepth 100000 in
set_option maxHeartbeats 2000000 in
theorem kind14 (w : World) : Calls Tryz.prog 52 #[.string ⟨#[104, 49]⟩] w fun e w' => e = .returned (.int .u8 4) ∧ w = w' := by
  go_enter Tryz.func52, Tryz.ntmps52
  go_big_wp2
  go_ret
  exact ⟨rfl, rfl⟩
set_option maxRecDepth 100000 in
set_option maxHeartbeats 2000000 in
theorem kind15 (w : World) : Calls Tryz.prog 52 #[.string ⟨#[104, 50]⟩] w fun e w' => e = .returned (.int .u8 4) ∧ w = w' := by
  go_enter Tryz.func52, Tryz.ntmps52
  go_big_wp2
  go_ret
  exact ⟨rfl, rfl⟩
set_option maxRecDepth 100000 in
set_option maxHeartbeats 2000000 in
theorem kind16 (w : World) : Calls Tryz.prog 52 #[.string ⟨#[104, 51]⟩] w fun e w' => e = .returned (.int .u8 4) ∧ w = w' := by
  go_enter Tryz.func52, Tryz.ntmps52
  go_big_wp2
  go_ret
  exact ⟨rfl, rfl⟩
set_option maxRecDepth 100000 in
set_option maxHeartbeats 2000000 in
theorem kind17 (w : World) : Calls Tryz.prog 52 #[.string ⟨#[104, 52]⟩] w fun e w' => e = .returned (.int .u8 4) ∧ w = w' := by
  go_enter Tryz.func52, Tryz.ntmps52
  go_big_wp2
  go_ret
  exact ⟨rfl, rfl⟩
set_option maxRecDepth 100000 in
set_option maxHeartbeats 2000000 in
theorem kind18 (w : World) : Calls Tryz.prog 52 #[.string ⟨#[104, 53]⟩] w fun e w' => e = .returned (.int .u8 4) ∧ w = w' := by
  go_enter Tryz.func52, Tryz.ntmps52
  go_big_wp2
  go_ret
  exact ⟨rfl, rfl⟩
set_option maxRecDepth 100000 in
set_option maxHeartbeats 2000000 in
theorem kind19 (w : World) : Calls Tryz.prog 52 #[.string ⟨#[104, 54]⟩] w fun e w' => e = .returned (.int .u8 4) ∧ w = w' := by
  go_enter Tryz.func52, Tryz.ntmps52
  go_big_wp2
  go_ret
  exact ⟨rfl, rfl⟩
set_option maxRecDepth 100000 in
set_option maxHeartbeats 2000000 in
theorem kind20 (w : World) : Calls Tryz.prog 52 #[.string ⟨#[115, 112, 97, 110]⟩] w fun e w' => e = .returned (.int .u8 5) ∧ w = w' := by
  go_enter Tryz.func52, Tryz.ntmps52
  go_big_wp2
  go_ret
  exact ⟨rfl, rfl⟩
set_option maxRecDepth 100000 in
set_option maxHeartbeats 2000000 in
theorem kind21 (w : World) : Calls Tryz.prog 52 #[.string ⟨#[98]⟩] w fun e w' => e = .returned (.int .u8 5) ∧ w = w' := by
  go_enter Tryz.func52, Tryz.ntmps52
  go_big_wp2
  go_ret
  exact ⟨rfl, rfl⟩
set_option maxRecDepth 100000 in
set_option maxHeartbeats 2000000 in
theorem kind22 (w : World) : Calls Tryz.prog 52 #[.string ⟨#[105]⟩] w fun e w' => e = .returned (.int .u8 5) ∧ w = w' := by
  go_enter Tryz.func52, Tryz.ntmps52
  go_big_wp2
  go_ret
  exact ⟨rfl, rfl⟩
set_option maxRecDepth 100000 in
set_option maxHeartbeats 2000000 in
theorem kind23 (w : World) : Calls Tryz.prog 52 #[.string ⟨#[101, 109]⟩] w fun e w' => e = .returned (.int .u8 5) ∧ w = w' := by
  go_enter Tryz.func52, Tryz.ntmps52
  go_big_wp2
  go_ret
  exact ⟨rfl, rfl⟩
set_option maxRecDepth 100000 in
set_option maxHeartbeats 2000000 in
theorem kind24 (w : World) : Calls Tryz.prog 52 #[.string ⟨#[115, 116, 114, 111, 110, 103]⟩] w fun e w' => e = .returned (.int .u8 5) ∧ w = w' := by
  go_enter Tryz.func52, Tryz.ntmps52
  go_big_wp2
  go_ret
  exact ⟨rfl, rfl⟩
set_option maxRecDepth 100000 in
set_option maxHeartbeats 2000000 in
theorem kind25 (w : World) : Calls Tryz.prog 52 #[.string ⟨#[117]⟩] w fun e w' => e = .returned (.int .u8 5) ∧ w = w' := by
  go_enter Tryz.func52, Tryz.ntmps52
  go_big_wp2
  go_ret
  exact ⟨rfl, rfl⟩
set_option maxRecDepth 100000 in
set_option maxHeartbeats 2000000 in
theorem kind26 (w : World) : Calls Tryz.prog 52 #[.string ⟨#[115]⟩] w fun e w' => e = .returned (.int .u8 5) ∧ w = w' := by
  go_enter Tryz.func52, Tryz.ntmps52
  go_big_wp2
  go_ret
  exact ⟨rfl, rfl⟩
set_option maxRecDepth 100000 in
set_option maxHeartbeats 2000000 in
theorem kind27 (w : World) : Calls Tryz.prog 52 #[.string ⟨#[115, 109, 97, 108, 108]⟩] w fun e w' => e = .returned (.int .u8 5) ∧ w = w' := by
  go_enter Tryz.func52, Tryz.ntmps52
  go_big_wp2
  go_ret
  exact ⟨rfl, rfl⟩
set_option maxRecDepth 100000 in
set_option maxHeartbeats 2000000 in
theorem kind28 (w : World) : Calls Tryz.prog 52 #[.string ⟨#[99, 111, 100, 101]⟩] w fun e w' => e = .returned (.int .u8 5) ∧ w = w' := by
  go_enter Tryz.func52, Tryz.ntmps52
  go_big_wp2
  go_ret
  exact ⟨rfl, rfl⟩
set_option maxRecDepth 100000 in
set_option maxHeartbeats 2000000 in
theorem kind29 (w : World) : Calls Tryz.prog 52 #[.string ⟨#[98, 100, 105]⟩] w fun e w' => e = .returned (.int .u8 5) ∧ w = w' := by
  go_enter Tryz.func52, Tryz.ntmps52
  go_big_wp2
  go_ret
  exact ⟨rfl, rfl⟩
set_option maxRecDepth 100000 in
set_option maxHeartbeats 2000000 in
theorem kind30 (w : World) : Calls Tryz.prog 52 #[.string ⟨#[98, 100, 111]⟩] w fun e w' => e = .returned (.int .u8 5) ∧ w = w' := by
  go_enter Tryz.func52, Tryz.ntmps52
  go_big_wp2
  go_ret
  exact ⟨rfl, rfl⟩
set_option maxRecDepth 100000 in
set_option maxHeartbeats 2000000 in
theorem kind31 (w : World) : Calls Tryz.prog 52 #[.string ⟨#[97, 98, 98, 114]⟩] w fun e w' => e = .returned (.int .u8 5) ∧ w = w' := by
  go_enter Tryz.func52, Tryz.ntmps52
  go_big_wp2
  go_ret
  exact ⟨rfl, rfl⟩
set_option maxRecDepth 100000 in
set_option maxHeartbeats 2000000 in
theorem kind32 (w : World) : Calls Tryz.prog 52 #[.string ⟨#[99, 105, 116, 101]⟩] w fun e w' => e = .returned (.int .u8 5) ∧ w = w' := by
  go_enter Tryz.func52, Tryz.ntmps52
  go_big_wp2
  go_ret
  exact ⟨rfl, rfl⟩
set_option maxRecDepth 100000 in
set_option maxHeartbeats 2000000 in
theorem kind33 (w : World) : Calls Tryz.prog 52 #[.string ⟨#[113]⟩] w fun e w' => e = .returned (.int .u8 5) ∧ w = w' := by
  go_enter Tryz.func52, Tryz.ntmps52
  go_big_wp2
  go_ret
  exact ⟨rfl, rfl⟩
set_option maxRecDepth 100000 in
set_option maxHeartbeats 2000000 in
theorem kind34 (w : World) : Calls Tryz.prog 52 #[.string ⟨#[115, 117, 98]⟩] w fun e w' => e = .returned (.int .u8 5) ∧ w = w' := by
  go_enter Tryz.func52, Tryz.ntmps52
  go_big_wp2
  go_ret
  exact ⟨rfl, rfl⟩
set_option maxRecDepth 100000 in
set_option maxHeartbeats 2000000 in
theorem kind35 (w : World) : Calls Tryz.prog 52 #[.string ⟨#[115, 117, 112]⟩] w fun e w' => e = .returned (.int .u8 5) ∧ w = w' := by
  go_enter Tryz.func52, Tryz.ntmps52
  go_big_wp2
  go_ret
  exact ⟨rfl, rfl⟩
set_option maxRecDepth 100000 in
set_option maxHeartbeats 2000000 in
theorem kind36 (w : World) : Calls Tryz.prog 52 #[.string ⟨#[109, 97, 114, 107]⟩] w fun e w' => e = .returned (.int .u8 5) ∧ w = w' := by
  go_enter Tryz.func52, Tryz.ntmps52
  go_big_wp2
  go_ret
  exact ⟨rfl, rfl⟩
set_option maxRecDepth 100000 in
set_option maxHeartbeats 2000000 in
theorem kind37 (w : World) : Calls Tryz.prog 52 #[.string ⟨#[97]⟩] w fun e w' => e = .returned (.int .u8 6) ∧ w = w' := by
  go_enter Tryz.func52, Tryz.ntmps52
  go_big_wp2
  go_ret
  exact ⟨rfl, rfl⟩
set_option maxRecDepth 100000 in
set_option maxHeartbeats 2000000 in
theorem kind38 (w : World) : Calls Tryz.prog 52 #[.string ⟨#[98, 114]⟩] w fun e w' => e = .returned (.int .u8 7) ∧ w = w' := by
  go_enter Tryz.func52, Tryz.ntmps52
  go_big_wp2
  go_ret
  exact ⟨rfl, rfl⟩
set_option maxRecDepth 100000 in
set_option maxHeartbeats 2000000 in
theorem kind39 (w : World) : Calls Tryz.prog 52 #[.string ⟨#[119, 98, 114]⟩] w fun e w' => e = .returned (.int .u8 7) ∧ w = w' := by
  go_enter Tryz.func52, Tryz.ntmps52
  go_big_wp2
  go_ret
  exact ⟨rfl, rfl⟩
set_option maxRecDepth 100000 in
set_option maxHeartbeats 2000000 in
theorem kind40 (w : World) : Calls Tryz.prog 52 #[.string ⟨#[104, 114]⟩] w fun e w' => e = .returned (.int .u8 8) ∧ w = w' := by
  go_enter Tryz.func52, Tryz.ntmps52
  go_big_wp2
  go_ret
  exact ⟨rfl, rfl⟩
set_option maxRecDepth 100000 in
set_option maxHeartbeats 8000000 in
theorem kindNone (nm : ByteArray) (w : World) (h0 : ¬ bl nm = [100, 105, 118]) (h1 : ¬ bl nm = [117, 108]) (h2 : ¬ bl nm = [111, 108]) (h3 : ¬ bl nm = [115, 101, 99, 116, 105, 111, 110]) (h4 : ¬ bl nm = [97, 114, 116, 105, 99, 108, 101]) (h5 : ¬ bl nm = [104, 101, 97, 100, 101, 114]) (h6 : ¬ bl nm = [102, 111, 111, 116, 101, 114]) (h7 : ¬ bl nm = [109, 97, 105, 110]) (h8 : ¬ bl nm = [110, 97, 118]) (h9 : ¬ bl nm = [97, 115, 105, 100, 101]) (h10 : ¬ bl nm = [98, 108, 111, 99, 107, 113, 117, 111, 116, 101]) (h11 : ¬ bl nm = [102, 105, 103, 117, 114, 101]) (h12 : ¬ bl nm = [112]) (h13 : ¬ bl nm = [108, 105]) (h14 : ¬ bl nm = [104, 49]) (h15 : ¬ bl nm = [104, 50]) (h16 : ¬ bl nm = [104, 51]) (h17 : ¬ bl nm = [104, 52]) (h18 : ¬ bl nm = [104, 53]) (h19 : ¬ bl nm = [104, 54]) (h20 : ¬ bl nm = [115, 112, 97, 110]) (h21 : ¬ bl nm = [98]) (h22 : ¬ bl nm = [105]) (h23 : ¬ bl nm = [101, 109]) (h24 : ¬ bl nm = [115, 116, 114, 111, 110, 103]) (h25 : ¬ bl nm = [117]) (h26 : ¬ bl nm = [115]) (h27 : ¬ bl nm = [115, 109, 97, 108, 108]) (h28 : ¬ bl nm = [99, 111, 100, 101]) (h29 : ¬ bl nm = [98, 100, 105]) (h30 : ¬ bl nm = [98, 100, 111]) (h31 : ¬ bl nm = [97, 98, 98, 114]) (h32 : ¬ bl nm = [99, 105, 116, 101]) (h33 : ¬ bl nm = [113]) (h34 : ¬ bl nm = [115, 117, 98]) (h35 : ¬ bl nm = [115, 117, 112]) (h36 : ¬ bl nm = [109, 97, 114, 107]) (h37 : ¬ bl nm = [97]) (h38 : ¬ bl nm = [98, 114]) (h39 : ¬ bl nm = [119, 98, 114]) (h40 : ¬ bl nm = [104, 114]) : Calls Tryz.prog 52 #[.string nm] w fun e w' => e = .returned (.int .u8 0) ∧ w = w' := by
  rw [show bl nm = nm.toList from (Lib.toList_data nm).symm] at h0
  have g0 : (nm.toList == [100, 105, 118]) = false := beq_eq_false_iff_ne.2 h0
  rw [show bl nm = nm.toList from (Lib.toList_data nm).symm] at h1
  have g1 : (nm.toList == [117, 108]) = false := beq_eq_false_iff_ne.2 h1
  rw [show bl nm = nm.toList from (Lib.toList_data nm).symm] at h2
  have g2 : (nm.toList == [111, 108]) = false := beq_eq_false_iff_ne.2 h2
  rw [show bl nm = nm.toList from (Lib.toList_data nm).symm] at h3
  have g3 : (nm.toList == [115, 101, 99, 116, 105, 111, 110]) = false := beq_eq_false_iff_ne.2 h3
  rw [show bl nm = nm.toList from (Lib.toList_data nm).symm] at h4
  have g4 : (nm.toList == [97, 114, 116, 105, 99, 108, 101]) = false := beq_eq_false_iff_ne.2 h4
  rw [show bl nm = nm.toList from (Lib.toList_data nm).symm] at h5
  have g5 : (nm.toList == [104, 101, 97, 100, 101, 114]) = false := beq_eq_false_iff_ne.2 h5
  rw [show bl nm = nm.toList from (Lib.toList_data nm).symm] at h6
  have g6 : (nm.toList == [102, 111, 111, 116, 101, 114]) = false := beq_eq_false_iff_ne.2 h6
  rw [show bl nm = nm.toList from (Lib.toList_data nm).symm] at h7
  have g7 : (nm.toList == [109, 97, 105, 110]) = false := beq_eq_false_iff_ne.2 h7
  rw [show bl nm = nm.toList from (Lib.toList_data nm).symm] at h8
  have g8 : (nm.toList == [110, 97, 118]) = false := beq_eq_false_iff_ne.2 h8
  rw [show bl nm = nm.toList from (Lib.toList_data nm).symm] at h9
  have g9 : (nm.toList == [97, 115, 105, 100, 101]) = false := beq_eq_false_iff_ne.2 h9
  rw [show bl nm = nm.toList from (Lib.toList_data nm).symm] at h10
  have g10 : (nm.toList == [98, 108, 111, 99, 107, 113, 117, 111, 116, 101]) = false := beq_eq_false_iff_ne.2 h10
  rw [show bl nm = nm.toList from (Lib.toList_data nm).symm] at h11
  have g11 : (nm.toList == [102, 105, 103, 117, 114, 101]) = false := beq_eq_false_iff_ne.2 h11
  rw [show bl nm = nm.toList from (Lib.toList_data nm).symm] at h12
  have g12 : (nm.toList == [112]) = false := beq_eq_false_iff_ne.2 h12
  rw [show bl nm = nm.toList from (Lib.toList_data nm).symm] at h13
  have g13 : (nm.toList == [108, 105]) = false := beq_eq_false_iff_ne.2 h13
  rw [show bl nm = nm.toList from (Lib.toList_data nm).symm] at h14
  have g14 : (nm.toList == [104, 49]) = false := beq_eq_false_iff_ne.2 h14
  rw [show bl nm = nm.toList from (Lib.toList_data nm).symm] at h15
  have g15 : (nm.toList == [104, 50]) = false := beq_eq_false_iff_ne.2 h15
  rw [show bl nm = nm.toList from (Lib.toList_data nm).symm] at h16
  have g16 : (nm.toList == [104, 51]) = false := beq_eq_false_iff_ne.2 h16
  rw [show bl nm = nm.toList from (Lib.toList_data nm).symm] at h17
  have g17 : (nm.toList == [104, 52]) = false := beq_eq_false_iff_ne.2 h17
  rw [show bl nm = nm.toList from (Lib.toList_data nm).symm] at h18
  have g18 : (nm.toList == [104, 53]) = false := beq_eq_false_iff_ne.2 h18
  rw [show bl nm = nm.toList from (Lib.toList_data nm).symm] at h19
  have g19 : (nm.toList == [104, 54]) = false := beq_eq_false_iff_ne.2 h19
  rw [show bl nm = nm.toList from (Lib.toList_data nm).symm] at h20
  have g20 : (nm.toList == [115, 112, 97, 110]) = false := beq_eq_false_iff_ne.2 h20
  rw [show bl nm = nm.toList from (Lib.toList_data nm).symm] at h21
  have g21 : (nm.toList == [98]) = false := beq_eq_false_iff_ne.2 h21
  rw [show bl nm = nm.toList from (Lib.toList_data nm).symm] at h22
  have g22 : (nm.toList == [105]) = false := beq_eq_false_iff_ne.2 h22
  rw [show bl nm = nm.toList from (Lib.toList_data nm).symm] at h23
  have g23 : (nm.toList == [101, 109]) = false := beq_eq_false_iff_ne.2 h23
  rw [show bl nm = nm.toList from (Lib.toList_data nm).symm] at h24
  have g24 : (nm.toList == [115, 116, 114, 111, 110, 103]) = false := beq_eq_false_iff_ne.2 h24
  rw [show bl nm = nm.toList from (Lib.toList_data nm).symm] at h25
  have g25 : (nm.toList == [117]) = false := beq_eq_false_iff_ne.2 h25
  rw [show bl nm = nm.toList from (Lib.toList_data nm).symm] at h26
  have g26 : (nm.toList == [115]) = false := beq_eq_false_iff_ne.2 h26
  rw [show bl nm = nm.toList from (Lib.toList_data nm).symm] at h27
  have g27 : (nm.toList == [115, 109, 97, 108, 108]) = false := beq_eq_false_iff_ne.2 h27
  rw [show bl nm = nm.toList from (Lib.toList_data nm).symm] at h28
  have g28 : (nm.toList == [99, 111, 100, 101]) = false := beq_eq_false_iff_ne.2 h28
  rw [show bl nm = nm.toList from (Lib.toList_data nm).symm] at h29
  have g29 : (nm.toList == [98, 100, 105]) = false := beq_eq_false_iff_ne.2 h29
  rw [show bl nm = nm.toList from (Lib.toList_data nm).symm] at h30
  have g30 : (nm.toList == [98, 100, 111]) = false := beq_eq_false_iff_ne.2 h30
  rw [show bl nm = nm.toList from (Lib.toList_data nm).symm] at h31
  have g31 : (nm.toList == [97, 98, 98, 114]) = false := beq_eq_false_iff_ne.2 h31
  rw [show bl nm = nm.toList from (Lib.toList_data nm).symm] at h32
  have g32 : (nm.toList == [99, 105, 116, 101]) = false := beq_eq_false_iff_ne.2 h32
  rw [show bl nm = nm.toList from (Lib.toList_data nm).symm] at h33
  have g33 : (nm.toList == [113]) = false := beq_eq_false_iff_ne.2 h33
  rw [show bl nm = nm.toList from (Lib.toList_data nm).symm] at h34
  have g34 : (nm.toList == [115, 117, 98]) = false := beq_eq_false_iff_ne.2 h34
  rw [show bl nm = nm.toList from (Lib.toList_data nm).symm] at h35
  have g35 : (nm.toList == [115, 117, 112]) = false := beq_eq_false_iff_ne.2 h35
  rw [show bl nm = nm.toList from (Lib.toList_data nm).symm] at h36
  have g36 : (nm.toList == [109, 97, 114, 107]) = false := beq_eq_false_iff_ne.2 h36
  rw [show bl nm = nm.toList from (Lib.toList_data nm).symm] at h37
  have g37 : (nm.toList == [97]) = false := beq_eq_false_iff_ne.2 h37
  rw [show bl nm = nm.toList from (Lib.toList_data nm).symm] at h38
  have g38 : (nm.toList == [98, 114]) = false := beq_eq_false_iff_ne.2 h38
  rw [show bl nm = nm.toList from (Lib.toList_data nm).symm] at h39
  have g39 : (nm.toList == [119, 98, 114]) = false := beq_eq_false_iff_ne.2 h39
  rw [show bl nm = nm.toList from (Lib.toList_data nm).symm] at h40
  have g40 : (nm.toList == [104, 114]) = false := beq_eq_false_iff_ne.2 h40
  go_enter Tryz.func52, Tryz.ntmps52
  go_big_wp2
  go_ret
  exact ⟨rfl, rfl⟩
theorem kind_any (nm : ByteArray) (w : World) : Calls Tryz.prog 52 #[.string nm] w fun e w' => e = .returned (.int .u8 ((kindL (bl nm) : Nat) : Int)) ∧ w = w' := by
  by_cases h0 : bl nm = [100, 105, 118]
  · rw [h0, show nm = ⟨#[100, 105, 118]⟩ from bl_eq h0]
    exact kind0 w
  by_cases h1 : bl nm = [117, 108]
  · rw [h1, show nm = ⟨#[117, 108]⟩ from bl_eq h1]
    exact kind1 w
  by_cases h2 : bl nm = [111, 108]
  · rw [h2, show nm = ⟨#[111, 108]⟩ from bl_eq h2]
    exact kind2 w
  by_cases h3 : bl nm = [115, 101, 99, 116, 105, 111, 110]
  · rw [h3, show nm = ⟨#[115, 101, 99, 116, 105, 111, 110]⟩ from bl_eq h3]
    exact kind3 w
  by_cases h4 : bl nm = [97, 114, 116, 105, 99, 108, 101]
  · rw [h4, show nm = ⟨#[97, 114, 116, 105, 99, 108, 101]⟩ from bl_eq h4]
    exact kind4 w
  by_cases h5 : bl nm = [104, 101, 97, 100, 101, 114]
  · rw [h5, show nm = ⟨#[104, 101, 97, 100, 101, 114]⟩ from bl_eq h5]
    exact kind5 w
  by_cases h6 : bl nm = [102, 111, 111, 116, 101, 114]
  · rw [h6, show nm = ⟨#[102, 111, 111, 116, 101, 114]⟩ from bl_eq h6]
    exact kind6 w
  by_cases h7 : bl nm = [109, 97, 105, 110]
  · rw [h7, show nm = ⟨#[109, 97, 105, 110]⟩ from bl_eq h7]
    exact kind7 w
  by_cases h8 : bl nm = [110, 97, 118]
  · rw [h8, show nm = ⟨#[110, 97, 118]⟩ from bl_eq h8]
    exact kind8 w
  by_cases h9 : bl nm = [97, 115, 105, 100, 101]
  · rw [h9, show nm = ⟨#[97, 115, 105, 100, 101]⟩ from bl_eq h9]
    exact kind9 w
  by_cases h10 : bl nm = [98, 108, 111, 99, 107, 113, 117, 111, 116, 101]
  · rw [h10, show nm = ⟨#[98, 108, 111, 99, 107, 113, 117, 111, 116, 101]⟩ from bl_eq h10]
    exact kind10 w
  by_cases h11 : bl nm = [102, 105, 103, 117, 114, 101]
  · rw [h11, show nm = ⟨#[102, 105, 103, 117, 114, 101]⟩ from bl_eq h11]
    exact kind11 w
  by_cases h12 : bl nm = [112]
  · rw [h12, show nm = ⟨#[112]⟩ from bl_eq h12]
    exact kind12 w
  by_cases h13 : bl nm = [108, 105]
  · rw [h13, show nm = ⟨#[108, 105]⟩ from bl_eq h13]
    exact kind13 w
  by_cases h14 : bl nm = [104, 49]
  · rw [h14, show nm = ⟨#[104, 49]⟩ from bl_eq h14]
    exact kind14 w
  by_cases h15 : bl nm = [104, 50]
  · rw [h15, show nm = ⟨#[104, 50]⟩ from bl_eq h15]
    exact kind15 w
  by_cases h16 : bl nm = [104, 51]
  · rw [h16, show nm = ⟨#[104, 51]⟩ from bl_eq h16]
    exact kind16 w
  by_cases h17 : bl nm = [104, 52]
  · rw [h17, show nm = ⟨#[104, 52]⟩ from bl_eq h17]
    exact kind17 w
  by_cases h18 : bl nm = [104, 53]
  · rw [h18, show nm = ⟨#[104, 53]⟩ from bl_eq h18]
    exact kind18 w
  by_cases h19 : bl nm = [104, 54]
  · rw [h19, show nm = ⟨#[104, 54]⟩ from bl_eq h19]
    exact kind19 w
  by_cases h20 : bl nm = [115, 112, 97, 110]
  · rw [h20, show nm = ⟨#[115, 112, 97, 110]⟩ from bl_eq h20]
    exact kind20 w
  by_cases h21 : bl nm = [98]
  · rw [h21, show nm = ⟨#[98]⟩ from bl_eq h21]
    exact kind21 w
  by_cases h22 : bl nm = [105]
  · rw [h22, show nm = ⟨#[105]⟩ from bl_eq h22]
    exact kind22 w
  by_cases h23 : bl nm = [101, 109]
  · rw [h23, show nm = ⟨#[101, 109]⟩ from bl_eq h23]
    exact kind23 w
  by_cases h24 : bl nm = [115, 116, 114, 111, 110, 103]
  · rw [h24, show nm = ⟨#[115, 116, 114, 111, 110, 103]⟩ from bl_eq h24]
    exact kind24 w
  by_cases h25 : bl nm = [117]
  · rw [h25, show nm = ⟨#[117]⟩ from bl_eq h25]
    exact kind25 w
  by_cases h26 : bl nm = [115]
  · rw [h26, show nm = ⟨#[115]⟩ from bl_eq h26]
    exact kind26 w
  by_cases h27 : bl nm = [115, 109, 97, 108, 108]
  · rw [h27, show nm = ⟨#[115, 109, 97, 108, 108]⟩ from bl_eq h27]
    exact kind27 w
  by_cases h28 : bl nm = [99, 111, 100, 101]
  · rw [h28, show nm = ⟨#[99, 111, 100, 101]⟩ from bl_eq h28]
    exact kind28 w
  by_cases h29 : bl nm = [98, 100, 105]
  · rw [h29, show nm = ⟨#[98, 100, 105]⟩ from bl_eq h29]
    exact kind29 w
  by_cases h30 : bl nm = [98, 100, 111]
  · rw [h30, show nm = ⟨#[98, 100, 111]⟩ from bl_eq h30]
    exact kind30 w
  by_cases h31 : bl nm = [97, 98, 98, 114]
  · rw [h31, show nm = ⟨#[97, 98, 98, 114]⟩ from bl_eq h31]
    exact kind31 w
  by_cases h32 : bl nm = [99, 105, 116, 101]
  · rw [h32, show nm = ⟨#[99, 105, 116, 101]⟩ from bl_eq h32]
    exact kind32 w
  by_cases h33 : bl nm = [113]
  · rw [h33, show nm = ⟨#[113]⟩ from bl_eq h33]
    exact kind33 w
  by_cases h34 : bl nm = [115, 117, 98]
  · rw [h34, show nm = ⟨#[115, 117, 98]⟩ from bl_eq h34]
    exact kind34 w
  by_cases h35 : bl nm = [115, 117, 112]
  · rw [h35, show nm = ⟨#[115, 117, 112]⟩ from bl_eq h35]
    exact kind35 w
  by_cases h36 : bl nm = [109, 97, 114, 107]
  · rw [h36, show nm = ⟨#[109, 97, 114, 107]⟩ from bl_eq h36]
    exact kind36 w
  by_cases h37 : bl nm = [97]
  · rw [h37, show nm = ⟨#[97]⟩ from bl_eq h37]
    exact kind37 w
  by_cases h38 : bl nm = [98, 114]
  · rw [h38, show nm = ⟨#[98, 114]⟩ from bl_eq h38]
    exact kind38 w
  by_cases h39 : bl nm = [119, 98, 114]
  · rw [h39, show nm = ⟨#[119, 98, 114]⟩ from bl_eq h39]
    exact kind39 w
  by_cases h40 : bl nm = [104, 114]
  · rw [h40, show nm = ⟨#[104, 114]⟩ from bl_eq h40]
    exact kind40 w
  have h0' : kindL (bl nm) = 0 := by
    unfold kindL
    rw [show (kindTab.find? fun p => p.1 == bl nm) = none from ?_]
    · rfl
    · rw [List.find?_eq_none]
      intro p hp
      simp only [kindTab, List.mem_cons, List.not_mem_nil, or_false] at hp
      rcases hp with rfl | rfl | rfl | rfl | rfl | rfl | rfl | rfl | rfl | rfl | rfl | rfl | rfl | rfl | rfl | rfl | rfl | rfl | rfl | rfl | rfl | rfl | rfl | rfl | rfl | rfl | rfl | rfl | rfl | rfl | rfl | rfl | rfl | rfl | rfl | rfl | rfl | rfl | rfl | rfl | rfl
      all_goals (simp only [beq_iff_eq]; intro e; exact absurd e.symm (by assumption))
  rw [h0']
  exact kindNone nm w h0 h1 h2 h3 h4 h5 h6 h7 h8 h9 h10 h11 h12 h13 h14 h15 h16 h17 h18 h19 h20 h21 h22 h23 h24 h25 h26 h27 h28 h29 h30 h31 h32 h33 h34 h35 h36 h37 h38 h39 h40
end Go.Proofs.YtnfkndaggcklkaaGreatDoor

namespace Go.Proofs.YtnfkndaggcklkaaGreatDoor
open Go.RowKit Go.RunKit Go.CharrefKit Go.Lib Go.TokenKit Go.TreeKit

theorem ToldB.from_ {o : Except Nat BS} {w W W1 w' : World} {b : Nat} {e : Ending} (h : ToldB o w b W1 e w') (hk : Keeps W W1) : ToldB o w b W e w' := by
  unfold ToldB at h ⊢
  cases o with
  | error x => exact h
  | ok s2 => exact ⟨h.1, hk.trans h.2.1, h.2.2⟩
theorem ToldB.ret {o : Except Nat BS} {w W w' : World} {b : Nat} {e : Ending} (h : ToldB o w b W e w') : ∃ x : Nat, e = .returned (.int .i64 ((x : Nat) : Int)) := by
  unfold ToldB at h
  cases o with
  | error x => exact ⟨x, h.1⟩
  | ok s2 => exact ⟨0, h.1⟩
/-- What is asked of a token's attributes. -/
structure AtsIn (W : World) (ao : Option Addr) (n : Nat) (ats : List At) : Prop where
  len : ats.length = n
  few : n ≤ 4294967296
  size : ∀ a, a ∈ ats → a.1.length ≤ 70368744177664 ∧ a.2.length ≤ 70368744177664
  reads : ∀ W', Keeps W W' → AtReads W' ao ats
theorem AtsIn.on {W W1 : World} {ao : Option Addr} {n : Nat} {ats : List At} (h : AtsIn W ao n ats) (hk : Keeps W W1) : AtsIn W1 ao n ats := ⟨h.len, h.few, h.size, fun W' h' => h.reads W' (hk.trans h')⟩

set_option maxRecDepth 100000 in
set_option maxHeartbeats 8000000 in
theorem treeTag_any (w : World) (b tk n cap : Nat) (nm dt : ByteArray) (ao : Option Addr) (sf : Bool) (ats : List At) (tv ov pa bv : Value) (s : BS) (L : List NdV) (W : World) (hwf : WF s) (h200 : s.o.length ≤ 65536)
    (hats : AtsIn W ao n ats) (hnm : nm.size ≤ 70368744177664) (h : BAt w b tv ov pa bv s L W) :
    Calls Tryz.prog 64 #[.pointer (some ⟨b, 0, none⟩), .agg #[.int .u8 ((tk : Nat) : Int), .string nm, .slice ao n cap, .bool sf, .string dt]] W (ToldB (tagB s ⟨tk, bl nm, ats, sf, bl dt⟩) w b W) := by
  have HKd := Lib.hid fun W1 => kind_any nm W1
  have b1 : Below W.heap.size W (W.alloc (.cells #[.int .u8 ((tk : Nat) : Int), .string nm, .slice ao n cap, .bool sf, .string dt] TTk)) := (Below.refl _ _).alloc (Nat.le_refl _) _
  have hnew : (W.alloc (.cells #[.int .u8 ((tk : Nat) : Int), .string nm, .slice ao n cap, .bool sf, .string dt] TTk)).heap[W.heap.size]? = some (.cells #[.int .u8 ((tk : Nat) : Int), .string nm, .slice ao n cap, .bool sf, .string dt] TTk (0, 0)) := heap_alloc_new W _
  obtain ⟨⟨z0, z1, z2, z3, z4⟩, _⟩ := local5 hnew
  obtain ⟨kk, hkk⟩ : ∃ kk, kindL (bl nm) = kk := ⟨_, rfl⟩
  have hk8 : kk ≤ 8 := hkk ▸ kind_le (bl nm)
  rw [hkk] at HKd
  by_cases h0 : kk = 0
  · subst h0
    have ht : tagB s ⟨tk, bl nm, ats, sf, bl dt⟩ = .error 50 := by unfold tagB; rw [if_pos (by show (kindL (bl nm) == 0) = true; rw [hkk]; rfl)]
    rw [ht]
    have HB1 := Lib.hid (h.below.trans (b1.mono h.below.size))
    clear h hwf h200 hats hnm ht b1 hnew hkk hk8
    go_enter Tryz.func64, Tryz.ntmps64
    go_big_wp2_with (go_at_call 52; refine (HKd.out _).mono ?_; rintro e w1 ⟨rfl, rfl⟩)
    go_ret
    exact ⟨rfl, HB1.out⟩
  · have h0I : ((kk : Int) = 0) = False := eq_false (by omega)
    have h0B : ((kk : Int) == 0) = false := by rw [beq_eq_false_iff_ne]; omega
    have hkb : (kindL (bl nm) == 0) = false := by rw [hkk]; simp [h0]
    by_cases h2 : tk = 2
    · subst h2
      have ht : tagB s ⟨2, bl nm, ats, sf, bl dt⟩ = endTagL s (bl nm) kk := by
        unfold tagB
        rw [if_neg (by show ¬ (kindL (bl nm) == 0) = true; rw [hkb]; decide), if_pos (by rfl)]
        show endTagL s (bl nm) (kindL (bl nm)) = _
        rw [hkk]
      rw [ht]
      obtain ⟨aoo, capo, hov⟩ := sliceOf h.opens
      subst hov
      have HE := Lib.hid fun W1 (hb : Below W.heap.size W W1) => treeEnd_any w b kk nm tv pa bv s L W1 aoo capo s.o.length hwf.root rfl (by omega) (h.on hb)
      have HB1 := Lib.hid b1
      clear h hwf h200 hats hnm ht b1 hnew hkk hkb
      go_enter Tryz.func64, Tryz.ntmps64
      go_big_wp2_with (first
        | (go_at_call 52; refine (HKd.out _).mono ?_; rintro e w1 ⟨rfl, rfl⟩)
        | (go_at_call 98; refine (HE.out _ HB1.out).mono ?_; intro e w2 ht2; obtain ⟨x2, hx2⟩ := ht2.ret; subst hx2; have HT2 := Lib.hid ht2; clear ht2))
      go_ret
      exact HT2.out.from_ (Keeps.below HB1.out)
    · have h2I : ((tk : Int) = 2) = False := eq_false (by omega)
      have h2B : ((tk : Int) == 2) = false := by rw [beq_eq_false_iff_ne]; omega
      have ht : tagB s ⟨tk, bl nm, ats, sf, bl dt⟩ = startL s ⟨tk, bl nm, ats, sf, bl dt⟩ kk := by
        unfold tagB
        rw [if_neg (by show ¬ (kindL (bl nm) == 0) = true; rw [hkb]; decide), if_neg (by show ¬ (tk == 2) = true; simp [h2])]
        show startL s _ (kindL (bl nm)) = _
        rw [hkk]
      rw [ht]
      have HS := Lib.hid fun W1 (hb : Below W.heap.size W W1) => treeStart_any w b tk kk n cap nm dt ao sf ats tv ov pa bv s L W1 hwf h200 hk8 hats.len hats.few hats.size hnm (hats.on (Keeps.below hb)).reads (h.on hb)
      have HB1 := Lib.hid b1
      clear h hwf h200 hats hnm ht b1 hnew hkk hkb
      go_enter Tryz.func64, Tryz.ntmps64
      go_big_wp2_with (first
        | (go_at_call 52; refine (HKd.out _).mono ?_; rintro e w1 ⟨rfl, rfl⟩)
        | (go_at_call 99; refine (HS.out _ HB1.out).mono ?_; intro e w2 ht2; obtain ⟨x2, hx2⟩ := ht2.ret; subst hx2; have HT2 := Lib.hid ht2; clear ht2))
      go_ret
      exact HT2.out.from_ (Keeps.below HB1.out)
end Go.Proofs.YtnfkndaggcklkaaGreatDoor

namespace Go.Proofs.YtnfkndaggcklkaaGreatDoor
open Go.RowKit Go.RunKit Go.CharrefKit Go.Lib Go.TokenKit Go.TreeKit

set_option maxRecDepth 100000 in
set_option maxHeartbeats 8000000 in
theorem treeTake_any (w : World) (b tk n cap : Nat) (nm dt : ByteArray) (ao : Option Addr) (sf first : Bool) (ats : List At) (tv ov pa bv : Value) (s : BS) (L : List NdV) (W : World) (hwf : WF s) (h200 : s.o.length ≤ 65536)
    (hats : AtsIn W ao n ats) (hnm : nm.size ≤ 70368744177664) (hlen : s.ws.length + dt.size ≤ 70368744177664) (h : BAt w b tv ov pa bv s L W) :
    Calls Tryz.prog 35 #[.pointer (some ⟨b, 0, none⟩), .agg #[.int .u8 ((tk : Nat) : Int), .string nm, .slice ao n cap, .bool sf, .string dt], .bool first] W (ToldB (takeB s ⟨tk, bl nm, ats, sf, bl dt⟩ first) w b W) := by
  have b1 : Below W.heap.size W (W.alloc (.cells #[.int .u8 ((tk : Nat) : Int), .string nm, .slice ao n cap, .bool sf, .string dt] TTk)) := (Below.refl _ _).alloc (Nat.le_refl _) _
  have hnew : (W.alloc (.cells #[.int .u8 ((tk : Nat) : Int), .string nm, .slice ao n cap, .bool sf, .string dt] TTk)).heap[W.heap.size]? = some (.cells #[.int .u8 ((tk : Nat) : Int), .string nm, .slice ao n cap, .bool sf, .string dt] TTk (0, 0)) := heap_alloc_new W _
  obtain ⟨⟨z0, z1, z2, z3, z4⟩, _⟩ := local5 hnew
  have hok : ∀ W1 : World, Below W.heap.size W W1 → ToldB (.ok s) w b W (.returned (.int .i64 0)) W1 := fun W1 hb => by
    obtain ⟨aoo, capo, hov⟩ := sliceOf h.opens
    subst hov
    exact ⟨rfl, Keeps.below hb, _, aoo, capo, _, _, _, h.on hb⟩
  by_cases h5 : tk = 5
  · subst h5
    cases first with
    | true =>
      have ht : takeB s ⟨5, bl nm, ats, sf, bl dt⟩ true = .ok s := rfl
      rw [ht]
      have HO := Lib.hid (hok _ b1)
      clear h hwf h200 hats hnm hlen ht b1 hnew hok
      go_enter Tryz.func35, Tryz.ntmps35
      go_big_wp2
      go_ret
      exact HO.out
    | false =>
      have ht : takeB s ⟨5, bl nm, ats, sf, bl dt⟩ false = .error 51 := rfl
      rw [ht]
      have HB1 := Lib.hid (h.below.trans (b1.mono h.below.size))
      clear h hwf h200 hats hnm hlen ht b1 hnew hok
      go_enter Tryz.func35, Tryz.ntmps35
      go_big_wp2
      go_ret
      exact ⟨rfl, HB1.out⟩
  · by_cases h3 : tk = 3
    · subst h3
      have ht : takeB s ⟨3, bl nm, ats, sf, bl dt⟩ first = textL s (bl dt) := rfl
      rw [ht]
      have HX := Lib.hid fun W1 (hb : Below W.heap.size W W1) => text_any w b dt tv ov pa bv s L W1 hwf h200 hlen (h.on hb)
      have HB1 := Lib.hid b1
      clear h hwf h200 hats hnm hlen ht b1 hnew hok h5
      go_enter Tryz.func35, Tryz.ntmps35
      go_big_wp2_with (first
        | (go_at_call 63; refine (HX.out _ HB1.out).mono ?_; intro e w2 ht2; obtain ⟨x2, hx2⟩ := ht2.ret; subst hx2; have HT2 := Lib.hid ht2; clear ht2))
      go_ret
      exact HT2.out.from_ (Keeps.below HB1.out)
    · by_cases h12 : tk = 1 ∨ tk = 2
      · have ht : takeB s ⟨tk, bl nm, ats, sf, bl dt⟩ first = tagB s ⟨tk, bl nm, ats, sf, bl dt⟩ := by rcases h12 with rfl | rfl <;> rfl
        rw [ht]
        have HX := Lib.hid fun W1 (hb : Below W.heap.size W W1) => treeTag_any w b tk n cap nm dt ao sf ats tv ov pa bv s L W1 hwf h200 (hats.on (Keeps.below hb)) hnm (h.on hb)
        have HB1 := Lib.hid b1
        clear h hwf h200 hats hnm hlen ht b1 hnew hok h5 h3
        rcases h12 with rfl | rfl
        all_goals
          go_enter Tryz.func35, Tryz.ntmps35
          go_big_wp2_with (first
            | (go_at_call 64; refine (HX.out _ HB1.out).mono ?_; intro e w2 ht2; obtain ⟨x2, hx2⟩ := ht2.ret; subst hx2; have HT2 := Lib.hid ht2; clear ht2))
          go_ret
          exact HT2.out.from_ (Keeps.below HB1.out)
      · have h1 : ¬ tk = 1 := fun e => h12 (.inl e)
        have h2 : ¬ tk = 2 := fun e => h12 (.inr e)
        have ht : takeB s ⟨tk, bl nm, ats, sf, bl dt⟩ first = .ok s := by
          unfold takeB
          rw [if_neg (by show ¬ (tk == 5) = true; simp [h5]), if_neg (by show ¬ (tk == 3) = true; simp [h3]), if_neg (by show ¬ (tk == 1 || tk == 2) = true; simp [h1, h2])]
        rw [ht]
        have HO := Lib.hid (hok _ b1)
        have g1 : ((tk : Int) == 1) = false := by rw [beq_eq_false_iff_ne]; omega
        have g2 : ((tk : Int) == 2) = false := by rw [beq_eq_false_iff_ne]; omega
        have g3 : ((tk : Int) == 3) = false := by rw [beq_eq_false_iff_ne]; omega
        have g5 : ((tk : Int) == 5) = false := by rw [beq_eq_false_iff_ne]; omega
        clear h hwf h200 hats hnm hlen ht b1 hnew hok h1 h2 h3 h5 h12
        go_enter Tryz.func35, Tryz.ntmps35
        go_big_wp2
        go_ret
        exact HO.out
end Go.Proofs.YtnfkndaggcklkaaGreatDoor

namespace Go.TreeKit
open Go Go.Lib Go.TokenKit
theorem text_bounds {s s2 : BS} {d : Bytes} (h : s.o.length ≤ 201) (ha : textL s d = .ok s2) : s2.o.length ≤ 201 ∧ s2.ws.length ≤ s.ws.length + d.length := by
  unfold textL at ha
  split at ha
  · cases ha; exact ⟨h, Nat.le_add_right _ _⟩
  · split at ha
    · cases ha; exact ⟨h, by rw [List.length_append]; exact Nat.le_refl _⟩
    · split at ha
      · cases ha
      · rename_i s3 h3
        cases ha
        obtain ⟨h1, h2, h3', h4⟩ := addL_len h3
        exact ⟨by rw [h2]; exact h, by rw [h3']; simp⟩
theorem start_bounds {s s2 : BS} {t : Tok} {k : Nat} (ha : startL s t k = .ok s2) : s2.o.length ≤ 201 ∧ s2.ws.length ≤ s.ws.length + t.data.length := by
  unfold startL at ha
  split at ha
  · cases ha
  · split at ha
    · cases ha
    · split at ha
      · cases ha
      · rename_i hl
        split at ha
        · cases ha
        · rename_i s3 h3
          obtain ⟨h1, h2, h3', h4⟩ := addL_len h3
          cases ha
          split
          · exact ⟨by rw [h2]; show (closeAheadL k s.o).length ≤ 201; omega, by rw [h3']; simp⟩
          · exact ⟨by show (_ :: s3.o).length ≤ 201; rw [List.length_cons, h2]; show (closeAheadL k s.o).length + 1 ≤ 201; omega, by show s3.ws.length ≤ _; rw [h3']; simp⟩
theorem endTag_bounds {s s2 : BS} {name d : Bytes} {k : Nat} (h : s.o.length ≤ 201) (ha : endTagL s name k = .ok s2) : s2.o.length ≤ 201 ∧ s2.ws.length ≤ s.ws.length + d.length := by
  unfold endTagL at ha
  split at ha
  · cases ha
    have := closeEnd_le k s.o
    exact ⟨by show (closeEndL k s.o).tail.length ≤ 201; rw [List.length_tail]; omega, Nat.le_add_right _ _⟩
  · cases ha
theorem take_bounds {s s2 : BS} {t : Tok} {f : Bool} (h : s.o.length ≤ 201) (ha : takeB s t f = .ok s2) : s2.o.length ≤ 201 ∧ s2.ws.length ≤ s.ws.length + t.data.length := by
  unfold takeB at ha
  split at ha
  · split at ha
    · cases ha; exact ⟨h, Nat.le_add_right _ _⟩
    · cases ha
  · split at ha
    · exact text_bounds h ha
    · split at ha
      · unfold tagB at ha
        split at ha
        · cases ha
        · split at ha
          · exact endTag_bounds h ha
          · exact start_bounds ha
      · cases ha; exact ⟨h, Nat.le_add_right _ _⟩
/-- The data's lengths in all. -/
def dataSum (l : List Tok) : Nat := (l.map fun t => t.data.length).foldr (· + ·) 0
theorem dataSum_cons (t : Tok) (l : List Tok) : dataSum (t :: l) = t.data.length + dataSum l := rfl
theorem dataSum_drop : ∀ (l : List Tok) (k : Nat) (t : Tok), l[k]? = some t → dataSum (l.drop k) = t.data.length + dataSum (l.drop (k + 1))
  | [], k, t, h => by simp at h
  | x :: r, 0, t, h => by
    simp only [List.getElem?_cons_zero, Option.some.injEq] at h
    subst h; rfl
  | x :: r, k + 1, t, h => by
    have := dataSum_drop r k t (by simpa using h)
    simpa using this
theorem buildF_step {k : Nat} {s : BS} {l : List Tok} {t : Tok} (h : l[k]? = some t) : buildF k s (l.drop k) = (match takeB s t (k == 0) with
    | .error e => .error (e, k)
    | .ok s2 => buildF (k + 1) s2 (l.drop (k + 1))) := by
  have hk := (List.getElem?_eq_some_iff.1 h).1
  have e : l.drop k = t :: l.drop (k + 1) := by
    rw [List.drop_eq_getElem_cons hk, (List.getElem?_eq_some_iff.1 h).2]
  rw [e]
  rfl
/-- The state at the loop's head. -/
structure LoopB (l : List Tok) (k : Nat) (s : BS) : Prop where
  wf : WF s
  open_ : s.o.length ≤ 201
  words : s.ws.length + dataSum (l.drop k) ≤ dataSum l
  spec : buildF k s (l.drop k) = buildF 0 beginB l
theorem LoopB.begin_ (l : List Tok) : LoopB l 0 beginB := ⟨WF.begin_, by decide, by show 0 + dataSum l ≤ _; omega, rfl⟩
theorem LoopB.step {l : List Tok} {k : Nat} {s s2 : BS} {t : Tok} (h : LoopB l k s) (ht : l[k]? = some t) (ha : takeB s t (k == 0) = .ok s2) : LoopB l (k + 1) s2 := by
  have hb := take_bounds h.open_ ha
  have hd := dataSum_drop l k t ht
  have hw := h.words
  refine ⟨h.wf.take ha, hb.1, by omega, ?_⟩
  rw [← h.spec, buildF_step ht, ha]
theorem LoopB.stop {l : List Tok} {k x : Nat} {s : BS} {t : Tok} (h : LoopB l k s) (ht : l[k]? = some t) (ha : takeB s t (k == 0) = .error x) : buildL l = ([], x, k) := by
  unfold buildL
  rw [← h.spec, buildF_step ht, ha]
theorem LoopB.done {l : List Tok} {s : BS} (h : LoopB l l.length s) : buildL l = ((flushL s).t, 0, 0) := by
  unfold buildL
  rw [← h.spec, List.drop_length]
  rfl
theorem takeB_err {s : BS} {t : Tok} {f : Bool} {x : Nat} (h : takeB s t f = .error x) : x = 3 ∨ x = 50 ∨ x = 51 ∨ x = 52 := by
  have hadd : ∀ (s : BS) (n : Nd) (y : Nat), addL s n = .error y → y = 3 := fun s n y hy => by
    unfold addL at hy
    split at hy
    · cases hy; rfl
    · cases hy
  unfold takeB at h
  split at h
  · split at h
    · cases h
    · cases h; exact .inr (.inr (.inl rfl))
  · split at h
    · unfold textL at h
      split at h
      · cases h
      · split at h
        · cases h
        · split at h
          · rename_i e he
            cases h
            exact .inl (hadd _ _ _ he)
          · cases h
    · split at h
      · unfold tagB at h
        split at h
        · cases h; exact .inr (.inl rfl)
        · split at h
          · unfold endTagL at h
            split at h
            · cases h
            · cases h; exact .inr (.inr (.inl rfl))
          · unfold startL at h
            split at h
            · cases h; exact .inr (.inr (.inl rfl))
            · split at h
              · cases h; exact .inr (.inr (.inl rfl))
              · split at h
                · cases h; exact .inr (.inr (.inr rfl))
                · split at h
                  · rename_i e he
                    cases h
                    exact .inl (hadd _ _ _ he)
                  · cases h
      · cases h
end Go.TreeKit

