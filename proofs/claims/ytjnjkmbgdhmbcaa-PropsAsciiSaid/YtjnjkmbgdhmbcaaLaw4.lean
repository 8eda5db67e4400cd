/-
  The law on ASCII, run by the kernel at each of the 256 bytes: it hands back true. No conditions.
-/
import Derived.Test.YtjnjkmbgdhmbcaaLaw3
import Derived.Test.YtjnjkmbgdhmbcaaPure
namespace Go.Proofs.Ytjnjkmbgdhmbcaa
open Go.RowKit Go.RunKit

/-- What the callees of the laws hand back. -/
noncomputable def answers : Table := fun f args =>
  match f, args with
  | 10, ⟨[.int .i32 r]⟩ => some (.int .u8 (refClass r))
  | 15, ⟨[.int .i32 r]⟩ => some (.tuple #[.int .i32 (refMirror r).1, .bool (refMirror r).2])
  | 13, ⟨[.int .i32 r]⟩ => some (.tuple #[.int .i32 (refBracket r).1, .bool (refBracket r).2.1, .bool (refBracket r).2.2])
  | 17, ⟨[.int .i32 r]⟩ => some (.bool (r == 9 || r == 10 || r == 12 || r == 13 || r == 32))
  | 12, ⟨[]⟩ => some (.bool true)
  | _, _ => none
theorem answers_hold : answers.Holds Try.prog := by
  intro f args v h w
  unfold answers at h
  split at h
  · cases h; exact class_any _ w
  · cases h; exact mirror_any _ w
  · cases h; exact bracket_any _ w
  · cases h; exact (space_any _ w).mono fun e w' h => ⟨h.1, h.2 ▸ Below.refl _ _⟩
  · cases h; exact works_any w
  · cases h

def isTrue : Option Value → Bool
  | some (.bool true) => true
  | _ => false
theorem isTrue_eq {v : Option Value} (h : isTrue v = true) : v = some (.bool true) := by
  unfold isTrue at h
  split at h
  · rfl
  · cases h

noncomputable def asciiAt (c : Nat) : Bool := isTrue (runFunQ Try.prog answers 40 7 #[.int .u8 (c : Nat)])
theorem ascii_runs0 : (List.range' 0 16).all asciiAt = true := by kernel_rfl
theorem ascii_runs1 : (List.range' 16 16).all asciiAt = true := by kernel_rfl
theorem ascii_runs2 : (List.range' 32 16).all asciiAt = true := by kernel_rfl
theorem ascii_runs3 : (List.range' 48 16).all asciiAt = true := by kernel_rfl
theorem ascii_runs4 : (List.range' 64 16).all asciiAt = true := by kernel_rfl
theorem ascii_runs5 : (List.range' 80 16).all asciiAt = true := by kernel_rfl
theorem ascii_runs6 : (List.range' 96 16).all asciiAt = true := by kernel_rfl
theorem ascii_runs7 : (List.range' 112 16).all asciiAt = true := by kernel_rfl
theorem ascii_runs8 : (List.range' 128 16).all asciiAt = true := by kernel_rfl
theorem ascii_runs9 : (List.range' 144 16).all asciiAt = true := by kernel_rfl
theorem ascii_runs10 : (List.range' 160 16).all asciiAt = true := by kernel_rfl
theorem ascii_runs11 : (List.range' 176 16).all asciiAt = true := by kernel_rfl
theorem ascii_runs12 : (List.range' 192 16).all asciiAt = true := by kernel_rfl
theorem ascii_runs13 : (List.range' 208 16).all asciiAt = true := by kernel_rfl
theorem ascii_runs14 : (List.range' 224 16).all asciiAt = true := by kernel_rfl
theorem ascii_runs15 : (List.range' 240 16).all asciiAt = true := by kernel_rfl
theorem ascii_all (n : Nat) (h : n < 256) : asciiAt n = true := by
  by_cases h0 : n < 16
  · exact List.all_eq_true.1 ascii_runs0 n (by simp [List.mem_range'_1]; omega)
  by_cases h1 : n < 32
  · exact List.all_eq_true.1 ascii_runs1 n (by simp [List.mem_range'_1]; omega)
  by_cases h2 : n < 48
  · exact List.all_eq_true.1 ascii_runs2 n (by simp [List.mem_range'_1]; omega)
  by_cases h3 : n < 64
  · exact List.all_eq_true.1 ascii_runs3 n (by simp [List.mem_range'_1]; omega)
  by_cases h4 : n < 80
  · exact List.all_eq_true.1 ascii_runs4 n (by simp [List.mem_range'_1]; omega)
  by_cases h5 : n < 96
  · exact List.all_eq_true.1 ascii_runs5 n (by simp [List.mem_range'_1]; omega)
  by_cases h6 : n < 112
  · exact List.all_eq_true.1 ascii_runs6 n (by simp [List.mem_range'_1]; omega)
  by_cases h7 : n < 128
  · exact List.all_eq_true.1 ascii_runs7 n (by simp [List.mem_range'_1]; omega)
  by_cases h8 : n < 144
  · exact List.all_eq_true.1 ascii_runs8 n (by simp [List.mem_range'_1]; omega)
  by_cases h9 : n < 160
  · exact List.all_eq_true.1 ascii_runs9 n (by simp [List.mem_range'_1]; omega)
  by_cases h10 : n < 176
  · exact List.all_eq_true.1 ascii_runs10 n (by simp [List.mem_range'_1]; omega)
  by_cases h11 : n < 192
  · exact List.all_eq_true.1 ascii_runs11 n (by simp [List.mem_range'_1]; omega)
  by_cases h12 : n < 208
  · exact List.all_eq_true.1 ascii_runs12 n (by simp [List.mem_range'_1]; omega)
  by_cases h13 : n < 224
  · exact List.all_eq_true.1 ascii_runs13 n (by simp [List.mem_range'_1]; omega)
  by_cases h14 : n < 240
  · exact List.all_eq_true.1 ascii_runs14 n (by simp [List.mem_range'_1]; omega)
  by_cases h15 : n < 256
  · exact List.all_eq_true.1 ascii_runs15 n (by simp [List.mem_range'_1]; omega)
  omega

theorem lawAscii (c : Int) (hc : 0 ≤ c ∧ c ≤ 255) (w : World) : Calls Try.prog 7 #[.int .u8 c] w fun e w' => e = .returned (.bool true) ∧ Below w.heap.size w w' := by
  obtain ⟨n, rfl⟩ : ∃ n : Nat, c = n := ⟨c.toNat, by omega⟩
  exact calls_of_runQ answers_hold (isTrue_eq (ascii_all n (by omega))) w
end Go.Proofs.Ytjnjkmbgdhmbcaa
