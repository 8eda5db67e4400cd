/-
  Mirror of props: it hands back what the document's answer does. No conditions.
-/
import Derived.Test.YtjnjkmbgdhmbcaaOwnBr
namespace Go.Proofs.Ytjnjkmbgdhmbcaa
open Go.RowKit Go.RunKit

theorem find_append' {α : Type} (p : α → Bool) (l m : List α) : (l ++ m).find? p = (l.find? p).or (m.find? p) := List.find?_append

theorem refOthers_len : refOthers.length = 7 := by rfl
theorem apart : ∀ p ∈ refPairs, ∀ q ∈ refOthers, p.1 ≠ q.1 ∧ p.1 ≠ q.2 ∧ p.2 ≠ q.1 ∧ p.2 ≠ q.2 := by decide

theorem refMirror_pairs {r : Int} {p : Int × Int} (h : refPairs.find? (hit r) = some p) : refMirror r = mirrorOf r (some p) := by
  have hn : refOthers.find? (hit r) = none := by
    rw [List.find?_eq_none]
    intro q hq hh
    have hp := List.mem_of_find?_eq_some h
    have hr := List.find?_some h
    have := apart p hp q hq
    simp only [hit, Bool.or_eq_true, beq_iff_eq] at hh hr
    omega
  unfold refMirror refTwos
  rw [find_append', hn, h]; rfl
theorem refMirror_others {r : Int} {x : Option (Int × Int)} (h : refPairs.find? (hit r) = none) (h2 : refOthers.find? (hit r) = x) : refMirror r = mirrorOf r x := by
  unfold refMirror refTwos
  rw [find_append', h, h2]
  cases x <;> rfl

theorem other_hit (p : Int × Int) (r : Int) : (otherOf p r).2 = hit r p ∧ ((otherOf p r).2 = true → (otherOf p r).1 = (mirrorOf r (some p)).1) := by
  unfold otherOf mirrorOf hit
  by_cases h1 : r = p.1
  · simp [h1]
  · by_cases h2 : r = p.2
    · have h3 : p.2 ≠ p.1 := fun e => h1 (h2.trans e)
      simp [h2, h3]
    · simp [h1, h2]

set_option maxRecDepth 100000 in
set_option maxHeartbeats 1000000 in
theorem mirror_any (r : Int) (w : World) :
    Calls Try.prog 15 #[.int .i32 r] w fun e w' => e = .returned (.tuple #[.int .i32 (refMirror r).1, .bool (refMirror r).2]) ∧ Below w.heap.size w w' := by
  go_enter Try.func15, Try.ntmps15
  go_wp2_with (go_at_call 23; refine (brackets_any _).mono ?_; rintro e w' ⟨rfl, rfl⟩)
  have hb : Below w.heap.size w (w.alloc (.cells (cells2 refPairs).toArray 48)) := (Below.refl _ _).alloc (Nat.le_refl _) _
  generalize w.alloc (.cells (cells2 refPairs).toArray 48) = W at *
  have HE : Hid (∀ k p, refPairs[k]? = some p → (cells2 refPairs).toArray.extract (k * 2) (k * 2 + 2) = #[.int .i32 p.1, .int .i32 p.2]) := Lib.hid fun k p h => cells2_extract h
  generalize (cells2 refPairs).toArray = cs at *
  go_loopw [13] (fun i wr => ∃ k : Nat, k ≤ 23 ∧ i = .int .i64 k ∧ NoneTill (hit r) refPairs k ∧ Below w.heap.size w wr) (fun i _ => 23 - (intOf i).toNat)
  case atStart => exact ⟨0, by omega, rfl, noneTill_zero _ _, hb⟩
  case round =>
    obtain ⟨k, hk, rfl, hno, hbw⟩ := hrel
    clear hb
    have Hn := Lib.hid hno; clear hno
    have HB := Lib.hid hbw; clear hbw
    by_cases hlt : k < 23
    · obtain ⟨⟨p1, p2⟩, hp⟩ := some_at refPairs_len hlt
      have a := index23 hlt (HE.out k _ hp)
      have Hp := Lib.hid hp; clear hp
      have HO := Lib.hid (other_hit (p1, p2) r)
      go_wp2_with (go_at_call 26; refine (other_any p1 p2 r _).mono ?_; rintro e w' ⟨rfl, hb2⟩)
      case roundEnd => exact ⟨⟨k + 1, by omega, by go_num, noneTill_succ Hn.out Hp.out (by rw [← HO.out.1]; assumption), (HB.out.alloc HB.out.size _).trans (hb2.mono (Nat.le_trans HB.out.size (by simp)))⟩, by simp [intOf]; omega⟩
      rename_i hs
      have e : refMirror r = mirrorOf r (some (p1, p2)) := refMirror_pairs (find_at Hn.out Hp.out (by rw [← HO.out.1]; assumption))
      go_ret2
      rw [e]
      exact ⟨ret2_eq (congrArg _ (HO.out.2 (by assumption))) rfl, (HB.out.alloc HB.out.size _).trans (hb2.mono (Nat.le_trans HB.out.size (by simp)))⟩
    · have HN1 := Lib.hid (find_not Hn.out (by rw [refPairs_len]; omega))
      clear HE Hn
      have hb0 := HB.out.alloc HB.out.size (.cells (cells2 refOthers).toArray 55)
      go_wp2_with (go_at_call 27; refine (mirrors_any _).mono ?_; rintro e w' ⟨rfl, rfl⟩)
      clear HB
      generalize wr.alloc (.cells (cells2 refOthers).toArray 55) = W2 at *
      have HE : Hid (∀ k p, refOthers[k]? = some p → (cells2 refOthers).toArray.extract (k * 2) (k * 2 + 2) = #[.int .i32 p.1, .int .i32 p.2]) := Lib.hid fun k p h => cells2_extract h
      generalize (cells2 refOthers).toArray = cs2 at *
      go_loopw [26] (fun i wr => ∃ k : Nat, k ≤ 7 ∧ i = .int .i64 k ∧ NoneTill (hit r) refOthers k ∧ Below w.heap.size w wr) (fun i _ => 7 - (intOf i).toNat)
      case atStart => exact ⟨0, by omega, rfl, noneTill_zero _ _, hb0⟩
      case round =>
        obtain ⟨k, hk, rfl, hno, hbw⟩ := hrel
        clear hb0
        have Hn := Lib.hid hno; clear hno
        have HB := Lib.hid hbw; clear hbw
        by_cases hlt : k < 7
        · obtain ⟨⟨p1, p2⟩, hp⟩ := some_at refOthers_len hlt
          have a := index7 hlt (HE.out k _ hp)
          have Hp := Lib.hid hp; clear hp
          have HO := Lib.hid (other_hit (p1, p2) r)
          go_wp2_with (go_at_call 26; refine (other_any p1 p2 r _).mono ?_; rintro e w' ⟨rfl, hb2⟩)
          case roundEnd => exact ⟨⟨k + 1, by omega, by go_num, noneTill_succ Hn.out Hp.out (by rw [← HO.out.1]; assumption), (HB.out.alloc HB.out.size _).trans (hb2.mono (Nat.le_trans HB.out.size (by simp)))⟩, by simp [intOf]; omega⟩
          have e : refMirror r = mirrorOf r (some (p1, p2)) := refMirror_others HN1.out (find_at Hn.out Hp.out (by rw [← HO.out.1]; assumption))
          go_ret2
          rw [e]
          exact ⟨ret2_eq (congrArg _ (HO.out.2 (by assumption))) rfl, (HB.out.alloc HB.out.size _).trans (hb2.mono (Nat.le_trans HB.out.size (by simp)))⟩
        · have e : refMirror r = mirrorOf r none := refMirror_others HN1.out (find_not Hn.out (by rw [refOthers_len]; omega))
          go_wp2
          go_ret2
          rw [e]
          exact ⟨rfl, HB.out⟩
end Go.Proofs.Ytjnjkmbgdhmbcaa
