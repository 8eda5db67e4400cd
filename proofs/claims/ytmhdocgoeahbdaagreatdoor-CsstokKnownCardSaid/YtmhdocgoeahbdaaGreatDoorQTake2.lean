/-
  The takers of package csstok, one by one: white, text, hash, word, atWord, sign, mark. No conditions.
-/
import Derived.Test.YtmhdocgoeahbdaaGreatDoorQTake
namespace Go.CssKit
open Go Go.Lib
theorem white_step (l : Chars) (n : Nat) : (l.drop n).takeWhile isW = if isW (at_ l n) = true then at_ l n :: (l.drop (n + 1)).takeWhile isW else [] := by
  by_cases h : n < l.length
  · rw [List.drop_eq_getElem_cons h, at_some h]
    by_cases hd : isW l[n] = true
    · rw [List.takeWhile_cons_of_pos hd, if_pos hd]
    · rw [List.takeWhile_cons_of_neg hd, if_neg hd]
  · rw [List.drop_eq_nil_of_le (by omega), at_none (by omega), isW_neg]; rfl
theorem drop_takeWhile {α : Type} (p : α → Bool) : ∀ l : List α, l.drop (l.takeWhile p).length = l.dropWhile p
  | [] => rfl
  | x :: r => by
    by_cases h : p x = true
    · rw [List.takeWhile_cons_of_pos h, List.dropWhile_cons_of_pos h, List.length_cons, List.drop_succ_cons, drop_takeWhile p r]
    · rw [List.takeWhile_cons_of_neg h, List.dropWhile_cons_of_neg h]; rfl
def whiteN (l : Chars) : Nat := (l.takeWhile isW).length
theorem whiteN_le (l : Chars) : whiteN l ≤ l.length := (List.takeWhile_sublist _).length_le
theorem whiteN_zero {l : Chars} (h : isW (at_ l 0) = false) : whiteN l = 0 := by
  have := white_step l 0
  rw [h, List.drop_zero] at this
  unfold whiteN; rw [this]; rfl
theorem whiteN_pos {l : Chars} (h : isW (at_ l 0) = true) : 0 < whiteN l := by
  have := white_step l 0
  rw [h, List.drop_zero, if_pos rfl] at this
  unfold whiteN; rw [this]; simp
end Go.CssKit
namespace Go.Proofs.YtmhdocgoeahbdaaGreatDoor
open Go.RowKit Go.RunKit Go.UtfKit Go.Lib Go.CssKit

set_option maxRecDepth 100000 in
set_option maxHeartbeats 2000000 in
theorem white7_any (b g : Nat) (l : Chars) (w : World) (h : RC w b g l) : TakeAs 34 b g w (if isW (at_ l 0) = true then whiteT l else (noCT, l)) := by
  obtain ⟨X, hX⟩ : ∃ X, (if isW (at_ l 0) = true then whiteT l else (noCT, l)) = X := ⟨_, rfl⟩
  rw [hX]
  unfold TakeAs
  have HX := Lib.hid hX
  clear hX
  have hA := ResAt.start h
  have HA := Lib.hid hA
  have hlen := h.len
  have hle := whiteN_le l
  obtain ⟨N, hN⟩ : ∃ n, whiteN l = n := ⟨_, rfl⟩
  rw [hN] at hle
  have HN := Lib.hid hN
  have HR := Lib.hid h
  clear hA h hN
  go_enter Tryz.func34, Tryz.ntmps34
  go_wp2
  generalize hW0 : w.alloc (.cells #[.int .u8 0, .string ⟨#[]⟩, .string ⟨#[]⟩, .bool false] TTc) = W0 at *
  have HW0 := Lib.hid hW0
  clear hW0
  go_loop [3] (fun v => ∃ n : Nat, v = .int .i64 ((n : Nat) : Int) ∧ n ≤ N ∧ Hid (n + ((l.drop n).takeWhile isW).length = N)) (fun v => N - (RowKit.intOf v).toNat)
  case atStart => exact ⟨0, rfl, Nat.zero_le _, Lib.hid (by rw [Nat.zero_add, List.drop_zero]; exact HN.out)⟩
  case round =>
    obtain ⟨n, rfl, hn, HD⟩ := hrel
    have hst := white_step l n
    have hd := HD.out
    have H0 := Lib.hid (at_any b g n l W0 HA.out.moved.rest (by omega))
    have H1 := Lib.hid (isWhite7_any (at_ l n))
    cases hw : isW (at_ l n) with
    | true =>
      rw [hst, if_pos hw, List.length_cons] at hd
      rw [hw] at H1
      have hnl : n < N := by omega
      have HS := Lib.hid (show n + 1 + ((l.drop (n + 1)).takeWhile isW).length = N by omega)
      generalize at_ l n = x at *
      clear hst hd hw
      go_big_wp2_with (first
        | (go_at_call 70; refine H0.out.mono ?_; rintro e w1 ⟨rfl, rfl⟩)
        | (go_at_call 69; refine (H1.out _).mono ?_; rintro e w1 ⟨rfl, rfl⟩))
      exact ⟨⟨n + 1, by go_num, by omega, HS⟩, by simp [RowKit.intOf]; omega⟩
    | false =>
      rw [hst, if_neg (by rw [hw]; decide)] at hd
      have hnN : n = N := by simpa using hd
      rw [hw] at H1
      generalize hx : at_ l n = x at *
      cases hz : isW (at_ l 0) with
      | false =>
        have h0 := whiteN_zero hz
        rw [HN.out] at h0
        subst h0
        subst hnN
        have hX := HX.out
        rw [if_neg (by rw [hz]; decide)] at hX
        subst hX
        obtain ⟨⟨c0, c1, c2, c3⟩, f0, f1, f2, f3⟩ := froz4 HA.out.res
        clear hst hd hw hz hx
        go_big_wp2_with (first
          | (go_at_call 70; refine H0.out.mono ?_; rintro e w1 ⟨rfl, rfl⟩)
          | (go_at_call 69; refine (H1.out _).mono ?_; rintro e w1 ⟨rfl, rfl⟩))
        refine HA.out.end_ ?_ ?_ ?_ <;> rfl
      | true =>
        have h0 := whiteN_pos hz
        rw [HN.out] at h0
        subst hnN
        have hX := HX.out
        rw [if_pos hz] at hX
        subst hX
        have HP := Lib.hid (pass_any b g n l W0 HA.out.moved.rest (by omega))
        have hI : (((n : Nat) : Int) = 0) = False := eq_false (by omega)
        have hNt : (n = 0) = False := eq_false (by omega)
        have hB : (((n : Nat) : Int) == 0) = false := by rw [beq_eq_false_iff_ne]; omega
        have HDr := Lib.hid (show l.drop n = (whiteT l).2 by rw [← HN.out]; exact drop_takeWhile isW l)
        clear hst hd hw hz hx h0
        go_big_wp2_with (first
          | (go_at_call 70; refine H0.out.mono ?_; rintro e w1 ⟨rfl, rfl⟩)
          | (go_at_call 69; refine (H1.out _).mono ?_; rintro e w1 ⟨rfl, rfl⟩)
          | (go_at_call 44; refine HP.out.mono ?_; rintro e w1 ⟨rfl, hm⟩; have HA1 := Lib.hid (HA.out.on hm drop_ne); obtain ⟨⟨c0, c1, c2, c3⟩, f0, f1, f2, f3⟩ := froz4 HA1.out.res; clear hm))
        rw [HDr.out] at HA1
        refine HA1.out.end_ ?_ ?_ ?_ <;> rfl
end Go.Proofs.YtmhdocgoeahbdaaGreatDoor
