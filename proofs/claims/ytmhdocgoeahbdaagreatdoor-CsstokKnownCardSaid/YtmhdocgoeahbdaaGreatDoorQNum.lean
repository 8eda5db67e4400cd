/-
  The reader of package csstok: numbers; what is taken as it stands. No conditions.
-/
import Derived.Test.YtmhdocgoeahbdaaGreatDoorQStr
namespace Go.CssKit
open Go Go.Lib
theorem digs_step (l : Chars) (n : Nat) : digsN l n = if isDg (at_ l n) = true then digsN l (n + 1) else n := by
  unfold digsN
  by_cases h : n < l.length
  · rw [List.drop_eq_getElem_cons h, at_some h]
    by_cases hd : isDg l[n] = true
    · rw [List.takeWhile_cons_of_pos hd, if_pos hd, List.length_cons]; omega
    · rw [List.takeWhile_cons_of_neg hd, if_neg hd]; rfl
  · rw [List.drop_eq_nil_of_le (by omega), at_none (by omega), isDg_neg]; rfl
theorem digs_le (l : Chars) (n : Nat) (h : n ≤ l.length) : n ≤ digsN l n ∧ digsN l n ≤ l.length := by
  unfold digsN
  have := (List.takeWhile_sublist isDg (l := l.drop n)).length_le
  rw [List.length_drop] at this
  omega
theorem sign_le (l : Chars) (n : Nat) (h : n ≤ l.length) : n ≤ signN l n ∧ signN l n ≤ l.length ∧ signN l n ≤ n + 1 := by
  unfold signN
  split
  · rename_i hh
    have := at_pos (l := l) (n := n) (by rcases hh with e | e <;> rw [e] <;> decide)
    omega
  · omega
theorem frac_le (l : Chars) (n : Nat) (h : n ≤ l.length) : n ≤ fracN l n ∧ fracN l n ≤ l.length := by
  unfold fracN
  split
  · rename_i hh
    have h1 := at_pos (l := l) (n := n) (by rw [hh.1]; decide)
    have := digs_le l (n + 1) (by omega)
    omega
  · omega
theorem expo_le (l : Chars) (n : Nat) (h : n ≤ l.length) : n ≤ expoN l n ∧ expoN l n ≤ l.length := by
  unfold expoN
  split
  · rename_i hh
    have h1 := at_pos (l := l) (n := n) (by rcases hh.1 with e | e <;> rw [e] <;> decide)
    have h2 := sign_le l (n + 1) (by omega)
    have := digs_le l _ h2.2.1
    omega
  · omega
theorem num_le (l : Chars) : numN l ≤ l.length := by
  unfold numN
  have h1 := sign_le l 0 (Nat.zero_le _)
  have h2 := digs_le l _ h1.2.1
  have h3 := frac_le l _ h2.2
  exact (expo_le l _ h3.2).2
theorem num_pos {l : Chars} (h : numAt l = true) : 0 < numN l := by
  unfold numAt at h
  unfold numN
  have h1 := sign_le l 0 (Nat.zero_le _)
  have h2 := digs_le l _ h1.2.1
  have h3 := frac_le l _ h2.2
  have h4 := expo_le l _ h3.2
  by_cases hd : at_ l (signN l 0) = 46
  · unfold dotN at h
    rw [if_pos hd] at h
    by_cases e : signN l 0 = digsN l (signN l 0)
    · have h5 : fracN l (digsN l (signN l 0)) = digsN l (signN l 0 + 1) := by
        unfold fracN
        rw [← e, if_pos ⟨hd, h⟩]
      rw [h5] at h4 ⊢
      have := at_pos (l := l) (n := signN l 0) (by rw [hd]; decide)
      have := digs_le l (signN l 0 + 1) (by omega)
      omega
    · omega
  · unfold dotN at h
    rw [if_neg hd] at h
    have h5 := digs_step l (signN l 0)
    rw [if_pos h] at h5
    have := at_pos (l := l) (n := signN l 0) (by intro e; rw [e] at h; cases h)
    have := digs_le l (signN l 0 + 1) (by omega)
    omega
end Go.CssKit
namespace Go.Proofs.YtmhdocgoeahbdaaGreatDoor
open Go.RowKit Go.RunKit Go.Lib Go.CssKit

set_option maxRecDepth 100000 in
set_option maxHeartbeats 1000000 in
theorem behindDigits_any (b g n : Nat) (l : Chars) (w : World) (h : RC w b g l) (hn : n ≤ l.length) :
    Calls Tryz.prog 98 #[.pointer (some ⟨b, 0, none⟩), .int .i64 ((n : Nat) : Int)] w fun e w' => e = .returned (.int .i64 ((digsN l n : Nat) : Int)) ∧ w = w' := by
  have HR := Lib.hid h
  have hlen := h.len
  clear h
  have D0 : Hid (digsN l n = digsN l n) := Lib.hid rfl
  obtain ⟨ans, hans⟩ : ∃ k, digsN l n = k := ⟨_, rfl⟩
  rw [hans]
  have D1 : Hid (digsN l n = ans) := Lib.hid hans
  clear hans D0
  go_enter Tryz.func98, Tryz.ntmps98
  go_wp2
  go_loop [1] (fun v => ∃ m : Nat, v = .int .i64 (m : Nat) ∧ m ≤ l.length ∧ Hid (digsN l m = ans)) (fun v => l.length - (RowKit.intOf v).toNat)
  case atStart => exact ⟨n, rfl, hn, D1⟩
  case round =>
    clear D1
    obtain ⟨m, rfl, hm, HD⟩ := hrel
    have H0 := Lib.hid (at_any b g m l w HR.out (by omega))
    have H1 := Lib.hid (isDigit7_any (at_ l m))
    have hst := digs_step l m
    rw [HD.out] at hst
    by_cases hd : isDg (at_ l m) = true
    · rw [if_pos hd] at hst
      have HS := Lib.hid hst
      have hlt : m < l.length := at_pos fun e => by rw [e] at hd; cases hd
      rw [hd] at H1
      generalize at_ l m = x at *
      clear hst hd
      go_big_wp2_with (first
        | (go_at_call 70; refine H0.out.mono ?_; rintro e w1 ⟨rfl, rfl⟩)
        | (go_at_call 88; refine (H1.out _).mono ?_; rintro e w1 ⟨rfl, rfl⟩))
      exact ⟨⟨m + 1, by go_num, by omega, Lib.hid HS.out.symm⟩, by simp [RowKit.intOf]; omega⟩
    · rw [if_neg hd] at hst
      have hd2 : isDg (at_ l m) = false := by simpa using hd
      rw [hd2] at H1
      generalize at_ l m = x at *
      clear hd hd2
      subst hst
      go_big_wp2_with (first
        | (go_at_call 70; refine H0.out.mono ?_; rintro e w1 ⟨rfl, rfl⟩)
        | (go_at_call 88; refine (H1.out _).mono ?_; rintro e w1 ⟨rfl, rfl⟩))
      go_ret
      exact ⟨rfl, rfl⟩
set_option maxRecDepth 100000 in
set_option maxHeartbeats 1000000 in
theorem take7_any (b g n : Nat) (l : Chars) (w : World) (h : RC w b g l) (hn0 : 0 < n) (hn : n ≤ l.length) :
    Calls Tryz.prog 79 #[.pointer (some ⟨b, 0, none⟩), .int .i64 ((n : Nat) : Int)] w fun e w' => e = .returned (.string ⟨(bytesC (l.take n)).toArray⟩) ∧ MC w b g (l.drop n) w' := by
  obtain ⟨ao, cap, hc, hf, hcap, hnone, hr⟩ := h.parts
  have hlen := h.len
  have HP := Lib.hid (pass_any b g n l w h (by omega))
  cases ao with
  | none => have := hnone rfl; omega
  | some a =>
    obtain ⟨o, rfl, hz⟩ := hr a rfl
    have HS := Lib.hid (fun c => str7_any (some ⟨g, o, none⟩) n c (l.take n) w (by rw [List.length_take]; omega) (fun h => by cases h) (fun a ha => ⟨g, o, by cases ha; rfl, fun j z hj => hz j z (by
      rw [List.getElem?_take] at hj
      split at hj
      · exact hj
      · cases hj)⟩))
    have hI : (n : Int) ≤ l.length := by omega
    have hI2 : (n : Int) ≤ cap := by omega
    clear h hr hz hnone hn0
    go_enter Tryz.func79, Tryz.ntmps79
    go_big_wp2_with (first
      | (go_at_call 94; refine (HS.out _).mono ?_; rintro e w1 ⟨rfl, rfl⟩)
      | (go_at_call 44; refine HP.out.mono ?_; rintro e w1 ⟨rfl, hm⟩))
    go_ret
    exact ⟨rfl, hm⟩
end Go.Proofs.YtmhdocgoeahbdaaGreatDoor
