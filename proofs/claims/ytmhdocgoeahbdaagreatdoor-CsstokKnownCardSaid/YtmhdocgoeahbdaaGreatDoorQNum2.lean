/-
  The reader of package csstok: where a number begins, and its text. No conditions.
-/
import Derived.Test.YtmhdocgoeahbdaaGreatDoorQTook2
namespace Go.Proofs.YtmhdocgoeahbdaaGreatDoor
open Go.RowKit Go.RunKit Go.Lib Go.CssKit

set_option maxRecDepth 100000 in
set_option maxHeartbeats 2000000 in
theorem numBegins_any (b g : Nat) (l : Chars) (w : World) (h : RC w b g l) :
    Calls Tryz.prog 76 #[.pointer (some ⟨b, 0, none⟩)] w fun e w' => e = .returned (.bool (numAt l)) ∧ w = w' := by
  have hlen := h.len
  have hs := sign_le l 0 (Nat.zero_le _)
  have H0 := behindSign_any b g 0 l w h (by omega)
  have HH0 := Lib.hid (show Calls Tryz.prog 97 #[.pointer (some ⟨b, 0, none⟩), .int .i64 0] w fun e w' => e = .returned (.int .i64 ((signN l 0 : Nat) : Int)) ∧ w = w' from H0)
  obtain ⟨k, hk⟩ : ∃ k, signN l 0 = k := ⟨_, rfl⟩
  unfold numAt
  rw [hk] at HH0 hs ⊢
  have H1 := Lib.hid (at_any b g k l w h (by omega))
  have H2 := Lib.hid (atS_any b g k l w h (by omega))
  have HD1 := Lib.hid (isDigit7_any (at_ l k))
  have HD2 := Lib.hid (isDigit7_any (at_ l (k + 1)))
  unfold dotN
  by_cases hd : at_ l k = 46
  · rw [if_pos hd]
    rw [hd] at H1
    generalize at_ l (k + 1) = y at *
    clear h H0 hk hd HD1
    go_enter Tryz.func76, Tryz.ntmps76
    go_big_wp2_with (first
      | (go_at_call 97; refine HH0.out.mono ?_; rintro e w1 ⟨rfl, rfl⟩)
      | (go_at_call_of 70 (Value.int .i64 ((k : Nat) : Int)); refine H1.out.mono ?_; rintro e w1 ⟨rfl, rfl⟩)
      | (go_at_call 70; refine H2.out.mono ?_; rintro e w1 ⟨rfl, rfl⟩)
      | (go_at_call 88; refine (HD2.out _).mono ?_; rintro e w1 ⟨rfl, rfl⟩))
    go_ret
    exact ⟨rfl, rfl⟩
  · rw [if_neg hd]
    generalize at_ l k = x at *
    have b1 : (x == 46) = false := by rw [beq_eq_false_iff_ne]; exact hd
    clear h H0 hk HD2 H2
    go_enter Tryz.func76, Tryz.ntmps76
    go_big_wp2_with (first
      | (go_at_call 97; refine HH0.out.mono ?_; rintro e w1 ⟨rfl, rfl⟩)
      | (go_at_call 70; refine H1.out.mono ?_; rintro e w1 ⟨rfl, rfl⟩)
      | (go_at_call 88; refine (HD1.out _).mono ?_; rintro e w1 ⟨rfl, rfl⟩))
    go_ret
    exact ⟨rfl, rfl⟩
theorem digsS_any (b g n : Nat) (l : Chars) (w : World) (h : RC w b g l) (hn : n + 1 ≤ l.length) :
    Calls Tryz.prog 98 #[.pointer (some ⟨b, 0, none⟩), .int .i64 ((n : Int) + 1)] w fun e w' => e = .returned (.int .i64 ((digsN l (n + 1) : Nat) : Int)) ∧ w = w' := by
  have := behindDigits_any b g (n + 1) l w h hn
  rw [show ((n + 1 : Nat) : Int) = (n : Int) + 1 by omega] at this
  exact this
theorem signS_any (b g n : Nat) (l : Chars) (w : World) (h : RC w b g l) (hn : n ≤ 1099511627776) :
    Calls Tryz.prog 97 #[.pointer (some ⟨b, 0, none⟩), .int .i64 ((n : Int) + 1)] w fun e w' => e = .returned (.int .i64 ((signN l (n + 1) : Nat) : Int)) ∧ w = w' := by
  have := behindSign_any b g (n + 1) l w h (by omega)
  rw [show ((n + 1 : Nat) : Int) = (n : Int) + 1 by omega] at this
  exact this

set_option maxRecDepth 100000 in
set_option maxHeartbeats 8000000 in
theorem takeNumber_any (b g : Nat) (l : Chars) (w : World) (h : RC w b g l) (hnum : numAt l = true) :
    Calls Tryz.prog 77 #[.pointer (some ⟨b, 0, none⟩)] w fun e w' => e = .returned (.string ⟨(bytesC (l.take (numN l))).toArray⟩) ∧ MC w b g (l.drop (numN l)) w' := by
  have hlen := h.len
  have hs := sign_le l 0 (Nat.zero_le _)
  have HT0 := take7_any b g (numN l) l w h (num_pos hnum) (num_le l)
  have h4le := num_le l
  obtain ⟨n1, hn1⟩ : ∃ k, signN l 0 = k := ⟨_, rfl⟩
  have H1 : Hid (Calls Tryz.prog 97 #[.pointer (some ⟨b, 0, none⟩), .int .i64 0] w fun e w' => e = .returned (.int .i64 ((n1 : Nat) : Int)) ∧ w = w') := Lib.hid (by rw [← hn1]; exact behindSign_any b g 0 l w h (by omega))
  rw [hn1] at hs
  obtain ⟨n2, hn2⟩ : ∃ k, digsN l n1 = k := ⟨_, rfl⟩
  have h2 := digs_le l n1 hs.2.1
  rw [hn2] at h2
  have H2 : Hid (Calls Tryz.prog 98 #[.pointer (some ⟨b, 0, none⟩), .int .i64 ((n1 : Nat) : Int)] w fun e w' => e = .returned (.int .i64 ((n2 : Nat) : Int)) ∧ w = w') := Lib.hid (by rw [← hn2]; exact behindDigits_any b g n1 l w h hs.2.1)
  have hnum4 : numN l = expoN l (fracN l n2) := by unfold numN; rw [hn1, hn2]
  obtain ⟨n4, hn4⟩ : ∃ k, numN l = k := ⟨_, rfl⟩
  rw [hn4] at hnum4 HT0 h4le ⊢
  have HT := Lib.hid HT0
  have h3 := frac_le l n2 h2.2
  have hF : (at_ l n2 = 46 ∧ isDg (at_ l (n2 + 1)) = true ∧ n2 + 1 ≤ l.length ∧ fracN l n2 = digsN l (n2 + 1)) ∨ (¬ (at_ l n2 = 46) ∧ fracN l n2 = n2) ∨ (at_ l n2 = 46 ∧ isDg (at_ l (n2 + 1)) = false ∧ fracN l n2 = n2) := by
    unfold fracN
    by_cases e : at_ l n2 = 46
    · have hp := at_pos (l := l) (n := n2) (by rw [e]; decide)
      cases hd : isDg (at_ l (n2 + 1)) with
      | true => exact .inl ⟨e, rfl, by omega, if_pos ⟨e, rfl⟩⟩
      | false => exact .inr (.inr ⟨e, rfl, if_neg (fun x => by cases x.2)⟩)
    · exact .inr (.inl ⟨e, if_neg (fun x => e x.1)⟩)
  obtain ⟨n3, hn3⟩ : ∃ k, fracN l n2 = k := ⟨_, rfl⟩
  rw [hn3] at hF h3 hnum4
  obtain ⟨n5, hn5⟩ : ∃ k, signN l (n3 + 1) = k := ⟨_, rfl⟩
  have hE : (∃ q : Int, (q = 101 ∨ q = 69) ∧ at_ l n3 = q ∧ isDg (at_ l n5) = true ∧ n3 + 1 ≤ l.length ∧ n5 ≤ l.length ∧ n4 = digsN l n5) ∨ (¬ (at_ l n3 = 101) ∧ ¬ (at_ l n3 = 69) ∧ n4 = n3) ∨ (∃ q : Int, (q = 101 ∨ q = 69) ∧ at_ l n3 = q ∧ isDg (at_ l n5) = false ∧ n3 + 1 ≤ l.length ∧ n5 ≤ l.length ∧ n4 = n3) := by
    rw [hnum4]
    unfold expoN
    rw [hn5]
    by_cases e : at_ l n3 = 101 ∨ at_ l n3 = 69
    · have hp := at_pos (l := l) (n := n3) (by rcases e with e | e <;> rw [e] <;> decide)
      have h5 := sign_le l (n3 + 1) (by omega)
      rw [hn5] at h5
      cases hd : isDg (at_ l n5) with
      | true => exact .inl ⟨_, e, rfl, rfl, by omega, h5.2.1, if_pos ⟨e, rfl⟩⟩
      | false => exact .inr (.inr ⟨_, e, rfl, rfl, by omega, h5.2.1, if_neg (fun x => by cases x.2)⟩)
    · exact .inr (.inl ⟨fun x => e (.inl x), fun x => e (.inr x), if_neg (fun x => e x.1)⟩)
  have HA2 := at_any b g n2 l w h (by omega)
  have HA2s := Lib.hid (atS_any b g n2 l w h (by omega))
  have HA3 := at_any b g n3 l w h (by omega)
  have HS3 := signS_any b g n3 l w h (by omega)
  rw [hn5] at HS3
  have HS3 := Lib.hid HS3
  have HD2 := Lib.hid (isDigit7_any (at_ l (n2 + 1)))
  have HD5 := Lib.hid (isDigit7_any (at_ l n5))
  have hG2 : n2 + 1 ≤ l.length → Hid (Calls Tryz.prog 98 #[.pointer (some ⟨b, 0, none⟩), .int .i64 ((n2 : Int) + 1)] w fun e w' => e = .returned (.int .i64 ((digsN l (n2 + 1) : Nat) : Int)) ∧ w = w') := fun hh => Lib.hid (digsS_any b g n2 l w h hh)
  have hG5 : n5 ≤ l.length → Hid (Calls Tryz.prog 98 #[.pointer (some ⟨b, 0, none⟩), .int .i64 ((n5 : Nat) : Int)] w fun e w' => e = .returned (.int .i64 ((digsN l n5 : Nat) : Int)) ∧ w = w') := fun hh => Lib.hid (behindDigits_any b g n5 l w h hh)
  have hA5 : n5 ≤ l.length → Hid (Calls Tryz.prog 70 #[.pointer (some ⟨b, 0, none⟩), .int .i64 ((n5 : Nat) : Int)] w fun e w' => e = .returned (.int .i32 (at_ l n5)) ∧ w = w') := fun hh => Lib.hid (at_any b g n5 l w h (by omega))
  have hx : n3 = n2 → at_ l n3 = at_ l n2 := fun e => by rw [e]
  have hl1 : n1 ≤ 1099511627776 := by omega
  have hl2 : n2 ≤ 1099511627776 := by omega
  have hl3 : n3 ≤ 1099511627776 := by omega
  generalize at_ l (n2 + 1) = y2 at *
  generalize at_ l n5 = y5 at *
  generalize digsN l (n2 + 1) = d2 at *
  generalize digsN l n5 = d5 at *
  generalize at_ l n2 = x2 at *
  generalize at_ l n3 = x3 at *
  generalize l.length = len at *
  clear hn1 hn2 hn3 hn4 hn5 hnum4 h HT0 hnum hs h2 h3 h4le hlen
  rcases hF with hF | hF | hF
  · obtain ⟨e2, f2, g2, e3n⟩ := hF
    subst e2
    have HG2 := hG2 g2
    rw [f2] at HD2
    rw [← e3n] at HG2
    clear hx hG2 f2 g2 e3n
    rcases hE with hE | hE | hE
    · obtain ⟨q, hq, e3, f3, g3, g5, e5⟩ := hE
      have HA5 := hA5 g5
      have HG5 := hG5 g5
      rw [← e5] at HG5
      rw [f3] at HD5
      clear hA5 hG5 f3 g3 g5 e5
      subst e3
      rcases hq with rfl | rfl
      · go_enter Tryz.func77, Tryz.ntmps77
        go_big_wp2_with (first
          | (go_at_call_of 97 (Value.int .i64 0); refine H1.out.mono ?_; rintro e w1 ⟨rfl, rfl⟩)
          | (go_at_call_of 98 (Value.int .i64 ((n1 : Nat) : Int)); refine H2.out.mono ?_; rintro e w1 ⟨rfl, rfl⟩)
          | (go_at_call_of 70 (Value.int .i64 ((n2 : Nat) : Int)); refine HA2.mono ?_; rintro e w1 ⟨rfl, rfl⟩)
          | (go_at_call_of 88 (Value.int .i32 y2); refine (HD2.out _).mono ?_; rintro e w1 ⟨rfl, rfl⟩)
          | (go_at_call_of 88 (Value.int .i32 y5); refine (HD5.out _).mono ?_; rintro e w1 ⟨rfl, rfl⟩)
          | (go_at_call_of 70 (Value.int .i64 ((n3 : Nat) : Int)); refine HA3.mono ?_; rintro e w1 ⟨rfl, rfl⟩)
          | (go_at_call 97; refine HS3.out.mono ?_; rintro e w1 ⟨rfl, rfl⟩)
          | (go_at_call_of 70 (Value.int .i64 ((n5 : Nat) : Int)); refine HA5.out.mono ?_; rintro e w1 ⟨rfl, rfl⟩)
          | (go_at_call_of 98 (Value.int .i64 ((n5 : Nat) : Int)); refine HG5.out.mono ?_; rintro e w1 ⟨rfl, rfl⟩)
          | (go_at_call 79; refine HT.out.mono ?_; rintro e w1 ⟨rfl, hm⟩)
          | (go_at_call_has 70 (Value.int .i64 ((n2 : Int) + 1)); refine HA2s.out.mono ?_; rintro e w1 ⟨rfl, rfl⟩)
          | (go_at_call_has 98 (Value.int .i64 ((n2 : Int) + 1)); refine HG2.out.mono ?_; rintro e w1 ⟨rfl, rfl⟩))
        go_ret
        exact ⟨rfl, hm⟩
      · go_enter Tryz.func77, Tryz.ntmps77
        go_big_wp2_with (first
          | (go_at_call_of 97 (Value.int .i64 0); refine H1.out.mono ?_; rintro e w1 ⟨rfl, rfl⟩)
          | (go_at_call_of 98 (Value.int .i64 ((n1 : Nat) : Int)); refine H2.out.mono ?_; rintro e w1 ⟨rfl, rfl⟩)
          | (go_at_call_of 70 (Value.int .i64 ((n2 : Nat) : Int)); refine HA2.mono ?_; rintro e w1 ⟨rfl, rfl⟩)
          | (go_at_call_of 88 (Value.int .i32 y2); refine (HD2.out _).mono ?_; rintro e w1 ⟨rfl, rfl⟩)
          | (go_at_call_of 88 (Value.int .i32 y5); refine (HD5.out _).mono ?_; rintro e w1 ⟨rfl, rfl⟩)
          | (go_at_call_of 70 (Value.int .i64 ((n3 : Nat) : Int)); refine HA3.mono ?_; rintro e w1 ⟨rfl, rfl⟩)
          | (go_at_call 97; refine HS3.out.mono ?_; rintro e w1 ⟨rfl, rfl⟩)
          | (go_at_call_of 70 (Value.int .i64 ((n5 : Nat) : Int)); refine HA5.out.mono ?_; rintro e w1 ⟨rfl, rfl⟩)
          | (go_at_call_of 98 (Value.int .i64 ((n5 : Nat) : Int)); refine HG5.out.mono ?_; rintro e w1 ⟨rfl, rfl⟩)
          | (go_at_call 79; refine HT.out.mono ?_; rintro e w1 ⟨rfl, hm⟩)
          | (go_at_call_has 70 (Value.int .i64 ((n2 : Int) + 1)); refine HA2s.out.mono ?_; rintro e w1 ⟨rfl, rfl⟩)
          | (go_at_call_has 98 (Value.int .i64 ((n2 : Int) + 1)); refine HG2.out.mono ?_; rintro e w1 ⟨rfl, rfl⟩))
        go_ret
        exact ⟨rfl, hm⟩
    · obtain ⟨e3, e4, e5⟩ := hE
      subst n4
      have b3 : (x3 == 101) = false := by rw [beq_eq_false_iff_ne]; exact e3
      have b4 : (x3 == 69) = false := by rw [beq_eq_false_iff_ne]; exact e4
      clear hA5 hG5 HD5
      go_enter Tryz.func77, Tryz.ntmps77
      go_big_wp2_with (first
        | (go_at_call_of 97 (Value.int .i64 0); refine H1.out.mono ?_; rintro e w1 ⟨rfl, rfl⟩)
        | (go_at_call_of 98 (Value.int .i64 ((n1 : Nat) : Int)); refine H2.out.mono ?_; rintro e w1 ⟨rfl, rfl⟩)
        | (go_at_call_of 70 (Value.int .i64 ((n2 : Nat) : Int)); refine HA2.mono ?_; rintro e w1 ⟨rfl, rfl⟩)
        | (go_at_call_of 88 (Value.int .i32 y2); refine (HD2.out _).mono ?_; rintro e w1 ⟨rfl, rfl⟩)
        | (go_at_call_of 70 (Value.int .i64 ((n3 : Nat) : Int)); refine HA3.mono ?_; rintro e w1 ⟨rfl, rfl⟩)
        | (go_at_call 97; refine HS3.out.mono ?_; rintro e w1 ⟨rfl, rfl⟩)
        | (go_at_call 79; refine HT.out.mono ?_; rintro e w1 ⟨rfl, hm⟩)
        | (go_at_call_has 70 (Value.int .i64 ((n2 : Int) + 1)); refine HA2s.out.mono ?_; rintro e w1 ⟨rfl, rfl⟩)
        | (go_at_call_has 98 (Value.int .i64 ((n2 : Int) + 1)); refine HG2.out.mono ?_; rintro e w1 ⟨rfl, rfl⟩))
      go_ret
      exact ⟨rfl, hm⟩
    · obtain ⟨q, hq, e3, f3, g3, g5, e5⟩ := hE
      have HA5 := hA5 g5
      subst n4
      rw [f3] at HD5
      clear hA5 hG5 f3 g3 g5
      subst e3
      rcases hq with rfl | rfl
      · go_enter Tryz.func77, Tryz.ntmps77
        go_big_wp2_with (first
          | (go_at_call_of 97 (Value.int .i64 0); refine H1.out.mono ?_; rintro e w1 ⟨rfl, rfl⟩)
          | (go_at_call_of 98 (Value.int .i64 ((n1 : Nat) : Int)); refine H2.out.mono ?_; rintro e w1 ⟨rfl, rfl⟩)
          | (go_at_call_of 70 (Value.int .i64 ((n2 : Nat) : Int)); refine HA2.mono ?_; rintro e w1 ⟨rfl, rfl⟩)
          | (go_at_call_of 88 (Value.int .i32 y2); refine (HD2.out _).mono ?_; rintro e w1 ⟨rfl, rfl⟩)
          | (go_at_call_of 88 (Value.int .i32 y5); refine (HD5.out _).mono ?_; rintro e w1 ⟨rfl, rfl⟩)
          | (go_at_call_of 70 (Value.int .i64 ((n3 : Nat) : Int)); refine HA3.mono ?_; rintro e w1 ⟨rfl, rfl⟩)
          | (go_at_call 97; refine HS3.out.mono ?_; rintro e w1 ⟨rfl, rfl⟩)
          | (go_at_call_of 70 (Value.int .i64 ((n5 : Nat) : Int)); refine HA5.out.mono ?_; rintro e w1 ⟨rfl, rfl⟩)
          | (go_at_call 79; refine HT.out.mono ?_; rintro e w1 ⟨rfl, hm⟩)
          | (go_at_call_has 70 (Value.int .i64 ((n2 : Int) + 1)); refine HA2s.out.mono ?_; rintro e w1 ⟨rfl, rfl⟩)
          | (go_at_call_has 98 (Value.int .i64 ((n2 : Int) + 1)); refine HG2.out.mono ?_; rintro e w1 ⟨rfl, rfl⟩))
        go_ret
        exact ⟨rfl, hm⟩
      · go_enter Tryz.func77, Tryz.ntmps77
        go_big_wp2_with (first
          | (go_at_call_of 97 (Value.int .i64 0); refine H1.out.mono ?_; rintro e w1 ⟨rfl, rfl⟩)
          | (go_at_call_of 98 (Value.int .i64 ((n1 : Nat) : Int)); refine H2.out.mono ?_; rintro e w1 ⟨rfl, rfl⟩)
          | (go_at_call_of 70 (Value.int .i64 ((n2 : Nat) : Int)); refine HA2.mono ?_; rintro e w1 ⟨rfl, rfl⟩)
          | (go_at_call_of 88 (Value.int .i32 y2); refine (HD2.out _).mono ?_; rintro e w1 ⟨rfl, rfl⟩)
          | (go_at_call_of 88 (Value.int .i32 y5); refine (HD5.out _).mono ?_; rintro e w1 ⟨rfl, rfl⟩)
          | (go_at_call_of 70 (Value.int .i64 ((n3 : Nat) : Int)); refine HA3.mono ?_; rintro e w1 ⟨rfl, rfl⟩)
          | (go_at_call 97; refine HS3.out.mono ?_; rintro e w1 ⟨rfl, rfl⟩)
          | (go_at_call_of 70 (Value.int .i64 ((n5 : Nat) : Int)); refine HA5.out.mono ?_; rintro e w1 ⟨rfl, rfl⟩)
          | (go_at_call 79; refine HT.out.mono ?_; rintro e w1 ⟨rfl, hm⟩)
          | (go_at_call_has 70 (Value.int .i64 ((n2 : Int) + 1)); refine HA2s.out.mono ?_; rintro e w1 ⟨rfl, rfl⟩)
          | (go_at_call_has 98 (Value.int .i64 ((n2 : Int) + 1)); refine HG2.out.mono ?_; rintro e w1 ⟨rfl, rfl⟩))
        go_ret
        exact ⟨rfl, hm⟩
  · obtain ⟨e2, e3n⟩ := hF
    subst n3
    have hxx := hx rfl
    subst x3
    have b2 : (x2 == 46) = false := by rw [beq_eq_false_iff_ne]; exact e2
    clear hG2 hx HA3
    rcases hE with hE | hE | hE
    · obtain ⟨q, hq, e3, f3, g3, g5, e5⟩ := hE
      have HA5 := hA5 g5
      have HG5 := hG5 g5
      rw [← e5] at HG5
      rw [f3] at HD5
      clear hA5 hG5 f3 g3 g5 e5
      subst e3
      rcases hq with rfl | rfl
      · go_enter Tryz.func77, Tryz.ntmps77
        go_big_wp2_with (first
          | (go_at_call_of 97 (Value.int .i64 0); refine H1.out.mono ?_; rintro e w1 ⟨rfl, rfl⟩)
          | (go_at_call_of 98 (Value.int .i64 ((n1 : Nat) : Int)); refine H2.out.mono ?_; rintro e w1 ⟨rfl, rfl⟩)
          | (go_at_call_of 70 (Value.int .i64 ((n2 : Nat) : Int)); refine HA2.mono ?_; rintro e w1 ⟨rfl, rfl⟩)
          | (go_at_call_of 88 (Value.int .i32 y2); refine (HD2.out _).mono ?_; rintro e w1 ⟨rfl, rfl⟩)
          | (go_at_call_of 88 (Value.int .i32 y5); refine (HD5.out _).mono ?_; rintro e w1 ⟨rfl, rfl⟩)
          | (go_at_call 97; refine HS3.out.mono ?_; rintro e w1 ⟨rfl, rfl⟩)
          | (go_at_call_of 70 (Value.int .i64 ((n5 : Nat) : Int)); refine HA5.out.mono ?_; rintro e w1 ⟨rfl, rfl⟩)
          | (go_at_call_of 98 (Value.int .i64 ((n5 : Nat) : Int)); refine HG5.out.mono ?_; rintro e w1 ⟨rfl, rfl⟩)
          | (go_at_call 79; refine HT.out.mono ?_; rintro e w1 ⟨rfl, hm⟩)
          | (go_at_call_has 70 (Value.int .i64 ((n2 : Int) + 1)); refine HA2s.out.mono ?_; rintro e w1 ⟨rfl, rfl⟩))
        go_ret
        exact ⟨rfl, hm⟩
      · go_enter Tryz.func77, Tryz.ntmps77
        go_big_wp2_with (first
          | (go_at_call_of 97 (Value.int .i64 0); refine H1.out.mono ?_; rintro e w1 ⟨rfl, rfl⟩)
          | (go_at_call_of 98 (Value.int .i64 ((n1 : Nat) : Int)); refine H2.out.mono ?_; rintro e w1 ⟨rfl, rfl⟩)
          | (go_at_call_of 70 (Value.int .i64 ((n2 : Nat) : Int)); refine HA2.mono ?_; rintro e w1 ⟨rfl, rfl⟩)
          | (go_at_call_of 88 (Value.int .i32 y2); refine (HD2.out _).mono ?_; rintro e w1 ⟨rfl, rfl⟩)
          | (go_at_call_of 88 (Value.int .i32 y5); refine (HD5.out _).mono ?_; rintro e w1 ⟨rfl, rfl⟩)
          | (go_at_call 97; refine HS3.out.mono ?_; rintro e w1 ⟨rfl, rfl⟩)
          | (go_at_call_of 70 (Value.int .i64 ((n5 : Nat) : Int)); refine HA5.out.mono ?_; rintro e w1 ⟨rfl, rfl⟩)
          | (go_at_call_of 98 (Value.int .i64 ((n5 : Nat) : Int)); refine HG5.out.mono ?_; rintro e w1 ⟨rfl, rfl⟩)
          | (go_at_call 79; refine HT.out.mono ?_; rintro e w1 ⟨rfl, hm⟩)
          | (go_at_call_has 70 (Value.int .i64 ((n2 : Int) + 1)); refine HA2s.out.mono ?_; rintro e w1 ⟨rfl, rfl⟩))
        go_ret
        exact ⟨rfl, hm⟩
    · obtain ⟨e3, e4, e5⟩ := hE
      subst n4
      have b3 : (x2 == 101) = false := by rw [beq_eq_false_iff_ne]; exact e3
      have b4 : (x2 == 69) = false := by rw [beq_eq_false_iff_ne]; exact e4
      clear hA5 hG5 HD5
      go_enter Tryz.func77, Tryz.ntmps77
      go_big_wp2_with (first
        | (go_at_call_of 97 (Value.int .i64 0); refine H1.out.mono ?_; rintro e w1 ⟨rfl, rfl⟩)
        | (go_at_call_of 98 (Value.int .i64 ((n1 : Nat) : Int)); refine H2.out.mono ?_; rintro e w1 ⟨rfl, rfl⟩)
        | (go_at_call_of 70 (Value.int .i64 ((n2 : Nat) : Int)); refine HA2.mono ?_; rintro e w1 ⟨rfl, rfl⟩)
        | (go_at_call_of 88 (Value.int .i32 y2); refine (HD2.out _).mono ?_; rintro e w1 ⟨rfl, rfl⟩)
        | (go_at_call 97; refine HS3.out.mono ?_; rintro e w1 ⟨rfl, rfl⟩)
        | (go_at_call 79; refine HT.out.mono ?_; rintro e w1 ⟨rfl, hm⟩)
        | (go_at_call_has 70 (Value.int .i64 ((n2 : Int) + 1)); refine HA2s.out.mono ?_; rintro e w1 ⟨rfl, rfl⟩))
      go_ret
      exact ⟨rfl, hm⟩
    · obtain ⟨q, hq, e3, f3, g3, g5, e5⟩ := hE
      have HA5 := hA5 g5
      subst n4
      rw [f3] at HD5
      clear hA5 hG5 f3 g3 g5
      subst e3
      rcases hq with rfl | rfl
      · go_enter Tryz.func77, Tryz.ntmps77
        go_big_wp2_with (first
          | (go_at_call_of 97 (Value.int .i64 0); refine H1.out.mono ?_; rintro e w1 ⟨rfl, rfl⟩)
          | (go_at_call_of 98 (Value.int .i64 ((n1 : Nat) : Int)); refine H2.out.mono ?_; rintro e w1 ⟨rfl, rfl⟩)
          | (go_at_call_of 70 (Value.int .i64 ((n2 : Nat) : Int)); refine HA2.mono ?_; rintro e w1 ⟨rfl, rfl⟩)
          | (go_at_call_of 88 (Value.int .i32 y2); refine (HD2.out _).mono ?_; rintro e w1 ⟨rfl, rfl⟩)
          | (go_at_call_of 88 (Value.int .i32 y5); refine (HD5.out _).mono ?_; rintro e w1 ⟨rfl, rfl⟩)
          | (go_at_call 97; refine HS3.out.mono ?_; rintro e w1 ⟨rfl, rfl⟩)
          | (go_at_call_of 70 (Value.int .i64 ((n5 : Nat) : Int)); refine HA5.out.mono ?_; rintro e w1 ⟨rfl, rfl⟩)
          | (go_at_call 79; refine HT.out.mono ?_; rintro e w1 ⟨rfl, hm⟩)
          | (go_at_call_has 70 (Value.int .i64 ((n2 : Int) + 1)); refine HA2s.out.mono ?_; rintro e w1 ⟨rfl, rfl⟩))
        go_ret
        exact ⟨rfl, hm⟩
      · go_enter Tryz.func77, Tryz.ntmps77
        go_big_wp2_with (first
          | (go_at_call_of 97 (Value.int .i64 0); refine H1.out.mono ?_; rintro e w1 ⟨rfl, rfl⟩)
          | (go_at_call_of 98 (Value.int .i64 ((n1 : Nat) : Int)); refine H2.out.mono ?_; rintro e w1 ⟨rfl, rfl⟩)
          | (go_at_call_of 70 (Value.int .i64 ((n2 : Nat) : Int)); refine HA2.mono ?_; rintro e w1 ⟨rfl, rfl⟩)
          | (go_at_call_of 88 (Value.int .i32 y2); refine (HD2.out _).mono ?_; rintro e w1 ⟨rfl, rfl⟩)
          | (go_at_call_of 88 (Value.int .i32 y5); refine (HD5.out _).mono ?_; rintro e w1 ⟨rfl, rfl⟩)
          | (go_at_call 97; refine HS3.out.mono ?_; rintro e w1 ⟨rfl, rfl⟩)
          | (go_at_call_of 70 (Value.int .i64 ((n5 : Nat) : Int)); refine HA5.out.mono ?_; rintro e w1 ⟨rfl, rfl⟩)
          | (go_at_call 79; refine HT.out.mono ?_; rintro e w1 ⟨rfl, hm⟩)
          | (go_at_call_has 70 (Value.int .i64 ((n2 : Int) + 1)); refine HA2s.out.mono ?_; rintro e w1 ⟨rfl, rfl⟩))
        go_ret
        exact ⟨rfl, hm⟩
  · obtain ⟨e2, f2, e3n⟩ := hF
    subst n3
    have hxx := hx rfl
    subst x3
    rw [f2] at HD2
    clear hG2 hx f2 HA3
    rcases hE with hE | hE | hE
    · obtain ⟨q, hq, e3, _⟩ := hE
      exfalso; omega
    · obtain ⟨e3, e4, e5⟩ := hE
      subst n4
      have b3 : (x2 == 101) = false := by rw [beq_eq_false_iff_ne]; exact e3
      have b4 : (x2 == 69) = false := by rw [beq_eq_false_iff_ne]; exact e4
      clear hA5 hG5 HD5
      subst x2
      go_enter Tryz.func77, Tryz.ntmps77
      go_big_wp2_with (first
        | (go_at_call_of 97 (Value.int .i64 0); refine H1.out.mono ?_; rintro e w1 ⟨rfl, rfl⟩)
        | (go_at_call_of 98 (Value.int .i64 ((n1 : Nat) : Int)); refine H2.out.mono ?_; rintro e w1 ⟨rfl, rfl⟩)
        | (go_at_call_of 70 (Value.int .i64 ((n2 : Nat) : Int)); refine HA2.mono ?_; rintro e w1 ⟨rfl, rfl⟩)
        | (go_at_call_of 88 (Value.int .i32 y2); refine (HD2.out _).mono ?_; rintro e w1 ⟨rfl, rfl⟩)
        | (go_at_call 97; refine HS3.out.mono ?_; rintro e w1 ⟨rfl, rfl⟩)
        | (go_at_call 79; refine HT.out.mono ?_; rintro e w1 ⟨rfl, hm⟩)
        | (go_at_call_has 70 (Value.int .i64 ((n2 : Int) + 1)); refine HA2s.out.mono ?_; rintro e w1 ⟨rfl, rfl⟩))
      go_ret
      exact ⟨rfl, hm⟩
    · obtain ⟨q, hq, e3, _⟩ := hE
      exfalso; omega
end Go.Proofs.YtmhdocgoeahbdaaGreatDoor
