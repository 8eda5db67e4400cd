/-
  Find and Decode: the document's way. Conditions: the text is no longer than 2^40 bytes.
-/
import Derived.Test.YtfjphhmbnhglcaaGreatDoorCRef2
import Derived.Lib.AppendStr
namespace Go.Proofs.YtfjphhmbnhglcaaGreatDoor
open Go.RowKit Go.RunKit Go.CharrefKit Go.Lib

set_option maxRecDepth 100000 in
set_option maxHeartbeats 1000000 in
theorem refFind_any (attr : Bool) (s : ByteArray) (hsz : s.size ≤ 1099511627776) (w : World) :
    Calls Tryz.prog 114 #[.string s, .bool attr] w fun e w' => e = .returned (refV (findL attr (natsOf s))) ∧ Below w.heap.size w w' := by
  rcases find_cases attr (natsOf s) with ⟨r, hs⟩ | ⟨r, hs, hr⟩ | ⟨hn, hf⟩
  · have H1 := Lib.hid (fun w => begins_any s ⟨#[38]⟩ w)
    have H2 := Lib.hid (fun w => begins_any s ⟨#[38, 35]⟩ w)
    have e1 : hasPre s ⟨#[38]⟩ = true := by unfold hasPre; rw [hs]; rfl
    have e2 : hasPre s ⟨#[38, 35]⟩ = true := by unfold hasPre; rw [hs]; rfl
    rw [e1] at H1
    rw [e2] at H2
    have hsl := natsOf_length s
    rw [hs] at hsl
    simp only [List.length_cons] at hsl
    have hN := refNumber_any (s.extract 2 s.size) (by simp; omega)
    have hd : natsOf (s.extract 2 s.size) = r := by rw [natsOf_drop, hs]; rfl
    rw [hd] at hN
    have hf : findL attr (natsOf s) = if (numberL r).ok = true then ⟨(numberL r).char, (numberL r).len + 2, true⟩ else noRef := by rw [hs]; exact findL_num attr r
    have hlen : (numberL r).ok = true → (numberL r).len ≤ r.length := fun h => (numberL_len h).2
    obtain ⟨x, hx⟩ : ∃ x, numberL r = x := ⟨_, rfl⟩
    rw [hx] at hN hf hlen
    obtain ⟨c, n, k⟩ := x
    unfold refV at hN
    simp only at hN hf hlen
    have HN := Lib.hid hN
    have hszI : (2 : Int) ≤ s.size := by omega
    cases k with
    | true =>
      have HV : Hid (refV (findL attr (natsOf s)) = .tuple #[.int .i32 (c : Nat), .int .i64 ((n : Int) + 2), .bool true]) := Lib.hid (by rw [hf, if_pos rfl]; rfl)
      have hn : n ≤ 1099511627776 := by have := hlen rfl; omega
      clear hs e1 e2 hN hd hf hx hlen
      go_enter Tryz.func114, Tryz.ntmps114
      go_wp2_with (first
        | (go_at_call 151; refine (H1.out _).mono ?_; rintro e w1 ⟨rfl, rfl⟩; clear H1)
        | (go_at_call 151; refine (H2.out _).mono ?_; rintro e w1 ⟨rfl, rfl⟩; clear H2)
        | (go_at_call 152; refine (HN.out _).mono ?_; rintro e w2 ⟨rfl, hb⟩))
      go_ret3
      exact ⟨by rw [HV.out]; rfl, hb⟩
    | false =>
      have HV : Hid (refV (findL attr (natsOf s)) = .tuple #[.int .i32 0, .int .i64 0, .bool false]) := Lib.hid (by rw [hf, if_neg (by decide)]; rfl)
      clear hs e1 e2 hN hd hf hx hlen
      go_enter Tryz.func114, Tryz.ntmps114
      go_wp2_with (first
        | (go_at_call 151; refine (H1.out _).mono ?_; rintro e w1 ⟨rfl, rfl⟩; clear H1)
        | (go_at_call 151; refine (H2.out _).mono ?_; rintro e w1 ⟨rfl, rfl⟩; clear H2)
        | (go_at_call 152; refine (HN.out _).mono ?_; rintro e w2 ⟨rfl, hb⟩))
      go_ret3
      exact ⟨by rw [HV.out]; rfl, hb⟩
  · have := refFind_name attr s r hs hr hsz w
    have e : findL attr (natsOf s) = nameL attr r := by rw [hs]; exact findL_name hr
    rw [e]; exact this
  · have H1 := Lib.hid (fun w => begins_any s ⟨#[38]⟩ w)
    have e1 : hasPre s ⟨#[38]⟩ = false := by
      unfold hasPre
      cases hl : natsOf s with
      | nil => rfl
      | cons b u =>
        have hb : b ≠ 38 := fun e => hn u (by rw [hl, e])
        show ((38 == b) && List.isPrefixOf [] u) = false
        rw [beq_eq_false_iff_ne.2 (fun e : 38 = b => hb e.symm)]; rfl
    rw [e1] at H1
    have HV : Hid (refV (findL attr (natsOf s)) = .tuple #[.int .i32 0, .int .i64 0, .bool false]) := Lib.hid (by rw [hf]; rfl)
    clear hn hf e1
    go_enter Tryz.func114, Tryz.ntmps114
    go_wp2_with (go_at_call 151; refine (H1.out _).mono ?_; rintro e w1 ⟨rfl, rfl⟩; clear H1)
    go_ret3
    exact ⟨by rw [HV.out]; rfl, Below.refl _ _⟩
end Go.Proofs.YtfjphhmbnhglcaaGreatDoor
