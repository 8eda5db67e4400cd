/-
  Find of charref. Conditions: the text is no longer than 2^40 bytes.
-/
import Derived.Test.YtkfmfldkllkcbabDoorCName2
namespace Go.Proofs.YtkfmfldkllkcbabDoor
open Go.RowKit Go.RunKit Go.CharrefKit Go.Lib

theorem isHex_cases (r : List Nat) : (r = [] ∧ isHex r = false) ∨ (isHex r = true ∧ r.head? = some 120) ∨ (isHex r = true ∧ r.head? = some 88) ∨ ∃ q l, r = q :: l ∧ isHex r = false ∧ q ≠ 120 ∧ q ≠ 88 := by
  cases r with
  | nil => exact .inl ⟨rfl, rfl⟩
  | cons q l =>
    by_cases h1 : q = 120
    · subst h1; exact .inr (.inl ⟨rfl, rfl⟩)
    · by_cases h2 : q = 88
      · subst h2; exact .inr (.inr (.inl ⟨rfl, rfl⟩))
      · refine .inr (.inr (.inr ⟨q, l, rfl, ?_, h1, h2⟩))
        unfold isHex
        split
        · rename_i e; simp only [List.cons.injEq] at e; exact absurd e.1 h1
        · rename_i e; simp only [List.cons.injEq] at e; exact absurd e.1 h2
        · rfl
theorem byNumber_any (attr : Bool) (s : ByteArray) (r : List Nat) (hs : natsOf s = 38 :: 35 :: r) (hsz : s.size ≤ 1099511627776) (w : World) :
    Calls Tryd.prog 35 #[.string s] w fun e w' => e = .returned (refV (findL attr (natsOf s))) ∧ Below w.heap.size w w' := by
  rcases isHex_cases r with ⟨h, hx⟩ | ⟨hx, h⟩ | ⟨hx, h⟩ | ⟨q, l, h, hx, h1, h2⟩
  · exact byNumber_empty attr s r hs hsz w h hx
  · exact byNumber_hex attr s r hs hsz w hx h
  · exact byNumber_heX attr s r hs hsz w hx h
  · exact byNumber_dec attr s r hs hsz w q l h hx h1 h2

theorem pre_amp (s : ByteArray) : hasPre s ⟨#[38]⟩ = [38].isPrefixOf (natsOf s) := rfl
theorem pre_num (s : ByteArray) : hasPre s ⟨#[38, 35]⟩ = [38, 35].isPrefixOf (natsOf s) := rfl

set_option maxRecDepth 100000 in
set_option maxHeartbeats 1000000 in
theorem find_any (attr : Bool) (s : ByteArray) (hsz : s.size ≤ 1099511627776) (w : World) :
    Calls Tryd.prog 22 #[.string s, .bool attr] w fun e w' => e = .returned (refV (findL attr (natsOf s))) ∧ Below w.heap.size w w' := by
  have H1 := Lib.hid (fun w => hasPrefix_any s ⟨#[38, 35]⟩ w)
  have H2 := Lib.hid (fun w => hasPrefix_any s ⟨#[38]⟩ w)
  rw [pre_num] at H1
  rw [pre_amp] at H2
  rcases find_cases attr (natsOf s) with ⟨r, hs⟩ | ⟨r, hs, hr⟩ | ⟨hn, hf⟩
  · have HN := byNumber_any attr s r hs hsz w
    have e1 : [38, 35].isPrefixOf (natsOf s) = true := by rw [hs]; rfl
    rw [e1] at H1
    obtain ⟨x, hx⟩ : ∃ x, Hid (findL attr (natsOf s) = x) := ⟨_, Lib.hid rfl⟩
    rw [hx.out] at HN
    have HN := Lib.hid HN
    have HV : Hid (refV (findL attr (natsOf s)) = .tuple #[.int .i32 ((x.char : Nat) : Int), .int .i64 ((x.len : Nat) : Int), .bool x.ok]) := Lib.hid (by rw [hx.out]; rfl)
    unfold refV at HN
    clear hs e1 H2
    go_enter Tryd.func22, Tryd.ntmps22
    go_wp2_with (first
      | (go_at_call 34; refine (H1.out _).mono ?_; rintro e w1 ⟨rfl, rfl⟩)
      | (go_at_call 35; refine HN.out.mono ?_; rintro e w2 ⟨rfl, hb⟩))
    go_ret3
    exact ⟨by rw [HV.out]; rfl, hb⟩
  · have HN := byName_any attr s r hs hsz w
    have e1 : [38, 35].isPrefixOf (natsOf s) = false := by
      rw [hs]
      cases r with
      | nil => rfl
      | cons c t =>
        have hc : c ≠ 35 := fun e => hr t (by rw [e])
        show ((38 == 38) && ((35 == c) && List.isPrefixOf [] t)) = false
        rw [beq_eq_false_iff_ne.2 (fun e : 35 = c => hc e.symm)]; rfl
    have e2 : [38].isPrefixOf (natsOf s) = true := by rw [hs]; rfl
    rw [e1] at H1
    rw [e2] at H2
    have hfn : findL attr (natsOf s) = nameL attr r := by rw [hs]; exact findL_name hr
    obtain ⟨x, hx⟩ : ∃ x, Hid (nameL attr r = x) := ⟨_, Lib.hid rfl⟩
    rw [hx.out] at HN
    have HN := Lib.hid HN
    have HV : Hid (refV (findL attr (natsOf s)) = .tuple #[.int .i32 ((x.char : Nat) : Int), .int .i64 ((x.len : Nat) : Int), .bool x.ok]) := Lib.hid (by rw [hfn, hx.out]; rfl)
    unfold refV at HN
    clear hs e1 e2 hr hfn
    go_enter Tryd.func22, Tryd.ntmps22
    go_wp2_with (first
      | (go_at_call 34; refine (H1.out _).mono ?_; rintro e w1 ⟨rfl, rfl⟩; clear H1)
      | (go_at_call 34; refine (H2.out _).mono ?_; rintro e w1 ⟨rfl, rfl⟩)
      | (go_at_call 36; refine HN.out.mono ?_; rintro e w2 ⟨rfl, hb⟩))
    go_ret3
    exact ⟨by rw [HV.out]; rfl, hb⟩
  · have e0 : ∀ t : List Nat, (38 :: t).isPrefixOf (natsOf s) = false := by
      intro t
      cases hl : natsOf s with
      | nil => rfl
      | cons b u =>
        have hb : b ≠ 38 := fun e => hn u (by rw [hl, e])
        show ((38 == b) && List.isPrefixOf t u) = false
        rw [beq_eq_false_iff_ne.2 (fun e : 38 = b => hb e.symm)]; rfl
    rw [e0] at H1 H2
    have HV : Hid (refV (findL attr (natsOf s)) = .tuple #[.int .i32 0, .int .i64 0, .bool false]) := Lib.hid (by rw [hf]; rfl)
    clear hf hn e0
    go_enter Tryd.func22, Tryd.ntmps22
    go_wp2_with (first
      | (go_at_call 34; refine (H1.out _).mono ?_; rintro e w1 ⟨rfl, rfl⟩; clear H1)
      | (go_at_call 34; refine (H2.out _).mono ?_; rintro e w1 ⟨rfl, rfl⟩))
    go_ret3
    exact ⟨by rw [HV.out]; rfl, Below.refl _ _⟩
end Go.Proofs.YtkfmfldkllkcbabDoor

