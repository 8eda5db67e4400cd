/-
  The reader of package csstok: escapes. No conditions.
-/
import Derived.Test.YtmhdocgoeahbdaaGreatDoorQCom
import Derived.Test.YtmhdocgoeahbdaaGreatDoorShelf
import Derived.Deep.DeepCutAuto
import Derived.Deep.CutBlock
import Derived.Deep.WholeRow
namespace Go.CssKit
open Go Go.Lib
theorem hexC_le (c : Int) : hexC c ≤ 15 := by
  unfold hexC
  repeat' split
  all_goals omega
theorem hexRun_at : ∀ (f : Nat) (l : Chars) (k : Nat), k < (hexRun f l).length → 0 ≤ hexC (at_ l k) ∧ (hexRun f l)[k]? = some (at_ l k)
  | 0, _, k, h => by simp [hexRun] at h
  | f + 1, [], k, h => by simp [hexRun] at h
  | f + 1, c :: r, k, h => by
    unfold hexRun at h ⊢
    split at h
    · rename_i hc
      rw [if_pos hc]
      cases k with
      | zero => exact ⟨by rw [at_cons]; exact hc, by rw [at_cons]; rfl⟩
      | succ k =>
        have := hexRun_at f r k (by simpa using h)
        have e : at_ (c :: r) (k + 1) = at_ r k := by simp [at_]
        rw [e]
        exact ⟨this.1, by simpa using this.2⟩
    · simp at h
theorem hexRun_stop : ∀ (f : Nat) (l : Chars), (hexRun f l).length < f → hexC (at_ l (hexRun f l).length) < 0
  | 0, _, h => by simp at h
  | f + 1, [], h => by
    show hexC (at_ [] 0) < 0
    rw [at_nil]; decide
  | f + 1, c :: r, h => by
    unfold hexRun at h ⊢
    split
    · rename_i hc
      rw [if_pos hc, List.length_cons] at h
      have := hexRun_stop f r (by omega)
      rw [List.length_cons]
      have e : at_ (c :: r) ((hexRun f r).length + 1) = at_ r (hexRun f r).length := by simp [at_]
      rw [e]; exact this
    · rename_i hc
      show hexC (at_ (c :: r) 0) < 0
      rw [at_cons]; omega
theorem hexVal_snoc (l : Chars) (c : Int) : hexVal (l ++ [c]) = hexVal l * 16 + hexC c := by simp [hexVal, List.foldl_append]
theorem hexVal_take {l : Chars} {f k : Nat} (h : k < (hexRun f l).length) : hexVal ((hexRun f l).take (k + 1)) = hexVal ((hexRun f l).take k) * 16 + hexC (at_ l k) := by
  obtain ⟨_, h2⟩ := hexRun_at f l k h
  rw [List.take_add_one, h2]
  exact hexVal_snoc _ _
theorem hexVal_range (f : Nat) (l : Chars) : ∀ k, k ≤ (hexRun f l).length → 0 ≤ hexVal ((hexRun f l).take k) ∧ hexVal ((hexRun f l).take k) < ((16 ^ k : Nat) : Int)
  | 0, _ => by simp [hexVal]
  | k + 1, h => by
    have ih := hexVal_range f l k (by omega)
    obtain ⟨h1, _⟩ := hexRun_at f l k (by omega)
    have h2 := hexC_le (at_ l k)
    rw [hexVal_take (by omega)]
    rw [Nat.pow_succ]
    generalize 16 ^ k = P at *
    omega
theorem wraps_i32b (n : Int) (h₀ : 0 ≤ n) (h₁ : n < 2 ^ 31) : IntKind.i32.wrap n = n := by
  rw [IntKind.wrap_i32]; omega
theorem or_hex (x d : Int) (h0 : 0 ≤ x) (h1 : x < 16777216) (h2 : 0 ≤ d) (h3 : d < 16) : bits .or .i32 (x * 16) d = x * 16 + d := by
  obtain ⟨n, rfl⟩ : ∃ n : Nat, x = n := ⟨x.toNat, by omega⟩
  obtain ⟨m, rfl⟩ : ∃ m : Nat, d = m := ⟨d.toNat, by omega⟩
  have ho := (bits_nat .i32 31 (by decide) wraps_i32b (n * 16) m (by omega) (by omega)).2
  have e3 := Nat.two_pow_add_eq_or_of_lt (show m < 2 ^ 4 by omega) n
  have e4 : (n * 16 ||| m : Nat) = n * 16 + m := by
    rw [Nat.mul_comm n 16]; exact e3.symm
  rw [e4] at ho
  have e5 : ((n * 16 : Nat) : Int) = (n : Int) * 16 := by omega
  rw [e5] at ho
  rw [ho]; omega
end Go.CssKit
namespace Go.Proofs.YtmhdocgoeahbdaaGreatDoor
open Go.RowKit Go.RunKit Go.UtfKit Go.Lib Go.CssKit

theorem valid_ok {c : Int} (h : okC c) : Lib.validRune c = true := by
  unfold okC at h
  unfold Lib.validRune
  simp
  omega
theorem clean_cases {v : Int} (h : 0 ≤ v) : (v = 0 ∧ Lib.validRune v = true ∧ cleanC v = 65533) ∨ (v ≠ 0 ∧ Lib.validRune v = false ∧ cleanC v = 65533) ∨ (v ≠ 0 ∧ Lib.validRune v = true ∧ cleanC v = v) := by
  by_cases h0 : v = 0
  · subst h0; exact .inl ⟨rfl, by decide, by decide⟩
  · by_cases h1 : (55296 ≤ v ∧ v ≤ 57343) ∨ 1114111 < v
    · refine .inr (.inl ⟨h0, ?_, if_pos (.inr h1)⟩)
      unfold Lib.validRune
      simp
      omega
    · refine .inr (.inr ⟨h0, ?_, if_neg (fun e => e.elim h0 h1)⟩)
      unfold Lib.validRune
      simp
      omega
set_option maxRecDepth 100000 in
set_option maxHeartbeats 2000000 in
theorem takeEscape_any (b g : Nat) (l : Chars) (w : World) (h : RC w b g l) :
    Calls Tryz.prog 95 #[.pointer (some ⟨b, 0, none⟩)] w fun e w' => e = .returned (.int .i32 (escL (l.drop 1)).1) ∧ MC w b g (escL (l.drop 1)).2 w' := by
  have HP1 := Lib.hid (pass1_any b g l w h)
  obtain ⟨l1, hl1⟩ : ∃ x, l.drop 1 = x := ⟨_, rfl⟩
  have hlen := h.len
  have hl1n : l1.length ≤ 1099511627776 := by rw [← hl1, List.length_drop]; omega
  rw [hl1] at HP1 ⊢
  have hok : ∀ z, z ∈ l1 → okC z := by rw [← hl1]; exact fun z hz => h.ok z (List.mem_of_mem_drop hz)
  have HOk := Lib.hid hok
  obtain ⟨ec, er, hee⟩ : ∃ c r, escL l1 = (c, r) := ⟨_, _, rfl⟩
  rw [hee]
  have HE := Lib.hid hee
  clear h hok hl1 hlen hee
  go_enter Tryz.func95, Tryz.ntmps95
  go_upto_block 0 with (go_at_call 44; refine HP1.out.mono ?_; rintro e w1 ⟨rfl, hm⟩; have HM := Lib.hid hm; clear hm HP1)
  obtain ⟨ds, hds⟩ : ∃ x, hexRun 6 l1 = x := ⟨_, rfl⟩
  have hdl := hexRun_le 6 l1
  rw [hds] at hdl
  have HDs := Lib.hid hds
  have HRR := Lib.hid HM.out.rest
  clear hds
  go_cut [3, 4] (fun c n wd => c = .int .i32 (hexVal ds) ∧ n = .int .i64 ((ds.length : Nat) : Int) ∧ wd = w1)
  case first =>
    go_wp2
    go_loopw [3, 4, 5, 6] (fun c n _ _ wr => ∃ k : Nat, c = .int .i32 (hexVal (ds.take k)) ∧ n = .int .i64 ((k : Nat) : Int) ∧ k ≤ ds.length ∧ wr = w1) (fun _ n _ _ _ => 7 - (RowKit.intOf n).toNat)
    case atStart => exact ⟨0, rfl, rfl, Nat.zero_le _, rfl⟩
    case round =>
      obtain ⟨k, rfl, rfl, hk, rfl⟩ := hrel
      by_cases h6 : k < 6
      · have H0 := Lib.hid (at_any b g k l1 wr HRR.out (by omega))
        have H1 := Lib.hid (hexDigit_any (at_ l1 k))
        by_cases hd : k < ds.length
        · have ha := hexRun_at 6 l1 k (by rw [HDs.out]; exact hd)
          have hv := hexVal_take (l := l1) (f := 6) (k := k) (by rw [HDs.out]; exact hd)
          have hr := hexVal_range 6 l1 k (by rw [HDs.out]; omega)
          have hx := hexC_le (at_ l1 k)
          rw [HDs.out] at hv hr
          have hpos := ha.1
          rw [show hexW (at_ l1 k) = hexC (at_ l1 k) from if_pos hpos, decide_eq_true hpos] at H1
          generalize at_ l1 k = x at *
          generalize hexC x = y at *
          have hr2 : hexVal (ds.take k) < 1048576 := by
            have h5 : 16 ^ k ≤ 16 ^ 5 := Nat.pow_le_pow_right (by decide) (by omega)
            have h6 := hr.2
            generalize 16 ^ k = P at *
            omega
          have hor := or_hex (hexVal (ds.take k)) y hr.1 (by omega) hpos (by omega)
          have HV := Lib.hid hv
          have hr0 := hr.1
          generalize hexVal (ds.take k) = v at *
          have HOr := Lib.hid hor
          clear ha hv hr hor
          go_big_wp2_with (first
            | (go_at_call 70; refine H0.out.mono ?_; rintro e w2 ⟨rfl, rfl⟩)
            | (go_at_call 105; refine (H1.out _).mono ?_; rintro e w2 ⟨rfl, rfl⟩))
          exact ⟨⟨k + 1, by rw [HV.out, HOr.out], by go_num, by omega, by trivial⟩, by simp [RowKit.intOf]; omega⟩
        · have hkd : k = ds.length := by omega
          subst hkd
          have hs := hexRun_stop 6 l1 (by rw [HDs.out]; exact h6)
          rw [HDs.out] at hs
          rw [decide_eq_false (by omega)] at H1
          have ht : ds.take ds.length = ds := List.take_length
          rw [ht]
          generalize hexVal ds = v at *
          generalize at_ l1 ds.length = x at *
          generalize hexW x = y at *
          clear hs ht hd
          go_big_wp2_with (first
            | (go_at_call 70; refine H0.out.mono ?_; rintro e w2 ⟨rfl, rfl⟩)
            | (go_at_call 105; refine (H1.out _).mono ?_; rintro e w2 ⟨rfl, rfl⟩))
          go_meet
          exact ⟨rfl, rfl, rfl⟩
      · have hkd : ds.length = 6 := by omega
        have hk6 : k = 6 := by omega
        subst hk6
        have ht : ds.take 6 = ds := by rw [← hkd]; exact List.take_length
        rw [ht, hkd]
        generalize hexVal ds = v at *
        clear ht h6
        go_big_wp2
        go_meet
        exact ⟨rfl, by rw [hkd], rfl⟩
  case rest =>
    obtain ⟨rfl, rfl, rfl⟩ := hcut
    by_cases h0 : ds = []
    · subst h0
      cases l1 with
      | nil =>
        have hq := HE.out
        unfold escL at hq
        rw [HDs.out, if_pos rfl] at hq
        simp only [Prod.mk.injEq] at hq
        obtain ⟨rfl, rfl⟩ := hq
        have H0 := Lib.hid (fun W (hr : RC W b g []) => at0_any b g [] W hr)
        have HP := Lib.hid (fun W (hr : RC W b g []) => pass1_any b g [] W hr)
        have HV := Lib.hid (fun W => Tryz.utf8_ValidRune (-1) W)
        go_big_wp2_with (first
          | (go_at_call 70; refine (H0.out _ HRR.out).mono ?_; rintro e w2 ⟨rfl, rfl⟩)
          | (go_at_call 44; refine (HP.out _ HRR.out).mono ?_; rintro e w2 ⟨rfl, hm⟩; have HM2 := Lib.hid (HM.out.trans hm); clear hm)
          | (go_at_call 106; refine (HV.out _).mono ?_; rintro e w2 ⟨rfl, rfl⟩))
        go_ret
        exact ⟨rfl, HM2.out⟩
      | cons c r =>
        have hc := HOk.out c (by simp)
        have hvr := valid_ok hc
        have hq := HE.out
        unfold escL at hq
        rw [HDs.out, if_pos rfl] at hq
        simp only [Prod.mk.injEq] at hq
        obtain ⟨rfl, rfl⟩ := hq
        have hc0 : ¬ c = 0 := by unfold okC at hc; omega
        have hcb : (c == 0) = false := by rw [beq_eq_false_iff_ne]; exact hc0
        have H0 := Lib.hid (fun W (hr : RC W b g (c :: r)) => at0_any b g (c :: r) W hr)
        have HP := Lib.hid (fun W (hr : RC W b g (c :: r)) => pass1_any b g (c :: r) W hr)
        have HV := Lib.hid (fun W => Tryz.utf8_ValidRune c W)
        rw [hvr] at HV
        clear hvr hc
        go_big_wp2_with (first
          | (go_at_call 70; refine (H0.out _ HRR.out).mono ?_; rintro e w2 ⟨rfl, rfl⟩)
          | (go_at_call 44; refine (HP.out _ HRR.out).mono ?_; rintro e w2 ⟨rfl, hm⟩; have HM2 := Lib.hid (HM.out.trans hm); clear hm)
          | (go_at_call 106; refine (HV.out _).mono ?_; rintro e w2 ⟨rfl, rfl⟩))
        go_ret
        exact ⟨rfl, HM2.out⟩
    · have hp := List.length_pos_iff.2 h0
      have hpI : (((ds.length : Nat) : Int) = 0) = False := eq_false (by omega)
      have hpN : (ds.length = 0) = False := eq_false (by omega)
      have hpB : (((ds.length : Nat) : Int) == 0) = false := by rw [beq_eq_false_iff_ne]; omega
      have he : escL l1 = (cleanC (hexVal ds), if isW (at_ l1 ds.length) = true then l1.drop (ds.length + 1) else l1.drop ds.length) := by
        unfold escL; rw [HDs.out, if_neg h0]
      have HEQ := Lib.hid (he.symm.trans HE.out)
      clear HE
      have hr := hexVal_range 6 l1 ds.length (by rw [HDs.out]; exact Nat.le_refl _)
      rw [HDs.out, List.take_length] at hr
      have hr0 := hr.1
      have HC := Lib.hid (clean_cases hr0)
      have HV := Lib.hid (fun W => Tryz.utf8_ValidRune (hexVal ds) W)
      obtain ⟨n, hn⟩ : ∃ n, ds.length = n := ⟨_, rfl⟩
      rw [hn] at hpI hpN hpB hdl HEQ ⊢
      have H0 := Lib.hid (fun W (hr : RC W b g l1) => at_any b g n l1 W hr (by omega))
      have HW := Lib.hid (isWhite7_any (at_ l1 n))
      have HP := Lib.hid (fun W (hr : RC W b g l1) => pass_any b g n l1 W hr (by omega))
      have HP1 := pass_any b g (n + 1) l1
      have HPS : Hid (∀ W, RC W b g l1 → Calls Tryz.prog 44 #[.pointer (some ⟨b, 0, none⟩), .int .i64 ((n : Int) + 1)] W fun e w' => e = .returned (.tuple #[]) ∧ MC W b g (l1.drop (n + 1)) w') := Lib.hid (fun W hr => by
        have := HP1 W hr (by omega)
        rw [show ((n + 1 : Nat) : Int) = (n : Int) + 1 by omega] at this
        exact this)
      generalize hexVal ds = v at *
      generalize at_ l1 n = x at *
      generalize isW x = u at *
      have hn6 : n ≤ 6 := hdl.2
      clear he hr h0 hp hn HP1 hdl
      cases u
      all_goals
        rcases HC.out with ⟨h1, h2, h3⟩ | ⟨h1, h2, h3⟩ | ⟨h1, h2, h3⟩
        all_goals
          have hq := HEQ.out
          simp only [h3, if_true, if_false, Bool.false_eq_true, Prod.mk.injEq] at hq
          obtain ⟨rfl, rfl⟩ := hq
          rw [h2] at HV
          first
            | (subst h1)
            | (have hvb : (v == 0) = false := by rw [beq_eq_false_iff_ne]; exact h1)
          clear h2 h3
          go_big_wp2_with (first
            | (go_at_call 70; refine (H0.out _ HRR.out).mono ?_; rintro e w2 ⟨rfl, rfl⟩)
            | (go_at_call 69; refine (HW.out _).mono ?_; rintro e w2 ⟨rfl, rfl⟩)
            | (go_at_call_of 44 (Value.int .i64 ((n : Nat) : Int)); refine (HP.out _ HRR.out).mono ?_; rintro e w2 ⟨rfl, hm⟩; have HM2 := Lib.hid (HM.out.trans hm); clear hm)
            | (go_at_call_has 44 (Value.int .i64 ((n : Int) + 1)); refine (HPS.out _ HRR.out).mono ?_; rintro e w2 ⟨rfl, hm⟩; have HM2 := Lib.hid (HM.out.trans hm); clear hm)
            | (go_at_call 106; refine (HV.out _).mono ?_; rintro e w2 ⟨rfl, rfl⟩))
          go_ret
          exact ⟨rfl, HM2.out⟩
end Go.Proofs.YtmhdocgoeahbdaaGreatDoor
