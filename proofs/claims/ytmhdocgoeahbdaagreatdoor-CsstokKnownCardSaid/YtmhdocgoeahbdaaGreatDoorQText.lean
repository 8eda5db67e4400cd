/-
  The reader of package csstok: a text up to its quote. No conditions.
-/
import Derived.Test.YtmhdocgoeahbdaaGreatDoorQName
namespace Go.Proofs.YtmhdocgoeahbdaaGreatDoor
open Go.RowKit Go.RunKit Go.UtfKit Go.Lib Go.CssKit

theorem one_back {r : Chars} {c : Int} : at_ (c :: r) 1 = at_ r 0 := by simp [at_]
set_option maxRecDepth 100000 in
set_option maxHeartbeats 8000000 in
theorem textUpTo_any (b g : Nat) (q : Int) (hq : q = 34 ∨ q = 39) (l : Chars) (w : World) (h : RC w b g l) :
    Calls Tryz.prog 71 #[.pointer (some ⟨b, 0, none⟩), .int .i32 q] w fun e w' => e = .returned (.string ⟨(bytesC (textL q l).1).toArray⟩) ∧ MC w b g (textL q l).2 w' := by
  obtain ⟨i0, hi, hz0, hz1, hz2⟩ := info_parts U.Tryz.infoInt32
  obtain ⟨an, ar, han⟩ : ∃ c r, textL q l = (c, r) := ⟨_, _, rfl⟩
  rw [han]
  have N0 := Lib.hid (NameAt.start h)
  have D0 : Hid ([] ++ (textL q l).1 = an ∧ (textL q l).2 = ar) := Lib.hid (by rw [han]; exact ⟨rfl, rfl⟩)
  have hL := Lib.hid h.len
  have HQ := Lib.hid hq
  clear h han hq
  go_enter Tryz.func71, Tryz.ntmps71
  go_wp2
  go_loopw [5] (fun v wr => ∃ (a : Option Addr) (n cap : Nat) (out l' : Chars), v = .slice a n cap ∧ Hid (NameAt w b g a n cap out l' wr) ∧ Hid (out ++ (textL q l').1 = an ∧ (textL q l').2 = ar) ∧ n + l'.length ≤ 1099511627776) (fun _ wr => restN b wr)
  case atStart => exact ⟨none, 0, 0, [], l, rfl, N0, D0, by simpa using hL.out⟩
  case round =>
    clear N0 D0
    obtain ⟨a, n, cap, out, l1, rfl, HN, HD, hlen⟩ := hrel
    have H0 := Lib.hid (fun W (hr : RC W b g l1) => at0_any b g l1 W hr)
    have HRR := Lib.hid HN.out.moved.rest
    have hd := HD.out
    obtain ⟨a', cap', hsl, hna, hra⟩ := HN.out.row.slice
    rw [← HN.out.len] at hsl
    cases hsl
    have HS := Lib.hid (str7_any a n cap out wr HN.out.len.symm hna hra)
    clear hna hra
    cases hl1 : l1 with
    | nil =>
      subst hl1
      rw [textL_nil, List.append_nil] at hd
      obtain ⟨hd1, hd2⟩ := hd
      subst hd1; subst hd2
      have b1 : ((-1 : Int) == q) = false := by rw [beq_eq_false_iff_ne]; have := HQ.out; omega
      rw [at_nil] at H0
      go_wp2_with (first
        | (go_at_call 70; refine (H0.out _ HRR.out).mono ?_; rintro e w1 ⟨rfl, rfl⟩)
        | (go_at_call 94; refine HS.out.mono ?_; rintro e w1 ⟨rfl, rfl⟩))
      go_ret
      exact ⟨rfl, HN.out.moved⟩
    | cons c r =>
      subst hl1
      have hok := HRR.out.ok c (by simp)
      rw [at_cons] at H0
      rw [textL_step] at hd
      by_cases hc : c = q ∨ c = 10
      · rw [if_pos hc, List.append_nil] at hd
        obtain ⟨hd1, hd2⟩ := hd
        subst hd1; subst hd2
        by_cases hcq : c = q
        · have b1 : (c == q) = true := by rw [hcq]; simp
          have HC := Lib.hid hcq
          clear hc hcq hok
          go_wp2_with (first
            | (go_at_call 70; refine (H0.out _ HRR.out).mono ?_; rintro e w1 ⟨rfl, rfl⟩)
            | (go_at_call 94; refine HS.out.mono ?_; rintro e w1 ⟨rfl, rfl⟩))
          go_ret
          exact ⟨rfl, HN.out.moved⟩
        · have hc10 : c = 10 := by omega
          subst hc10
          have b1 : ((10 : Int) == q) = false := by rw [beq_eq_false_iff_ne]; exact hcq
          clear hc hok
          go_wp2_with (first
            | (go_at_call 70; refine (H0.out _ HRR.out).mono ?_; rintro e w1 ⟨rfl, rfl⟩)
            | (go_at_call 94; refine HS.out.mono ?_; rintro e w1 ⟨rfl, rfl⟩))
          go_ret
          exact ⟨rfl, HN.out.moved⟩
      rw [if_neg hc] at hd
      have b1 : (c == q) = false := by rw [beq_eq_false_iff_ne]; omega
      have b2 : (c == 10) = false := by rw [beq_eq_false_iff_ne]; omega
      have b3 : (c == -1) = false := by rw [beq_eq_false_iff_ne]; unfold okC at hok; omega
      have hnn := HN.out.len
      subst hnn
      have hlr : r.length < (c :: r).length := by simp
      by_cases hb : c ≠ 92
      · rw [if_pos hb] at hd
        have b4 : (c != 92) = true := by rw [bne_iff_ne]; exact hb
        have HSp := Lib.hid (show (out ++ [c]) ++ (textL q r).1 = an ∧ (textL q r).2 = ar by rw [List.append_assoc]; exact hd)
        have HO := Lib.hid (World.ownsRow.alloc HN.out.row (.cells #[.int .i32 c] 21))
        clear hd hc hb hok
        go_wp2_with (first
          | (go_at_call 70; refine (H0.out _ HRR.out).mono ?_; rintro e w1 ⟨rfl, rfl⟩)
          | (at_builtin; refine wpList_append_own _ rfl _ _ 41 rfl w.heap.size 21 i0 _ 1 4 U.Tryz.underRunes hi hz0 hz1 hz2 rfl (by decide) _ out.length (intC out) rfl HO.out ⟨wr.heap.size, 0, none⟩ 1 1 [.int .i32 c] rfl ?c1 ?c2 ?c3 ?c4 ?c5 ?c6 ?_))
        case c1 => rfl
        case c2 =>
          intro j u hu
          cases j with
          | zero => simpa [go_sem] using hu
          | succ j => simp at hu
        case c3 => intro u hu; simp at hu; subst hu; rfl
        case c4 => unfold maxLen; omega
        case c5 => omega
        case c6 => have := HN.out.moved.grown.size; simp; omega
        intro v' W hown' hgrow _
        obtain ⟨a1, cap1, hvs1⟩ := U.slice_of hown'
        subst hvs1
        have HN2 := Lib.hid (NameAt.wrote HN.out (MC.refl HRR.out) (fun h => h) hown' rfl hgrow)
        have HP := Lib.hid (pass1_any b g (c :: r) W HN2.out.moved.rest)
        have HL := Lib.hid (show r.length < restN b wr by rw [HRR.out.restN]; exact hlr)
        clear hown' hgrow HO
        go_wp2_with (go_at_call 44; refine HP.out.mono ?_; rintro e w2 ⟨rfl, hm⟩; have HN3 := Lib.hid (HN2.out.pass hm drop_ne); clear hm)
        exact ⟨⟨a1, _, cap1, out ++ [c], r, rfl, HN3, HSp, by simp only [List.length_cons] at hlen; omega⟩, by rw [HN3.out.moved.rest.restN]; exact HL.out⟩
      rw [if_neg hb] at hd
      have hb2 : c = 92 := Decidable.not_not.1 hb
      subst hb2
      have H1 := Lib.hid (fun W (hr : RC W b g (92 :: r)) => at1_any b g (92 :: r) W hr)
      rw [one_back] at H1
      have HP := Lib.hid (fun W (hr : RC W b g (92 :: r)) => pass2_any b g (92 :: r) W hr)
      clear hb hok hc
      cases r with
      | nil =>
        rw [if_pos rfl] at hd
        rw [at_nil] at H1
        have HL := Lib.hid (show 0 < restN b wr by rw [HRR.out.restN]; simp)
        have HSp := Lib.hid hd
        clear hd
        go_wp2_with (first
          | (go_at_call_of 70 (Value.int .i64 0); refine (H0.out _ HRR.out).mono ?_; rintro e w1 ⟨rfl, rfl⟩)
          | (go_at_call_of 70 (Value.int .i64 1); refine (H1.out _ HRR.out).mono ?_; rintro e w1 ⟨rfl, rfl⟩)
          | (go_at_call 44; refine (HP.out _ HRR.out).mono ?_; rintro e w1 ⟨rfl, hm⟩; have HN2 := Lib.hid (HN.out.pass hm drop_ne); clear hm))
        exact ⟨⟨a, _, cap, out, [], rfl, HN2, HSp, by simp at hlen ⊢; omega⟩, by rw [HN2.out.moved.rest.restN]; exact HL.out⟩
      | cons d r' =>
        rw [if_neg (by simp), at_cons] at hd
        rw [at_cons] at H1
        have hok2 := HRR.out.ok d (by simp)
        by_cases hd10 : d = 10
        · rw [if_pos hd10] at hd
          subst hd10
          have HSp := Lib.hid hd
          have HL := Lib.hid (show r'.length < restN b wr by rw [HRR.out.restN]; simp only [List.length_cons]; omega)
          clear hd hok2
          go_wp2_with (first
            | (go_at_call_of 70 (Value.int .i64 0); refine (H0.out _ HRR.out).mono ?_; rintro e w1 ⟨rfl, rfl⟩)
            | (go_at_call_of 70 (Value.int .i64 1); refine (H1.out _ HRR.out).mono ?_; rintro e w1 ⟨rfl, rfl⟩)
            | (go_at_call 44; refine (HP.out _ HRR.out).mono ?_; rintro e w1 ⟨rfl, hm⟩; have HN2 := Lib.hid (HN.out.pass hm drop_ne); clear hm))
          exact ⟨⟨a, _, cap, out, r', rfl, HN2, HSp, by simp only [List.length_cons] at hlen; omega⟩, by rw [HN2.out.moved.rest.restN]; exact HL.out⟩
        · rw [if_neg hd10] at hd
          have b5 : (d == 10) = false := by rw [beq_eq_false_iff_ne]; exact hd10
          have b6 : (d == -1) = false := by rw [beq_eq_false_iff_ne]; unfold okC at hok2; omega
          have HE := Lib.hid (takeEscape_any b g (92 :: d :: r') wr HRR.out)
          rw [show (92 :: d :: r').drop 1 = d :: r' from rfl] at HE
          have hle := esc_len (d :: r')
          obtain ⟨z, l2, hzl⟩ : ∃ z r, escL (d :: r') = (z, r) := ⟨_, _, rfl⟩
          rw [hzl] at HE hle hd
          have HSp := Lib.hid (show (out ++ [z]) ++ (textL q l2).1 = an ∧ (textL q l2).2 = ar by rw [List.append_assoc]; exact hd)
          simp only [List.length_cons] at HE hle hlen
          have HL := Lib.hid (show l2.length < restN b wr by rw [HRR.out.restN]; simp only [List.length_cons]; omega)
          clear hd hd10 hok2 hzl
          go_wp2_with (first
            | (go_at_call_of 70 (Value.int .i64 0); refine (H0.out _ HRR.out).mono ?_; rintro e w1 ⟨rfl, rfl⟩)
            | (go_at_call_of 70 (Value.int .i64 1); refine (H1.out _ HRR.out).mono ?_; rintro e w1 ⟨rfl, rfl⟩)
            | (go_at_call 95; refine HE.out.mono ?_; rintro e w1 ⟨rfl, hm⟩; have HM := Lib.hid hm; have HO := Lib.hid (World.ownsRow.alloc (HN.out.row.moved hm.grown HN.out.lt) (.cells #[.int .i32 z] 21)); clear hm)
            | (at_builtin; refine wpList_append_own _ rfl _ _ 41 rfl w.heap.size 21 i0 _ 1 4 U.Tryz.underRunes hi hz0 hz1 hz2 rfl (by decide) _ out.length (intC out) rfl HO.out ⟨w1.heap.size, 0, none⟩ 1 1 [.int .i32 z] rfl ?c1 ?c2 ?c3 ?c4 ?c5 ?c6 ?_))
          case c1 => rfl
          case c2 =>
            intro j u hu
            cases j with
            | zero => simpa [go_sem] using hu
            | succ j => simp at hu
          case c3 => intro u hu; simp at hu; subst hu; rfl
          case c4 => unfold maxLen; omega
          case c5 => omega
          case c6 => have := HN.out.moved.grown.size; have := HM.out.grown.size; simp; omega
          intro v' W hown' hgrow _
          obtain ⟨a1, cap1, hvs1⟩ := U.slice_of hown'
          subst hvs1
          have HN2 := Lib.hid (NameAt.wrote HN.out HM.out (fun _ => by simp) hown' rfl hgrow)
          clear hown' hgrow HO
          go_wp2
          exact ⟨⟨a1, _, cap1, out ++ [z], l2, rfl, HN2, HSp, by omega⟩, by rw [HN2.out.moved.rest.restN]; exact HL.out⟩
end Go.Proofs.YtmhdocgoeahbdaaGreatDoor
