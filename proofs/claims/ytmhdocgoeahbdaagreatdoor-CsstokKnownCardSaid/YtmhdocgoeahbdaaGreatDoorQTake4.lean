/-
  The takers of package csstok, one by one: atWord, sign, mark, word, number. No conditions.
-/
import Derived.Test.YtmhdocgoeahbdaaGreatDoorQTake3
namespace Go.CssKit
open Go Go.Lib
def markT (l : Chars) : CT × Chars := if openAt l = true then (⟨13, [], [], false⟩, l.drop 4) else if closeAt l = true then (⟨14, [], [], false⟩, l.drop 3) else (⟨0, [], [], false⟩, l)
end Go.CssKit
namespace Go.Proofs.YtmhdocgoeahbdaaGreatDoor
open Go.RowKit Go.RunKit Go.UtfKit Go.Lib Go.CssKit

theorem starts_pct (l : Chars) : startsC l [37] 0 = decide (at_ l 0 = 37) := starts_one l 37
theorem starts_par (l : Chars) : startsC l [40] 0 = decide (at_ l 0 = 40) := starts_one l 40
theorem one_hit {b g : Nat} {l : Chars} {w : World} {c : UInt8} (hc : c.toNat < 128) (h : RC w b g l) (hh : at_ l 0 = ((c.toNat : Nat) : Int)) : Calls Tryz.prog 43 #[.pointer (some ⟨b, 0, none⟩), .string ⟨#[c]⟩] w fun e w' => e = .returned (.bool true) ∧ MC w b g (l.drop 1) w' :=
  took_hit h (fun x hx => by have e : x = c := (by simpa using hx); rw [e]; exact hc) rfl (by decide) ((starts_one l c).trans (decide_eq_true hh))
theorem one_miss {b g : Nat} {l : Chars} {w : World} {c : UInt8} (hc : c.toNat < 128) (h : RC w b g l) (hh : ¬ at_ l 0 = ((c.toNat : Nat) : Int)) : Calls Tryz.prog 43 #[.pointer (some ⟨b, 0, none⟩), .string ⟨#[c]⟩] w fun e w' => e = .returned (.bool false) ∧ MC w b g l w' :=
  took_miss h (fun x hx => by have e : x = c := (by simpa using hx); rw [e]; exact hc) (show (1 : Nat) ≤ 1000 by decide) ((starts_one l c).trans (decide_eq_false hh))

set_option maxRecDepth 100000 in
set_option maxHeartbeats 4000000 in
theorem atWord7_any (b g : Nat) (l : Chars) (w : World) (h : RC w b g l) : TakeAs 40 b g w (if at_ l 0 = 64 ∧ nameAt l 1 = true then atT l else (noCT, l)) := by
  have HA := Lib.hid (ResAt.start h)
  have H0 := Lib.hid (fun W (hr : RC W b g l) => at0_any b g l W hr)
  have H3 := Lib.hid (fun W (hr : RC W b g l) => nameB1_any b g l W hr)
  have HP := Lib.hid (fun W (hr : RC W b g l) => pass1_any b g l W hr)
  have HN := Lib.hid (fun W (hr : RC W b g (l.drop 1)) => takeName_any b g (l.drop 1) W hr)
  have HSub := Lib.hid (show (nameL (l.drop 1)).2 ≠ [] → l.drop 1 ≠ [] from nameL_ne)
  have HH := Lib.hid h
  unfold TakeAs atT
  obtain ⟨nv, nr, hn⟩ : ∃ v r, nameL (l.drop 1) = (v, r) := ⟨_, _, rfl⟩
  simp only [hn] at HN HSub ⊢
  generalize nameAt l 1 = u at *
  by_cases h0 : at_ l 0 = 64
  · rw [h0] at H0
    clear hn h
    cases u
    · rw [if_neg (fun e => by cases e.2)]
      clear h0 HN HP
      go_enter Tryz.func40, Tryz.ntmps40
      go_big_wp2_with (first
        | (go_at_call 70; refine (H0.out _ HA.out.moved.rest).mono ?_; rintro e w1 ⟨rfl, rfl⟩)
        | (go_at_call 74; refine (H3.out _ HA.out.moved.rest).mono ?_; rintro e w1 ⟨rfl, rfl⟩))
      refine tok_new ?_ ?_ HH.out ?_ <;> rfl
    · rw [if_pos ⟨h0, rfl⟩]
      clear h0
      go_enter Tryz.func40, Tryz.ntmps40
      go_big_wp2_with (first
        | (go_at_call 70; refine (H0.out _ HA.out.moved.rest).mono ?_; rintro e w1 ⟨rfl, rfl⟩)
        | (go_at_call 74; refine (H3.out _ HA.out.moved.rest).mono ?_; rintro e w1 ⟨rfl, rfl⟩)
        | (go_at_call 44; refine (HP.out _ HA.out.moved.rest).mono ?_; rintro e w1 ⟨rfl, hm⟩; have HA1 := Lib.hid (HA.out.on hm drop_ne); clear hm)
        | (go_at_call 75; refine (HN.out _ HA1.out.moved.rest).mono ?_; rintro e w2 ⟨rfl, hm⟩; have HA2 := Lib.hid (HA1.out.on hm HSub.out); obtain ⟨⟨c0, c1, c2, c3⟩, f0, f1, f2, f3⟩ := froz4 HA2.out.res; clear hm))
      refine HA2.out.end_ ?_ ?_ ?_ <;> rfl
  · rw [if_neg (fun e => h0 e.1)]
    generalize at_ l 0 = x at *
    have b1 : (x != 64) = true := by rw [bne_iff_ne]; exact h0
    clear h0 HN HP H3 hn h
    go_enter Tryz.func40, Tryz.ntmps40
    go_big_wp2_with (go_at_call 70; refine (H0.out _ HA.out.moved.rest).mono ?_; rintro e w1 ⟨rfl, rfl⟩)
    refine tok_new ?_ ?_ HH.out ?_ <;> rfl
set_option maxRecDepth 100000 in
set_option maxHeartbeats 1000000 in
theorem isSign_any (c : Int) (h0 : 0 ≤ c) (h1 : c < 128) (w : World) : Calls Tryz.prog 78 #[.int .i32 c] w fun e w' => e = .returned (.bool (signsC.contains c)) ∧ w = w' := by
  have HS := Lib.hid (fun W => Tryz.strings_ContainsRune_ascii ⟨#[44, 58, 59, 40, 41, 91, 93, 123, 125]⟩ c W h0 h1)
  rw [← sign_index c h0 h1]
  go_enter Tryz.func78, Tryz.ntmps78
  go_big_wp2_with (go_at_call 99; refine (HS.out _).mono ?_; rintro e w1 ⟨rfl, rfl⟩)
  go_ret
  exact ⟨rfl, rfl⟩
set_option maxRecDepth 100000 in
set_option maxHeartbeats 4000000 in
theorem sign7_any (b g : Nat) (l : Chars) (w : World) (h : RC w b g l) (h0 : 0 ≤ at_ l 0) (h1 : at_ l 0 < 128) : TakeAs 41 b g w (if signsC.contains (at_ l 0) = true then (⟨11, bytesC (l.take 1), [], false⟩, l.drop 1) else (noCT, l)) := by
  have HA := Lib.hid (ResAt.start h)
  have hl : 0 < l.length := at_pos (by omega)
  have H0 := Lib.hid (fun W (hr : RC W b g l) => at0_any b g l W hr)
  have H3 := Lib.hid (isSign_any (at_ l 0) h0 h1)
  have HT := Lib.hid (fun W (hr : RC W b g l) => take7_any b g 1 l W hr (by omega) hl)
  have HH := Lib.hid h
  unfold TakeAs
  generalize signsC.contains (at_ l 0) = u at *
  generalize at_ l 0 = x at *
  clear h h0 h1 hl
  cases u
  · rw [if_neg (by decide)]
    clear HT
    go_enter Tryz.func41, Tryz.ntmps41
    go_big_wp2_with (first
      | (go_at_call 70; refine (H0.out _ HA.out.moved.rest).mono ?_; rintro e w1 ⟨rfl, rfl⟩)
      | (go_at_call 78; refine (H3.out _).mono ?_; rintro e w1 ⟨rfl, rfl⟩))
    refine tok_new ?_ ?_ HH.out ?_ <;> rfl
  · rw [if_pos rfl]
    go_enter Tryz.func41, Tryz.ntmps41
    go_big_wp2_with (first
      | (go_at_call 70; refine (H0.out _ HA.out.moved.rest).mono ?_; rintro e w1 ⟨rfl, rfl⟩)
      | (go_at_call 78; refine (H3.out _).mono ?_; rintro e w1 ⟨rfl, rfl⟩)
      | (go_at_call 79; refine (HT.out _ HA.out.moved.rest).mono ?_; rintro e w1 ⟨rfl, hm⟩; have HA1 := Lib.hid (HA.out.on hm drop_ne); obtain ⟨⟨c0, c1, c2, c3⟩, f0, f1, f2, f3⟩ := froz4 HA1.out.res; clear hm))
    refine HA1.out.end_ ?_ ?_ ?_ <;> rfl
set_option maxRecDepth 100000 in
set_option maxHeartbeats 4000000 in
theorem mark7_any (b g : Nat) (l : Chars) (w : World) (h : RC w b g l) : TakeAs 38 b g w (markT l) := by
  have HA := Lib.hid (ResAt.start h)
  unfold TakeAs markT
  cases ho : openAt l with
  | true =>
    rw [if_pos rfl]
    have HT := Lib.hid (fun W (hr : RC W b g l) => took_hit (sign := ⟨#[60, 33, 45, 45]⟩) (m := 4) hr (by decide) rfl (by decide) ((starts_four l).trans ho))
    clear ho h
    go_enter Tryz.func38, Tryz.ntmps38
    go_big_wp2_with (go_at_call 43; refine (HT.out _ HA.out.moved.rest).mono ?_; rintro e w1 ⟨rfl, hm⟩; have HA1 := Lib.hid (HA.out.on hm drop_ne); obtain ⟨⟨c0, c1, c2, c3⟩, f0, f1, f2, f3⟩ := froz4 HA1.out.res; clear hm)
    refine HA1.out.end_ ?_ ?_ ?_ <;> rfl
  | false =>
    rw [if_neg (by decide)]
    have HT := Lib.hid (fun W (hr : RC W b g l) => took_miss (sign := ⟨#[60, 33, 45, 45]⟩) hr (by decide) (by decide) ((starts_four l).trans ho))
    cases hc : closeAt l with
    | true =>
      rw [if_pos rfl]
      have HT2 := Lib.hid (fun W (hr : RC W b g l) => took_hit (sign := ⟨#[45, 45, 62]⟩) (m := 3) hr (by decide) rfl (by decide) ((starts_three l).trans hc))
      clear ho hc h
      go_enter Tryz.func38, Tryz.ntmps38
      go_big_wp2_with (first
        | (go_at_call_of 43 (Value.string ⟨#[60, 33, 45, 45]⟩); refine (HT.out _ HA.out.moved.rest).mono ?_; rintro e w1 ⟨rfl, hm⟩; have HA1 := Lib.hid (HA.out.on hm (fun x => x)); clear hm)
        | (go_at_call_of 43 (Value.string ⟨#[45, 45, 62]⟩); refine (HT2.out _ HA1.out.moved.rest).mono ?_; rintro e w2 ⟨rfl, hm⟩; have HA2 := Lib.hid (HA1.out.on hm drop_ne); obtain ⟨⟨c0, c1, c2, c3⟩, f0, f1, f2, f3⟩ := froz4 HA2.out.res; clear hm))
      refine HA2.out.end_ ?_ ?_ ?_ <;> rfl
    | false =>
      rw [if_neg (by decide)]
      have HT2 := Lib.hid (fun W (hr : RC W b g l) => took_miss (sign := ⟨#[45, 45, 62]⟩) hr (by decide) (by decide) ((starts_three l).trans hc))
      clear ho hc h
      go_enter Tryz.func38, Tryz.ntmps38
      go_big_wp2_with (first
        | (go_at_call_of 43 (Value.string ⟨#[60, 33, 45, 45]⟩); refine (HT.out _ HA.out.moved.rest).mono ?_; rintro e w1 ⟨rfl, hm⟩; have HA1 := Lib.hid (HA.out.on hm (fun x => x)); clear hm)
        | (go_at_call_of 43 (Value.string ⟨#[45, 45, 62]⟩); refine (HT2.out _ HA1.out.moved.rest).mono ?_; rintro e w2 ⟨rfl, hm⟩; have HA2 := Lib.hid (HA1.out.on hm (fun x => x)); obtain ⟨⟨c0, c1, c2, c3⟩, f0, f1, f2, f3⟩ := froz4 HA2.out.res; clear hm))
      refine HA2.out.end_ ?_ ?_ ?_ <;> rfl
end Go.Proofs.YtmhdocgoeahbdaaGreatDoor
