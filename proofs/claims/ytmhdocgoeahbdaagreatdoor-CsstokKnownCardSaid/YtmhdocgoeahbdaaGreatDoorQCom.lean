/-
  The reader of package csstok: comments, escapes. No conditions.
-/
import Derived.Test.YtmhdocgoeahbdaaGreatDoorQNum2
namespace Go.CssKit
open Go Go.Lib
theorem starts_two (l : Chars) (x y : UInt8) : startsC l [x, y] 0 = decide (at_ l 0 = ((x.toNat : Nat) : Int) ∧ at_ l 1 = ((y.toNat : Nat) : Int)) := by
  rw [starts_step, starts_step]
  by_cases h : at_ l 0 = ((x.toNat : Nat) : Int)
  · rw [if_pos h]
    by_cases h2 : at_ l (0 + 1) = ((y.toNat : Nat) : Int)
    · rw [if_pos h2]; simp [startsC, h]; exact h2
    · rw [if_neg h2]; simp only [h, true_and]; rw [decide_eq_false (show ¬ at_ l 1 = _ from h2)]
  · rw [if_neg h]; simp [h]
theorem starts_open (l : Chars) : startsC l [47, 42] 0 = decide (at_ l 0 = 47 ∧ at_ l 1 = 42) := starts_two l 47 42
theorem starts_shut (l : Chars) : startsC l [42, 47] 0 = decide (at_ l 0 = 42 ∧ at_ l 1 = 47) := starts_two l 42 47
theorem inC_hit {l : Chars} (h : at_ l 0 = 42 ∧ at_ l 1 = 47) : inC l = l.drop 2 := by
  cases l with
  | nil => rfl
  | cons c r =>
    have e : at_ (c :: r) 1 = at_ r 0 := by simp [at_]
    rw [e, at_cons] at h
    rw [inC, if_pos h]
    rfl
theorem inC_miss {l : Chars} (h : ¬ (at_ l 0 = 42 ∧ at_ l 1 = 47)) : inC l = inC (l.drop 1) := by
  cases l with
  | nil => rfl
  | cons c r =>
    have e : at_ (c :: r) 1 = at_ r 0 := by simp [at_]
    rw [e, at_cons] at h
    rw [inC, if_neg h]
    rfl
end Go.CssKit
namespace Go.Proofs.YtmhdocgoeahbdaaGreatDoor
open Go.RowKit Go.RunKit Go.UtfKit Go.Lib Go.CssKit

/-- How many characters the reader has not read yet. -/
def restN (b : Nat) (w : World) : Nat := match w.cell? ⟨b, 0, none⟩ with
  | some (.slice _ n _) => n
  | _ => 0
theorem RC.restN {w : World} {b g : Nat} {l : Chars} (h : RC w b g l) : restN b w = l.length := by
  obtain ⟨ao, cap, hc, _⟩ := h.parts
  unfold Go.Proofs.YtmhdocgoeahbdaaGreatDoor.restN
  rw [hc]
theorem took_hit {b g : Nat} {l : Chars} {sign : ByteArray} {m : Nat} {w : World} (h : RC w b g l) (hasc : ∀ x, x ∈ sign.data.toList → x.toNat < 128) (hm : sign.size = m) (hs : m ≤ 1000) (hh : startsC l sign.data.toList 0 = true) :
    Calls Tryz.prog 43 #[.pointer (some ⟨b, 0, none⟩), .string sign] w fun e w' => e = .returned (.bool true) ∧ MC w b g (l.drop m) w' := by
  have := took7_any b g l sign w h hasc (by omega)
  simp only [hh, hm, if_true] at this
  exact this
theorem took_miss {b g : Nat} {l : Chars} {sign : ByteArray} {w : World} (h : RC w b g l) (hasc : ∀ x, x ∈ sign.data.toList → x.toNat < 128) (hs : sign.size ≤ 1000) (hh : startsC l sign.data.toList 0 = false) :
    Calls Tryz.prog 43 #[.pointer (some ⟨b, 0, none⟩), .string sign] w fun e w' => e = .returned (.bool false) ∧ MC w b g l w' := by
  have := took7_any b g l sign w h hasc (by omega)
  simp only [hh, Bool.false_eq_true, if_false] at this
  exact this
theorem open_hit {b g : Nat} {l : Chars} {w : World} (h : RC w b g l) (hh : at_ l 0 = 47 ∧ at_ l 1 = 42) : Calls Tryz.prog 43 #[.pointer (some ⟨b, 0, none⟩), .string ⟨#[47, 42]⟩] w fun e w' => e = .returned (.bool true) ∧ MC w b g (l.drop 2) w' :=
  took_hit h (by decide) rfl (by decide) ((starts_open l).trans (decide_eq_true hh))
theorem open_miss {b g : Nat} {l : Chars} {w : World} (h : RC w b g l) (hh : ¬ (at_ l 0 = 47 ∧ at_ l 1 = 42)) : Calls Tryz.prog 43 #[.pointer (some ⟨b, 0, none⟩), .string ⟨#[47, 42]⟩] w fun e w' => e = .returned (.bool false) ∧ MC w b g l w' :=
  took_miss h (by decide) (by decide) ((starts_open l).trans (decide_eq_false hh))
theorem shut_hit {b g : Nat} {l : Chars} {w : World} (h : RC w b g l) (hh : at_ l 0 = 42 ∧ at_ l 1 = 47) : Calls Tryz.prog 43 #[.pointer (some ⟨b, 0, none⟩), .string ⟨#[42, 47]⟩] w fun e w' => e = .returned (.bool true) ∧ MC w b g (l.drop 2) w' :=
  took_hit h (by decide) rfl (by decide) ((starts_shut l).trans (decide_eq_true hh))
theorem shut_miss {b g : Nat} {l : Chars} {w : World} (h : RC w b g l) (hh : ¬ (at_ l 0 = 42 ∧ at_ l 1 = 47)) : Calls Tryz.prog 43 #[.pointer (some ⟨b, 0, none⟩), .string ⟨#[42, 47]⟩] w fun e w' => e = .returned (.bool false) ∧ MC w b g l w' :=
  took_miss h (by decide) (by decide) ((starts_shut l).trans (decide_eq_false hh))
set_option maxRecDepth 100000 in
set_option maxHeartbeats 2000000 in
theorem comments7_any (b g : Nat) (l : Chars) (w : World) (h : RC w b g l) :
    Calls Tryz.prog 20 #[.pointer (some ⟨b, 0, none⟩)] w fun e w' => e = .returned (.tuple #[]) ∧ MC w b g (comL l) w' := by
  obtain ⟨ans, hans⟩ : ∃ x, comL l = x := ⟨_, rfl⟩
  rw [hans]
  have M0 := Lib.hid (MC.refl h)
  have D0 := Lib.hid hans
  clear h hans
  go_enter Tryz.func20, Tryz.ntmps20
  go_wp2
  go_loopw [] (fun wr => ∃ l' : Chars, Hid (comL l' = ans) ∧ Hid (MC w b g l' wr)) (fun wr => restN b wr)
  case atStart => exact ⟨l, D0, M0⟩
  case round =>
    clear D0 M0
    obtain ⟨l1, HD, HM⟩ := hrel
    have hst := HD.out
    rw [comL_step] at hst
    by_cases hc : at_ l1 0 = 47 ∧ at_ l1 1 = 42
    · rw [if_pos hc] at hst
      have HT := Lib.hid (open_hit HM.out.rest hc)
      have hl2 := at_pos (l := l1) (n := 1) (by rw [hc.2]; decide)
      obtain ⟨l2, hl2e⟩ : ∃ x, inC (l1.drop 2) = x := ⟨_, rfl⟩
      rw [hl2e] at hst
      have HS := Lib.hid hst
      have HI := Lib.hid hl2e
      have hle : l2.length < l1.length := by rw [← hl2e]; have := inC_len (l1.drop 2); rw [List.length_drop] at this; omega
      have HL := Lib.hid (show l2.length < restN b wr by rw [HM.out.rest.restN]; exact hle)
      clear hst hc hl2 hl2e hle
      go_big_wp2_with (go_at_call 43; refine HT.out.mono ?_; rintro e w1 ⟨rfl, hm⟩; have HM1 := Lib.hid (HM.out.trans hm); clear hm)
      go_loopw [] (fun wr => ∃ l' : Chars, Hid (inC l' = l2) ∧ Hid (MC w b g l' wr)) (fun wr => restN b wr)
      case atStart => exact ⟨_, HI, HM1⟩
      case round =>
        clear HM1 HT HI
        obtain ⟨l3, HI, HM3⟩ := hrel
        obtain ⟨ao, cap, hcell, _⟩ := HM3.out.rest.parts
        by_cases hl : l3.length = 0
        · obtain rfl : l3 = [] := List.length_eq_zero_iff.1 hl
          have e2 : l2 = [] := HI.out.symm
          subst e2
          simp only [List.length_nil] at hcell
          clear hl
          go_big_wp2
          exact ⟨⟨[], HS, HM3⟩, by rw [HM3.out.rest.restN]; exact HL.out⟩
        · have hlI : (0 : Int) < l3.length := by omega
          have hl0 : (((l3.length : Nat) : Int) = 0) = False := eq_false (by omega)
          by_cases hc : at_ l3 0 = 42 ∧ at_ l3 1 = 47
          · have HT := Lib.hid (shut_hit HM3.out.rest hc)
            have he := inC_hit hc
            rw [HI.out] at he
            have HE := Lib.hid he
            clear hc he hl
            go_big_wp2_with (go_at_call 43; refine HT.out.mono ?_; rintro e w2 ⟨rfl, hm⟩; have HM4 := Lib.hid (HM3.out.trans hm); clear hm)
            rw [← HE.out] at HM4
            exact ⟨⟨l2, HS, HM4⟩, by rw [HM4.out.rest.restN]; exact HL.out⟩
          · have HT := Lib.hid (shut_miss HM3.out.rest hc)
            have he := inC_miss hc
            rw [HI.out] at he
            have HE := Lib.hid he.symm
            have HLn := Lib.hid (show (l3.drop 1).length < restN b wr by rw [HM3.out.rest.restN, List.length_drop]; omega)
            clear hc he hl
            go_big_wp2_with (first
              | (go_at_call 43; refine HT.out.mono ?_; rintro e w2 ⟨rfl, hm⟩; have HM4 := Lib.hid (HM3.out.trans hm); have HP := Lib.hid (pass1_any b g l3 w2 HM4.out.rest); clear hm)
              | (go_at_call 44; refine HP.out.mono ?_; rintro e w3 ⟨rfl, hm⟩; have HM5 := Lib.hid (HM4.out.trans hm); clear hm))
            exact ⟨⟨_, HE, HM5⟩, by rw [HM5.out.rest.restN]; exact HLn.out⟩
    · rw [if_neg hc] at hst
      subst hst
      have HT := Lib.hid (open_miss HM.out.rest hc)
      clear hc
      go_big_wp2_with (go_at_call 43; refine HT.out.mono ?_; rintro e w1 ⟨rfl, hm⟩; have HM1 := Lib.hid (HM.out.trans hm); clear hm)
      go_end0
      exact ⟨rfl, HM1.out⟩
end Go.Proofs.YtmhdocgoeahbdaaGreatDoor
