/-
  The takers of package csstok, one by one: word, number. No conditions.
-/
import Derived.Test.YtmhdocgoeahbdaaGreatDoorQTake4
namespace Go.Proofs.YtmhdocgoeahbdaaGreatDoor
open Go.RowKit Go.RunKit Go.UtfKit Go.Lib Go.CssKit

set_option maxRecDepth 100000 in
set_option maxHeartbeats 4000000 in
theorem word7_any (b g : Nat) (l : Chars) (w : World) (h : RC w b g l) : TakeAs 39 b g w (if nameAt l 0 = true then wordT l else (noCT, l)) := by
  have HA := Lib.hid (ResAt.start h)
  have H3 := Lib.hid (fun W (hr : RC W b g l) => nameB0_any b g l W hr)
  have HN := Lib.hid (fun W (hr : RC W b g l) => takeName_any b g l W hr)
  have HSub := Lib.hid (show (nameL l).2 ≠ [] → l ≠ [] from nameL_ne)
  have HH := Lib.hid h
  unfold TakeAs wordT
  obtain ⟨nv, nr, hn⟩ : ∃ v r, nameL l = (v, r) := ⟨_, _, rfl⟩
  simp only [hn] at HN HSub ⊢
  generalize nameAt l 0 = u at *
  clear hn h
  cases u
  · rw [if_neg (by decide)]
    clear HN
    go_enter Tryz.func39, Tryz.ntmps39
    go_big_wp2_with (go_at_call 74; refine (H3.out _ HA.out.moved.rest).mono ?_; rintro e w1 ⟨rfl, rfl⟩)
    refine tok_new ?_ ?_ HH.out ?_ <;> rfl
  · rw [if_pos rfl]
    by_cases h40 : at_ nr 0 = 40
    · rw [if_pos h40]
      have HT := Lib.hid (fun W (hr : RC W b g nr) => one_hit (c := 40) (by decide) hr h40)
      clear h40
      go_enter Tryz.func39, Tryz.ntmps39
      go_big_wp2_with (first
        | (go_at_call 74; refine (H3.out _ HA.out.moved.rest).mono ?_; rintro e w1 ⟨rfl, rfl⟩)
        | (go_at_call 75; refine (HN.out _ HA.out.moved.rest).mono ?_; rintro e w1 ⟨rfl, hm⟩; have HA1 := Lib.hid (HA.out.on hm HSub.out); have HB1 := Lib.hid (heap_alloc_new w1 (.cells #[.int .u8 2, .string ⟨(bytesC nv).toArray⟩, .string ⟨#[]⟩, .bool false] TTc)); have HA2 := Lib.hid (HA1.out.below ((Below.refl _ _).alloc (Nat.le_refl _) (.cells #[.int .u8 2, .string ⟨(bytesC nv).toArray⟩, .string ⟨#[]⟩, .bool false] TTc))); have hsz := HA1.out.moved.grown.size; have hbl := HA1.out.lt; have hlt := (Array.getElem?_eq_some_iff.1 HA1.out.res).1; clear hm)
        | (go_at_call 43; refine (HT.out _ HA2.out.moved.rest).mono ?_; rintro e w2 ⟨rfl, hm⟩; have HA3 := Lib.hid (HA2.out.on hm drop_ne); have HB2 := Lib.hid (hm.keeps HB1.out (by omega)); obtain ⟨⟨c0, c1, c2, c3⟩, f0, f1, f2, f3⟩ := froz4 HA3.out.res; obtain ⟨⟨d0, d1, d2, d3⟩, e0, e1, e2, e3⟩ := froz4 HB2.out; have hne1 : ¬ w1.heap.size = w.heap.size := (by omega); have hne2 : ¬ w.heap.size = w1.heap.size := (by omega); have HA4 := Lib.hid (HA3.out.cell (g1 := w1.heap.size) (i := 0) (v := .int .u8 3) hlt); clear hm))
      refine HA4.out.end_ ?_ ?_ ?_ <;> rfl
    · rw [if_neg h40]
      have HT := Lib.hid (fun W (hr : RC W b g nr) => one_miss (c := 40) (by decide) hr h40)
      clear h40
      go_enter Tryz.func39, Tryz.ntmps39
      go_big_wp2_with (first
        | (go_at_call 74; refine (H3.out _ HA.out.moved.rest).mono ?_; rintro e w1 ⟨rfl, rfl⟩)
        | (go_at_call 75; refine (HN.out _ HA.out.moved.rest).mono ?_; rintro e w1 ⟨rfl, hm⟩; have HA1 := Lib.hid (HA.out.on hm HSub.out); have HB1 := Lib.hid (heap_alloc_new w1 (.cells #[.int .u8 2, .string ⟨(bytesC nv).toArray⟩, .string ⟨#[]⟩, .bool false] TTc)); have HA2 := Lib.hid (HA1.out.below ((Below.refl _ _).alloc (Nat.le_refl _) (.cells #[.int .u8 2, .string ⟨(bytesC nv).toArray⟩, .string ⟨#[]⟩, .bool false] TTc))); have hsz := HA1.out.moved.grown.size; have hbl := HA1.out.lt; have hlt := (Array.getElem?_eq_some_iff.1 HA1.out.res).1; clear hm)
        | (go_at_call 43; refine (HT.out _ HA2.out.moved.rest).mono ?_; rintro e w2 ⟨rfl, hm⟩; have HA3 := Lib.hid (HA2.out.on hm (fun x => x)); have HB2 := Lib.hid (hm.keeps HB1.out (by omega)); obtain ⟨⟨c0, c1, c2, c3⟩, f0, f1, f2, f3⟩ := froz4 HA3.out.res; obtain ⟨⟨d0, d1, d2, d3⟩, e0, e1, e2, e3⟩ := froz4 HB2.out; have hne1 : ¬ w1.heap.size = w.heap.size := (by omega); have hne2 : ¬ w.heap.size = w1.heap.size := (by omega); clear hm))
      refine HA3.out.end_ ?_ ?_ ?_ <;> rfl
end Go.Proofs.YtmhdocgoeahbdaaGreatDoor
