/-
  The taker of package csstok for numbers. No conditions.
-/
import Derived.Test.YtmhdocgoeahbdaaGreatDoorQTake5
namespace Go.Proofs.YtmhdocgoeahbdaaGreatDoor
open Go.RowKit Go.RunKit Go.UtfKit Go.Lib Go.CssKit

set_option maxRecDepth 100000 in
set_option maxHeartbeats 4000000 in
theorem number7_any (b g : Nat) (l : Chars) (w : World) (h : RC w b g l) : TakeAs 37 b g w (if numAt l = true then numberT l else (noCT, l)) := by
  have HA := Lib.hid (ResAt.start h)
  have H3 := Lib.hid (fun W (hr : RC W b g l) => numBegins_any b g l W hr)
  have HH := Lib.hid h
  unfold TakeAs numberT
  cases hu : numAt l with
  | false =>
    rw [hu] at H3
    rw [if_neg (by decide)]
    clear h hu
    go_enter Tryz.func37, Tryz.ntmps37
    go_big_wp2_with (go_at_call 76; refine (H3.out _ HA.out.moved.rest).mono ?_; rintro e w1 ⟨rfl, rfl⟩)
    refine tok_new ?_ ?_ HH.out ?_ <;> rfl
  | true =>
    rw [if_pos rfl]
    have HN := Lib.hid (fun W (hr : RC W b g l) => takeNumber_any b g l W hr hu)
    rw [hu] at H3
    have HNb := Lib.hid (fun W (hr : RC W b g (l.drop (numN l))) => nameB0_any b g (l.drop (numN l)) W hr)
    cases hk : nameAt (l.drop (numN l)) 0 with
    | true =>
      rw [hk] at HNb
      rw [if_pos rfl]
      have HTn := Lib.hid (fun W (hr : RC W b g (l.drop (numN l))) => takeName_any b g (l.drop (numN l)) W hr)
      have HSub := Lib.hid (show (nameL (l.drop (numN l))).2 ≠ [] → l.drop (numN l) ≠ [] from nameL_ne)
      obtain ⟨nv, nr, hn⟩ : ∃ v r, nameL (l.drop (numN l)) = (v, r) := ⟨_, _, rfl⟩
      simp only [hn] at HTn HSub ⊢
      clear h hu hk hn
      go_enter Tryz.func37, Tryz.ntmps37
      go_big_wp2_with (first
        | (go_at_call 76; refine (H3.out _ HA.out.moved.rest).mono ?_; rintro e w1 ⟨rfl, rfl⟩)
        | (go_at_call 77; refine (HN.out _ HA.out.moved.rest).mono ?_; rintro e w1 ⟨rfl, hm⟩; have HA1 := Lib.hid (HA.out.on hm drop_ne); have HB1 := Lib.hid (heap_alloc_new w1 (.cells #[.int .u8 8, .string ⟨(bytesC (l.take (numN l))).toArray⟩, .string ⟨#[]⟩, .bool false] TTc)); have HA2 := Lib.hid (HA1.out.below ((Below.refl _ _).alloc (Nat.le_refl _) (.cells #[.int .u8 8, .string ⟨(bytesC (l.take (numN l))).toArray⟩, .string ⟨#[]⟩, .bool false] TTc))); have hsz := HA1.out.moved.grown.size; have hbl := HA1.out.lt; have hlt := (Array.getElem?_eq_some_iff.1 HA1.out.res).1; clear hm)
        | (go_at_call 74; refine (HNb.out _ HA2.out.moved.rest).mono ?_; rintro e w2 ⟨rfl, rfl⟩)
        | (go_at_call 75; refine (HTn.out _ HA2.out.moved.rest).mono ?_; rintro e w2 ⟨rfl, hm⟩; have HA3 := Lib.hid (HA2.out.on hm HSub.out); have HB2 := Lib.hid (hm.keeps HB1.out (by omega)); obtain ⟨⟨c0, c1, c2, c3⟩, f0, f1, f2, f3⟩ := froz4 HA3.out.res; obtain ⟨⟨d0, d1, d2, d3⟩, e0, e1, e2, e3⟩ := froz4 HB2.out; have hne1 : ¬ w1.heap.size = w.heap.size := (by omega); have hne2 : ¬ w.heap.size = w1.heap.size := (by omega); have HA4 := Lib.hid ((HA3.out.cell (g1 := w1.heap.size) (i := 0) (v := .int .u8 10) hlt).cell (g1 := w1.heap.size) (i := 2) (v := .string ⟨(bytesC nv).toArray⟩) hlt); clear hm))
      refine HA4.out.end_ ?_ ?_ ?_ <;> rfl
    | false =>
      rw [hk] at HNb
      rw [if_neg (by decide)]
      by_cases hp : at_ (l.drop (numN l)) 0 = 37
      · rw [if_pos hp]
        have HT := Lib.hid (fun W (hr : RC W b g (l.drop (numN l))) => one_hit (c := 37) (by decide) hr hp)
        clear h hu hk hp
        go_enter Tryz.func37, Tryz.ntmps37
        go_big_wp2_with (first
          | (go_at_call 76; refine (H3.out _ HA.out.moved.rest).mono ?_; rintro e w1 ⟨rfl, rfl⟩)
          | (go_at_call 77; refine (HN.out _ HA.out.moved.rest).mono ?_; rintro e w1 ⟨rfl, hm⟩; have HA1 := Lib.hid (HA.out.on hm drop_ne); have HB1 := Lib.hid (heap_alloc_new w1 (.cells #[.int .u8 8, .string ⟨(bytesC (l.take (numN l))).toArray⟩, .string ⟨#[]⟩, .bool false] TTc)); have HA2 := Lib.hid (HA1.out.below ((Below.refl _ _).alloc (Nat.le_refl _) (.cells #[.int .u8 8, .string ⟨(bytesC (l.take (numN l))).toArray⟩, .string ⟨#[]⟩, .bool false] TTc))); have hsz := HA1.out.moved.grown.size; have hbl := HA1.out.lt; have hlt := (Array.getElem?_eq_some_iff.1 HA1.out.res).1; clear hm)
          | (go_at_call 74; refine (HNb.out _ HA2.out.moved.rest).mono ?_; rintro e w2 ⟨rfl, rfl⟩)
          | (go_at_call 43; refine (HT.out _ HA2.out.moved.rest).mono ?_; rintro e w2 ⟨rfl, hm⟩; have HA3 := Lib.hid (HA2.out.on hm drop_ne); have HB2 := Lib.hid (hm.keeps HB1.out (by omega)); obtain ⟨⟨c0, c1, c2, c3⟩, f0, f1, f2, f3⟩ := froz4 HA3.out.res; obtain ⟨⟨d0, d1, d2, d3⟩, e0, e1, e2, e3⟩ := froz4 HB2.out; have hne1 : ¬ w1.heap.size = w.heap.size := (by omega); have hne2 : ¬ w.heap.size = w1.heap.size := (by omega); have HA4 := Lib.hid (HA3.out.cell (g1 := w1.heap.size) (i := 0) (v := .int .u8 9) hlt); clear hm))
        refine HA4.out.end_ ?_ ?_ ?_ <;> rfl
      · rw [if_neg hp]
        have HT := Lib.hid (fun W (hr : RC W b g (l.drop (numN l))) => one_miss (c := 37) (by decide) hr hp)
        clear h hu hk hp
        go_enter Tryz.func37, Tryz.ntmps37
        go_big_wp2_with (first
          | (go_at_call 76; refine (H3.out _ HA.out.moved.rest).mono ?_; rintro e w1 ⟨rfl, rfl⟩)
          | (go_at_call 77; refine (HN.out _ HA.out.moved.rest).mono ?_; rintro e w1 ⟨rfl, hm⟩; have HA1 := Lib.hid (HA.out.on hm drop_ne); have HB1 := Lib.hid (heap_alloc_new w1 (.cells #[.int .u8 8, .string ⟨(bytesC (l.take (numN l))).toArray⟩, .string ⟨#[]⟩, .bool false] TTc)); have HA2 := Lib.hid (HA1.out.below ((Below.refl _ _).alloc (Nat.le_refl _) (.cells #[.int .u8 8, .string ⟨(bytesC (l.take (numN l))).toArray⟩, .string ⟨#[]⟩, .bool false] TTc))); have hsz := HA1.out.moved.grown.size; have hbl := HA1.out.lt; have hlt := (Array.getElem?_eq_some_iff.1 HA1.out.res).1; clear hm)
          | (go_at_call 74; refine (HNb.out _ HA2.out.moved.rest).mono ?_; rintro e w2 ⟨rfl, rfl⟩)
          | (go_at_call 43; refine (HT.out _ HA2.out.moved.rest).mono ?_; rintro e w2 ⟨rfl, hm⟩; have HA3 := Lib.hid (HA2.out.on hm (fun x => x)); have HB2 := Lib.hid (hm.keeps HB1.out (by omega)); obtain ⟨⟨c0, c1, c2, c3⟩, f0, f1, f2, f3⟩ := froz4 HA3.out.res; obtain ⟨⟨d0, d1, d2, d3⟩, e0, e1, e2, e3⟩ := froz4 HB2.out; have hne1 : ¬ w1.heap.size = w.heap.size := (by omega); have hne2 : ¬ w.heap.size = w1.heap.size := (by omega); clear hm))
        refine HA3.out.end_ ?_ ?_ ?_ <;> rfl
end Go.Proofs.YtmhdocgoeahbdaaGreatDoor
