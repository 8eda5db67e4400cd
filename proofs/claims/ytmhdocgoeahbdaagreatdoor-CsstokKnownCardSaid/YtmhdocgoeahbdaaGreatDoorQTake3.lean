/-
  The takers of package csstok, one by one: text, hash, atWord, sign, mark. No conditions.
-/
import Derived.Test.YtmhdocgoeahbdaaGreatDoorQTake2
namespace Go.CssKit
open Go Go.Lib
theorem sign_index (c : Int) (h0 : 0 ≤ c) (h1 : c < 128) : decide (0 ≤ Lib.indexByte ([44, 58, 59, 40, 41, 91, 93, 123, 125] : List UInt8) c.toNat.toUInt8) = signsC.contains c := by
  have hall : ((List.range 128).all fun k => decide (0 ≤ Lib.indexByte ([44, 58, 59, 40, 41, 91, 93, 123, 125] : List UInt8) k.toUInt8) == signsC.contains (k : Int)) = true := by decide
  have := List.all_eq_true.1 hall c.toNat (by simp; omega)
  rw [beq_iff_eq] at this
  rw [this, Int.toNat_of_nonneg h0]
theorem starts_four (l : Chars) : startsC l [60, 33, 45, 45] 0 = openAt l := by
  rw [starts_step, starts_step, starts_step, starts_step]
  unfold openAt
  show (if at_ l 0 = 60 then if at_ l 1 = 33 then if at_ l 2 = 45 then if at_ l 3 = 45 then true else false else false else false else false) = _
  by_cases h0 : at_ l 0 = 60 <;> by_cases h1 : at_ l 1 = 33 <;> by_cases h2 : at_ l 2 = 45 <;> by_cases h3 : at_ l 3 = 45 <;> simp [h0, h1, h2, h3]
theorem starts_three (l : Chars) : startsC l [45, 45, 62] 0 = closeAt l := by
  rw [starts_step, starts_step, starts_step]
  unfold closeAt
  show (if at_ l 0 = 45 then if at_ l 1 = 45 then if at_ l 2 = 62 then true else false else false else false) = _
  by_cases h0 : at_ l 0 = 45 <;> by_cases h1 : at_ l 1 = 45 <;> by_cases h2 : at_ l 2 = 62 <;> simp [h0, h1, h2]
theorem starts_one (l : Chars) (c : UInt8) : startsC l [c] 0 = decide (at_ l 0 = ((c.toNat : Nat) : Int)) := by
  rw [starts_step]
  by_cases h : at_ l 0 = ((c.toNat : Nat) : Int)
  · rw [if_pos h, decide_eq_true h]; rfl
  · rw [if_neg h, decide_eq_false h]
end Go.CssKit
namespace Go.Proofs.YtmhdocgoeahbdaaGreatDoor
open Go.RowKit Go.RunKit Go.UtfKit Go.Lib Go.CssKit

theorem ResAt.cell {w W : World} {b g g1 i : Nat} {l : Chars} {v : Value} (h : ResAt w b g l W) (hg : w.heap.size < g1) : ResAt w b g l (W.setCell ⟨g1, i, none⟩ v) :=
  ⟨h.moved.cell (by omega) h.lt h.glt, (Below.heap_setCell _ _ _ _ (by show w.heap.size ≠ g1; omega)).trans h.res, h.lt, h.glt⟩
theorem ResAt.below {w W W1 : World} {b g : Nat} {l : Chars} (h : ResAt w b g l W) (hb : Below W.heap.size W W1) : ResAt w b g l W1 :=
  ⟨h.moved.on hb, (hb.block _ (Array.getElem?_eq_some_iff.1 h.res).1).trans h.res, h.lt, h.glt⟩
theorem text_ne {q : Int} {l : Chars} (h : (textL q l).2 ≠ []) : l ≠ [] := fun e => h (by rw [e]; rfl)
theorem nameL_ne {l : Chars} (h : (nameL l).2 ≠ []) : l ≠ [] := fun e => h (by rw [e]; rfl)

set_option maxRecDepth 100000 in
set_option maxHeartbeats 4000000 in
theorem text7_any (b g : Nat) (l : Chars) (w : World) (h : RC w b g l) : TakeAs 35 b g w (if at_ l 0 = 34 ∨ at_ l 0 = 39 then quoteT l else (noCT, l)) := by
  have HA := Lib.hid (ResAt.start h)
  by_cases hq : at_ l 0 = 34 ∨ at_ l 0 = 39
  · rw [if_pos hq]
    unfold TakeAs quoteT
    have H0 := Lib.hid (fun W (hr : RC W b g l) => at0_any b g l W hr)
    obtain ⟨q, hqe⟩ : ∃ q, at_ l 0 = q := ⟨_, rfl⟩
    rw [hqe] at hq H0 ⊢
    have HT := Lib.hid (fun W (hr : RC W b g (l.drop 1)) => textUpTo_any b g q hq (l.drop 1) W hr)
    have HSub := Lib.hid (show (textL q (l.drop 1)).2 ≠ [] → l.drop 1 ≠ [] from text_ne)
    obtain ⟨tv, tr, ht⟩ : ∃ v r, textL q (l.drop 1) = (v, r) := ⟨_, _, rfl⟩
    simp only [ht] at HT HSub ⊢
    have H1 := Lib.hid (fun W (hr : RC W b g tr) => at0_any b g tr W hr)
    have HP := Lib.hid (fun W (hr : RC W b g l) => pass1_any b g l W hr)
    have HP2 := Lib.hid (fun W (hr : RC W b g tr) => pass1_any b g tr W hr)
    clear ht hqe h
    by_cases h10 : at_ tr 0 = 10
    · rw [if_pos h10]
      rw [h10] at H1
      clear h10
      rcases hq with rfl | rfl
      all_goals
        go_enter Tryz.func35, Tryz.ntmps35
        go_big_wp2_with (first
          | (go_at_call 70; refine (H0.out _ HA.out.moved.rest).mono ?_; clear H0; rintro e w1 ⟨rfl, rfl⟩)
          | (go_at_call 44; refine (HP.out _ HA.out.moved.rest).mono ?_; clear HP; rintro e w1 ⟨rfl, hm⟩; have HA1 := Lib.hid (HA.out.on hm drop_ne); clear hm)
          | (go_at_call 71; refine (HT.out _ HA1.out.moved.rest).mono ?_; rintro e w2 ⟨rfl, hm⟩; have HA2 := Lib.hid (HA1.out.on hm HSub.out); obtain ⟨⟨c0, c1, c2, c3⟩, f0, f1, f2, f3⟩ := froz4 HA2.out.res; clear hm)
          | (go_at_call 70; refine (H1.out _ HA2.out.moved.rest).mono ?_; rintro e w3 ⟨rfl, rfl⟩))
        refine HA2.out.end_ ?_ ?_ ?_ <;> rfl
    · rw [if_neg h10]
      generalize at_ tr 0 = y at *
      have hy : (y == 10) = false := by rw [beq_eq_false_iff_ne]; exact h10
      rcases hq with rfl | rfl
      all_goals
        go_enter Tryz.func35, Tryz.ntmps35
        go_big_wp2_with (first
          | (go_at_call 70; refine (H0.out _ HA.out.moved.rest).mono ?_; clear H0; rintro e w1 ⟨rfl, rfl⟩)
          | (go_at_call 44; refine (HP.out _ HA.out.moved.rest).mono ?_; clear HP; rintro e w1 ⟨rfl, hm⟩; have HA1 := Lib.hid (HA.out.on hm drop_ne); clear hm)
          | (go_at_call 71; refine (HT.out _ HA1.out.moved.rest).mono ?_; rintro e w2 ⟨rfl, hm⟩; have HA2 := Lib.hid (HA1.out.on hm HSub.out); clear hm)
          | (go_at_call 70; refine (H1.out _ HA2.out.moved.rest).mono ?_; rintro e w3 ⟨rfl, rfl⟩)
          | (go_at_call 44; refine (HP2.out _ HA2.out.moved.rest).mono ?_; rintro e w3 ⟨rfl, hm⟩; have HA3 := Lib.hid (HA2.out.on hm drop_ne); obtain ⟨⟨c0, c1, c2, c3⟩, f0, f1, f2, f3⟩ := froz4 HA3.out.res; clear hm))
        refine HA3.out.end_ ?_ ?_ ?_ <;> rfl
  · rw [if_neg hq]
    unfold TakeAs
    have H0 := Lib.hid (fun W (hr : RC W b g l) => at0_any b g l W hr)
    obtain ⟨⟨c0, c1, c2, c3⟩, f0, f1, f2, f3⟩ := froz4 HA.out.res
    generalize at_ l 0 = q at *
    have b1 : (q != 34) = true := by rw [bne_iff_ne]; exact fun e => hq (.inl e)
    have b2 : (q != 39) = true := by rw [bne_iff_ne]; exact fun e => hq (.inr e)
    have HH := Lib.hid h
    clear hq c0 c1 c2 c3 f0 f1 f2 f3 h
    go_enter Tryz.func35, Tryz.ntmps35
    go_big_wp2_with (go_at_call 70; refine (H0.out _ HA.out.moved.rest).mono ?_; rintro e w1 ⟨rfl, rfl⟩)
    refine tok_new ?_ ?_ HH.out ?_ <;> rfl
set_option maxRecDepth 100000 in
set_option maxHeartbeats 4000000 in
theorem hash7_any (b g : Nat) (l : Chars) (w : World) (h : RC w b g l) : TakeAs 36 b g w (if at_ l 0 = 35 ∧ (nameC (at_ l 1) || escAt l 1) = true then hashT l else (noCT, l)) := by
  have HA := Lib.hid (ResAt.start h)
  have H0 := Lib.hid (fun W (hr : RC W b g l) => at0_any b g l W hr)
  have H1 := Lib.hid (fun W (hr : RC W b g l) => at1_any b g l W hr)
  have H2 := Lib.hid (isOfName_any (at_ l 1))
  have H3 := Lib.hid (fun W (hr : RC W b g l) => esc1_any b g l W hr)
  have HP := Lib.hid (fun W (hr : RC W b g l) => pass1_any b g l W hr)
  have HN0 := Lib.hid (fun W (hr : RC W b g (l.drop 1)) => nameB0_any b g (l.drop 1) W hr)
  have HN := Lib.hid (fun W (hr : RC W b g (l.drop 1)) => takeName_any b g (l.drop 1) W hr)
  have HSub := Lib.hid (show (nameL (l.drop 1)).2 ≠ [] → l.drop 1 ≠ [] from nameL_ne)
  have HH := Lib.hid h
  unfold TakeAs hashT
  obtain ⟨nv, nr, hn⟩ : ∃ v r, nameL (l.drop 1) = (v, r) := ⟨_, _, rfl⟩
  simp only [hn] at HN HSub ⊢
  generalize at_ l 1 = y at *
  generalize nameC y = p at *
  generalize escAt l 1 = u at *
  generalize nameAt (l.drop 1) 0 = k at *
  by_cases h0 : at_ l 0 = 35
  · rw [h0] at H0
    clear hn h
    by_cases hpu : (p || u) = true
    · rw [if_pos ⟨h0, hpu⟩]
      clear h0
      cases p
      · have hu : u = true := by simpa using hpu
        subst hu
        go_enter Tryz.func36, Tryz.ntmps36
        go_big_wp2_with (first
          | (go_at_call_of 70 (Value.int .i64 0); refine (H0.out _ HA.out.moved.rest).mono ?_; rintro e w1 ⟨rfl, rfl⟩)
          | (go_at_call_of 70 (Value.int .i64 1); refine (H1.out _ HA.out.moved.rest).mono ?_; rintro e w1 ⟨rfl, rfl⟩)
          | (go_at_call 72; refine (H2.out _).mono ?_; rintro e w1 ⟨rfl, rfl⟩)
          | (go_at_call 73; refine (H3.out _ HA.out.moved.rest).mono ?_; rintro e w1 ⟨rfl, rfl⟩)
          | (go_at_call 44; refine (HP.out _ HA.out.moved.rest).mono ?_; rintro e w1 ⟨rfl, hm⟩; have HA1 := Lib.hid (HA.out.on hm drop_ne); clear hm)
          | (go_at_call 74; refine (HN0.out _ HA1.out.moved.rest).mono ?_; rintro e w2 ⟨rfl, rfl⟩)
          | (go_at_call 75; refine (HN.out _ HA1.out.moved.rest).mono ?_; rintro e w2 ⟨rfl, hm⟩; have HA2 := Lib.hid (HA1.out.on hm HSub.out); obtain ⟨⟨c0, c1, c2, c3⟩, f0, f1, f2, f3⟩ := froz4 HA2.out.res; clear hm))
        refine HA2.out.end_ ?_ ?_ ?_ <;> rfl
      · clear hpu H3
        go_enter Tryz.func36, Tryz.ntmps36
        go_big_wp2_with (first
          | (go_at_call_of 70 (Value.int .i64 0); refine (H0.out _ HA.out.moved.rest).mono ?_; rintro e w1 ⟨rfl, rfl⟩)
          | (go_at_call_of 70 (Value.int .i64 1); refine (H1.out _ HA.out.moved.rest).mono ?_; rintro e w1 ⟨rfl, rfl⟩)
          | (go_at_call 72; refine (H2.out _).mono ?_; rintro e w1 ⟨rfl, rfl⟩)
          | (go_at_call 44; refine (HP.out _ HA.out.moved.rest).mono ?_; rintro e w1 ⟨rfl, hm⟩; have HA1 := Lib.hid (HA.out.on hm drop_ne); clear hm)
          | (go_at_call 74; refine (HN0.out _ HA1.out.moved.rest).mono ?_; rintro e w2 ⟨rfl, rfl⟩)
          | (go_at_call 75; refine (HN.out _ HA1.out.moved.rest).mono ?_; rintro e w2 ⟨rfl, hm⟩; have HA2 := Lib.hid (HA1.out.on hm HSub.out); obtain ⟨⟨c0, c1, c2, c3⟩, f0, f1, f2, f3⟩ := froz4 HA2.out.res; clear hm))
        refine HA2.out.end_ ?_ ?_ ?_ <;> rfl
    · rw [if_neg (fun e => hpu e.2)]
      obtain ⟨rfl, rfl⟩ : p = false ∧ u = false := by cases p <;> cases u <;> simp at hpu ⊢
      clear h0 hpu HN HN0 HP
      go_enter Tryz.func36, Tryz.ntmps36
      go_big_wp2_with (first
        | (go_at_call_of 70 (Value.int .i64 0); refine (H0.out _ HA.out.moved.rest).mono ?_; rintro e w1 ⟨rfl, rfl⟩)
        | (go_at_call_of 70 (Value.int .i64 1); refine (H1.out _ HA.out.moved.rest).mono ?_; rintro e w1 ⟨rfl, rfl⟩)
        | (go_at_call 72; refine (H2.out _).mono ?_; rintro e w1 ⟨rfl, rfl⟩)
        | (go_at_call 73; refine (H3.out _ HA.out.moved.rest).mono ?_; rintro e w1 ⟨rfl, rfl⟩))
      refine tok_new ?_ ?_ HH.out ?_ <;> rfl
  · rw [if_neg (fun e => h0 e.1)]
    generalize at_ l 0 = x at *
    have b1 : (x != 35) = true := by rw [bne_iff_ne]; exact h0
    clear h0 HN HN0 HP H1 H2 H3 hn h
    go_enter Tryz.func36, Tryz.ntmps36
    go_big_wp2_with (go_at_call 70; refine (H0.out _ HA.out.moved.rest).mono ?_; rintro e w1 ⟨rfl, rfl⟩)
    refine tok_new ?_ ?_ HH.out ?_ <;> rfl
end Go.Proofs.YtmhdocgoeahbdaaGreatDoor
