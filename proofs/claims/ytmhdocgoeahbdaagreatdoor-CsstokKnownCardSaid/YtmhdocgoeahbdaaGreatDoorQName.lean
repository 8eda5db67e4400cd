/-
  The reader of package csstok: names. No conditions.
-/
import Derived.Test.YtmhdocgoeahbdaaGreatDoorQEsc
import Derived.Maps.AppendAt
namespace Go.Proofs.YtmhdocgoeahbdaaGreatDoor
open Go.RowKit Go.RunKit Go.UtfKit Go.Lib Go.CssKit

/-- Cells of characters. -/
def intC (l : Chars) : List Value := l.map fun z => Value.int .i32 z
theorem intC_snoc (l : Chars) (z : Int) : intC (l ++ [z]) = intC l ++ [.int .i32 z] := by simp [intC]
/-- A row of characters of one's own. -/
def OwnC (w : World) (base : Nat) (v : Value) (l : Chars) : Prop := w.ownsRow base 21 1 v l.length (intC l)
theorem OwnC.slice {w : World} {base : Nat} {v : Value} {l : Chars} (h : OwnC w base v l) : ∃ a cap, v = .slice a l.length cap ∧ (a = none → l = []) ∧ ∀ ad, a = some ad → ∃ g o, ad = ⟨g, o, none⟩ ∧ ∀ j z, l[j]? = some z → w.cell? ⟨g, o + j, none⟩ = some (.int .i32 z) := by
  rcases h.2 with ⟨e, e2⟩ | ⟨g, cap, cur, e, _⟩
  · exact ⟨none, 0, by rw [e, e2], fun _ => List.length_eq_zero_iff.1 e2, fun ad ha => by cases ha⟩
  · refine ⟨_, cap, e, fun ha => (by cases ha), fun ad ha => ⟨g, 0, by cases ha; rfl, fun j z hz => ?_⟩⟩
    have hj := (List.getElem?_eq_some_iff.1 hz).1
    have h2 := h
    unfold OwnC at h2
    rw [e] at h2
    rw [Nat.zero_add, World.ownsRow.cellAt h2 j (by omega)]
    unfold intC
    rw [List.getElem?_map, hz]
    rfl
theorem RC.grown {w w' : World} {b g : Nat} {l : Chars} {row : Option Nat} (h : RC w b g l) (hg : w.grownBy w' row) (hb : row ≠ some b) (hgg : l ≠ [] → row ≠ some g) : RC w' b g l := by
  obtain ⟨ao, cap, h1, h2, h3, h4⟩ := h.ex
  refine ⟨⟨ao, cap, (hg.block b h.lt (fun e => hb e.symm)).trans h1, h2, h3, fun a ha => ?_⟩, h.ne, h.len, Nat.lt_of_lt_of_le h.lt hg.size, h.ok⟩
  obtain ⟨o, e, hc⟩ := h4 a ha
  exact ⟨o, e, fun j z hz => hg.cell (hc j z hz) (fun x => hgg (fun e => by rw [e] at hz; cases hz) x.symm)⟩
theorem MC.row {w wr wr' : World} {b g : Nat} {l : Chars} {row : Option Nat} (h : MC w b g l wr) (hg : wr.grownBy wr' row) (hrow : ∀ k, row = some k → w.heap.size ≤ k) (hb : b < w.heap.size) (hgl : l ≠ [] → g < w.heap.size) : MC w b g l wr' :=
  ⟨⟨hg.os.trans h.grown.os, hg.tape.trans h.grown.tape, hg.output.trans h.grown.output, Nat.le_trans h.grown.size hg.size, fun k hk hn => (hg.block k (Nat.lt_of_lt_of_le hk h.grown.size) (fun e => by have := hrow k e.symm; omega)).trans (h.grown.block k hk hn)⟩,
   h.rest.grown hg (fun e => by have := hrow b e; omega) (fun hl e => by have := hrow g e; have := hgl hl; omega)⟩
theorem OwnC.moved {wr wr' : World} {b base : Nat} {v : Value} {out : Chars} (h : OwnC wr base v out) (hm : wr.grownBy wr' (some b)) (hb : b < base) : OwnC wr' base v out :=
  World.ownsRow.kept h hm (.inr fun e => by have := (World.ownsRow.lt h _ e).1; omega)
theorem OwnC.nil (w : World) (base : Nat) : OwnC w base (.slice none 0 0) [] := World.ownsRow_nil _ _ _ _
theorem RC.glt {w : World} {b g : Nat} {l : Chars} (h : RC w b g l) (hl : l ≠ []) : g < w.heap.size := by
  obtain ⟨o, cap, _, hc⟩ := h.char (n := 0) (List.length_pos_iff.2 hl)
  exact World.block_lt_of_cell? _ _ hc
/-- What is held at a loop's head: the reader has moved on, the characters so far lie in a row of one's own. -/
structure NameAt (w : World) (b g : Nat) (a : Option Addr) (n cap : Nat) (out rest : Chars) (wr : World) : Prop where
  moved : MC w b g rest wr
  row : OwnC wr w.heap.size (.slice a n cap) out
  len : n = out.length
  lt : b < w.heap.size
  glt : rest ≠ [] → g < w.heap.size
theorem NameAt.start {w : World} {b g : Nat} {l : Chars} (h : RC w b g l) : NameAt w b g none 0 0 [] l w := ⟨MC.refl h, OwnC.nil _ _, rfl, h.lt, h.glt⟩
/-- One more character is appended, behind what a call has left. -/
theorem NameAt.wrote {w wr W W1 : World} {b g n n' cap cap' : Nat} {a a' : Option Addr} {out rest rest' : Chars} {z : Int} (h : NameAt w b g a n cap out rest wr) (hm : MC wr b g rest' W) (hsub : rest' ≠ [] → rest ≠ [])
    (hown : W1.ownsRow w.heap.size 21 1 (.slice a' n' cap') (out.length + 1) (intC out ++ [.int .i32 z])) (hn : n' = out.length + 1)
    (hg : (W.alloc (.cells #[.int .i32 z] 21)).grownBy W1 (Value.slice a n cap).ownBlock) : NameAt w b g a' n' cap' (out ++ [z]) rest' W1 := by
  have hM := (h.moved.trans hm).on ((Below.refl _ _).alloc (Nat.le_refl _) (.cells #[.int .i32 z] 21))
  refine ⟨hM.row hg (fun k e => (World.ownsRow.lt h.row k e).1) h.lt (fun hl => h.glt (hsub hl)), ?_, by simp [hn], h.lt, fun hl => h.glt (hsub hl)⟩
  unfold OwnC
  rw [intC_snoc, List.length_append]
  exact hown
theorem NameAt.pass {w wr wr' : World} {b g n cap : Nat} {a : Option Addr} {out rest rest' : Chars} (h : NameAt w b g a n cap out rest wr) (hm : MC wr b g rest' wr') (hsub : rest' ≠ [] → rest ≠ []) : NameAt w b g a n cap out rest' wr' :=
  ⟨h.moved.trans hm, h.row.moved hm.grown h.lt, h.len, h.lt, fun hl => h.glt (hsub hl)⟩
theorem drop_ne {l : Chars} {n : Nat} (h : l.drop n ≠ []) : l ≠ [] := fun e => h (by rw [e]; simp)
theorem escL_ne {l : Chars} (h : (escL l).2 ≠ []) : l ≠ [] := fun e => h (by rw [e]; rfl)

set_option maxRecDepth 100000 in
set_option maxHeartbeats 4000000 in
theorem takeName_any (b g : Nat) (l : Chars) (w : World) (h : RC w b g l) :
    Calls Tryz.prog 75 #[.pointer (some ⟨b, 0, none⟩)] w fun e w' => e = .returned (.string ⟨(bytesC (nameL l).1).toArray⟩) ∧ MC w b g (nameL l).2 w' := by
  obtain ⟨i0, hi, hz0, hz1, hz2⟩ := info_parts U.Tryz.infoInt32
  obtain ⟨an, ar, han⟩ : ∃ c r, nameL l = (c, r) := ⟨_, _, rfl⟩
  rw [han]
  have N0 := Lib.hid (NameAt.start h)
  have D0 : Hid ([] ++ (nameL l).1 = an ∧ (nameL l).2 = ar) := Lib.hid (by rw [han]; exact ⟨rfl, rfl⟩)
  have hL := Lib.hid h.len
  clear h han
  go_enter Tryz.func75, Tryz.ntmps75
  go_wp2
  go_loopw [3] (fun v wr => ∃ (a : Option Addr) (n cap : Nat) (out l' : Chars), v = .slice a n cap ∧ Hid (NameAt w b g a n cap out l' wr) ∧ Hid (out ++ (nameL l').1 = an ∧ (nameL l').2 = ar) ∧ n + l'.length ≤ 1099511627776) (fun _ wr => restN b wr)
  case atStart => exact ⟨none, 0, 0, [], l, rfl, N0, D0, by simpa using hL.out⟩
  case round =>
    clear N0 D0
    obtain ⟨a, n, cap, out, l1, rfl, HN, HD, hlen⟩ := hrel
    have H0 := Lib.hid (fun W (hr : RC W b g l1) => at0_any b g l1 W hr)
    have H1 := Lib.hid (isOfName_any (at_ l1 0))
    have H2 := Lib.hid (fun W (hr : RC W b g l1) => esc0_any b g l1 W hr)
    have hd := HD.out
    rw [nameL_step] at hd
    cases hnc : nameC (at_ l1 0) with
    | true =>
      rw [if_pos hnc] at hd
      rw [hnc] at H1
      have hlp := name_pos hnc
      have hnn := HN.out.len
      subst hnn
      have HS := Lib.hid (show (out ++ [at_ l1 0]) ++ (nameL (l1.drop 1)).1 = an ∧ (nameL (l1.drop 1)).2 = ar by rw [List.append_assoc]; exact hd)
      generalize at_ l1 0 = z at *
      have HO := Lib.hid (World.ownsRow.alloc HN.out.row (.cells #[.int .i32 z] 21))
      have HRR := Lib.hid HN.out.moved.rest
      clear hd hnc H2
      go_wp2_with (first
        | (go_at_call 70; refine (H0.out _ HRR.out).mono ?_; rintro e w1 ⟨rfl, rfl⟩)
        | (go_at_call 72; refine (H1.out _).mono ?_; rintro e w1 ⟨rfl, rfl⟩)
        | (at_builtin; refine wpList_append_own _ rfl _ _ 41 rfl w.heap.size 21 i0 _ 1 4 U.Tryz.underRunes hi hz0 hz1 hz2 rfl (by decide) _ out.length (intC out) rfl HO.out ⟨wr.heap.size, 0, none⟩ 1 1 [.int .i32 z] rfl ?c1 ?c2 ?c3 ?c4 ?c5 ?c6 ?_))
      case c1 => rfl
      case c2 =>
        intro j u hu
        cases j with
        | zero => simpa [go_sem] using hu
        | succ j => simp at hu
      case c3 => intro u hu; simp at hu; subst hu; rfl
      case c4 => unfold maxLen; omega
      case c5 => omega
      case c6 => have := HN.out.moved.grown.size; simp; omega
      intro v' W hown' hgrow _
      obtain ⟨a1, cap1, hvs1⟩ := U.slice_of hown'
      subst hvs1
      have HN2 := Lib.hid (NameAt.wrote HN.out (MC.refl HRR.out) (fun h => h) hown' rfl hgrow)
      have HP := Lib.hid (pass1_any b g l1 W HN2.out.moved.rest)
      have HL := Lib.hid (show (l1.drop 1).length < restN b wr by rw [HRR.out.restN, List.length_drop]; omega)
      clear hown' hgrow HO
      go_wp2_with (go_at_call 44; refine HP.out.mono ?_; rintro e w2 ⟨rfl, hm⟩; have HN3 := Lib.hid (HN2.out.pass hm drop_ne); clear hm)
      exact ⟨⟨a1, _, cap1, out ++ [z], l1.drop 1, rfl, HN3, HS, by rw [List.length_drop]; omega⟩, by rw [HN3.out.moved.rest.restN]; exact HL.out⟩
    | false =>
      rw [if_neg (by rw [hnc]; decide)] at hd
      rw [hnc] at H1
      have HRR := Lib.hid HN.out.moved.rest
      cases hes : escAt l1 0 with
      | true =>
        rw [if_pos hes] at hd
        rw [hes] at H2
        have hlp := esc_pos hes
        have hnn := HN.out.len
        subst hnn
        have HE := Lib.hid (takeEscape_any b g l1 wr HRR.out)
        have hle := esc_len (l1.drop 1)
        rw [List.length_drop] at hle
        have HSub := Lib.hid (show (escL (l1.drop 1)).2 ≠ [] → l1 ≠ [] from fun h => drop_ne (escL_ne h))
        obtain ⟨z, l2, hzl⟩ : ∃ z r, escL (l1.drop 1) = (z, r) := ⟨_, _, rfl⟩
        rw [hzl] at HE hle HSub hd
        have HS := Lib.hid (show (out ++ [z]) ++ (nameL l2).1 = an ∧ (nameL l2).2 = ar by rw [List.append_assoc]; exact hd)
        simp only at HE hle HSub
        generalize at_ l1 0 = y at *
        have HL := Lib.hid (show l2.length < restN b wr by rw [HRR.out.restN]; omega)
        clear hd hnc hes hzl
        go_wp2_with (first
          | (go_at_call 70; refine (H0.out _ HRR.out).mono ?_; rintro e w1 ⟨rfl, rfl⟩)
          | (go_at_call 72; refine (H1.out _).mono ?_; rintro e w1 ⟨rfl, rfl⟩)
          | (go_at_call 73; refine (H2.out _ HRR.out).mono ?_; rintro e w1 ⟨rfl, rfl⟩)
          | (go_at_call 95; refine HE.out.mono ?_; rintro e w1 ⟨rfl, hm⟩; have HM := Lib.hid hm; have HO := Lib.hid (World.ownsRow.alloc (HN.out.row.moved hm.grown HN.out.lt) (.cells #[.int .i32 z] 21)); clear hm)
          | (at_builtin; refine wpList_append_own _ rfl _ _ 41 rfl w.heap.size 21 i0 _ 1 4 U.Tryz.underRunes hi hz0 hz1 hz2 rfl (by decide) _ out.length (intC out) rfl HO.out ⟨w1.heap.size, 0, none⟩ 1 1 [.int .i32 z] rfl ?c1 ?c2 ?c3 ?c4 ?c5 ?c6 ?_))
        case c1 => rfl
        case c2 =>
          intro j u hu
          cases j with
          | zero => simpa [go_sem] using hu
          | succ j => simp at hu
        case c3 => intro u hu; simp at hu; subst hu; rfl
        case c4 => unfold maxLen; omega
        case c5 => omega
        case c6 => have := HN.out.moved.grown.size; have := HM.out.grown.size; simp; omega
        intro v' W hown' hgrow _
        obtain ⟨a1, cap1, hvs1⟩ := U.slice_of hown'
        subst hvs1
        have HN2 := Lib.hid (NameAt.wrote HN.out HM.out HSub.out hown' rfl hgrow)
        clear hown' hgrow HO
        go_wp2
        exact ⟨⟨a1, _, cap1, out ++ [z], l2, rfl, HN2, HS, by omega⟩, by rw [HN2.out.moved.rest.restN]; exact HL.out⟩
      | false =>
        rw [if_neg (by rw [hes]; decide)] at hd
        rw [hes] at H2
        obtain ⟨hd1, hd2⟩ := hd
        rw [List.append_nil] at hd1
        subst hd1
        subst hd2
        obtain ⟨a', cap', hsl, hna, hra⟩ := HN.out.row.slice
        rw [← HN.out.len] at hsl
        cases hsl
        have HS := Lib.hid (str7_any a n cap out wr HN.out.len.symm hna hra)
        generalize at_ l1 0 = y at *
        clear hnc hes hna hra
        go_wp2_with (first
          | (go_at_call 70; refine (H0.out _ HRR.out).mono ?_; rintro e w1 ⟨rfl, rfl⟩)
          | (go_at_call 72; refine (H1.out _).mono ?_; rintro e w1 ⟨rfl, rfl⟩)
          | (go_at_call 73; refine (H2.out _ HRR.out).mono ?_; rintro e w1 ⟨rfl, rfl⟩)
          | (go_at_call 94; refine HS.out.mono ?_; rintro e w1 ⟨rfl, rfl⟩))
        go_ret
        exact ⟨rfl, HN.out.moved⟩
end Go.Proofs.YtmhdocgoeahbdaaGreatDoor
