/-
  The document's own reader of package csstok: the next token, one way apart. Conditions: texts of at most 20000 characters.
  The document's own reader of package csstok: a mark, a name behind @. Conditions: texts of at most 20000 characters.
  The document's own reader of package csstok: a sign, or another character. Conditions: texts of at most 20000 characters.
  Tokens as the document has them: selvedgelaw07.plain. Conditions: at most 2^32 tokens.
  The document's own reader of package csstok: a number, with a unit, a per cent, or alone. Conditions: texts of at most 20000 characters.
  The document's own reader of package csstok: a name, with a ( or without. Conditions: texts of at most 20000 characters.
-/
import Derived.Test.YtmhdocgoeahbdaaGreatDoorPR2
import Derived.Test.YtmhdocgoeahbdaaGreatDoorQTake3
import Derived.Deep.DeepCutAuto
import Derived.Deep.CutBlock
import Derived.Test.YtmhdocgoeahbdaaGreatDoorQWorks
import Derived.Deep.RegionHeld3
import Derived.Deep.AppendLies
namespace Go.Proofs.YtmhdocgoeahbdaaGreatDoor
open Go.RowKit Go.RunKit Go.UtfKit Go.Lib Go.CssKit

theorem MZ.keeps {w W : World} {b g k j : Nat} {l0 : Chars} {o : Obj} (h : MZ w b g l0 j W) (hk : w.heap[k]? = some o) (hne : k ≠ b) : W.heap[k]? = some o := by
  rw [h.grown.block k (Array.getElem?_eq_some_iff.1 hk).1 (by simpa using hne)]; exact hk
/-- What is held of the token that is told, and of the reader. -/
structure ResZ (w : World) (b g : Nat) (l0 : Chars) (k : Nat) (W : World) : Prop where
  moved : MZ w b g l0 k W
  res : W.heap[w.heap.size]? = some (.cells #[.int .u8 0, .string ⟨#[]⟩, .string ⟨#[]⟩, .bool false] TRt (0, 0))
  lt : b < w.heap.size
  glt : l0 ≠ [] → g < w.heap.size
theorem ResZ.start {w : World} {b g k : Nat} {l0 : Chars} (h : RZ w b g l0 k) : ResZ w b g l0 k (w.alloc (.cells #[.int .u8 0, .string ⟨#[]⟩, .string ⟨#[]⟩, .bool false] TRt)) :=
  ⟨(MZ.refl h).on ((Below.refl _ _).alloc (Nat.le_refl _) _), heap_alloc_new w _, h.lt, h.glt⟩
theorem ResZ.on {w W W1 : World} {b g k j : Nat} {l0 : Chars} (h : ResZ w b g l0 k W) (hm : MZ W b g l0 j W1) : ResZ w b g l0 j W1 :=
  ⟨h.moved.trans hm, hm.keeps (k := w.heap.size) h.res (by have := h.lt; omega), h.lt, h.glt⟩
theorem ResZ.below {w W W1 : World} {b g k : Nat} {l0 : Chars} (h : ResZ w b g l0 k W) (hb : Below W.heap.size W W1) : ResZ w b g l0 k W1 :=
  ⟨h.moved.on hb, (hb.block _ (Array.getElem?_eq_some_iff.1 h.res).1).trans h.res, h.lt, h.glt⟩
theorem MZ.cell {w W : World} {b g g0 i j : Nat} {l0 : Chars} {v : Value} (h : MZ w b g l0 j W) (hg : w.heap.size ≤ g0) (hb : b < w.heap.size) (hgl : l0 ≠ [] → g < w.heap.size) : MZ w b g l0 j (W.setCell ⟨g0, i, none⟩ v) :=
  h.row (grown_cell W g0 i v) (fun k e => by cases e; exact hg) hb hgl
theorem ResZ.cell {w W : World} {b g g1 i k : Nat} {l0 : Chars} {v : Value} (h : ResZ w b g l0 k W) (hg : w.heap.size < g1) : ResZ w b g l0 k (W.setCell ⟨g1, i, none⟩ v) :=
  ⟨h.moved.cell (by omega) h.lt h.glt, (Below.heap_setCell _ _ _ _ (by show w.heap.size ≠ g1; omega)).trans h.res, h.lt, h.glt⟩
theorem ResZ.move {w W : World} {b g k j : Nat} {l0 : Chars} (h : ResZ w b g l0 k W) (hj : j ≤ l0.length) {i : Int} (hi : i = ((j : Nat) : Int)) : ResZ w b g l0 j (W.setCell ⟨b, 1, none⟩ (.int .i64 i)) :=
  h.on (h.moved.rest.move hj hi)
def OneZ (b g k : Nat) (l0 : Chars) (w : World) (x : CT × Chars) : Prop :=
  Calls Tryz.prog 24 #[.pointer (some ⟨b, 0, none⟩)] w fun e w' => e = .returned (ctV x.1) ∧ ∃ j, k < j ∧ l0.drop j = x.2 ∧ MZ w b g l0 j w'
theorem ResZ.end_ {f : Func} (hres : f.results = #[.cell 2 TRt]) {w W : World} {b g k j : Nat} {l0 : Chars} {L2 : Chars} {v0 v1 v2 v3 : Value} {tmps : Array Value} {V : Value} (h : ResZ w b g l0 j W)
    (h2 : tmps.getD 2 undef = .pointer (some ⟨w.heap.size, 0, none⟩)) (hV : V = .agg #[v0, v1, v2, v3]) (hj : k < j) (hd : l0.drop j = L2) :
    bodyPost Tryz.prog f (fun e w' => e = .returned V ∧ ∃ j, k < j ∧ l0.drop j = L2 ∧ MZ w b g l0 j w') .ret ⟨tmps, []⟩ ((((W.setCell ⟨w.heap.size, 0, none⟩ v0).setCell ⟨w.heap.size, 1, none⟩ v1).setCell ⟨w.heap.size, 2, none⟩ v2).setCell ⟨w.heap.size, 3, none⟩ v3) :=
  tok_readZ hres h2 (set4 h.res) ⟨by rw [hV], j, hj, hd, (((h.moved.cell (Nat.le_refl _) h.lt h.glt).cell (Nat.le_refl _) h.lt h.glt).cell (Nat.le_refl _) h.lt h.glt).cell (Nat.le_refl _) h.lt h.glt⟩
theorem see_res {b g k : Nat} {l0 : Chars} (n : Nat) (hn : n ≤ 1000) (w : World) (h : RZ w b g l0 k) :
    Calls Tryz.prog 23 #[.pointer (some ⟨b, 0, none⟩), .int .i64 ((n : Nat) : Int)] w fun e w' => e = .returned (.int .i32 (at_ (l0.drop k) n)) ∧ Below w.heap.size w w' := see_all h n (by omega) w (Below.refl _ _)
theorem openS_any {b g k : Nat} {l0 : Chars} (w : World) (h : RZ w b g l0 k) :
    Calls Tryz.prog 45 #[.pointer (some ⟨b, 0, none⟩), .string ⟨#[60, 33, 45, 45]⟩] w fun e w' => e = .returned (.bool (openAt (l0.drop k))) ∧ Below w.heap.size w w' := by
  have := standsZ_any b g k ⟨#[60, 33, 45, 45]⟩ l0 w h (by decide)
  rw [show (⟨#[60, 33, 45, 45]⟩ : ByteArray).data.toList = [60, 33, 45, 45] from rfl, starts_four] at this
  exact this
theorem closeS_any {b g k : Nat} {l0 : Chars} (w : World) (h : RZ w b g l0 k) :
    Calls Tryz.prog 45 #[.pointer (some ⟨b, 0, none⟩), .string ⟨#[45, 45, 62]⟩] w fun e w' => e = .returned (.bool (closeAt (l0.drop k))) ∧ Below w.heap.size w w' := by
  have := standsZ_any b g k ⟨#[45, 45, 62]⟩ l0 w h (by decide)
  rw [show (⟨#[45, 45, 62]⟩ : ByteArray).data.toList = [45, 45, 62] from rfl, starts_three] at this
  exact this

set_option maxRecDepth 100000 in
set_option maxHeartbeats 4000000 in
theorem oneZ_white (b g k : Nat) (l0 : Chars) (w : World) (h : RZ w b g l0 k) (hc : isW (at_ (l0.drop k) 0) = true) : OneZ b g k l0 w (whiteT (l0.drop k)) := by
  unfold OneZ CssKit.whiteT
  have HA := Lib.hid (ResZ.start h)
  have HS := Lib.hid (fun W (hr : RZ W b g l0 k) => see_res 0 (by omega) W hr)
  have HW := Lib.hid (refWhite_any (at_ (l0.drop k) 0))
  obtain ⟨ans, hans⟩ : ∃ x, (l0.drop k).dropWhile isW = x := ⟨_, rfl⟩
  rw [hc] at HW
  simp only [hans]
  have HC := Lib.hid hc
  have HD0 := Lib.hid hans
  clear h hc hans
  generalize hx : at_ (l0.drop k) 0 = x at HS HW
  clear hx
  go_enter Tryz.func24, Tryz.ntmps24
  go_wp2_with (first
    | (go_at_call 23; refine (HS.out _ HA.out.moved.rest).mono ?_; rintro e w1 ⟨rfl, hb⟩; replace HA := Lib.hid (HA.out.below hb); clear hb)
    | (go_at_call 46; refine (HW.out _).mono ?_; rintro e w2 ⟨rfl, rfl⟩))
  clear HS HW
  go_loopw [] (fun wr => ∃ j : Nat, k ≤ j ∧ Hid ((l0.drop j).dropWhile isW = ans) ∧ Hid (ResZ w b g l0 j wr)) (fun wr => l0.length - posN b wr)
  case atStart => exact ⟨k, Nat.le_refl _, HD0, HA⟩
  case round =>
    clear HD0 HA
    obtain ⟨j, hkj, HD, HR⟩ := hrel
    have HS := Lib.hid (see_res 0 (by omega) wr HR.out.moved.rest)
    have hst := HD.out
    have HDg := Lib.hid (refWhite_any (at_ (l0.drop j) 0))
    obtain ⟨y, hy⟩ : ∃ y, at_ (l0.drop j) 0 = y := ⟨_, rfl⟩
    rw [hy] at HS HDg
    by_cases hd : isW y = true
    · have hlt := lt_of_at (l0 := l0) (k := j) (n := 0) (by rw [hy]; intro e; rw [e] at hd; exact absurd hd (by decide))
      have hlt : j < l0.length := hlt
      have hdr : l0.drop j = y :: l0.drop (j + 1) := by
        rw [List.drop_eq_getElem_cons hlt]
        rw [List.drop_eq_getElem_cons hlt, at_cons] at hy
        rw [hy]
      rw [hdr, List.dropWhile_cons_of_pos hd] at hst
      have HE := Lib.hid hst
      have hlen := HR.out.moved.rest.len
      have hj64 : (j : Int) < 1099511627776 := by omega
      have HP := Lib.hid HR.out.moved.rest.posN
      rw [hd] at HDg
      clear hst hy hdr hd HD
      go_big_wp2_with (first
        | (go_at_call 23; refine HS.out.mono ?_; clear HS; rintro e w1 ⟨rfl, hb⟩; have HM1 := Lib.hid (HR.out.below hb); obtain ⟨_, _, _, c1, f1, _⟩ := HM1.out.moved.rest.parts; clear hb)
        | (go_at_call 46; refine (HDg.out _).mono ?_; rintro e w1 ⟨rfl, rfl⟩))
      have HM2 := HM1.out.move (j := j + 1) (i := (j : Int) + 1) hlt (by omega)
      exact ⟨⟨j + 1, by omega, HE, Lib.hid HM2⟩, by rw [HM2.moved.rest.posN, HP.out]; omega⟩
    · have hne : k < j := by
        by_cases e : j = k
        · subst e; rw [hy] at HC; exact absurd HC.out hd
        · omega
      have hnil : (l0.drop j).dropWhile isW = l0.drop j := by
        cases hl : l0.drop j with
        | nil => rfl
        | cons c r =>
          rw [hl, at_cons] at hy
          subst hy
          exact List.dropWhile_cons_of_neg hd
      rw [hnil] at hst
      have HE := Lib.hid hst
      have hd2 : isW y = false := by simpa using hd
      rw [hd2] at HDg
      clear hy hd hd2 hnil hst
      go_big_wp2_with (first
        | (go_at_call 23; refine HS.out.mono ?_; clear HS; rintro e w1 ⟨rfl, hb⟩; have HM1 := Lib.hid (HR.out.below hb); obtain ⟨⟨c0, c1, c2, c3⟩, f0, f1, f2, f3⟩ := froz4 HM1.out.res; clear hb)
        | (go_at_call 46; refine (HDg.out _).mono ?_; rintro e w1 ⟨rfl, rfl⟩))
      refine HM1.out.end_ ?_ ?_ ?_ hne HE.out <;> rfl

set_option maxRecDepth 100000 in
set_option maxHeartbeats 4000000 in
theorem oneZ_quote (b g k : Nat) (l0 : Chars) (w : World) (h : RZ w b g l0 k) (h20 : l0.length ≤ 20000) (hw : isW (at_ (l0.drop k) 0) = false) (hq : at_ (l0.drop k) 0 = 34 ∨ at_ (l0.drop k) 0 = 39) : OneZ b g k l0 w (quoteT (l0.drop k)) := by
  unfold OneZ
  have HA := Lib.hid (ResZ.start h)
  have HS := Lib.hid (fun W (hr : RZ W b g l0 k) => see_res 0 (by omega) W hr)
  have HW := Lib.hid (refWhite_any (at_ (l0.drop k) 0))
  have HT := Lib.hid (fun W (hr : RZ W b g l0 k) => takeTextZ_any b g k l0 W hr h20 hq)
  obtain ⟨⟨⟨kd, vl, un, idb⟩, L2⟩, hQ⟩ : ∃ x, quoteT (l0.drop k) = x := ⟨_, rfl⟩
  rw [hQ] at HT ⊢
  rw [hw] at HW
  unfold ctV at HT ⊢
  simp only at HT ⊢
  generalize at_ (l0.drop k) 0 = x at *
  clear h hw hQ
  rcases hq with rfl | rfl
  all_goals
    go_enter Tryz.func24, Tryz.ntmps24
    go_wp2_with (first
      | (go_at_call 23; refine (HS.out _ HA.out.moved.rest).mono ?_; rintro e w1 ⟨rfl, hb⟩; replace HA := Lib.hid (HA.out.below hb); clear hb)
      | (go_at_call 46; refine (HW.out _).mono ?_; rintro e w2 ⟨rfl, rfl⟩)
      | (go_at_call 47; refine (HT.out _ HA.out.moved.rest).mono ?_; rintro e w3 ⟨rfl, j, hj, hd, hm⟩; have HA2 := Lib.hid (HA.out.on hm); have HJ := Lib.hid hj; have HDr := Lib.hid hd; obtain ⟨⟨c0, c1, c2, c3⟩, f0, f1, f2, f3⟩ := froz4 HA2.out.res; clear hm hj hd))
    refine HA2.out.end_ ?_ ?_ ?_ HJ.out HDr.out <;> rfl

set_option maxRecDepth 100000 in
set_option maxHeartbeats 8000000 in
theorem oneZ_hash (b g k : Nat) (l0 : Chars) (w : World) (h : RZ w b g l0 k) (h20 : l0.length ≤ 20000) (hk : k < l0.length) (h35 : at_ (l0.drop k) 0 = 35) (hn : (nameC (at_ (l0.drop k) 1) || escAt (l0.drop k) 1) = true) : OneZ b g k l0 w (hashT (l0.drop k)) := by
  unfold OneZ hashT
  have HA := Lib.hid (ResZ.start h)
  have HS := Lib.hid (fun W (hr : RZ W b g l0 k) => see_res 0 (by omega) W hr)
  have HS1 := Lib.hid (fun W (hr : RZ W b g l0 k) => see_res 1 (by omega) W hr)
  have HW := Lib.hid (refWhite_any (at_ (l0.drop k) 0))
  have HN := Lib.hid (refNames_any (at_ (l0.drop k) 1))
  have HE := Lib.hid (fun W (hr : RZ W b g l0 k) => escZ_any b g k 1 l0 W hr (by omega))
  have HNm := Lib.hid (fun W (hr : RZ W b g l0 (k + 1)) => nameZ_any b g (k + 1) l0 W hr)
  have HTn := Lib.hid (fun W (hr : RZ W b g l0 (k + 1)) => takeNameZ_any b g (k + 1) l0 W hr h20)
  rw [List.drop_drop]
  generalize nameAt (l0.drop (k + 1)) 0 = na at *
  obtain ⟨⟨nv, nr⟩, hnl⟩ : ∃ x, nameL (l0.drop (k + 1)) = x := ⟨_, rfl⟩
  rw [hnl] at HTn ⊢
  rw [h35] at HS HW
  rw [show isW 35 = false by decide] at HW
  simp only at HTn ⊢
  generalize at_ (l0.drop k) 1 = y at *
  generalize escAt (l0.drop k) 1 = u at *
  generalize nameC y = p at *
  have hlen := h.len
  have hk64 : (k : Int) < 1099511627776 := by omega
  have HK := Lib.hid hk
  clear h h35 hnl hk
  cases p
  · have hu : u = true := by simpa using hn
    subst hu
    clear hn
    go_enter Tryz.func24, Tryz.ntmps24
    go_wp2_with (first
      | (go_at_call_of 23 (Value.int .i64 0); refine (HS.out _ HA.out.moved.rest).mono ?_; rintro e w1 ⟨rfl, hb⟩; replace HA := Lib.hid (HA.out.below hb); clear hb)
      | (go_at_call 46; refine (HW.out _).mono ?_; rintro e w2 ⟨rfl, rfl⟩)
      | (go_at_call_of 23 (Value.int .i64 1); refine (HS1.out _ HA.out.moved.rest).mono ?_; rintro e w1 ⟨rfl, hb⟩; replace HA := Lib.hid (HA.out.below hb); clear hb)
      | (go_at_call 48; refine (HN.out _).mono ?_; rintro e w2 ⟨rfl, rfl⟩)
      | (go_at_call 49; refine (HE.out _ HA.out.moved.rest).mono ?_; rintro e w1 ⟨rfl, hb⟩; replace HA := Lib.hid (HA.out.below hb); obtain ⟨_, _, _, c1, f1, _⟩ := HA.out.moved.rest.parts; clear hb)
      | (go_at_call 50; have HA1 := Lib.hid (HA.out.move (j := k + 1) (i := (k : Int) + 1) (by have := HK.out; omega) (by omega)); refine (HNm.out _ HA1.out.moved.rest).mono ?_; rintro e w1 ⟨rfl, hb⟩; have HA2 := Lib.hid (HA1.out.below hb); clear hb)
      | (go_at_call 51; refine (HTn.out _ HA2.out.moved.rest).mono ?_; rintro e w3 ⟨rfl, j, hj, hd, hm⟩; have HA3 := Lib.hid (HA2.out.on hm); have HJ := Lib.hid hj; have HDr := Lib.hid hd; obtain ⟨⟨c0, c1, c2, c3⟩, f0, f1, f2, f3⟩ := froz4 HA3.out.res; clear hm hj hd))
    refine HA3.out.end_ ?_ ?_ ?_ (by have := HJ.out; omega) HDr.out <;> rfl
  · clear hn HE
    go_enter Tryz.func24, Tryz.ntmps24
    go_wp2_with (first
      | (go_at_call_of 23 (Value.int .i64 0); refine (HS.out _ HA.out.moved.rest).mono ?_; rintro e w1 ⟨rfl, hb⟩; replace HA := Lib.hid (HA.out.below hb); clear hb)
      | (go_at_call 46; refine (HW.out _).mono ?_; rintro e w2 ⟨rfl, rfl⟩)
      | (go_at_call_of 23 (Value.int .i64 1); refine (HS1.out _ HA.out.moved.rest).mono ?_; rintro e w1 ⟨rfl, hb⟩; replace HA := Lib.hid (HA.out.below hb); obtain ⟨_, _, _, c1, f1, _⟩ := HA.out.moved.rest.parts; clear hb)
      | (go_at_call 48; refine (HN.out _).mono ?_; rintro e w2 ⟨rfl, rfl⟩)
      | (go_at_call 50; have HA1 := Lib.hid (HA.out.move (j := k + 1) (i := (k : Int) + 1) (by have := HK.out; omega) (by omega)); refine (HNm.out _ HA1.out.moved.rest).mono ?_; rintro e w1 ⟨rfl, hb⟩; have HA2 := Lib.hid (HA1.out.below hb); clear hb)
      | (go_at_call 51; refine (HTn.out _ HA2.out.moved.rest).mono ?_; rintro e w3 ⟨rfl, j, hj, hd, hm⟩; have HA3 := Lib.hid (HA2.out.on hm); have HJ := Lib.hid hj; have HDr := Lib.hid hd; obtain ⟨⟨c0, c1, c2, c3⟩, f0, f1, f2, f3⟩ := froz4 HA3.out.res; clear hm hj hd))
    refine HA3.out.end_ ?_ ?_ ?_ (by have := HJ.out; omega) HDr.out <;> rfl
end Go.Proofs.YtmhdocgoeahbdaaGreatDoor
namespace Go.Proofs.YtmhdocgoeahbdaaGreatDoor
open Go.RowKit Go.RunKit Go.UtfKit Go.Lib Go.CssKit
theorem nameAt_next (l : Chars) (k : Nat) : nameAt (l.drop (k + 1)) 0 = nameAt (l.drop k) 1 := by
  have e : ∀ n, at_ (l.drop (k + 1)) n = at_ (l.drop k) (1 + n) := fun n => by rw [at_drop, at_drop, Nat.add_assoc]
  unfold nameAt escAt
  simp only [e]

set_option maxRecDepth 100000 in
set_option maxHeartbeats 8000000 in
theorem oneZ_open (b g k : Nat) (l0 : Chars) (w : World) (h : RZ w b g l0 k) (h20 : l0.length ≤ 20000) (hk : k < l0.length) (hw : isW (at_ (l0.drop k) 0) = false) (hq : ¬ (at_ (l0.drop k) 0 = 34 ∨ at_ (l0.drop k) 0 = 39)) (hh : ¬ (at_ (l0.drop k) 0 = 35 ∧ (nameC (at_ (l0.drop k) 1) || escAt (l0.drop k) 1) = true)) (hn : numAt (l0.drop k) = false) (ho : openAt (l0.drop k) = true) : OneZ b g k l0 w (⟨13, [], [], false⟩, (l0.drop k).drop 4) := by
  unfold OneZ
  have HA := Lib.hid (ResZ.start h)
  have HS := Lib.hid (fun W (hr : RZ W b g l0 k) => see_res 0 (by omega) W hr)
  have HS1 := Lib.hid (fun W (hr : RZ W b g l0 k) => see_res 1 (by omega) W hr)
  have HW := Lib.hid (refWhite_any (at_ (l0.drop k) 0))
  have HN := Lib.hid (refNames_any (at_ (l0.drop k) 1))
  have HE := Lib.hid (fun W (hr : RZ W b g l0 k) => escZ_any b g k 1 l0 W hr (by omega))
  have HNu := Lib.hid (fun W (hr : RZ W b g l0 k) => numZ_any b g k l0 W hr)
  have HO := Lib.hid (fun W (hr : RZ W b g l0 k) => openS_any W hr)
  have HCl := Lib.hid (fun W (hr : RZ W b g l0 k) => closeS_any W hr)
  have HNm := Lib.hid (fun W (hr : RZ W b g l0 k) => nameZ_any b g k l0 W hr)
  have hlen := h.len
  have hk64 : (k : Int) < 1099511627776 := by omega
  have HK := Lib.hid hk
  have HL : Hid (k + 4 ≤ l0.length) := Lib.hid (by
    have h3 : at_ (l0.drop k) 3 = 45 := by unfold openAt at ho; simp only [Bool.and_eq_true, beq_iff_eq] at ho; exact ho.2
    have := lt_of_at (l0 := l0) (k := k) (n := 3) (by rw [h3]; decide)
    omega)
  rw [ho] at HO
  rw [hn] at HNu
  clear ho hn HCl HNm
  rw [hw] at HW
  generalize at_ (l0.drop k) 0 = x at *
  generalize at_ (l0.drop k) 1 = y at *
  generalize escAt (l0.drop k) 1 = u at *
  generalize nameC y = p at *
  have b34 : (x == 34) = false := by rw [beq_eq_false_iff_ne]; exact fun e => hq (.inl e)
  have b39 : (x == 39) = false := by rw [beq_eq_false_iff_ne]; exact fun e => hq (.inr e)
  clear h hw hq hk
  go_enter Tryz.func24, Tryz.ntmps24
  go_upto_region 8 with (first
    | (go_at_call_of 23 (Value.int .i64 0); refine (HS.out _ HA.out.moved.rest).mono ?_; rintro e w1 ⟨rfl, hb⟩; replace HA := Lib.hid (HA.out.below hb); clear hb)
    | (go_at_call 46; refine (HW.out _).mono ?_; rintro e w2 ⟨rfl, rfl⟩))
  clear b34 b39
  go_cut [3, 35] (fun v c wd => v = .int .i32 x ∧ c = .bool false ∧ Hid (ResZ w b g l0 k wd))
  case first =>
    by_cases h35 : x = 35
    · subst h35
      obtain ⟨rfl, rfl⟩ : p = false ∧ u = false := by
        have hpu : ¬ (p || u) = true := fun e => hh ⟨rfl, e⟩
        cases p <;> cases u <;> simp at hpu ⊢
      clear hh
      go_wp2_with (first
        | (go_at_call_of 23 (Value.int .i64 1); refine (HS1.out _ HA.out.moved.rest).mono ?_; rintro e w1 ⟨rfl, hb⟩; replace HA := Lib.hid (HA.out.below hb); clear hb)
        | (go_at_call 48; refine (HN.out _).mono ?_; rintro e w2 ⟨rfl, rfl⟩)
        | (go_at_call 49; refine (HE.out _ HA.out.moved.rest).mono ?_; rintro e w1 ⟨rfl, hb⟩; replace HA := Lib.hid (HA.out.below hb); clear hb))
      go_meet
      exact ⟨rfl, rfl, HA⟩
    · have b35 : (x == 35) = false := by rw [beq_eq_false_iff_ne]; exact h35
      clear hh
      go_wp2_with (fail)
      go_meet
      exact ⟨rfl, rfl, HA⟩
  case rest =>
  clear HA hh HS HS1 HW HN HE
  obtain ⟨rfl, rfl, HA⟩ := hcut
  go_wp2_with (first
    | (go_at_call 52; refine (HNu.out _ HA.out.moved.rest).mono ?_; rintro e w1 ⟨rfl, hb⟩; replace HA := Lib.hid (HA.out.below hb); clear hb)
    | (go_at_call 45; refine (HO.out _ HA.out.moved.rest).mono ?_; clear HO; rintro e w1 ⟨rfl, hb⟩; replace HA := Lib.hid (HA.out.below hb); clear hb; obtain ⟨⟨c0, c1, c2, c3⟩, f0, f1, f2, f3⟩ := froz4 HA.out.res; have hlt := HA.out.lt; have hne1 : ¬ b = w.heap.size := (by omega); have hne2 : ¬ w.heap.size = b := (by omega); obtain ⟨_, _, _, r1, rf1, _⟩ := HA.out.moved.rest.parts))
  refine (HA.out.move (j := k + 4) (i := (k : Int) + 4) (by have := HL.out; omega) (by omega)).end_ ?_ ?_ ?_ (by omega) ?_ <;> (first | rfl | exact (List.drop_drop ..).symm)

set_option maxRecDepth 100000 in
set_option maxHeartbeats 8000000 in
theorem oneZ_close (b g k : Nat) (l0 : Chars) (w : World) (h : RZ w b g l0 k) (h20 : l0.length ≤ 20000) (hk : k < l0.length) (hw : isW (at_ (l0.drop k) 0) = false) (hq : ¬ (at_ (l0.drop k) 0 = 34 ∨ at_ (l0.drop k) 0 = 39)) (hh : ¬ (at_ (l0.drop k) 0 = 35 ∧ (nameC (at_ (l0.drop k) 1) || escAt (l0.drop k) 1) = true)) (hn : numAt (l0.drop k) = false) (ho : openAt (l0.drop k) = false) (hc : closeAt (l0.drop k) = true) : OneZ b g k l0 w (⟨14, [], [], false⟩, (l0.drop k).drop 3) := by
  unfold OneZ
  have HA := Lib.hid (ResZ.start h)
  have HS := Lib.hid (fun W (hr : RZ W b g l0 k) => see_res 0 (by omega) W hr)
  have HS1 := Lib.hid (fun W (hr : RZ W b g l0 k) => see_res 1 (by omega) W hr)
  have HW := Lib.hid (refWhite_any (at_ (l0.drop k) 0))
  have HN := Lib.hid (refNames_any (at_ (l0.drop k) 1))
  have HE := Lib.hid (fun W (hr : RZ W b g l0 k) => escZ_any b g k 1 l0 W hr (by omega))
  have HNu := Lib.hid (fun W (hr : RZ W b g l0 k) => numZ_any b g k l0 W hr)
  have HO := Lib.hid (fun W (hr : RZ W b g l0 k) => openS_any W hr)
  have HCl := Lib.hid (fun W (hr : RZ W b g l0 k) => closeS_any W hr)
  have HNm := Lib.hid (fun W (hr : RZ W b g l0 k) => nameZ_any b g k l0 W hr)
  have hlen := h.len
  have hk64 : (k : Int) < 1099511627776 := by omega
  have HK := Lib.hid hk
  have HL : Hid (k + 3 ≤ l0.length) := Lib.hid (by
    have h3 : at_ (l0.drop k) 2 = 62 := by unfold closeAt at hc; simp only [Bool.and_eq_true, beq_iff_eq] at hc; exact hc.2
    have := lt_of_at (l0 := l0) (k := k) (n := 2) (by rw [h3]; decide)
    omega)
  rw [ho] at HO
  rw [hn] at HNu
  rw [hc] at HCl
  clear ho hn hc HNm
  rw [hw] at HW
  generalize at_ (l0.drop k) 0 = x at *
  generalize at_ (l0.drop k) 1 = y at *
  generalize escAt (l0.drop k) 1 = u at *
  generalize nameC y = p at *
  have b34 : (x == 34) = false := by rw [beq_eq_false_iff_ne]; exact fun e => hq (.inl e)
  have b39 : (x == 39) = false := by rw [beq_eq_false_iff_ne]; exact fun e => hq (.inr e)
  clear h hw hq hk
  go_enter Tryz.func24, Tryz.ntmps24
  go_upto_region 8 with (first
    | (go_at_call_of 23 (Value.int .i64 0); refine (HS.out _ HA.out.moved.rest).mono ?_; rintro e w1 ⟨rfl, hb⟩; replace HA := Lib.hid (HA.out.below hb); clear hb)
    | (go_at_call 46; refine (HW.out _).mono ?_; rintro e w2 ⟨rfl, rfl⟩))
  clear b34 b39
  go_cut [3, 35] (fun v c wd => v = .int .i32 x ∧ c = .bool false ∧ Hid (ResZ w b g l0 k wd))
  case first =>
    by_cases h35 : x = 35
    · subst h35
      obtain ⟨rfl, rfl⟩ : p = false ∧ u = false := by
        have hpu : ¬ (p || u) = true := fun e => hh ⟨rfl, e⟩
        cases p <;> cases u <;> simp at hpu ⊢
      clear hh
      go_wp2_with (first
        | (go_at_call_of 23 (Value.int .i64 1); refine (HS1.out _ HA.out.moved.rest).mono ?_; rintro e w1 ⟨rfl, hb⟩; replace HA := Lib.hid (HA.out.below hb); clear hb)
        | (go_at_call 48; refine (HN.out _).mono ?_; rintro e w2 ⟨rfl, rfl⟩)
        | (go_at_call 49; refine (HE.out _ HA.out.moved.rest).mono ?_; rintro e w1 ⟨rfl, hb⟩; replace HA := Lib.hid (HA.out.below hb); clear hb))
      go_meet
      exact ⟨rfl, rfl, HA⟩
    · have b35 : (x == 35) = false := by rw [beq_eq_false_iff_ne]; exact h35
      clear hh
      go_wp2_with (fail)
      go_meet
      exact ⟨rfl, rfl, HA⟩
  case rest =>
  clear HA hh HS HS1 HW HN HE
  obtain ⟨rfl, rfl, HA⟩ := hcut
  go_wp2_with (first
    | (go_at_call 52; refine (HNu.out _ HA.out.moved.rest).mono ?_; rintro e w1 ⟨rfl, hb⟩; replace HA := Lib.hid (HA.out.below hb); clear hb)
    | (go_at_call 45; refine (HO.out _ HA.out.moved.rest).mono ?_; clear HO; rintro e w1 ⟨rfl, hb⟩; replace HA := Lib.hid (HA.out.below hb); clear hb)
    | (go_at_call 45; refine (HCl.out _ HA.out.moved.rest).mono ?_; clear HCl; rintro e w1 ⟨rfl, hb⟩; replace HA := Lib.hid (HA.out.below hb); clear hb; obtain ⟨⟨c0, c1, c2, c3⟩, f0, f1, f2, f3⟩ := froz4 HA.out.res; have hlt := HA.out.lt; have hne1 : ¬ b = w.heap.size := (by omega); have hne2 : ¬ w.heap.size = b := (by omega); obtain ⟨_, _, _, r1, rf1, _⟩ := HA.out.moved.rest.parts))
  refine (HA.out.move (j := k + 3) (i := (k : Int) + 3) (by have := HL.out; omega) (by omega)).end_ ?_ ?_ ?_ (by omega) ?_ <;> (first | rfl | exact (List.drop_drop ..).symm)

set_option maxRecDepth 100000 in
set_option maxHeartbeats 8000000 in
theorem oneZ_at (b g k : Nat) (l0 : Chars) (w : World) (h : RZ w b g l0 k) (h20 : l0.length ≤ 20000) (hk : k < l0.length) (hw : isW (at_ (l0.drop k) 0) = false) (hq : ¬ (at_ (l0.drop k) 0 = 34 ∨ at_ (l0.drop k) 0 = 39)) (hh : ¬ (at_ (l0.drop k) 0 = 35 ∧ (nameC (at_ (l0.drop k) 1) || escAt (l0.drop k) 1) = true)) (hn : numAt (l0.drop k) = false) (ho : openAt (l0.drop k) = false) (hc : closeAt (l0.drop k) = false) (hm : nameAt (l0.drop k) 0 = false) (hat : at_ (l0.drop k) 0 = 64 ∧ nameAt (l0.drop k) 1 = true) : OneZ b g k l0 w (atT (l0.drop k)) := by
  unfold OneZ
  have HA := Lib.hid (ResZ.start h)
  have HS := Lib.hid (fun W (hr : RZ W b g l0 k) => see_res 0 (by omega) W hr)
  have HS1 := Lib.hid (fun W (hr : RZ W b g l0 k) => see_res 1 (by omega) W hr)
  have HW := Lib.hid (refWhite_any (at_ (l0.drop k) 0))
  have HN := Lib.hid (refNames_any (at_ (l0.drop k) 1))
  have HE := Lib.hid (fun W (hr : RZ W b g l0 k) => escZ_any b g k 1 l0 W hr (by omega))
  have HNu := Lib.hid (fun W (hr : RZ W b g l0 k) => numZ_any b g k l0 W hr)
  have HO := Lib.hid (fun W (hr : RZ W b g l0 k) => openS_any W hr)
  have HCl := Lib.hid (fun W (hr : RZ W b g l0 k) => closeS_any W hr)
  have HNm := Lib.hid (fun W (hr : RZ W b g l0 k) => nameZ_any b g k l0 W hr)
  have hlen := h.len
  have hk64 : (k : Int) < 1099511627776 := by omega
  have HK := Lib.hid hk
  have hna : nameAt (l0.drop (k + 1)) 0 = true := by
    rw [nameAt_next]; exact hat.2
  have HNm1 := Lib.hid (fun W (hr : RZ W b g l0 (k + 1)) => nameZ_any b g (k + 1) l0 W hr)
  have HTn := Lib.hid (fun W (hr : RZ W b g l0 (k + 1)) => takeNameZ_any b g (k + 1) l0 W hr h20)
  rw [hna] at HNm1
  unfold atT
  rw [List.drop_drop]
  obtain ⟨⟨nv, nr⟩, hnl⟩ : ∃ x, nameL (l0.drop (k + 1)) = x := ⟨_, rfl⟩
  rw [hnl] at HTn ⊢
  simp only at HTn ⊢
  rw [ho] at HO
  rw [hn] at HNu
  rw [hc] at HCl
  rw [hm] at HNm
  have H64 := Lib.hid hat.1
  clear ho hn hc hm hat hna hnl
  rw [hw] at HW
  generalize at_ (l0.drop k) 0 = x at *
  generalize at_ (l0.drop k) 1 = y at *
  generalize escAt (l0.drop k) 1 = u at *
  generalize nameC y = p at *
  have b34 : (x == 34) = false := by rw [beq_eq_false_iff_ne]; exact fun e => hq (.inl e)
  have b39 : (x == 39) = false := by rw [beq_eq_false_iff_ne]; exact fun e => hq (.inr e)
  clear h hw hq hk
  go_enter Tryz.func24, Tryz.ntmps24
  go_upto_region 8 with (first
    | (go_at_call_of 23 (Value.int .i64 0); refine (HS.out _ HA.out.moved.rest).mono ?_; rintro e w1 ⟨rfl, hb⟩; replace HA := Lib.hid (HA.out.below hb); clear hb)
    | (go_at_call 46; refine (HW.out _).mono ?_; rintro e w2 ⟨rfl, rfl⟩))
  clear b34 b39
  go_cut [3, 35] (fun v c wd => v = .int .i32 x ∧ c = .bool false ∧ Hid (ResZ w b g l0 k wd))
  case first =>
    by_cases h35 : x = 35
    · subst h35
      obtain ⟨rfl, rfl⟩ : p = false ∧ u = false := by
        have hpu : ¬ (p || u) = true := fun e => hh ⟨rfl, e⟩
        cases p <;> cases u <;> simp at hpu ⊢
      clear hh
      go_wp2_with (first
        | (go_at_call_of 23 (Value.int .i64 1); refine (HS1.out _ HA.out.moved.rest).mono ?_; rintro e w1 ⟨rfl, hb⟩; replace HA := Lib.hid (HA.out.below hb); clear hb)
        | (go_at_call 48; refine (HN.out _).mono ?_; rintro e w2 ⟨rfl, rfl⟩)
        | (go_at_call 49; refine (HE.out _ HA.out.moved.rest).mono ?_; rintro e w1 ⟨rfl, hb⟩; replace HA := Lib.hid (HA.out.below hb); clear hb))
      go_meet
      exact ⟨rfl, rfl, HA⟩
    · have b35 : (x == 35) = false := by rw [beq_eq_false_iff_ne]; exact h35
      clear hh
      go_wp2_with (fail)
      go_meet
      exact ⟨rfl, rfl, HA⟩
  case rest =>
  clear HA hh HS HS1 HW HN HE
  obtain ⟨rfl, rfl, HA⟩ := hcut
  obtain rfl : x = 64 := H64.out
  go_wp2_with (first
    | (go_at_call 52; refine (HNu.out _ HA.out.moved.rest).mono ?_; rintro e w1 ⟨rfl, hb⟩; replace HA := Lib.hid (HA.out.below hb); clear hb)
    | (go_at_call 45; refine (HO.out _ HA.out.moved.rest).mono ?_; clear HO; rintro e w1 ⟨rfl, hb⟩; replace HA := Lib.hid (HA.out.below hb); clear hb)
    | (go_at_call 45; refine (HCl.out _ HA.out.moved.rest).mono ?_; clear HCl; rintro e w1 ⟨rfl, hb⟩; replace HA := Lib.hid (HA.out.below hb); clear hb)
    | (go_at_call 50; refine (HNm.out _ HA.out.moved.rest).mono ?_; clear HNm; rintro e w1 ⟨rfl, hb⟩; replace HA := Lib.hid (HA.out.below hb); obtain ⟨_, _, _, r1, rf1, _⟩ := HA.out.moved.rest.parts; clear hb)
    | (go_at_call 50; have HA1 := Lib.hid (HA.out.move (j := k + 1) (i := (k : Int) + 1) (by have := HK.out; omega) (by omega)); refine (HNm1.out _ HA1.out.moved.rest).mono ?_; rintro e w4 ⟨rfl, hb⟩; have HA2 := Lib.hid (HA1.out.below hb); clear hb)
    | (go_at_call 51; refine (HTn.out _ HA2.out.moved.rest).mono ?_; rintro e w3 ⟨rfl, j, hj, hd, hm⟩; have HA3 := Lib.hid (HA2.out.on hm); have HJ := Lib.hid hj; have HDr := Lib.hid hd; obtain ⟨⟨c0, c1, c2, c3⟩, f0, f1, f2, f3⟩ := froz4 HA3.out.res; clear hm hj hd))
  refine HA3.out.end_ ?_ ?_ ?_ (by have := HJ.out; omega) HDr.out <;> rfl
end Go.Proofs.YtmhdocgoeahbdaaGreatDoor
namespace Go.Proofs.YtmhdocgoeahbdaaGreatDoor
open Go.RowKit Go.RunKit Go.UtfKit Go.Lib Go.CssKit
theorem signs_at {s : ByteArray} (hs : s = ⟨#[44, 58, 59, 40, 41, 91, 93, 123, 125]⟩) (i : Nat) (h : i < s.size) : signsC[i]? = some ((s[i].toNat : Nat) : Int) := by
  subst hs
  have hi9 : i < 9 := h
  match i, h, hi9 with
  | 0, _, _ => rfl
  | 1, _, _ => rfl
  | 2, _, _ => rfl
  | 3, _, _ => rfl
  | 4, _, _ => rfl
  | 5, _, _ => rfl
  | 6, _, _ => rfl
  | 7, _, _ => rfl
  | 8, _, _ => rfl
  | n + 9, _, h => omega

set_option maxRecDepth 100000 in
set_option maxHeartbeats 8000000 in
theorem oneZ_sign (b g k : Nat) (l0 : Chars) (w : World) (h : RZ w b g l0 k) (h20 : l0.length ≤ 20000) (hk : k < l0.length) (hw : isW (at_ (l0.drop k) 0) = false) (hq : ¬ (at_ (l0.drop k) 0 = 34 ∨ at_ (l0.drop k) 0 = 39)) (hh : ¬ (at_ (l0.drop k) 0 = 35 ∧ (nameC (at_ (l0.drop k) 1) || escAt (l0.drop k) 1) = true)) (hn : numAt (l0.drop k) = false) (ho : openAt (l0.drop k) = false) (hc : closeAt (l0.drop k) = false) (hm : nameAt (l0.drop k) 0 = false) (hat : ¬ (at_ (l0.drop k) 0 = 64 ∧ nameAt (l0.drop k) 1 = true)) : OneZ b g k l0 w (if signsC.contains (at_ (l0.drop k) 0) = true then (⟨11, bytesC ((l0.drop k).take 1), [], false⟩, (l0.drop k).drop 1) else (⟨12, bytesC ((l0.drop k).take 1), [], false⟩, (l0.drop k).drop 1)) := by
  unfold OneZ
  have HA := Lib.hid (ResZ.start h)
  have HS := Lib.hid (fun W (hr : RZ W b g l0 k) => see_res 0 (by omega) W hr)
  have HS1 := Lib.hid (fun W (hr : RZ W b g l0 k) => see_res 1 (by omega) W hr)
  have HW := Lib.hid (refWhite_any (at_ (l0.drop k) 0))
  have HN := Lib.hid (refNames_any (at_ (l0.drop k) 1))
  have HE := Lib.hid (fun W (hr : RZ W b g l0 k) => escZ_any b g k 1 l0 W hr (by omega))
  have HNu := Lib.hid (fun W (hr : RZ W b g l0 k) => numZ_any b g k l0 W hr)
  have HO := Lib.hid (fun W (hr : RZ W b g l0 k) => openS_any W hr)
  have HCl := Lib.hid (fun W (hr : RZ W b g l0 k) => closeS_any W hr)
  have HNm := Lib.hid (fun W (hr : RZ W b g l0 k) => nameZ_any b g k l0 W hr)
  have hlen := h.len
  have hk64 : (k : Int) < 1099511627776 := by omega
  have HK := Lib.hid hk
  have hna : nameAt (l0.drop (k + 1)) 0 = nameAt (l0.drop k) 1 := nameAt_next l0 k
  have HNm1 := Lib.hid (fun W (hr : RZ W b g l0 (k + 1)) => nameZ_any b g (k + 1) l0 W hr)
  rw [hna] at HNm1
  have hok := h.char (n := 0) (by omega)
  have hle : (l0.drop k).take 1 = [at_ (l0.drop k) 0] := by
    rw [List.drop_eq_getElem_cons hk, at_cons]; rfl
  rw [hle, List.drop_drop]
  rw [ho] at HO
  rw [hn] at HNu
  rw [hc] at HCl
  rw [hm] at HNm
  generalize nameAt (l0.drop k) 1 = na at *
  have HAt := Lib.hid hat
  rw [show (if signsC.contains (at_ (l0.drop k) 0) = true then ((⟨11, bytesC [at_ (l0.drop k) 0], [], false⟩ : CT), l0.drop (k + 1)) else (⟨12, bytesC [at_ (l0.drop k) 0], [], false⟩, l0.drop (k + 1))) = (⟨if signsC.contains (at_ (l0.drop k) 0) = true then 11 else 12, bytesC [at_ (l0.drop k) 0], [], false⟩, l0.drop (k + 1)) by split <;> rfl]
  obtain ⟨KD, hKD⟩ : ∃ n : Nat, (if signsC.contains (at_ (l0.drop k) 0) = true then 11 else 12) = n := ⟨_, rfl⟩
  rw [hKD]
  have HKD := Lib.hid hKD
  clear ho hn hc hm hna hle hat hKD
  rw [hw] at HW
  generalize at_ (l0.drop k) 0 = x at *
  generalize at_ (l0.drop k) 1 = y at *
  generalize escAt (l0.drop k) 1 = u at *
  generalize nameC y = p at *
  have b34 : (x == 34) = false := by rw [beq_eq_false_iff_ne]; exact fun e => hq (.inl e)
  have b39 : (x == 39) = false := by rw [beq_eq_false_iff_ne]; exact fun e => hq (.inr e)
  clear h hw hq hk
  go_enter Tryz.func24, Tryz.ntmps24
  go_upto_region 8 with (first
    | (go_at_call_of 23 (Value.int .i64 0); refine (HS.out _ HA.out.moved.rest).mono ?_; rintro e w1 ⟨rfl, hb⟩; replace HA := Lib.hid (HA.out.below hb); clear hb)
    | (go_at_call 46; refine (HW.out _).mono ?_; rintro e w2 ⟨rfl, rfl⟩))
  clear b34 b39
  go_cut [3, 35] (fun v c wd => v = .int .i32 x ∧ c = .bool false ∧ Hid (ResZ w b g l0 k wd))
  case first =>
    by_cases h35 : x = 35
    · subst h35
      obtain ⟨rfl, rfl⟩ : p = false ∧ u = false := by
        have hpu : ¬ (p || u) = true := fun e => hh ⟨rfl, e⟩
        cases p <;> cases u <;> simp at hpu ⊢
      clear hh
      go_wp2_with (first
        | (go_at_call_of 23 (Value.int .i64 1); refine (HS1.out _ HA.out.moved.rest).mono ?_; rintro e w1 ⟨rfl, hb⟩; replace HA := Lib.hid (HA.out.below hb); clear hb)
        | (go_at_call 48; refine (HN.out _).mono ?_; rintro e w2 ⟨rfl, rfl⟩)
        | (go_at_call 49; refine (HE.out _ HA.out.moved.rest).mono ?_; rintro e w1 ⟨rfl, hb⟩; replace HA := Lib.hid (HA.out.below hb); clear hb))
      go_meet
      exact ⟨rfl, rfl, HA⟩
    · have b35 : (x == 35) = false := by rw [beq_eq_false_iff_ne]; exact h35
      clear hh
      go_wp2_with (fail)
      go_meet
      exact ⟨rfl, rfl, HA⟩
  case rest =>
  clear HA hh HS HS1 HW HN HE
  obtain ⟨rfl, rfl, HA⟩ := hcut
  have hat := HAt.out
  unfold okC at hok
  have HX : Hid (0 ≤ x ∧ x ≤ 1114111) := Lib.hid (by omega)
  have HSt := Lib.hid (fun (W : World) (bx cap : Nat) (hr : U.Reads W (some ⟨bx, 0, none⟩) [x]) => U.refString_any (some ⟨bx, 0, none⟩) cap [x] W (fun z hz => by have := HX.out; simp only [List.mem_singleton] at hz; omega) hr (by simp))
  clear hok HAt
  go_upto_region 34 with (first
    | (go_at_call 52; refine (HNu.out _ HA.out.moved.rest).mono ?_; rintro e w1 ⟨rfl, hb⟩; replace HA := Lib.hid (HA.out.below hb); clear hb)
    | (go_at_call 45; refine (HO.out _ HA.out.moved.rest).mono ?_; clear HO; rintro e w1 ⟨rfl, hb⟩; replace HA := Lib.hid (HA.out.below hb); clear hb)
    | (go_at_call 45; refine (HCl.out _ HA.out.moved.rest).mono ?_; clear HCl; rintro e w1 ⟨rfl, hb⟩; replace HA := Lib.hid (HA.out.below hb); clear hb)
    | (go_at_call 50; refine (HNm.out _ HA.out.moved.rest).mono ?_; rintro e w1 ⟨rfl, hb⟩; replace HA := Lib.hid (HA.out.below hb); clear hb; obtain ⟨_, _, _, r1, rf1, _⟩ := HA.out.moved.rest.parts))
  have HA1 := Lib.hid (HA.out.move (j := k + 1) (i := (k : Int) + 1) (by have := HK.out; omega) (by omega))
  clear HA
  go_cut [3, 138] (fun v c wd => v = .int .i32 x ∧ c = .bool false ∧ Hid (ResZ w b g l0 (k + 1) wd))
  case first =>
    by_cases h64 : x = 64
    · subst h64
      obtain rfl : na = false := by
        have : ¬ na = true := fun e => hat ⟨rfl, e⟩
        simpa using this
      clear hat
      go_wp2_with (go_at_call 50; refine (HNm1.out _ HA1.out.moved.rest).mono ?_; rintro e w1 ⟨rfl, hb⟩; replace HA1 := Lib.hid (HA1.out.below hb); clear hb)
      go_meet
      exact ⟨rfl, rfl, HA1⟩
    · have b64 : (x == 64) = false := by rw [beq_eq_false_iff_ne]; exact h64
      clear hat
      go_wp2_with (fail)
      go_meet
      exact ⟨rfl, rfl, HA1⟩
  case rest =>
  clear HA1 hat
  obtain ⟨rfl, rfl, HA⟩ := hcut
  go_upto_region 37 with (go_at_call 54; go_loud (
     refine (HSt.out _ _ _ (fun j z hz => ?_)).mono ?_
     · cases j with
       | zero => exact ⟨_, rfl, by simpa [go_sem] using hz⟩
       | succ j => simp at hz
     rintro e w3 ⟨rfl, hb⟩
     have HA1 := Lib.hid ((HA.out.below ((Below.refl _ _).alloc (Nat.le_refl _) (.cells #[.int .i32 x] 21))).below hb)
     have HB1 := Lib.hid (heap_alloc_new w3 (.cells #[.int .u8 12, .string ⟨(bytesC [x]).toArray⟩, .string ⟨#[]⟩, .bool false] TRt))
     have HA2 := Lib.hid (HA1.out.below ((Below.refl _ _).alloc (Nat.le_refl _) (.cells #[.int .u8 12, .string ⟨(bytesC [x]).toArray⟩, .string ⟨#[]⟩, .bool false] TRt)))
     have HLt := Lib.hid (Array.getElem?_eq_some_iff.1 HA1.out.res).1
     clear hb))
  clear HSt HA HA1
  have HA3 : Hid (ResZ w b g l0 (k + 1) (w3.alloc (.cells #[.int .u8 12, .string ⟨(U.textOf [x]).toArray⟩, .string ⟨#[]⟩, .bool false] TRt))) := HA2
  have HB3 : Hid ((w3.alloc (.cells #[.int .u8 12, .string ⟨(U.textOf [x]).toArray⟩, .string ⟨#[]⟩, .bool false] TRt)).heap[w3.heap.size]? = some (.cells #[.int .u8 12, .string ⟨(bytesC [x]).toArray⟩, .string ⟨#[]⟩, .bool false] TRt (0, 0))) := HB1
  clear HA2 HB1
  generalize w3.alloc (.cells #[.int .u8 12, .string ⟨(U.textOf [x]).toArray⟩, .string ⟨#[]⟩, .bool false] TRt) = W0 at *
  generalize w3.heap.size = t7 at *
  have K0 : Hid ((12 : Nat) = if (signsC.take 0).contains x = true then 11 else 12) := Lib.hid rfl
  go_cut [8] (fun v wd => ∃ s : ByteArray, v = .string s ∧ Hid (s = ⟨#[44, 58, 59, 40, 41, 91, 93, 123, 125]⟩) ∧ Hid (s.size = 9) ∧ wd = W0)
  case first =>
    go_wp2
    go_meet
    exact ⟨_, rfl, Lib.hid rfl, Lib.hid rfl, rfl⟩
  case rest =>
  obtain ⟨s, rfl, HS, HS9, rfl⟩ := hcut
  go_wp2
  go_loopw [9] (fun v wr => ∃ i kd : Nat, v = .int .i64 ((i : Nat) : Int) ∧ i ≤ s.size ∧ Hid (kd = if (signsC.take i).contains x = true then 11 else 12) ∧ Hid (wr.heap[t7]? = some (.cells #[.int .u8 ((kd : Nat) : Int), .string ⟨(bytesC [x]).toArray⟩, .string ⟨#[]⟩, .bool false] TRt (0, 0))) ∧ Hid (ResZ w b g l0 (k + 1) wr)) (fun v _ => s.size - (RowKit.intOf v).toNat)
  case atStart => exact ⟨0, 12, rfl, Nat.zero_le _, K0, HB3, HA3⟩
  case round =>
    clear K0 HB3 HA3
    obtain ⟨i, kd, rfl, hi, HD, HB, HA⟩ := hrel
    obtain ⟨⟨d0, d1, d2, d3⟩, e0, e1, e2, e3⟩ := froz4 HB.out
    obtain ⟨⟨c0, c1, c2, c3⟩, f0, f1, f2, f3⟩ := froz4 HA.out.res
    have hlt := HLt.out
    have hne1 : ¬ t7 = w.heap.size := (by omega)
    have hne2 : ¬ w.heap.size = t7 := (by omega)
    by_cases hil : i < s.size
    · have hilI : (i : Int) < s.size := by omega
      have hi64 : (i : Int) < 1000 := by have := HS9.out; omega
      obtain ⟨c, hc⟩ : ∃ c, s[i] = c := ⟨_, rfl⟩
      have h256 := c.toNat_lt
      have hwr : wrap32 ((s[i].toNat : Nat) : Int) = ((c.toNat : Nat) : Int) := by rw [hc]; unfold wrap32; omega
      have hsg : signsC[i]? = some ((c.toNat : Nat) : Int) := by
        rw [← hc]
        exact signs_at HS.out i hil
      have htk : signsC.take (i + 1) = signsC.take i ++ [((c.toNat : Nat) : Int)] := by
        rw [List.take_add_one, hsg]; rfl
      by_cases hx : ((c.toNat : Nat) : Int) = x
      · have HE : Hid (11 = if (signsC.take (i + 1)).contains x = true then 11 else 12) := Lib.hid (by rw [htk, ← hx]; simp)
        have b1 : (wrap32 ((s[i].toNat : Nat) : Int) == x) = true := by rw [hwr, hx]; simp
        have HB2 := Lib.hid (heap_setCell_same _ t7 0 _ _ (.int .u8 11) HB.out)
        have HA2 := Lib.hid (HA.out.cell (g1 := t7) (i := 0) (v := .int .u8 11) hlt)
        clear hx hwr hc h256 hsg htk HD HB HA
        go_wp2
        have hi9 := HS9.out
        exact ⟨⟨i + 1, 11, by go_num, by omega, HE, HB2, HA2⟩, by simp [RowKit.intOf]; omega⟩
      · have HE : Hid (kd = if (signsC.take (i + 1)).contains x = true then 11 else 12) := Lib.hid (by
          rw [HD.out, htk]
          have : (signsC.take i ++ [((c.toNat : Nat) : Int)]).contains x = (signsC.take i).contains x := by
            simp [Ne.symm hx]
          rw [this])
        have b1 : (wrap32 ((s[i].toNat : Nat) : Int) == x) = false := by rw [hwr, beq_eq_false_iff_ne]; exact hx
        clear hx hwr hc h256 hsg htk HD
        go_wp2
        have hi9 := HS9.out
        exact ⟨⟨i + 1, kd, by go_num, by omega, HE, HB, HA⟩, by simp [RowKit.intOf]; omega⟩
    · obtain rfl : i = s.size := by omega
      have hkd := HD.out
      rw [HS9.out, show signsC.take 9 = signsC from rfl, HKD.out] at hkd
      subst hkd
      go_wp2
      refine HA.out.end_ ?_ ?_ ?_ (by omega) rfl <;> rfl
end Go.Proofs.YtmhdocgoeahbdaaGreatDoor
namespace Go.Proofs.YtmhdocgoeahbdaaGreatDoor
open Go.RowKit Go.RunKit Go.UtfKit Go.Lib Go.CssKit

def OwnZ (w : World) (base : Nat) (v : Value) (l : List CT) : Prop := w.ownsRow base TRt 4 v l.length (tokCells l)
theorem OwnZ.nil (w : World) (base : Nat) : OwnZ w base (.slice none 0 0) [] := World.ownsRow_nil _ _ _ _
theorem OwnZ.moved {wr wr' : World} {b base : Nat} {v : Value} {l : List CT} (h : OwnZ wr base v l) (hm : wr.grownBy wr' (some b)) (hb : b < base) : OwnZ wr' base v l :=
  World.ownsRow.kept h hm (.inr fun e => by have := (World.ownsRow.lt h _ e).1; omega)
theorem OwnZ.below {wr wr' : World} {base : Nat} {v : Value} {l : List CT} (h : OwnZ wr base v l) (hb : Below wr.heap.size wr wr') : OwnZ wr' base v l :=
  World.ownsRow.kept h (qg_below hb none) (by cases v.ownBlock <;> simp)
theorem Tryz.infoTrtT : (Tryz.prog.info? TRt).map (fun i => (i.zero, i.size, i.bytes)) = some (some (.agg #[.int .u8 0, .string ⟨#[]⟩, .string ⟨#[]⟩, .bool false]), 4, 48) := by kernel_rfl
theorem OwnZ.see {w : World} {base : Nat} {a : Option Addr} {cap : Nat} {ts : List CT} (h : OwnZ w base (.slice a ts.length cap) ts) : TksSee w a ts := by
  intro W' hb k x hx
  have hk := (List.getElem?_eq_some_iff.1 hx).1
  rcases h.2 with ⟨e, e2⟩ | ⟨g, c, cur, e, _⟩
  · omega
  · simp only [Value.slice.injEq] at e
    obtain ⟨rfl, _, rfl⟩ := e
    refine ⟨g, rfl, ?_⟩
    have hc : ∀ j v, j < 4 → (tokC x)[j]? = some v → W'.cell? ⟨g, k * 4 + j, none⟩ = some v := fun j v hj hv => by
      have h2 : w.cell? ⟨g, k * 4 + j, none⟩ = some v := by
        rw [World.ownsRow.cellAt h (k * 4 + j) (by omega), tokCells_at ts k j x hx hj]
        exact hv
      rw [hb.cell (World.block_lt_of_cell? _ _ h2)]
      exact h2
    exact ⟨hc 0 _ (by omega) rfl, hc 1 _ (by omega) rfl, hc 2 _ (by omega) rfl, hc 3 _ (by omega) rfl⟩

set_option maxRecDepth 100000 in
set_option maxHeartbeats 4000000 in
theorem plain_any (ao : Option Addr) (cap : Nat) (ts : List CT) (h32 : ts.length ≤ 4294967296) (w : World) (ha : TksSee w ao ts) :
    Calls Tryz.prog 14 #[.slice ao ts.length cap] w fun e w' => ∃ a cap2, e = .returned (.slice a ts.length cap2) ∧ TksSee w' a ts ∧ Below w.heap.size w w' := by
  have HA := Lib.hid ha
  obtain ⟨i0, hi0, hz0, hz1, hz2⟩ := info_parts Tryz.infoTrtT
  obtain ⟨n, hn⟩ : ∃ n, ts.length = n := ⟨_, rfl⟩
  rw [hn] at h32 ⊢
  have HN := Lib.hid hn
  have T0 : Hid (Below w.heap.size w w ∧ OwnZ w w.heap.size (.slice none 0 0) (ts.take 0)) := Lib.hid ⟨Below.refl _ _, OwnZ.nil _ _⟩
  clear ha hn
  go_enter Tryz.func14, Tryz.ntmps14
  go_big_wp2
  go_loopw [3, 4] (fun v i wr => ∃ (k : Nat) (ao2 : Option Addr) (cap2 : Nat), v = .slice ao2 k cap2 ∧ i = .int .i64 (k : Nat) ∧ k ≤ n ∧ Hid (Below w.heap.size w wr ∧ OwnZ wr w.heap.size (.slice ao2 k cap2) (ts.take k))) (fun _ i _ => n - (RowKit.intOf i).toNat)
  case atStart => exact ⟨0, none, 0, rfl, rfl, Nat.zero_le _, T0⟩
  case round =>
    clear T0
    obtain ⟨k, ao2, cap2, rfl, rfl, hkn, HT⟩ := hrel
    by_cases hlt : k < n
    · have hltI : (k : Int) < n := by omega
      have hk0 : (0 : Int) ≤ k := by omega
      obtain ⟨x, hx⟩ : ∃ x, ts[k]? = some x := ⟨ts[k]'(by rw [HN.out]; exact hlt), by simp [show k < ts.length by rw [HN.out]; exact hlt]⟩
      obtain ⟨g, hg, c0, c1, c2, c3⟩ := HA.out wr HT.out.1 k x hx
      subst hg
      have htk : ts.take (k + 1) = ts.take k ++ [x] := by
        rw [List.take_add_one, hx]; rfl
      have HTk := Lib.hid htk
      have htl : (ts.take k).length = k := by rw [List.length_take, HN.out]; omega
      have hrow := HT.out.2
      unfold OwnZ at hrow
      rw [htl] at hrow
      obtain ⟨kd, vl, un, idb⟩ := x
      simp only at c0 c1 c2 c3
      obtain ⟨vb, hvb⟩ : ∃ vb : ByteArray, (⟨vl.toArray⟩ : ByteArray) = vb := ⟨_, rfl⟩
      obtain ⟨ub, hub⟩ : ∃ ub : ByteArray, (⟨un.toArray⟩ : ByteArray) = ub := ⟨_, rfl⟩
      rw [hvb] at c1
      rw [hub] at c2
      have HVb := Lib.hid hvb
      have HUb := Lib.hid hub
      have b1 : Below wr.heap.size wr (wr.alloc (.cells #[.int .u8 ((kd : Nat) : Int), .string vb, .string ub, .bool idb] TRt)) := (Below.refl _ _).alloc (Nat.le_refl _) _
      have d0 := (b1.cell (World.block_lt_of_cell? _ _ c0)).trans c0
      have d1 := (b1.cell (World.block_lt_of_cell? _ _ c1)).trans c1
      have d2 := (b1.cell (World.block_lt_of_cell? _ _ c2)).trans c2
      have d3 := (b1.cell (World.block_lt_of_cell? _ _ c3)).trans c3
      have HRow := Lib.hid hrow
      have HRow5 := Lib.hid (World.ownsRow.kept hrow (qg_below b1 none) (by cases (Value.slice ao2 k cap2).ownBlock <;> simp))
      have HNews := Lib.hid (heap_alloc_new wr (.cells #[.int .u8 ((kd : Nat) : Int), .string vb, .string ub, .bool idb] TRt))
      have HB1 := Lib.hid b1
      have HLg : Hid (g < w.heap.size) := Lib.hid (by
        obtain ⟨g', hg', cc0, _⟩ := HA.out w (Below.refl _ _) k _ hx
        simp only [Option.some.injEq, Addr.mk.injEq, and_true] at hg'
        have := World.block_lt_of_cell? _ _ cc0
        rw [hg']; exact this)
      clear hvb hub hx htk hrow htl b1
      go_big_wp2
      go_region_held3 (fun w' => w'.cell? ⟨g, k * 4, none⟩ = some (.int .u8 ((kd : Nat) : Int)) ∧ w'.cell? ⟨g, k * 4 + 1, none⟩ = some (.string vb) ∧ w'.cell? ⟨g, k * 4 + 2, none⟩ = some (.string ub) ∧ w'.cell? ⟨g, k * 4 + 3, none⟩ = some (.bool idb))
        (first | exact ⟨c0, c1, c2, c3⟩ | exact ⟨d0, d1, d2, d3⟩ | exact ⟨e0, e1, e2, e3⟩)
        (first
          | (refine step_append_lies _ rfl _ _ 26 rfl w.heap.size TRt i0 _ 4 48 Tryz.underlying26 hi0 hz0 hz1 hz2 rfl (by decide) _ k (tokCells (ts.take k)) rfl HRow5.out ⟨wr.heap.size, 0, none⟩ 1 1 [.int .u8 ((kd : Nat) : Int), .string vb, .string ub, .bool idb] rfl rfl (World.news_of_block HNews.out) (fun u hu => by simp only [List.mem_cons, List.not_mem_nil, or_false] at hu; rcases hu with rfl | rfl | rfl | rfl <;> rfl) (by decide) (by unfold maxLen; omega) (by omega) (Nat.le_trans HT.out.1.size HB1.out.size) _ rfl ?_; intro gq qc W5 hown hgrow _ _; have hgo : ∀ o, (wr.alloc (.cells #[.int .u8 ((kd : Nat) : Int), .string vb, .string ub, .bool idb] TRt)).cell? ⟨g, o, none⟩ = W5.cell? ⟨g, o, none⟩ := (fun o => by unfold World.cell?; rw [hgrow.block g (Nat.lt_of_lt_of_le HLg.out (Nat.le_trans HT.out.1.size HB1.out.size)) (fun e => by have := (World.ownsRow.lt HRow.out _ e.symm).1; have := HLg.out; omega)]; rfl); have e0 := (hgo _).symm.trans d0; have e1 := (hgo _).symm.trans d1; have e2 := (hgo _).symm.trans d2; have e3 := (hgo _).symm.trans d3; have HOwn := Lib.hid hown; have HGr := Lib.hid hgrow; clear hown hgrow hgo))
      have hB6 : Below w.heap.size w W5 := (HT.out.1.trans (HB1.out.drew.mono HT.out.1.size)).grown HGr.out (Nat.le_trans HT.out.1.size HB1.out.size) (fun q hq => (World.ownsRow.lt HRow5.out q hq).1)
      have hrow6 : OwnZ W5 w.heap.size (.slice (some ⟨gq, 0, none⟩) (k + 1) qc) (ts.take (k + 1)) := by
        have e := HOwn.out
        unfold OwnZ
        rw [HTk.out, tokCells_snoc, List.length_append, List.length_take, HN.out, Nat.min_eq_left hkn]
        unfold tokC
        rw [HVb.out, HUb.out]
        exact e
      have HF := Lib.hid (show Below w.heap.size w W5 ∧ OwnZ W5 w.heap.size (.slice (some ⟨gq, 0, none⟩) (k + 1) qc) (ts.take (k + 1)) from ⟨hB6, hrow6⟩)
      clear hB6 hrow6
      go_big_wp2
      exact ⟨⟨k + 1, _, qc, rfl, by simp, by omega, HF⟩, by simp [RowKit.intOf]; omega⟩
    · have hltI : ¬ (k : Int) < n := by omega
      have hkn2 : k = n := by omega
      subst hkn2
      have hfin : OwnZ wr w.heap.size (.slice ao2 k cap2) ts := by
        have := HT.out.2
        rwa [List.take_of_length_le (by rw [HN.out]; exact Nat.le_refl _)] at this
      have HF : Hid (TksSee wr ao2 ts) := Lib.hid (by
        have hh := hfin
        rw [← HN.out] at hh
        exact hh.see)
      clear hfin
      go_big_wp2
      go_ret
      exact ⟨ao2, ⟨cap2, rfl⟩, HF.out, HT.out.1⟩
end Go.Proofs.YtmhdocgoeahbdaaGreatDoor
namespace Go.Proofs.YtmhdocgoeahbdaaGreatDoor
open Go.RowKit Go.RunKit Go.UtfKit Go.Lib Go.CssKit

set_option maxRecDepth 100000 in
set_option maxHeartbeats 8000000 in
theorem oneZ_number (b g k : Nat) (l0 : Chars) (w : World) (h : RZ w b g l0 k) (h20 : l0.length ≤ 20000) (hk : k < l0.length) (hw : isW (at_ (l0.drop k) 0) = false) (hq : ¬ (at_ (l0.drop k) 0 = 34 ∨ at_ (l0.drop k) 0 = 39)) (hh : ¬ (at_ (l0.drop k) 0 = 35 ∧ (nameC (at_ (l0.drop k) 1) || escAt (l0.drop k) 1) = true)) (hn : numAt (l0.drop k) = true) : OneZ b g k l0 w (numberT (l0.drop k)) := by
  unfold OneZ
  have HA := Lib.hid (ResZ.start h)
  have HS := Lib.hid (fun W (hr : RZ W b g l0 k) => see_res 0 (by omega) W hr)
  have HS1 := Lib.hid (fun W (hr : RZ W b g l0 k) => see_res 1 (by omega) W hr)
  have HW := Lib.hid (refWhite_any (at_ (l0.drop k) 0))
  have HN := Lib.hid (refNames_any (at_ (l0.drop k) 1))
  have HE := Lib.hid (fun W (hr : RZ W b g l0 k) => escZ_any b g k 1 l0 W hr (by omega))
  have HNu := Lib.hid (fun W (hr : RZ W b g l0 k) => numZ_any b g k l0 W hr)
  have HO := Lib.hid (fun W (hr : RZ W b g l0 k) => openS_any W hr)
  have HCl := Lib.hid (fun W (hr : RZ W b g l0 k) => closeS_any W hr)
  have HNm := Lib.hid (fun W (hr : RZ W b g l0 k) => nameZ_any b g k l0 W hr)
  have hlen := h.len
  have hk64 : (k : Int) < 1099511627776 := by omega
  have HK := Lib.hid hk
  have HTk := Lib.hid (fun W (hr : RZ W b g l0 k) => takeNumZ_any b g k l0 W hr h20 hn)
  have HNp := Lib.hid (num_pos hn)
  unfold numberT
  rw [List.drop_drop]
  rw [hn] at HNu
  obtain ⟨N, hN⟩ : ∃ n, numN (l0.drop k) = n := ⟨_, rfl⟩
  rw [hN] at HTk HNp ⊢
  generalize bytesC ((l0.drop k).take N) = nb at *
  have HNm2 := Lib.hid (fun W (hr : RZ W b g l0 (k + N)) => nameZ_any b g (k + N) l0 W hr)
  have HS2 := Lib.hid (fun W (hr : RZ W b g l0 (k + N)) => see_res 0 (by omega) W hr)
  have HTn := Lib.hid (fun W (hr : RZ W b g l0 (k + N)) => takeNameZ_any b g (k + N) l0 W hr h20)
  have HPc := Lib.hid (fun (e : at_ (l0.drop (k + N)) 0 = 37) => lt_of_at (l0 := l0) (k := k + N) (n := 0) (by rw [e]; decide))
  obtain ⟨⟨nv, nr⟩, hnl⟩ : ∃ x, nameL (l0.drop (k + N)) = x := ⟨_, rfl⟩
  rw [hnl] at HTn ⊢
  simp only at HTn ⊢
  generalize hna : nameAt (l0.drop (k + N)) 0 = na at *
  generalize hz : at_ (l0.drop (k + N)) 0 = z at *
  obtain ⟨⟨⟨kd, vl, un, idb⟩, L2⟩, hX⟩ : ∃ X : CT × Chars, (if na = true then (⟨10, nb, bytesC nv, false⟩, nr) else if z = 37 then (⟨9, nb, [], false⟩, (l0.drop (k + N)).drop 1) else (⟨8, nb, [], false⟩, l0.drop (k + N))) = X := ⟨_, rfl⟩
  rw [hX]
  have HX := Lib.hid hX
  clear hn hN hnl hna hz HO HCl HNm hX
  rw [hw] at HW
  generalize at_ (l0.drop k) 0 = x at *
  generalize at_ (l0.drop k) 1 = y at *
  generalize escAt (l0.drop k) 1 = u at *
  generalize nameC y = p at *
  have b34 : (x == 34) = false := by rw [beq_eq_false_iff_ne]; exact fun e => hq (.inl e)
  have b39 : (x == 39) = false := by rw [beq_eq_false_iff_ne]; exact fun e => hq (.inr e)
  clear h hw hq hk
  go_enter Tryz.func24, Tryz.ntmps24
  go_upto_region 8 with (first
    | (go_at_call_of 23 (Value.int .i64 0); refine (HS.out _ HA.out.moved.rest).mono ?_; rintro e w1 ⟨rfl, hb⟩; replace HA := Lib.hid (HA.out.below hb); clear hb)
    | (go_at_call 46; refine (HW.out _).mono ?_; rintro e w2 ⟨rfl, rfl⟩))
  clear b34 b39
  go_cut [3, 35] (fun v c wd => v = .int .i32 x ∧ c = .bool false ∧ Hid (ResZ w b g l0 k wd))
  case first =>
    by_cases h35 : x = 35
    · subst h35
      obtain ⟨rfl, rfl⟩ : p = false ∧ u = false := by
        have hpu : ¬ (p || u) = true := fun e => hh ⟨rfl, e⟩
        cases p <;> cases u <;> simp at hpu ⊢
      clear hh
      go_wp2_with (first
        | (go_at_call_of 23 (Value.int .i64 1); refine (HS1.out _ HA.out.moved.rest).mono ?_; rintro e w1 ⟨rfl, hb⟩; replace HA := Lib.hid (HA.out.below hb); clear hb)
        | (go_at_call 48; refine (HN.out _).mono ?_; rintro e w2 ⟨rfl, rfl⟩)
        | (go_at_call 49; refine (HE.out _ HA.out.moved.rest).mono ?_; rintro e w1 ⟨rfl, hb⟩; replace HA := Lib.hid (HA.out.below hb); clear hb))
      go_meet
      exact ⟨rfl, rfl, HA⟩
    · have b35 : (x == 35) = false := by rw [beq_eq_false_iff_ne]; exact h35
      clear hh
      go_wp2_with (fail)
      go_meet
      exact ⟨rfl, rfl, HA⟩
  case rest =>
  clear HA hh HS HS1 HW HN HE
  obtain ⟨rfl, rfl, HA⟩ := hcut
  cases na with
  | true =>
    have hX := HX.out; rw [if_pos rfl] at hX; simp only [Prod.mk.injEq, CT.mk.injEq] at hX; obtain ⟨⟨h1, h2, h3, h4⟩, h5⟩ := hX; clear HX; subst kd; subst vl; subst un; subst idb; subst L2
    clear HS2 HPc
    go_wp2_with (first
      | (go_at_call 52; refine (HNu.out _ HA.out.moved.rest).mono ?_; rintro e w1 ⟨rfl, hb⟩; replace HA := Lib.hid (HA.out.below hb); clear hb)
      | (go_at_call 53; refine (HTk.out _ HA.out.moved.rest).mono ?_; rintro e w3 ⟨rfl, hm⟩; have HA1 := Lib.hid (HA.out.on hm); have hle := HA1.out.moved.rest.le; have hkn64 : ((k + N : Nat) : Int) < 1099511627776 := (by omega); clear hle; have HB1 := Lib.hid (heap_alloc_new w3 (.cells #[.int .u8 8, .string ⟨nb.toArray⟩, .string ⟨#[]⟩, .bool false] TRt)); have hlt := (Array.getElem?_eq_some_iff.1 HA1.out.res).1; have hbl := HA1.out.lt; replace HA := Lib.hid (HA1.out.below ((Below.refl _ _).alloc (Nat.le_refl _) (.cells #[.int .u8 8, .string ⟨nb.toArray⟩, .string ⟨#[]⟩, .bool false] TRt))); have hne1 : ¬ w3.heap.size = w.heap.size := (by omega); have hne2 : ¬ w.heap.size = w3.heap.size := (by omega); have hne3 : ¬ w3.heap.size = b := (by omega); have hne4 : ¬ b = w3.heap.size := (by omega); have hne5 : ¬ b = w.heap.size := (by omega); have hne6 : ¬ w.heap.size = b := (by omega); clear hm)
      | (go_at_call 50; refine (HNm2.out _ HA.out.moved.rest).mono ?_; rintro e w4 ⟨rfl, hb⟩; replace HA := Lib.hid (HA.out.below hb); have HB2 := Lib.hid ((hb.block _ (Array.getElem?_eq_some_iff.1 HB1.out).1).trans HB1.out); clear hb; obtain ⟨⟨d0, d1, d2, d3⟩, e0, e1, e2, e3⟩ := froz4 HB2.out; obtain ⟨⟨c0, c1, c2, c3⟩, f0, f1, f2, f3⟩ := froz4 HA.out.res; obtain ⟨_, _, _, r1, rf1, _⟩ := HA.out.moved.rest.parts)
      | (go_at_call 51; have HA2 := Lib.hid (HA.out.cell (g1 := w3.heap.size) (i := 0) (v := .int .u8 10) (by omega)); have HB3 := Lib.hid (heap_setCell_same _ w3.heap.size 0 _ _ (.int .u8 10) HB2.out); refine (HTn.out _ HA2.out.moved.rest).mono ?_; rintro e w5 ⟨rfl, j, hj, hd, hm⟩; have HA3 := Lib.hid (HA2.out.on hm); have HB4 := Lib.hid (hm.keeps HB3.out hne3); have HJ := Lib.hid hj; have HDr := Lib.hid hd; clear d0 d1 d2 d3 e0 e1 e2 e3 c0 c1 c2 c3 f0 f1 f2 f3 r1 rf1; obtain ⟨⟨d0, d1, d2, d3⟩, e0, e1, e2, e3⟩ := froz4 (a0 := .int .u8 10) (a1 := .string ⟨nb.toArray⟩) (a2 := .string ⟨#[]⟩) (a3 := .bool false) HB4.out; obtain ⟨⟨c0, c1, c2, c3⟩, f0, f1, f2, f3⟩ := froz4 HA3.out.res; clear hm hj hd))
    clear HB2
    refine (HA3.out.cell (i := 2) (v := .string ⟨(bytesC nv).toArray⟩) (by omega)).end_ ?_ ?_ ?_ (by have := HJ.out; have := HNp.out; omega) HDr.out <;> rfl
  | false =>
    clear HTn
    by_cases h37 : z = 37
    · have hX := HX.out; rw [if_neg (by decide), if_pos h37] at hX; simp only [Prod.mk.injEq, CT.mk.injEq] at hX; obtain ⟨⟨h1, h2, h3, h4⟩, h5⟩ := hX; clear HX; subst kd; subst vl; subst un; subst idb; subst L2
      subst h37
      have HPk := Lib.hid (HPc.out rfl)
      clear HPc
      go_wp2_with (first
        | (go_at_call 52; refine (HNu.out _ HA.out.moved.rest).mono ?_; rintro e w1 ⟨rfl, hb⟩; replace HA := Lib.hid (HA.out.below hb); clear hb)
        | (go_at_call 53; refine (HTk.out _ HA.out.moved.rest).mono ?_; rintro e w3 ⟨rfl, hm⟩; have HA1 := Lib.hid (HA.out.on hm); have hle := HA1.out.moved.rest.le; have hkn64 : ((k + N : Nat) : Int) < 1099511627776 := (by omega); clear hle; have HB1 := Lib.hid (heap_alloc_new w3 (.cells #[.int .u8 8, .string ⟨nb.toArray⟩, .string ⟨#[]⟩, .bool false] TRt)); have hlt := (Array.getElem?_eq_some_iff.1 HA1.out.res).1; have hbl := HA1.out.lt; replace HA := Lib.hid (HA1.out.below ((Below.refl _ _).alloc (Nat.le_refl _) (.cells #[.int .u8 8, .string ⟨nb.toArray⟩, .string ⟨#[]⟩, .bool false] TRt))); have hne1 : ¬ w3.heap.size = w.heap.size := (by omega); have hne2 : ¬ w.heap.size = w3.heap.size := (by omega); have hne3 : ¬ w3.heap.size = b := (by omega); have hne4 : ¬ b = w3.heap.size := (by omega); have hne5 : ¬ b = w.heap.size := (by omega); have hne6 : ¬ w.heap.size = b := (by omega); clear hm)
        | (go_at_call 50; refine (HNm2.out _ HA.out.moved.rest).mono ?_; rintro e w4 ⟨rfl, hb⟩; replace HA := Lib.hid (HA.out.below hb); have HB2 := Lib.hid ((hb.block _ (Array.getElem?_eq_some_iff.1 HB1.out).1).trans HB1.out); clear hb)
        | (go_at_call 23; refine (HS2.out _ HA.out.moved.rest).mono ?_; rintro e w5 ⟨rfl, hb⟩; replace HA := Lib.hid (HA.out.below hb); replace HB2 := Lib.hid ((hb.block _ (Array.getElem?_eq_some_iff.1 HB2.out).1).trans HB2.out); clear hb; obtain ⟨⟨d0, d1, d2, d3⟩, e0, e1, e2, e3⟩ := froz4 HB2.out; obtain ⟨⟨c0, c1, c2, c3⟩, f0, f1, f2, f3⟩ := froz4 HA.out.res; obtain ⟨_, _, _, r1, rf1, _⟩ := HA.out.moved.rest.parts))
      refine ((HA.out.cell (i := 0) (v := .int .u8 9) (by omega)).move (j := k + N + 1) (i := (k : Int) + N + 1) (by have := HPk.out; omega) (by omega)).end_ ?_ ?_ ?_ (by omega) ?_ <;> (first | rfl | exact (List.drop_drop ..).symm)
    · have hX := HX.out; rw [if_neg (by decide), if_neg h37] at hX; simp only [Prod.mk.injEq, CT.mk.injEq] at hX; obtain ⟨⟨h1, h2, h3, h4⟩, h5⟩ := hX; clear HX; subst kd; subst vl; subst un; subst idb; subst L2
      have b37 : (z == 37) = false := by rw [beq_eq_false_iff_ne]; exact h37
      clear HPc h37
      go_wp2_with (first
        | (go_at_call 52; refine (HNu.out _ HA.out.moved.rest).mono ?_; rintro e w1 ⟨rfl, hb⟩; replace HA := Lib.hid (HA.out.below hb); clear hb)
        | (go_at_call 53; refine (HTk.out _ HA.out.moved.rest).mono ?_; rintro e w3 ⟨rfl, hm⟩; have HA1 := Lib.hid (HA.out.on hm); have hle := HA1.out.moved.rest.le; have hkn64 : ((k + N : Nat) : Int) < 1099511627776 := (by omega); clear hle; have HB1 := Lib.hid (heap_alloc_new w3 (.cells #[.int .u8 8, .string ⟨nb.toArray⟩, .string ⟨#[]⟩, .bool false] TRt)); have hlt := (Array.getElem?_eq_some_iff.1 HA1.out.res).1; have hbl := HA1.out.lt; replace HA := Lib.hid (HA1.out.below ((Below.refl _ _).alloc (Nat.le_refl _) (.cells #[.int .u8 8, .string ⟨nb.toArray⟩, .string ⟨#[]⟩, .bool false] TRt))); have hne1 : ¬ w3.heap.size = w.heap.size := (by omega); have hne2 : ¬ w.heap.size = w3.heap.size := (by omega); have hne3 : ¬ w3.heap.size = b := (by omega); have hne4 : ¬ b = w3.heap.size := (by omega); have hne5 : ¬ b = w.heap.size := (by omega); have hne6 : ¬ w.heap.size = b := (by omega); clear hm)
        | (go_at_call 50; refine (HNm2.out _ HA.out.moved.rest).mono ?_; rintro e w4 ⟨rfl, hb⟩; replace HA := Lib.hid (HA.out.below hb); have HB2 := Lib.hid ((hb.block _ (Array.getElem?_eq_some_iff.1 HB1.out).1).trans HB1.out); clear hb)
        | (go_at_call 23; refine (HS2.out _ HA.out.moved.rest).mono ?_; rintro e w5 ⟨rfl, hb⟩; replace HA := Lib.hid (HA.out.below hb); replace HB2 := Lib.hid ((hb.block _ (Array.getElem?_eq_some_iff.1 HB2.out).1).trans HB2.out); clear hb; obtain ⟨⟨d0, d1, d2, d3⟩, e0, e1, e2, e3⟩ := froz4 HB2.out; obtain ⟨⟨c0, c1, c2, c3⟩, f0, f1, f2, f3⟩ := froz4 HA.out.res; obtain ⟨_, _, _, r1, rf1, _⟩ := HA.out.moved.rest.parts))
      refine HA.out.end_ ?_ ?_ ?_ (by have := HNp.out; omega) rfl <;> rfl
end Go.Proofs.YtmhdocgoeahbdaaGreatDoor
namespace Go.Proofs.YtmhdocgoeahbdaaGreatDoor
open Go.RowKit Go.RunKit Go.UtfKit Go.Lib Go.CssKit

set_option maxRecDepth 100000 in
set_option maxHeartbeats 8000000 in
theorem oneZ_word (b g k : Nat) (l0 : Chars) (w : World) (h : RZ w b g l0 k) (h20 : l0.length ≤ 20000) (hk : k < l0.length) (hw : isW (at_ (l0.drop k) 0) = false) (hq : ¬ (at_ (l0.drop k) 0 = 34 ∨ at_ (l0.drop k) 0 = 39)) (hh : ¬ (at_ (l0.drop k) 0 = 35 ∧ (nameC (at_ (l0.drop k) 1) || escAt (l0.drop k) 1) = true)) (hn : numAt (l0.drop k) = false) (ho : openAt (l0.drop k) = false) (hc : closeAt (l0.drop k) = false) (hm : nameAt (l0.drop k) 0 = true) : OneZ b g k l0 w (wordT (l0.drop k)) := by
  unfold OneZ
  have HA := Lib.hid (ResZ.start h)
  have HS := Lib.hid (fun W (hr : RZ W b g l0 k) => see_res 0 (by omega) W hr)
  have HS1 := Lib.hid (fun W (hr : RZ W b g l0 k) => see_res 1 (by omega) W hr)
  have HW := Lib.hid (refWhite_any (at_ (l0.drop k) 0))
  have HN := Lib.hid (refNames_any (at_ (l0.drop k) 1))
  have HE := Lib.hid (fun W (hr : RZ W b g l0 k) => escZ_any b g k 1 l0 W hr (by omega))
  have HNu := Lib.hid (fun W (hr : RZ W b g l0 k) => numZ_any b g k l0 W hr)
  have HO := Lib.hid (fun W (hr : RZ W b g l0 k) => openS_any W hr)
  have HCl := Lib.hid (fun W (hr : RZ W b g l0 k) => closeS_any W hr)
  have HNm := Lib.hid (fun W (hr : RZ W b g l0 k) => nameZ_any b g k l0 W hr)
  have hlen := h.len
  have hk64 : (k : Int) < 1099511627776 := by omega
  have HK := Lib.hid hk
  have HTn := Lib.hid (fun W (hr : RZ W b g l0 k) => takeNameZ_any b g k l0 W hr h20)
  have HLt := Lib.hid (nameAt_pos hm).2
  unfold wordT
  obtain ⟨⟨nv, nr⟩, hnl⟩ : ∃ x, nameL (l0.drop k) = x := ⟨_, rfl⟩
  rw [hnl] at HTn HLt ⊢
  simp only at HTn HLt ⊢
  have HS2 : Hid (∀ j, l0.drop j = nr → ∀ W, RZ W b g l0 j → Calls Tryz.prog 23 #[.pointer (some ⟨b, 0, none⟩), .int .i64 0] W fun e w' => e = .returned (.int .i32 (at_ nr 0)) ∧ Below W.heap.size W w') := Lib.hid (fun j hj W hr => by
    have := see_res 0 (by omega) W hr
    rwa [hj] at this)
  have HLj : Hid (∀ j, l0.drop j = nr → k < j) := Lib.hid (fun j hj => by
    have h1 := HLt.out
    rw [← hj, List.length_drop, List.length_drop] at h1
    omega)
  have HPj : Hid (at_ nr 0 = 40 → ∀ j, l0.drop j = nr → j < l0.length ∧ l0.drop (j + 1) = nr.drop 1) := Lib.hid (fun e j hj => by
    have h1 := lt_of_at (l0 := l0) (k := j) (n := 0) (by rw [hj, e]; decide)
    exact ⟨h1, by rw [← hj, List.drop_drop]⟩)
  rw [ho] at HO
  rw [hn] at HNu
  rw [hc] at HCl
  rw [hm] at HNm
  generalize hz : at_ nr 0 = z at *
  obtain ⟨⟨⟨kd, vl, un, idb⟩, L2⟩, hX⟩ : ∃ X : CT × Chars, (if z = 40 then (⟨3, bytesC nv, [], false⟩, nr.drop 1) else (⟨2, bytesC nv, [], false⟩, nr)) = X := ⟨_, rfl⟩
  rw [hX]
  have HX := Lib.hid hX
  clear ho hn hc hm hnl hz HLt hX
  rw [hw] at HW
  generalize at_ (l0.drop k) 0 = x at *
  generalize at_ (l0.drop k) 1 = y at *
  generalize escAt (l0.drop k) 1 = u at *
  generalize nameC y = p at *
  have b34 : (x == 34) = false := by rw [beq_eq_false_iff_ne]; exact fun e => hq (.inl e)
  have b39 : (x == 39) = false := by rw [beq_eq_false_iff_ne]; exact fun e => hq (.inr e)
  clear h hw hq hk
  go_enter Tryz.func24, Tryz.ntmps24
  go_upto_region 8 with (first
    | (go_at_call_of 23 (Value.int .i64 0); refine (HS.out _ HA.out.moved.rest).mono ?_; rintro e w1 ⟨rfl, hb⟩; replace HA := Lib.hid (HA.out.below hb); clear hb)
    | (go_at_call 46; refine (HW.out _).mono ?_; rintro e w2 ⟨rfl, rfl⟩))
  clear b34 b39
  go_cut [3, 35] (fun v c wd => v = .int .i32 x ∧ c = .bool false ∧ Hid (ResZ w b g l0 k wd))
  case first =>
    by_cases h35 : x = 35
    · subst h35
      obtain ⟨rfl, rfl⟩ : p = false ∧ u = false := by
        have hpu : ¬ (p || u) = true := fun e => hh ⟨rfl, e⟩
        cases p <;> cases u <;> simp at hpu ⊢
      clear hh
      go_wp2_with (first
        | (go_at_call_of 23 (Value.int .i64 1); refine (HS1.out _ HA.out.moved.rest).mono ?_; rintro e w1 ⟨rfl, hb⟩; replace HA := Lib.hid (HA.out.below hb); clear hb)
        | (go_at_call 48; refine (HN.out _).mono ?_; rintro e w2 ⟨rfl, rfl⟩)
        | (go_at_call 49; refine (HE.out _ HA.out.moved.rest).mono ?_; rintro e w1 ⟨rfl, hb⟩; replace HA := Lib.hid (HA.out.below hb); clear hb))
      go_meet
      exact ⟨rfl, rfl, HA⟩
    · have b35 : (x == 35) = false := by rw [beq_eq_false_iff_ne]; exact h35
      clear hh
      go_wp2_with (fail)
      go_meet
      exact ⟨rfl, rfl, HA⟩
  case rest =>
  clear HA hh HS HS1 HW HN HE
  obtain ⟨rfl, rfl, HA⟩ := hcut
  by_cases h40 : z = 40
  · have hX := HX.out; rw [if_pos h40] at hX; simp only [Prod.mk.injEq, CT.mk.injEq] at hX; obtain ⟨⟨h1, h2, h3, h4⟩, h5⟩ := hX; clear HX; subst kd; subst vl; subst un; subst idb; subst L2
    subst h40
    have HPk := Lib.hid (HPj.out rfl)
    clear HPj
    go_wp2_with (first
      | (go_at_call 52; refine (HNu.out _ HA.out.moved.rest).mono ?_; rintro e w1 ⟨rfl, hb⟩; replace HA := Lib.hid (HA.out.below hb); clear hb)
      | (go_at_call 45; refine (HO.out _ HA.out.moved.rest).mono ?_; clear HO; rintro e w1 ⟨rfl, hb⟩; replace HA := Lib.hid (HA.out.below hb); clear hb)
      | (go_at_call 45; refine (HCl.out _ HA.out.moved.rest).mono ?_; clear HCl; rintro e w1 ⟨rfl, hb⟩; replace HA := Lib.hid (HA.out.below hb); clear hb)
      | (go_at_call 50; refine (HNm.out _ HA.out.moved.rest).mono ?_; rintro e w1 ⟨rfl, hb⟩; replace HA := Lib.hid (HA.out.below hb); clear hb)
      | (go_at_call 51; refine (HTn.out _ HA.out.moved.rest).mono ?_; rintro e w3 ⟨rfl, j, hj, hd, hm⟩; have HA1 := Lib.hid (HA.out.on hm); have HJ := Lib.hid (HLj.out j hd); have HDr := Lib.hid hd; have hle := HA1.out.moved.rest.le; have hj64 : (j : Int) < 1099511627776 := (by omega); have HB1 := Lib.hid (heap_alloc_new w3 (.cells #[.int .u8 2, .string ⟨(bytesC nv).toArray⟩, .string ⟨#[]⟩, .bool false] TRt)); have hlt := (Array.getElem?_eq_some_iff.1 HA1.out.res).1; have hbl := HA1.out.lt; replace HA := Lib.hid (HA1.out.below ((Below.refl _ _).alloc (Nat.le_refl _) (.cells #[.int .u8 2, .string ⟨(bytesC nv).toArray⟩, .string ⟨#[]⟩, .bool false] TRt))); have hne1 : ¬ w3.heap.size = w.heap.size := (by omega); have hne2 : ¬ w.heap.size = w3.heap.size := (by omega); have hne3 : ¬ w3.heap.size = b := (by omega); have hne4 : ¬ b = w3.heap.size := (by omega); have hne5 : ¬ b = w.heap.size := (by omega); have hne6 : ¬ w.heap.size = b := (by omega); clear hm hj hd hle)
      | (go_at_call 23; refine (HS2.out j HDr.out _ HA.out.moved.rest).mono ?_; rintro e w5 ⟨rfl, hb⟩; replace HA := Lib.hid (HA.out.below hb); have HB2 := Lib.hid ((hb.block _ (Array.getElem?_eq_some_iff.1 HB1.out).1).trans HB1.out); clear hb; obtain ⟨⟨d0, d1, d2, d3⟩, e0, e1, e2, e3⟩ := froz4 HB2.out; obtain ⟨⟨c0, c1, c2, c3⟩, f0, f1, f2, f3⟩ := froz4 HA.out.res; obtain ⟨_, _, _, r1, rf1, _⟩ := HA.out.moved.rest.parts))
    have hp := HPk.out j HDr.out
    refine ((HA.out.cell (i := 0) (v := .int .u8 3) (by omega)).move (j := j + 1) (i := (j : Int) + 1) (by omega) (by omega)).end_ ?_ ?_ ?_ (by have := HJ.out; omega) hp.2 <;> rfl
  · have hX := HX.out; rw [if_neg h40] at hX; simp only [Prod.mk.injEq, CT.mk.injEq] at hX; obtain ⟨⟨h1, h2, h3, h4⟩, h5⟩ := hX; clear HX; subst kd; subst vl; subst un; subst idb; subst L2
    have b40 : (z == 40) = false := by rw [beq_eq_false_iff_ne]; exact h40
    clear HPj h40
    go_wp2_with (first
      | (go_at_call 52; refine (HNu.out _ HA.out.moved.rest).mono ?_; rintro e w1 ⟨rfl, hb⟩; replace HA := Lib.hid (HA.out.below hb); clear hb)
      | (go_at_call 45; refine (HO.out _ HA.out.moved.rest).mono ?_; clear HO; rintro e w1 ⟨rfl, hb⟩; replace HA := Lib.hid (HA.out.below hb); clear hb)
      | (go_at_call 45; refine (HCl.out _ HA.out.moved.rest).mono ?_; clear HCl; rintro e w1 ⟨rfl, hb⟩; replace HA := Lib.hid (HA.out.below hb); clear hb)
      | (go_at_call 50; refine (HNm.out _ HA.out.moved.rest).mono ?_; rintro e w1 ⟨rfl, hb⟩; replace HA := Lib.hid (HA.out.below hb); clear hb)
      | (go_at_call 51; refine (HTn.out _ HA.out.moved.rest).mono ?_; rintro e w3 ⟨rfl, j, hj, hd, hm⟩; have HA1 := Lib.hid (HA.out.on hm); have HJ := Lib.hid (HLj.out j hd); have HDr := Lib.hid hd; have hle := HA1.out.moved.rest.le; have hj64 : (j : Int) < 1099511627776 := (by omega); have HB1 := Lib.hid (heap_alloc_new w3 (.cells #[.int .u8 2, .string ⟨(bytesC nv).toArray⟩, .string ⟨#[]⟩, .bool false] TRt)); have hlt := (Array.getElem?_eq_some_iff.1 HA1.out.res).1; have hbl := HA1.out.lt; replace HA := Lib.hid (HA1.out.below ((Below.refl _ _).alloc (Nat.le_refl _) (.cells #[.int .u8 2, .string ⟨(bytesC nv).toArray⟩, .string ⟨#[]⟩, .bool false] TRt))); have hne1 : ¬ w3.heap.size = w.heap.size := (by omega); have hne2 : ¬ w.heap.size = w3.heap.size := (by omega); have hne3 : ¬ w3.heap.size = b := (by omega); have hne4 : ¬ b = w3.heap.size := (by omega); have hne5 : ¬ b = w.heap.size := (by omega); have hne6 : ¬ w.heap.size = b := (by omega); clear hm hj hd hle)
      | (go_at_call 23; refine (HS2.out j HDr.out _ HA.out.moved.rest).mono ?_; rintro e w5 ⟨rfl, hb⟩; replace HA := Lib.hid (HA.out.below hb); have HB2 := Lib.hid ((hb.block _ (Array.getElem?_eq_some_iff.1 HB1.out).1).trans HB1.out); clear hb; obtain ⟨⟨d0, d1, d2, d3⟩, e0, e1, e2, e3⟩ := froz4 HB2.out; obtain ⟨⟨c0, c1, c2, c3⟩, f0, f1, f2, f3⟩ := froz4 HA.out.res; obtain ⟨_, _, _, r1, rf1, _⟩ := HA.out.moved.rest.parts))
    refine HA.out.end_ ?_ ?_ ?_ HJ.out HDr.out <;> rfl
end Go.Proofs.YtmhdocgoeahbdaaGreatDoor
