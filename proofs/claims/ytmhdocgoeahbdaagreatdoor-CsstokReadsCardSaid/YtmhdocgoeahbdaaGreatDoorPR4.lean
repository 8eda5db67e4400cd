/-
  The document's own Tokens of package csstok. Conditions: texts of at most 20000 bytes.
  The law CsstokReads: any text of at most 4000 bytes has the tokens that the document says. Conditions: the library's two tables hold what its text lays.
  The library's two tables out of a row's condition that lists more variables. No conditions.
-/
import Derived.Test.YtmhdocgoeahbdaaGreatDoorPR3
import Derived.Test.YtmhdocgoeahbdaaGreatDoorUTabs
import Derived.LaidSub
namespace Go.Proofs.YtmhdocgoeahbdaaGreatDoor
open Go.RowKit Go.RunKit Go.UtfKit Go.Lib Go.CssKit

set_option maxRecDepth 100000 in
theorem oneZ_any (b g k : Nat) (l0 : Chars) (w : World) (h : RZ w b g l0 k) (h20 : l0.length ≤ 20000) (hk : k < l0.length) : OneZ b g k l0 w (oneT (l0.drop k)) := by
  unfold oneT
  by_cases c1 : isW (at_ (l0.drop k) 0) = true
  · rw [if_pos c1]; exact oneZ_white b g k l0 w h c1
  rw [if_neg c1]
  have hw : isW (at_ (l0.drop k) 0) = false := by simpa using c1
  by_cases c2 : at_ (l0.drop k) 0 = 34 ∨ at_ (l0.drop k) 0 = 39
  · rw [if_pos c2]; exact oneZ_quote b g k l0 w h h20 hw c2
  rw [if_neg c2]
  by_cases c3 : at_ (l0.drop k) 0 = 35 ∧ (nameC (at_ (l0.drop k) 1) || escAt (l0.drop k) 1) = true
  · rw [if_pos c3]; exact oneZ_hash b g k l0 w h h20 hk c3.1 c3.2
  rw [if_neg c3]
  by_cases c4 : numAt (l0.drop k) = true
  · rw [if_pos c4]; exact oneZ_number b g k l0 w h h20 hk hw c2 c3 c4
  rw [if_neg c4]
  have hn : numAt (l0.drop k) = false := by simpa using c4
  by_cases c5 : openAt (l0.drop k) = true
  · rw [if_pos c5]; exact oneZ_open b g k l0 w h h20 hk hw c2 c3 hn c5
  rw [if_neg c5]
  have ho : openAt (l0.drop k) = false := by simpa using c5
  by_cases c6 : closeAt (l0.drop k) = true
  · rw [if_pos c6]; exact oneZ_close b g k l0 w h h20 hk hw c2 c3 hn ho c6
  rw [if_neg c6]
  have hc : closeAt (l0.drop k) = false := by simpa using c6
  by_cases c7 : nameAt (l0.drop k) 0 = true
  · rw [if_pos c7]; exact oneZ_word b g k l0 w h h20 hk hw c2 c3 hn ho hc c7
  rw [if_neg c7]
  have hm : nameAt (l0.drop k) 0 = false := by simpa using c7
  by_cases c8 : at_ (l0.drop k) 0 = 64 ∧ nameAt (l0.drop k) 1 = true
  · rw [if_pos c8]; exact oneZ_at b g k l0 w h h20 hk hw c2 c3 hn ho hc hm c8
  rw [if_neg c8]
  exact oneZ_sign b g k l0 w h h20 hk hw c2 c3 hn ho hc hm c8

structure ToksZ (w3 : World) (b g : Nat) (l0 : Chars) (a : Option Addr) (n cap : Nat) (ts : List CT) (j : Nat) (wr : World) : Prop where
  moved : MZ w3 b g l0 j wr
  row : OwnZ wr w3.heap.size (.slice a n cap) ts
  len : n = ts.length
  lt : b < w3.heap.size
  glt : l0 ≠ [] → g < w3.heap.size
theorem ToksZ.on {w3 wr wr' : World} {b g n cap i j : Nat} {l0 : Chars} {a : Option Addr} {ts : List CT} (h : ToksZ w3 b g l0 a n cap ts i wr) (hm : MZ wr b g l0 j wr') : ToksZ w3 b g l0 a n cap ts j wr' :=
  ⟨h.moved.trans hm, h.row.moved hm.grown h.lt, h.len, h.lt, h.glt⟩
theorem ToksZ.below {w3 wr wr' : World} {b g n cap i : Nat} {l0 : Chars} {a : Option Addr} {ts : List CT} (h : ToksZ w3 b g l0 a n cap ts i wr) (hb : Below wr.heap.size wr wr') : ToksZ w3 b g l0 a n cap ts i wr' :=
  ⟨h.moved.on hb, h.row.below hb, h.len, h.lt, h.glt⟩
theorem ToksZ.wrote {w3 wr W : World} {b g n n' cap cap' j : Nat} {l0 : Chars} {a a' : Option Addr} {ts : List CT} {t : CT} (h : ToksZ w3 b g l0 a n cap ts j wr)
    (hown : W.ownsRow w3.heap.size TRt 4 (.slice a' n' cap') (ts.length + 1) (tokCells ts ++ tokC t)) (hn : n' = ts.length + 1) (hg : wr.grownBy W (Value.slice a n cap).ownBlock) : ToksZ w3 b g l0 a' n' cap' (ts ++ [t]) j W := by
  have hlow : ∀ k, (Value.slice a n cap).ownBlock = some k → w3.heap.size ≤ k := fun k e => (World.ownsRow.lt h.row k e).1
  refine ⟨h.moved.row hg hlow h.lt h.glt, ?_, by simp [hn], h.lt, h.glt⟩
  unfold OwnZ
  rw [tokCells_snoc, List.length_append]
  exact hown
theorem toksZ_start {w w1 : World} {a : Option Addr} {cap : Nat} {l : Chars} (hown : OwnC w1 w.heap.size (.slice a l.length cap) l) (hlen : l.length ≤ 1099511627776) (hok : ∀ z, z ∈ l → okC z) :
    ∃ g, RZ (w1.alloc (.cells #[.slice a l.length cap, .int .i64 0] TRz)) w1.heap.size g l 0 := by
  have h1 : Below w1.heap.size w1 (w1.alloc (.cells #[.slice a l.length cap, .int .i64 0] TRz)) := (Below.refl _ _).alloc (Nat.le_refl _) _
  rcases hown.2 with ⟨e, e2⟩ | ⟨g, c, cur, e, hge, hg, hc, rest⟩
  · simp only [Value.slice.injEq] at e
    obtain ⟨rfl, _, rfl⟩ := e
    exact ⟨w1.heap.size + 1, ⟨⟨none, 0, heap_alloc_new w1 _, by omega, fun _ => List.length_eq_zero_iff.1 e2, fun ad ha => (by cases ha)⟩, by omega, hlen, Nat.zero_le _, by simp, hok⟩⟩
  · simp only [Value.slice.injEq] at e
    obtain ⟨rfl, _, rfl⟩ := e
    have hlt : g < w1.heap.size := (Array.getElem?_eq_some_iff.1 hg).1
    refine ⟨g, ⟨⟨_, _, heap_alloc_new w1 _, by omega, fun h => (by cases h), fun ad ha => ⟨by cases ha; rfl, ⟨fun j z hz => ?_⟩⟩⟩, by omega, hlen, Nat.zero_le _, by simp, hok⟩⟩
    have hj := (List.getElem?_eq_some_iff.1 hz).1
    have h2 : w1.cell? ⟨g, j, none⟩ = some (.int .i32 z) := by
      rw [World.ownsRow.cellAt hown j (by omega)]
      unfold intC
      rw [List.getElem?_map, hz]
      rfl
    rw [Nat.zero_add, h1.cell (World.block_lt_of_cell? _ _ h2)]
    exact h2
theorem toksC_none {l : Chars} (h : comL l = []) : toksC l = [] := by rw [toksC_com, h]; rfl
theorem toksC_some {l l' : Chars} (h : comL l = l') (hl : l' ≠ []) : toksC l = (oneT l').1 :: toksC (oneT l').2 := by
  rw [toksC_com, h]; unfold toksD; rw [if_neg hl]

set_option maxRecDepth 100000 in
set_option maxHeartbeats 8000000 in
theorem tokensZ_any (s : ByteArray) (w : World) (hsz : s.size ≤ 20000) :
    Calls Tryz.prog 10 #[.string s] w fun e w' => ∃ a cap, e = .returned (.slice a (toksC (charsOf s)).length cap) ∧ TksSee w' a (toksC (charsOf s)) ∧ Below w.heap.size w w' := by
  have HC := Lib.hid (charactersZ_any s w (by omega))
  have hcl := charsL_len false (codes s)
  have hcl2 := codes_len s
  have hok := charsL_ok false (codes s) (fun z hz => codes_char hz)
  obtain ⟨l0, hl0⟩ : ∃ x, charsOf s = x := ⟨_, rfl⟩
  rw [show charsL false (codes s) = l0 from hl0] at hcl hok
  rw [hl0] at HC ⊢
  obtain ⟨ans, hans⟩ : ∃ x, toksC l0 = x := ⟨_, rfl⟩
  rw [hans]
  have HAns := Lib.hid (show ([] : List CT) ++ toksC (l0.drop 0) = ans by rw [List.nil_append, List.drop_zero]; exact hans)
  have HOk := Lib.hid hok
  have hlen : l0.length ≤ 20000 := by omega
  obtain ⟨i0, hi, hz0, hz1, hz2⟩ := info_parts Tryz.infoTrtT
  clear hcl hcl2 hok hl0 hans
  go_enter Tryz.func10, Tryz.ntmps10
  go_wp2_with (go_at_call 21
               go_loud (
                 refine HC.out.mono ?_
                 clear HC
                 rintro e w1 ⟨a0, cap0, rfl, hown, hb1⟩
                 obtain ⟨g, hrz⟩ := toksZ_start hown (by omega) HOk.out
                 have HB1 := Lib.hid (hb1.trans (((Below.refl w1.heap.size w1).alloc (Nat.le_refl _) (.cells #[.slice a0 l0.length cap0, .int .i64 0] TRz)).mono hb1.size))
                 have HSz := Lib.hid hb1.size
                 have HRZ := Lib.hid hrz
                 clear hown hb1 hrz))
  have T0 : Hid (ToksZ (w1.alloc (.cells #[.slice a0 l0.length cap0, .int .i64 0] TRz)) w1.heap.size g l0 none 0 0 [] 0 (w1.alloc (.cells #[.slice a0 l0.length cap0, .int .i64 0] TRz))) :=
    Lib.hid ⟨MZ.refl HRZ.out, OwnZ.nil _ _, rfl, HRZ.out.lt, HRZ.out.glt⟩
  clear HRZ HOk
  generalize w1.alloc (.cells #[.slice a0 l0.length cap0, .int .i64 0] TRz) = w3 at *
  generalize w1.heap.size = b at *
  go_loopw [4] (fun v wr => ∃ (a : Option Addr) (n cap j : Nat) (ts : List CT), v = .slice a n cap ∧ Hid (ToksZ w3 b g l0 a n cap ts j wr) ∧ Hid (ts ++ toksC (l0.drop j) = ans) ∧ n ≤ j) (fun _ wr => l0.length - posN b wr)
  case atStart => exact ⟨none, 0, 0, 0, [], rfl, T0, HAns, Nat.le_refl _⟩
  case round =>
    clear T0 HAns
    obtain ⟨a, n, cap, j, ts, rfl, HT, HD, hnj⟩ := hrel
    have HCo := Lib.hid (commentsZ_any b g j l0 wr HT.out.moved.rest)
    have HP := Lib.hid HT.out.moved.rest.posN
    by_cases hl : comL (l0.drop j) = []
    · have hd := HD.out
      rw [toksC_none hl, List.append_nil] at hd
      subst hd
      have hnn := HT.out.len
      subst hnn
      have HL := Lib.hid hl
      have HS : Hid (∀ i, l0.drop i = comL (l0.drop j) → ∀ W, RZ W b g l0 i → Calls Tryz.prog 23 #[.pointer (some ⟨b, 0, none⟩), .int .i64 0] W fun e w' => e = .returned (.int .i32 (-1)) ∧ Below W.heap.size W w') := Lib.hid (fun i hi W hr => by
        have := see_res 0 (by omega) W hr
        rw [hi, HL.out, at_nil] at this
        exact this)
      clear hl
      go_wp2_with (first
        | (go_at_call 22; refine HCo.out.mono ?_; clear HCo; rintro e w5 ⟨rfl, i, hi, hm⟩; have HT2 := Lib.hid (HT.out.on hm); have HI := Lib.hid hi; clear hm hi)
        | (go_at_call 23; refine (HS.out i HI.out _ HT2.out.moved.rest).mono ?_; rintro e w6 ⟨rfl, hb⟩; have HT3 := Lib.hid (HT2.out.below hb); clear hb))
      go_ret
      exact ⟨a, cap, rfl, HT3.out.row.see, HT3.out.moved.out HB1.out HSz.out⟩
    · have hd := HD.out
      rw [toksC_some rfl hl] at hd
      have HL := Lib.hid hl
      obtain ⟨⟨⟨kd, vl, un, idb⟩, r⟩, hone⟩ : ∃ x, oneT (comL (l0.drop j)) = x := ⟨_, rfl⟩
      rw [hone] at hd
      simp only at hd
      have HSt := Lib.hid (show (ts ++ [⟨kd, vl, un, idb⟩]) ++ toksC r = ans by rw [List.append_assoc]; exact hd)
      have HLe := Lib.hid (comL_le (l0.drop j))
      have HOne := Lib.hid hone
      obtain ⟨x, hx⟩ : ∃ x, at_ (comL (l0.drop j)) 0 = x := ⟨_, rfl⟩
      have HX := Lib.hid hx
      have HLi : Hid (∀ i, l0.drop i = comL (l0.drop j) → i < l0.length ∧ j ≤ i ∧ x ≠ -1) := Lib.hid (fun i hi => by
        have h1 : 0 < (l0.drop i).length := by rw [hi]; exact List.length_pos_iff.2 hl
        have h2 := HLe.out
        rw [← hi, List.length_drop, List.length_drop] at h2
        rw [List.length_drop] at h1
        refine ⟨by omega, by omega, ?_⟩
        have h3 := HT.out.moved.rest.ok (l0[i]'(by omega)) (List.getElem_mem _)
        rw [← hx, ← hi, at_some (by rw [List.length_drop]; omega), List.getElem_drop]
        simp only [Nat.add_zero]
        unfold okC at h3
        omega)
      have HS : Hid (∀ i, l0.drop i = comL (l0.drop j) → ∀ W, RZ W b g l0 i → Calls Tryz.prog 23 #[.pointer (some ⟨b, 0, none⟩), .int .i64 0] W fun e w' => e = .returned (.int .i32 x) ∧ Below W.heap.size W w') := Lib.hid (fun i hi W hr => by
        have := see_res 0 (by omega) W hr
        rw [hi, HX.out] at this
        exact this)
      have HOn : Hid (∀ i, l0.drop i = comL (l0.drop j) → ∀ W, RZ W b g l0 i → Calls Tryz.prog 24 #[.pointer (some ⟨b, 0, none⟩)] W fun e w' => e = .returned (.agg #[.int .u8 ((kd : Nat) : Int), .string ⟨vl.toArray⟩, .string ⟨un.toArray⟩, .bool idb]) ∧ ∃ i2, i < i2 ∧ l0.drop i2 = r ∧ MZ W b g l0 i2 w') := Lib.hid (fun i hi W hr => by
        have := oneZ_any b g i l0 W hr hlen (HLi.out i hi).1
        rw [hi, HOne.out] at this
        exact this)
      have hnn := HT.out.len
      subst hnn
      clear hl hd hone hx HX HD HOne
      go_wp2_with (first
        | (go_at_call 22; refine HCo.out.mono ?_; clear HCo; rintro e w5 ⟨rfl, i, hi2, hm⟩; have HT2 := Lib.hid (HT.out.on hm); have HI := Lib.hid hi2; have hli := HLi.out i hi2; have bx : (x == -1) = false := (by rw [beq_eq_false_iff_ne]; exact hli.2.2); have HLi2 := Lib.hid hli; clear hm hi2 hli)
        | (go_at_call 23; refine (HS.out i HI.out _ HT2.out.moved.rest).mono ?_; rintro e w6 ⟨rfl, hb⟩; have HT3 := Lib.hid (HT2.out.below hb); clear hb)
        | (go_at_call 24
           go_loud (
             refine (HOn.out i HI.out _ HT3.out.moved.rest).mono ?_
             rintro e w7 ⟨rfl, i2, hi2, hr2, hm⟩
             have hT4 := HT3.out.on hm
             have hbe4 : Below w7.heap.size w7 (w7.alloc (.cells #[.int .u8 ((kd : Nat) : Int), .string ⟨vl.toArray⟩, .string ⟨un.toArray⟩, .bool idb] TRt)) := (Below.refl _ _).alloc (Nat.le_refl _) _
             have hbe5 : Below w7.heap.size w7 ((w7.alloc (.cells #[.int .u8 ((kd : Nat) : Int), .string ⟨vl.toArray⟩, .string ⟨un.toArray⟩, .bool idb] TRt)).alloc (.cells #[.int .u8 ((kd : Nat) : Int), .string ⟨vl.toArray⟩, .string ⟨un.toArray⟩, .bool idb] TRt)) := hbe4.alloc (by simp) _
             have HT5 := Lib.hid (hT4.below hbe5)
             have HS5 := Lib.hid hT4.moved.grown.size
             have HB5 := Lib.hid hbe5.size
             have HI2 := Lib.hid hi2
             have HR2 := Lib.hid hr2
             clear hm hT4 hbe4 hbe5 hi2 hr2))
        | (at_builtin; refine wpList_append_own _ rfl _ _ 26 rfl w3.heap.size TRt i0 _ 4 48 Tryz.underlying26 hi hz0 hz1 hz2 rfl (by decide) _ ts.length (tokCells ts) rfl HT5.out.row ⟨w7.heap.size + 1, 0, none⟩ 1 1 [.int .u8 ((kd : Nat) : Int), .string ⟨vl.toArray⟩, .string ⟨un.toArray⟩, .bool idb] rfl ?c1 ?c2 ?c3 ?c4 ?c5 ?c6 ?_))
      case c1 => rfl
      case c2 =>
        have := qnews (w7.alloc (.cells #[.int .u8 ((kd : Nat) : Int), .string ⟨vl.toArray⟩, .string ⟨un.toArray⟩, .bool idb] TRt)) [.int .u8 ((kd : Nat) : Int), .string ⟨vl.toArray⟩, .string ⟨un.toArray⟩, .bool idb] TRt
        rwa [show (w7.alloc (.cells #[.int .u8 ((kd : Nat) : Int), .string ⟨vl.toArray⟩, .string ⟨un.toArray⟩, .bool idb] TRt)).heap.size = w7.heap.size + 1 by simp] at this
      case c3 => intro u hu; simp only [List.mem_cons, List.not_mem_nil, or_false] at hu; rcases hu with rfl | rfl | rfl | rfl <;> rfl
      case c4 => have := HT.out.moved.rest.le; unfold maxLen; omega
      case c5 => have := HT.out.moved.rest.le; omega
      case c6 => exact Nat.le_trans HS5.out HB5.out
      intro v' W hown' hgrow _
      obtain ⟨a1, cap1, hvs1⟩ := U.slice_of hown'
      subst hvs1
      have HT6 := Lib.hid (HT5.out.wrote (t := ⟨kd, vl, un, idb⟩) hown' rfl hgrow)
      clear hown' hgrow HT5
      go_wp2
      have hle6 := HT6.out.moved.rest.le
      have hli2 := HLi2.out
      have hi2 := HI2.out
      rw [← HR2.out] at HSt
      exact ⟨⟨a1, _, cap1, i2, ts ++ [⟨kd, vl, un, idb⟩], rfl, HT6, HSt, by omega⟩, by rw [HT6.out.moved.rest.posN, HP.out]; omega⟩
end Go.Proofs.YtmhdocgoeahbdaaGreatDoor
namespace Go.Proofs.YtmhdocgoeahbdaaGreatDoor
open Go.RowKit Go.RunKit Go.UtfKit Go.Lib Go.CssKit

set_option maxRecDepth 100000 in
set_option maxHeartbeats 4000000 in
theorem lawReads (s : ByteArray) (w : World) (ht : U.Tabs w) :
    Calls Tryz.prog 3 #[.string s] w fun e w' => e = .returned (.bool true) ∧ Below w.heap.size w w' := by
  by_cases hs : 4000 < s.size
  · have HW := Lib.hid (works7_any w ht)
    have hI : (4000 : Int) < s.size := by omega
    clear ht
    go_enter Tryz.func3, Tryz.ntmps3
    go_wp2_with (go_at_call 7; refine HW.out.mono ?_; rintro e w1 ⟨rfl, hb⟩; have HB := Lib.hid hb; clear hb)
    go_ret
    exact ⟨rfl, HB.out⟩
  · have hI : ¬ (4000 : Int) < s.size := by omega
    have HT := Lib.hid (tokens7_any s w ht (by omega))
    have HZ := Lib.hid (fun W => tokensZ_any s W (by omega))
    have HW := Lib.hid (fun W (hb : Below w.heap.size w W) => works7_any W (ht.on hb))
    have hcl := charsL_len false (codes s)
    have hcl2 := codes_len s
    have htl := toksD_len _ (comL (charsOf s)) (Nat.le_refl _)
    have hcm := comL_le (charsOf s)
    rw [← toksC_com] at htl
    have HLen : Hid ((toksC (charsOf s)).length ≤ 4294967296) := Lib.hid (by unfold charsOf at htl hcm ⊢; omega)
    generalize toksC (charsOf s) = ts at *
    have HSame := Lib.hid (fun W ao bo c1 c2 (ha : TksSee W ao ts) (hb : TksSee W bo ts) => same7_any ao bo c1 c2 ts ts HLen.out W ha hb)
    rw [decide_eq_true (rfl : ts = ts)] at HSame
    clear ht hcl hcl2 htl hcm
    go_enter Tryz.func3, Tryz.ntmps3
    go_wp2_with (first
      | (go_at_call 9; refine HT.out.mono ?_; rintro e w1 ⟨a1, cap1, rfl, hown, hb⟩; have HO := Lib.hid hown.see; have HB := Lib.hid hb; clear hb hown)
      | (go_at_call 10; refine (HZ.out _).mono ?_; rintro e w2 ⟨a2, cap2, rfl, hsee, hb⟩; have HO2 := Lib.hid hsee; have HO1 : Hid (TksSee w2 a1 ts) := Lib.hid (fun W' hb' => HO.out W' (hb.trans (hb'.mono hb.size))); replace HB := Lib.hid (HB.out.trans (hb.mono HB.out.size)); clear hb hsee)
      | (go_at_call 8; refine (HSame.out _ _ _ _ _ HO1.out HO2.out).mono ?_; rintro e w3 ⟨rfl, hb⟩; replace HB := Lib.hid (HB.out.trans (hb.mono HB.out.size)); clear hb)
      | (go_at_call 7; refine (HW.out _ HB.out).mono ?_; rintro e w4 ⟨rfl, hb⟩; replace HB := Lib.hid (HB.out.trans (hb.mono HB.out.size)); clear hb))
    go_ret
    exact ⟨rfl, HB.out⟩
end Go.Proofs.YtmhdocgoeahbdaaGreatDoor
namespace Go.Proofs.YtmhdocgoeahbdaaGreatDoor
open Go.RowKit Go.RunKit Go.UtfKit Go.Lib

theorem tabs_more {W : World} {l : List (String × DataW Unit)} (e : (l.filter fun x => x.1 == "unicode/utf8.acceptRanges" || x.1 == "unicode/utf8.first") = [("unicode/utf8.acceptRanges", Rows.laid_unicode_utf8_acceptRanges), ("unicode/utf8.first", Rows.laid_unicode_utf8_first)])
    (h : laidMet Tryz.prog l W) : U.Tabs W := by
  have := laidMet.filter (fun x => x.1 == "unicode/utf8.acceptRanges" || x.1 == "unicode/utf8.first") h
  rw [e] at this
  exact U.tabs_of this
end Go.Proofs.YtmhdocgoeahbdaaGreatDoor
