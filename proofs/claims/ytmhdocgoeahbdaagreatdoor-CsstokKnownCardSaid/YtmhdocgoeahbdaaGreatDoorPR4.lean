/-
  The document's own Tokens of package csstok. Conditions: texts of at most 20000 bytes.
  The law CsstokReads: any text of at most 4000 bytes has the tokens that the document says. Conditions: the library's two tables hold what its text lays.
  The library's two tables out of a row's condition that lists more variables. No conditions.
  A number's digits to the base 16: strconv.FormatInt. Conditions: the library's table of places of bits holds what its text lays.
  A number's digits to the base 16: formatBits and FormatInt. Conditions: the library's table of places of bits holds what its text lays.
  A character's escape is written: escape of package csstok's printer. Conditions: the library's table of places of bits holds what its text lays.
  The law CsstokBack at known texts, over lists: the texts of the chapter's edges. No conditions.
  The laws of package csstok at known texts: kinds, CsstokBack. Conditions: the library's tables hold what its text lays.
  The law CsstokBack at a known text. Conditions: the library's tables hold what its text lays.
-/
import Derived.Test.YtmhdocgoeahbdaaGreatDoorPR3
import Derived.Test.YtmhdocgoeahbdaaGreatDoorUTabs
import Derived.LaidSub
import Derived.Test.YtmhdocgoeahbdaaGreatDoorQPw
import Derived.Laws.Bits64
import Derived.Laws.BitsLemmas
import Derived.Test.YtmhdocgoeahbdaaGreatDoorShelf
import Derived.Deep.RegionLaw
import Derived.Test.YtmhdocgoeahbdaaGreatDoorQChars
import Derived.Deep.DeepCutAuto
namespace Go.Proofs.YtmhdocgoeahbdaaGreatDoor
open Go.RowKit Go.RunKit Go.UtfKit Go.Lib Go.CssKit

set_option maxRecDepth 100000 in
theorem oneZ_any (b g k : Nat) (l0 : Chars) (w : World) (h : RZ w b g l0 k) (h20 : l0.length ≤ 20000) (hk : k < l0.length) : OneZ b g k l0 w (oneT (l0.drop k)) := by
  unfold oneT
  by_cases c1 : isW (at_ (l0.drop k) 0) = true
  · rw [if_pos c1]; exact oneZ_white b g k l0 w h c1
  rw [if_neg c1]
  have hw : isW (at_ (l0.drop k) 0) = false := by simpa using c1
  by_cases c2 : at_ (l0.drop k) 0 = 34 ∨ at_ (l0.drop k) 0 = 39
  · rw [if_pos c2]; exact oneZ_quote b g k l0 w h h20 hw c2
  rw [if_neg c2]
  by_cases c3 : at_ (l0.drop k) 0 = 35 ∧ (nameC (at_ (l0.drop k) 1) || escAt (l0.drop k) 1) = true
  · rw [if_pos c3]; exact oneZ_hash b g k l0 w h h20 hk c3.1 c3.2
  rw [if_neg c3]
  by_cases c4 : numAt (l0.drop k) = true
  · rw [if_pos c4]; exact oneZ_number b g k l0 w h h20 hk hw c2 c3 c4
  rw [if_neg c4]
  have hn : numAt (l0.drop k) = false := by simpa using c4
  by_cases c5 : openAt (l0.drop k) = true
  · rw [if_pos c5]; exact oneZ_open b g k l0 w h h20 hk hw c2 c3 hn c5
  rw [if_neg c5]
  have ho : openAt (l0.drop k) = false := by simpa using c5
  by_cases c6 : closeAt (l0.drop k) = true
  · rw [if_pos c6]; exact oneZ_close b g k l0 w h h20 hk hw c2 c3 hn ho c6
  rw [if_neg c6]
  have hc : closeAt (l0.drop k) = false := by simpa using c6
  by_cases c7 : nameAt (l0.drop k) 0 = true
  · rw [if_pos c7]; exact oneZ_word b g k l0 w h h20 hk hw c2 c3 hn ho hc c7
  rw [if_neg c7]
  have hm : nameAt (l0.drop k) 0 = false := by simpa using c7
  by_cases c8 : at_ (l0.drop k) 0 = 64 ∧ nameAt (l0.drop k) 1 = true
  · rw [if_pos c8]; exact oneZ_at b g k l0 w h h20 hk hw c2 c3 hn ho hc hm c8
  rw [if_neg c8]
  exact oneZ_sign b g k l0 w h h20 hk hw c2 c3 hn ho hc hm c8

structure ToksZ (w3 : World) (b g : Nat) (l0 : Chars) (a : Option Addr) (n cap : Nat) (ts : List CT) (j : Nat) (wr : World) : Prop where
  moved : MZ w3 b g l0 j wr
  row : OwnZ wr w3.heap.size (.slice a n cap) ts
  len : n = ts.length
  lt : b < w3.heap.size
  glt : l0 ≠ [] → g < w3.heap.size
theorem ToksZ.on {w3 wr wr' : World} {b g n cap i j : Nat} {l0 : Chars} {a : Option Addr} {ts : List CT} (h : ToksZ w3 b g l0 a n cap ts i wr) (hm : MZ wr b g l0 j wr') : ToksZ w3 b g l0 a n cap ts j wr' :=
  ⟨h.moved.trans hm, h.row.moved hm.grown h.lt, h.len, h.lt, h.glt⟩
theorem ToksZ.below {w3 wr wr' : World} {b g n cap i : Nat} {l0 : Chars} {a : Option Addr} {ts : List CT} (h : ToksZ w3 b g l0 a n cap ts i wr) (hb : Below wr.heap.size wr wr') : ToksZ w3 b g l0 a n cap ts i wr' :=
  ⟨h.moved.on hb, h.row.below hb, h.len, h.lt, h.glt⟩
theorem ToksZ.wrote {w3 wr W : World} {b g n n' cap cap' j : Nat} {l0 : Chars} {a a' : Option Addr} {ts : List CT} {t : CT} (h : ToksZ w3 b g l0 a n cap ts j wr)
    (hown : W.ownsRow w3.heap.size TRt 4 (.slice a' n' cap') (ts.length + 1) (tokCells ts ++ tokC t)) (hn : n' = ts.length + 1) (hg : wr.grownBy W (Value.slice a n cap).ownBlock) : ToksZ w3 b g l0 a' n' cap' (ts ++ [t]) j W := by
  have hlow : ∀ k, (Value.slice a n cap).ownBlock = some k → w3.heap.size ≤ k := fun k e => (World.ownsRow.lt h.row k e).1
  refine ⟨h.moved.row hg hlow h.lt h.glt, ?_, by simp [hn], h.lt, h.glt⟩
  unfold OwnZ
  rw [tokCells_snoc, List.length_append]
  exact hown
theorem toksZ_start {w w1 : World} {a : Option Addr} {cap : Nat} {l : Chars} (hown : OwnC w1 w.heap.size (.slice a l.length cap) l) (hlen : l.length ≤ 1099511627776) (hok : ∀ z, z ∈ l → okC z) :
    ∃ g, RZ (w1.alloc (.cells #[.slice a l.length cap, .int .i64 0] TRz)) w1.heap.size g l 0 := by
  have h1 : Below w1.heap.size w1 (w1.alloc (.cells #[.slice a l.length cap, .int .i64 0] TRz)) := (Below.refl _ _).alloc (Nat.le_refl _) _
  rcases hown.2 with ⟨e, e2⟩ | ⟨g, c, cur, e, hge, hg, hc, rest⟩
  · simp only [Value.slice.injEq] at e
    obtain ⟨rfl, _, rfl⟩ := e
    exact ⟨w1.heap.size + 1, ⟨⟨none, 0, heap_alloc_new w1 _, by omega, fun _ => List.length_eq_zero_iff.1 e2, fun ad ha => (by cases ha)⟩, by omega, hlen, Nat.zero_le _, by simp, hok⟩⟩
  · simp only [Value.slice.injEq] at e
    obtain ⟨rfl, _, rfl⟩ := e
    have hlt : g < w1.heap.size := (Array.getElem?_eq_some_iff.1 hg).1
    refine ⟨g, ⟨⟨_, _, heap_alloc_new w1 _, by omega, fun h => (by cases h), fun ad ha => ⟨by cases ha; rfl, ⟨fun j z hz => ?_⟩⟩⟩, by omega, hlen, Nat.zero_le _, by simp, hok⟩⟩
    have hj := (List.getElem?_eq_some_iff.1 hz).1
    have h2 : w1.cell? ⟨g, j, none⟩ = some (.int .i32 z) := by
      rw [World.ownsRow.cellAt hown j (by omega)]
      unfold intC
      rw [List.getElem?_map, hz]
      rfl
    rw [Nat.zero_add, h1.cell (World.block_lt_of_cell? _ _ h2)]
    exact h2
theorem toksC_none {l : Chars} (h : comL l = []) : toksC l = [] := by rw [toksC_com, h]; rfl
theorem toksC_some {l l' : Chars} (h : comL l = l') (hl : l' ≠ []) : toksC l = (oneT l').1 :: toksC (oneT l').2 := by
  rw [toksC_com, h]; unfold toksD; rw [if_neg hl]

set_option maxRecDepth 100000 in
set_option maxHeartbeats 8000000 in
theorem tokensZ_any (s : ByteArray) (w : World) (hsz : s.size ≤ 20000) :
    Calls Tryz.prog 10 #[.string s] w fun e w' => ∃ a cap, e = .returned (.slice a (toksC (charsOf s)).length cap) ∧ TksSee w' a (toksC (charsOf s)) ∧ Below w.heap.size w w' := by
  have HC := Lib.hid (charactersZ_any s w (by omega))
  have hcl := charsL_len false (codes s)
  have hcl2 := codes_len s
  have hok := charsL_ok false (codes s) (fun z hz => codes_char hz)
  obtain ⟨l0, hl0⟩ : ∃ x, charsOf s = x := ⟨_, rfl⟩
  rw [show charsL false (codes s) = l0 from hl0] at hcl hok
  rw [hl0] at HC ⊢
  obtain ⟨ans, hans⟩ : ∃ x, toksC l0 = x := ⟨_, rfl⟩
  rw [hans]
  have HAns := Lib.hid (show ([] : List CT) ++ toksC (l0.drop 0) = ans by rw [List.nil_append, List.drop_zero]; exact hans)
  have HOk := Lib.hid hok
  have hlen : l0.length ≤ 20000 := by omega
  obtain ⟨i0, hi, hz0, hz1, hz2⟩ := info_parts Tryz.infoTrtT
  clear hcl hcl2 hok hl0 hans
  go_enter Tryz.func10, Tryz.ntmps10
  go_wp2_with (go_at_call 21
               go_loud (
                 refine HC.out.mono ?_
                 clear HC
                 rintro e w1 ⟨a0, cap0, rfl, hown, hb1⟩
                 obtain ⟨g, hrz⟩ := toksZ_start hown (by omega) HOk.out
                 have HB1 := Lib.hid (hb1.trans (((Below.refl w1.heap.size w1).alloc (Nat.le_refl _) (.cells #[.slice a0 l0.length cap0, .int .i64 0] TRz)).mono hb1.size))
                 have HSz := Lib.hid hb1.size
                 have HRZ := Lib.hid hrz
                 clear hown hb1 hrz))
  have T0 : Hid (ToksZ (w1.alloc (.cells #[.slice a0 l0.length cap0, .int .i64 0] TRz)) w1.heap.size g l0 none 0 0 [] 0 (w1.alloc (.cells #[.slice a0 l0.length cap0, .int .i64 0] TRz))) :=
    Lib.hid ⟨MZ.refl HRZ.out, OwnZ.nil _ _, rfl, HRZ.out.lt, HRZ.out.glt⟩
  clear HRZ HOk
  generalize w1.alloc (.cells #[.slice a0 l0.length cap0, .int .i64 0] TRz) = w3 at *
  generalize w1.heap.size = b at *
  go_loopw [4] (fun v wr => ∃ (a : Option Addr) (n cap j : Nat) (ts : List CT), v = .slice a n cap ∧ Hid (ToksZ w3 b g l0 a n cap ts j wr) ∧ Hid (ts ++ toksC (l0.drop j) = ans) ∧ n ≤ j) (fun _ wr => l0.length - posN b wr)
  case atStart => exact ⟨none, 0, 0, 0, [], rfl, T0, HAns, Nat.le_refl _⟩
  case round =>
    clear T0 HAns
    obtain ⟨a, n, cap, j, ts, rfl, HT, HD, hnj⟩ := hrel
    have HCo := Lib.hid (commentsZ_any b g j l0 wr HT.out.moved.rest)
    have HP := Lib.hid HT.out.moved.rest.posN
    by_cases hl : comL (l0.drop j) = []
    · have hd := HD.out
      rw [toksC_none hl, List.append_nil] at hd
      subst hd
      have hnn := HT.out.len
      subst hnn
      have HL := Lib.hid hl
      have HS : Hid (∀ i, l0.drop i = comL (l0.drop j) → ∀ W, RZ W b g l0 i → Calls Tryz.prog 23 #[.pointer (some ⟨b, 0, none⟩), .int .i64 0] W fun e w' => e = .returned (.int .i32 (-1)) ∧ Below W.heap.size W w') := Lib.hid (fun i hi W hr => by
        have := see_res 0 (by omega) W hr
        rw [hi, HL.out, at_nil] at this
        exact this)
      clear hl
      go_wp2_with (first
        | (go_at_call 22; refine HCo.out.mono ?_; clear HCo; rintro e w5 ⟨rfl, i, hi, hm⟩; have HT2 := Lib.hid (HT.out.on hm); have HI := Lib.hid hi; clear hm hi)
        | (go_at_call 23; refine (HS.out i HI.out _ HT2.out.moved.rest).mono ?_; rintro e w6 ⟨rfl, hb⟩; have HT3 := Lib.hid (HT2.out.below hb); clear hb))
      go_ret
      exact ⟨a, cap, rfl, HT3.out.row.see, HT3.out.moved.out HB1.out HSz.out⟩
    · have hd := HD.out
      rw [toksC_some rfl hl] at hd
      have HL := Lib.hid hl
      obtain ⟨⟨⟨kd, vl, un, idb⟩, r⟩, hone⟩ : ∃ x, oneT (comL (l0.drop j)) = x := ⟨_, rfl⟩
      rw [hone] at hd
      simp only at hd
      have HSt := Lib.hid (show (ts ++ [⟨kd, vl, un, idb⟩]) ++ toksC r = ans by rw [List.append_assoc]; exact hd)
      have HLe := Lib.hid (comL_le (l0.drop j))
      have HOne := Lib.hid hone
      obtain ⟨x, hx⟩ : ∃ x, at_ (comL (l0.drop j)) 0 = x := ⟨_, rfl⟩
      have HX := Lib.hid hx
      have HLi : Hid (∀ i, l0.drop i = comL (l0.drop j) → i < l0.length ∧ j ≤ i ∧ x ≠ -1) := Lib.hid (fun i hi => by
        have h1 : 0 < (l0.drop i).length := by rw [hi]; exact List.length_pos_iff.2 hl
        have h2 := HLe.out
        rw [← hi, List.length_drop, List.length_drop] at h2
        rw [List.length_drop] at h1
        refine ⟨by omega, by omega, ?_⟩
        have h3 := HT.out.moved.rest.ok (l0[i]'(by omega)) (List.getElem_mem _)
        rw [← hx, ← hi, at_some (by rw [List.length_drop]; omega), List.getElem_drop]
        simp only [Nat.add_zero]
        unfold okC at h3
        omega)
      have HS : Hid (∀ i, l0.drop i = comL (l0.drop j) → ∀ W, RZ W b g l0 i → Calls Tryz.prog 23 #[.pointer (some ⟨b, 0, none⟩), .int .i64 0] W fun e w' => e = .returned (.int .i32 x) ∧ Below W.heap.size W w') := Lib.hid (fun i hi W hr => by
        have := see_res 0 (by omega) W hr
        rw [hi, HX.out] at this
        exact this)
      have HOn : Hid (∀ i, l0.drop i = comL (l0.drop j) → ∀ W, RZ W b g l0 i → Calls Tryz.prog 24 #[.pointer (some ⟨b, 0, none⟩)] W fun e w' => e = .returned (.agg #[.int .u8 ((kd : Nat) : Int), .string ⟨vl.toArray⟩, .string ⟨un.toArray⟩, .bool idb]) ∧ ∃ i2, i < i2 ∧ l0.drop i2 = r ∧ MZ W b g l0 i2 w') := Lib.hid (fun i hi W hr => by
        have := oneZ_any b g i l0 W hr hlen (HLi.out i hi).1
        rw [hi, HOne.out] at this
        exact this)
      have hnn := HT.out.len
      subst hnn
      clear hl hd hone hx HX HD HOne
      go_wp2_with (first
        | (go_at_call 22; refine HCo.out.mono ?_; clear HCo; rintro e w5 ⟨rfl, i, hi2, hm⟩; have HT2 := Lib.hid (HT.out.on hm); have HI := Lib.hid hi2; have hli := HLi.out i hi2; have bx : (x == -1) = false := (by rw [beq_eq_false_iff_ne]; exact hli.2.2); have HLi2 := Lib.hid hli; clear hm hi2 hli)
        | (go_at_call 23; refine (HS.out i HI.out _ HT2.out.moved.rest).mono ?_; rintro e w6 ⟨rfl, hb⟩; have HT3 := Lib.hid (HT2.out.below hb); clear hb)
        | (go_at_call 24
           go_loud (
             refine (HOn.out i HI.out _ HT3.out.moved.rest).mono ?_
             rintro e w7 ⟨rfl, i2, hi2, hr2, hm⟩
             have hT4 := HT3.out.on hm
             have hbe4 : Below w7.heap.size w7 (w7.alloc (.cells #[.int .u8 ((kd : Nat) : Int), .string ⟨vl.toArray⟩, .string ⟨un.toArray⟩, .bool idb] TRt)) := (Below.refl _ _).alloc (Nat.le_refl _) _
             have hbe5 : Below w7.heap.size w7 ((w7.alloc (.cells #[.int .u8 ((kd : Nat) : Int), .string ⟨vl.toArray⟩, .string ⟨un.toArray⟩, .bool idb] TRt)).alloc (.cells #[.int .u8 ((kd : Nat) : Int), .string ⟨vl.toArray⟩, .string ⟨un.toArray⟩, .bool idb] TRt)) := hbe4.alloc (by simp) _
             have HT5 := Lib.hid (hT4.below hbe5)
             have HS5 := Lib.hid hT4.moved.grown.size
             have HB5 := Lib.hid hbe5.size
             have HI2 := Lib.hid hi2
             have HR2 := Lib.hid hr2
             clear hm hT4 hbe4 hbe5 hi2 hr2))
        | (at_builtin; refine wpList_append_own _ rfl _ _ 26 rfl w3.heap.size TRt i0 _ 4 48 Tryz.underlying26 hi hz0 hz1 hz2 rfl (by decide) _ ts.length (tokCells ts) rfl HT5.out.row ⟨w7.heap.size + 1, 0, none⟩ 1 1 [.int .u8 ((kd : Nat) : Int), .string ⟨vl.toArray⟩, .string ⟨un.toArray⟩, .bool idb] rfl ?c1 ?c2 ?c3 ?c4 ?c5 ?c6 ?_))
      case c1 => rfl
      case c2 =>
        have := qnews (w7.alloc (.cells #[.int .u8 ((kd : Nat) : Int), .string ⟨vl.toArray⟩, .string ⟨un.toArray⟩, .bool idb] TRt)) [.int .u8 ((kd : Nat) : Int), .string ⟨vl.toArray⟩, .string ⟨un.toArray⟩, .bool idb] TRt
        rwa [show (w7.alloc (.cells #[.int .u8 ((kd : Nat) : Int), .string ⟨vl.toArray⟩, .string ⟨un.toArray⟩, .bool idb] TRt)).heap.size = w7.heap.size + 1 by simp] at this
      case c3 => intro u hu; simp only [List.mem_cons, List.not_mem_nil, or_false] at hu; rcases hu with rfl | rfl | rfl | rfl <;> rfl
      case c4 => have := HT.out.moved.rest.le; unfold maxLen; omega
      case c5 => have := HT.out.moved.rest.le; omega
      case c6 => exact Nat.le_trans HS5.out HB5.out
      intro v' W hown' hgrow _
      obtain ⟨a1, cap1, hvs1⟩ := U.slice_of hown'
      subst hvs1
      have HT6 := Lib.hid (HT5.out.wrote (t := ⟨kd, vl, un, idb⟩) hown' rfl hgrow)
      clear hown' hgrow HT5
      go_wp2
      have hle6 := HT6.out.moved.rest.le
      have hli2 := HLi2.out
      have hi2 := HI2.out
      rw [← HR2.out] at HSt
      exact ⟨⟨a1, _, cap1, i2, ts ++ [⟨kd, vl, un, idb⟩], rfl, HT6, HSt, by omega⟩, by rw [HT6.out.moved.rest.posN, HP.out]; omega⟩
end Go.Proofs.YtmhdocgoeahbdaaGreatDoor
namespace Go.Proofs.YtmhdocgoeahbdaaGreatDoor
open Go.RowKit Go.RunKit Go.UtfKit Go.Lib Go.CssKit

set_option maxRecDepth 100000 in
set_option maxHeartbeats 4000000 in
theorem lawReads (s : ByteArray) (w : World) (ht : U.Tabs w) :
    Calls Tryz.prog 3 #[.string s] w fun e w' => e = .returned (.bool true) ∧ Below w.heap.size w w' := by
  by_cases hs : 4000 < s.size
  · have HW := Lib.hid (works7_any w ht)
    have hI : (4000 : Int) < s.size := by omega
    clear ht
    go_enter Tryz.func3, Tryz.ntmps3
    go_wp2_with (go_at_call 7; refine HW.out.mono ?_; rintro e w1 ⟨rfl, hb⟩; have HB := Lib.hid hb; clear hb)
    go_ret
    exact ⟨rfl, HB.out⟩
  · have hI : ¬ (4000 : Int) < s.size := by omega
    have HT := Lib.hid (tokens7_any s w ht (by omega))
    have HZ := Lib.hid (fun W => tokensZ_any s W (by omega))
    have HW := Lib.hid (fun W (hb : Below w.heap.size w W) => works7_any W (ht.on hb))
    have hcl := charsL_len false (codes s)
    have hcl2 := codes_len s
    have htl := toksD_len _ (comL (charsOf s)) (Nat.le_refl _)
    have hcm := comL_le (charsOf s)
    rw [← toksC_com] at htl
    have HLen : Hid ((toksC (charsOf s)).length ≤ 4294967296) := Lib.hid (by unfold charsOf at htl hcm ⊢; omega)
    generalize toksC (charsOf s) = ts at *
    have HSame := Lib.hid (fun W ao bo c1 c2 (ha : TksSee W ao ts) (hb : TksSee W bo ts) => same7_any ao bo c1 c2 ts ts HLen.out W ha hb)
    rw [decide_eq_true (rfl : ts = ts)] at HSame
    clear ht hcl hcl2 htl hcm
    go_enter Tryz.func3, Tryz.ntmps3
    go_wp2_with (first
      | (go_at_call 9; refine HT.out.mono ?_; rintro e w1 ⟨a1, cap1, rfl, hown, hb⟩; have HO := Lib.hid hown.see; have HB := Lib.hid hb; clear hb hown)
      | (go_at_call 10; refine (HZ.out _).mono ?_; rintro e w2 ⟨a2, cap2, rfl, hsee, hb⟩; have HO2 := Lib.hid hsee; have HO1 : Hid (TksSee w2 a1 ts) := Lib.hid (fun W' hb' => HO.out W' (hb.trans (hb'.mono hb.size))); replace HB := Lib.hid (HB.out.trans (hb.mono HB.out.size)); clear hb hsee)
      | (go_at_call 8; refine (HSame.out _ _ _ _ _ HO1.out HO2.out).mono ?_; rintro e w3 ⟨rfl, hb⟩; replace HB := Lib.hid (HB.out.trans (hb.mono HB.out.size)); clear hb)
      | (go_at_call 7; refine (HW.out _ HB.out).mono ?_; rintro e w4 ⟨rfl, hb⟩; replace HB := Lib.hid (HB.out.trans (hb.mono HB.out.size)); clear hb))
    go_ret
    exact ⟨rfl, HB.out⟩
end Go.Proofs.YtmhdocgoeahbdaaGreatDoor
namespace Go.Proofs.YtmhdocgoeahbdaaGreatDoor
open Go.RowKit Go.RunKit Go.UtfKit Go.Lib

theorem tabs_more {W : World} {l : List (String × DataW Unit)} (e : (l.filter fun x => x.1 == "unicode/utf8.acceptRanges" || x.1 == "unicode/utf8.first") = [("unicode/utf8.acceptRanges", Rows.laid_unicode_utf8_acceptRanges), ("unicode/utf8.first", Rows.laid_unicode_utf8_first)])
    (h : laidMet Tryz.prog l W) : U.Tabs W := by
  have := laidMet.filter (fun x => x.1 == "unicode/utf8.acceptRanges" || x.1 == "unicode/utf8.first") h
  rw [e] at this
  exact U.tabs_of this
end Go.Proofs.YtmhdocgoeahbdaaGreatDoor
namespace Go.CssKit
open Go Go.Lib
def digL (n : Nat) : UInt8 := if n < 10 then UInt8.ofNat (48 + n) else UInt8.ofNat (87 + n)
/-- The digits to the base 16, small letters. -/
def hexL : Nat → Nat → List UInt8
  | 0, _ => []
  | f + 1, n => (if n < 16 then [] else hexL f (n / 16)) ++ [digL (n % 16)]
theorem hexL_last {f u : Nat} (hf : 1 ≤ f) (hu : u < 16) : hexL f u = [digL u] := by
  obtain ⟨g, rfl⟩ : ∃ g, f = g + 1 := ⟨f - 1, by omega⟩
  unfold hexL
  rw [if_pos hu, Nat.mod_eq_of_lt hu]; rfl
theorem hexL_more {f u : Nat} (hf : 1 ≤ f) (hu : ¬ u < 16) : hexL f u = hexL (f - 1) (u / 16) ++ [digL (u % 16)] := by
  obtain ⟨g, rfl⟩ : ∃ g, f = g + 1 := ⟨f - 1, by omega⟩
  conv => lhs; unfold hexL
  rw [if_neg hu]; rfl
theorem hexL_len : ∀ f n, (hexL f n).length ≤ f
  | 0, _ => Nat.le_refl _
  | f + 1, n => by
    have := hexL_len f (n / 16)
    unfold hexL
    split <;> simp <;> omega
theorem digL_up : ∀ k, k < 16 → digL k < 128 ∧ toUpperA [digL k] = [(if k < 10 then UInt8.ofNat (48 + k) else UInt8.ofNat (55 + k))] := by decide
end Go.CssKit
namespace Go.Proofs.YtmhdocgoeahbdaaGreatDoor
open Go.RowKit Go.RunKit Go.UtfKit Go.Lib Go.CssKit

/-- The library's table, at the place that 16 leads to. -/
def DeB (w : World) : Prop := w.cell? ⟨6, 15, none⟩ = some (.int .u8 4)
theorem DeB.on {w w' : World} (h : DeB w) (hb : Below w.heap.size w w') : DeB w' := by
  unfold DeB at h ⊢
  rw [hb.cell (World.block_lt_of_cell? _ _ h)]
  exact h
theorem and_16 : IntKind.u64.wrap (bits BinOp.and IntKind.u64 16 (IntKind.u64.wrap (-16)) * 285870213051353865) / 288230376151711744 = 15 := by kernel_rfl
theorem and_i16 : bits .and .i64 16 15 = 0 := by kernel_rfl

set_option maxRecDepth 100000 in
set_option maxHeartbeats 1000000 in
theorem tz64_any (w : World) (hd : DeB w) : Calls Tryz.prog 138 #[.int .u64 16] w fun e w' => e = .returned (.int .i64 4) ∧ w = w' := by
  unfold DeB at hd
  have e1 := and_16
  go_enter Tryz.func138, Tryz.ntmps138
  go_big_wp2
  go_ret
  exact ⟨rfl, rfl⟩
set_option maxRecDepth 100000 in
set_option maxHeartbeats 1000000 in
theorem tz_any (w : World) (hd : DeB w) : Calls Tryz.prog 133 #[.int .u64 16] w fun e w' => e = .returned (.int .i64 4) ∧ w = w' := by
  have H := Lib.hid (tz64_any w hd)
  clear hd
  go_enter Tryz.func133, Tryz.ntmps133
  go_big_wp2_with (go_at_call 138; refine H.out.mono ?_; rintro e w1 ⟨rfl, rfl⟩)
  go_ret
  exact ⟨rfl, rfl⟩
set_option maxRecDepth 100000 in
set_option maxHeartbeats 1000000 in
theorem pow2_any (w : World) : Calls Tryz.prog 132 #[.int .i64 16] w fun e w' => e = .returned (.bool true) ∧ w = w' := by
  have e1 := and_i16
  go_enter Tryz.func132, Tryz.ntmps132
  go_big_wp2
  go_ret
  exact ⟨rfl, rfl⟩

theorem and15_any (u : Nat) (hu : u < 4294967296) : bits .and .u64 ((u : Nat) : Int) 15 = ((u % 16 : Nat) : Int) := by
  have h := bits_mask .u64 32 (by decide) (fun n h0 h1 => by rw [IntKind.wrap_u64]; omega) 4 (by decide) ((u : Nat) : Int) (by omega) (by omega)
  rw [show ((2 : Int) ^ 4 - 1) = 15 from rfl, show ((2 : Int) ^ 4) = 16 from rfl] at h
  rw [h]; omega
abbrev TH65 : TypeId := 131
/-- The digits so far, at the end of the row of 65 bytes. -/
structure HexAt (w : World) (bb i : Nat) (S : List UInt8) (W : World) : Prop where
  ex : ∃ cs, W.heap[bb]? = some (.cells cs TH65 (0, 0)) ∧ cs.size = 65 ∧ ∀ j x, S[j]? = some x → cs[i + j]? = some (.int .u8 ((x.toNat : Nat) : Int))
  sum : i + S.length = 65
  below : Below w.heap.size w W
  le : w.heap.size ≤ bb
theorem HexAt.cells {w W : World} {bb i : Nat} {S : List UInt8} (h : HexAt w bb i S W) (k : Nat) (hk : k < 65) : (∃ v, W.cell? ⟨bb, k, none⟩ = some v) ∧ W.frozen? ⟨bb, k, none⟩ = false := by
  obtain ⟨cs, h1, h2, _⟩ := h.ex
  refine ⟨⟨cs[k]'(by omega), ?_⟩, frozen_of_row W bb k _ _ h1⟩
  simp [World.cell?, h1, h2, hk]
theorem HexAt.put {w W : World} {bb i : Nat} {S : List UInt8} (h : HexAt w bb (i + 1) S W) (x : UInt8) : HexAt w bb i (x :: S) (W.setCell ⟨bb, i, none⟩ (.int .u8 ((x.toNat : Nat) : Int))) := by
  obtain ⟨cs, h1, h2, h3⟩ := h.ex
  have hs := h.sum
  refine ⟨⟨_, heap_setCell_same W bb i _ _ _ h1, by simp [h2], fun j y hy => ?_⟩, by simp; omega, ?_, h.le⟩
  · cases j with
    | zero =>
      simp only [List.getElem?_cons_zero, Option.some.injEq] at hy
      subst hy
      simp [h2, show i < 65 by omega]
    | succ j =>
      rw [List.getElem?_cons_succ] at hy
      have := h3 j y hy
      rw [show i + 1 + j = i + (j + 1) by omega] at this
      rw [Array.getElem?_setIfInBounds_ne (by omega)]
      exact this
  · exact h.below.grown (grown_cell W bb i _) h.below.size (fun k e => by cases e; exact h.le)
theorem HexAt.reads {w W : World} {bb i : Nat} {S : List UInt8} (h : HexAt w bb i S W) : ∀ j u, (byteCells S)[j]? = some u → W.cell? ((⟨bb, i, none⟩ : Addr).add j) = some u := by
  obtain ⟨cs, h1, h2, h3⟩ := h.ex
  intro j u hu
  unfold byteCells at hu
  rw [List.getElem?_map] at hu
  cases hx : S[j]? with
  | none => rw [hx] at hu; cases hu
  | some x =>
    rw [hx] at hu
    simp only [Option.map_some, Option.some.injEq] at hu
    subst hu
    rw [add_off]
    simp only [World.cell?, h1]
    exact h3 j x hx
end Go.Proofs.YtmhdocgoeahbdaaGreatDoor
namespace Go.CssKit
open Go Go.Lib
def digsB : ByteArray := ⟨#[48, 49, 50, 51, 52, 53, 54, 55, 56, 57, 97, 98, 99, 100, 101, 102, 103, 104, 105, 106, 107, 108, 109, 110, 111, 112, 113, 114, 115, 116, 117, 118, 119, 120, 121, 122]⟩
theorem digs16_at (k : Nat) (h : k < 16) (hs : k < (⟨#[48, 49, 50, 51, 52, 53, 54, 55, 56, 57, 97, 98, 99, 100, 101, 102, 103, 104, 105, 106, 107, 108, 109, 110, 111, 112, 113, 114, 115, 116, 117, 118, 119, 120, 121, 122]⟩ : ByteArray).size) : ((⟨#[48, 49, 50, 51, 52, 53, 54, 55, 56, 57, 97, 98, 99, 100, 101, 102, 103, 104, 105, 106, 107, 108, 109, 110, 111, 112, 113, 114, 115, 116, 117, 118, 119, 120, 121, 122]⟩ : ByteArray)[k]'hs).toNat = (digL k).toNat := by
  match k, h, hs with
  | 0, _, _ => rfl
  | 1, _, _ => rfl
  | 2, _, _ => rfl
  | 3, _, _ => rfl
  | 4, _, _ => rfl
  | 5, _, _ => rfl
  | 6, _, _ => rfl
  | 7, _, _ => rfl
  | 8, _, _ => rfl
  | 9, _, _ => rfl
  | 10, _, _ => rfl
  | 11, _, _ => rfl
  | 12, _, _ => rfl
  | 13, _, _ => rfl
  | 14, _, _ => rfl
  | 15, _, _ => rfl
  | n + 16, h, _ => omega
end Go.CssKit
namespace Go.Proofs.YtmhdocgoeahbdaaGreatDoor
open Go.RowKit Go.RunKit Go.UtfKit Go.Lib Go.CssKit

theorem byteCells_at (l : List UInt8) (j : Nat) (hj : j < l.length) : (byteCells l)[j]? = some (.int .u8 ((l[j].toNat : Nat) : Int)) := by simp [byteCells, hj]
theorem HexAt.start (w : World) : HexAt w w.heap.size 65 [] (w.alloc (.cells (Array.replicate 65 (.int .u8 0)) TH65)) :=
  ⟨⟨_, heap_alloc_new w _, by simp, fun j x hx => by simp at hx⟩, rfl, (Below.refl _ _).alloc (Nat.le_refl _) _, Nat.le_refl _⟩

theorem slice65 (bb k : Nat) (W : World) (hk : k < 65) : (Instr.sliceAt TH65 (.pointer (some ⟨bb, 0, none⟩)) (some (.int .i64 ((k : Nat) : Int))) none none).run Tryz.prog W = .ok (.slice (some ⟨bb, k, none⟩) (65 - k) (65 - k)) W := by
  have h65 : Tryz.prog.arrayLen TH65 = 65 := by kernel_rfl
  have hel : Tryz.prog.elem TH65 = 5 := by kernel_rfl
  have hu : Tryz.prog.underlying TH65 = some (.array (Tryz.prog.arrayLen TH65) (Tryz.prog.elem TH65)) := by rw [h65, hel]; kernel_rfl
  rw [run_sliceAt_array_l W TH65 ⟨bb, 0, none⟩ hu .i64 ((k : Nat) : Int) (by omega) (by rw [h65]; omega), h65, hel]
  have hs : (sizeOf 5).run Tryz.prog W = .ok 1 W := Tryz.sizeOf5 W
  rw [hs]
  simp only [Result.andThen, slicedAt, Int.toNat_natCast, Nat.mul_one, add_off, Nat.zero_add]
  rw [if_neg (by omega)]
set_option maxRecDepth 100000 in
set_option maxHeartbeats 4000000 in
theorem bits16_any (V : Nat) (hU : V < 16777216) (w : World) (hd : DeB w) :
    Calls Tryz.prog 124 #[.slice none 0 0, .int .u64 ((V : Nat) : Int), .int .i64 16, .bool false, .bool false] w fun e w' => e = .returned (.tuple #[.slice none 0 0, .string ⟨(hexL 9 V).toArray⟩]) ∧ Below w.heap.size w w' := by
  have HP := Lib.hid (fun W => pow2_any W)
  have HT := Lib.hid (fun W (h : DeB W) => tz_any W h)
  have HD := Lib.hid (hd.on ((Below.refl w.heap.size w).alloc (Nat.le_refl _) (.cells (Array.replicate 65 (.int .u8 0)) TH65)))
  have H0 := Lib.hid (HexAt.start w)
  have HU := Lib.hid hU
  obtain ⟨ans, hans⟩ : ∃ x, hexL 9 V = x := ⟨_, rfl⟩
  rw [hans]
  have T0 : Hid (hexL 9 V ++ [] = ans ∧ V < 16 ^ 9) := Lib.hid ⟨by rw [List.append_nil]; exact hans, by omega⟩
  clear hd hans
  go_enter Tryz.func124, Tryz.ntmps124
  go_big_wp2_with (first
    | (go_at_call 132; refine (HP.out _).mono ?_; rintro e w1 ⟨rfl, rfl⟩)
    | (go_at_call 133; refine (HT.out _ HD.out).mono ?_; rintro e w1 ⟨rfl, rfl⟩))
  clear HP HT HD
  generalize w.alloc (.cells (Array.replicate 65 (.int .u8 0)) TH65) = W0 at *
  obtain ⟨bb, hbb⟩ : ∃ x, w.heap.size = x := ⟨_, rfl⟩
  have HBb := Lib.hid hbb
  rw [hbb] at H0 ⊢
  clear hbb
  go_loopw [1, 13] (fun v j wr => ∃ (u i f : Nat) (S : List UInt8), v = .int .u64 ((u : Nat) : Int) ∧ j = .int .i64 ((i : Nat) : Int) ∧ Hid (HexAt w bb i S wr) ∧ Hid (hexL f u ++ S = ans ∧ u < 16 ^ f) ∧ 1 ≤ f ∧ f + S.length = 9 ∧ i + S.length = 65 ∧ u < 16777216) (fun v _ _ => (RowKit.intOf v).toNat)
  case atStart => exact ⟨V, 65, 9, [], rfl, rfl, H0, T0, by omega, rfl, rfl, HU.out⟩
  case round =>
    clear H0 T0
    obtain ⟨u, i, f, S, rfl, rfl, HA, HD, hf1, hf, hi, hu⟩ := hrel
    obtain ⟨k, rfl⟩ : ∃ k, i = k + 1 := ⟨i - 1, by omega⟩
    obtain ⟨⟨cv, c0⟩, fz⟩ := HA.out.cells k (by omega)
    have hk65 : (k : Int) < 65 := by omega
    have hk0 : (0 : Int) ≤ k := by omega
    have hu36 : (u : Int) < 16777216 := by omega
    by_cases hge : 16 ≤ u
    · have hgeI : (16 : Int) ≤ u := by omega
      have hd := HD.out
      rw [hexL_more hf1 (by omega)] at hd
      have hpow : u / 16 < 16 ^ (f - 1) := by
        have h2 := hd.2
        rw [show f = (f - 1) + 1 by omega, Nat.pow_succ] at h2
        exact Nat.div_lt_of_lt_mul (by omega)
      have hf2 : 1 ≤ f - 1 := by
        by_cases e : f - 1 = 0
        · rw [e] at hpow; omega
        · omega
      have hS : Hid (hexL (f - 1) (u / 16) ++ (digL (u % 16) :: S) = ans ∧ u / 16 < 16 ^ (f - 1)) := Lib.hid ⟨by have := hd.1; rwa [List.append_assoc] at this, hpow⟩
      have hand := and15_any u (by omega)
      have hm16 : u % 16 < 16 := Nat.mod_lt _ (by omega)
      generalize u % 16 = K at *
      have hmI : ((K : Nat) : Int) < 36 := by omega
      have hmN : K < 36 := by omega
      have hdig := digs16_at K hm16 (by show K < 36; omega)
      have HPut := Lib.hid (HA.out.put (digL K))
      clear hd hpow HD
      go_big_wp2
      exact ⟨⟨u / 16, k, f - 1, digL K :: S, by go_num, rfl, HPut, hS, hf2, by simp; omega, by simp; omega, by omega⟩, by simp [RowKit.intOf]; omega⟩
    · have hgeI : ¬ (16 : Int) ≤ u := by omega
      have hd := HD.out.1
      rw [hexL_last hf1 (by omega)] at hd
      have hd : digL u :: S = ans := hd
      have hu16 : u < 16 := by omega
      have huI : (u : Int) < 36 := by omega
      have huN : u < 36 := by omega
      have hdig := digs16_at u hu16 (by show u < 36; omega)
      have hPut := HA.out.put (digL u)
      have hcl : (digL u :: S).length = 65 - k := by simp; omega
      have HCv : Hid ((convert 55 9 (.slice (some ⟨bb, k, none⟩) (65 - k) (65 - k))).run Tryz.prog (wr.setCell ⟨bb, k, none⟩ (.int .u8 (((digL u).toNat : Nat) : Int))) = .ok (.string ⟨(digL u :: S).toArray⟩) (wr.setCell ⟨bb, k, none⟩ (.int .u8 (((digL u).toNat : Nat) : Int)))) := Lib.hid (by
        have := run_convert_bytes_back (P := Tryz.prog) (wr.setCell ⟨bb, k, none⟩ (.int .u8 (((digL u).toNat : Nat) : Int))) 55 9 5 ⟨bb, k, none⟩ (65 - k) (digL u :: S) U.underBytes U.underByte U.underString (fun j hj => hPut.reads j _ (byteCells_at _ j hj))
        rwa [hcl] at this)
      have hsl := slice65 bb k (wr.setCell ⟨bb, k, none⟩ (.int .u8 (((digL u).toNat : Nat) : Int))) (by omega)
      have HPut := Lib.hid hPut
      have hcv := HCv.out
      have HDd := Lib.hid hd
      clear hPut hcl hd HD HCv
      go_big_wp2
      go_ret2
      exact ⟨by rw [← HDd.out]; rfl, HPut.out.below⟩

set_option maxRecDepth 100000 in
set_option maxHeartbeats 2000000 in
theorem format16i_any (V : Nat) (hV : V < 16777216) (w : World) (hd : DeB w) :
    Calls Tryz.prog 111 #[.int .i64 ((V : Nat) : Int), .int .i64 16] w fun e w' => e = .returned (.string ⟨(hexL 9 V).toArray⟩) ∧ Below w.heap.size w w' := by
  have H := Lib.hid (bits16_any V hV w hd)
  have hV2 : (V : Int) < 16777216 := by omega
  have hV0 : ¬ (V : Int) < 0 := by omega
  generalize (⟨(hexL 9 V).toArray⟩ : ByteArray) = s at *
  clear hd
  go_enter Tryz.func111, Tryz.ntmps111
  go_big_wp2_with (go_at_call 124; refine H.out.mono ?_; rintro e w1 ⟨rfl, hb⟩; have HB := Lib.hid hb; clear hb)
  go_ret
  exact ⟨rfl, HB.out⟩
set_option maxRecDepth 100000 in
set_option maxHeartbeats 2000000 in
theorem format16_any (V : Nat) (hV : V < 16777216) (w : World) (hd : DeB w) :
    Calls Tryz.prog 102 #[.int .i64 ((V : Nat) : Int), .int .i64 16] w fun e w' => e = .returned (.string ⟨(hexL 9 V).toArray⟩) ∧ Below w.heap.size w w' := by
  have H := Lib.hid (format16i_any V hV w hd)
  generalize (⟨(hexL 9 V).toArray⟩ : ByteArray) = s at *
  clear hd
  go_enter Tryz.func102, Tryz.ntmps102
  go_big_wp2_with (go_at_call 111; refine H.out.mono ?_; rintro e w1 ⟨rfl, hb⟩; have HB := Lib.hid hb; clear hb)
  go_ret
  exact ⟨rfl, HB.out⟩
theorem hex_up : ∀ f n, toUpperA (hexL f n) = hexF f n
  | 0, _ => rfl
  | f + 1, n => by
    have ih := hex_up f (n / 16)
    have hd := (digL_up (n % 16) (Nat.mod_lt _ (by omega))).2
    unfold toUpperA at ih hd ⊢
    unfold hexL hexF
    rw [List.map_append, hd]
    split
    · rfl
    · rw [ih]
theorem hex_ascii : ∀ f n (b : UInt8), b ∈ hexL f n → b.toNat < 128
  | 0, _, b, h => by cases h
  | f + 1, n, b, h => by
    unfold hexL at h
    rcases List.mem_append.1 h with h | h
    · split at h
      · cases h
      · exact hex_ascii f _ b h
    · simp only [List.mem_cons, List.not_mem_nil, or_false] at h
      subst h
      exact (digL_up (n % 16) (Nat.mod_lt _ (by omega))).1
/-- The digits in great letters, as escape asks. -/
theorem upper16_any (V : Nat) (w : World) : Calls Tryz.prog 101 #[.string ⟨(hexL 9 V).toArray⟩] w fun e w' => e = .returned (.string ⟨(hexF 9 V).toArray⟩) ∧ Below w.heap.size w w' := by
  have h := Tryz.strings_ToUpper_ascii ⟨(hexL 9 V).toArray⟩ w (by have := hexL_len 9 V; show (hexL 9 V).toArray.size ≤ _; simp; omega) (fun j b hb => by
    have : (⟨(hexL 9 V).toArray⟩ : ByteArray).data.toList = hexL 9 V := by simp
    rw [this] at hb
    exact hex_ascii 9 V b (List.mem_of_getElem? hb))
  have e : (⟨(hexL 9 V).toArray⟩ : ByteArray).data.toList = hexL 9 V := by simp
  rw [e, hex_up] at h
  exact h
end Go.Proofs.YtmhdocgoeahbdaaGreatDoor
namespace Go.Proofs.YtmhdocgoeahbdaaGreatDoor
open Go.RowKit Go.RunKit Go.UtfKit Go.Lib Go.CssKit

set_option maxRecDepth 100000 in
set_option maxHeartbeats 4000000 in
theorem escape_any (w0 : World) (hd : DeB w0) (b : Nat) (t : CT) (z : Int) (hz : 0 ≤ z ∧ z ≤ 1114111) : EscAs w0 b t z := by
  intro s W hlen h
  obtain ⟨V, rfl⟩ := Int.eq_ofNat_of_zero_le hz.1
  have hV : V < 16777216 := by omega
  have hV2 : (V : Int) < 16777216 := by omega
  have hwr : IntKind.i64.wrap (V : Int) = V := by rw [IntKind.wrap_i64]; omega
  obtain ⟨ts, hts⟩ : ∃ x, escT (V : Int) = x := ⟨_, rfl⟩
  rw [hts]
  have hfl := hexF_len 9 V
  have H1 := Lib.hid (pbyte_any w0 b 92 s t W (by omega) h)
  have HF := Lib.hid (fun W' (h : PrAt w0 b (s ++ [92]) t W') => (format16_any V hV W' (hd.on h.below)).mono (fun e w' hh => (⟨hh.1, h.on hh.2, keep_below hh.2⟩ : e = .returned (.string ⟨(hexL 9 V).toArray⟩) ∧ PrAt w0 b (s ++ [92]) t w' ∧ KeepP b W' w')))
  have HUp := Lib.hid (fun W' (h : PrAt w0 b (s ++ [92]) t W') => (upper16_any V W').mono (fun e w' hh => (⟨hh.1, h.on hh.2, keep_below hh.2⟩ : e = .returned (.string ⟨(hexF 9 V).toArray⟩) ∧ PrAt w0 b (s ++ [92]) t w' ∧ KeepP b W' w')))
  have HWr := Lib.hid (fun W' (h : PrAt w0 b (s ++ [92]) t W') => pwrite_any w0 b ⟨(hexF 9 V).toArray⟩ (s ++ [92]) t W' (by rw [List.length_append]; show _ + (hexF 9 V).toArray.size ≤ _; simp; omega) h)
  have H2 := Lib.hid (fun W' (h : PrAt w0 b ((s ++ [92]) ++ hexF 9 V) t W') => pbyte_any w0 b 32 ((s ++ [92]) ++ hexF 9 V) t W' (by rw [List.length_append, List.length_append]; simp; omega) h)
  have HTs := Lib.hid (show ((s ++ [92]) ++ hexF 9 V) ++ [32] = s ++ ts by rw [← hts]; unfold escT; simp)
  have e1 : (⟨(hexF 9 V).toArray⟩ : ByteArray).data.toList = hexF 9 V := by simp
  rw [e1] at HWr
  generalize (⟨(hexF 9 V).toArray⟩ : ByteArray) = hb at *
  generalize (⟨(hexL 9 V).toArray⟩ : ByteArray) = lb at *
  generalize hexF 9 V = hf at *
  clear h hd hts hfl e1 hz
  go_enter Tryz.func86, Tryz.ntmps86
  go_big_wp2_with (go_at_call 60; refine H1.out.mono ?_; clear H1; rintro e w1 ⟨rfl, hp, hk⟩; have HP := Lib.hid hp; have HK := Lib.hid hk; clear hp hk)
  go_region_law (first
    | (go_simp; go_at_call 102; refine (HF.out _ (HP.out.on ((Below.refl _ _).drew))).mono ?_; clear HF; rintro e w2 ⟨rfl, hp2, hk2⟩; have HP2 := Lib.hid hp2; have HK2 := Lib.hid (HK.out.trans ((keep_below ((Below.refl _ _).drew)).trans hk2)); clear hp2 hk2)
    | (go_simp; go_at_call 101; refine (HUp.out _ HP2.out).mono ?_; clear HUp; rintro e w3 ⟨rfl, hp3, hk3⟩; have HP3 := Lib.hid hp3; have HK3 := Lib.hid (HK2.out.trans hk3); clear hp3 hk3)
    | (go_simp; go_at_call 26; refine (HWr.out _ HP3.out).mono ?_; clear HWr; rintro e w4 ⟨rfl, hp4, hk4⟩; have HP4 := Lib.hid hp4; have HK4 := Lib.hid (HK3.out.trans hk4); clear hp4 hk4))
  all_goals go_big_wp2_with (go_at_call 60; refine (H2.out _ HP4.out).mono ?_; clear H2; rintro e w5 ⟨rfl, hp5, hk5⟩; have HP5 := Lib.hid (show PrAt w0 b (s ++ ts) t w5 by rw [← HTs.out]; exact hp5); have HK5 := Lib.hid (HK4.out.trans hk5); clear hp5 hk5)
  all_goals first | go_end0 | ((try simp only [Exit.inBlock, Exit.then]); refine bodyPost_ret (results_none rfl _ _ _) rfl ?_)
  all_goals exact ⟨rfl, HP5.out, HK5.out⟩
end Go.Proofs.YtmhdocgoeahbdaaGreatDoor
namespace Go.CssKit
open Go Go.Lib Go.UtfKit
/-- What the law asks of a token: a kind that there is, a value where one must be, a unit just of a measure. -/
def tokOkB (t : CT) : Bool := decide (1 ≤ t.kind) && decide (t.kind ≤ 14) && (!t.value.isEmpty || t.kind == 1 || t.kind == 13 || t.kind == 14 || t.kind == 6 || t.kind == 7) && ((!t.unit.isEmpty) == (t.kind == 10))
/-- Tokens that are few and short. -/
def smallB (l : List CT) : Bool := decide (l.length ≤ 4000) && l.all fun x => decide (x.value.length ≤ 4000) && decide (x.unit.length ≤ 4000)
def edgesL : List (List UInt8) := [[92], [34, 92, 100], [34, 92, 99, 32, 120], [92, 100, 32], [34], [39], [47, 42, 47], [47, 42, 42, 47, 42], [35], [35, 45], [35, 45, 45], [64], [64, 45], [60, 33], [60, 33, 45, 45], [45, 45], [45, 45, 62], [45, 62], [43], [43, 45, 49], [46], [46, 46, 53], [49, 46], [49, 46, 101, 51], [49, 101, 43], [49, 101, 43, 49], [92, 10], [92, 49, 49, 48, 48, 48, 48, 32, 120], [92, 48], [92, 100, 56, 48, 48], [117, 114, 108, 40, 97, 32, 98, 41], [39, 97, 34, 98, 92, 39, 99, 39], [97, 92, 32, 98], [92, 54, 53, 32, 51], [49, 92, 54, 53, 32, 51], [49, 92, 54, 53, 45, 51], [45, 92, 51, 49], [92, 45], [239, 191, 190], [60, 60, 33, 45, 45], [45, 45, 45, 62], [97, 45, 45, 62], [49, 45, 45, 62], [49, 37, 37], [64, 64, 97], [35, 35, 97], [47, 32, 42], [49, 101, 51, 101, 51], [255], [32, 47, 42, 42, 47, 32], [97, 32, 47, 42, 32, 42, 47, 32, 98], [34, 120, 10, 47, 42, 42, 47, 32, 47, 42, 42, 47, 10]]
def edgesK : List (List UInt8) := [[92], [47, 42, 42, 47, 42], [60, 33, 45, 45], [46, 46, 53], [92, 48], [49, 92, 54, 53, 45, 51], [49, 45, 45, 62], [32, 47, 42, 42, 47, 32]]
end Go.CssKit
namespace Go.Proofs.YtmhdocgoeahbdaaGreatDoor
open Go.RowKit Go.RunKit Go.UtfKit Go.Lib Go.CssKit
/-- The tokens of the text, printed, are read as themselves, and printed as before. -/
def backB (s : List UInt8) : Bool :=
  let l := toksC (charsOf ⟨s.toArray⟩)
  let t := printC l
  let m := toksC (charsOf ⟨t.toArray⟩)
  decide (t.length ≤ 4000) && decide (l = m) && decide (printC m = t) && l.all tokOkB && smallB l
def rowB (a : List UInt8) : Bool := edgesK.all fun b => backB (a ++ b) && backB (a ++ 32 :: b)
end Go.Proofs.YtmhdocgoeahbdaaGreatDoor
namespace Go.CssKit
open Go Go.Lib Go.UtfKit
theorem nameZ_sub {mis : Nat → Bool} : ∀ {l : Chars} {i : Nat} {z : Int}, z ∈ nameZ mis i l → z ∈ l
  | [], _, _, h => by cases h
  | a :: l, i, z, h => by
    unfold nameZ at h
    rcases List.mem_append.1 h with h | h
    · split at h
      · rw [List.mem_singleton.1 h]; exact List.mem_cons_self ..
      · cases h
    · exact List.mem_cons_of_mem _ (nameZ_sub h)
theorem codes_rng {s : ByteArray} {z : Int} (h : z ∈ codes s) : 0 ≤ z ∧ z ≤ 1114111 := by
  have := codes_char h
  omega
theorem escZ_rng {x : CT} {z : Int} (h : z ∈ escZ x) : 0 ≤ z ∧ z ≤ 1114111 := by
  unfold escZ at h
  split at h
  · exact codes_rng (nameZ_sub h)
  · split at h
    · exact codes_rng (nameZ_sub h)
    · split at h
      · exact codes_rng (List.mem_filter.1 h).1
      · split at h
        · exact codes_rng (nameZ_sub h)
        · cases h
theorem small_facts {l : List CT} (h : smallB l = true) : l.length ≤ 4000 ∧ ∀ x, x ∈ l → x.value.length ≤ 4000 ∧ x.unit.length ≤ 4000 := by
  unfold smallB at h
  simp only [Bool.and_eq_true, decide_eq_true_eq, List.all_eq_true] at h
  exact ⟨h.1, fun x hx => h.2 x hx⟩
theorem sumT_le : ∀ (l : List CT), (∀ x, x ∈ l → x.value.length ≤ 4000 ∧ x.unit.length ≤ 4000) → sumT l ≤ 88024 * l.length
  | [], _ => Nat.zero_le _
  | x :: r, h => by
    have h1 := h x (List.mem_cons_self ..)
    have h2 := sumT_le r (fun y hy => h y (List.mem_cons_of_mem _ hy))
    unfold sumT
    rw [List.length_cons]
    omega
end Go.CssKit
namespace Go.Proofs.YtmhdocgoeahbdaaGreatDoor
open Go.RowKit Go.RunKit Go.UtfKit Go.Lib Go.CssKit

theorem print_small {l : List CT} (hs : smallB l = true) (ao : Option Addr) (cap : Nat) (w : World) (ht : U.Tabs w) (hd : DeB w) (hsee : TksSee w ao l) :
    Calls Tryz.prog 12 #[.slice ao l.length cap] w fun e w' => e = .returned (.string ⟨(printC l).toArray⟩) ∧ Below w.heap.size w w' := by
  have hf := small_facts hs
  have hsum := sumT_le l hf.2
  exact print_any l ao cap w ht hsee (fun x hx => by have := hf.2 x hx; omega) (by omega) (by omega) (fun b t x z _ hz => escape_any w hd b t z (escZ_rng hz))

set_option maxRecDepth 100000 in
set_option maxHeartbeats 2000000 in
theorem kinds_any (s : ByteArray) (want : List CT) (ao : Option Addr) (cap : Nat) (w : World) (ht : U.Tabs w) (hsz : s.size ≤ 4000) (h32 : want.length ≤ 4294967296) (hsee : TksSee w ao want) :
    Calls Tryz.prog 16 #[.string s, .slice ao want.length cap] w fun e w' => e = .returned (.bool (decide (toksC (charsOf s) = want))) ∧ Below w.heap.size w w' := by
  have HT := Lib.hid ((tokens7_any s w ht (by omega)).mono (fun e w' hh => (by obtain ⟨a, cap, he, hown, hb⟩ := hh; exact ⟨a, cap, he, hown.see, hb⟩ : ∃ a cap, e = .returned (.slice a (toksC (charsOf s)).length cap) ∧ TksSee w' a (toksC (charsOf s)) ∧ Below w.heap.size w w')))
  have HP := Lib.hid (fun W (h : TksSee W ao want) => plain_any ao cap want h32 W h)
  have hcl := charsL_len false (codes s)
  have hcl2 := codes_len s
  have htl := toksD_len _ (comL (charsOf s)) (Nat.le_refl _)
  have hcm := comL_le (charsOf s)
  rw [← toksC_com] at htl
  have HLen : Hid ((toksC (charsOf s)).length ≤ 4294967296) := Lib.hid (by unfold charsOf at htl hcm ⊢; omega)
  generalize toksC (charsOf s) = ts at *
  have HS := Lib.hid (fun W ao bo c1 c2 (ha : TksSee W ao ts) (hb : TksSee W bo want) => same7_any ao bo c1 c2 ts want HLen.out W ha hb)
  have HW := Lib.hid hsee
  generalize decide (ts = want) = ans at *
  generalize want.length = n at *
  generalize ts.length = m at *
  clear ht hcl hcl2 htl hcm hsee
  go_enter Tryz.func16, Tryz.ntmps16
  go_wp2_with (first
    | (go_at_call 9; refine HT.out.mono ?_; rintro e w1 ⟨a1, cap1, rfl, hown, hb⟩; have HOs := Lib.hid hown; have HB := Lib.hid hb; have HW1 : Hid (TksSee w1 ao want) := Lib.hid (fun W' hb' => HW.out W' (hb.trans (hb'.mono hb.size))); clear hb hown)
    | (go_at_call 14; refine (HP.out _ HW1.out).mono ?_; rintro e w2 ⟨a2, cap2, rfl, hsee, hb⟩; have HO2 := Lib.hid hsee; have HBp := Lib.hid hb; replace HB := Lib.hid (HB.out.trans (hb.mono HB.out.size)); clear hb hsee)
    | (go_at_call 8; refine (HS.out _ _ _ _ _ (fun W' hb' => HOs.out W' (HBp.out.trans (hb'.mono HBp.out.size))) HO2.out).mono ?_; rintro e w3 ⟨rfl, hb⟩; replace HB := Lib.hid (HB.out.trans (hb.mono HB.out.size)); clear hb))
  go_ret
  exact ⟨rfl, HB.out⟩
end Go.Proofs.YtmhdocgoeahbdaaGreatDoor
namespace Go.CssKit
open Go Go.Lib Go.UtfKit
theorem tokOk_cases {kd : Nat} {vl un : List UInt8} {idb : Bool} (h : tokOkB ⟨kd, vl, un, idb⟩ = true) :
    (1 ≤ kd ∧ kd ≤ 14) ∧ ((vl ≠ [] ∧ un ≠ [] ∧ kd = 10) ∨ (vl ≠ [] ∧ un = [] ∧ kd ≠ 10) ∨ (vl = [] ∧ un = [] ∧ (kd = 1 ∨ kd = 6 ∨ kd = 7 ∨ kd = 13 ∨ kd = 14))) := by
  unfold tokOkB at h
  simp only [Bool.and_eq_true, Bool.or_eq_true, decide_eq_true_eq, beq_iff_eq, Bool.not_eq_true', List.isEmpty_eq_false_iff] at h
  obtain ⟨⟨⟨ha, hb⟩, hc⟩, hd⟩ := h
  refine ⟨⟨ha, hb⟩, ?_⟩
  by_cases hu : un = []
  · subst hu
    have h10 : kd ≠ 10 := fun e => by subst e; simp at hd
    by_cases hv : vl = []
    · subst hv
      right; right
      refine ⟨rfl, rfl, ?_⟩
      rcases hc with ((((hc | hc) | hc) | hc) | hc) | hc
      · exact absurd rfl hc
      · exact .inl hc
      · exact .inr (.inr (.inr (.inl hc)))
      · exact .inr (.inr (.inr (.inr hc)))
      · exact .inr (.inl hc)
      · exact .inr (.inr (.inl hc))
    · exact .inr (.inl ⟨hv, rfl, h10⟩)
  · have h10 : kd = 10 := by
      cases un with
      | nil => exact absurd rfl hu
      | cons b u => simpa using hd
    have hv : vl ≠ [] := by
      rcases hc with ((((hc | hc) | hc) | hc) | hc) | hc
      · exact hc
      all_goals omega
    exact .inl ⟨hv, hu, h10⟩
end Go.CssKit
namespace Go.Proofs.YtmhdocgoeahbdaaGreatDoor
open Go.RowKit Go.RunKit Go.UtfKit Go.Lib Go.CssKit

theorem back_facts {s : ByteArray} (h : backB s.data.toList = true) : (printC (toksC (charsOf s))).length ≤ 4000 ∧ toksC (charsOf ⟨(printC (toksC (charsOf s))).toArray⟩) = toksC (charsOf s) ∧ (∀ x, x ∈ toksC (charsOf s) → tokOkB x = true) ∧ smallB (toksC (charsOf s)) = true := by
  unfold backB at h
  rw [show (⟨s.data.toList.toArray⟩ : ByteArray) = s from rfl] at h
  simp only [Bool.and_eq_true, decide_eq_true_eq, List.all_eq_true] at h
  exact ⟨h.1.1.1.1, h.1.1.1.2.symm, h.1.2, h.2⟩

set_option maxRecDepth 100000 in
set_option maxHeartbeats 8000000 in
theorem back_any (s : ByteArray) (w : World) (ht : U.Tabs w) (hd : DeB w) (hsz : s.size ≤ 4000) (h : backB s.data.toList = true) :
    Calls Tryz.prog 17 #[.string s] w fun e w' => e = .returned (.bool true) ∧ Below w.heap.size w w' := by
  obtain ⟨h1, h2, h3, h4⟩ := back_facts h
  have HT := Lib.hid ((tokens7_any s w ht (by omega)).mono (fun e w' hh => (by obtain ⟨a, cap, he, hown, hb⟩ := hh; exact ⟨a, cap, he, hown.see, hb⟩ : ∃ a cap, e = .returned (.slice a (toksC (charsOf s)).length cap) ∧ TksSee w' a (toksC (charsOf s)) ∧ Below w.heap.size w w')))
  have HTs := Lib.hid h3
  have hlen := (small_facts h4).1
  have HPr := Lib.hid (fun W (hb : Below w.heap.size w W) ao cap hs => print_small h4 ao cap W (ht.on hb) (hd.on hb) hs)
  have HT2 := Lib.hid (fun W (hb : Below w.heap.size w W) => (tokens7_any ⟨(printC (toksC (charsOf s))).toArray⟩ W (ht.on hb) (by show (printC (toksC (charsOf s))).toArray.size ≤ _; simp; omega)).mono (fun e w' hh => (by rw [h2] at hh; obtain ⟨a, cap, he, hown, hb⟩ := hh; exact ⟨a, cap, he, hown.see, hb⟩ : ∃ a cap, e = .returned (.slice a (toksC (charsOf s)).length cap) ∧ TksSee w' a (toksC (charsOf s)) ∧ Below W.heap.size W w')))
  have HW := Lib.hid (fun W (hb : Below w.heap.size w W) => works7_any W (ht.on hb))
  have hI : ¬ (4000 : Int) < s.size := by omega
  generalize (⟨(printC (toksC (charsOf s))).toArray⟩ : ByteArray) = tb at *
  generalize toksC (charsOf s) = ts at *
  have HPl := Lib.hid (fun W ao cap (hs : TksSee W ao ts) => plain_any ao cap ts (by omega) W hs)
  have HSm := Lib.hid (fun W ao bo c1 c2 (ha : TksSee W ao ts) (hb : TksSee W bo ts) => same7_any ao bo c1 c2 ts ts (by omega) W ha hb)
  rw [decide_eq_true (rfl : ts = ts)] at HSm
  obtain ⟨n, hn⟩ : ∃ n, ts.length = n := ⟨_, rfl⟩
  rw [hn] at HT HPr HT2 HPl HSm hlen
  have HN := Lib.hid hn
  clear ht hd h h1 h2 h3 h4 hn
  go_enter Tryz.func17, Tryz.ntmps17
  go_upto_region 6 with (first
    | (go_at_call 9; refine HT.out.mono ?_; clear HT; rintro e w1 ⟨a1, cap1, rfl, hs1, hb⟩; have HO1 := Lib.hid hs1; have HB := Lib.hid hb; clear hb hs1)
    | (go_at_call 12; refine (HPr.out _ HB.out _ _ HO1.out).mono ?_; rintro e w2 ⟨rfl, hb⟩; replace HO1 : Hid (TksSee w2 a1 ts) := Lib.hid (fun W' hb' => HO1.out W' (hb.trans (hb'.mono hb.size))); replace HB := Lib.hid (HB.out.trans (hb.mono HB.out.size)); clear hb)
    | (go_at_call 9; refine (HT2.out _ HB.out).mono ?_; clear HT2; rintro e w3 ⟨a3, cap3, rfl, hs3, hb⟩; have HO3 := Lib.hid hs3; replace HO1 : Hid (TksSee w3 a1 ts) := Lib.hid (fun W' hb' => HO1.out W' (hb.trans (hb'.mono hb.size))); replace HB := Lib.hid (HB.out.trans (hb.mono HB.out.size)); clear hb hs3))
  go_cut [28] (fun v wd => v = .bool false ∧ Hid (TksSee wd a1 ts) ∧ Hid (Below w.heap.size w wd))
  case first =>
    have btb : (tb.toList == tb.toList) = true := by simp
    go_wp2_with (first
      | (go_at_call 14; refine (HPl.out _ _ _ HO3.out).mono ?_; rintro e w4 ⟨a4, cap4, rfl, hs4, hb⟩; have HO4 := Lib.hid hs4; replace HO1 : Hid (TksSee w4 a1 ts) := Lib.hid (fun W' hb' => HO1.out W' (hb.trans (hb'.mono hb.size))); replace HO3 : Hid (TksSee w4 a3 ts) := Lib.hid (fun W' hb' => HO3.out W' (hb.trans (hb'.mono hb.size))); replace HB := Lib.hid (HB.out.trans (hb.mono HB.out.size)); clear hb hs4)
      | (go_at_call 8; refine (HSm.out _ _ _ _ _ HO1.out HO4.out).mono ?_; rintro e w5 ⟨rfl, hb⟩; replace HO1 : Hid (TksSee w5 a1 ts) := Lib.hid (fun W' hb' => HO1.out W' (hb.trans (hb'.mono hb.size))); replace HO3 : Hid (TksSee w5 a3 ts) := Lib.hid (fun W' hb' => HO3.out W' (hb.trans (hb'.mono hb.size))); replace HB := Lib.hid (HB.out.trans (hb.mono HB.out.size)); clear hb)
      | (go_at_call 12; refine (HPr.out _ HB.out _ _ HO3.out).mono ?_; rintro e w6 ⟨rfl, hb⟩; replace HO1 : Hid (TksSee w6 a1 ts) := Lib.hid (fun W' hb' => HO1.out W' (hb.trans (hb'.mono hb.size))); replace HB := Lib.hid (HB.out.trans (hb.mono HB.out.size)); clear hb))
    go_meet
    exact ⟨rfl, HO1, HB⟩
  case rest =>
  clear HO1 HO3 HB HPr HPl HSm
  obtain ⟨rfl, HO, HB⟩ := hcut
  go_wp2
  go_loopw [6, 7] (fun v _ wr => ∃ k : Nat, v = .int .i64 ((k : Nat) : Int) ∧ k ≤ n ∧ Hid (TksSee wr a1 ts) ∧ Hid (Below w.heap.size w wr)) (fun v _ _ => n - (RowKit.intOf v).toNat)
  case atStart => exact ⟨0, rfl, Nat.zero_le _, HO, HB⟩
  case round =>
    clear HO HB
    obtain ⟨k, rfl, hk, HO, HB⟩ := hrel
    by_cases hkl : k < n
    · have hkI : (k : Int) < n := by omega
      have hk0 : (0 : Int) ≤ k := by omega
      obtain ⟨x, hx⟩ : ∃ x, ts[k]? = some x := ⟨ts[k]'(by rw [HN.out]; exact hkl), by simp [show k < ts.length by rw [HN.out]; exact hkl]⟩
      have hok := HTs.out x (List.mem_of_getElem? hx)
      obtain ⟨g, hg, c0, c1, c2, c3⟩ := HO.out wr (Below.refl _ _) k x hx
      subst hg
      obtain ⟨kd, vl, un, idb⟩ := x
      simp only at c0 c1 c2
      obtain ⟨⟨hk1, hk14⟩, hcs⟩ := tokOk_cases hok
      obtain ⟨vb, hvb⟩ : ∃ vb : ByteArray, (⟨vl.toArray⟩ : ByteArray) = vb := ⟨_, rfl⟩
      obtain ⟨ub, hub⟩ : ∃ ub : ByteArray, (⟨un.toArray⟩ : ByteArray) = ub := ⟨_, rfl⟩
      rw [hvb] at c1
      rw [hub] at c2
      have hve : vb.toList = vl := by rw [← hvb]; simp
      have hue : ub.toList = un := by rw [← hub]; simp
      rcases hcs with ⟨hv, hu, hkk⟩ | ⟨hv, hu, hkk⟩ | ⟨hv, hu, hkk⟩
      · have ve : vb.toList.isEmpty = false := by rw [hve]; cases vl with
          | nil => exact absurd rfl hv
          | cons _ _ => rfl
        have ue : ub.toList.isEmpty = false := by rw [hue]; cases un with
          | nil => exact absurd rfl hu
          | cons _ _ => rfl
        subst hkk
        clear hx hok hvb hub hve hue hk1 hk14 hv hu c3
        go_wp2
        exact ⟨⟨k + 1, by go_num, by omega, HO, HB⟩, by simp [RowKit.intOf]; omega⟩
      · have ve : vb.toList.isEmpty = false := by rw [hve]; cases vl with
          | nil => exact absurd rfl hv
          | cons _ _ => rfl
        have ue : ub.toList.isEmpty = true := by rw [hue, hu]; rfl
        have k1 : ¬ (kd : Int) < 1 := by omega
        have k2 : ¬ (14 : Int) < kd := by omega
        have k3 : ((kd : Int) == 10) = false := by rw [beq_eq_false_iff_ne]; omega
        clear hx hok hvb hub hve hue hk1 hk14 hv hu hkk c3
        go_wp2
        exact ⟨⟨k + 1, by go_num, by omega, HO, HB⟩, by simp [RowKit.intOf]; omega⟩
      · have ve : vb.toList.isEmpty = true := by rw [hve, hv]; rfl
        have ue : ub.toList.isEmpty = true := by rw [hue, hu]; rfl
        clear hx hok hvb hub hve hue hk1 hk14 hv hu c3
        rcases hkk with rfl | rfl | rfl | rfl | rfl
        all_goals
          go_wp2
          exact ⟨⟨k + 1, by go_num, by omega, HO, HB⟩, by simp [RowKit.intOf]; omega⟩
    · have hkI : ¬ (k : Int) < n := by omega
      clear hkl
      go_wp2_with (go_at_call 7; refine (HW.out _ HB.out).mono ?_; rintro e w7 ⟨rfl, hb⟩; replace HB := Lib.hid (HB.out.trans (hb.mono HB.out.size)); clear hb)
      go_ret
      exact ⟨rfl, HB.out⟩
end Go.Proofs.YtmhdocgoeahbdaaGreatDoor
