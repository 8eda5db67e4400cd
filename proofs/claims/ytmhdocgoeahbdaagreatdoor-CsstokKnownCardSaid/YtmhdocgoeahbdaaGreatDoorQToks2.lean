/-
  Tokens of package csstok: it tells what the document says. Conditions: the library's two tables hold what its text lays; texts are no longer than 2^30 bytes.
-/
import Derived.Test.YtmhdocgoeahbdaaGreatDoorQToks
import Derived.Deep.CutBlock
namespace Go.Proofs.YtmhdocgoeahbdaaGreatDoor
open Go.RowKit Go.RunKit Go.UtfKit Go.Lib Go.CssKit

/-- What is held at the loop's head: the reader, the tokens so far, the takers. -/
structure ToksIn (w3 : World) (b ba g : Nat) (a : Option Addr) (n cap : Nat) (ts : List CT) (l : Chars) (wr : World) : Prop where
  moved : MC w3 b g l wr
  row : OwnT wr w3.heap.size (.slice a n cap) ts
  len : n = ts.length
  lt : b < w3.heap.size
  glt : l ≠ [] → g < w3.heap.size
  arr : wr.heap[ba]? = some (.cells fnsV TTa (0, 0))
  alt : ba < w3.heap.size
  ane : ba ≠ b
theorem ToksIn.on {w3 wr wr' : World} {b ba g n cap : Nat} {a : Option Addr} {ts : List CT} {l r : Chars} (h : ToksIn w3 b ba g a n cap ts l wr) (hm : MC wr b g r wr') (hs : r ≠ [] → l ≠ []) : ToksIn w3 b ba g a n cap ts r wr' :=
  ⟨h.moved.trans hm, h.row.moved hm.grown h.lt, h.len, h.lt, fun x => h.glt (hs x), hm.keeps h.arr h.ane, h.alt, h.ane⟩
theorem ToksIn.below {w3 wr wr' : World} {b ba g n cap : Nat} {a : Option Addr} {ts : List CT} {l : Chars} (h : ToksIn w3 b ba g a n cap ts l wr) (hb : Below wr.heap.size wr wr') : ToksIn w3 b ba g a n cap ts l wr' :=
  ⟨h.moved.on hb, h.row.below hb, h.len, h.lt, h.glt, (hb.block _ (Array.getElem?_eq_some_iff.1 h.arr).1).trans h.arr, h.alt, h.ane⟩
theorem ToksIn.wrote {w3 wr W : World} {b ba g n n' cap cap' : Nat} {a a' : Option Addr} {ts : List CT} {l : Chars} {t : CT} (h : ToksIn w3 b ba g a n cap ts l wr)
    (hown : W.ownsRow w3.heap.size TTc 4 (.slice a' n' cap') (ts.length + 1) (tokCells ts ++ tokC t)) (hn : n' = ts.length + 1) (hg : wr.grownBy W (Value.slice a n cap).ownBlock) : ToksIn w3 b ba g a' n' cap' (ts ++ [t]) l W := by
  have hlow : ∀ k, (Value.slice a n cap).ownBlock = some k → w3.heap.size ≤ k := fun k e => (World.ownsRow.lt h.row k e).1
  refine ⟨h.moved.row hg hlow h.lt h.glt, ?_, by simp [hn], h.lt, h.glt, ?_, h.alt, h.ane⟩
  · unfold OwnT
    rw [tokCells_snoc, List.length_append]
    exact hown
  · exact (hg.block _ (Array.getElem?_eq_some_iff.1 h.arr).1 (fun e => by have := hlow _ e.symm; have := h.alt; omega)).trans h.arr
theorem fns_cells {W : World} {ba : Nat} (h : W.heap[ba]? = some (.cells fnsV TTa (0, 0))) : W.cell? ⟨ba, 0, none⟩ = some (.func (.func 34) #[] #[]) ∧ W.cell? ⟨ba, 1, none⟩ = some (.func (.func 35) #[] #[]) ∧ W.cell? ⟨ba, 2, none⟩ = some (.func (.func 36) #[] #[]) ∧ W.cell? ⟨ba, 3, none⟩ = some (.func (.func 37) #[] #[]) ∧ W.cell? ⟨ba, 4, none⟩ = some (.func (.func 38) #[] #[]) ∧
    W.cell? ⟨ba, 5, none⟩ = some (.func (.func 39) #[] #[]) ∧ W.cell? ⟨ba, 6, none⟩ = some (.func (.func 40) #[] #[]) ∧ W.cell? ⟨ba, 7, none⟩ = some (.func (.func 41) #[] #[]) ∧ W.cell? ⟨ba, 8, none⟩ = some (.func (.func 42) #[] #[]) := by
  unfold fnsV at h
  refine ⟨?_, ?_, ?_, ?_, ?_, ?_, ?_, ?_, ?_⟩ <;> simp [World.cell?, h]
theorem comL_ne {l : Chars} (h : comL l ≠ []) : l ≠ [] := fun e => h (by rw [e]; rfl)
theorem oneT_ne {l : Chars} (h : (oneT l).2 ≠ []) : l ≠ [] := fun e => h (by subst e; decide)
theorem qnews (w : World) (cs : List Value) (T : TypeId) : ∀ j u, cs[j]? = some u → (w.alloc (.cells cs.toArray T)).cell? ((⟨w.heap.size, 0, none⟩ : Addr).add j) = some u := by
  intro j u hu
  rw [add_at]
  have h := heap_alloc_new w (.cells cs.toArray T)
  simp only [World.cell?, h]
  simpa using hu
/-- What begins the loop. -/
theorem toks_start {w w1 : World} {a : Option Addr} {cap : Nat} {l : Chars} (hown : OwnC w1 w.heap.size (.slice a l.length cap) l) (hlen : l.length ≤ 1099511627776) (hok : ∀ z, z ∈ l → okC z) :
    ∃ g, RC (w1.alloc (.cells #[.slice a l.length cap] TRc)) w1.heap.size g l := by
  have h1 : Below w1.heap.size w1 (w1.alloc (.cells #[.slice a l.length cap] TRc)) := (Below.refl _ _).alloc (Nat.le_refl _) _
  rcases hown.2 with ⟨e, e2⟩ | ⟨g, c, cur, e, hge, hg, hc, rest⟩
  · simp only [Value.slice.injEq] at e
    obtain ⟨rfl, _, rfl⟩ := e
    exact ⟨w1.heap.size + 1, ⟨⟨none, 0, heap_alloc_new w1 _, by omega, fun _ => rfl, fun ad ha => (by cases ha)⟩, by omega, hlen, by simp, hok⟩⟩
  · simp only [Value.slice.injEq] at e
    obtain ⟨rfl, _, rfl⟩ := e
    have hlt : g < w1.heap.size := (Array.getElem?_eq_some_iff.1 hg).1
    refine ⟨g, ⟨⟨_, _, heap_alloc_new w1 _, by omega, fun h => (by cases h), fun ad ha => ⟨0, by cases ha; rfl, fun j z hz => ?_⟩⟩, by omega, hlen, by simp, hok⟩⟩
    have hj := (List.getElem?_eq_some_iff.1 hz).1
    have h2 : w1.cell? ⟨g, j, none⟩ = some (.int .i32 z) := by
      rw [World.ownsRow.cellAt hown j (by omega)]
      unfold intC
      rw [List.getElem?_map, hz]
      rfl
    rw [Nat.zero_add, h1.cell (World.block_lt_of_cell? _ _ h2)]
    exact h2

set_option maxRecDepth 100000 in
set_option maxHeartbeats 8000000 in
theorem tokens7_any (s : ByteArray) (w : World) (ht : U.Tabs w) (hsz : s.size ≤ 1073741824) :
    Calls Tryz.prog 9 #[.string s] w fun e w' => ∃ a cap, e = .returned (.slice a (toksC (charsOf s)).length cap) ∧ OwnT w' w.heap.size (.slice a (toksC (charsOf s)).length cap) (toksC (charsOf s)) ∧ Below w.heap.size w w' := by
  have HC := Lib.hid (characters7_any s w ht hsz)
  have hcl := charsL_len false (codes s)
  have hcl2 := codes_len s
  have hok := charsL_ok false (codes s) (fun z hz => codes_char hz)
  obtain ⟨l0, hl0⟩ : ∃ x, charsOf s = x := ⟨_, rfl⟩
  rw [show charsL false (codes s) = l0 from hl0] at hcl hok
  rw [hl0] at HC ⊢
  obtain ⟨ans, hans⟩ : ∃ x, toksC l0 = x := ⟨_, rfl⟩
  rw [hans]
  have HAns := Lib.hid (show ([] : List CT) ++ toksD (comL l0) = ans by rw [List.nil_append, ← toksC_com]; exact hans)
  have HOk := Lib.hid hok
  have hlen : l0.length ≤ 1073741824 := by omega
  obtain ⟨i0, hi, hz0, hz1, hz2⟩ := info_parts Tryz.infoTcT
  clear hcl hcl2 hok hl0 hans ht
  go_enter Tryz.func9, Tryz.ntmps9
  go_wp2_with (first
    | (go_at_call 18
       go_loud (
         refine HC.out.mono ?_
         clear HC
         rintro e w1 ⟨a0, cap0, rfl, hown, hb1⟩
         obtain ⟨g, hrc⟩ := toks_start hown (by omega) HOk.out
         have HB1 := Lib.hid hb1
         have hbA : Below w1.heap.size w1 (w1.alloc (.cells #[.slice a0 l0.length cap0] TRc)) := (Below.refl _ _).alloc (Nat.le_refl _) _
         have HBA := Lib.hid (hb1.trans (hbA.mono hb1.size))
         have HRC := Lib.hid hrc
         have HT := Lib.hid (takers_any (w1.alloc (.cells #[.slice a0 l0.length cap0] TRc)))
         clear hown hb1 hrc hbA))
    | (go_at_call 19
       go_loud (
         refine HT.out.mono ?_
         clear HT
         rintro e w2 ⟨rfl, hb2⟩
         have hRC2 := HRC.out.below hb2
         have HB2 := Lib.hid (HBA.out.trans (hb2.mono HBA.out.size))
         have hbA2 : Below w2.heap.size w2 (w2.alloc (.cells fnsV TTa)) := (Below.refl _ _).alloc (Nat.le_refl _) _
         have HB3 := Lib.hid (HB2.out.trans (hbA2.mono HB2.out.size))
         have HRC3 := Lib.hid (hRC2.below hbA2)
         have HAr := Lib.hid (heap_alloc_new w2 (.cells fnsV TTa))
         have hsz2 := hb2.size
         have HCm := Lib.hid (comments7_any w1.heap.size g l0 _ (hRC2.below hbA2))
         unfold fnsV at HB3 HRC3 HAr HCm
         unfold fnsV
         clear hb2 hRC2 hbA2))
    | (go_at_call 20
       go_loud (
         refine HCm.out.mono ?_
         clear HCm
         rintro e w4 ⟨rfl, hm⟩
         have HM := Lib.hid hm
         clear hm)))
  have HRf := HRC3.out.glt
  have hw3 : (w2.alloc (.cells fnsV TTa)).heap.size = w2.heap.size + 1 := by simp
  have hw1 : w1.heap.size + 1 ≤ w2.heap.size := by simpa using hsz2
  have T0 : Hid (ToksIn (w2.alloc (.cells fnsV TTa)) w1.heap.size w2.heap.size g none 0 0 [] (comL l0) w4) := Lib.hid
    ⟨HM.out, OwnT.nil _ _, rfl, by rw [hw3]; omega, fun h => HRf (comL_ne h), HM.out.keeps HAr.out (by omega), by rw [hw3]; omega, by omega⟩
  have HB3' : Hid (Below w.heap.size w (w2.alloc (.cells fnsV TTa))) := HB3
  have hL4 : (comL l0).length ≤ 1073741824 := Nat.le_trans (comL_le l0) hlen
  generalize w2.alloc (.cells fnsV TTa) = w3 at *
  have hwb : w.heap.size ≤ w1.heap.size := HB1.out.size
  have HWb := Lib.hid hwb
  generalize w1.heap.size = b at *
  generalize w2.heap.size = ba at *
  have HAns2 := Lib.hid (show ([] : List CT) ++ toksD (comL l0) = ans from HAns.out)
  clear HB3 HRC3 HAr HM HRf hw3 hw1 hsz2 HBA HRC HB1 HB2 HAns hwb HOk
  go_loopw [3] (fun v wr => ∃ (a : Option Addr) (n cap : Nat) (ts : List CT) (l' : Chars), v = .slice a n cap ∧ Hid (ToksIn w3 b ba g a n cap ts l' wr) ∧ Hid (ts ++ toksD l' = ans) ∧ n + l'.length ≤ 1073741824) (fun _ wr => restN b wr)
  case atStart => exact ⟨none, 0, 0, [], _, rfl, T0, HAns2, by rw [Nat.zero_add]; exact hL4⟩
  case round =>
    clear T0 HAns2 hL4
    obtain ⟨a, n, cap, ts, l1, rfl, HT, HD, hnl⟩ := hrel
    obtain ⟨ao, rcap, hcell, _⟩ := HT.out.moved.rest.parts
    by_cases hl : l1 = []
    · subst hl
      have hd := HD.out
      rw [toksD_nil, List.append_nil] at hd
      subst hd
      have hnn := HT.out.len
      subst hnn
      simp only [List.length_nil] at hcell
      go_wp2
      go_ret
      refine ⟨a, cap, rfl, ⟨HT.out.row.1, ?_⟩, HT.out.moved.out HB3'.out HWb.out⟩
      rcases HT.out.row.2 with h | ⟨g2, c, cur, e1, e2, e3⟩
      · exact .inl h
      · exact .inr ⟨g2, c, cur, e1, by have := HB3'.out.size; omega, e3⟩
    · have h0 := List.length_pos_iff.2 hl
      have hlI : (0 : Int) < l1.length := by omega
      have HL1 := Lib.hid hl
      obtain ⟨f0, f1, f2, f3, f4, f5, f6, f7, f8⟩ := fns_cells HT.out.arr
      have HRn := Lib.hid (show restN b wr = l1.length from HT.out.moved.rest.restN)
      clear hl
      go_wp2
      clear f0 f1 f2 f3 f4 f5 f6 f7 f8 hcell
      go_loopw [3, 20] (fun v i wr => ∃ k : Nat, v = .slice a n cap ∧ i = .int .i64 ((k : Nat) : Int) ∧ k ≤ 9 ∧ Hid (NoneUp l1 k) ∧ Hid (ToksIn w3 b ba g a n cap ts l1 wr)) (fun _ i _ => 9 - (RowKit.intOf i).toNat)
      case atStart => exact ⟨0, rfl, rfl, by omega, Lib.hid (fun j hj => by omega), HT⟩
      case round =>
        clear HT
        obtain ⟨k, rfl, rfl, hk, HN, HT⟩ := hrel
        by_cases hk9 : k < 9
        · have hkI : (k : Int) < 9 := by omega
          have hidx := fun W => taker_index k hk9 W
          unfold fnsV at hidx
          have eg := taker_enters k hk9
          have hF := take_any b g k hk9 l1 wr HT.out.moved.rest HL1.out HN.out
          obtain ⟨f, hf⟩ : ∃ f, 34 + k = f := ⟨_, rfl⟩
          rw [hf] at hidx eg hF
          obtain ⟨t, r, hx⟩ : ∃ t r, takeL l1 k = (t, r) := ⟨_, _, rfl⟩
          unfold TakeAs ctV at hF
          simp only [hx] at hF
          have HF := Lib.hid hF
          clear hF
          by_cases hkd : t.kind = 0
          · have hk8 : k < 8 := by
              by_cases e : k = 8
              · subst e
                unfold takeL at hx
                simp only [Prod.mk.injEq] at hx
                rw [← hx.1] at hkd
                exact absurd hkd (by simp)
              · omega
            have hz := take_zero hk8 (by rw [hx]; exact hkd)
            have HN2 := Lib.hid (none_succ HN.out (by rw [hx]; exact hkd))
            rw [hx] at hz
            simp only [Prod.mk.injEq] at hz
            obtain ⟨rfl, rfl⟩ := hz
            clear hx hkd hf
            go_wp2_with (go_at_fn f; refine HF.out.mono ?_; rintro e w5 ⟨rfl, hm⟩; have HT2 := Lib.hid ((HT.out.on hm (fun x => x)).below ((Below.refl _ _).alloc (Nat.le_refl _) (.cells #[.int .u8 0, .string ⟨#[]⟩, .string ⟨#[]⟩, .bool false] TTc))); clear hm)
            exact ⟨⟨k + 1, rfl, by go_num, by omega, HN2, HT2⟩, by simp [RowKit.intOf]; omega⟩
          · have hone := take_hit hk9 HN.out (by rw [hx]; exact hkd)
            rw [hx] at hone
            have hd := HD.out
            rw [toksD_step HL1.out, hone] at hd
            have HS := Lib.hid (show (ts ++ [t]) ++ toksD (comL r) = ans by rw [List.append_assoc]; exact hd)
            have HSub := Lib.hid (show r ≠ [] → l1 ≠ [] from fun h => oneT_ne (by rw [hone]; exact h))
            have hlt := one_lt HL1.out
            rw [hone] at hlt
            have hlt : r.length < l1.length := hlt
            have hcl := comL_le r
            have HLt := Lib.hid (show (comL r).length < l1.length by omega)
            obtain ⟨kd, vl, un, idb⟩ := t
            have hk0 : kd ≠ 0 := hkd
            simp only at HF HS
            have b1 : (((kd : Nat) : Int) != 0) = true := by rw [bne_iff_ne]; omega
            have b2 : (((kd : Nat) : Int) = 0) = False := eq_false (by omega)
            have b3 : (kd = 0) = False := eq_false hk0
            have hnn := HT.out.len
            subst hnn
            clear hx hkd hf hone hd hlt hcl hk0
            go_wp2_with (first
              | (go_at_fn f
                 go_loud (
                   refine HF.out.mono ?_
                   clear HF
                   rintro e w5 ⟨rfl, hm⟩
                   have hT2 := HT.out.on hm HSub.out
                   have hbe4 : Below w5.heap.size w5 (w5.alloc (.cells #[.int .u8 ((kd : Nat) : Int), .string ⟨vl.toArray⟩, .string ⟨un.toArray⟩, .bool idb] TTc)) := (Below.refl _ _).alloc (Nat.le_refl _) _
                   have hbe5 : Below w5.heap.size w5 ((w5.alloc (.cells #[.int .u8 ((kd : Nat) : Int), .string ⟨vl.toArray⟩, .string ⟨un.toArray⟩, .bool idb] TTc)).alloc (.cells #[.int .u8 ((kd : Nat) : Int), .string ⟨vl.toArray⟩, .string ⟨un.toArray⟩, .bool idb] TTc)) := hbe4.alloc (by simp) _
                   have HT5 := Lib.hid (hT2.below hbe5)
                   have HS5 := Lib.hid hT2.moved.grown.size
                   have HB5 := Lib.hid hbe5.size
                   clear hm hT2 hbe4 hbe5))
              | (at_builtin; refine wpList_append_own _ rfl _ _ 24 rfl w3.heap.size TTc i0 _ 4 48 Tryz.underlying24 hi hz0 hz1 hz2 rfl (by decide) _ ts.length (tokCells ts) rfl HT5.out.row ⟨w5.heap.size + 1, 0, none⟩ 1 1 [.int .u8 ((kd : Nat) : Int), .string ⟨vl.toArray⟩, .string ⟨un.toArray⟩, .bool idb] rfl ?c1 ?c2 ?c3 ?c4 ?c5 ?c6 ?_))
            case c1 => rfl
            case c2 =>
              have := qnews (w5.alloc (.cells #[.int .u8 ((kd : Nat) : Int), .string ⟨vl.toArray⟩, .string ⟨un.toArray⟩, .bool idb] TTc)) [.int .u8 ((kd : Nat) : Int), .string ⟨vl.toArray⟩, .string ⟨un.toArray⟩, .bool idb] TTc
              rwa [show (w5.alloc (.cells #[.int .u8 ((kd : Nat) : Int), .string ⟨vl.toArray⟩, .string ⟨un.toArray⟩, .bool idb] TTc)).heap.size = w5.heap.size + 1 by simp] at this
            case c3 => intro u hu; simp only [List.mem_cons, List.not_mem_nil, or_false] at hu; rcases hu with rfl | rfl | rfl | rfl <;> rfl
            case c4 => unfold maxLen; omega
            case c5 => omega
            case c6 => exact Nat.le_trans HS5.out HB5.out
            intro v' W hown' hgrow _
            obtain ⟨a1, cap1, hvs1⟩ := U.slice_of hown'
            subst hvs1
            have HT6 := Lib.hid (HT5.out.wrote (t := ⟨kd, vl, un, idb⟩) hown' rfl hgrow)
            have HCm := Lib.hid (comments7_any b g r W HT6.out.moved.rest)
            clear hown' hgrow HT5
            go_wp2_with (go_at_call 20; refine HCm.out.mono ?_; rintro e w9 ⟨rfl, hm⟩; have HT7 := Lib.hid (HT6.out.on hm comL_ne); clear hm)
            exact ⟨⟨a1, _, cap1, ts ++ [⟨kd, vl, un, idb⟩], comL r, rfl, HT7, HS, by have := HLt.out; omega⟩, by rw [HT7.out.moved.rest.restN, HRn.out]; exact HLt.out⟩
        · exfalso
          have hk9' : k = 9 := by omega
          subst hk9'
          have := HN.out 8 (by omega)
          unfold takeL at this
          simp at this
end Go.Proofs.YtmhdocgoeahbdaaGreatDoor
