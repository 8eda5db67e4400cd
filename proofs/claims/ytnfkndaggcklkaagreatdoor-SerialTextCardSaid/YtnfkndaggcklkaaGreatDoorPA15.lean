/-
  Build of package tree, by contract. Conditions: the data are no more than 2^46 bytes in all, the names and the attributes' strings no more than 2^46 bytes each.
  What Build asks of the tokens' row, out of what Tokens lays. Conditions: bounds on the tokens' lengths.
  Bounds on what Tokens tells, over lists: how many tokens, how long a name. Conditions: none.
  Bounds on one token, over lists. Conditions: none.
  Parse of package tree, by contract, given what utf.Decode tells. Conditions: the library's variable MaxLen holds a number.
  Parse of package tree, by contract; what is read of a tree in memory; Parse at a known answer. Conditions: the library's variable MaxLen holds a number, its two tables what its text lays.
  What Decode tells of a well-formed text without the character 13: itself. No conditions.
  Escaped texts over lists of bytes: the document's answer, by definition; what the language's characters make of it. No conditions.
-/
import Derived.Test.YtnfkndaggcklkaaGreatDoorPA14
import Derived.Test.YtnfkndaggcklkaaGreatDoorPA1
import Derived.Test.YtnfkndaggcklkaaGreatDoorPA0
import Derived.Laws.IdiomStrings
import Derived.Lib.SlBytesConst
namespace Go.Proofs.YtnfkndaggcklkaaGreatDoor
open Go.RowKit Go.RunKit Go.CharrefKit Go.Lib Go.TokenKit Go.TreeKit

/-- What is asked of the tokens. -/
structure TksIn (W : World) (ao : Option Addr) (n : Nat) (l : List Tok) : Prop where
  len : l.length = n
  few : n ≤ 4294967296
  sum : dataSum l ≤ 70368744177664
  name : ∀ t, t ∈ l → t.name.length ≤ 70368744177664
  reads : ∀ W', Keeps W W' → ∀ k t, l[k]? = some t → ∃ g a2 c2, ao = some ⟨g, 0, none⟩ ∧ W'.cell? ⟨g, k * 5, none⟩ = some (.int .u8 ((t.kind : Nat) : Int)) ∧ W'.cell? ⟨g, k * 5 + 1, none⟩ = some (.string ⟨t.name.toArray⟩) ∧ W'.cell? ⟨g, k * 5 + 2, none⟩ = some (.slice a2 t.attrs.length c2) ∧ W'.cell? ⟨g, k * 5 + 3, none⟩ = some (.bool t.self) ∧ W'.cell? ⟨g, k * 5 + 4, none⟩ = some (.string ⟨t.data.toArray⟩) ∧ AtsIn W' a2 t.attrs.length t.attrs

theorem NdRow.nil (w : World) (base : Nat) : NdRow w base (.slice none 0 0) [] := ⟨World.ownsRow_nil _ _ _ _, fun x h => (by cases h), fun x h => (by cases h), fun i j x y hi => (by simp at hi)⟩
/-- The builder's beginning in memory. -/
theorem BAt.begin_ {w W : World} {g h b : Nat} (hb : Below w.heap.size w W) (h1 : w.heap.size ≤ g) (h2 : w.heap.size ≤ h) (h3 : w.heap.size ≤ b)
    (hg : W.heap[g]? = some (.cells #[.int .u8 0, .string ⟨#[]⟩, .slice none 0 0, .string ⟨#[]⟩, .int .i64 (-1), .slice none 0 0] TNd (0, 0))) (hh : W.heap[h]? = some (.cells #[.int .i64 0, .string ⟨#[]⟩, .int .u8 0] TOp (0, 0)))
    (hbb : W.heap[b]? = some (.cells #[.slice (some ⟨g, 0, none⟩) 1 1, .slice (some ⟨h, 0, none⟩) 1 1, .pointer none, .slice none 0 0] TBd (0, 0))) :
    BAt w b (.slice (some ⟨g, 0, none⟩) 1 1) (.slice (some ⟨h, 0, none⟩) beginB.o.length 1) (.pointer none) (.slice none 0 0) beginB [(rootNd, (.slice none 0 0, .slice none 0 0))] W := by
  refine ⟨hb, h3, hbb, ⟨⟨rfl, .inr ⟨g, 1, _, rfl, h1, hg, Nat.le_refl _, by decide, rfl, rfl⟩⟩, fun x hx => ?_, fun x hx => ?_, fun i j x y hi hj hne p hp => ?_⟩, rfl, ⟨rfl, .inr ⟨h, 1, _, rfl, h2, hh, Nat.le_refl _, by decide, rfl, rfl⟩⟩, .inl ⟨rfl, rfl, rfl⟩⟩
  · rw [List.mem_singleton] at hx; subst hx; exact World.ownsRow_nil _ _ _ _
  · rw [List.mem_singleton] at hx; subst hx; exact World.ownsRow_nil _ _ _ _
  · have := List.mem_of_getElem? hi
    rw [List.mem_singleton] at this
    subst this
    cases hp

set_option maxRecDepth 100000 in
set_option maxHeartbeats 8000000 in
theorem build_any (l : List Tok) (ao : Option Addr) (cap n : Nat) (w : World) (h : TksIn w ao n l) :
    Calls Tryz.prog 13 #[.slice ao n cap] w fun e w' => ∃ v L er pl, e = .returned (.tuple #[v, .int .i64 ((er : Nat) : Int), .int .i64 ((pl : Nat) : Int)]) ∧ Below w.heap.size w w' ∧ NdRow w' w.heap.size v L ∧ (L.map (·.1), er, pl) = buildL l := by
  have H := Lib.hid h
  have hn32 := h.few
  have hlen := h.len
  have T0 : Hid (BAt w (w.heap.size + 1 + 1) (.slice (some ⟨w.heap.size, 0, none⟩) 1 1) (.slice (some ⟨w.heap.size + 1, 0, none⟩) beginB.o.length 1) (.pointer none) (.slice none 0 0) beginB [(rootNd, (.slice none 0 0, .slice none 0 0))] (((w.alloc (.cells #[.int .u8 0, .string ⟨#[]⟩, .slice none 0 0, .string ⟨#[]⟩, .int .i64 (-1), .slice none 0 0] TNd)).alloc (.cells #[.int .i64 0, .string ⟨#[]⟩, .int .u8 0] TOp)).alloc (.cells #[.slice (some ⟨w.heap.size, 0, none⟩) 1 1, .slice (some ⟨w.heap.size + 1, 0, none⟩) 1 1, .pointer none, .slice none 0 0] TBd))) := Lib.hid (by
    have e0 := heap_alloc_new w (.cells #[.int .u8 0, .string ⟨#[]⟩, .slice none 0 0, .string ⟨#[]⟩, .int .i64 (-1), .slice none 0 0] TNd)
    have b1 : Below w.heap.size w (w.alloc (.cells #[.int .u8 0, .string ⟨#[]⟩, .slice none 0 0, .string ⟨#[]⟩, .int .i64 (-1), .slice none 0 0] TNd)) := (Below.refl _ _).alloc (Nat.le_refl _) _
    have s1 : (w.alloc (.cells #[.int .u8 0, .string ⟨#[]⟩, .slice none 0 0, .string ⟨#[]⟩, .int .i64 (-1), .slice none 0 0] TNd)).heap.size = w.heap.size + 1 := by simp
    generalize w.alloc (.cells #[.int .u8 0, .string ⟨#[]⟩, .slice none 0 0, .string ⟨#[]⟩, .int .i64 (-1), .slice none 0 0] TNd) = W1 at *
    have e1 := heap_alloc_new W1 (.cells #[.int .i64 0, .string ⟨#[]⟩, .int .u8 0] TOp)
    have b2 : Below W1.heap.size W1 (W1.alloc (.cells #[.int .i64 0, .string ⟨#[]⟩, .int .u8 0] TOp)) := (Below.refl _ _).alloc (Nat.le_refl _) _
    have s2 : (W1.alloc (.cells #[.int .i64 0, .string ⟨#[]⟩, .int .u8 0] TOp)).heap.size = w.heap.size + 1 + 1 := by simp [s1]
    have e02 := (b2.block _ (by rw [s1]; exact Nat.lt_succ_self _)).trans e0
    generalize W1.alloc (.cells #[.int .i64 0, .string ⟨#[]⟩, .int .u8 0] TOp) = W2 at *
    rw [s1] at e1
    have b3 : Below W2.heap.size W2 (W2.alloc (.cells #[.slice (some ⟨w.heap.size, 0, none⟩) 1 1, .slice (some ⟨w.heap.size + 1, 0, none⟩) 1 1, .pointer none, .slice none 0 0] TBd)) := (Below.refl _ _).alloc (Nat.le_refl _) _
    have e3 := heap_alloc_new W2 (.cells #[.slice (some ⟨w.heap.size, 0, none⟩) 1 1, .slice (some ⟨w.heap.size + 1, 0, none⟩) 1 1, .pointer none, .slice none 0 0] TBd)
    rw [s2] at e3
    have e03 := (b3.block w.heap.size (by rw [s2]; omega)).trans e02
    have e13 := (b3.block (w.heap.size + 1) (by rw [s2]; omega)).trans e1
    exact BAt.begin_ (b1.trans ((b2.trans (b3.mono (by rw [s2, s1]; omega))).mono (by rw [s1]; omega))) (Nat.le_refl _) (by omega) (by omega) e03 e13 e3)
  have K0 : Hid (Keeps w (((w.alloc (.cells #[.int .u8 0, .string ⟨#[]⟩, .slice none 0 0, .string ⟨#[]⟩, .int .i64 (-1), .slice none 0 0] TNd)).alloc (.cells #[.int .i64 0, .string ⟨#[]⟩, .int .u8 0] TOp)).alloc (.cells #[.slice (some ⟨w.heap.size, 0, none⟩) 1 1, .slice (some ⟨w.heap.size + 1, 0, none⟩) 1 1, .pointer none, .slice none 0 0] TBd))) := Lib.hid (Keeps.below T0.out.below)
  have L0 := Lib.hid (LoopB.begin_ l)
  have HLen := Lib.hid hlen
  obtain ⟨an, han⟩ : ∃ an, buildL l = an := ⟨_, rfl⟩
  have HAn := Lib.hid han
  rw [han]
  clear h hlen han
  go_enter Tryz.func13, Tryz.ntmps13
  go_big_wp2
  generalize ((w.alloc (.cells #[.int .u8 0, .string ⟨#[]⟩, .slice none 0 0, .string ⟨#[]⟩, .int .i64 (-1), .slice none 0 0] TNd)).alloc (.cells #[.int .i64 0, .string ⟨#[]⟩, .int .u8 0] TOp)).alloc (.cells #[.slice (some ⟨w.heap.size, 0, none⟩) 1 1, .slice (some ⟨w.heap.size + 1, 0, none⟩) 1 1, .pointer none, .slice none 0 0] TBd) = W0 at *
  obtain ⟨b, hb⟩ : ∃ b, w.heap.size + 1 + 1 = b := ⟨_, rfl⟩
  rw [hb] at T0 ⊢
  clear hb
  go_loopw [16] (fun i wr => ∃ (k : Nat) (s : BS) (tv : Value) (ao2 : Option Addr) (cap2 : Nat) (pa bv : Value) (L : List NdV), i = .int .i64 (k : Nat) ∧ k ≤ n ∧ Hid (LoopB l k s) ∧ Hid (BAt w b tv (.slice ao2 s.o.length cap2) pa bv s L wr) ∧ Hid (Keeps w wr)) (fun i _ => n - (RowKit.intOf i).toNat)
  case atStart => exact ⟨0, beginB, _, _, 1, _, _, _, rfl, Nat.zero_le _, L0, T0, K0⟩
  case round =>
    clear T0 K0 L0
    obtain ⟨k, s, tv, ao2, cap2, pa, bv, L, rfl, hkn, HL, HB, HK⟩ := hrel
    by_cases hlt : k < n
    · have hltI : (k : Int) < n := by omega
      have hk0 : (0 : Int) ≤ k := by omega
      obtain ⟨t, ht⟩ : ∃ t, l[k]? = some t := ⟨l[k]'(by rw [HLen.out]; exact hlt), by simp [show k < l.length by rw [HLen.out]; exact hlt]⟩
      obtain ⟨g, a2, c2, hg, c0, c1, c2', c3, c4, hats⟩ := H.out.reads wr HK.out k t ht
      subst hg
      have hnml := H.out.name t (List.mem_of_getElem? ht)
      have hdl := dataSum_drop l k t ht
      have hws := HL.out.words
      have hsm := H.out.sum
      obtain ⟨nm, hnm⟩ : ∃ nm : ByteArray, (⟨t.name.toArray⟩ : ByteArray) = nm := ⟨_, rfl⟩
      obtain ⟨dt, hdt⟩ : ∃ dt : ByteArray, (⟨t.data.toArray⟩ : ByteArray) = dt := ⟨_, rfl⟩
      have hnb : bl nm = t.name := by rw [← hnm, bl_of]
      have hdb : bl dt = t.data := by rw [← hdt, bl_of]
      rw [hnm] at c1
      rw [hdt] at c4
      obtain ⟨m, hm⟩ : ∃ m, t.attrs.length = m := ⟨_, rfl⟩
      rw [hm] at c2' hats
      obtain ⟨z, hz⟩ : ∃ z, ((k : Int) == 0) = z := ⟨_, rfl⟩
      have hzn : (k == 0) = z := by rw [← hz, Bool.eq_iff_iff, beq_iff_eq, beq_iff_eq]; omega
      have hzd : decide ((k : Int) = 0) = z := by rw [← hz]; rfl
      have hwss : s.ws.length + dt.size ≤ 70368744177664 := by rw [← bl_length, hdb]; omega
      have HTk := Lib.hid fun W1 (hb1 : Below wr.heap.size wr W1) => treeTake_any w b t.kind m c2 nm dt a2 t.self z t.attrs tv (.slice ao2 s.o.length cap2) pa bv s L W1 HL.out.wf (by have := HL.out.open_; omega) (hats.on (Keeps.below hb1)) (by rw [← bl_length, hnb]; exact hnml) hwss (HB.out.on hb1)
      rw [hnb, hdb, show (⟨t.kind, t.name, t.attrs, t.self, t.data⟩ : Tok) = t from rfl] at HTk
      have Ht := Lib.hid ht
      have HZ := Lib.hid hzn
      obtain ⟨kd, hkd⟩ : ∃ kd, t.kind = kd := ⟨_, rfl⟩
      obtain ⟨sf, hsf⟩ : ∃ sf, t.self = sf := ⟨_, rfl⟩
      rw [hkd] at c0 HTk
      rw [hsf] at c3 HTk
      have b1 : Below wr.heap.size wr (wr.alloc (.cells #[.int .u8 ((kd : Nat) : Int), .string nm, .slice a2 m c2, .bool sf, .string dt] TTk)) := (Below.refl _ _).alloc (Nat.le_refl _) _
      have HB1 := Lib.hid b1
      clear ht hnml hdl hws hsm hnm hdt hnb hdb hm hzn hwss hats hkd hsf b1
      cases ho : takeB s t z with
      | error x =>
        rw [ho] at HTk
        unfold ToldB at HTk
        have hx := takeB_err ho
        have hx0 : ((x : Int) = 0) = False := eq_false (by omega)
        have hxB : ((x : Int) == 0) = false := by rw [beq_eq_false_iff_ne]; omega
        have hxN : ((x : Int) != 0) = true := by rw [bne_iff_ne]; omega
        have hfin := HL.out.stop Ht.out (by rw [HZ.out]; exact ho)
        rw [HAn.out] at hfin
        have HF := Lib.hid hfin
        clear hfin ho hx
        go_big_wp2_with (first
          | (go_at_call 35; refine (HTk.out _ HB1.out).mono ?_; rintro e w2 ⟨rfl, hb2⟩; have HB2 := Lib.hid hb2; clear hb2))
        go_ret3
        exact ⟨_, [], x, k, rfl, HB2.out, NdRow.nil _ _, HF.out.symm⟩
      | ok s2 =>
        rw [ho] at HTk
        unfold ToldB at HTk
        have HL2 := Lib.hid (HL.out.step Ht.out (by rw [HZ.out]; exact ho))
        clear ho
        go_big_wp2_with (first
          | (go_at_call 35; refine (HTk.out _ HB1.out).mono ?_; rintro e w2 ⟨rfl, hk2, tv2, ao3, cap3, pa2, bv2, L2, hB2⟩; have HK2 := Lib.hid ((HK.out.trans (Keeps.below HB1.out)).trans hk2); have HB2 := Lib.hid hB2; clear hk2 hB2))
        exact ⟨⟨k + 1, s2, tv2, ao3, cap3, pa2, bv2, L2, by simp, by omega, HL2, HB2, HK2⟩, by simp [RowKit.intOf] <;> omega⟩
    · have hltI : ¬ (k : Int) < n := by omega
      have hkn2 : k = n := by omega
      subst hkn2
      obtain ⟨aot, capt, htv⟩ := sliceOf HB.out.tree.row
      subst htv
      have HE := Lib.hid (endText_any w b _ _ pa bv s L wr HL.out.wf.pos HL.out.wf.few HB.out)
      have hfin : an = ((flushL s).t, 0, 0) := by
        have e := HL.out
        rw [← HLen.out] at e
        rw [← HAn.out]
        exact e.done
      have HF := Lib.hid hfin
      clear hfin
      unfold ToldF at HE
      go_big_wp2_with (first
        | (go_at_call 36; refine HE.out.mono ?_; rintro e w2 ⟨rfl, hk2, hk3, pa2, bv2, L2, hB2⟩; obtain ⟨⟨x0, x1, x2, x3⟩, y0, y1, y2, y3⟩ := local4 hB2.blk; have HB2 := Lib.hid hB2; clear hk2 hk3 hB2))
      go_ret3
      exact ⟨_, L2, 0, 0, rfl, HB2.out.below, HB2.out.tree, by rw [HF.out, ← HB2.out.spec]⟩
end Go.Proofs.YtnfkndaggcklkaaGreatDoor

namespace Go.Proofs.YtnfkndaggcklkaaGreatDoor
open Go.RowKit Go.RunKit Go.CharrefKit Go.Lib Go.TokenKit Go.TreeKit

theorem AtsIn.of {W : World} {base : Nat} {v : Value} {l : List At} (h : AtRow W base v l) (hn : l.length ≤ 4294967296) (hs : ∀ a, a ∈ l → a.1.length ≤ 70368744177664 ∧ a.2.length ≤ 70368744177664) : ∃ ao cap, v = .slice ao l.length cap ∧ AtsIn W ao l.length l := by
  obtain ⟨ao, cap, hv, _⟩ := h.reads
  refine ⟨ao, cap, hv, rfl, hn, hs, fun W' hk => ?_⟩
  obtain ⟨ao2, cap2, hv2, h2⟩ := (h.keeps hk).reads
  rw [hv] at hv2
  cases hv2
  exact h2
theorem own_keeps {W W' : World} {base size n : Nat} {v : Value} {xs : List Value} {T : TypeId} (h : W.ownsRow base T size v n xs) (hk : Keeps W W') (h1 : T ≠ TBd) (h2 : T ≠ TOp) (h3 : T ≠ TNd) (h4 : T ≠ TIn) (h5 : T ≠ TU8) : W'.ownsRow base T size v n xs := by
  refine ⟨h.1, ?_⟩
  rcases h.2 with h' | ⟨g, cap, cur, e, hb, hg, rest⟩
  · exact .inl h'
  · exact .inr ⟨g, cap, cur, e, hb, hk g cur T (0, 0) hg h1 h2 h3 h4 h5, rest⟩
theorem TksIn.of {W : World} {base : Nat} {v : Value} {L : List (Tok × Value)} (h : TkRow TTk W base v L) (hn : L.length ≤ 4294967296) (hsum : dataSum (L.map (·.1)) ≤ 70368744177664) (hname : ∀ t, t ∈ L.map (·.1) → t.name.length ≤ 70368744177664)
    (hat : ∀ t, t ∈ L.map (·.1) → t.attrs.length ≤ 4294967296 ∧ ∀ a, a ∈ t.attrs → a.1.length ≤ 70368744177664 ∧ a.2.length ≤ 70368744177664) : ∃ ao cap, v = .slice ao L.length cap ∧ TksIn W ao L.length (L.map (·.1)) := by
  obtain ⟨ao, cap, hv⟩ := sliceOf h.row
  subst hv
  refine ⟨ao, cap, rfl, by rw [List.length_map], hn, hsum, hname, fun W' hk k t ht => ?_⟩
  rw [List.getElem?_map, Option.map_eq_some_iff] at ht
  obtain ⟨x, hx, rfl⟩ := ht
  have hxm := List.mem_of_getElem? hx
  have hkl := (List.getElem?_eq_some_iff.1 hx).1
  have hrow := own_keeps h.row hk (by decide) (by decide) (by decide) (by decide) (by decide)
  obtain ⟨hl, ha⟩ := hat x.1 (List.mem_map_of_mem hxm)
  obtain ⟨a2, c2, hv2, hin⟩ := AtsIn.of ((h.sub x hxm).keeps hk) hl ha
  obtain ⟨e0, e1, e2, e3, e4⟩ := tkCells_at hx
  rw [hv2] at e2
  rcases hrow.2 with ⟨_, hn0⟩ | ⟨g, cp, cur, e, _⟩
  · omega
  · cases e
    refine ⟨g, a2, c2, rfl, ?_, ?_, ?_, ?_, ?_, hin⟩
    · rw [World.ownsRow.cellAt hrow (k * 5) (by omega)]; exact e0
    · rw [World.ownsRow.cellAt hrow (k * 5 + 1) (by omega)]; exact e1
    · rw [World.ownsRow.cellAt hrow (k * 5 + 2) (by omega)]; exact e2
    · rw [World.ownsRow.cellAt hrow (k * 5 + 3) (by omega)]; exact e3
    · rw [World.ownsRow.cellAt hrow (k * 5 + 4) (by omega)]; exact e4
end Go.Proofs.YtnfkndaggcklkaaGreatDoor

namespace Go.TreeKit
open Go Go.Lib Go.TokenKit
theorem toks_count : ∀ (n p : Nat) (l : Bytes) (ts : List Tok), l.length ≤ n → toksAt p l = .ok ts → ts.length ≤ l.length
  | 0, p, l, ts, hn, h => by
    have : l = [] := List.length_eq_zero_iff.1 (by omega)
    subst this
    rw [toksAt_nil] at h
    cases h; exact Nat.le_refl _
  | n + 1, p, l, ts, hn, h => by
    by_cases hl : l = []
    · subst hl
      rw [toksAt_nil] at h
      cases h; exact Nat.le_refl _
    · rw [toksAt_step p hl] at h
      split at h
      · cases h
      · rename_i t r ho
        have hr := one_len hl ho
        split at h
        · cases h
        · rename_i ts2 h2
          cases h
          have := toks_count n _ r ts2 (by omega) h2
          simp only [List.length_cons]
          omega
/-- A fact of each token that 'oneL' tells of a part of the text is one of all of them. -/
theorem toks_all {P : Tok → Prop} {N : Nat} (hP : ∀ (l r : Bytes) (t : Tok), l.length ≤ N → oneL l = .ok (t, r) → P t) : ∀ (n p : Nat) (l : Bytes) (ts : List Tok), l.length ≤ n → l.length ≤ N → toksAt p l = .ok ts → ∀ t, t ∈ ts → P t
  | 0, p, l, ts, hn, _, h => by
    have : l = [] := List.length_eq_zero_iff.1 (by omega)
    subst this
    rw [toksAt_nil] at h
    cases h
    intro t ht; cases ht
  | n + 1, p, l, ts, hn, hN, h => by
    by_cases hl : l = []
    · subst hl
      rw [toksAt_nil] at h
      cases h
      intro t ht; cases ht
    · rw [toksAt_step p hl] at h
      split at h
      · cases h
      · rename_i t r ho
        have hr := one_len hl ho
        split at h
        · cases h
        · rename_i ts2 h2
          cases h
          intro y hy
          rcases List.mem_cons.1 hy with rfl | hy
          · exact hP l r _ hN ho
          · exact toks_all hP n _ r ts2 (by omega) (by omega) h2 y hy
/-- The sum of the data, given a bound on each. -/
theorem dataSum_le {B : Nat} : ∀ (l : List Tok), (∀ t, t ∈ l → t.data.length ≤ B) → dataSum l ≤ l.length * B
  | [], _ => Nat.zero_le _
  | t :: r, h => by
    have h1 := h t (by simp)
    have h2 := dataSum_le r (fun y hy => h y (by simp [hy]))
    rw [dataSum_cons, List.length_cons, Nat.add_mul, Nat.one_mul]
    omega
end Go.TreeKit

namespace Go.TreeKit
open Go Go.Lib Go.TokenKit Go.CharrefKit
theorem decodeF_len2 : ∀ (f : Nat) (attr : Bool) (l : List UInt8), (decodeF f attr l).length ≤ 4 * l.length
  | 0, _, l => by unfold decodeF; simp
  | f + 1, attr, [] => by simp [decodeF]
  | f + 1, attr, b :: r => by
    unfold decodeF
    split
    · rename_i h
      have hl := findL_len h
      rw [show (nats (b :: r)).length = (b :: r).length by simp [nats]] at hl
      have h1 := encodeRune_len (((findL attr (nats (b :: r))).char : Nat) : Int)
      have h2 := decodeF_len2 f attr ((b :: r).drop (findL attr (nats (b :: r))).len)
      rw [List.length_drop] at h2
      rw [List.length_append]
      omega
    · have h2 := decodeF_len2 f attr r
      simp only [List.length_cons]
      omega
theorem decodeL_len2 (attr : Bool) (l : List UInt8) : (decodeL attr l).length ≤ 4 * l.length := decodeF_len2 _ _ _
theorem before_len (stops l : Bytes) : (before stops l).length ≤ l.length := (List.takeWhile_sublist _).length_le
theorem small_len (l : Bytes) : (smallL l).length = l.length := by unfold smallL; simp
theorem value_le {l v r : Bytes} (h : valueL l = some (v, r)) : v.length ≤ l.length := by
  unfold valueL at h
  split at h
  · cases h
  · rename_i b r'
    have hq : ∀ q, quotedL q r' = some (v, r) → v.length ≤ (b :: r').length := fun q hh => by
      unfold quotedL at hh
      split at hh
      · cases hh
        have := before_len [q] r'
        simp only [List.length_cons]; omega
      · cases hh
    split at h
    · exact hq _ h
    · split at h
      · exact hq _ h
      · split at h
        · cases h
        · cases h; exact before_len _ _
theorem attr_le {l r : Bytes} {a : At} (h : attrL l = some (a, r)) : a.1.length ≤ l.length ∧ a.2.length ≤ 4 * l.length := by
  have hn : (smallL (before nameStops l)).length ≤ l.length := by rw [small_len]; exact before_len _ _
  have hs : (skipL (behind nameStops l)).length ≤ l.length := Nat.le_trans (skip_len _) (behind_len _ _)
  unfold attrL at h
  simp only at h
  split at h
  · cases h
  · split at h
    · cases h; exact ⟨hn, by simp⟩
    · rename_i b r' he
      rw [he] at hs
      simp only [List.length_cons] at hs
      split at h
      · split at h
        · cases h
        · rename_i v r2 hv
          cases h
          have h1 := value_le hv
          have h2 := skip_len r'
          have h3 := decodeL_len2 true v
          exact ⟨hn, by show (decodeL true v).length ≤ _; omega⟩
      · cases h; exact ⟨hn, by simp⟩
theorem attrs_le {N : Nat} : ∀ (f : Nat) (xs : List At) (l r : Bytes) (as2 : List At) (sf : Bool), l.length ≤ N → (∀ a, a ∈ xs → a.1.length ≤ N ∧ a.2.length ≤ 4 * N) → xs.length ≤ 16 → attrsF f xs l = .ok (as2, sf, r) → as2.length ≤ 16 ∧ ∀ a, a ∈ as2 → a.1.length ≤ N ∧ a.2.length ≤ 4 * N
  | 0, xs, l, r, as2, sf, hl, ha, h16, h => by unfold attrsF at h; cases h
  | f + 1, xs, l, r, as2, sf, hl, ha, h16, h => by
    unfold attrsF at h
    have hk := skip_len l
    split at h
    · cases h
    · rename_i b r1 he
      rw [he] at hk
      split at h
      · cases h; exact ⟨h16, ha⟩
      · split at h
        · split at h
          · cases h
          · split at h
            · cases h; exact ⟨h16, ha⟩
            · cases h
        · split at h
          · cases h
          · rename_i a r2 hat
            have h1 := attr_le hat
            have h2 := attr_len hat
            split at h
            · cases h
            · split at h
              · cases h
              · rename_i hlt
                refine attrs_le f _ r2 r as2 sf (by omega) (fun y hy => ?_) (by rw [List.length_append]; simp; omega) h
                rcases List.mem_append.1 hy with hy | hy
                · exact ha y hy
                · rw [List.mem_singleton] at hy; subst hy
                  exact ⟨by omega, by omega⟩
/-- What a token of a text of at most N bytes is bounded by. -/
structure TokLe (N : Nat) (t : Tok) : Prop where
  name : t.name.length ≤ N
  few : t.attrs.length ≤ 16
  attrs : ∀ a, a ∈ t.attrs → a.1.length ≤ N ∧ a.2.length ≤ 4 * N
  data : t.data.length ≤ 4 * N
theorem tag_le {N k : Nat} {l r : Bytes} {t : Tok} (hl : l.length ≤ N) (h : tagL k l = .ok (t, r)) : TokLe N t := by
  unfold tagL at h
  split at h
  · split at h
    · cases h
    · rename_i xs self r' ha
      cases h
      have hb := behind_len tagStops l
      have hn := before_len tagStops l
      have h2 := attrs_le (N := N) _ _ _ _ _ _ (by omega) (fun a ha => by cases ha) (by simp) ha
      exact ⟨by show (smallL _).length ≤ N; rw [small_len]; omega, h2.1, h2.2, by simp⟩
  · cases h
theorem end_le {N : Nat} {l r : Bytes} {t : Tok} (hl : l.length ≤ N) (h : endL l = .ok (t, r)) : TokLe N t := by
  cases l with
  | nil => cases h
  | cons b s =>
    rw [endL] at h
    split at h
    · split at h
      · cases h
      · rename_i t' r' ht
        split at h
        · cases h
        · cases h
          exact tag_le hl ht
    · cases h
theorem cut_le (l p : Bytes) : (cut l p).1.length ≤ l.length := by
  unfold cut
  split
  · exact (List.take_sublist _ _).length_le
  · exact Nat.le_refl _
theorem one_le {N : Nat} {l r : Bytes} {t : Tok} (hl : l.length ≤ N) (h : oneL l = .ok (t, r)) : TokLe N t := by
  unfold oneL at h
  split at h
  · split at h
    · exact tag_le (by rw [List.length_drop]; omega) h
    · split at h
      · exact end_le (by rw [List.length_drop]; omega) h
      · split at h
        · unfold commentL at h
          split at h
          · cases h
            have h1 := cut_le (l.drop 4) [45, 45, 62]
            rw [List.length_drop] at h1
            exact ⟨by simp, by simp, fun a ha => (by cases ha), by show (cut (l.drop 4) [45, 45, 62]).1.length ≤ _; omega⟩
          · cases h
        · split at h
          · unfold doctypeL at h
            split at h
            · cases h
              have h1 := cut_le (l.drop 9) [62]
              rw [List.length_drop] at h1
              have h2 := Go.Proofs.YtnfkndaggcklkaaGreatDoor.trimS_len (cut (l.drop 9) [62]).1 blanks
              exact ⟨by simp, by simp, fun a ha => (by cases ha), by show (trimS (cut (l.drop 9) [62]).1 blanks).length ≤ _; omega⟩
            · cases h
          · cases h
  · cases h
    have h1 := decodeL_len2 false (l.take (wordsN l))
    rw [List.length_take] at h1
    exact ⟨by simp, by simp, fun a ha => (by cases ha), by show (decodeL false (l.take (wordsN l))).length ≤ _; omega⟩
theorem answer_le {l : Bytes} : (answerL l).1.length ≤ 65536 ∧ ∀ t, t ∈ (answerL l).1 → TokLe 65536 t := by
  unfold answerL
  split
  · exact ⟨by simp, fun t ht => by cases ht⟩
  · rename_i hn
    split
    · exact ⟨by simp, fun t ht => by cases ht⟩
    · split
      · exact ⟨by simp, fun t ht => by cases ht⟩
      · rename_i ts hts
        have hts2 : toksAt 0 l = .ok ts := hts
        have h1 := toks_count _ 0 l ts (Nat.le_refl _) hts2
        exact ⟨by show ts.length ≤ _; omega, toks_all (N := 65536) (fun l' r t hl' ho => one_le hl' ho) _ 0 l ts (Nat.le_refl _) (by omega) hts2⟩
end Go.TreeKit

namespace Go.TreeKit
open Go Go.Lib Go.TokenKit Go.RowKit
theorem maxSum {l : Bytes} : dataSum (answerL l).1 ≤ 70368744177664 := by
  have h := answer_le (l := l)
  have h1 := dataSum_le (B := 4 * 65536) (answerL l).1 (fun t ht => (h.2 t ht).data)
  have h2 := Nat.mul_le_mul_right (4 * 65536) h.1
  omega
/-- P5.3: the tree, the error, its place; d: what Decode tells. -/
def parseL (d : Except Nat Bytes) : List Nd × Nat × Nat := match d with
  | .error x => ([], x, 0)
  | .ok t => if (answerL t).2.1 = 0 then buildL (answerL t).1 else ([], (answerL t).2.1, (answerL t).2.2)
/-- What Decode tells, in memory. -/
def ToldU (d : Except Nat Bytes) (w : World) (e : Ending) (w' : World) : Prop := match d with
  | .error x => (∃ s : ByteArray, e = .returned (.tuple #[.string s, .int .i64 ((x : Nat) : Int)])) ∧ x ≠ 0 ∧ Below w.heap.size w w'
  | .ok t => e = .returned (.tuple #[.string ⟨t.toArray⟩, .int .i64 0]) ∧ Below w.heap.size w w'
end Go.TreeKit
namespace Go.Proofs.YtnfkndaggcklkaaGreatDoor
open Go.RowKit Go.RunKit Go.CharrefKit Go.Lib Go.TokenKit Go.TreeKit

theorem NdRow.lower {w : World} {base base2 : Nat} {v : Value} {L : List NdV} (h : NdRow w base v L) (hb : base2 ≤ base) : NdRow w base2 v L := by
  have low : ∀ {e : TypeId} {size n : Nat} {u : Value} {xs : List Value}, w.ownsRow base e size u n xs → w.ownsRow base2 e size u n xs := fun ho => by
    refine ⟨ho.1, ?_⟩
    rcases ho.2 with h' | ⟨g, cap, cur, e, hg, rest⟩
    · exact .inl h'
    · exact .inr ⟨g, cap, cur, e, Nat.le_trans hb hg, rest⟩
  exact ⟨low h.row, fun x hx => low (h.attrs x hx), fun x hx => low (h.kids x hx), h.apart⟩

set_option maxRecDepth 100000 in
set_option maxHeartbeats 4000000 in
theorem parse_of (d : Except Nat Bytes) (ao : Option Addr) (cap n : Nat) (w : World) (hM : Maxed w w.heap.size) (hD : Calls Tryz.prog 41 #[.slice ao n cap] w (ToldU d w)) :
    Calls Tryz.prog 17 #[.slice ao n cap] w fun e w' => ∃ v L er pl, e = .returned (.tuple #[v, .int .i64 ((er : Nat) : Int), .int .i64 ((pl : Nat) : Int)]) ∧ Below w.heap.size w w' ∧ NdRow w' w.heap.size v L ∧ (L.map (·.1), er, pl) = parseL d := by
  have HD := Lib.hid hD
  have HM := Lib.hid hM
  clear hD hM
  unfold ToldU at HD
  cases d with
  | error x =>
    by_cases hx : x = 0
    · subst hx
      go_enter Tryz.func17, Tryz.ntmps17
      go_big_wp2_with (go_at_call 41; refine HD.out.mono ?_; rintro e w1 ⟨⟨s, rfl⟩, hx, hb1⟩; exact absurd rfl hx)
    · have hx0 : ((x : Int) = 0) = False := eq_false (by omega)
      have hxB : ((x : Int) == 0) = false := by rw [beq_eq_false_iff_ne]; omega
      have hxN : ((x : Int) != 0) = true := by rw [bne_iff_ne]; omega
      clear hx
      go_enter Tryz.func17, Tryz.ntmps17
      go_big_wp2_with (go_at_call 41; refine HD.out.mono ?_; rintro e w1 ⟨⟨s, rfl⟩, hx, hb1⟩; have HB1 := Lib.hid hb1; clear hb1 hx)
      go_ret3
      exact ⟨_, [], x, 0, rfl, HB1.out, NdRow.nil _ _, rfl⟩
  | ok t =>
    have HT := Lib.hid fun W1 (hb : Below w.heap.size w W1) => tokens_any ⟨t.toArray⟩ W1 (HM.out.at_ hb (Nat.le_refl _) |> fun h => ⟨h.ex, Nat.lt_of_lt_of_le HM.out.lt hb.size⟩)
    rw [bl_of] at HT
    obtain ⟨an, han⟩ : ∃ an, answerL t = an := ⟨_, rfl⟩
    have hle := answer_le (l := t)
    have hsum := maxSum (l := t)
    rw [han] at HT hle hsum
    obtain ⟨ts, er, pl⟩ := an
    have hpl : parseL (.ok t) = if er = 0 then buildL ts else ([], er, pl) := by unfold parseL; simp only [han]
    rw [hpl]
    have HLe := Lib.hid hle
    have HSm := Lib.hid hsum
    clear han hle hsum hpl
    by_cases he : er = 0
    · subst he
      rw [if_pos rfl]
      go_enter Tryz.func17, Tryz.ntmps17
      go_big_wp2_with (first
        | (go_at_call 41; refine HD.out.mono ?_; rintro e w1 ⟨rfl, hb1⟩; have HB1 := Lib.hid hb1; clear hb1)
        | (go_at_call 42
           go_loud (
             refine (HT.out _ HB1.out).mono ?_
             rintro e w2 ⟨v, L, er2, pl2, rfl, hb2, hrow, heq⟩
             simp only [Prod.mk.injEq] at heq
             obtain ⟨h1, h2, h3⟩ := heq
             subst h2
             subst h3
             subst h1
             obtain ⟨ao2, cap2, hv, hin⟩ := TksIn.of hrow (by have := HLe.out.1; rw [List.length_map] at this; omega) HSm.out (fun t ht => by have := (HLe.out.2 t ht).name; omega) (fun t ht => ⟨by have := (HLe.out.2 t ht).few; omega, fun a ha => by have := (HLe.out.2 t ht).attrs a ha; omega⟩)
             subst hv
             have HBd := Lib.hid (build_any _ ao2 cap2 _ w2 hin)
             have HB2 := Lib.hid (HB1.out.trans (hb2.mono HB1.out.size))
             clear hrow hin hb2))
        | (go_at_call 13; refine HBd.out.mono ?_; rintro e w3 ⟨v3, L3, er3, pl3, rfl, hb3, hr3, he3⟩; have HB3 := Lib.hid (HB2.out.trans (hb3.mono HB2.out.size)); have HR3 := Lib.hid (hr3.lower HB2.out.size); have HE3 := Lib.hid he3; clear hb3 hr3 he3))
      go_ret3
      exact ⟨v3, L3, er3, pl3, rfl, HB3.out, HR3.out, HE3.out⟩
    · rw [if_neg he]
      have hx0 : ((er : Int) = 0) = False := eq_false (by omega)
      have hxB : ((er : Int) == 0) = false := by rw [beq_eq_false_iff_ne]; omega
      have hxN : ((er : Int) != 0) = true := by rw [bne_iff_ne]; omega
      clear he
      go_enter Tryz.func17, Tryz.ntmps17
      go_big_wp2_with (first
        | (go_at_call 41; refine HD.out.mono ?_; rintro e w1 ⟨rfl, hb1⟩; have HB1 := Lib.hid hb1; clear hb1)
        | (go_at_call 42; refine (HT.out _ HB1.out).mono ?_; rintro e w2 ⟨v, L, er2, pl2, rfl, hb2, hrow, heq⟩; simp only [Prod.mk.injEq] at heq; obtain ⟨h1, h2, h3⟩ := heq; subst h2; subst h3; obtain ⟨ao2, cap2, hv⟩ := sliceOf hrow.row; subst hv; have HB2 := Lib.hid (HB1.out.trans (hb2.mono HB1.out.size)); clear hrow hb2 h1))
      go_ret3
      exact ⟨_, [], er2, pl2, rfl, HB2.out, NdRow.nil _ _, rfl⟩
end Go.Proofs.YtnfkndaggcklkaaGreatDoor

namespace Go.Proofs.YtnfkndaggcklkaaGreatDoor
open Go.RowKit Go.RunKit Go.CharrefKit Go.Lib Go.TokenKit Go.TreeKit

/-- A slice reads as the text s. -/
structure BytesAt (w : World) (a : Option Addr) (n : Nat) (s : ByteArray) : Prop where
  size : s.size = n
  at' : ∀ j, j < n → ∃ ad, a = some ad ∧ w.cell? (ad.add j) = some (.int .u8 (UtfKit.byteAt s j : Nat))
theorem BytesAt.on {w w' : World} {a : Option Addr} {n : Nat} {s : ByteArray} (h : BytesAt w a n s) (hb : Below w.heap.size w w') : BytesAt w' a n s := ⟨h.size, fun j hj => by
  obtain ⟨ad, e, hc⟩ := h.at' j hj
  exact ⟨ad, e, by rw [hb.cell (World.block_lt_of_cell? _ _ hc)]; exact hc⟩⟩
theorem byteAt_elem (s : ByteArray) (j : Nat) (h : j < s.data.toList.length) : (s.data.toList[j]).toNat = UtfKit.byteAt s j := (UtfKit.byteAt_list s.data.toList j h).symm
theorem BytesAt.conv {w : World} {a : Option Addr} {n : Nat} {s : ByteArray} (cap : Nat) (h : BytesAt w a n s) : (convert 42 9 (.slice a n cap)).run Tryz.prog w = .ok (.string s) w := by
  cases a with
  | none =>
    have h0 : n = 0 := by
      by_cases hn : n = 0
      · exact hn
      · obtain ⟨ad, e, _⟩ := h.at' 0 (by omega)
        cases e
    have hs : s = ByteArray.empty := by
      apply ByteArray.ext
      have : s.data.size = 0 := by have := h.size; have e : s.data.size = s.size := rfl; omega
      exact Array.eq_empty_of_size_eq_zero this
    rw [hs]
    exact run_convert_bytes_nil (P := Tryz.prog) _ 42 5 underBytes underByte _ _ _ underString
  | some ad =>
    have := run_convert_bytes_back (P := Tryz.prog) w 42 9 5 ad cap s.data.toList underBytes underByte underString (fun j hj => by
      obtain ⟨ad2, e, hc⟩ := h.at' j (by have := h.size; simpa [← this] using hj)
      cases e
      rw [hc, byteAt_elem s j hj])
    have e : s.data.toList.length = n := by have := h.size; simpa using this
    rw [e] at this
    exact this
theorem BytesAt.conv_over {w : World} {a : Option Addr} {n : Nat} {s : ByteArray} (cap : Nat) (h : BytesAt w a n s) : ∀ p : Over w, (convert 42 9 (.slice a n cap)).run Tryz.prog p.out = .ok (.string s) p.out := fun p => (h.on p.below).conv cap
/-- The bytes of a text, made anew. -/
theorem made_bytes (w : World) (s : ByteArray) (n : Nat) (hn : s.size = n) : ∃ gc w1, (convert 9 42 (.string s)).run Tryz.prog w = .ok (.slice (some ⟨w.heap.size, 0, none⟩) n gc) w1 ∧ Below w.heap.size w w1 ∧ BytesAt w1 (some ⟨w.heap.size, 0, none⟩) n s := by
  subst hn
  refine ⟨_, _, run_bytes_of_string (P := Tryz.prog) w 9 42 5 s underString underBytes underByte, (below_drewN (Below.refl _ _) 1).alloc (Nat.le_refl _) _, rfl, fun j hj => ⟨_, rfl, ?_⟩⟩
  have hl : j < s.data.toList.length := by simpa using hj
  have hd : j < s.data.size := by simpa using hl
  have := byteAt_elem s j hl
  rw [add_at, cell_of_row (w.drew.alloc _) w.heap.size j _ _ _ (heap_alloc_new w.drew _)]
  rw [← this]
  unfold bytesRow
  rw [Array.getElem?_append_left (by simpa using hd)]
  rw [Array.getElem?_map, Array.getElem?_eq_getElem hd]
  rfl

/-- What Decode tells of bytes. -/
def decL (s : ByteArray) : Except Nat Bytes := if s.size ≤ 65536 then .ok (U.told (UtfKit.parts s)) else .error 3
set_option maxRecDepth 100000 in
set_option maxHeartbeats 1000000 in
theorem decode_over (a : Option Addr) (n cap : Nat) (w : World) (hn : 65536 < n) : Calls Tryz.prog 41 #[.slice a n cap] w fun e w' => e = .returned (.tuple #[.string ⟨#[]⟩, .int .i64 3]) ∧ w = w' := by
  have hI : (65536 : Int) < n := by omega
  go_enter Tryz.func41, Tryz.ntmps41
  go_wp2
  go_ret2
  exact ⟨rfl, rfl⟩
theorem decode_toldU {w : World} {a : Option Addr} {n : Nat} (cap : Nat) {s : ByteArray} (h : BytesAt w a n s) (ht : U.Tabs w) : Calls Tryz.prog 41 #[.slice a n cap] w (ToldU (decL s) w) := by
  have hs := h.size
  unfold decL
  by_cases hn : n ≤ 65536
  · rw [if_pos (by omega)]
    exact (U.decode_any a n cap s w ht hn h.size (h.conv_over cap)).mono fun _ _ h => h
  · rw [if_neg (by omega)]
    exact (decode_over a n cap w (by omega)).mono fun _ _ h => ⟨⟨_, h.1⟩, by decide, h.2 ▸ Below.refl _ _⟩

/-- What is read of a tree. -/
structure NdReads (w : World) (ao : Option Addr) (L : List NdV) : Prop where
  at_ : ∀ k x, L[k]? = some x → ∃ g, ao = some ⟨g, 0, none⟩ ∧ w.cell? ⟨g, k * 6, none⟩ = some (.int .u8 ((x.1.kind : Nat) : Int)) ∧ w.cell? ⟨g, k * 6 + 1, none⟩ = some (.string ⟨x.1.name.toArray⟩) ∧
    w.cell? ⟨g, k * 6 + 2, none⟩ = some x.2.1 ∧ w.cell? ⟨g, k * 6 + 3, none⟩ = some (.string ⟨x.1.data.toArray⟩) ∧ w.cell? ⟨g, k * 6 + 4, none⟩ = some (.int .i64 x.1.up) ∧ w.cell? ⟨g, k * 6 + 5, none⟩ = some x.2.2
theorem NdRow.reads {w : World} {base : Nat} {v : Value} {L : List NdV} (h : NdRow w base v L) : ∃ ao cap, v = .slice ao L.length cap ∧ NdReads w ao L := by
  rcases h.row.2 with ⟨rfl, hn⟩ | ⟨g, cap, cur, rfl, _⟩
  · refine ⟨none, 0, by rw [hn], ⟨fun k a ha => ?_⟩⟩
    have := (List.getElem?_eq_some_iff.1 ha).1
    omega
  · refine ⟨_, cap, rfl, ⟨fun k a ha => ⟨g, rfl, ?_⟩⟩⟩
    have hk := (List.getElem?_eq_some_iff.1 ha).1
    have e := fun c (hc : c < 6) => ndCells_at (c := c) ha hc
    refine ⟨?_, ?_, ?_, ?_, ?_, ?_⟩
    · rw [World.ownsRow.cellAt h.row (k * 6) (by omega)]; exact e 0 (by omega)
    · rw [World.ownsRow.cellAt h.row (k * 6 + 1) (by omega)]; exact e 1 (by omega)
    · rw [World.ownsRow.cellAt h.row (k * 6 + 2) (by omega)]; exact e 2 (by omega)
    · rw [World.ownsRow.cellAt h.row (k * 6 + 3) (by omega)]; exact e 3 (by omega)
    · rw [World.ownsRow.cellAt h.row (k * 6 + 4) (by omega)]; exact e 4 (by omega)
    · rw [World.ownsRow.cellAt h.row (k * 6 + 5) (by omega)]; exact e 5 (by omega)
theorem NdReads.on {w w' : World} {ao : Option Addr} {L : List NdV} (h : NdReads w ao L) (hb : Below w.heap.size w w') : NdReads w' ao L := ⟨fun k a ha => by
  obtain ⟨g, e, h1, h2, h3, h4, h5, h6⟩ := h.at_ k a ha
  exact ⟨g, e, by rw [hb.cell (World.block_lt_of_cell? _ _ h1)]; exact h1, by rw [hb.cell (World.block_lt_of_cell? _ _ h2)]; exact h2, by rw [hb.cell (World.block_lt_of_cell? _ _ h3)]; exact h3,
    by rw [hb.cell (World.block_lt_of_cell? _ _ h4)]; exact h4, by rw [hb.cell (World.block_lt_of_cell? _ _ h5)]; exact h5, by rw [hb.cell (World.block_lt_of_cell? _ _ h6)]; exact h6⟩⟩
/-- P5.3: Parse. -/
theorem parse_any {w : World} {a : Option Addr} {n : Nat} (cap : Nat) {s : ByteArray} (h : BytesAt w a n s) (ht : U.Tabs w) (hM : Maxed w w.heap.size) :
    Calls Tryz.prog 17 #[.slice a n cap] w fun e w' => ∃ ao cap' L er pl, e = .returned (.tuple #[.slice ao L.length cap', .int .i64 ((er : Nat) : Int), .int .i64 ((pl : Nat) : Int)]) ∧ Below w.heap.size w w' ∧ NdRow w' w.heap.size (.slice ao L.length cap') L ∧ NdReads w' ao L ∧ (L.map (·.1), er, pl) = parseL (decL s) := by
  refine (parse_of (decL s) a cap n w hM (decode_toldU cap h ht)).mono ?_
  rintro e w' ⟨v, L, er, pl, rfl, hb, hr, he⟩
  obtain ⟨ao, cap', rfl, hrd⟩ := hr.reads
  exact ⟨ao, cap', L, er, pl, rfl, hb, hr, hrd, he⟩
/-- Parse at a known answer. -/
theorem parse_at {s : ByteArray} {T : List Nd} {er pl m : Nat} (hp : parseL (decL s) = (T, er, pl)) (hm : T.length = m) {w : World} {a : Option Addr} {n : Nat} (cap : Nat) (h : BytesAt w a n s) (ht : U.Tabs w) (hM : Maxed w w.heap.size) :
    Calls Tryz.prog 17 #[.slice a n cap] w fun e w' => ∃ ao cap' L, e = .returned (.tuple #[.slice ao m cap', .int .i64 ((er : Nat) : Int), .int .i64 ((pl : Nat) : Int)]) ∧ Below w.heap.size w w' ∧ NdRow w' w.heap.size (.slice ao m cap') L ∧ NdReads w' ao L ∧ L.map (·.1) = T := by
  refine (parse_any cap h ht hM).mono ?_
  rintro e w' ⟨ao, cap', L, er', pl', rfl, hb, hr, hrd, he⟩
  rw [hp] at he
  simp only [Prod.mk.injEq] at he
  obtain ⟨h1, h2, h3⟩ := he
  subst h2; subst h3
  have hl : L.length = m := by rw [← hm, ← h1, List.length_map]
  rw [hl] at hr ⊢
  exact ⟨ao, cap', L, rfl, hb, hr, hrd, h1⟩
theorem map_at {L : List NdV} {T : List Nd} (h : L.map (·.1) = T) {k : Nat} {n : Nd} (hk : T[k]? = some n) : ∃ u v, L[k]? = some (n, u, v) := by
  rw [← h, List.getElem?_map, Option.map_eq_some_iff] at hk
  obtain ⟨⟨n', u, v⟩, hx, rfl⟩ := hk
  exact ⟨u, v, hx⟩
end Go.Proofs.YtnfkndaggcklkaaGreatDoor

namespace Go.Proofs.YtnfkndaggcklkaaGreatDoor
open Go.RowKit Go.RunKit Go.UtfKit Go.CharrefKit Go.Lib Go.TokenKit Go.TreeKit

theorem char_of_cr {s : ByteArray} {i : Nat} (hi : i < s.size) (ho : (cutAt s i).ok = true) (h : (cutAt s i).char = 13) : ∃ b, b ∈ bl s ∧ b.toNat = 13 := by
  have h1 := U.encode_at s i hi ho
  have hl := cutAt_len s i hi
  rw [h, show encodeRune ((13 : Nat) : Int) = [13] by decide] at h1
  refine ⟨13, ?_, rfl⟩
  have hm : (13 : UInt8) ∈ (s.extract i (i + (cutAt s i).len)).data.toList := by rw [← h1]; simp
  have e : (s.extract i (i + (cutAt s i).len)).data.toList = ((bl s).drop i).take (cutAt s i).len := by
    simp [bl, List.extract]
  rw [e] at hm
  exact List.mem_of_mem_drop (List.mem_of_mem_take hm)
theorem told_from (s : ByteArray) (h13 : ∀ b, b ∈ bl s → b.toNat ≠ 13) : ∀ (f i : Nat) (l : List UInt8), s.size - i ≤ f → i ≤ s.size → (∀ p, p ∈ partsFrom s i → p.ok = true) → ((partsFrom s i).foldl U.takeByte (false, l)).2 = l ++ (bl s).drop i
  | 0, i, l, hf, hi, _ => by
    rw [partsFrom_end s i (by omega), List.drop_eq_nil_of_le (by rw [bl_length]; omega)]
    simp
  | f + 1, i, l, hf, hi, hok => by
    by_cases h : i < s.size
    · have hl := cutAt_len s i h
      rw [partsFrom_step s i h] at hok ⊢
      have ho := hok _ (List.mem_cons_self)
      have hc : ¬ (cutAt s i).char = 13 := fun e => by
        obtain ⟨b, hb, e2⟩ := char_of_cr h ho e
        exact h13 b hb e2
      rw [List.foldl_cons]
      have et : U.takeByte (false, l) (cutAt s i) = (false, l ++ encodeRune ((cutAt s i).char : Nat)) := by
        unfold U.takeByte
        simp [hc]
      rw [et, told_from s h13 f (i + (cutAt s i).len) _ (by omega) hl.2 (fun p hp => hok p (List.mem_cons_of_mem _ hp))]
      rw [U.encode_at s i h ho]
      have e : (s.extract i (i + (cutAt s i).len)).data.toList = ((bl s).drop i).take (cutAt s i).len := by
        simp [bl, List.extract]
      rw [e, List.append_assoc]
      congr 1
      rw [← List.drop_drop]
      exact List.take_append_drop _ _
    · rw [partsFrom_end s i (by omega), List.drop_eq_nil_of_le (by rw [bl_length]; omega)]
      simp
theorem told_plain {s : ByteArray} (h13 : ∀ b, b ∈ bl s → b.toNat ≠ 13) (hok : ∀ p, p ∈ UtfKit.parts s → p.ok = true) : U.told (UtfKit.parts s) = bl s := by
  have := told_from s h13 s.size 0 [] (by omega) (Nat.zero_le _) hok
  unfold U.told UtfKit.parts
  simpa using this
theorem decL_plain {s : ByteArray} (hs : s.size ≤ 65536) (h13 : ∀ b, b ∈ bl s → b.toNat ≠ 13) (hok : ∀ p, p ∈ UtfKit.parts s → p.ok = true) : decL s = .ok (bl s) := by
  unfold decL
  rw [if_pos hs, told_plain h13 hok]
end Go.Proofs.YtnfkndaggcklkaaGreatDoor

namespace Go.SerialKit
open Go Go.Lib Go.TokenKit
def ampB : Bytes := [38, 97, 109, 112, 59]
def ltB : Bytes := [38, 108, 116, 59]
def gtB : Bytes := [38, 103, 116, 59]
def nbspB : Bytes := [38, 110, 98, 115, 112, 59]
def crB : Bytes := [38, 35, 49, 51, 59]
def quotB : Bytes := [38, 113, 117, 111, 116, 59]
/-- A byte alone, escaped. -/
def oneE (attr : Bool) (b : UInt8) : Bytes :=
  if b = 38 then ampB else if b = 13 then crB else if b = 60 ∧ attr = false then ltB else if b = 62 ∧ attr = false then gtB else if b = 34 ∧ attr = true then quotB else [b]
/-- P6.1. -/
def escR (attr : Bool) : Bytes → Bytes
  | [] => []
  | [b] => oneE attr b
  | b :: c :: r => if b = 194 ∧ c = 160 then nbspB ++ escR attr r else oneE attr b ++ escR attr (c :: r)
theorem escR_cons {attr : Bool} {b : UInt8} (h : b ≠ 194) (r : Bytes) : escR attr (b :: r) = oneE attr b ++ escR attr r := by
  cases r with
  | nil => simp [escR]
  | cons c r => rw [escR, if_neg (fun e => h e.1)]
theorem escR_not {attr : Bool} {b c : UInt8} (h : c ≠ 160) (r : Bytes) : escR attr (b :: c :: r) = oneE attr b ++ escR attr (c :: r) := by
  rw [escR, if_neg (fun e => h e.2)]
/-- How a character is written, if not as itself. -/
def refOf (attr : Bool) (r : Int) : Bytes :=
  if attr = true then (if r = 34 then quotB else if r = 38 then ampB else if r = 160 then nbspB else if r = 13 then crB else [])
  else (if r = 60 then ltB else if r = 62 then gtB else if r = 38 then ampB else if r = 160 then nbspB else if r = 13 then crB else [])
/-- A byte that is written as itself. -/
theorem oneE_plain {attr : Bool} {b : UInt8} (h : refOf attr (b.toNat : Int) = []) : oneE attr b = [b] := by
  have ne : ∀ {k : Nat}, k < 256 → b.toNat ≠ k → b ≠ UInt8.ofNat k := fun hk h e => h (by rw [e]; simp; omega)
  unfold refOf at h
  unfold oneE
  cases attr with
  | true =>
    simp only [if_true] at h
    repeat' split at h
    all_goals first | (simp [quotB, ampB, nbspB, crB] at h; done) | skip
    rename_i h1 h2 h3 h4
    rw [if_neg (show b ≠ 38 from ne (k := 38) (by omega) (by omega)), if_neg (show b ≠ 13 from ne (k := 13) (by omega) (by omega)), if_neg (by simp), if_neg (by simp), if_neg (fun e => (show b ≠ 34 from ne (k := 34) (by omega) (by omega)) e.1)]
  | false =>
    simp only [Bool.false_eq_true, if_false] at h
    repeat' split at h
    all_goals first | (simp [ltB, gtB, ampB, nbspB, crB] at h; done) | skip
    rename_i h1 h2 h3 h4 h5
    rw [if_neg (show b ≠ 38 from ne (k := 38) (by omega) (by omega)), if_neg (show b ≠ 13 from ne (k := 13) (by omega) (by omega)), if_neg (fun e => (show b ≠ 60 from ne (k := 60) (by omega) (by omega)) e.1), if_neg (fun e => (show b ≠ 62 from ne (k := 62) (by omega) (by omega)) e.1), if_neg (by simp)]
theorem refOf_big {attr : Bool} {r : Int} (h : 63 ≤ r) (h2 : r ≠ 160) : refOf attr r = [] := by
  unfold refOf
  cases attr
  all_goals
    simp only [Bool.false_eq_true, if_false, if_true]
    repeat' split
    all_goals first | rfl | omega
/-- Bytes that are written as they stand. -/
theorem escR_pass {attr : Bool} : ∀ (x r : Bytes), (∀ b, b ∈ x → oneE attr b = [b] ∧ b ≠ 194) → escR attr (x ++ r) = x ++ escR attr r
  | [], r, _ => rfl
  | b :: x, r, h => by
    rw [List.cons_append, escR_cons (h b (by simp)).2, (h b (by simp)).1, escR_pass x r (fun c hc => h c (by simp [hc]))]
    rfl
theorem u8_of {x : Int} (_h0 : 0 ≤ x) (h1 : x < 256) : (x.toNat.toUInt8).toNat = x.toNat := by
  simp; omega
theorem escR_rune {attr : Bool} {z : Int} (h0 : 0 ≤ z) (h1 : z ≤ 1114111) (hs : ¬ (55296 ≤ z ∧ z ≤ 57343)) (h : refOf attr z = []) (r : Bytes) : escR attr (encodeRune z ++ r) = encodeRune z ++ escR attr r := by
  have high : ∀ x : Int, 128 ≤ x → x < 256 → x ≠ 160 ∨ True → oneE attr x.toNat.toUInt8 = [x.toNat.toUInt8] := fun x hx hy _ => by
    by_cases h160 : x = 160
    · subst h160
      cases attr <;> rfl
    · refine oneE_plain (refOf_big ?_ ?_)
      · rw [u8_of (by omega) hy]; omega
      · rw [u8_of (by omega) hy]; omega
  have n194 : ∀ x : Int, 0 ≤ x → x < 256 → x ≠ 194 → x.toNat.toUInt8 ≠ 194 := fun x hx hy hn e => by
    have := congrArg UInt8.toNat e
    rw [u8_of hx hy] at this
    simp at this
    omega
  unfold encodeRune
  by_cases c1 : z ≤ 127
  · rw [encodeRuneZ_one h0 c1]
    refine escR_pass _ _ (fun b hb => ?_)
    simp only [List.map_cons, List.map_nil, List.mem_singleton] at hb
    subst hb
    refine ⟨oneE_plain (by rw [u8_of h0 (by omega), Int.toNat_of_nonneg h0]; exact h), n194 z h0 (by omega) (by omega)⟩
  by_cases c2 : z ≤ 2047
  · rw [encodeRuneZ_two (by omega) c2]
    have hne : z ≠ 160 := fun e => by subst e; cases attr <;> simp [refOf, nbspB] at h
    by_cases c194 : z < 192
    · have e1 : (192 + z / 64) = 194 := by omega
      have hne2 : ((128 + z % 64).toNat.toUInt8) ≠ 160 := fun e => by
        have := congrArg UInt8.toNat e
        rw [u8_of (by omega) (by omega)] at this
        simp at this
        omega
      simp only [List.map_cons, List.map_nil, e1, List.cons_append, List.nil_append]
      rw [escR_not hne2, escR_cons (n194 _ (by omega) (by omega) (by omega)), high 194 (by omega) (by omega) (.inr trivial), high _ (by omega) (by omega) (.inr trivial)]
      rfl
    · refine escR_pass _ _ (fun b hb => ?_)
      simp only [List.map_cons, List.map_nil, List.mem_cons, List.not_mem_nil, or_false] at hb
      rcases hb with rfl | rfl
      · exact ⟨high _ (by omega) (by omega) (.inr trivial), n194 _ (by omega) (by omega) (by omega)⟩
      · exact ⟨high _ (by omega) (by omega) (.inr trivial), n194 _ (by omega) (by omega) (by omega)⟩
  by_cases c3 : z ≤ 65535
  · rw [encodeRuneZ_three (by omega)]
    refine escR_pass _ _ (fun b hb => ?_)
    simp only [List.map_cons, List.map_nil, List.mem_cons, List.not_mem_nil, or_false] at hb
    rcases hb with rfl | rfl | rfl
    all_goals exact ⟨high _ (by omega) (by omega) (.inr trivial), n194 _ (by omega) (by omega) (by omega)⟩
  · rw [encodeRuneZ_four (by omega) h1]
    refine escR_pass _ _ (fun b hb => ?_)
    simp only [List.map_cons, List.map_nil, List.mem_cons, List.not_mem_nil, or_false] at hb
    rcases hb with rfl | rfl | rfl | rfl
    all_goals exact ⟨high _ (by omega) (by omega) (.inr trivial), n194 _ (by omega) (by omega) (by omega)⟩
end Go.SerialKit

