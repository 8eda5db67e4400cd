/-
  Tokens as the document has them: selvedgelaw07.plain. Conditions: at most 2^32 tokens.
-/
import Derived.Test.YtmhdocgoeahbdaaDoorQWorks
import Derived.Deep.RegionHeld3
import Derived.Deep.AppendLies
namespace Go.Proofs.YtmhdocgoeahbdaaDoor
open Go.RowKit Go.RunKit Go.UtfKit Go.Lib Go.CssKit

def OwnZ (w : World) (base : Nat) (v : Value) (l : List CT) : Prop := w.ownsRow base TRt 4 v l.length (tokCells l)
theorem OwnZ.nil (w : World) (base : Nat) : OwnZ w base (.slice none 0 0) [] := World.ownsRow_nil _ _ _ _
theorem OwnZ.moved {wr wr' : World} {b base : Nat} {v : Value} {l : List CT} (h : OwnZ wr base v l) (hm : wr.grownBy wr' (some b)) (hb : b < base) : OwnZ wr' base v l :=
  World.ownsRow.kept h hm (.inr fun e => by have := (World.ownsRow.lt h _ e).1; omega)
theorem OwnZ.below {wr wr' : World} {base : Nat} {v : Value} {l : List CT} (h : OwnZ wr base v l) (hb : Below wr.heap.size wr wr') : OwnZ wr' base v l :=
  World.ownsRow.kept h (qg_below hb none) (by cases v.ownBlock <;> simp)
theorem Tryd.infoTrtT : (Tryd.prog.info? TRt).map (fun i => (i.zero, i.size, i.bytes)) = some (some (.agg #[.int .u8 0, .string ⟨#[]⟩, .string ⟨#[]⟩, .bool false]), 4, 48) := by kernel_rfl
theorem OwnZ.see {w : World} {base : Nat} {a : Option Addr} {cap : Nat} {ts : List CT} (h : OwnZ w base (.slice a ts.length cap) ts) : TksSee w a ts := by
  intro W' hb k x hx
  have hk := (List.getElem?_eq_some_iff.1 hx).1
  rcases h.2 with ⟨e, e2⟩ | ⟨g, c, cur, e, _⟩
  · omega
  · simp only [Value.slice.injEq] at e
    obtain ⟨rfl, _, rfl⟩ := e
    refine ⟨g, rfl, ?_⟩
    have hc : ∀ j v, j < 4 → (tokC x)[j]? = some v → W'.cell? ⟨g, k * 4 + j, none⟩ = some v := fun j v hj hv => by
      have h2 : w.cell? ⟨g, k * 4 + j, none⟩ = some v := by
        rw [World.ownsRow.cellAt h (k * 4 + j) (by omega), tokCells_at ts k j x hx hj]
        exact hv
      rw [hb.cell (World.block_lt_of_cell? _ _ h2)]
      exact h2
    exact ⟨hc 0 _ (by omega) rfl, hc 1 _ (by omega) rfl, hc 2 _ (by omega) rfl, hc 3 _ (by omega) rfl⟩

set_option maxRecDepth 100000 in
set_option maxHeartbeats 4000000 in
theorem plain_any (ao : Option Addr) (cap : Nat) (ts : List CT) (h32 : ts.length ≤ 4294967296) (w : World) (ha : TksSee w ao ts) :
    Calls Tryd.prog 7 #[.slice ao ts.length cap] w fun e w' => ∃ a cap2, e = .returned (.slice a ts.length cap2) ∧ TksSee w' a ts ∧ Below w.heap.size w w' := by
  have HA := Lib.hid ha
  obtain ⟨i0, hi0, hz0, hz1, hz2⟩ := info_parts Tryd.infoTrtT
  obtain ⟨n, hn⟩ : ∃ n, ts.length = n := ⟨_, rfl⟩
  rw [hn] at h32 ⊢
  have HN := Lib.hid hn
  have T0 : Hid (Below w.heap.size w w ∧ OwnZ w w.heap.size (.slice none 0 0) (ts.take 0)) := Lib.hid ⟨Below.refl _ _, OwnZ.nil _ _⟩
  clear ha hn
  go_enter Tryd.func7, Tryd.ntmps7
  go_big_wp2
  go_loopw [3, 4] (fun v i wr => ∃ (k : Nat) (ao2 : Option Addr) (cap2 : Nat), v = .slice ao2 k cap2 ∧ i = .int .i64 (k : Nat) ∧ k ≤ n ∧ Hid (Below w.heap.size w wr ∧ OwnZ wr w.heap.size (.slice ao2 k cap2) (ts.take k))) (fun _ i _ => n - (RowKit.intOf i).toNat)
  case atStart => exact ⟨0, none, 0, rfl, rfl, Nat.zero_le _, T0⟩
  case round =>
    clear T0
    obtain ⟨k, ao2, cap2, rfl, rfl, hkn, HT⟩ := hrel
    by_cases hlt : k < n
    · have hltI : (k : Int) < n := by omega
      have hk0 : (0 : Int) ≤ k := by omega
      obtain ⟨x, hx⟩ : ∃ x, ts[k]? = some x := ⟨ts[k]'(by rw [HN.out]; exact hlt), by simp [show k < ts.length by rw [HN.out]; exact hlt]⟩
      obtain ⟨g, hg, c0, c1, c2, c3⟩ := HA.out wr HT.out.1 k x hx
      subst hg
      have htk : ts.take (k + 1) = ts.take k ++ [x] := by
        rw [List.take_add_one, hx]; rfl
      have HTk := Lib.hid htk
      have htl : (ts.take k).length = k := by rw [List.length_take, HN.out]; omega
      have hrow := HT.out.2
      unfold OwnZ at hrow
      rw [htl] at hrow
      obtain ⟨kd, vl, un, idb⟩ := x
      simp only at c0 c1 c2 c3
      obtain ⟨vb, hvb⟩ : ∃ vb : ByteArray, (⟨vl.toArray⟩ : ByteArray) = vb := ⟨_, rfl⟩
      obtain ⟨ub, hub⟩ : ∃ ub : ByteArray, (⟨un.toArray⟩ : ByteArray) = ub := ⟨_, rfl⟩
      rw [hvb] at c1
      rw [hub] at c2
      have HVb := Lib.hid hvb
      have HUb := Lib.hid hub
      have b1 : Below wr.heap.size wr (wr.alloc (.cells #[.int .u8 ((kd : Nat) : Int), .string vb, .string ub, .bool idb] TRt)) := (Below.refl _ _).alloc (Nat.le_refl _) _
      have d0 := (b1.cell (World.block_lt_of_cell? _ _ c0)).trans c0
      have d1 := (b1.cell (World.block_lt_of_cell? _ _ c1)).trans c1
      have d2 := (b1.cell (World.block_lt_of_cell? _ _ c2)).trans c2
      have d3 := (b1.cell (World.block_lt_of_cell? _ _ c3)).trans c3
      have HRow := Lib.hid hrow
      have HRow5 := Lib.hid (World.ownsRow.kept hrow (qg_below b1 none) (by cases (Value.slice ao2 k cap2).ownBlock <;> simp))
      have HNews := Lib.hid (heap_alloc_new wr (.cells #[.int .u8 ((kd : Nat) : Int), .string vb, .string ub, .bool idb] TRt))
      have HB1 := Lib.hid b1
      have HLg : Hid (g < w.heap.size) := Lib.hid (by
        obtain ⟨g', hg', cc0, _⟩ := HA.out w (Below.refl _ _) k _ hx
        simp only [Option.some.injEq, Addr.mk.injEq, and_true] at hg'
        have := World.block_lt_of_cell? _ _ cc0
        rw [hg']; exact this)
      clear hvb hub hx htk hrow htl b1
      go_big_wp2
      go_region_held3 (fun w' => w'.cell? ⟨g, k * 4, none⟩ = some (.int .u8 ((kd : Nat) : Int)) ∧ w'.cell? ⟨g, k * 4 + 1, none⟩ = some (.string vb) ∧ w'.cell? ⟨g, k * 4 + 2, none⟩ = some (.string ub) ∧ w'.cell? ⟨g, k * 4 + 3, none⟩ = some (.bool idb))
        (first | exact ⟨c0, c1, c2, c3⟩ | exact ⟨d0, d1, d2, d3⟩ | exact ⟨e0, e1, e2, e3⟩)
        (first
          | (refine step_append_lies _ rfl _ _ 28 rfl w.heap.size TRt i0 _ 4 48 Tryd.underlying28 hi0 hz0 hz1 hz2 rfl (by decide) _ k (tokCells (ts.take k)) rfl HRow5.out ⟨wr.heap.size, 0, none⟩ 1 1 [.int .u8 ((kd : Nat) : Int), .string vb, .string ub, .bool idb] rfl rfl (World.news_of_block HNews.out) (fun u hu => by simp only [List.mem_cons, List.not_mem_nil, or_false] at hu; rcases hu with rfl | rfl | rfl | rfl <;> rfl) (by decide) (by unfold maxLen; omega) (by omega) (Nat.le_trans HT.out.1.size HB1.out.size) _ rfl ?_; intro gq qc W5 hown hgrow _ _; have hgo : ∀ o, (wr.alloc (.cells #[.int .u8 ((kd : Nat) : Int), .string vb, .string ub, .bool idb] TRt)).cell? ⟨g, o, none⟩ = W5.cell? ⟨g, o, none⟩ := (fun o => by unfold World.cell?; rw [hgrow.block g (Nat.lt_of_lt_of_le HLg.out (Nat.le_trans HT.out.1.size HB1.out.size)) (fun e => by have := (World.ownsRow.lt HRow.out _ e.symm).1; have := HLg.out; omega)]; rfl); have e0 := (hgo _).symm.trans d0; have e1 := (hgo _).symm.trans d1; have e2 := (hgo _).symm.trans d2; have e3 := (hgo _).symm.trans d3; have HOwn := Lib.hid hown; have HGr := Lib.hid hgrow; clear hown hgrow hgo))
      have hB6 : Below w.heap.size w W5 := (HT.out.1.trans (HB1.out.drew.mono HT.out.1.size)).grown HGr.out (Nat.le_trans HT.out.1.size HB1.out.size) (fun q hq => (World.ownsRow.lt HRow5.out q hq).1)
      have hrow6 : OwnZ W5 w.heap.size (.slice (some ⟨gq, 0, none⟩) (k + 1) qc) (ts.take (k + 1)) := by
        have e := HOwn.out
        unfold OwnZ
        rw [HTk.out, tokCells_snoc, List.length_append, List.length_take, HN.out, Nat.min_eq_left hkn]
        unfold tokC
        rw [HVb.out, HUb.out]
        exact e
      have HF := Lib.hid (show Below w.heap.size w W5 ∧ OwnZ W5 w.heap.size (.slice (some ⟨gq, 0, none⟩) (k + 1) qc) (ts.take (k + 1)) from ⟨hB6, hrow6⟩)
      clear hB6 hrow6
      go_big_wp2
      exact ⟨⟨k + 1, _, qc, rfl, by simp, by omega, HF⟩, by simp [RowKit.intOf]; omega⟩
    · have hltI : ¬ (k : Int) < n := by omega
      have hkn2 : k = n := by omega
      subst hkn2
      have hfin : OwnZ wr w.heap.size (.slice ao2 k cap2) ts := by
        have := HT.out.2
        rwa [List.take_of_length_le (by rw [HN.out]; exact Nat.le_refl _)] at this
      have HF : Hid (TksSee wr ao2 ts) := Lib.hid (by
        have hh := hfin
        rw [← HN.out] at hh
        exact hh.see)
      clear hfin
      go_big_wp2
      go_ret
      exact ⟨ao2, ⟨cap2, rfl⟩, HF.out, HT.out.1⟩
end Go.Proofs.YtmhdocgoeahbdaaDoor

