/-
  The stack of open nodes in a variable of its own: pop, push, downTo. No conditions.
-/
import Derived.Test.YtkfmfldkllkcbabDoorRNode
namespace Go.TreeKit
open Go Go.Lib Go.TokenKit
/-- All above a node closed. -/
def downL (node : Int) : List Opd → List Opd
  | [] => []
  | o :: r => if (o.node : Int) = node then o :: r else downL node r
theorem downL_len (node : Int) : ∀ l : List Opd, (downL node l).length ≤ l.length
  | [] => Nat.le_refl _
  | o :: r => by
    unfold downL
    split
    · exact Nat.le_refl _
    · have := downL_len node r; simp only [List.length_cons]; omega
end Go.TreeKit
namespace Go.Proofs.YtkfmfldkllkcbabDoor
open Go.RowKit Go.RunKit Go.CharrefKit Go.Lib Go.TokenKit Go.TreeKit

abbrev TSt : TypeId := 88
/-- The stack in a block of its own. -/
structure StAt (w0 : World) (b : Nat) (ao : Option Addr) (cap : Nat) (st : List Opd) (W : World) : Prop where
  below : Below w0.heap.size w0 W
  le : w0.heap.size ≤ b
  blk : W.heap[b]? = some (.cells #[.slice ao st.length cap] TSt (0, 0))
  opens : W.ownsRow w0.heap.size TOp 3 (.slice ao st.length cap) st.length (opCells st.reverse)
theorem StAt.on {w0 W W' : World} {b : Nat} {ao : Option Addr} {cap : Nat} {st : List Opd} (h : StAt w0 b ao cap st W) (hb : Below W.heap.size W W') : StAt w0 b ao cap st W' :=
  ⟨h.below.trans (hb.mono h.below.size), h.le, by rw [hb.block _ (Array.getElem?_eq_some_iff.1 h.blk).1]; exact h.blk, own_on h.opens hb⟩
theorem StAt.cell {w0 W : World} {b : Nat} {ao : Option Addr} {cap : Nat} {st : List Opd} (h : StAt w0 b ao cap st W) : W.cell? ⟨b, 0, none⟩ = some (.slice ao st.length cap) := by rw [cell_of_row _ _ 0 _ _ _ h.blk]; rfl
theorem StAt.frozen {w0 W : World} {b : Nat} {ao : Option Addr} {cap : Nat} {st : List Opd} (h : StAt w0 b ao cap st W) : W.frozen? ⟨b, 0, none⟩ = false := frozen_of_row _ _ _ _ _ h.blk
theorem StAt.set {w0 W : World} {b : Nat} {ao ao' : Option Addr} {cap cap' : Nat} {st st' : List Opd} (h : StAt w0 b ao cap st W) (ho : W.ownsRow w0.heap.size TOp 3 (.slice ao' st'.length cap') st'.length (opCells st'.reverse)) : StAt w0 b ao' cap' st' (W.setCell ⟨b, 0, none⟩ (.slice ao' st'.length cap')) :=
  ⟨h.below.setCell h.le _, h.le, by have := heap_setCell_same W b 0 _ _ (.slice ao' st'.length cap') h.blk; simpa using this, own_other ho h.blk (by decide) (grown_set _ _ _ _)⟩
theorem StAt.grew {w0 W W2 : World} {b : Nat} {ao ao' : Option Addr} {cap cap' : Nat} {st st' : List Opd} (h : StAt w0 b ao cap st W) (hg : W.grownBy W2 (Value.slice ao st.length cap).ownBlock) (ho : W2.ownsRow w0.heap.size TOp 3 (.slice ao' st'.length cap') st'.length (opCells st'.reverse)) : StAt w0 b ao' cap' st' (W2.setCell ⟨b, 0, none⟩ (.slice ao' st'.length cap')) := by
  have hblk : W2.heap[b]? = some (.cells #[.slice ao st.length cap] TSt (0, 0)) := (hg.block b (Array.getElem?_eq_some_iff.1 h.blk).1 (fun e => own_ne h.opens h.blk (by decide) e.symm)).trans h.blk
  have hb : Below w0.heap.size w0 W2 := h.below.grown hg h.below.size (fun k hk => (World.ownsRow.lt h.opens k hk).1)
  exact ⟨hb.setCell h.le _, h.le, by have := heap_setCell_same W2 b 0 _ _ (.slice ao' st'.length cap') hblk; simpa using this, own_other ho hblk (by decide) (grown_set _ _ _ _)⟩

theorem StAt.blkGrown {w0 W W2 : World} {b : Nat} {ao : Option Addr} {cap n : Nat} {st : List Opd} (h : StAt w0 b ao cap st W) (hn : st.length = n) (hg : W.grownBy W2 (Value.slice ao n cap).ownBlock) : W2.cell? ⟨b, 0, none⟩ = some (.slice ao n cap) ∧ W2.frozen? ⟨b, 0, none⟩ = false := by
  subst hn
  have hblk : W2.heap[b]? = some (.cells #[.slice ao st.length cap] TSt (0, 0)) := (hg.block b (Array.getElem?_eq_some_iff.1 h.blk).1 (fun e => own_ne h.opens h.blk (by decide) e.symm)).trans h.blk
  exact ⟨by rw [cell_of_row _ _ 0 _ _ _ hblk]; rfl, frozen_of_row _ _ _ _ _ hblk⟩

set_option maxRecDepth 100000 in
set_option maxHeartbeats 1000000 in
theorem pop1_any (w0 : World) (b : Nat) (ao : Option Addr) (cap n : Nat) (o : Opd) (r : List Opd) (W : World) (hn : (o :: r).length = n) (hn32 : n ≤ 4294967296) (h : StAt w0 b ao cap (o :: r) W) :
    Calls Tryd.prog 65 #[.pointer (some ⟨b, 0, none⟩)] W fun e w' => e = .returned (.tuple #[]) ∧ StAt w0 b ao cap r w' := by
  have hop := h.opens
  have hO : W.ownsRow w0.heap.size TOp 3 (.slice ao r.length cap) r.length (opCells r.reverse) := opens_pop (by simpa using hop)
  have HB := Lib.hid (h.set hO)
  have x0 := h.cell
  have y0 := h.frozen
  rw [List.length_cons] at hn hop x0
  subst hn
  have h0 : (0 : Int) ≤ ((r.length + 1 : Nat) : Int) - 1 := by omega
  have hI : ((r.length + 1 : Nat) : Int) ≤ 4294967296 := by omega
  have hI2 : ((r.length + 1 : Nat) : Int) - 1 = (r.length : Int) := by omega
  have hcap : (r.length : Int) ≤ (cap : Int) := by
    rcases hop.2 with ⟨_, h'⟩ | ⟨_, _, _, e, _, _, hc, _⟩
    · omega
    · cases e; omega
  have hw : IntKind.i64.wrap (r.length : Int) = (r.length : Int) := IntWalk.i64_in _ (by omega)
  clear h hop hO
  go_enter Tryd.func65, Tryd.ntmps65
  go_big_wp2
  go_region
  all_goals
    go_end0
    exact ⟨rfl, HB.out.on (Below.refl _ _).drew⟩

set_option maxRecDepth 100000 in
set_option maxHeartbeats 2000000 in
theorem push1_any (w0 : World) (b : Nat) (ao : Option Addr) (cap n : Nat) (st : List Opd) (nd k : Nat) (nm : ByteArray) (W : World) (hn : st.length = n) (hn32 : n ≤ 4294967296) (h : StAt w0 b ao cap st W) :
    Calls Tryd.prog 60 #[.pointer (some ⟨b, 0, none⟩), .agg #[.int .i64 ((nd : Nat) : Int), .string nm, .int .u8 ((k : Nat) : Int)]] W fun e w' => e = .returned (.tuple #[]) ∧ ∃ ao' cap', StAt w0 b ao' cap' (⟨nd, bl nm, k⟩ :: st) w' := by
  have b1 : Below W.heap.size W (W.alloc (.cells #[.int .i64 ((nd : Nat) : Int), .string nm, .int .u8 ((k : Nat) : Int)] TOp)) := (Below.refl _ _).alloc (Nat.le_refl _) _
  have h1 := h.on b1
  obtain ⟨W1, hW1⟩ : ∃ W1, W.alloc (.cells #[.int .i64 ((nd : Nat) : Int), .string nm, .int .u8 ((k : Nat) : Int)] TOp) = W1 := ⟨_, rfl⟩
  have hl := heap_alloc_new W (.cells #[.int .i64 ((nd : Nat) : Int), .string nm, .int .u8 ((k : Nat) : Int)] TOp)
  rw [hW1] at h1 hl
  obtain ⟨B, hB⟩ : ∃ B, W.heap.size = B := ⟨_, rfl⟩
  rw [hB] at hl
  have x0 := h1.cell
  have y0 := h1.frozen
  rw [hn] at x0
  have z0 : W1.cell? ⟨B, 0, none⟩ = some (.int .i64 ((nd : Nat) : Int)) := by rw [cell_of_row W1 B 0 _ _ _ hl]; rfl
  have z1 : W1.cell? ⟨B, 1, none⟩ = some (.string nm) := by rw [cell_of_row W1 B 1 _ _ _ hl]; rfl
  have z2 : W1.cell? ⟨B, 2, none⟩ = some (.int .u8 ((k : Nat) : Int)) := by rw [cell_of_row W1 B 2 _ _ _ hl]; rfl
  have HN := Lib.hid hn
  obtain ⟨i0, hi0, hz0, hz1, hz2⟩ := info_parts Tryd.infoOp
  have hG := h1.on (W' := (W1.alloc (.cells #[.int .i64 ((nd : Nat) : Int), .string nm, .int .u8 ((k : Nat) : Int)] TOp)).drew) ((Below.refl _ _).alloc (Nat.le_refl _) _).drew
  have HG := Lib.hid hG
  have hp := h1.on (W' := W1.alloc (.cells #[.int .i64 ((nd : Nat) : Int), .string nm, .int .u8 ((k : Nat) : Int)] TOp)) ((Below.refl _ _).alloc (Nat.le_refl _) _)
  have p0 := hp.cell
  have q0 := hp.frozen
  rw [hn] at p0
  have HNews : Hid ((W1.alloc (.cells #[.int .i64 ((nd : Nat) : Int), .string nm, .int .u8 ((k : Nat) : Int)] TOp)).drew.heap[W1.heap.size]? = some (.cells #[.int .i64 ((nd : Nat) : Int), .string nm, .int .u8 ((k : Nat) : Int)] TOp (0, 0))) := Lib.hid (heap_alloc_new W1 _)
  have H1c : Hid (∀ u ∈ [Value.int .i64 ((nd : Nat) : Int), Value.string nm, Value.int .u8 ((k : Nat) : Int)], u.oneCell' = true) := Lib.hid fun u hu => by simp only [List.mem_cons, List.not_mem_nil, or_false] at hu; rcases hu with rfl | rfl | rfl <;> rfl
  have HMx : Hid (n + 1 ≤ maxLen) := Lib.hid (by unfold maxLen; omega)
  have HOp := Lib.hid (show (W1.alloc (.cells #[.int .i64 ((nd : Nat) : Int), .string nm, .int .u8 ((k : Nat) : Int)] TOp)).drew.ownsRow w0.heap.size TOp 3 (.slice ao n cap) n (opCells st.reverse) from by have := hG.opens; rwa [hn] at this)
  have HFin : Hid (∀ (W2 : World) (v' : Value), (W1.alloc (.cells #[.int .i64 ((nd : Nat) : Int), .string nm, .int .u8 ((k : Nat) : Int)] TOp)).drew.grownBy W2 (Value.slice ao n cap).ownBlock → ∀ g cap', v' = .slice (some ⟨g, 0, none⟩) (n + 1) cap' → W2.ownsRow w0.heap.size TOp 3 v' (n + 1) (opCells st.reverse ++ opCell ⟨nd, bl nm, k⟩) → StAt w0 b (some ⟨g, 0, none⟩) cap' (⟨nd, bl nm, k⟩ :: st) (W2.setCell ⟨b, 0, none⟩ v')) := Lib.hid fun W2 v' hg g cap' hv ho => by
    subst hv
    have hlen : (⟨nd, bl nm, k⟩ :: st : List Opd).length = n + 1 := by rw [List.length_cons, hn]
    have := hG.grew (st' := ⟨nd, bl nm, k⟩ :: st) (ao' := some ⟨g, 0, none⟩) (cap' := cap') (by rw [hn]; exact hg) (by have := opens_push (o := ⟨nd, bl nm, k⟩) (l := st) ho (by rw [hn]); rwa [hlen] at this ⊢)
    rwa [hlen] at this
  clear h h1 b1 hl hG hp
  go_enter Tryd.func60, Tryd.ntmps60
  go_big_wp2
  go_region_law (refine step_append_lies _ rfl _ _ 88 rfl w0.heap.size 93 i0 _ 3 32 Tryd.underlying88 hi0 hz0 hz1 hz2 rfl (by decide) _ n (opCells st.reverse) rfl HOp.out ⟨W1.heap.size, 0, none⟩ 1 1 [.int .i64 ((nd : Nat) : Int), .string nm, .int .u8 ((k : Nat) : Int)] rfl rfl (World.news_of_block HNews.out) H1c.out (by decide) HMx.out (by omega) HG.out.below.size _ rfl ?_; intro g cap' W2 hown hgrow _ _; obtain ⟨u0, v0⟩ := HG.out.blkGrown HN.out hgrow; have HOwn := Lib.hid hown; have HGr := Lib.hid hgrow; clear hown hgrow)
  all_goals
    go_end0
    refine ⟨rfl, some ⟨g, 0, none⟩, cap', ?_⟩
    have ho := HOwn.out
    rw [show [Value.int .i64 ((nd : Nat) : Int), Value.string nm, Value.int .u8 ((k : Nat) : Int)] = opCell ⟨nd, bl nm, k⟩ from rfl] at ho
    exact HFin.out _ _ HGr.out g cap' rfl ho
def lenAt (b : Nat) (w : World) : Nat := match w.cell? ⟨b, 0, none⟩ with
  | some (.slice _ n _) => n
  | _ => 0
theorem StAt.lenAt {w0 W : World} {b : Nat} {ao : Option Addr} {cap : Nat} {st : List Opd} (h : StAt w0 b ao cap st W) : lenAt b W = st.length := by
  unfold Proofs.YtkfmfldkllkcbabDoor.lenAt
  rw [h.cell]

set_option maxRecDepth 100000 in
set_option maxHeartbeats 4000000 in
theorem downTo_any (w0 : World) (b : Nat) (ao : Option Addr) (cap : Nat) (st : List Opd) (node : Int) (W : World) (hn32 : st.length ≤ 65536) (h : StAt w0 b ao cap st W) :
    Calls Tryd.prog 54 #[.pointer (some ⟨b, 0, none⟩), .int .i64 node] W fun e w' => e = .returned (.bool (!(downL node st).isEmpty)) ∧ StAt w0 b ao cap (downL node st) w' := by
  have H0 := Lib.hid h
  obtain ⟨st1, hst1⟩ : ∃ l, downL node st = l := ⟨_, rfl⟩
  rw [hst1]
  have HD := Lib.hid hst1
  clear h hst1
  go_enter Tryd.func54, Tryd.ntmps54
  go_big_wp2
  go_loopw [] (fun wr => ∃ l : List Opd, Hid (StAt w0 b ao cap l wr) ∧ l.length ≤ 65536 ∧ Hid (downL node l = st1)) (fun wr => lenAt b wr)
  case atStart => exact ⟨st, H0, hn32, HD⟩
  case round =>
    obtain ⟨l, HS, hl32, HC⟩ := hrel
    have x0 := HS.out.cell
    have hm0 := Lib.hid HS.out.lenAt
    cases hl : l with
    | nil =>
      rw [hl] at HS HC x0
      have hE : Hid (st1 = []) := Lib.hid (by rw [← HC.out]; rfl)
      simp only [List.length_nil] at x0
      clear hl
      go_big_wp2
      go_ret
      exact ⟨by rw [hE.out]; rfl, by rw [hE.out]; exact HS.out⟩
    | cons o r =>
      rw [hl] at HS HC x0 hl32 hm0
      obtain ⟨n, hn⟩ : ∃ n, (o :: r).length = n := ⟨_, rfl⟩
      rw [hn] at x0 hl32 hm0
      have hn1 : n = r.length + 1 := by rw [← hn]; rfl
      have hop := HS.out.opens
      rw [hn] at hop
      have HT := Lib.hid (top_any ao cap n w0.heap.size o r wr hn1 (by omega) hop)
      have HP := Lib.hid fun w1 (hb : Below wr.heap.size wr w1) => pop1_any w0 b ao cap n o r w1 hn (by omega) (HS.out.on hb)
      have hpos : (0 : Int) < (n : Int) := by omega
      obtain ⟨nm, hnm⟩ : ∃ nm : ByteArray, (⟨o.name.toArray⟩ : ByteArray) = nm := ⟨_, rfl⟩
      rw [hnm] at HT
      have hf := field0 ((o.node : Nat) : Int) nm ((o.kind : Nat) : Int)
      have hN := Lib.hid hn1
      obtain ⟨kd, hkd⟩ : ∃ kd, o.kind = kd := ⟨_, rfl⟩
      obtain ⟨nd, hnd⟩ : ∃ nd, o.node = nd := ⟨_, rfl⟩
      have hc := HC.out
      unfold downL at hc
      rw [hkd, hnd] at HT hf
      rw [hnd] at hc
      clear hop hnm hkd hnd hn1 HC hl
      by_cases he : (nd : Int) = node
      · rw [if_pos he] at hc
        subst he
        have HE := Lib.hid hc
        have HNn := Lib.hid hn
        clear hc hn
        go_big_wp2_with (go_at_call 64
                         go_loud (
                           refine HT.out.mono ?_
                           rintro e w1 ⟨rfl, hb1⟩
                           have HB1 := Lib.hid hb1
                           have x1 := (HS.out.on hb1).cell
                           rw [HNn.out] at x1
                           clear hb1))
        go_ret
        exact ⟨by rw [← HE.out]; rfl, by rw [← HE.out]; exact HS.out.on HB1.out⟩
      · rw [if_neg he] at hc
        have heI := eq_false he
        have heB : ((nd : Int) != node) = true := bne_iff_ne.2 he
        have HE := Lib.hid hc
        clear hc hn he
        go_big_wp2_with (first
          | (go_at_call 64; refine HT.out.mono ?_; rintro e w1 ⟨rfl, hb1⟩; have HB1 := Lib.hid hb1; clear hb1)
          | (go_at_call 65; refine (HP.out _ HB1.out).mono ?_; rintro e w3 ⟨rfl, hS3⟩; have HS3 := Lib.hid hS3; clear hS3))
        exact ⟨⟨r, HS3, by have := hN.out; omega, HE⟩, by rw [HS3.out.lenAt, hm0.out]; have := hN.out; omega⟩
end Go.Proofs.YtkfmfldkllkcbabDoor

