/-
  The stack of package tree: top, pop, push, has, takes, closeAll, closeOne. No conditions.
  The stack of package tree: closeAll, closeOne. No conditions.
-/
import Derived.Test.YtnfkndaggcklkaaGreatDoorPA9
import Derived.Deep.AppendLies
import Derived.Deep.RegionLaw
import Derived.RegionTactic
import Derived.ChangeAlike
import Derived.BigRegion
import Derived.Sort.AtCall
namespace Go.Proofs.YtnfkndaggcklkaaGreatDoor
open Go.RowKit Go.RunKit Go.CharrefKit Go.Lib Go.TokenKit Go.TreeKit

theorem results_cell1 {P : Program} {fn : Func} {p : Tmp} {ty : TypeId} (h : fn.results = #[.cell p ty]) (tmps : Array Value) (w : World) (g : Nat) (t : TypeId) (cs : Array Value) (fr : Nat × Nat) (d : TypeDesc)
    (hp : tmps.getD p undef = .pointer (some ⟨g, 0, none⟩)) (hg : w.heap[g]? = some (.cells cs t fr))
    (hu : P.underlying ty = some d) (hd : (match d with | .struct _ | .array _ _ => true | _ => false) = true) (hi : (P.info? ty).map (·.size) = some cs.size) :
    (results fn tmps).run P w = .ok (.agg cs) w := by
  have e : (results fn tmps).run P w = ((asAddr (tmps.getD p undef)).run P w).andThen fun a w₁ => (loadVar ty a).run P w₁ := by
    simp only [results, h]
    simp [Sem.run_bind, Result.andThen]
  rw [e, hp]
  simp [asAddr, run_loadVar_row w g t ty cs fr d hg hu hd hi, Result.andThen]

set_option maxRecDepth 100000 in
set_option maxHeartbeats 1000000 in
theorem top_any (ao : Option Addr) (cap n base : Nat) (o : Opd) (r : List Opd) (w : World) (hn : n = r.length + 1) (hn32 : n ≤ 4294967296) (h : w.ownsRow base TOp 3 (.slice ao n cap) n (opCells (o :: r).reverse)) :
    Calls Tryz.prog 121 #[.slice ao n cap] w fun e w' => e = .returned (.agg #[.int .i64 ((o.node : Nat) : Int), .string ⟨o.name.toArray⟩, .int .u8 ((o.kind : Nat) : Int)]) ∧ Below w.heap.size w w' := by
  obtain ⟨g, rfl, c0, c1, c2⟩ := opens_top h hn
  have hg := World.block_lt_of_cell? _ _ c0
  obtain ⟨nm, hnm⟩ : ∃ nm : ByteArray, (⟨o.name.toArray⟩ : ByteArray) = nm := ⟨_, rfl⟩
  rw [hnm] at c1 ⊢
  have hI2 : r.length = n - 1 := by omega
  have h0 : (0 : Int) ≤ (n : Int) - 1 := by omega
  have h1 : (n : Int) - 1 < n := by omega
  have hnI : (n : Int) ≤ 4294967296 := by omega
  have b0 : Below w.heap.size w (w.alloc (.cells #[.int .i64 0, .string ⟨#[]⟩, .int .u8 0] TOp)) := (Below.refl _ _).alloc (Nat.le_refl _) _
  have d0 := (b0.cell hg (p := ⟨g, r.length * 3, none⟩)).trans c0
  have d1 := (b0.cell hg (p := ⟨g, r.length * 3 + 1, none⟩)).trans c1
  have d2 := (b0.cell hg (p := ⟨g, r.length * 3 + 2, none⟩)).trans c2
  rw [hI2] at d0 d1 d2 c0 c1 c2
  clear h hn hnm b0 hI2
  go_enter Tryz.func121, Tryz.ntmps121
  go_big_wp2
  refine bodyPost_ret (results_cell1 rfl _ _ w.heap.size TOp _ _ _ rfl (heap_alloc_new _ _) Tryz.underlying57 rfl (by kernel_rfl)) rfl ?_
  exact ⟨rfl, (Below.refl _ _).alloc (Nat.le_refl _) _⟩

set_option maxRecDepth 100000 in
set_option maxHeartbeats 1000000 in
theorem pop_any (w : World) (b : Nat) (ao : Option Addr) (cap n : Nat) (tv pa bv : Value) (s : BS) (o : Opd) (r : List Opd) (L : List NdV) (W : World) (hn : n = r.length + 1) (hn32 : n ≤ 4294967296) (hs : s.o = o :: r) (h : BAt w b tv (.slice ao n cap) pa bv s L W) :
    Calls Tryz.prog 122 #[.pointer (some ⟨b, 1, none⟩)] W fun e w' => e = .returned (.tuple #[]) ∧ BAt w b tv (.slice ao r.length cap) pa bv ⟨s.t, r, s.ws⟩ L w' ∧ OffB b W w' := by
  have hop := h.opens
  rw [hs, List.length_cons] at hop
  subst hn
  have HB := Lib.hid h
  have HO := Lib.hid (opens_pop hop)
  obtain ⟨⟨x0, x1, x2, x3⟩, y0, y1, y2, y3⟩ := local4 h.blk
  have h0 : (0 : Int) ≤ ((r.length + 1 : Nat) : Int) - 1 := by omega
  have hI : ((r.length + 1 : Nat) : Int) ≤ 4294967296 := by omega
  have hI2 : ((r.length + 1 : Nat) : Int) - 1 = (r.length : Int) := by omega
  have hcap : (r.length : Int) ≤ (cap : Int) := by
    rcases hop.2 with ⟨_, h'⟩ | ⟨_, _, _, e, _, _, hc, _⟩
    · omega
    · cases e; omega
  have hw : IntKind.i64.wrap (r.length : Int) = (r.length : Int) := IntWalk.i64_in _ (by omega)
  clear h hop hs
  go_enter Tryz.func122, Tryz.ntmps122
  go_big_wp2
  go_region
  all_goals
    go_end0
    exact ⟨rfl, (HB.out.setOpen HO.out).on (Below.refl _ _).drew, OffB.set W _⟩

theorem field0 (a : Int) (b : ByteArray) (c : Int) (w : World) : (Instr.field 57 (.agg #[.int .i64 a, .string b, .int .u8 c]) 0).run Tryz.prog w = .ok (.int .i64 a) w := by kernel_rfl
theorem field1 (a : Int) (b : ByteArray) (c : Int) (w : World) : (Instr.field 57 (.agg #[.int .i64 a, .string b, .int .u8 c]) 1).run Tryz.prog w = .ok (.string b) w := by kernel_rfl
theorem field2 (a : Int) (b : ByteArray) (c : Int) (w : World) : (Instr.field 57 (.agg #[.int .i64 a, .string b, .int .u8 c]) 2).run Tryz.prog w = .ok (.int .u8 c) w := by kernel_rfl
theorem opens_push {w : World} {base n : Nat} {v : Value} {o : Opd} {l : List Opd} (h : w.ownsRow base TOp 3 v n (opCells l.reverse ++ opCell o)) (hn : n = l.length + 1) : w.ownsRow base TOp 3 v (o :: l).length (opCells (o :: l).reverse) := by
  rw [List.reverse_cons, opCells_snoc, List.length_cons, ← hn]; exact h
theorem BAt.blkGrown {w W W2 : World} {b : Nat} {tv ov pa bv : Value} {s : BS} {L : List NdV} (h : BAt w b tv ov pa bv s L W) (hg : W.grownBy W2 ov.ownBlock) : W2.heap[b]? = some (.cells #[tv, ov, pa, bv] TBd (0, 0)) :=
  (hg.block b (Array.getElem?_eq_some_iff.1 h.blk).1 (fun e => own_ne h.opens h.blk (by decide) e.symm)).trans h.blk
/-- The row of open ones has grown. -/
theorem BAt.pushed {w W W2 : World} {b : Nat} {tv ov ov' pa bv : Value} {s : BS} {L : List NdV} {o : Opd} (h : BAt w b tv ov pa bv s L W) (hg : W.grownBy W2 ov.ownBlock) (ho : W2.ownsRow w.heap.size TOp 3 ov' (o :: s.o).length (opCells (o :: s.o).reverse)) :
    BAt w b tv ov' pa bv ⟨s.t, o :: s.o, s.ws⟩ L (W2.setCell ⟨b, 1, none⟩ ov') := by
  have hblk : W2.heap[b]? = some (.cells #[tv, ov, pa, bv] TBd (0, 0)) := (hg.block b (Array.getElem?_eq_some_iff.1 h.blk).1 (fun e => own_ne h.opens h.blk (by decide) e.symm)).trans h.blk
  have hb : Below w.heap.size w W2 := h.below.grown hg h.below.size (fun k hk => (World.ownsRow.lt h.opens k hk).1)
  refine ⟨hb.setCell h.le _, h.le, by have := heap_setCell_same W2 b 1 _ _ ov' hblk; simpa using this, ?_, h.spec, own_other ho hblk (by decide) (grown_set _ _ _ _), ?_⟩
  · exact (h.tree.beside h.opens (by decide) (by decide) (by decide) hg).other hblk (by decide) (by decide) (by decide) (grown_set _ _ _ _)
  · exact (h.words.beside h.opens (by decide) hg).other hblk (by decide) (grown_set _ _ _ _)
theorem Tryz.infoOp : (Tryz.prog.info? 57).map (fun i => (i.zero, i.size, i.bytes)) = some (some (.agg #[.int .i64 0, .string ⟨#[]⟩, .int .u8 0]), 3, 32) := by kernel_rfl

set_option maxRecDepth 100000 in
set_option maxHeartbeats 2000000 in
theorem push_any (w : World) (b : Nat) (ao : Option Addr) (cap n : Nat) (tv pa bv : Value) (s : BS) (nd k : Nat) (nm : ByteArray) (L : List NdV) (W : World) (hn : s.o.length = n) (hn32 : n ≤ 4294967296) (h : BAt w b tv (.slice ao n cap) pa bv s L W) :
    Calls Tryz.prog 85 #[.pointer (some ⟨b, 1, none⟩), .agg #[.int .i64 ((nd : Nat) : Int), .string nm, .int .u8 ((k : Nat) : Int)]] W fun e w' => e = .returned (.tuple #[]) ∧ (∃ ao' cap', BAt w b tv (.slice ao' (n + 1) cap') pa bv ⟨s.t, ⟨nd, bl nm, k⟩ :: s.o, s.ws⟩ L w') ∧ Keeps W w' := by
  have hblt := (Array.getElem?_eq_some_iff.1 h.blk).1
  have b1 : Below W.heap.size W (W.alloc (.cells #[.int .i64 ((nd : Nat) : Int), .string nm, .int .u8 ((k : Nat) : Int)] TOp)) := (Below.refl _ _).alloc (Nat.le_refl _) _
  have h1 := h.on b1
  obtain ⟨W1, hW1⟩ : ∃ W1, W.alloc (.cells #[.int .i64 ((nd : Nat) : Int), .string nm, .int .u8 ((k : Nat) : Int)] TOp) = W1 := ⟨_, rfl⟩
  have hl := heap_alloc_new W (.cells #[.int .i64 ((nd : Nat) : Int), .string nm, .int .u8 ((k : Nat) : Int)] TOp)
  rw [hW1] at h1 hl
  obtain ⟨B, hB⟩ : ∃ B, W.heap.size = B := ⟨_, rfl⟩
  rw [hB] at hl
  obtain ⟨⟨x0, x1, x2, x3⟩, y0, y1, y2, y3⟩ := local4 h1.blk
  have z0 : W1.cell? ⟨B, 0, none⟩ = some (.int .i64 ((nd : Nat) : Int)) := by rw [cell_of_row W1 B 0 _ _ _ hl]; rfl
  have z1 : W1.cell? ⟨B, 1, none⟩ = some (.string nm) := by rw [cell_of_row W1 B 1 _ _ _ hl]; rfl
  have z2 : W1.cell? ⟨B, 2, none⟩ = some (.int .u8 ((k : Nat) : Int)) := by rw [cell_of_row W1 B 2 _ _ _ hl]; rfl
  have HB := Lib.hid h1
  have HN := Lib.hid hn
  obtain ⟨i0, hi0, hz0, hz1, hz2⟩ := info_parts Tryz.infoOp
  have HG := Lib.hid (h1.on (w' := (W1.alloc (.cells #[.int .i64 ((nd : Nat) : Int), .string nm, .int .u8 ((k : Nat) : Int)] TOp)).drew) ((Below.refl _ _).alloc (Nat.le_refl _) _).drew)
  obtain ⟨⟨p0, p1, p2, p3⟩, q0, q1, q2, q3⟩ := local4 (h1.on (w' := W1.alloc (.cells #[.int .i64 ((nd : Nat) : Int), .string nm, .int .u8 ((k : Nat) : Int)] TOp)) ((Below.refl _ _).alloc (Nat.le_refl _) _)).blk
  have HK1 := Lib.hid ((hW1 ▸ Keeps.below b1 : Keeps W W1).trans (Keeps.below (((Below.refl W1.heap.size W1).alloc (Nat.le_refl _) (.cells #[.int .i64 ((nd : Nat) : Int), .string nm, .int .u8 ((k : Nat) : Int)] TOp)).drew)))
  have HNews : Hid ((W1.alloc (.cells #[.int .i64 ((nd : Nat) : Int), .string nm, .int .u8 ((k : Nat) : Int)] TOp)).drew.heap[W1.heap.size]? = some (.cells #[.int .i64 ((nd : Nat) : Int), .string nm, .int .u8 ((k : Nat) : Int)] TOp (0, 0))) := Lib.hid (heap_alloc_new W1 _)
  have H1c : Hid (∀ u ∈ [Value.int .i64 ((nd : Nat) : Int), Value.string nm, Value.int .u8 ((k : Nat) : Int)], u.oneCell' = true) := Lib.hid fun u hu => by simp only [List.mem_cons, List.not_mem_nil, or_false] at hu; rcases hu with rfl | rfl | rfl <;> rfl
  have HMx : Hid (n + 1 ≤ maxLen) := Lib.hid (by unfold maxLen; omega)
  have HOp := Lib.hid (show (W1.alloc (.cells #[.int .i64 ((nd : Nat) : Int), .string nm, .int .u8 ((k : Nat) : Int)] TOp)).drew.ownsRow w.heap.size TOp 3 (.slice ao n cap) n (opCells s.o.reverse) from by have := HG.out.opens; rwa [hn] at this)
  clear h h1 b1 hblt hl
  go_enter Tryz.func85, Tryz.ntmps85
  go_big_wp2
  go_region_law (refine step_append_lies _ rfl _ _ 59 rfl w.heap.size 57 i0 _ 3 32 Tryz.underlying59 hi0 hz0 hz1 hz2 rfl (by decide) _ n (opCells s.o.reverse) rfl HOp.out ⟨W1.heap.size, 0, none⟩ 1 1 [.int .i64 ((nd : Nat) : Int), .string nm, .int .u8 ((k : Nat) : Int)] rfl rfl (World.news_of_block HNews.out) H1c.out (by decide) HMx.out (by omega) HG.out.below.size _ rfl ?_; intro g cap' W2 hown hgrow _ _; obtain ⟨⟨u0, u1, u2, u3⟩, v0, v1, v2, v3⟩ := local4 (HG.out.blkGrown hgrow); have HOwn := Lib.hid hown; have HGr := Lib.hid hgrow; clear hown hgrow)
  all_goals
    go_end0
    refine ⟨rfl, ⟨some ⟨g, 0, none⟩, cap', ?_⟩, ((HK1.out.trans (Keeps.grown HOp.out (.inl rfl) HGr.out)).trans (Keeps.set (HG.out.blkGrown HGr.out) (.inl rfl) _))⟩
    have ho := HOwn.out
    rw [show [Value.int .i64 ((nd : Nat) : Int), Value.string nm, Value.int .u8 ((k : Nat) : Int)] = opCell ⟨nd, bl nm, k⟩ from rfl] at ho
    exact HG.out.pushed (o := ⟨nd, bl nm, k⟩) HGr.out (opens_push ho (by rw [hn]))

/-- The cells of an open one in the row, from the top down. -/
theorem opens_at {w : World} {base : Nat} {ao : Option Addr} {cap n : Nat} {l : List Opd} (h : w.ownsRow base TOp 3 (.slice ao n cap) n (opCells l.reverse)) (hn : n = l.length) {i : Nat} {o : Opd} (hi : i < n) (ho : l[n - 1 - i]? = some o) :
    ∃ g, ao = some ⟨g, 0, none⟩ ∧ w.cell? ⟨g, i * 3, none⟩ = some (.int .i64 ((o.node : Nat) : Int)) ∧ w.cell? ⟨g, i * 3 + 1, none⟩ = some (.string ⟨o.name.toArray⟩) ∧ w.cell? ⟨g, i * 3 + 2, none⟩ = some (.int .u8 ((o.kind : Nat) : Int)) := by
  have h' := h
  have hr : l.reverse[i]? = some o := by rw [List.getElem?_reverse (by omega), ← hn]; exact ho
  rcases h'.2 with ⟨_, hn⟩ | ⟨g, c, cur, e, _⟩
  · omega
  · cases e
    refine ⟨g, rfl, ?_, ?_, ?_⟩
    · have := opCells_at hr (c := 0) (by decide)
      rw [World.ownsRow.cellAt h (i * 3) (by omega)]; exact this
    · have := opCells_at hr (c := 1) (by decide)
      rw [World.ownsRow.cellAt h (i * 3 + 1) (by omega)]; exact this
    · have := opCells_at hr (c := 2) (by decide)
      rw [World.ownsRow.cellAt h (i * 3 + 2) (by omega)]; exact this

set_option maxRecDepth 100000 in
set_option maxHeartbeats 1000000 in
theorem endsP_any (k : Nat) (hk : k ≤ 8) (w : World) : Calls Tryz.prog 127 #[.int .u8 ((k : Nat) : Int)] w fun e w' => e = .returned (.bool (endsK k)) ∧ w = w' := by
  have : k = 0 ∨ k = 1 ∨ k = 2 ∨ k = 3 ∨ k = 4 ∨ k = 5 ∨ k = 6 ∨ k = 7 ∨ k = 8 := by omega
  rcases this with rfl | rfl | rfl | rfl | rfl | rfl | rfl | rfl | rfl
  all_goals
    go_enter Tryz.func127, Tryz.ntmps127
    go_big_wp2
    go_ret
    exact ⟨rfl, rfl⟩
set_option maxRecDepth 100000 in
set_option maxHeartbeats 1000000 in
theorem isVoid_any (k : Nat) (hk : k ≤ 8) (w : World) : Calls Tryz.prog 84 #[.int .u8 ((k : Nat) : Int)] w fun e w' => e = .returned (.bool (voidK k)) ∧ w = w' := by
  have : k = 0 ∨ k = 1 ∨ k = 2 ∨ k = 3 ∨ k = 4 ∨ k = 5 ∨ k = 6 ∨ k = 7 ∨ k = 8 := by omega
  rcases this with rfl | rfl | rfl | rfl | rfl | rfl | rfl | rfl | rfl
  all_goals
    go_enter Tryz.func84, Tryz.ntmps84
    go_big_wp2
    go_ret
    exact ⟨rfl, rfl⟩
theorem bl_eq {x y : ByteArray} (h : bl x = bl y) : x = y := ByteArray.ext (Array.toList_inj.1 h)
set_option maxRecDepth 100000 in
set_option maxHeartbeats 1000000 in
theorem isWall_any (nd k : Nat) (nm : ByteArray) (w : World) : Calls Tryz.prog 156 #[.agg #[.int .i64 ((nd : Nat) : Int), .string nm, .int .u8 ((k : Nat) : Int)]] w fun e w' => e = .returned (.bool (wallO ⟨nd, bl nm, k⟩)) ∧ Below w.heap.size w w' := by
  have hb : ∀ W, Below w.heap.size w W → Below w.heap.size w W := fun W h => h
  obtain ⟨z, hz⟩ : ∃ z, wallO ⟨nd, bl nm, k⟩ = z := ⟨_, rfl⟩
  rw [hz]
  have hz2 : ((k == 4) || ((k == 1) && !(bl nm == [100, 105, 118]))) = z := hz
  by_cases h4 : k = 4
  · have h4b : ((k : Int) == 4) = true := by rw [beq_iff_eq]; omega
    have : z = true := by rw [← hz2, h4]; rfl
    subst this
    clear hz hz2 hb h4
    go_enter Tryz.func156, Tryz.ntmps156
    go_big_wp2
    go_ret
    exact ⟨rfl, (Below.refl _ _).alloc (Nat.le_refl _) _⟩
  · have h4b : ((k : Int) == 4) = false := by rw [beq_eq_false_iff_ne]; omega
    by_cases h1 : k = 1
    · have h1b : ((k : Int) == 1) = true := by rw [beq_iff_eq]; omega
      by_cases hn : bl nm = [100, 105, 118]
      · have : z = false := by rw [← hz2, h1, hn]; rfl
        subst this
        have hnm : nm = ⟨#[100, 105, 118]⟩ := bl_eq hn
        subst hnm
        clear hz hz2 hb hn h4 h1
        go_enter Tryz.func156, Tryz.ntmps156
        go_big_wp2
        go_ret
        exact ⟨rfl, (Below.refl _ _).alloc (Nat.le_refl _) _⟩
      · have : z = true := by rw [← hz2, h1]; simp [hn]
        subst this
        have hn2 : ¬ nm.toList = [100, 105, 118] := by rw [Lib.toList_data]; exact hn
        have hn4 : (nm.toList == [100, 105, 118]) = false := beq_eq_false_iff_ne.2 hn2
        have hn5 : (nm.toList != [100, 105, 118]) = true := by rw [bne_iff_ne]; exact hn2
        clear hz hz2 hb hn h4 h1
        go_enter Tryz.func156, Tryz.ntmps156
        go_big_wp2
        go_ret
        exact ⟨rfl, (Below.refl _ _).alloc (Nat.le_refl _) _⟩
    · have h1b : ((k : Int) == 1) = false := by rw [beq_eq_false_iff_ne]; omega
      have : z = false := by rw [← hz2]; simp [h4, h1]
      subst this
      clear hz hz2 hb h4 h1
      go_enter Tryz.func156, Tryz.ntmps156
      go_big_wp2
      go_ret
      exact ⟨rfl, (Below.refl _ _).alloc (Nat.le_refl _) _⟩
theorem hasR_cons {k : Nat} {o : Opd} {r : List Opd} (hr : r ≠ []) : hasR k (o :: r) = if o.kind == k then true else if k == 3 && wallO o then false else hasR k r := by
  cases r with
  | nil => exact absurd rfl hr
  | cons x r => rfl

set_option maxRecDepth 100000 in
set_option maxHeartbeats 4000000 in
theorem has_any (ao : Option Addr) (cap n base k : Nat) (l : List Opd) (w : World) (hn : n = l.length) (hl : l ≠ []) (hn32 : n ≤ 4294967296) (h : w.ownsRow base TOp 3 (.slice ao n cap) n (opCells l.reverse)) :
    Calls Tryz.prog 128 #[.slice ao n cap, .int .u8 ((k : Nat) : Int)] w fun e w' => e = .returned (.bool (hasR k l)) ∧ Below w.heap.size w w' := by
  have hpos : 0 < n := by rw [hn]; exact List.length_pos_iff.2 hl
  have HR := Lib.hid h
  have HN := Lib.hid hn
  have hnI : (n : Int) ≤ 4294967296 := by omega
  obtain ⟨z, hz⟩ : ∃ z, hasR k l = z := ⟨_, rfl⟩
  have HZ := Lib.hid hz
  rw [hz]
  have hn1 : (n : Int) - 1 = ((n - 1 : Nat) : Int) := by omega
  have h1n : (1 : Int) ≤ n := by omega
  clear h hz hn
  go_enter Tryz.func128, Tryz.ntmps128
  go_big_wp2
  go_step3
  go_big_wp2
  go_step3
  go_big_wp2
  go_loopw [5] (fun v wr => ∃ i : Nat, v = .int .i64 (i : Nat) ∧ i < n ∧ Hid (Below w.heap.size w wr) ∧ Hid (hasR k (l.drop (n - 1 - i)) = z)) (fun v _ => (RowKit.intOf v).toNat)
  case atStart => exact ⟨n - 1, by first | rfl | (rw [hn1]) | go_num, by omega, Lib.hid (Below.refl _ _), Lib.hid (by rw [Nat.sub_self, List.drop_zero]; exact HZ.out)⟩
  case round =>
    obtain ⟨i, rfl, hi, HB, HS⟩ := hrel
    by_cases hi0 : 0 < i
    · have hiI : (0 : Int) < i := by omega
      have hinI : (i : Int) < n := by omega
      have hln : n = l.length := HN.out
      obtain ⟨o, ho⟩ : ∃ o, l[n - 1 - i]? = some o := ⟨l[n - 1 - i]'(by omega), by simp [show n - 1 - i < l.length by omega]⟩
      have hdr : l.drop (n - 1 - i) = o :: l.drop (n - 1 - (i - 1)) := by
        have hlt : n - 1 - i < l.length := by omega
        rw [List.drop_eq_getElem_cons hlt]
        rw [List.getElem?_eq_getElem hlt] at ho
        rw [Option.some.inj ho, show n - 1 - i + 1 = n - 1 - (i - 1) by omega]
      have hrne : l.drop (n - 1 - (i - 1)) ≠ [] := by
        intro e
        have := congrArg List.length e
        rw [List.length_drop] at this
        simp at this; omega
      have hst := HS.out
      rw [hdr, hasR_cons hrne] at hst
      obtain ⟨g, rfl, c0, c1, c2⟩ := opens_at (own_on HR.out HB.out) hln hi ho
      have hg := World.block_lt_of_cell? _ _ c0
      obtain ⟨⟨nd, nm, kd⟩, ho2⟩ : ∃ x, o = x := ⟨_, rfl⟩
      subst ho2
      obtain ⟨nb, hnb⟩ : ∃ nb : ByteArray, (⟨nm.toArray⟩ : ByteArray) = nb := ⟨_, rfl⟩
      have hbn : bl nb = nm := by rw [← hnb, bl_of]
      simp only at c0 c1 c2 hst
      rw [hnb] at c1
      have hi1 : (i : Int) - 1 = ((i - 1 : Nat) : Int) := by omega
      have h1i : (1 : Int) ≤ i := by omega
      by_cases hk : kd = k
      · subst hk
        have hzt : z = true := by rw [← hst]; simp
        subst hzt
        clear hst hdr hrne ho hln hbn hnb hi1
        go_big_wp2
        go_ret
        exact ⟨rfl, HB.out⟩
      · have hkb : ((kd : Int) == (k : Int)) = false := by rw [beq_eq_false_iff_ne]; omega
        have hkb2 : ((kd : Nat) == k) = false := beq_eq_false_iff_ne.2 hk
        rw [hkb2, if_neg (by decide)] at hst
        by_cases h3 : k = 3
        · have h3b : ((k : Int) == 3) = true := by rw [beq_iff_eq]; omega
          have h3b2 : ((k : Nat) == 3) = true := beq_iff_eq.2 h3
          have hW := Lib.hid fun W => isWall_any nd kd nb W
          rw [hbn] at hW
          rw [h3b2, Bool.true_and] at hst
          clear h3b2 h3
          cases hw : wallO ⟨nd, nm, kd⟩ with
          | true =>
            rw [hw] at hW hst
            have hzt : z = false := by rw [← hst]; rfl
            subst hzt
            clear hst hdr hrne ho hln hbn hnb hi1 hw hkb2
            go_big_wp2_with (go_at_call 156; refine (hW.out _).mono ?_; rintro e w1 ⟨rfl, hb1⟩)
            rw [Exit.noGoto_ret]
            go_ret
            exact ⟨rfl, HB.out.trans (hb1.mono HB.out.size)⟩
          | false =>
            rw [hw, if_neg (by decide)] at hst
            rw [hw] at hW
            have HS2 := Lib.hid hst
            clear hst hdr hrne ho hln hbn hnb hw hkb2
            go_big_wp2_with (go_at_call 156; refine (hW.out _).mono ?_; rintro e w1 ⟨rfl, hb1⟩)
            exact ⟨⟨i - 1, by first | rfl | (rw [hi1]) | go_num, by omega, Lib.hid (HB.out.trans (hb1.mono HB.out.size)), HS2⟩, by simp [RowKit.intOf]; omega⟩
        · have h3b : ((k : Int) == 3) = false := by rw [beq_eq_false_iff_ne]; omega
          have h3b2 : ((k : Nat) == 3) = false := beq_eq_false_iff_ne.2 h3
          rw [h3b2, Bool.false_and, if_neg (by decide)] at hst
          have HS2 := Lib.hid hst
          clear hst hdr hrne ho hln hbn hnb hkb2 h3b2
          go_big_wp2
          exact ⟨⟨i - 1, by first | rfl | (rw [hi1]) | go_num, by omega, HB, HS2⟩, by simp [RowKit.intOf]; omega⟩
    · obtain rfl : i = 0 := by omega
      have hz0 : z = false := by
        rw [← HS.out]
        have hlen := congrArg List.length (show l.drop (n - 1 - 0) = l.drop (n - 1 - 0) from rfl)
        have : (l.drop (n - 1 - 0)).length = 1 := by rw [List.length_drop]; have := HN.out; omega
        match hd : l.drop (n - 1 - 0), this with
        | [x], _ => rfl
      subst hz0
      go_big_wp2
      rw [Exit.noGoto_ret]
      go_ret
      exact ⟨rfl, HB.out⟩

set_option maxRecDepth 100000 in
set_option maxHeartbeats 4000000 in
theorem takes_any (ao : Option Addr) (cap n base k : Nat) (o : Opd) (r : List Opd) (w : World) (hk : k ≤ 8) (hn : n = r.length + 1) (hn32 : n ≤ 4294967296) (h : w.ownsRow base TOp 3 (.slice ao n cap) n (opCells (o :: r).reverse)) :
    Calls Tryz.prog 83 #[.slice ao n cap, .int .u8 ((k : Nat) : Int)] w fun e w' => e = .returned (.bool (takesL k (o :: r))) ∧ Below w.heap.size w w' := by
  have HE := Lib.hid fun W => endsP_any k hk W
  have hh := fun (j : Nat) W (hb : Below w.heap.size w W) => has_any ao cap n base j (o :: r) W (by rw [hn]; rfl) (by simp) hn32 (own_on h hb)
  have H2 : Hid (∀ W, Below w.heap.size w W → Calls Tryz.prog 128 #[.slice ao n cap, .int .u8 2] W fun e w' => e = .returned (.bool (hasR 2 (o :: r))) ∧ Below W.heap.size W w') := Lib.hid fun W hb => hh 2 W hb
  have HK := Lib.hid (hh k)
  have HT := Lib.hid fun W (hb : Below w.heap.size w W) => top_any ao cap n base o r W hn hn32 (own_on h hb)
  obtain ⟨z2, hz2⟩ : ∃ z, hasR 2 (o :: r) = z := ⟨_, rfl⟩
  obtain ⟨zk, hzk⟩ : ∃ z, hasR k (o :: r) = z := ⟨_, rfl⟩
  have hres : takesL k (o :: r) = if endsK k && z2 then false else if k == 3 || k == 6 then !zk else if k == 4 then !(o.kind == 4) else true := by unfold takesL; rw [hz2, hzk]; rfl
  rw [hres]
  rw [hz2] at H2
  rw [hzk] at HK
  obtain ⟨kd, hkd⟩ : ∃ kd, o.kind = kd := ⟨_, rfl⟩
  rw [hkd] at HT ⊢
  obtain ⟨nm, hnm⟩ : ∃ nm : ByteArray, (⟨o.name.toArray⟩ : ByteArray) = nm := ⟨_, rfl⟩
  rw [hnm] at HT
  clear hres hz2 hzk hh h hn hkd hnm
  have : k = 0 ∨ k = 1 ∨ k = 2 ∨ k = 3 ∨ k = 4 ∨ k = 5 ∨ k = 6 ∨ k = 7 ∨ k = 8 := by omega
  have hf := field2 ((o.node : Nat) : Int) nm ((kd : Nat) : Int)
  have h44 : Hid (kd = 4) ∧ (((kd : Nat) : Int) != 4) = false ∨ Hid (¬ kd = 4) ∧ (((kd : Nat) : Int) != 4) = true := by
    by_cases e : kd = 4
    · exact .inl ⟨Lib.hid e, by rw [e]; rfl⟩
    · exact .inr ⟨Lib.hid e, by rw [bne_iff_ne]; omega⟩
  rcases this with rfl | rfl | rfl | rfl | rfl | rfl | rfl | rfl | rfl
  all_goals
    rw [show endsK _ = _ from rfl] at HE
    cases z2 <;> rcases h44 with ⟨e4, f4⟩ | ⟨e4, f4⟩
  all_goals
    go_enter Tryz.func83, Tryz.ntmps83
    go_big_wp2_with (first
      | (go_at_call 127; refine (HE.out _).mono ?_; rintro e w1 ⟨rfl, rfl⟩)
      | (go_at_call_of 128 (Value.int .u8 2); refine (H2.out _ (Below.refl _ _)).mono ?_; rintro e w2 ⟨rfl, hb2⟩; have HB2 := Lib.hid hb2; clear hb2 H2)
      | (go_at_call 128; first
          | (refine (HK.out _ HB2.out).mono ?_; rintro e w3 ⟨rfl, hb3⟩; have HB3 := Lib.hid (HB2.out.trans (hb3.mono HB2.out.size)); clear hb3)
          | (refine (HK.out _ (Below.refl _ _)).mono ?_; rintro e w3 ⟨rfl, hb3⟩; have HB3 := Lib.hid hb3; clear hb3))
      | (go_at_call 121; first
          | (refine (HT.out _ HB2.out).mono ?_; rintro e w3 ⟨rfl, hb3⟩; have HB3 := Lib.hid (HB2.out.trans (hb3.mono HB2.out.size)); clear hb3)))
    go_ret
    first
      | exact ⟨rfl, Below.refl _ _⟩
      | exact ⟨rfl, HB2.out⟩
      | exact ⟨rfl, HB3.out⟩
      | exact ⟨by simp [e4.out], HB3.out⟩
end Go.Proofs.YtnfkndaggcklkaaGreatDoor

namespace Go.Proofs.YtnfkndaggcklkaaGreatDoor
open Go.RowKit Go.RunKit Go.CharrefKit Go.Lib Go.TokenKit Go.TreeKit

/-- Kinds in a row. -/
def KindsIn (w : World) (g : Nat) (ks : List Nat) : Prop := ∀ i x, ks[i]? = some x → w.cell? ⟨g, i, none⟩ = some (.int .u8 ((x : Nat) : Int))
theorem KindsIn.off {w w' : World} {b g : Nat} {ks : List Nat} (h : KindsIn w g ks) (ho : OffB b w w') (hne : g ≠ b) : KindsIn w' g ks := fun i x hx => by
  have a := h i x hx
  have hlt := World.block_lt_of_cell? _ _ a
  have e1 : w.heap[g]? = some w.heap[g] := Array.getElem?_eq_getElem hlt
  rw [World.cell?_of_block (w := w) (w' := w') (a := ⟨g, i, none⟩) (by rw [ho g _ e1 hne]; exact e1.symm)]
  exact a
/-- How many are open. -/
def openAt (b : Nat) (w : World) : Nat := match w.cell? ⟨b, 1, none⟩ with
  | some (.slice _ n _) => n
  | _ => 0
theorem BAt.openAt {w wr : World} {b n cap : Nat} {ao : Option Addr} {tv pa bv : Value} {s : BS} {L : List NdV} (h : BAt w b tv (.slice ao n cap) pa bv s L wr) : openAt b wr = n := by
  have := (local4 h.blk).1.2.1
  unfold Proofs.YtnfkndaggcklkaaGreatDoor.openAt
  rw [this]
theorem KindsIn.on {w w' : World} {g : Nat} {ks : List Nat} (h : KindsIn w g ks) (hb : Below w.heap.size w w') : KindsIn w' g ks := fun i x hx => by
  have a := h i x hx
  rw [hb.cell (World.block_lt_of_cell? _ _ a)]; exact a

/-- Where a kind is among some. -/
def IdxK (ks : List Nat) (kd : Nat) (w : World) (e : Ending) (w' : World) : Prop := ∃ r : Int, e = .returned (.int .i64 r) ∧ decide (0 ≤ r) = ks.contains kd ∧ w = w'

set_option maxRecDepth 100000 in
set_option maxHeartbeats 1000000 in
theorem indexK_any (g n cap kd : Nat) (ks : List Nat) (hn : n = ks.length) (hn32 : n ≤ 65536) (w : World) (h : KindsIn w g ks) :
    Calls Tryz.prog 184 #[.slice (some ⟨g, 0, none⟩) n cap, .int .u8 ((kd : Nat) : Int)] w fun e w' => IdxK ks kd w e w' := by
  have HK := Lib.hid h
  have HN := Lib.hid hn
  clear h hn
  go_enter Tryz.func184, Tryz.ntmps184
  go_big_wp2
  go_loop [8] (fun v => ∃ i : Nat, v = .int .i64 (i : Nat) ∧ i ≤ n ∧ Hid (∀ j x, j < i → ks[j]? = some x → x ≠ kd)) (fun v => n - (RowKit.intOf v).toNat)
  case atStart => exact ⟨0, rfl, Nat.zero_le _, Lib.hid fun j x h => by omega⟩
  case round =>
    obtain ⟨i, rfl, hi, HNo⟩ := hrel
    by_cases hin : i < n
    · have hinI : (i : Int) < n := by omega
      obtain ⟨x, hx⟩ : ∃ x, ks[i]? = some x := ⟨ks[i]'(by have := HN.out; omega), by simp [show i < ks.length by have := HN.out; omega]⟩
      have c := HK.out i x hx
      have HX := Lib.hid hx
      clear hx
      by_cases he : x = kd
      · have heb : ((kd : Int) == (x : Int)) = true := by rw [beq_iff_eq]; omega
        have HE := Lib.hid he
        clear he
        go_big_wp2
        go_ret
        refine ⟨_, rfl, ?_, rfl⟩
        rw [List.contains_iff_mem.2 (by rw [← HE.out]; exact List.mem_of_getElem? HX.out)]
        simp
      · have heb : ((kd : Int) == (x : Int)) = false := by rw [beq_eq_false_iff_ne]; omega
        have HE := Lib.hid he
        clear he
        go_big_wp2
        refine ⟨⟨i + 1, by go_num, by omega, Lib.hid fun j y hj hy => ?_⟩, by simp [RowKit.intOf]; omega⟩
        by_cases e : j = i
        · subst e; rw [HX.out] at hy; cases hy; exact HE.out
        · exact HNo.out j y (by omega) hy
    · obtain rfl : i = n := by omega
      have hno : ks.contains kd = false := by
        rw [Bool.eq_false_iff]
        intro hc
        obtain ⟨j, hj⟩ := List.mem_iff_getElem?.1 (List.contains_iff_mem.1 hc)
        exact HNo.out j kd (by have := (List.getElem?_eq_some_iff.1 hj).1; have := HN.out; omega) hj rfl
      have HNo2 := Lib.hid hno
      clear hno
      go_big_wp2
      go_ret
      exact ⟨-1, rfl, by rw [HNo2.out]; rfl, rfl⟩
set_option maxRecDepth 100000 in
set_option maxHeartbeats 1000000 in
theorem containsK_any (g n cap kd : Nat) (ks : List Nat) (hn : n = ks.length) (hn32 : n ≤ 65536) (w : World) (h : KindsIn w g ks) :
    Calls Tryz.prog 157 #[.slice (some ⟨g, 0, none⟩) n cap, .int .u8 ((kd : Nat) : Int)] w fun e w' => e = .returned (.bool (ks.contains kd)) ∧ w = w' := by
  have HI := Lib.hid (indexK_any g n cap kd ks hn hn32 w h)
  clear h hn
  go_enter Tryz.func157, Tryz.ntmps157
  go_big_wp2_with (go_at_call 184; refine HI.out.mono ?_; rintro e w1 ⟨r, rfl, hr, rfl⟩)
  go_ret
  refine ⟨?_, rfl⟩
  rw [← hr]
  show Ending.returned (Value.bool (decide (kd ∈ ks))) = _
  rw [hr, List.contains_eq_mem]

set_option maxRecDepth 100000 in
set_option maxHeartbeats 2000000 in
theorem closeAll_any (w : World) (b g m cap0 : Nat) (ks : List Nat) (tv pa bv : Value) (s : BS) (L : List NdV) (W : World) (ao : Option Addr) (cap n : Nat) (hm : m = ks.length) (hm32 : m ≤ 65536) (h0 : ks.contains 0 = false) (hgb : g ≠ b) (hk : KindsIn W g ks) (hn : s.o.length = n) (hn32 : n ≤ 4294967296)
    (hroot : ∃ r, s.o = r ++ [⟨0, [], 0⟩]) (h : BAt w b tv (.slice ao n cap) pa bv s L W) :
    Calls Tryz.prog 129 #[.pointer (some ⟨b, 1, none⟩), .slice (some ⟨g, 0, none⟩) m cap0] W fun e w' => e = .returned (.tuple #[]) ∧ BAt w b tv (.slice ao (closeAllL ks s.o).length cap) pa bv ⟨s.t, closeAllL ks s.o, s.ws⟩ L w' ∧ OffB b W w' := by
  have H0 := Lib.hid (And.intro hroot (And.intro h (And.intro hk hn)))
  obtain ⟨l1, hl1⟩ : ∃ l, closeAllL ks s.o = l := ⟨_, rfl⟩
  rw [hl1]
  have HL := Lib.hid hl1
  have HMm := Lib.hid hm
  clear hroot h hk hn hl1 hm
  go_enter Tryz.func129, Tryz.ntmps129
  go_big_wp2
  go_loopw [] (fun wr => ∃ (l : List Opd) (n : Nat), Hid (∃ r, l = r ++ [⟨0, [], 0⟩]) ∧ Hid (BAt w b tv (.slice ao n cap) pa bv ⟨s.t, l, s.ws⟩ L wr) ∧ Hid (OffB b W wr) ∧ Hid (l.length = n) ∧ n ≤ 4294967296 ∧ Hid (closeAllL ks l = l1)) (fun wr => openAt b wr)
  case atStart => exact ⟨s.o, n, Lib.hid H0.out.1, Lib.hid H0.out.2.1, Lib.hid (OffB.refl _ _), Lib.hid H0.out.2.2.2, hn32, HL⟩
  case round =>
    obtain ⟨l, n, HR, HB, HO, HN, hn32, HC⟩ := hrel
    have hne : l ≠ [] := by obtain ⟨r, hr⟩ := HR.out; rw [hr]; simp
    cases hl : l with
    | nil => exact absurd hl hne
    | cons o r =>
      have hB := HB.out
      rw [hl] at hB
      have hlen := HN.out
      rw [hl, List.length_cons] at hlen
      have hop := hB.opens
      simp only [List.length_cons] at hop
      rw [hlen] at hop
      have HT := Lib.hid (top_any ao cap n w.heap.size o r wr hlen.symm hn32 hop)
      have HKi := Lib.hid fun w1 (hb : Below wr.heap.size wr w1) => containsK_any g m cap0 o.kind ks HMm.out hm32 w1 ((H0.out.2.2.1.off HO.out hgb).on hb)
      have HP := Lib.hid fun w1 (hb : Below wr.heap.size wr w1) => pop_any w b ao cap n tv pa bv ⟨s.t, o :: r, s.ws⟩ o r L w1 hlen.symm hn32 rfl (hB.on hb)
      obtain ⟨⟨x0, x1, x2, x3⟩, y0, y1, y2, y3⟩ := local4 hB.blk
      have hm0 := Lib.hid hB.openAt
      have hc := HC.out
      rw [hl] at hc
      have hroot := HR.out
      rw [hl] at hroot
      obtain ⟨kd, hkd⟩ : ∃ kd, o.kind = kd := ⟨_, rfl⟩
      obtain ⟨nm, hnm⟩ : ∃ nm : ByteArray, (⟨o.name.toArray⟩ : ByteArray) = nm := ⟨_, rfl⟩
      rw [hkd, hnm] at HT
      rw [hkd] at HKi
      have hf := field2 ((o.node : Nat) : Int) nm ((kd : Nat) : Int)
      have HBc := Lib.hid hB
      unfold closeAllL at hc
      rw [hkd] at hc
      cases hz : ks.contains kd with
      | true =>
        rw [hz, if_pos rfl] at hc
        rw [hz] at HKi
        have hr2 : ∃ q, r = q ++ [⟨0, [], 0⟩] := tail_root hroot (by
          show o.kind ≠ 0
          rw [hkd]
          intro e
          rw [e, h0] at hz; cases hz)
        have HR2 := Lib.hid hr2
        have HC2 := Lib.hid hc
        have HL2 := Lib.hid hlen
        clear hz hc hr2 hroot hop hB hlen hkd hnm hl hne
        go_big_wp2_with (first
          | (go_at_call 121; refine HT.out.mono ?_; rintro e w1 ⟨rfl, hb1⟩; have HB1 := Lib.hid hb1; clear hb1)
          | (go_at_call 157; refine (HKi.out _ HB1.out).mono ?_; rintro e w2 ⟨rfl, rfl⟩)
          | (go_at_call 122; refine (HP.out _ HB1.out).mono ?_; rintro e w3 ⟨rfl, hB3, ho3⟩; have HB3 := Lib.hid hB3; have HO3 := Lib.hid ((HO.out.trans (OffB.below HB1.out)).trans ho3); clear hB3 ho3))
        exact ⟨⟨r, _, HR2, HB3, HO3, Lib.hid rfl, by have := HL2.out; omega, HC2⟩, by rw [HB3.out.openAt, hm0.out]; have := HL2.out; omega⟩
      | false =>
        rw [hz, if_neg (by decide)] at hc
        rw [hz] at HKi
        have HC2 := Lib.hid hc
        have HL2 := Lib.hid hlen
        clear hz hc hroot hop hB hlen hkd hnm hl hne
        go_big_wp2_with (first
          | (go_at_call 121; refine HT.out.mono ?_; rintro e w1 ⟨rfl, hb1⟩; have HB1 := Lib.hid hb1; clear hb1)
          | (go_at_call 157; refine (HKi.out _ HB1.out).mono ?_; rintro e w2 ⟨rfl, rfl⟩))
        go_end0
        refine ⟨rfl, ?_, HO.out.trans (OffB.below HB1.out)⟩
        rw [← HC2.out, List.length_cons, HL2.out]
        exact HBc.out.on HB1.out

set_option maxRecDepth 100000 in
set_option maxHeartbeats 2000000 in
theorem closeOne_any (w : World) (b k : Nat) (tv pa bv : Value) (s : BS) (L : List NdV) (W : World) (ao : Option Addr) (cap n : Nat) (hne : s.o ≠ []) (hn : s.o.length = n) (hn32 : n ≤ 4294967296) (h : BAt w b tv (.slice ao n cap) pa bv s L W) :
    Calls Tryz.prog 158 #[.pointer (some ⟨b, 1, none⟩), .int .u8 ((k : Nat) : Int)] W fun e w' => e = .returned (.tuple #[]) ∧ BAt w b tv (.slice ao (closeOneL k s.o).length cap) pa bv ⟨s.t, closeOneL k s.o, s.ws⟩ L w' ∧ OffB b W w' := by
  cases hl : s.o with
  | nil => exact absurd hl hne
  | cons o r =>
    have hlen := hn
    rw [hl, List.length_cons] at hlen
    have hop := h.opens
    rw [hl] at hop
    simp only [List.length_cons] at hop
    rw [hlen] at hop
    have HT := Lib.hid (top_any ao cap n w.heap.size o r W hlen.symm hn32 hop)
    have HP := Lib.hid fun w1 (hb : Below W.heap.size W w1) => pop_any w b ao cap n tv pa bv s o r L w1 hlen.symm hn32 hl (h.on hb)
    obtain ⟨⟨x0, x1, x2, x3⟩, y0, y1, y2, y3⟩ := local4 h.blk
    obtain ⟨kd, hkd⟩ : ∃ kd, o.kind = kd := ⟨_, rfl⟩
    obtain ⟨nm, hnm⟩ : ∃ nm : ByteArray, (⟨o.name.toArray⟩ : ByteArray) = nm := ⟨_, rfl⟩
    rw [hkd, hnm] at HT
    have hf := field2 ((o.node : Nat) : Int) nm ((kd : Nat) : Int)
    have HB := Lib.hid h
    have HS : Hid (s = ⟨s.t, o :: r, s.ws⟩) := Lib.hid (by rw [← hl])
    have HLn := Lib.hid hlen
    have hcl : closeOneL k (o :: r) = if kd == k then r else o :: r := by unfold closeOneL; show (if o.kind == k then _ else _) = _; rw [hkd]; rfl
    rw [hcl]
    by_cases hz : kd = k
    · have hzb : ((kd : Int) == (k : Int)) = true := by rw [beq_iff_eq]; omega
      rw [if_pos (beq_iff_eq.2 hz)]
      clear hz hcl hnm hkd hop hlen hl hn h hne
      go_enter Tryz.func158, Tryz.ntmps158
      go_big_wp2_with (first
        | (go_at_call 121; refine HT.out.mono ?_; rintro e w1 ⟨rfl, hb1⟩; have HB1 := Lib.hid hb1; clear hb1)
        | (go_at_call 122; refine (HP.out _ HB1.out).mono ?_; rintro e w3 ⟨rfl, hB3, ho3⟩; have HB3 := Lib.hid hB3; have HO3 := Lib.hid ((OffB.below HB1.out).trans ho3); clear hB3 ho3))
      go_end0
      exact ⟨rfl, HB3.out, HO3.out⟩
    · have hzb : ((kd : Int) == (k : Int)) = false := by rw [beq_eq_false_iff_ne]; omega
      rw [if_neg (by rw [beq_iff_eq]; exact hz)]
      clear hz hcl hnm hkd hop hlen hl hn h hne
      go_enter Tryz.func158, Tryz.ntmps158
      go_big_wp2_with (first
        | (go_at_call 121; refine HT.out.mono ?_; rintro e w1 ⟨rfl, hb1⟩; have HB1 := Lib.hid hb1; clear hb1))
      go_end0
      refine ⟨rfl, ?_, OffB.below HB1.out⟩
      rw [show r.length + 1 = n from HLn.out, ← HS.out]
      exact HB.out.on HB1.out
theorem laidK (w : World) (ks : List Nat) : KindsIn (w.alloc (.cells (ks.map fun k => Value.int .u8 ((k : Nat) : Int)).toArray 5)) w.heap.size ks := fun i x hx => by
  rw [World.cell?_alloc_at _ _ _ _ rfl, List.getElem?_toArray, List.getElem?_map, hx]; rfl

set_option maxRecDepth 100000 in
set_option maxHeartbeats 4000000 in
theorem closeAhead_any (w : World) (b k : Nat) (tv pa bv : Value) (s : BS) (L : List NdV) (W : World) (ao : Option Addr) (cap n : Nat) (hk : k ≤ 8) (hr : ∃ r, s.o = r ++ [⟨0, [], 0⟩]) (hn : s.o.length = n) (hn32 : n ≤ 4294967296) (h : BAt w b tv (.slice ao n cap) pa bv s L W) :
    Calls Tryz.prog 130 #[.pointer (some ⟨b, 0, none⟩), .int .u8 ((k : Nat) : Int)] W fun e w' => e = .returned (.tuple #[]) ∧ BAt w b tv (.slice ao (closeAheadL k s.o).length cap) pa bv ⟨s.t, closeAheadL k s.o, s.ws⟩ L w' ∧ OffB b W w' := by
  have hb := (Array.getElem?_eq_some_iff.1 h.blk).1
  have hne : s.o ≠ [] := by obtain ⟨r, e⟩ := hr; rw [e]; simp
  have HB := Lib.hid h
  obtain ⟨⟨x0, x1, x2, x3⟩, y0, y1, y2, y3⟩ := local4 h.blk
  by_cases h3 : k = 3
  · subst h3
    have b1 : Below W.heap.size W (W.alloc (.cells #[.int .u8 2] TU8)) := (Below.refl _ _).alloc (Nat.le_refl _) _
    have HA := Lib.hid (closeAll_any w b W.heap.size 1 1 [2] tv pa bv s L (W.alloc (.cells #[.int .u8 2] TU8)) ao cap n rfl (by decide) (by decide) (by omega) (laidK W [2]) hn hn32 hr (h.on b1))
    have HC := Lib.hid fun w1 hB => closeOne_any w b 3 tv pa bv ⟨s.t, closeAllL [2] s.o, s.ws⟩ L w1 ao cap (closeAllL [2] s.o).length (root_ne (closeAll_root (ks := [2]) (by decide) hr)) rfl (by have := closeAll_le [2] s.o; omega) hB
    have HO1 := Lib.hid (OffB.below (b := b) b1)
    clear h hr hn hne b1 hb
    go_enter Tryz.func130, Tryz.ntmps130
    go_big_wp2_with (first
      | (go_at_call 129; refine HA.out.mono ?_; rintro e w1 ⟨rfl, hB1, ho1⟩; obtain ⟨⟨x0, x1, x2, x3⟩, y0, y1, y2, y3⟩ := local4 hB1.blk; have HB1 := Lib.hid hB1; have HO2 := Lib.hid (HO1.out.trans ho1); clear hB1 ho1)
      | (go_at_call 158; refine (HC.out _ HB1.out).mono ?_; rintro e w2 ⟨rfl, hB2, ho2⟩; have HB2 := Lib.hid hB2; have HO3 := Lib.hid (HO2.out.trans ho2); clear hB2 ho2))
    go_end0
    exact ⟨rfl, HB2.out, HO3.out⟩
  · have h3b : ((k : Int) == 3) = false := by rw [beq_eq_false_iff_ne]; omega
    have h3c : (k == 3) = false := beq_eq_false_iff_ne.2 h3
    have HE := Lib.hid fun w1 => endsP_any k hk w1
    have HC := Lib.hid fun w1 hB => closeOne_any w b 2 tv pa bv s L w1 ao cap n hne hn hn32 hB
    have hcl : closeAheadL k s.o = if endsK k then closeOneL 2 s.o else s.o := by unfold closeAheadL; rw [h3c]; rfl
    rw [hcl]
    have HN := Lib.hid hn
    cases hz : endsK k with
    | true =>
      rw [hz] at HE
      rw [if_pos rfl]
      clear h hr hn hne hb hcl h3c h3 hz
      go_enter Tryz.func130, Tryz.ntmps130
      go_big_wp2_with (first
        | (go_at_call 127; refine (HE.out _).mono ?_; rintro e w1 ⟨rfl, rfl⟩)
        | (go_at_call 158; refine (HC.out _ HB.out).mono ?_; rintro e w2 ⟨rfl, hB2, ho2⟩; have HB2 := Lib.hid hB2; have HO3 := Lib.hid ho2; clear hB2 ho2))
      go_end0
      exact ⟨rfl, HB2.out, HO3.out⟩
    | false =>
      rw [hz] at HE
      rw [if_neg (by decide)]
      clear h hr hn hne hb hcl h3c h3 hz
      go_enter Tryz.func130, Tryz.ntmps130
      go_big_wp2_with (first
        | (go_at_call 127; refine (HE.out _).mono ?_; rintro e w1 ⟨rfl, rfl⟩))
      go_end0
      exact ⟨rfl, by rw [HN.out]; exact HB.out, OffB.refl _ _⟩
end Go.Proofs.YtnfkndaggcklkaaGreatDoor

