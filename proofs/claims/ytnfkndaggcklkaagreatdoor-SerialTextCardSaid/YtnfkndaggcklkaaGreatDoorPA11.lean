/-
  The builder of package tree: an end tag. No conditions.
  The words under way: strings.Builder within the builder of package tree. Conditions: the words are no more than 2^46 bytes.
  The builder of package tree: texts. Conditions: the words are no more than 2^46 bytes.
-/
import Derived.Test.YtnfkndaggcklkaaGreatDoorPA10
namespace Go.Proofs.YtnfkndaggcklkaaGreatDoor
open Go.RowKit Go.RunKit Go.CharrefKit Go.Lib Go.TokenKit Go.TreeKit

/-- What a step of the builder tells. -/
def ToldB (o : Except Nat BS) (w : World) (b : Nat) (W : World) (e : Ending) (w' : World) : Prop := match o with
  | .error x => e = .returned (.int .i64 ((x : Nat) : Int)) ∧ Below w.heap.size w w'
  | .ok s2 => e = .returned (.int .i64 0) ∧ Keeps W w' ∧ ∃ tv ao cap pa bv L, BAt w b tv (.slice ao s2.o.length cap) pa bv s2 L w'

set_option maxRecDepth 100000 in
set_option maxHeartbeats 4000000 in
theorem treeEnd_any (w : World) (b k : Nat) (name : ByteArray) (tv pa bv : Value) (s : BS) (L : List NdV) (W : World) (ao : Option Addr) (cap n : Nat) (hr : ∃ r, s.o = r ++ [⟨0, [], 0⟩]) (hn : s.o.length = n) (hn32 : n ≤ 4294967296) (h : BAt w b tv (.slice ao n cap) pa bv s L W) :
    Calls Tryz.prog 98 #[.pointer (some ⟨b, 0, none⟩), .string name, .int .u8 ((k : Nat) : Int)] W (ToldB (endTagL s (bl name) k) w b W) := by
  have hb := (Array.getElem?_eq_some_iff.1 h.blk).1
  have hblk0 := h.blk
  have HB := Lib.hid h
  obtain ⟨⟨x0, x1, x2, x3⟩, y0, y1, y2, y3⟩ := local4 h.blk
  have hroot := closeEnd_root (k := k) hr
  have hle := closeEnd_le k s.o
  obtain ⟨an, han⟩ : ∃ an, endTagL s (bl name) k = an := ⟨_, rfl⟩
  rw [han]
  have htell := han
  unfold endTagL at htell
  have hcl : closeEndL k s.o = if k == 1 then closeAllL [2, 3] s.o else if k == 3 then closeAllL [2] s.o else s.o := rfl
  obtain ⟨l, hl⟩ : ∃ l, closeEndL k s.o = l := ⟨_, rfl⟩
  rw [hl] at htell hroot hle hcl
  clear han hl
  cases l with
  | nil => exact absurd rfl (root_ne hroot)
  | cons o r =>
    obtain ⟨nmo, hnmo⟩ : ∃ x : ByteArray, (⟨o.name.toArray⟩ : ByteArray) = x := ⟨_, rfl⟩
    have hbo : bl nmo = o.name := by rw [← hnmo, bl_of]
    have HTop := Lib.hid fun (W1 w1 : World) (hB1 : BAt w b tv (.slice ao (o :: r).length cap) pa bv ⟨s.t, o :: r, s.ws⟩ L W1) (hb1 : Below W1.heap.size W1 w1) => top_any ao cap (r.length + 1) w.heap.size o r w1 rfl (by simp at hle; omega) (own_on hB1.opens hb1)
    have HPop := Lib.hid fun (W1 w1 : World) (hB1 : BAt w b tv (.slice ao (o :: r).length cap) pa bv ⟨s.t, o :: r, s.ws⟩ L W1) (hb1 : Below W1.heap.size W1 w1) => pop_any w b ao cap (r.length + 1) tv pa bv ⟨s.t, o :: r, s.ws⟩ o r L w1 rfl (by simp at hle; omega) rfl (hB1.on hb1)
    rw [hnmo] at HTop
    have hf := fun w => field1 ((o.node : Nat) : Int) nmo ((o.kind : Nat) : Int) w
    change (if o.name = bl name then Except.ok (⟨s.t, r, s.ws⟩ : BS) else .error 51) = an at htell
    have hlen : (o :: r).length = r.length + 1 := rfl
    clear hnmo
    have HBlk := Lib.hid hblk0
    by_cases k1 : k = 1
    · have kb1 : ((k : Int) == 1) = true := by rw [beq_iff_eq]; omega
      have hcl1 : closeAllL [2, 3] s.o = o :: r := by rw [hcl, if_pos (beq_iff_eq.2 k1)]
      have b1 : Below W.heap.size W (W.alloc (.cells #[.int .u8 2, .int .u8 3] TU8)) := (Below.refl _ _).alloc (Nat.le_refl _) _
      have HA := Lib.hid (closeAll_any w b W.heap.size 2 2 [2, 3] tv pa bv s L (W.alloc (.cells #[.int .u8 2, .int .u8 3] TU8)) ao cap n rfl (by decide) (by decide) (by omega) (laidK W [2, 3]) hn hn32 hr (h.on b1))
      have HO0 := Lib.hid (OffB.below (b := b) b1)
      have HCl := Lib.hid hcl1
      clear hcl1 b1 k1
      by_cases hne : nmo = name
      · subst hne
        rw [if_pos hbo.symm] at htell
        subst htell
        have hnb : (nmo.toList != nmo.toList) = false := by simp
        clear hr hn hb hroot hle hcl h hlen hblk0 hbo
        go_enter Tryz.func98, Tryz.ntmps98
        go_big_wp2_with (first
          | (go_at_call 129; refine HA.out.mono ?_; rintro e w1 ⟨rfl, hB1, ho1⟩; rw [HCl.out] at hB1; obtain ⟨⟨x0, x1, x2, x3⟩, y0, y1, y2, y3⟩ := local4 hB1.blk; simp only [List.length_cons] at x1; have HB1 := Lib.hid hB1; have HO1 := Lib.hid (HO0.out.trans ho1); clear hB1 ho1)
          | (go_at_call 121; refine (HTop.out _ _ HB1.out (Below.refl _ _)).mono ?_; rintro e w2 ⟨rfl, hb2⟩; have HB2 := Lib.hid hb2; clear hb2)
          | (go_at_call 122; refine (HPop.out _ _ HB1.out HB2.out).mono ?_; rintro e w3 ⟨rfl, hB3, ho3⟩; have HB3 := Lib.hid hB3; have HO3 := Lib.hid ((HO1.out.trans (OffB.below HB2.out)).trans ho3); clear hB3 ho3))
        go_ret
        exact ⟨rfl, HO3.out.keeps HBlk.out, tv, ao, cap, pa, bv, L, HB3.out⟩
      · have hne2 : ¬ bl nmo = bl name := fun e => hne (bl_eq e)
        rw [if_neg (fun e => hne2 (hbo.trans e))] at htell
        subst htell
        have hn2 : ¬ nmo.toList = name.toList := by rw [Lib.toList_data, Lib.toList_data]; exact hne2
        have hn4 : (nmo.toList != name.toList) = true := by rw [bne_iff_ne]; exact hn2
        have hn5 : (nmo.toList == name.toList) = false := beq_eq_false_iff_ne.2 hn2
        clear hr hn hb hroot hle hcl h hlen hne2 hne hblk0 hbo
        go_enter Tryz.func98, Tryz.ntmps98
        go_big_wp2_with (first
          | (go_at_call 129; refine HA.out.mono ?_; rintro e w1 ⟨rfl, hB1, ho1⟩; rw [HCl.out] at hB1; obtain ⟨⟨x0, x1, x2, x3⟩, y0, y1, y2, y3⟩ := local4 hB1.blk; simp only [List.length_cons] at x1; have HB1 := Lib.hid hB1; have HO1 := Lib.hid (HO0.out.trans ho1); clear hB1 ho1)
          | (go_at_call 121; refine (HTop.out _ _ HB1.out (Below.refl _ _)).mono ?_; rintro e w2 ⟨rfl, hb2⟩; have HB2 := Lib.hid hb2; clear hb2)
          | (go_at_call 122; refine (HPop.out _ _ HB1.out HB2.out).mono ?_; rintro e w3 ⟨rfl, hB3, ho3⟩; have HB3 := Lib.hid hB3; have HO3 := Lib.hid ((HO1.out.trans (OffB.below HB2.out)).trans ho3); clear hB3 ho3))
        go_ret
        exact ⟨rfl, HB1.out.below.trans (HB2.out.mono HB1.out.below.size)⟩
    · have kb1 : ((k : Int) == 1) = false := by rw [beq_eq_false_iff_ne]; omega
      by_cases k3 : k = 3
      · have kb3 : ((k : Int) == 3) = true := by rw [beq_iff_eq]; omega
        have hcl1 : closeAllL [2] s.o = o :: r := by rw [hcl, if_neg (by rw [beq_iff_eq]; exact k1), if_pos (beq_iff_eq.2 k3)]
        have b1 : Below W.heap.size W (W.alloc (.cells #[.int .u8 2] TU8)) := (Below.refl _ _).alloc (Nat.le_refl _) _
        have HA := Lib.hid (closeAll_any w b W.heap.size 1 1 [2] tv pa bv s L (W.alloc (.cells #[.int .u8 2] TU8)) ao cap n rfl (by decide) (by decide) (by omega) (laidK W [2]) hn hn32 hr (h.on b1))
        have HO0 := Lib.hid (OffB.below (b := b) b1)
        have HCl := Lib.hid hcl1
        clear hcl1 b1 k1 k3
        by_cases hne : nmo = name
        · subst hne
          rw [if_pos hbo.symm] at htell
          subst htell
          have hnb : (nmo.toList != nmo.toList) = false := by simp
          clear hr hn hb hroot hle hcl h hlen hblk0 hbo
          go_enter Tryz.func98, Tryz.ntmps98
          go_big_wp2_with (first
            | (go_at_call 129; refine HA.out.mono ?_; rintro e w1 ⟨rfl, hB1, ho1⟩; rw [HCl.out] at hB1; obtain ⟨⟨x0, x1, x2, x3⟩, y0, y1, y2, y3⟩ := local4 hB1.blk; simp only [List.length_cons] at x1; have HB1 := Lib.hid hB1; have HO1 := Lib.hid (HO0.out.trans ho1); clear hB1 ho1)
            | (go_at_call 121; refine (HTop.out _ _ HB1.out (Below.refl _ _)).mono ?_; rintro e w2 ⟨rfl, hb2⟩; have HB2 := Lib.hid hb2; clear hb2)
            | (go_at_call 122; refine (HPop.out _ _ HB1.out HB2.out).mono ?_; rintro e w3 ⟨rfl, hB3, ho3⟩; have HB3 := Lib.hid hB3; have HO3 := Lib.hid ((HO1.out.trans (OffB.below HB2.out)).trans ho3); clear hB3 ho3))
          go_ret
          exact ⟨rfl, HO3.out.keeps HBlk.out, tv, ao, cap, pa, bv, L, HB3.out⟩
        · have hne2 : ¬ bl nmo = bl name := fun e => hne (bl_eq e)
          rw [if_neg (fun e => hne2 (hbo.trans e))] at htell
          subst htell
          have hn2 : ¬ nmo.toList = name.toList := by rw [Lib.toList_data, Lib.toList_data]; exact hne2
          have hn4 : (nmo.toList != name.toList) = true := by rw [bne_iff_ne]; exact hn2
          have hn5 : (nmo.toList == name.toList) = false := beq_eq_false_iff_ne.2 hn2
          clear hr hn hb hroot hle hcl h hlen hne2 hne hblk0 hbo
          go_enter Tryz.func98, Tryz.ntmps98
          go_big_wp2_with (first
            | (go_at_call 129; refine HA.out.mono ?_; rintro e w1 ⟨rfl, hB1, ho1⟩; rw [HCl.out] at hB1; obtain ⟨⟨x0, x1, x2, x3⟩, y0, y1, y2, y3⟩ := local4 hB1.blk; simp only [List.length_cons] at x1; have HB1 := Lib.hid hB1; have HO1 := Lib.hid (HO0.out.trans ho1); clear hB1 ho1)
            | (go_at_call 121; refine (HTop.out _ _ HB1.out (Below.refl _ _)).mono ?_; rintro e w2 ⟨rfl, hb2⟩; have HB2 := Lib.hid hb2; clear hb2)
            | (go_at_call 122; refine (HPop.out _ _ HB1.out HB2.out).mono ?_; rintro e w3 ⟨rfl, hB3, ho3⟩; have HB3 := Lib.hid hB3; have HO3 := Lib.hid ((HO1.out.trans (OffB.below HB2.out)).trans ho3); clear hB3 ho3))
          go_ret
          exact ⟨rfl, HB1.out.below.trans (HB2.out.mono HB1.out.below.size)⟩
      · have kb3 : ((k : Int) == 3) = false := by rw [beq_eq_false_iff_ne]; omega
        have hcl1 : s.o = o :: r := by rw [hcl, if_neg (by rw [beq_iff_eq]; exact k1), if_neg (by rw [beq_iff_eq]; exact k3)]
        have hn2' : n = r.length + 1 := by rw [← hn, hcl1, hlen]
        have hB1 : BAt w b tv (.slice ao (o :: r).length cap) pa bv ⟨s.t, o :: r, s.ws⟩ L W := by
          rw [hlen, ← hn2', ← hcl1]; exact h
        rw [hn2'] at x1
        have HB1 := Lib.hid hB1
        have HO1 := Lib.hid (OffB.refl b W)
        clear hB1 hn2' hcl1 k1 k3
        by_cases hne : nmo = name
        · subst hne
          rw [if_pos hbo.symm] at htell
          subst htell
          have hnb : (nmo.toList != nmo.toList) = false := by simp
          clear hr hn hb hroot hle hcl h hlen hblk0 hbo
          go_enter Tryz.func98, Tryz.ntmps98
          go_big_wp2_with (first
            | (go_at_call 121; refine (HTop.out _ _ HB1.out (Below.refl _ _)).mono ?_; rintro e w2 ⟨rfl, hb2⟩; have HB2 := Lib.hid hb2; clear hb2)
            | (go_at_call 122; refine (HPop.out _ _ HB1.out HB2.out).mono ?_; rintro e w3 ⟨rfl, hB3, ho3⟩; have HB3 := Lib.hid hB3; have HO3 := Lib.hid ((HO1.out.trans (OffB.below HB2.out)).trans ho3); clear hB3 ho3))
          go_ret
          exact ⟨rfl, HO3.out.keeps HBlk.out, tv, ao, cap, pa, bv, L, HB3.out⟩
        · have hne2 : ¬ bl nmo = bl name := fun e => hne (bl_eq e)
          rw [if_neg (fun e => hne2 (hbo.trans e))] at htell
          subst htell
          have hn2 : ¬ nmo.toList = name.toList := by rw [Lib.toList_data, Lib.toList_data]; exact hne2
          have hn4 : (nmo.toList != name.toList) = true := by rw [bne_iff_ne]; exact hn2
          have hn5 : (nmo.toList == name.toList) = false := beq_eq_false_iff_ne.2 hn2
          clear hr hn hb hroot hle hcl h hlen hne2 hne hblk0 hbo
          go_enter Tryz.func98, Tryz.ntmps98
          go_big_wp2_with (first
            | (go_at_call 121; refine (HTop.out _ _ HB1.out (Below.refl _ _)).mono ?_; rintro e w2 ⟨rfl, hb2⟩; have HB2 := Lib.hid hb2; clear hb2)
            | (go_at_call 122; refine (HPop.out _ _ HB1.out HB2.out).mono ?_; rintro e w3 ⟨rfl, hB3, ho3⟩; have HB3 := Lib.hid hB3; have HO3 := Lib.hid ((HO1.out.trans (OffB.below HB2.out)).trans ho3); clear hB3 ho3))
          go_ret
          exact ⟨rfl, HB1.out.below.trans (HB2.out.mono HB1.out.below.size)⟩
end Go.Proofs.YtnfkndaggcklkaaGreatDoor

namespace Go.Proofs.YtnfkndaggcklkaaGreatDoor
open Go.RowKit Go.RunKit Go.CharrefKit Go.Lib Go.TokenKit Go.TreeKit

abbrev TSb : TypeId := 62
theorem liesBuilder2 : liesAt Tryz.prog Tryz.prog.depth TBd (4 / Tryz.prog.cellsOf TBd) 2 TSb 1 = true := by kernel_rfl
/-- The builder but for its words. -/
structure BA0 (w : World) (b : Nat) (tv ov pa bv : Value) (t : List Nd) (o : List Opd) (L : List NdV) (wr : World) : Prop where
  below : Below w.heap.size w wr
  le : w.heap.size ≤ b
  blk : wr.heap[b]? = some (.cells #[tv, ov, pa, bv] TBd (0, 0))
  tree : NdRow wr w.heap.size tv L
  spec : L.map (·.1) = t
  opens : wr.ownsRow w.heap.size TOp 3 ov o.length (opCells o.reverse)
theorem BAt.but {w wr : World} {b : Nat} {tv ov pa bv : Value} {s : BS} {L : List NdV} (h : BAt w b tv ov pa bv s L wr) : BA0 w b tv ov pa bv s.t s.o L wr := ⟨h.below, h.le, h.blk, h.tree, h.spec, h.opens⟩
theorem BA0.on {w wr w' : World} {b : Nat} {tv ov pa bv : Value} {t : List Nd} {o : List Opd} {L : List NdV} (h : BA0 w b tv ov pa bv t o L wr) (hb : Below wr.heap.size wr w') : BA0 w b tv ov pa bv t o L w' :=
  ⟨h.below.trans (hb.mono h.below.size), h.le, by rw [hb.block _ (Array.getElem?_eq_some_iff.1 h.blk).1]; exact h.blk, h.tree.on hb, h.spec, own_on h.opens hb⟩
/-- A change of one block of bytes. -/
theorem BA0.bytes {w wr w' : World} {b g : Nat} {tv ov pa bv : Value} {t : List Nd} {o : List Opd} {L : List NdV} {cs : Array Value} {fr : Nat × Nat} (h : BA0 w b tv ov pa bv t o L wr) (hg : wr.heap[g]? = some (.cells cs TU8 fr)) (hge : w.heap.size ≤ g) (hgr : wr.grownBy w' (some g)) : BA0 w b tv ov pa bv t o L w' :=
  ⟨h.below.grown hgr h.below.size (fun k hk => by cases hk; exact hge), h.le, by
    rw [hgr.block b (Array.getElem?_eq_some_iff.1 h.blk).1 (fun e => by
      cases e
      rw [h.blk] at hg
      simp only [Option.some.injEq, Obj.cells.injEq] at hg
      exact absurd hg.2.1 (by decide))]
    exact h.blk, h.tree.other hg (by decide) (by decide) (by decide) hgr, h.spec, own_other h.opens hg (by decide) hgr⟩
theorem Keeps.bytes {A B : World} {g : Nat} {cs : Array Value} {fr : Nat × Nat} (hg : A.heap[g]? = some (.cells cs TU8 fr)) (hgr : A.grownBy B (some g)) : Keeps A B := fun k cs' T' fr' hk _ _ _ _ h5 => by
  rw [hgr.block k (Array.getElem?_eq_some_iff.1 hk).1 (fun e => by
    cases e
    rw [hk] at hg
    cases hg
    exact h5 rfl)]
  exact hk
theorem words_slice {w : World} {base b : Nat} {pa bv : Value} {ws : Bytes} (h : WordsAt w base b pa bv ws) : ∃ ao cap, bv = .slice ao ws.length cap := by
  rcases h with ⟨_, rfl, rfl⟩ | ⟨_, _, h3⟩
  · exact ⟨none, 0, rfl⟩
  · rcases h3.2 with ⟨hv, h0⟩ | ⟨g, cap, cur, fz, hv, _⟩
    · exact ⟨none, 0, by rw [hv, h0]⟩
    · exact ⟨_, _, hv⟩

set_option maxRecDepth 100000 in
set_option maxHeartbeats 1000000 in
theorem wlen_any (b n cap : Nat) (ao : Option Addr) (tv ov pa : Value) (W : World) (hblk : W.heap[b]? = some (.cells #[tv, ov, pa, .slice ao n cap] TBd (0, 0))) :
    Calls Tryz.prog 65 #[.pointer (some ⟨b, 2, none⟩)] W fun e w' => e = .returned (.int .i64 ((n : Nat) : Int)) ∧ W = w' := by
  obtain ⟨⟨x0, x1, x2, x3⟩, y0, y1, y2, y3⟩ := local4 hblk
  go_enter Tryz.func65, Tryz.ntmps65
  go_big_wp2
  go_ret
  exact ⟨rfl, rfl⟩
set_option maxRecDepth 100000 in
set_option maxHeartbeats 1000000 in
theorem wreset_any (b : Nat) (tv ov pa bv : Value) (W : World) (hblk : W.heap[b]? = some (.cells #[tv, ov, pa, bv] TBd (0, 0))) :
    Calls Tryz.prog 66 #[.pointer (some ⟨b, 2, none⟩)] W fun e w' => e = .returned (.tuple #[]) ∧ w' = (W.setCell ⟨b, 2, none⟩ (.pointer none)).setCell ⟨b, 3, none⟩ (.slice none 0 0) := by
  obtain ⟨⟨x0, x1, x2, x3⟩, y0, y1, y2, y3⟩ := local4 hblk
  go_enter Tryz.func66, Tryz.ntmps66
  go_big_wp2
  go_end0
  exact ⟨rfl, rfl⟩
theorem underPtrB : Tryz.prog.underlying 60 = some (.pointer TSb) := by kernel_rfl
theorem underUnsafeB : Tryz.prog.underlying 142 = some .unsafePointer := by kernel_rfl
theorem sizeBuilderB : (Tryz.prog.info? TSb).map (·.size) = some 2 := by kernel_rfl
set_option maxRecDepth 100000 in
set_option maxHeartbeats 1000000 in
theorem wcheck_fresh (b : Nat) (tv ov bv : Value) (w : World) (hblk : w.heap[b]? = some (.cells #[tv, ov, .pointer none, bv] TBd (0, 0))) :
    Calls Tryz.prog 101 #[.pointer (some ⟨b, 2, none⟩)] w fun e w' => e = .returned (.tuple #[]) ∧ w' = w.setCell ⟨b, 2, none⟩ (.pointer (some ⟨b, 2, none⟩)) := by
  obtain ⟨j, hj, hjs⟩ := Option.map_eq_some_iff.1 sizeBuilderB
  obtain ⟨⟨x0, x1, x2, x3⟩, y0, y1, y2, y3⟩ := local4 hblk
  have hsh : w.shape? b = some (TBd, 4) := by simp [World.shape?, hblk]
  go_enter Tryz.func101, Tryz.ntmps101
  go_big_wp2
  rw [Lib.run_to_unsafe w ⟨b, 2, none⟩ underPtrB underUnsafeB hj (by rw [hjs]; decide) hsh (show 2 < 4 by decide)]
  simp only [Result.andThen]
  rw [Oper.upon_value]
  go_big_wp2
  rw [run_callFunc_extern Tryz.func134 (by kernel_rfl) (by kernel_rfl) (by kernel_rfl) (e := Extern.AbiNoEscape.same) (by kernel_rfl)]
  rw [Lib.run_noEscape]
  simp only [Result.andThen]
  rw [Oper.upon_value]
  go_big_wp2
  rw [Lib.run_from_unsafe w ⟨b, 2, none⟩ underUnsafeB underPtrB hj hsh liesBuilder2]
  simp only [Result.andThen]
  rw [Oper.upon_value]
  go_big_wp2
  go_end0
  exact ⟨rfl, rfl⟩
set_option maxRecDepth 100000 in
set_option maxHeartbeats 1000000 in
theorem wcheck_used (b : Nat) (tv ov bv : Value) (w : World) (hblk : w.heap[b]? = some (.cells #[tv, ov, .pointer (some ⟨b, 2, none⟩), bv] TBd (0, 0))) :
    Calls Tryz.prog 101 #[.pointer (some ⟨b, 2, none⟩)] w fun e w' => e = .returned (.tuple #[]) ∧ w' = w := by
  obtain ⟨j, hj, _⟩ := Option.map_eq_some_iff.1 sizeBuilderB
  obtain ⟨⟨x0, x1, x2, x3⟩, y0, y1, y2, y3⟩ := local4 hblk
  go_enter Tryz.func101, Tryz.ntmps101
  go_big_wp2
  rw [Lib.run_neq_ptr_same w _ underPtrB hj]
  go_big_wp2
  go_end0
  exact ⟨rfl, rfl⟩

theorem BA0.set {w wr : World} {b i : Nat} {tv ov pa bv pa' bv' v : Value} {t : List Nd} {o : List Opd} {L : List NdV} (h : BA0 w b tv ov pa bv t o L wr) (he : #[tv, ov, pa, bv].setIfInBounds i v = #[tv, ov, pa', bv']) : BA0 w b tv ov pa' bv' t o L (wr.setCell ⟨b, i, none⟩ v) :=
  ⟨h.below.setCell h.le _, h.le, by rw [heap_setCell_same wr b i _ _ v h.blk, he],
    h.tree.other h.blk (by decide) (by decide) (by decide) (grown_set _ _ _ _), h.spec, own_other h.opens h.blk (by decide) (grown_set _ _ _ _)⟩
theorem own_fset {w : World} {base b size n : Nat} {cs : Array Value} {T : TypeId} {v u : Value} {xs : List Value} {i : Nat} {fr : Nat × Nat} (h : w.ownsRowF base TU8 size u n xs) (hb : w.heap[b]? = some (.cells cs T fr)) (hT : T ≠ TU8) : (w.setCell ⟨b, i, none⟩ v).ownsRowF base TU8 size u n xs :=
  World.ownsRowF.kept h (grown_set _ _ _ _) (.inr (ownF_ne h hb hT))
theorem below_none {w w' : World} (hg : w.grownBy w' none) : Below w.heap.size w w' := ⟨hg.os, hg.tape, hg.output, hg.size, fun k hk => hg.block k hk (by simp)⟩
theorem BA0.grownF {w wr w' : World} {b n : Nat} {tv ov pa bv v2 : Value} {t : List Nd} {o : List Opd} {L : List NdV} {xs : List Value} (h : BA0 w b tv ov pa bv t o L wr) (h2 : wr.ownsRowF w.heap.size TU8 1 v2 n xs) (hg : wr.grownBy w' v2.ownBlock) : BA0 w b tv ov pa bv t o L w' ∧ Keeps wr w' := by
  rcases h2.2 with ⟨rfl, _⟩ | ⟨g, cap, cur, fz, rfl, hge, hgg, _⟩
  · exact ⟨h.on (below_none hg), Keeps.below (below_none hg)⟩
  · exact ⟨h.bytes hgg hge hg, Keeps.bytes hgg hg⟩
/-- WriteString of some bytes. -/
def ToldW (w : World) (b : Nat) (tv ov : Value) (s : BS) (d : ByteArray) (L : List NdV) (W : World) (e : Ending) (w' : World) : Prop :=
  e = .returned (.tuple #[.int .i64 ((d.size : Nat) : Int), .nilIface]) ∧ Keeps W w' ∧ ∃ pa bv, BAt w b tv ov pa bv ⟨s.t, s.o, s.ws ++ bl d⟩ L w'

set_option maxRecDepth 100000 in
set_option maxHeartbeats 4000000 in
theorem wwrite_any (w : World) (b : Nat) (d : ByteArray) (tv ov pa bv : Value) (s : BS) (L : List NdV) (W : World) (hd : bl d ≠ []) (hlen : s.ws.length + d.size ≤ 70368744177664) (h : BAt w b tv ov pa bv s L W) :
    Calls Tryz.prog 93 #[.pointer (some ⟨b, 2, none⟩), .string d] W (ToldW w b tv ov s d L W) := by
  obtain ⟨i0, hi, hz0, hz1, hz2⟩ := info_parts Tryz.infoByte
  -- behind copyCheck
  have hck : Calls Tryz.prog 101 #[.pointer (some ⟨b, 2, none⟩)] W fun e w' => e = .returned (.tuple #[]) ∧ BA0 w b tv ov (.pointer (some ⟨b, 2, none⟩)) bv s.t s.o L w' ∧ w'.ownsRowF w.heap.size TU8 1 bv s.ws.length (byteCells s.ws) ∧ Keeps W w' := by
    rcases h.words with ⟨h1, h2, h3⟩ | ⟨h1, h2, h3⟩
    · subst h1; subst h2
      refine (wcheck_fresh b tv ov (.slice none 0 0) W h.blk).mono ?_
      rintro e w' ⟨rfl, rfl⟩
      exact ⟨rfl, h.but.set rfl, by rw [h3]; exact World.ownsRowF_nil _ _ _ _, Keeps.set h.blk (.inl rfl) _⟩
    · subst h1
      refine (wcheck_used b tv ov bv W h.blk).mono ?_
      rintro e w' ⟨rfl, rfl⟩
      exact ⟨rfl, h.but, h3, Keeps.refl _⟩
  have HCk := Lib.hid hck
  obtain ⟨ws, hws⟩ : ∃ ws, s.ws = ws := ⟨_, rfl⟩
  rw [hws] at HCk hlen
  have HWs := Lib.hid hws
  have HD := Lib.hid hd
  have hds := bl_length d
  obtain ⟨ao0, cap0, hbv⟩ := words_slice h.words
  subst hbv
  rw [hws] at HCk
  have HDs := Lib.hid hds
  clear hck h hws hd hds
  go_enter Tryz.func93, Tryz.ntmps93
  go_big_wp2_with (first
    | (go_at_call 101; refine HCk.out.mono ?_; rintro e w1 ⟨rfl, hB1, hown, hk1⟩; obtain ⟨⟨x0, x1, x2, x3⟩, y0, y1, y2, y3⟩ := local4 hB1.blk; have HB1 := Lib.hid hB1; have HOwn := Lib.hid hown; have HK1 := Lib.hid hk1; clear hB1 hown hk1)
    | (at_builtin; refine Lib.wpList_append_own_stringF _ rfl _ _ 42 9 rfl w.heap.size TU8 i0 underBytes underString hi hz0 hz1 hz2 _ _ _ rfl HOwn.out d rfl ?c3 ?c4 ?c5 ?_))
  case c3 => unfold maxLen; omega
  case c4 => omega
  case c5 => exact HB1.out.below.size
  intro v' w2 hown' hgrow _
  obtain ⟨hB2, hK2⟩ := HB1.out.grownF HOwn.out hgrow
  obtain ⟨ao', cap', rfl⟩ : ∃ ao' cap', v' = .slice ao' (ws.length + d.size) cap' := by
    rcases hown'.2 with ⟨hv, h0⟩ | ⟨g, cap, cur, fz, hv, _⟩
    · exact ⟨none, 0, by rw [hv, h0]⟩
    · exact ⟨_, _, hv⟩
  clear x0 x1 x2 x3 y0 y1 y2 y3
  obtain ⟨⟨x0, x1, x2, x3⟩, y0, y1, y2, y3⟩ := local4 hB2.blk
  have HB2 := Lib.hid hB2
  have HK2 := Lib.hid ((HK1.out.trans hK2).trans (Keeps.set (i := 3) hB2.blk (.inl rfl) (.slice ao' (ws.length + d.size) cap')))
  have HOw2 := Lib.hid (own_fset (i := 3) (v := .slice ao' (ws.length + d.size) cap') hown' hB2.blk (by decide))
  clear hown' hgrow hB2 hK2
  go_big_wp2
  go_ret2
  have hf := HB2.out.set (i := 3) (v := .slice ao' (ws.length + d.size) cap') (pa' := .pointer (some ⟨b, 2, none⟩)) (bv' := .slice ao' (ws.length + d.size) cap') rfl
  refine ⟨rfl, HK2.out, .pointer (some ⟨b, 2, none⟩), .slice ao' (ws.length + d.size) cap', ⟨hf.below, hf.le, hf.blk, hf.tree, hf.spec, hf.opens, .inr ⟨rfl, ?_, ?_⟩⟩⟩
  · intro e
    exact HD.out (List.append_eq_nil_iff.1 e).2
  · show World.ownsRowF _ _ _ _ _ (s.ws ++ bl d).length (byteCells (s.ws ++ bl d))
    rw [HWs.out, List.length_append, HDs.out, show byteCells (ws ++ bl d) = byteCells ws ++ strCells d by simp [byteCells, strCells, bl]]
    exact HOw2.out

theorem freeze_other (w : World) (g n k : Nat) (h : k ≠ g) : (w.freeze ⟨g, 0, none⟩ n).heap[k]? = w.heap[k]? := by
  unfold World.freeze
  split
  · rfl
  · simp only [Array.getElem?_modify]
    rw [if_neg (fun e => h e.symm)]
theorem freeze_grown (w : World) (g n : Nat) : w.grownBy (w.freeze ⟨g, 0, none⟩ n) (some g) := by
  have hb := Lib.below_freeze (B := 0) (Below.refl 0 w) (p := ⟨g, 0, none⟩) (Nat.zero_le _) n
  exact ⟨hb.os, hb.tape, hb.output, hb.size, fun k _ hk => freeze_other w g n k (fun e => hk (by rw [e]))⟩
/-- Blocks of other types than bytes are as they were. -/
def KeepsU (W W' : World) : Prop := ∀ (k : Nat) (cs : Array Value) (T : TypeId) (fr : Nat × Nat), W.heap[k]? = some (.cells cs T fr) → T ≠ TU8 → W'.heap[k]? = some (.cells cs T fr)
theorem KeepsU.keeps {A B : World} (h : KeepsU A B) : Keeps A B := fun k cs T fr hk _ _ _ _ h5 => h k cs T fr hk h5
theorem KeepsU.bytes {A B : World} {g : Nat} {cs : Array Value} {fr : Nat × Nat} (hg : A.heap[g]? = some (.cells cs TU8 fr)) (hgr : A.grownBy B (some g)) : KeepsU A B := fun k cs' T' fr' hk h5 => by
  rw [hgr.block k (Array.getElem?_eq_some_iff.1 hk).1 (fun e => by
    cases e
    rw [hk] at hg
    cases hg
    exact h5 rfl)]
  exact hk
/-- Blocks are as they were, but the builder's, a row's, and bytes. -/
def Keeps3 (b : Nat) (v : Value) (W W' : World) : Prop := ∀ (k : Nat) (cs : Array Value) (T : TypeId) (fr : Nat × Nat), W.heap[k]? = some (.cells cs T fr) → k ≠ b → v.ownBlock ≠ some k → T ≠ TU8 → W'.heap[k]? = some (.cells cs T fr)
theorem Keeps3.refl (b : Nat) (v : Value) (W : World) : Keeps3 b v W W := fun _ _ _ _ h _ _ _ => h
theorem Keeps3.trans {b : Nat} {v : Value} {A B C : World} (h : Keeps3 b v A B) (k : Keeps3 b v B C) : Keeps3 b v A C := fun i cs T fr hi h1 h2 h3 => k i cs T fr (h i cs T fr hi h1 h2 h3) h1 h2 h3
theorem Keeps3.ofU {b : Nat} {v : Value} {A B : World} (h : KeepsU A B) : Keeps3 b v A B := fun i cs T fr hi _ _ h3 => h i cs T fr hi h3
theorem Keeps3.set {b : Nat} {v u : Value} {A : World} {g i : Nat} (hg : g = b ∨ v.ownBlock = some g) : Keeps3 b v A (A.setCell ⟨g, i, none⟩ u) := fun k cs T fr hk h1 h2 _ => by
  rw [heap_setCell_other _ _ _ _ (by
    show k ≠ g
    intro e
    subst e
    rcases hg with hg | hg
    · exact h1 hg
    · exact h2 hg)]
  exact hk
theorem underPtrU8 : Tryz.prog.underlying 122 = some (.pointer TU8) := by kernel_rfl
theorem cellsU8 : Tryz.prog.cellsOf TU8 = 1 := by kernel_rfl
/-- String of some bytes. -/
def ToldS (w : World) (b : Nat) (tv ov pa bv : Value) (s : BS) (L : List NdV) (W : World) (e : Ending) (w' : World) : Prop :=
  e = .returned (.string ⟨s.ws.toArray⟩) ∧ BA0 w b tv ov pa bv s.t s.o L w' ∧ KeepsU W w'

set_option maxRecDepth 100000 in
set_option maxHeartbeats 4000000 in
theorem wstring_any (w : World) (b : Nat) (tv ov pa bv : Value) (s : BS) (L : List NdV) (W : World) (hs : s.ws ≠ []) (h : BAt w b tv ov pa bv s L W) :
    Calls Tryz.prog 56 #[.pointer (some ⟨b, 2, none⟩)] W (ToldS w b tv ov pa bv s L W) := by
  obtain ⟨_, _, hown⟩ : pa = .pointer (some ⟨b, 2, none⟩) ∧ s.ws ≠ [] ∧ W.ownsRowF w.heap.size TU8 1 bv s.ws.length (byteCells s.ws) := by
    rcases h.words with ⟨_, _, h3⟩ | h3
    · exact absurd h3 hs
    · exact h3
  have hB := h.but
  have hbk := h.blk
  obtain ⟨l, hl⟩ : ∃ l, s.ws = l := ⟨_, rfl⟩
  unfold ToldS
  rw [hl] at hown hs ⊢
  have hl0 : l.length ≠ 0 := by simpa using hs
  obtain ⟨g, cap, cur, fz, rfl, hbg, hg, hfz, hnc, hcm, hcs, htake⟩ : ∃ g cap cur fz, bv = .slice (some ⟨g, 0, none⟩) l.length cap ∧ w.heap.size ≤ g ∧ W.heap[g]? = some (.cells cur TU8 fz) ∧ fz.2 ≤ l.length * 1 ∧ l.length ≤ cap ∧ cap ≤ maxLen ∧ cur.size = cap * 1 ∧ cur.toList.take (l.length * 1) = byteCells l := by
    rcases hown.2 with ⟨_, hz⟩ | ⟨g, cap, cur, fz, hv, r⟩
    · exact absurd hz hl0
    · exact ⟨g, cap, cur, fz, hv, r⟩
  have c1 : W.drew.cell? ⟨b, 3, none⟩ = some (.slice (some ⟨g, 0, none⟩) l.length cap) := (local4 (W := W.drew) hbk).1.2.2.2
  have c2 : W.cell? ⟨b, 3, none⟩ = some (.slice (some ⟨g, 0, none⟩) l.length cap) := (local4 hbk).1.2.2.2
  have hSD : (Builtin.unsafeSliceData_ #[42] 122 #[.slice (some ⟨g, 0, none⟩) l.length cap]).run Tryz.prog W.drew = .ok (.pointer (some ⟨g, 0, none⟩)) W.drew :=
    Lib.run_unsafeSliceData_row _ _ _ _ _ _ (by omega)
  have hUS : (Builtin.unsafeString_ #[122, 3] 9 #[.pointer (some ⟨g, 0, none⟩), .int .i64 l.length]).run Tryz.prog W.drew = .ok (.string ⟨l.toArray⟩) (W.drew.freeze ⟨g, 0, none⟩ l.length) := by
    refine Lib.run_unsafeString_row W.drew 122 3 9 TU8 underPtrU8 cellsU8 g cur.size (by have hg' : W.drew.heap[g]? = some (.cells cur TU8 fz) := hg; simp [World.shape?, hg']) l hs (by omega) (by unfold maxLen at hcm; omega) ?_
    intro j x hx
    have := hown.cells (g := g) rfl j (.int .u8 x.toNat) (by simp [Lib.byteCells, hx])
    exact this
  have hB1 := (hB.on (Below.refl _ _).drew).bytes (w' := W.drew.freeze ⟨g, 0, none⟩ l.length) hg hbg (freeze_grown _ _ _)
  have hK1 : KeepsU W (W.drew.freeze ⟨g, 0, none⟩ l.length) := KeepsU.bytes (A := W.drew) hg (freeze_grown _ _ _)
  have HB1 := Lib.hid hB1
  have HK1 := Lib.hid hK1
  clear h hB hbk hown hg hfz hcs htake hB1 hK1 hl
  go_enter Tryz.func56, Tryz.ntmps56
  go_big_wp2
  go_region
  all_goals (go_big_wp2; go_ret; exact ⟨rfl, HB1.out, HK1.out⟩)
end Go.Proofs.YtnfkndaggcklkaaGreatDoor

namespace Go.Proofs.YtnfkndaggcklkaaGreatDoor
open Go.RowKit Go.RunKit Go.CharrefKit Go.Lib Go.TokenKit Go.TreeKit

/-- A node's data written over. -/
theorem NdRow.data {w : World} {base n cap g : Nat} {L : List NdV} {k : Nat} {x : NdV} (d : Bytes) (h : NdRow w base (.slice (some ⟨g, 0, none⟩) n cap) L) (hx : L[k]? = some x) :
    NdRow (w.setCell ⟨g, k * 6 + 3, none⟩ (.string ⟨d.toArray⟩)) base (.slice (some ⟨g, 0, none⟩) n cap) (L.set k ({ x.1 with data := d }, x.2)) := by
  have hk := (List.getElem?_eq_some_iff.1 hx).1
  have hn : n = L.length := by
    rcases h.row.2 with ⟨e, _⟩ | ⟨_, _, _, e, _⟩
    · cases e
    · cases e; rfl
  subst hn
  obtain ⟨h1, h2⟩ := World.ownsRow.stored h.row (k * 6 + 3) (.string ⟨d.toArray⟩)
  rw [ndCells_set (y := ({ x.1 with data := d }, x.2)) hx (by decide) rfl] at h1
  have hgg : ∃ cur, w.heap[g]? = some (.cells cur TNd (0, 0)) := by
    rcases h.row.2 with ⟨e, _⟩ | ⟨_, _, cur, e, _, hg, _⟩
    · cases e
    · cases e; exact ⟨cur, hg⟩
  obtain ⟨cur, hgg⟩ := hgg
  have hsub : ∀ y, y ∈ L.set k ({ x.1 with data := d }, x.2) → ∃ z, z ∈ L ∧ y.1.attrs = z.1.attrs ∧ y.1.kids = z.1.kids ∧ y.2 = z.2 := fun y hy => by
    rcases List.mem_or_eq_of_mem_set hy with hy | rfl
    · exact ⟨y, hy, rfl, rfl, rfl⟩
    · exact ⟨x, List.mem_of_getElem? hx, rfl, rfl, rfl⟩
  refine ⟨by rw [List.length_set]; exact h1, fun y hy => ?_, fun y hy => ?_, fun i j y z hi hj hne q hq => ?_⟩
  · obtain ⟨z, hz, e1, e2, e3⟩ := hsub y hy
    rw [e1, e3]; exact own_other (h.attrs z hz) hgg (by decide) h2
  · obtain ⟨z, hz, e1, e2, e3⟩ := hsub y hy
    rw [e2, e3]; exact own_other (h.kids z hz) hgg (by decide) h2
  · have key : ∀ (i : Nat) (y : NdV), (L.set k ({ x.1 with data := d }, x.2))[i]? = some y → ∃ y', L[i]? = some y' ∧ y'.2.2 = y.2.2 := fun i y hi => by
      rw [List.getElem?_set] at hi
      split at hi
      · rename_i e; subst e
        cases hi; exact ⟨x, hx, rfl⟩
      · exact ⟨y, hi, rfl⟩
    obtain ⟨y', hy', ey⟩ := key i y hi
    obtain ⟨z', hz', ez⟩ := key j z hj
    rw [← ey] at hq
    rw [← ez]
    exact h.apart i j y' z' hy' hz' hne q hq
theorem tree_cells {w : World} {base n cap : Nat} {ao : Option Addr} {L : List NdV} {k : Nat} {x : NdV} (h : NdRow w base (.slice ao n cap) L) (hx : L[k]? = some x) : ∃ g cur, ao = some ⟨g, 0, none⟩ ∧ w.heap[g]? = some (.cells cur TNd (0, 0)) ∧ base ≤ g ∧
    (w.cell? ⟨g, k * 6, none⟩ = some (.int .u8 ((x.1.kind : Nat) : Int)) ∧ w.cell? ⟨g, k * 6 + 1, none⟩ = some (.string ⟨x.1.name.toArray⟩) ∧ w.cell? ⟨g, k * 6 + 2, none⟩ = some x.2.1 ∧ w.cell? ⟨g, k * 6 + 3, none⟩ = some (.string ⟨x.1.data.toArray⟩) ∧ w.cell? ⟨g, k * 6 + 4, none⟩ = some (.int .i64 x.1.up) ∧ w.cell? ⟨g, k * 6 + 5, none⟩ = some x.2.2) ∧
    (w.frozen? ⟨g, k * 6 + 3, none⟩ = false ∧ w.frozen? ⟨g, k * 6 + 5, none⟩ = false) := by
  have hk := (List.getElem?_eq_some_iff.1 hx).1
  have h' := h.row
  rcases h'.2 with ⟨_, hn⟩ | ⟨g, c, cur, e, hb, hg, _⟩
  · omega
  · cases e
    have at_ := fun (c : Nat) (hc : c < 6) => (World.ownsRow.cellAt h' (k * 6 + c) (by omega)).trans (ndCells_at hx hc)
    exact ⟨g, cur, rfl, hg, hb, ⟨at_ 0 (by decide), at_ 1 (by decide), at_ 2 (by decide), at_ 3 (by decide), at_ 4 (by decide), at_ 5 (by decide)⟩, frozen_of_row w g _ _ _ hg, frozen_of_row w g _ _ _ hg⟩
theorem BA0.data {w wr : World} {b n cap g k : Nat} {ov pa bv : Value} {t : List Nd} {o : List Opd} {L : List NdV} {x : NdV} (d : Bytes) (h : BA0 w b (.slice (some ⟨g, 0, none⟩) n cap) ov pa bv t o L wr) (hx : L[k]? = some x) :
    BA0 w b (.slice (some ⟨g, 0, none⟩) n cap) ov pa bv (t.modify k fun m => { m with data := d }) o (L.set k ({ x.1 with data := d }, x.2)) (wr.setCell ⟨g, k * 6 + 3, none⟩ (.string ⟨d.toArray⟩)) ∧ Keeps wr (wr.setCell ⟨g, k * 6 + 3, none⟩ (.string ⟨d.toArray⟩)) ∧ Keeps3 b (.slice (some ⟨g, 0, none⟩) n cap) wr (wr.setCell ⟨g, k * 6 + 3, none⟩ (.string ⟨d.toArray⟩)) := by
  obtain ⟨g', cur, e, hg, hbg, _⟩ := tree_cells h.tree hx
  cases e
  refine ⟨⟨h.below.setCell hbg _, h.le, ?_, h.tree.data d hx, ?_, own_other h.opens hg (by decide) (grown_set _ _ _ _)⟩, Keeps.set hg (.inr rfl) _, Keeps3.set (.inr rfl)⟩
  · rw [heap_setCell_other _ _ _ _ (by
      show b ≠ g
      intro e
      subst e
      rw [h.blk] at hg
      simp only [Option.some.injEq, Obj.cells.injEq] at hg
      exact absurd hg.2.1 (by decide))]
    exact h.blk
  · rw [List.map_set, ← h.spec]
    apply List.ext_getElem?
    intro i
    rw [List.getElem?_set, List.getElem?_modify]
    have hk := (List.getElem?_eq_some_iff.1 hx).1
    by_cases e : k = i
    · subst e
      rw [if_pos rfl, if_pos (by rw [List.length_map]; exact hk), List.getElem?_map, hx]
      simp
    · rw [if_neg e]
      simp [e]
/-- What endText leaves. -/
def ToldF (w : World) (b : Nat) (tv ov : Value) (s : BS) (W : World) (e : Ending) (w' : World) : Prop :=
  e = .returned (.tuple #[]) ∧ Keeps W w' ∧ Keeps3 b tv W w' ∧ ∃ pa bv L, BAt w b tv ov pa bv (flushL s) L w'

set_option maxRecDepth 100000 in
set_option maxHeartbeats 4000000 in
theorem endText_any (w : World) (b : Nat) (tv ov pa bv : Value) (s : BS) (L : List NdV) (W : World) (hwf : 0 < s.t.length) (hfew : s.t.length ≤ 16384) (h : BAt w b tv ov pa bv s L W) :
    Calls Tryz.prog 36 #[.pointer (some ⟨b, 0, none⟩)] W (ToldF w b tv ov s W) := by
  obtain ⟨ao0, cap0, hbv⟩ := words_slice h.words
  subst hbv
  have hLl := h.len
  obtain ⟨⟨x0, x1, x2, x3⟩, y0, y1, y2, y3⟩ := local4 h.blk
  by_cases hw : s.ws = []
  · have HLn := Lib.hid (wlen_any b s.ws.length cap0 ao0 tv ov pa W h.blk)
    rw [hw] at HLn
    have hfl : flushL s = s := by unfold flushL; rw [if_pos hw]
    have HB := Lib.hid h
    unfold ToldF
    rw [hfl]
    clear h hw hLl hwf hfl
    go_enter Tryz.func36, Tryz.ntmps36
    go_big_wp2_with (go_at_call 65; refine HLn.out.mono ?_; rintro e w1 ⟨rfl, rfl⟩)
    go_end0
    exact ⟨rfl, Keeps.refl _, Keeps3.refl _ _ _, pa, _, L, HB.out⟩
  · have HLn := Lib.hid (wlen_any b s.ws.length cap0 ao0 tv ov pa W h.blk)
    obtain ⟨m, hm⟩ : ∃ m, s.ws.length = m := ⟨_, rfl⟩
    rw [hm] at HLn x3
    have hm0 : (0 : Int) < m := by have := List.length_pos_iff.2 hw; omega
    obtain ⟨k, hk⟩ : ∃ k, L.length = k + 1 := ⟨L.length - 1, by omega⟩
    obtain ⟨x, hx⟩ : ∃ x, L[k]? = some x := ⟨L[k]'(by omega), by simp [show k < L.length by omega]⟩
    obtain ⟨ao, cap, htv⟩ := sliceOf h.tree.row
    subst htv
    obtain ⟨g, cur, rfl, hg, hbg, ⟨c0, c1, c2, c3, c4, c5⟩, f3, f5⟩ := tree_cells h.tree hx
    rw [hk] at x0
    have hkI : ((k + 1 : Nat) : Int) - 1 = (k : Int) := by omega
    have hkw : IntKind.i64.wrap (k : Int) = (k : Int) := IntWalk.i64_in _ (by omega)
    have hkl : (k : Int) < (k : Int) + 1 := by omega
    have hk0 : (0 : Int) ≤ (k : Int) := by omega
    have HB := Lib.hid h
    have HS := Lib.hid fun W1 (hB1 : BAt w b (.slice (some ⟨g, 0, none⟩) L.length cap) ov pa (.slice ao0 s.ws.length cap0) s L W1) => wstring_any w b _ ov pa _ s L W1 hw hB1
    have HBd := Lib.hid (h.on (w' := W.drew) (Below.refl _ _).drew)
    rw [hk, hm] at HS HBd
    have HX := Lib.hid hx
    have hfl : flushL s = ⟨s.t.modify k fun m => { m with data := s.ws }, s.o, []⟩ := by
      unfold flushL
      rw [if_neg hw, show s.t.length - 1 = k by rw [← hLl, hk]; rfl]
    obtain ⟨d, hd⟩ : ∃ d : ByteArray, (⟨s.ws.toArray⟩ : ByteArray) = d := ⟨_, rfl⟩
    unfold ToldS at HS
    rw [hd] at HS
    have HDt := Lib.hid fun W1 (hB1 : BA0 w b (.slice (some ⟨g, 0, none⟩) (k + 1) cap) ov pa (.slice ao0 m cap0) s.t s.o L W1) => hB1.data s.ws HX.out
    rw [hd] at HDt
    unfold ToldF
    rw [hfl, hk]
    clear h hw hLl hwf hfew hfl hk hm hx hd hg
    go_enter Tryz.func36, Tryz.ntmps36
    go_big_wp2_with (go_at_call 65; refine HLn.out.mono ?_; rintro e w1 ⟨rfl, rfl⟩)
    go_region_law (go_simp; go_at_call 56; refine (HS.out _ HBd.out).mono ?_; rintro e w1 ⟨rfl, hB1, hk1⟩; obtain ⟨⟨p0, p1, p2, p3⟩, q0, q1, q2, q3⟩ := local4 hB1.blk; obtain ⟨g', cur', eg, hg1, hbg1, ⟨d0, d1, d2, d3, d4, d5⟩, j3, j5⟩ := tree_cells hB1.tree HX.out; cases eg; have HB1 := Lib.hid hB1; have HK1 := Lib.hid hk1; clear hB1 hk1 hg1)
    all_goals
      obtain ⟨hB2, hk2, hk3⟩ := HDt.out _ HB1.out
      have HB2 := Lib.hid hB2
      have HK2 := Lib.hid (HK1.out.keeps.trans hk2)
      have HK3 := Lib.hid (Keeps3.trans (Keeps3.ofU HK1.out) hk3)
      have HR := Lib.hid (wreset_any b _ ov pa _ _ hB2.blk)
      clear hB2 hk2 hk3
      go_big_wp2_with (go_at_call 66; refine HR.out.mono ?_; rintro e w3 ⟨rfl, rfl⟩)
      go_end0
      have hf := (HB2.out.set (i := 2) (v := .pointer none) (pa' := .pointer none) (bv' := .slice ao0 m cap0) rfl).set (i := 3) (v := .slice none 0 0) (pa' := .pointer none) (bv' := .slice none 0 0) rfl
      have hkk := (Keeps.set (i := 2) HB2.out.blk (.inl rfl) (.pointer none)).trans (Keeps.set (i := 3) (HB2.out.set (i := 2) (v := .pointer none) (pa' := .pointer none) (bv' := .slice ao0 m cap0) rfl).blk (.inl rfl) (.slice none 0 0))
      exact ⟨rfl, HK2.out.trans hkk, (HK3.out.trans (Keeps3.set (.inl rfl))).trans (Keeps3.set (.inl rfl)), .pointer none, .slice none 0 0, _, ⟨hf.below, hf.le, hf.blk, hf.tree, hf.spec, hf.opens, .inl ⟨rfl, rfl, rfl⟩⟩⟩
end Go.Proofs.YtnfkndaggcklkaaGreatDoor

