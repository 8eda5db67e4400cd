/-
  atText of the builder of package tree, by contract. Conditions: the builder's state is well-formed.
  text of the builder of package tree, by contract. Conditions: the builder's state is well-formed; the words are no more than 2^46 bytes.
  cloneAttrs of package tree, by contract. Conditions: the strings are no more than 2^46 bytes each, no more than 2^32 attributes.
  start of the builder of package tree, by contract. Conditions: the builder's state is well-formed; the strings are no more than 2^46 bytes each, no more than 2^32 attributes.
-/
import Derived.Test.YtnfkndaggcklkaaGreatDoorPA12
import Derived.Deep.RegionHeld3
namespace Go.Proofs.YtnfkndaggcklkaaGreatDoor
open Go.RowKit Go.RunKit Go.CharrefKit Go.Lib Go.TokenKit Go.TreeKit

set_option maxRecDepth 100000 in
set_option maxHeartbeats 4000000 in
theorem atText_any (w : World) (b : Nat) (tv ov pa bv : Value) (s : BS) (L : List NdV) (W : World) (hwf : WF s) (h200 : s.o.length ≤ 65536) (h : BAt w b tv ov pa bv s L W) :
    Calls Tryz.prog 96 #[.pointer (some ⟨b, 0, none⟩)] W fun e w' => e = .returned (.bool (atTextL s)) ∧ Below W.heap.size W w' := by
  obtain ⟨aoo, capo, hov⟩ := sliceOf h.opens
  subst hov
  have hLl := h.len
  have hpos := hwf.pos
  have hfew := hwf.few
  obtain ⟨k, hk⟩ : ∃ k, L.length = k + 1 := ⟨L.length - 1, by omega⟩
  obtain ⟨x, hx⟩ : ∃ x, L[k]? = some x := ⟨L[k]'(by omega), by simp [show k < L.length by omega]⟩
  obtain ⟨ao, cap, htv⟩ := sliceOf h.tree.row
  subst htv
  obtain ⟨g, cur, rfl, hg, hbg, ⟨c0, c1, c2, c3, c4, c5⟩, f3, f5⟩ := tree_cells h.tree hx
  obtain ⟨a2, n2, hv2⟩ := sliceOf (h.tree.attrs x (List.mem_of_getElem? hx))
  obtain ⟨a5, n5, hv5⟩ := sliceOf (h.tree.kids x (List.mem_of_getElem? hx))
  obtain ⟨m2, hm2⟩ : ∃ m2, x.1.attrs.length = m2 := ⟨_, rfl⟩
  obtain ⟨m5, hm5⟩ : ∃ m5, x.1.kids.length = m5 := ⟨_, rfl⟩
  rw [hv2, hm2] at c2
  rw [hv5, hm5] at c5
  have hlast : s.t.getLast? = some x.1 := by
    rw [← h.spec, List.getLast?_map, List.getLast?_eq_getElem?, hk, Nat.add_sub_cancel, hx]; rfl
  obtain ⟨⟨x0, x1, x2, x3⟩, y0, y1, y2, y3⟩ := local4 h.blk
  cases hso : s.o with
  | nil => exact absurd hso hwf.ne
  | cons o r =>
    have hat : atTextL s = (x.1.kind == 2 && x.1.up == ((o.node : Nat) : Int)) := by
      unfold atTextL; rw [hlast, hso]; rfl
    rw [hat]
    obtain ⟨no, hno⟩ : ∃ no, s.o.length = no := ⟨_, rfl⟩
    rw [hno] at x1
    have hol : no = r.length + 1 := by rw [← hno, hso]; rfl
    have HT := Lib.hid fun W1 (hb : Below W.heap.size W W1) => top_any aoo capo no w.heap.size o r W1 hol (by omega) (by have := own_on h.opens hb; rw [hno, hso] at this; exact this)
    rw [hk] at x0
    have hkI : ((k + 1 : Nat) : Int) - 1 = (k : Int) := by omega
    have hkw : IntKind.i64.wrap (k : Int) = (k : Int) := IntWalk.i64_in _ (by omega)
    have hkl : (k : Int) < (k : Int) + 1 := by omega
    have hk0 : (0 : Int) ≤ (k : Int) := by omega
    have hf := field0 ((o.node : Nat) : Int) ⟨o.name.toArray⟩ ((o.kind : Nat) : Int)
    obtain ⟨kd, hkd⟩ : ∃ kd, x.1.kind = kd := ⟨_, rfl⟩
    obtain ⟨up, hup⟩ : ∃ up, x.1.up = up := ⟨_, rfl⟩
    rw [hkd] at c0 ⊢
    rw [hup] at c4 ⊢
    have hgl := World.block_lt_of_cell? _ _ c0
    have hbl := World.block_lt_of_cell? _ _ x0
    have hn1 : ¬ W.heap.size = b := by have : b < W.heap.size := hbl; omega
    have hn2 : ¬ W.heap.size = g := by have : g < W.heap.size := hgl; omega
    by_cases h2 : kd = 2
    · subst h2
      rw [show ((2 : Nat) == 2 && up == ((o.node : Nat) : Int)) = decide (up = ((o.node : Nat) : Int)) by rw [Bool.eq_iff_iff]; simp]
      clear h hwf h200 hat hlast hso hno hol hkd hup hm2 hm5 hv2 hv5 hx hk hLl hpos hfew
      go_enter Tryz.func96, Tryz.ntmps96
      go_big_wp2
      go_region_held3 (fun w' => w'.cell? ⟨b, 0, none⟩ = some (.slice (some ⟨g, 0, none⟩) (k + 1) cap) ∧ w'.cell? ⟨g, k * 6, none⟩ = some (.int .u8 ((2 : Nat) : Int)) ∧ w'.cell? ⟨g, k * 6 + 1, none⟩ = some (.string ⟨x.1.name.toArray⟩) ∧ w'.cell? ⟨g, k * 6 + 2, none⟩ = some (.slice a2 m2 n2) ∧ w'.cell? ⟨g, k * 6 + 3, none⟩ = some (.string ⟨x.1.data.toArray⟩) ∧ w'.cell? ⟨g, k * 6 + 4, none⟩ = some (.int .i64 up) ∧ w'.cell? ⟨g, k * 6 + 5, none⟩ = some (.slice a5 m5 n5))
        (first | exact ⟨x0, c0, c1, c2, c3, c4, c5⟩ | go_keep) (fail)
      have b1 : Below W.heap.size W (W.alloc (.cells #[.int .u8 ((2 : Nat) : Int), .string ⟨x.1.name.toArray⟩, .slice a2 m2 n2, .string ⟨x.1.data.toArray⟩, .int .i64 up, .slice a5 m5 n5] TNd)).drew := ((Below.refl _ _).alloc (Nat.le_refl _) _).drew
      have hnew : (W.alloc (.cells #[.int .u8 ((2 : Nat) : Int), .string ⟨x.1.name.toArray⟩, .slice a2 m2 n2, .string ⟨x.1.data.toArray⟩, .int .i64 up, .slice a5 m5 n5] TNd)).drew.heap[W.heap.size]? = some (.cells #[.int .u8 ((2 : Nat) : Int), .string ⟨x.1.name.toArray⟩, .slice a2 m2 n2, .string ⟨x.1.data.toArray⟩, .int .i64 up, .slice a5 m5 n5] TNd (0, 0)) := heap_alloc_new W _
      obtain ⟨⟨z0, z1, z2, z3, z4, z5⟩, zf⟩ := local6 hnew
      have x1n := (b1.cell (p := ⟨b, 1, none⟩) hbl).trans x1
      have HB1 := Lib.hid b1
      have HNew := Lib.hid hnew
      clear x0 x1 x2 x3 y0 y1 y2 y3 c0 c1 c2 c3 c4 c5 f3 f5 hn1 hn2 hg b1 hnew
      generalize (W.alloc (.cells #[.int .u8 ((2 : Nat) : Int), .string ⟨x.1.name.toArray⟩, .slice a2 m2 n2, .string ⟨x.1.data.toArray⟩, .int .i64 up, .slice a5 m5 n5] TNd)).drew = W1 at *
      obtain ⟨B, hB⟩ : ∃ B, W.heap.size = B := ⟨_, rfl⟩
      rw [hB] at z0 z1 z2 z3 z4 z5 zf ⊢
      have HHB := Lib.hid hB
      clear hB
      go_big_wp2
      go_region_law (go_simp; go_at_call 121; refine (HT.out _ HB1.out.drew).mono ?_; rintro e w2 ⟨rfl, hb2⟩; have v4 := (hb2.cell (p := ⟨B, 4, none⟩) (World.block_lt_of_cell? _ _ z4)).trans z4; have HB2 := Lib.hid hb2; clear hb2)
      all_goals
        go_big_wp2
        go_ret
        exact ⟨rfl, HB1.out.drew.trans (HB2.out.mono HB1.out.size)⟩
    · have h2I : (((kd : Nat) : Int) = 2) = False := eq_false (by omega)
      have h2D : decide (((kd : Nat) : Int) = 2) = false := decide_eq_false (by omega)
      have h2B : (((kd : Nat) : Int) == 2) = false := by rw [beq_eq_false_iff_ne]; omega
      rw [show (kd == 2) = false by simp [h2], Bool.false_and]
      clear h hwf h200 hat hlast hso hno hol hkd hup hm2 hm5 hv2 hv5 hx hk hLl hpos hfew HT
      go_enter Tryz.func96, Tryz.ntmps96
      go_big_wp2
      go_region_held3 (fun w' => w'.cell? ⟨b, 0, none⟩ = some (.slice (some ⟨g, 0, none⟩) (k + 1) cap) ∧ w'.cell? ⟨g, k * 6, none⟩ = some (.int .u8 ((kd : Nat) : Int)) ∧ w'.cell? ⟨g, k * 6 + 1, none⟩ = some (.string ⟨x.1.name.toArray⟩) ∧ w'.cell? ⟨g, k * 6 + 2, none⟩ = some (.slice a2 m2 n2) ∧ w'.cell? ⟨g, k * 6 + 3, none⟩ = some (.string ⟨x.1.data.toArray⟩) ∧ w'.cell? ⟨g, k * 6 + 4, none⟩ = some (.int .i64 up) ∧ w'.cell? ⟨g, k * 6 + 5, none⟩ = some (.slice a5 m5 n5))
        (first | exact ⟨x0, c0, c1, c2, c3, c4, c5⟩ | go_keep) (fail)
      have b1 : Below W.heap.size W (W.alloc (.cells #[.int .u8 ((kd : Nat) : Int), .string ⟨x.1.name.toArray⟩, .slice a2 m2 n2, .string ⟨x.1.data.toArray⟩, .int .i64 up, .slice a5 m5 n5] TNd)).drew := ((Below.refl _ _).alloc (Nat.le_refl _) _).drew
      have hnew : (W.alloc (.cells #[.int .u8 ((kd : Nat) : Int), .string ⟨x.1.name.toArray⟩, .slice a2 m2 n2, .string ⟨x.1.data.toArray⟩, .int .i64 up, .slice a5 m5 n5] TNd)).drew.heap[W.heap.size]? = some (.cells #[.int .u8 ((kd : Nat) : Int), .string ⟨x.1.name.toArray⟩, .slice a2 m2 n2, .string ⟨x.1.data.toArray⟩, .int .i64 up, .slice a5 m5 n5] TNd (0, 0)) := heap_alloc_new W _
      obtain ⟨⟨z0, z1, z2, z3, z4, z5⟩, zf⟩ := local6 hnew
      have x1n := (b1.cell (p := ⟨b, 1, none⟩) hbl).trans x1
      have HB1 := Lib.hid b1
      have HNew := Lib.hid hnew
      clear x0 x1 x2 x3 y0 y1 y2 y3 c0 c1 c2 c3 c4 c5 f3 f5 hn1 hn2 hg b1 hnew
      generalize (W.alloc (.cells #[.int .u8 ((kd : Nat) : Int), .string ⟨x.1.name.toArray⟩, .slice a2 m2 n2, .string ⟨x.1.data.toArray⟩, .int .i64 up, .slice a5 m5 n5] TNd)).drew = W1 at *
      obtain ⟨B, hB⟩ : ∃ B, W.heap.size = B := ⟨_, rfl⟩
      rw [hB] at z0 z1 z2 z3 z4 z5 zf ⊢
      have HHB := Lib.hid hB
      clear hB
      go_big_wp2
      go_quiet (fail)
      go_big_wp2
      go_ret
      exact ⟨rfl, below_drewN HB1.out _⟩
end Go.Proofs.YtnfkndaggcklkaaGreatDoor

namespace Go.Proofs.YtnfkndaggcklkaaGreatDoor
open Go.RowKit Go.RunKit Go.CharrefKit Go.Lib Go.TokenKit Go.TreeKit

set_option maxRecDepth 100000 in
set_option maxHeartbeats 4000000 in
theorem text_any (w : World) (b : Nat) (d : ByteArray) (tv ov pa bv : Value) (s : BS) (L : List NdV) (W : World) (hwf : WF s) (h200 : s.o.length ≤ 65536) (hlen : s.ws.length + d.size ≤ 70368744177664) (h : BAt w b tv ov pa bv s L W) :
    Calls Tryz.prog 63 #[.pointer (some ⟨b, 0, none⟩), .string d] W (ToldB (textL s (bl d)) w b W) := by
  obtain ⟨aoo, capo, hov⟩ := sliceOf h.opens
  subst hov
  by_cases hd : bl d = []
  · have hde : d = ⟨#[]⟩ := bl_eq (by rw [hd]; rfl)
    subst hde
    have ht : textL s (bl ⟨#[]⟩) = .ok s := by unfold textL; rw [if_pos hd]
    rw [ht]
    have HB := Lib.hid h
    clear h hwf h200 hlen hd ht
    go_enter Tryz.func63, Tryz.ntmps63
    go_big_wp2
    go_ret
    exact ⟨rfl, Keeps.refl _, _, _, _, _, _, _, HB.out⟩
  · have hq : d.toList.isEmpty = false := by rw [Lib.toList_data]; cases hc : bl d with | nil => exact absurd hc hd | cons a l => rw [show d.data.toList = a :: l from hc]; rfl
    have hq2 : ¬ d = ⟨#[]⟩ := fun e => hd (by rw [e]; rfl)
    have HA := Lib.hid (atText_any w b _ _ _ _ s L W hwf h200 h)
    cases hat : atTextL s with
    | true =>
      have ht : textL s (bl d) = .ok ⟨s.t, s.o, s.ws ++ bl d⟩ := by unfold textL; rw [if_neg hd, if_pos hat]
      rw [ht]
      rw [hat] at HA
      have HW := Lib.hid fun W1 (hb : Below W.heap.size W W1) => wwrite_any w b d _ _ _ _ s L W1 hd hlen (h.on hb)
      have HS := Lib.hid (show (⟨s.t, s.o, s.ws ++ bl d⟩ : BS).o.length = s.o.length from rfl)
      clear h hwf h200 hlen hd ht hat
      go_enter Tryz.func63, Tryz.ntmps63
      go_big_wp2_with (first
        | (go_at_call 96; refine HA.out.mono ?_; rintro e w1 ⟨rfl, hb1⟩; have HB1 := Lib.hid hb1; clear hb1)
        | (go_at_call 93; refine (HW.out _ HB1.out).mono ?_; rintro e w2 ⟨rfl, hk2, pa2, bv2, hB2⟩; have HK2 := Lib.hid ((Keeps.below HB1.out).trans hk2); have HB2 := Lib.hid hB2; clear hk2 hB2))
      go_ret
      exact ⟨rfl, HK2.out, _, _, _, _, _, _, HB2.out⟩
    | false =>
      rw [hat] at HA
      have hrow : ∀ W1 : World, AtRow W1 w.heap.size (.slice none 0 0) [] := fun W1 => World.ownsRow_nil _ _ _ _
      have HD := Lib.hid fun W1 (hb : Below W.heap.size W W1) => add_any w b 2 ⟨#[]⟩ none 0 0 [] _ _ _ _ s L W1 hwf h200 (hrow W1) (h.on hb)
      by_cases hbig : 16384 ≤ s.t.length
      · have ha : addL s textNd = .error 3 := by unfold addL; rw [if_pos hbig]
        have ht : textL s (bl d) = .error 3 := by unfold textL; rw [if_neg hd, if_neg (by rw [hat]; decide), ha]
        rw [ht]
        have ha2 : addL s ⟨2, bl ⟨#[]⟩, [], [], 0, []⟩ = .error 3 := ha
        rw [ha2] at HD
        clear h hwf h200 hlen hd ht hat ha ha2 hrow hbig
        go_enter Tryz.func63, Tryz.ntmps63
        go_big_wp2_with (first
          | (go_at_call 96; refine HA.out.mono ?_; rintro e w1 ⟨rfl, hb1⟩; have HB1 := Lib.hid hb1; clear hb1)
          | (go_at_call 97; refine (HD.out _ HB1.out).mono ?_; rintro e w2 ⟨rfl, hb2⟩; have HB2 := Lib.hid hb2; clear hb2))
        go_ret
        exact ⟨rfl, HB2.out⟩
      · obtain ⟨s2, ha⟩ : ∃ s2, addL s textNd = .ok s2 := ⟨_, by unfold addL; rw [if_neg hbig]⟩
        have ht : textL s (bl d) = .ok ⟨s2.t, s2.o, s2.ws ++ bl d⟩ := by unfold textL; rw [if_neg hd, if_neg (by rw [hat]; decide), ha]
        rw [ht]
        have hws : s2.ws = [] := by
          unfold addL at ha
          rw [if_neg hbig] at ha
          cases ha; rfl
        have ha2 : addL s ⟨2, bl ⟨#[]⟩, [], [], 0, []⟩ = .ok s2 := ha
        rw [ha2] at HD
        have HW := Lib.hid fun (tv2 : Value) (ao2 : Option Addr) (cap2 : Nat) (pa2 bv2 : Value) (L2 : List NdV) (W1 : World) (hB : BAt w b tv2 (.slice ao2 s2.o.length cap2) pa2 bv2 s2 L2 W1) => wwrite_any w b d _ _ _ _ s2 L2 W1 hd (by rw [hws]; simp only [List.length_nil]; omega) hB
        clear h hwf h200 hlen hd ht hat ha ha2 hrow hbig hws
        go_enter Tryz.func63, Tryz.ntmps63
        go_big_wp2_with (first
          | (go_at_call 96; refine HA.out.mono ?_; rintro e w1 ⟨rfl, hb1⟩; have HB1 := Lib.hid hb1; clear hb1)
          | (go_at_call 97; refine (HD.out _ HB1.out).mono ?_; rintro e w2 ⟨rfl, hk2, tv2, ao2, cap2, pa2, bv2, L2, hB2⟩; have HK2 := Lib.hid ((Keeps.below HB1.out).trans hk2); have HB2 := Lib.hid hB2; clear hk2 hB2)
          | (go_at_call 93; refine (HW.out _ _ _ _ _ _ _ HB2.out).mono ?_; rintro e w3 ⟨rfl, hk3, pa3, bv3, hB3⟩; have HK3 := Lib.hid (HK2.out.trans hk3); have HB3 := Lib.hid hB3; clear hk3 hB3))
        go_ret
        exact ⟨rfl, HK3.out, _, _, _, _, _, _, HB3.out⟩
end Go.Proofs.YtnfkndaggcklkaaGreatDoor

namespace Go.Proofs.YtnfkndaggcklkaaGreatDoor
open Go.RowKit Go.RunKit Go.CharrefKit Go.Lib Go.TokenKit Go.TreeKit

/-- What is held at the loop's head: k attributes cloned. -/
structure CloneAt (w : World) (l : List At) (k : Nat) (v : Value) (wr : World) : Prop where
  below : Below w.heap.size w wr
  row : AtRow wr w.heap.size v (l.take k)

set_option maxRecDepth 100000 in
set_option maxHeartbeats 4000000 in
theorem cloneAttrs_any (l : List At) (ao : Option Addr) (cap n : Nat) (w : World) (hn : l.length = n) (hn32 : n ≤ 4294967296) (hsz : ∀ a, a ∈ l → a.1.length ≤ 70368744177664 ∧ a.2.length ≤ 70368744177664) (h : AtReads w ao l) :
    Calls Tryz.prog 132 #[.slice ao n cap] w fun e w' => ∃ ao2 cap2, e = .returned (.slice ao2 n cap2) ∧ Below w.heap.size w w' ∧ AtRow w' w.heap.size (.slice ao2 n cap2) l := by
  have HR := Lib.hid h
  have HN := Lib.hid hn
  have HZ := Lib.hid hsz
  obtain ⟨i0, hi0, hz0, hz1, hz2⟩ := info_parts Tryz.infoAttr
  have T0 : Hid (CloneAt w l 0 (.slice none 0 0) w) := Lib.hid ⟨Below.refl _ _, World.ownsRow_nil _ _ _ _⟩
  clear h hn hsz
  go_enter Tryz.func132, Tryz.ntmps132
  go_big_wp2
  go_loopw [3, 8] (fun v i wr => ∃ (k : Nat) (ao2 : Option Addr) (cap2 : Nat), v = .slice ao2 k cap2 ∧ i = .int .i64 (k : Nat) ∧ k ≤ n ∧ Hid (CloneAt w l k (.slice ao2 k cap2) wr)) (fun _ i _ => n - (RowKit.intOf i).toNat)
  case atStart => exact ⟨0, none, 0, rfl, rfl, Nat.zero_le _, T0⟩
  case round =>
    clear T0
    obtain ⟨k, ao2, cap2, rfl, rfl, hkn, HT⟩ := hrel
    by_cases hlt : k < n
    · have hltI : (k : Int) < n := by omega
      have hk0 : (0 : Int) ≤ k := by omega
      obtain ⟨a, ha⟩ : ∃ a, l[k]? = some a := ⟨l[k]'(by rw [HN.out]; exact hlt), by simp [show k < l.length by rw [HN.out]; exact hlt]⟩
      obtain ⟨g, hg, c0, c1⟩ := (HR.out.on HT.out.below).at_ k a ha
      subst hg
      obtain ⟨hs1, hs2⟩ := HZ.out a (List.mem_of_getElem? ha)
      obtain ⟨an, han⟩ : ∃ an : ByteArray, (⟨a.1.toArray⟩ : ByteArray) = an := ⟨_, rfl⟩
      obtain ⟨av, hav⟩ : ∃ av : ByteArray, (⟨a.2.toArray⟩ : ByteArray) = av := ⟨_, rfl⟩
      rw [han] at c0
      rw [hav] at c1
      have HCn := Lib.hid fun W => clone_any an W (by rw [← han, ← bl_length, bl_of]; omega)
      have HCv := Lib.hid fun W => clone_any av W (by rw [← hav, ← bl_length, bl_of]; omega)
      have htk : l.take (k + 1) = l.take k ++ [(bl an, bl av)] := by
        rw [List.take_add_one, ha, ← han, ← hav, bl_of, bl_of]; rfl
      have HTk := Lib.hid htk
      have htl : (l.take k).length = k := by rw [List.length_take, HN.out]; omega
      have hrow := HT.out.row
      unfold AtRow at hrow
      rw [htl] at hrow
      have HRow := Lib.hid hrow
      clear han hav ha htk hrow hs1 hs2 htl
      go_big_wp2
      have b1 : Below wr.heap.size wr (wr.alloc (.cells #[.string an, .string av] TAt)) := (Below.refl _ _).alloc (Nat.le_refl _) _
      have hnew : (wr.alloc (.cells #[.string an, .string av] TAt)).heap[wr.heap.size]? = some (.cells #[.string an, .string av] TAt (0, 0)) := heap_alloc_new wr _
      have hps : wr.heap.size < (wr.alloc (.cells #[.string an, .string av] TAt)).heap.size := by simp
      have hpne : (Value.slice ao2 k cap2).ownBlock ≠ some wr.heap.size := fun e => by have := (World.ownsRow.lt HRow.out _ e).2; omega
      obtain ⟨z0, z1, _, _⟩ := local2 hnew
      have HB1 := Lib.hid b1
      have HNw := Lib.hid hnew
      have HNe := Lib.hid hpne
      have HPs := Lib.hid hps
      clear c0 c1 b1 hnew hps hpne
      generalize wr.alloc (.cells #[.string an, .string av] TAt) = W1 at *
      obtain ⟨p, hp⟩ : ∃ p, wr.heap.size = p := ⟨_, rfl⟩
      have HP := Lib.hid hp
      rw [hp] at z0 z1 HNw HNe HPs ⊢
      clear hp
      go_region_held3 (fun w' => w'.cell? ⟨p, 0, none⟩ = some (.string an) ∧ w'.cell? ⟨p, 1, none⟩ = some (.string av))
        (first | exact ⟨z0, z1⟩ | exact ⟨s0, s1⟩ | exact ⟨r0, r1⟩ | exact ⟨q0, q1⟩ | exact ⟨v0, v1⟩)
        (first
          | (go_at_call_of 131 (Value.string an); refine (HCn.out _).mono ?_; rintro e w3 ⟨rfl, hb3⟩; have hn3 := (hb3.block p HPs.out).trans HNw.out; obtain ⟨s0, s1, _, _⟩ := local2 hn3; have HN3 := Lib.hid hn3; have HB3 := Lib.hid hb3; clear hb3 hn3 HCn)
          | (go_at_call_of 131 (Value.string av); refine (HCv.out _).mono ?_; rintro e w4 ⟨rfl, hb4⟩; have hn4 := (hb4.block p (Array.getElem?_eq_some_iff.1 HN3.out).1).trans HN3.out; obtain ⟨r0, r1, _, _⟩ := local2 hn4; have hb5 : Below wr.heap.size wr (w4.alloc (.cells #[.string an, .string av] TAt)) := (HB1.out.drew.trans ((HB3.out.trans (hb4.mono HB3.out.size)).mono HB1.out.size)).alloc (Nat.le_trans HB1.out.size (Nat.le_trans HB3.out.size hb4.size)) _; have hn5 := (((Below.refl w4.heap.size w4).alloc (Nat.le_refl _) (.cells #[.string an, .string av] TAt)).block p (Array.getElem?_eq_some_iff.1 hn4).1).trans hn4; obtain ⟨q0, q1, _, _⟩ := local2 hn5; have HB5 := Lib.hid hb5; have HN5 := Lib.hid hn5; have HRow5 := Lib.hid (own_on HRow.out hb5); have HNews : Hid ((w4.alloc (.cells #[.string an, .string av] TAt)).heap[w4.heap.size]? = some (.cells #[.string an, .string av] TAt (0, 0))) := Lib.hid (heap_alloc_new w4 _); clear hb4 hn4 hb5 hn5 HCv)
          | (refine step_append_lies _ rfl _ _ 23 rfl w.heap.size 40 i0 _ 2 32 Tryz.underlying23 hi0 hz0 hz1 hz2 rfl (by decide) _ k (attrCells (l.take k)) rfl HRow5.out ⟨w4.heap.size, 0, none⟩ 1 1 [.string an, .string av] rfl rfl (World.news_of_block HNews.out) (fun u hu => by simp only [List.mem_cons, List.not_mem_nil, or_false] at hu; rcases hu with rfl | rfl <;> rfl) (by decide) (by unfold maxLen; omega) (by omega) (Nat.le_trans HT.out.below.size HB5.out.size) _ rfl ?_; intro gq qc W5 hown hgrow _ _; have hn6 := (hgrow.block p (Array.getElem?_eq_some_iff.1 HN5.out).1 (fun e => HNe.out e.symm)).trans HN5.out; obtain ⟨v0, v1, _, _⟩ := local2 hn6; have HOwn := Lib.hid hown; have HGr := Lib.hid hgrow; clear hown hgrow hn6))
      have hB6 : Below w.heap.size w W5 := (HT.out.below.trans (HB5.out.mono HT.out.below.size)).grown HGr.out (Nat.le_trans HT.out.below.size HB5.out.size) (fun q hq => (World.ownsRow.lt HRow5.out q hq).1)
      have hrow6 : AtRow W5 w.heap.size (.slice (some ⟨gq, 0, none⟩) (k + 1) qc) (l.take (k + 1)) := by
        have e := HOwn.out
        unfold AtRow
        rw [HTk.out, attrCells_snoc, List.length_append, List.length_take, HN.out, Nat.min_eq_left hkn]
        exact e
      have HF := Lib.hid (CloneAt.mk hB6 hrow6)
      clear hB6 hrow6
      go_big_wp2
      exact ⟨⟨k + 1, _, qc, rfl, by simp, by omega, HF⟩, by simp [RowKit.intOf]; omega⟩
    · have hltI : ¬ (k : Int) < n := by omega
      have hkn2 : k = n := by omega
      subst hkn2
      have hfin : AtRow wr w.heap.size (.slice ao2 k cap2) l := by
        have := HT.out.row
        rwa [List.take_of_length_le (by rw [HN.out]; exact Nat.le_refl _)] at this
      have HF := Lib.hid hfin
      clear hfin
      go_big_wp2
      go_ret
      exact ⟨ao2, cap2, rfl, HT.out.below, HF.out⟩
end Go.Proofs.YtnfkndaggcklkaaGreatDoor

namespace Go.Proofs.YtnfkndaggcklkaaGreatDoor
open Go.RowKit Go.RunKit Go.CharrefKit Go.Lib Go.TokenKit Go.TreeKit

theorem AtRow.lower {w : World} {base base2 : Nat} {v : Value} {l : List At} (h : AtRow w base v l) (hb : base2 ≤ base) : AtRow w base2 v l := by
  refine ⟨h.1, ?_⟩
  rcases h.2 with h2 | ⟨g, cap, cur, e, hg, rest⟩
  · exact .inl h2
  · exact .inr ⟨g, cap, cur, e, Nat.le_trans hb hg, rest⟩
set_option maxRecDepth 100000 in
set_option maxHeartbeats 4000000 in
/-- add where the tree is full. -/
theorem addFull_any (w : World) (b k nt capt : Nat) (nm : ByteArray) (ao2 aot : Option Addr) (m2 c2 : Nat) (ov pa bv : Value) (s : BS) (L : List NdV) (W : World) (hbig : 16384 ≤ nt) (h : BAt w b (.slice aot nt capt) ov pa bv s L W) :
    Calls Tryz.prog 97 #[.pointer (some ⟨b, 0, none⟩), .agg #[.int .u8 ((k : Nat) : Int), .string nm, .slice ao2 m2 c2, .string ⟨#[]⟩, .int .i64 0, .slice none 0 0]] W fun e w' => e = .returned (.int .i64 3) ∧ Below W.heap.size W w' := by
  have hI : (16384 : Int) ≤ nt := by omega
  have b1 : Below W.heap.size W (W.alloc (.cells #[.int .u8 ((k : Nat) : Int), .string nm, .slice ao2 m2 c2, .string ⟨#[]⟩, .int .i64 0, .slice none 0 0] TNd)) := (Below.refl _ _).alloc (Nat.le_refl _) _
  obtain ⟨⟨x0, x1, x2, x3⟩, y0, y1, y2, y3⟩ := local4 (h.on b1).blk
  have HB := Lib.hid b1
  clear h b1
  go_enter Tryz.func97, Tryz.ntmps97
  go_big_wp2
  go_ret
  exact ⟨rfl, HB.out⟩

set_option maxRecDepth 100000 in
set_option maxHeartbeats 8000000 in
theorem treeStart_any (w : World) (b tk kd n cap : Nat) (nm dt : ByteArray) (ao : Option Addr) (sf : Bool) (ats : List At) (tv ov pa bv : Value) (s : BS) (L : List NdV) (W : World) (hwf : WF s) (h200 : s.o.length ≤ 65536) (hk : kd ≤ 8) (hn : ats.length = n) (hn32 : n ≤ 4294967296)
    (hsz : ∀ a, a ∈ ats → a.1.length ≤ 70368744177664 ∧ a.2.length ≤ 70368744177664) (hnm : nm.size ≤ 70368744177664) (hats : ∀ W', Keeps W W' → AtReads W' ao ats) (h : BAt w b tv ov pa bv s L W) :
    Calls Tryz.prog 99 #[.pointer (some ⟨b, 0, none⟩), .agg #[.int .u8 ((tk : Nat) : Int), .string nm, .slice ao n cap, .bool sf, .string dt], .int .u8 ((kd : Nat) : Int)] W (ToldB (startL s ⟨tk, bl nm, ats, sf, bl dt⟩ kd) w b W) := by
  obtain ⟨aoo, capo, hov⟩ := sliceOf h.opens
  subst hov
  obtain ⟨aot, capt, htv⟩ := sliceOf h.tree.row
  subst htv
  obtain ⟨nt, hnt⟩ : ∃ nt, L.length = nt := ⟨_, rfl⟩
  rw [hnt] at h
  have hbW := (Array.getElem?_eq_some_iff.1 h.blk).1
  have HV := Lib.hid fun W1 => isVoid_any kd hk W1
  have b1 : Below W.heap.size W (W.alloc (.cells #[.int .u8 ((tk : Nat) : Int), .string nm, .slice ao n cap, .bool sf, .string dt] TTk)) := (Below.refl _ _).alloc (Nat.le_refl _) _
  have hnew : (W.alloc (.cells #[.int .u8 ((tk : Nat) : Int), .string nm, .slice ao n cap, .bool sf, .string dt] TTk)).heap[W.heap.size]? = some (.cells #[.int .u8 ((tk : Nat) : Int), .string nm, .slice ao n cap, .bool sf, .string dt] TTk (0, 0)) := heap_alloc_new W _
  obtain ⟨⟨z0, z1, z2, z3, z4⟩, _⟩ := local5 hnew
  by_cases hc1 : (sf && !voidK kd) = true
  · have ht : startL s ⟨tk, bl nm, ats, sf, bl dt⟩ kd = .error 51 := by unfold startL; rw [if_pos hc1]
    rw [ht]
    have HB1 := Lib.hid (h.below.trans (b1.mono h.below.size))
    rw [Bool.and_eq_true, Bool.not_eq_true'] at hc1
    obtain ⟨hsf, hvk⟩ := hc1
    subst hsf
    rw [hvk] at HV
    clear h hwf h200 hsz hnm hats ht b1 hnew hn hvk
    go_enter Tryz.func99, Tryz.ntmps99
    go_big_wp2_with (go_at_call 84; refine (HV.out _).mono ?_; rintro e w1 ⟨rfl, rfl⟩)
    go_ret
    exact ⟨rfl, HB1.out⟩
  · have hwf1 : WF ⟨s.t, closeAheadL kd s.o, s.ws⟩ := hwf.close (closeAhead_root hwf.root) closeAhead_sub
    have hle := closeAhead_le kd s.o
    obtain ⟨o1, ho1⟩ : ∃ o1, closeAheadL kd s.o = o1 := ⟨_, rfl⟩
    obtain ⟨n0, hn0⟩ : ∃ n0, s.o.length = n0 := ⟨_, rfl⟩
    obtain ⟨n1, hn1⟩ : ∃ n1, o1.length = n1 := ⟨_, rfl⟩
    have HC := Lib.hid fun W1 (hb : Below W.heap.size W W1) => closeAhead_any w b kd (.slice aot nt capt) pa bv s L W1 aoo capo n0 hk hwf.root hn0 (by omega) (by have := h.on hb; rwa [hn0] at this)
    rw [ho1, hn1] at HC
    rw [ho1] at hwf1
    rw [ho1, hn1, hn0] at hle
    have hn1s : n1 ≤ 65536 := by omega
    cases ho : o1 with
    | nil => exact absurd ho hwf1.ne
    | cons o' r' =>
    have hor : n1 = r'.length + 1 := by rw [← hn1, ho]; rfl
    have HT := Lib.hid fun W2 (hB : BAt w b (.slice aot nt capt) (.slice aoo n1 capo) pa bv ⟨s.t, o1, s.ws⟩ L W2) => takes_any aoo capo n1 w.heap.size kd o' r' W2 hk hor (by omega) (by have := hB.opens; rw [hn1, ho] at this; exact this)
    have HNew := Lib.hid hnew
    have HB1 := Lib.hid b1
    have hPb : W.heap.size ≠ b := by omega
    have HBel := Lib.hid h.below
    by_cases hc2 : takesL kd (o' :: r') = true
    · rw [hc2] at HT
      by_cases hc3 : 200 < n1
      · have ht : startL s ⟨tk, bl nm, ats, sf, bl dt⟩ kd = .error 52 := by
          unfold startL
          rw [if_neg hc1, ho1, ho, if_neg (by rw [hc2]; decide), if_pos (by rw [← ho, hn1]; exact hc3)]
        have hc3I : (200 : Int) < n1 := by omega
        rw [ht]
        have hsv : sf = false ∨ (sf = true ∧ voidK kd = true) := by cases sf <;> cases hv : voidK kd <;> simp_all
        clear h hwf h200 hsz hnm hats ht b1 hnew hn hc1 hc2 hc3 hwf1 hle ho1 hn0 hn1 ho hor hbW
        rcases hsv with rfl | ⟨rfl, hvk⟩
        all_goals (try rw [hvk] at HV)
        all_goals
          go_enter Tryz.func99, Tryz.ntmps99
          go_big_wp2_with (first
            | (go_at_call 84; refine (HV.out _).mono ?_; rintro e w1 ⟨rfl, rfl⟩)
            | (go_at_call 130; refine (HC.out _ HB1.out).mono ?_; rintro e w2 ⟨rfl, hB2, ho2⟩; have hp2 := ho2 _ _ HNew.out hPb; clear z0 z1 z2 z3 z4; obtain ⟨⟨z0, z1, z2, z3, z4⟩, _⟩ := local5 hp2; obtain ⟨⟨x0, x1, x2, x3⟩, y0, y1, y2, y3⟩ := local4 hB2.blk; have HB2 := Lib.hid hB2; clear hB2 ho2 hp2)
            | (go_at_call 83; refine (HT.out _ HB2.out).mono ?_; rintro e w3 ⟨rfl, hb3⟩; have hB3 := HB2.out.on hb3; clear x0 x1 x2 x3 y0 y1 y2 y3; obtain ⟨⟨x0, x1, x2, x3⟩, y0, y1, y2, y3⟩ := local4 hB3.blk; have HB3 := Lib.hid hB3; clear hb3 hB3))
          go_ret
          exact ⟨rfl, HB3.out.below⟩
      · have hc3I : ¬ (200 : Int) < n1 := by omega
        have hLl := h.len
        rw [hnt] at hLl
        have hst : startL s ⟨tk, bl nm, ats, sf, bl dt⟩ kd = (match addL ⟨s.t, o1, s.ws⟩ ⟨1, bl nm, ats, [], 0, []⟩ with
            | .error e => .error e
            | .ok s2 => .ok (if voidK kd then s2 else ⟨s2.t, ⟨nt, bl nm, kd⟩ :: s2.o, s2.ws⟩)) := by
          unfold startL
          rw [if_neg hc1, ho1, if_neg (by rw [ho, hc2]; decide), if_neg (by rw [hn1]; exact hc3), hLl]
          rfl
        have HCl := Lib.hid fun W1 => clone_any nm W1 (by omega)
        have HCa := Lib.hid fun W1 (hkk : Keeps W W1) => cloneAttrs_any ats ao cap n W1 hn hn32 hsz (hats W1 hkk)
        have HAdd := Lib.hid fun W1 ao2 c2 (hrow : AtRow W1 w.heap.size (.slice ao2 n c2) ats) (hB : BAt w b (.slice aot nt capt) (.slice aoo n1 capo) pa bv ⟨s.t, o1, s.ws⟩ L W1) => add_any w b 1 nm ao2 n c2 ats (.slice aot nt capt) (.slice aoo n1 capo) pa bv ⟨s.t, o1, s.ws⟩ L W1 hwf1 (by show o1.length ≤ 65536; omega) hrow hB
        have hBk : (W.alloc (.cells #[.int .u8 ((tk : Nat) : Int), .string nm, .slice ao n cap, .bool sf, .string dt] TTk)).heap[b]? = some (.cells #[.slice aot nt capt, .slice aoo n0 capo, pa, bv] TBd (0, 0)) := by
          have := (h.on b1).blk; rwa [hn0] at this
        have HBk := Lib.hid hBk
        have h3 : (sf = false ∧ voidK kd = false) ∨ (sf = false ∧ voidK kd = true) ∨ (sf = true ∧ voidK kd = true) := by cases sf <;> cases hv : voidK kd <;> simp_all
        by_cases hbig : 16384 ≤ nt
        · have ha : addL ⟨s.t, o1, s.ws⟩ ⟨1, bl nm, ats, [], 0, []⟩ = .error 3 := by unfold addL; rw [if_pos (by rw [← hLl]; exact hbig)]
          have ht : startL s ⟨tk, bl nm, ats, sf, bl dt⟩ kd = .error 3 := by rw [hst, ha]
          rw [ht]
          have HAdd := Lib.hid fun W1 ao2 c2 (hB : BAt w b (.slice aot nt capt) (.slice aoo n1 capo) pa bv ⟨s.t, o1, s.ws⟩ L W1) => addFull_any w b 1 nt capt nm ao2 aot n c2 (.slice aoo n1 capo) pa bv ⟨s.t, o1, s.ws⟩ L W1 hbig hB
          clear h hwf h200 hsz hnm hats b1 hnew hn hc1 hc2 hc3 hwf1 hle ho1 hn0 hn1 ho hor hbW hLl hBk hst ht ha hbig
          rcases h3 with ⟨rfl, hvk⟩ | ⟨rfl, hvk⟩ | ⟨rfl, hvk⟩
          all_goals (rw [hvk] at HV; clear hvk)
          all_goals
            go_enter Tryz.func99, Tryz.ntmps99
            go_big_wp2_with (first
              | (go_at_call 84; refine (HV.out _).mono ?_; rintro e w1 ⟨rfl, rfl⟩)
              | (go_at_call 130; refine (HC.out _ HB1.out).mono ?_; rintro e w2 ⟨rfl, hB2, ho2⟩; have hp2 := ho2 _ _ HNew.out hPb; clear z0 z1 z2 z3 z4; obtain ⟨⟨z0, z1, z2, z3, z4⟩, _⟩ := local5 hp2; obtain ⟨⟨x0, x1, x2, x3⟩, y0, y1, y2, y3⟩ := local4 hB2.blk; have HB2 := Lib.hid hB2; have HP2 := Lib.hid hp2; have HK2 := Lib.hid ((Keeps.below HB1.out).trans (ho2.keeps HBk.out)); clear hB2 ho2 hp2)
              | (go_at_call 83; refine (HT.out _ HB2.out).mono ?_; rintro e w3 ⟨rfl, hb3⟩; have hB3 := HB2.out.on hb3; clear x0 x1 x2 x3 y0 y1 y2 y3 z0 z1 z2 z3 z4; obtain ⟨⟨x0, x1, x2, x3⟩, y0, y1, y2, y3⟩ := local4 hB3.blk; have hp3 := (hb3.block _ (Array.getElem?_eq_some_iff.1 HP2.out).1).trans HP2.out; obtain ⟨⟨z0, z1, z2, z3, z4⟩, _⟩ := local5 hp3; have HB3 := Lib.hid hB3; have HP3 := Lib.hid hp3; have HK3 := Lib.hid (HK2.out.trans (Keeps.below hb3)); clear hb3 hB3 hp3))
            go_region_held3 (fun w' => w'.cell? ⟨W.heap.size, 1, none⟩ = some (.string nm) ∧ w'.cell? ⟨W.heap.size, 2, none⟩ = some (.slice ao n cap))
              (first | exact ⟨z1, z2⟩ | exact ⟨u1, u2⟩ | exact ⟨v1, v2⟩ | exact ⟨r1, r2⟩)
              (first
                | (go_at_call 131; refine (HCl.out _).mono ?_; rintro e w4 ⟨rfl, hb4⟩; have hd4 : Below w3.heap.size w3 w4 := ((Below.refl w3.heap.size w3).drew).trans hb4; have hp4 := (hd4.block _ (Array.getElem?_eq_some_iff.1 HP3.out).1).trans HP3.out; obtain ⟨⟨u0, u1, u2, u3, u4⟩, _⟩ := local5 hp4; have HP4 := Lib.hid hp4; have HB4 := Lib.hid (HB3.out.on hd4); have HK4 := Lib.hid (HK3.out.trans (Keeps.below hd4)); clear hb4 hd4 hp4)
                | (go_at_call 132; refine (HCa.out _ HK4.out).mono ?_; rintro e w5 ⟨ao2, cap2, rfl, hb5, hrow5⟩; have hp5 := (hb5.block _ (Array.getElem?_eq_some_iff.1 HP4.out).1).trans HP4.out; obtain ⟨⟨v0, v1, v2, v3, v4⟩, _⟩ := local5 hp5; have HP5 := Lib.hid hp5; have HB5 := Lib.hid (HB4.out.on hb5); have HK5 := Lib.hid (HK4.out.trans (Keeps.below hb5)); have HRow5 := Lib.hid (hrow5.lower HB4.out.below.size); clear hb5 hp5 hrow5)
                | (go_at_call 97; refine (HAdd.out _ _ _ HB5.out).mono ?_; rintro e w6 ⟨rfl, hb6⟩; have hp6 := (hb6.block _ (Array.getElem?_eq_some_iff.1 HP5.out).1).trans HP5.out; obtain ⟨⟨r0, r1, r2, r3, r4⟩, _⟩ := local5 hp6; have HB6 := Lib.hid (HB5.out.on hb6); clear hb6 hp6))
            go_big_wp2
            go_ret
            exact ⟨rfl, HB6.out.below⟩
        · obtain ⟨s2, ha⟩ : ∃ s2, addL ⟨s.t, o1, s.ws⟩ ⟨1, bl nm, ats, [], 0, []⟩ = .ok s2 := ⟨_, by unfold addL; rw [if_neg (by rw [← hLl]; exact hbig)]⟩
          have hs2o : s2.o.length = n1 := by
            have e := ha
            unfold addL at e
            rw [if_neg (by rw [← hLl]; exact hbig)] at e
            cases e
            exact hn1
          have ht : startL s ⟨tk, bl nm, ats, sf, bl dt⟩ kd = .ok (if voidK kd then s2 else ⟨s2.t, ⟨nt, bl nm, kd⟩ :: s2.o, s2.ws⟩) := by rw [hst, ha]
          rw [ht]
          rw [ha] at HAdd
          unfold ToldB at HAdd
          have HPush := Lib.hid fun (tv6 : Value) (ao6 : Option Addr) (cap6 : Nat) (pa6 bv6 : Value) (L6 : List NdV) (W6 : World) (hB : BAt w b tv6 (.slice ao6 s2.o.length cap6) pa6 bv6 s2 L6 W6) => push_any w b ao6 cap6 s2.o.length tv6 pa6 bv6 s2 nt kd nm L6 W6 rfl (by omega) hB
          clear h hwf h200 hsz hnm hats b1 hnew hn hc1 hc2 hc3 hwf1 hle ho1 hn0 hn1 ho hor hbW hLl hBk hst ht ha hbig hs2o
          rcases h3 with ⟨rfl, hvk⟩ | ⟨rfl, hvk⟩ | ⟨rfl, hvk⟩
          all_goals (rw [hvk] at HV ⊢; clear hvk)
          case inl =>
            go_enter Tryz.func99, Tryz.ntmps99
            go_big_wp2_with (first
              | (go_at_call 84; refine (HV.out _).mono ?_; rintro e w1 ⟨rfl, rfl⟩)
              | (go_at_call 130; refine (HC.out _ HB1.out).mono ?_; rintro e w2 ⟨rfl, hB2, ho2⟩; have hp2 := ho2 _ _ HNew.out hPb; clear z0 z1 z2 z3 z4; obtain ⟨⟨z0, z1, z2, z3, z4⟩, _⟩ := local5 hp2; obtain ⟨⟨x0, x1, x2, x3⟩, y0, y1, y2, y3⟩ := local4 hB2.blk; have HB2 := Lib.hid hB2; have HP2 := Lib.hid hp2; have HK2 := Lib.hid ((Keeps.below HB1.out).trans (ho2.keeps HBk.out)); clear hB2 ho2 hp2)
              | (go_at_call 83; refine (HT.out _ HB2.out).mono ?_; rintro e w3 ⟨rfl, hb3⟩; have hB3 := HB2.out.on hb3; clear x0 x1 x2 x3 y0 y1 y2 y3 z0 z1 z2 z3 z4; obtain ⟨⟨x0, x1, x2, x3⟩, y0, y1, y2, y3⟩ := local4 hB3.blk; have hp3 := (hb3.block _ (Array.getElem?_eq_some_iff.1 HP2.out).1).trans HP2.out; obtain ⟨⟨z0, z1, z2, z3, z4⟩, _⟩ := local5 hp3; have HB3 := Lib.hid hB3; have HP3 := Lib.hid hp3; have HK3 := Lib.hid (HK2.out.trans (Keeps.below hb3)); clear hb3 hB3 hp3))
            go_region_held3 (fun w' => w'.cell? ⟨W.heap.size, 1, none⟩ = some (.string nm) ∧ w'.cell? ⟨W.heap.size, 2, none⟩ = some (.slice ao n cap))
              (first | exact ⟨z1, z2⟩ | exact ⟨u1, u2⟩ | exact ⟨v1, v2⟩ | exact ⟨r1, r2⟩)
              (first
                | (go_at_call 131; refine (HCl.out _).mono ?_; rintro e w4 ⟨rfl, hb4⟩; have hd4 : Below w3.heap.size w3 w4 := ((Below.refl w3.heap.size w3).drew).trans hb4; have hp4 := (hd4.block _ (Array.getElem?_eq_some_iff.1 HP3.out).1).trans HP3.out; obtain ⟨⟨u0, u1, u2, u3, u4⟩, _⟩ := local5 hp4; have HP4 := Lib.hid hp4; have HB4 := Lib.hid (HB3.out.on hd4); have HK4 := Lib.hid (HK3.out.trans (Keeps.below hd4)); clear hb4 hd4 hp4)
                | (go_at_call 132; refine (HCa.out _ HK4.out).mono ?_; rintro e w5 ⟨ao2, cap2, rfl, hb5, hrow5⟩; have hp5 := (hb5.block _ (Array.getElem?_eq_some_iff.1 HP4.out).1).trans HP4.out; obtain ⟨⟨v0, v1, v2, v3, v4⟩, _⟩ := local5 hp5; have HP5 := Lib.hid hp5; have HB5 := Lib.hid (HB4.out.on hb5); have HK5 := Lib.hid (HK4.out.trans (Keeps.below hb5)); have HRow5 := Lib.hid (hrow5.lower HB4.out.below.size); clear hb5 hp5 hrow5)
                | (go_at_call 97; refine (HAdd.out _ _ _ HRow5.out HB5.out).mono ?_; rintro e w6 ⟨rfl, hk6, tv6, ao6, cap6, pa6, bv6, L6, hB6⟩; have hp6 := hk6 _ _ _ _ HP5.out (by decide) (by decide) (by decide) (by decide) (by decide); obtain ⟨⟨r0, r1, r2, r3, r4⟩, _⟩ := local5 hp6; obtain ⟨⟨m0, m1, m2, m3⟩, _⟩ := local4 hB6.blk; have HB6 := Lib.hid hB6; have HK6 := Lib.hid (HK5.out.trans hk6); clear hk6 hB6 hp6))
            go_big_wp2_with (first
              | (go_at_call 84; refine (HV.out _).mono ?_; rintro e w1 ⟨rfl, rfl⟩))
            go_region_law (go_simp; go_at_call 85; refine (HPush.out _ _ _ _ _ _ _ (HB6.out.on ((Below.refl w6.heap.size w6).drew))).mono ?_; rintro e w7 ⟨rfl, ⟨ao7, cap7, hB7⟩, hk7⟩; have HB7 := Lib.hid hB7; have HK7 := Lib.hid ((HK6.out.trans (Keeps.below ((Below.refl w6.heap.size w6).drew))).trans hk7); clear hB7 hk7)
            go_big_wp2
            go_ret
            exact ⟨rfl, HK7.out, _, ao7, cap7, _, _, _, HB7.out⟩
          all_goals
            go_enter Tryz.func99, Tryz.ntmps99
            go_big_wp2_with (first
              | (go_at_call 84; refine (HV.out _).mono ?_; rintro e w1 ⟨rfl, rfl⟩)
              | (go_at_call 130; refine (HC.out _ HB1.out).mono ?_; rintro e w2 ⟨rfl, hB2, ho2⟩; have hp2 := ho2 _ _ HNew.out hPb; clear z0 z1 z2 z3 z4; obtain ⟨⟨z0, z1, z2, z3, z4⟩, _⟩ := local5 hp2; obtain ⟨⟨x0, x1, x2, x3⟩, y0, y1, y2, y3⟩ := local4 hB2.blk; have HB2 := Lib.hid hB2; have HP2 := Lib.hid hp2; have HK2 := Lib.hid ((Keeps.below HB1.out).trans (ho2.keeps HBk.out)); clear hB2 ho2 hp2)
              | (go_at_call 83; refine (HT.out _ HB2.out).mono ?_; rintro e w3 ⟨rfl, hb3⟩; have hB3 := HB2.out.on hb3; clear x0 x1 x2 x3 y0 y1 y2 y3 z0 z1 z2 z3 z4; obtain ⟨⟨x0, x1, x2, x3⟩, y0, y1, y2, y3⟩ := local4 hB3.blk; have hp3 := (hb3.block _ (Array.getElem?_eq_some_iff.1 HP2.out).1).trans HP2.out; obtain ⟨⟨z0, z1, z2, z3, z4⟩, _⟩ := local5 hp3; have HB3 := Lib.hid hB3; have HP3 := Lib.hid hp3; have HK3 := Lib.hid (HK2.out.trans (Keeps.below hb3)); clear hb3 hB3 hp3))
            go_region_held3 (fun w' => w'.cell? ⟨W.heap.size, 1, none⟩ = some (.string nm) ∧ w'.cell? ⟨W.heap.size, 2, none⟩ = some (.slice ao n cap))
              (first | exact ⟨z1, z2⟩ | exact ⟨u1, u2⟩ | exact ⟨v1, v2⟩ | exact ⟨r1, r2⟩)
              (first
                | (go_at_call 131; refine (HCl.out _).mono ?_; rintro e w4 ⟨rfl, hb4⟩; have hd4 : Below w3.heap.size w3 w4 := ((Below.refl w3.heap.size w3).drew).trans hb4; have hp4 := (hd4.block _ (Array.getElem?_eq_some_iff.1 HP3.out).1).trans HP3.out; obtain ⟨⟨u0, u1, u2, u3, u4⟩, _⟩ := local5 hp4; have HP4 := Lib.hid hp4; have HB4 := Lib.hid (HB3.out.on hd4); have HK4 := Lib.hid (HK3.out.trans (Keeps.below hd4)); clear hb4 hd4 hp4)
                | (go_at_call 132; refine (HCa.out _ HK4.out).mono ?_; rintro e w5 ⟨ao2, cap2, rfl, hb5, hrow5⟩; have hp5 := (hb5.block _ (Array.getElem?_eq_some_iff.1 HP4.out).1).trans HP4.out; obtain ⟨⟨v0, v1, v2, v3, v4⟩, _⟩ := local5 hp5; have HP5 := Lib.hid hp5; have HB5 := Lib.hid (HB4.out.on hb5); have HK5 := Lib.hid (HK4.out.trans (Keeps.below hb5)); have HRow5 := Lib.hid (hrow5.lower HB4.out.below.size); clear hb5 hp5 hrow5)
                | (go_at_call 97; refine (HAdd.out _ _ _ HRow5.out HB5.out).mono ?_; rintro e w6 ⟨rfl, hk6, tv6, ao6, cap6, pa6, bv6, L6, hB6⟩; have hp6 := hk6 _ _ _ _ HP5.out (by decide) (by decide) (by decide) (by decide) (by decide); obtain ⟨⟨r0, r1, r2, r3, r4⟩, _⟩ := local5 hp6; obtain ⟨⟨m0, m1, m2, m3⟩, _⟩ := local4 hB6.blk; have HB6 := Lib.hid hB6; have HK6 := Lib.hid (HK5.out.trans hk6); clear hk6 hB6 hp6))
            go_big_wp2_with (first
              | (go_at_call 84; refine (HV.out _).mono ?_; rintro e w1 ⟨rfl, rfl⟩))
            go_ret
            exact ⟨rfl, HK6.out, _, _, _, _, _, _, HB6.out⟩
    · have hc2f : takesL kd (o' :: r') = false := by simpa using hc2
      rw [hc2f] at HT
      have ht : startL s ⟨tk, bl nm, ats, sf, bl dt⟩ kd = .error 51 := by
        unfold startL
        rw [if_neg hc1, ho1, ho, if_pos (by rw [hc2f]; decide)]
      rw [ht]
      have hsv : sf = false ∨ (sf = true ∧ voidK kd = true) := by cases sf <;> cases hv : voidK kd <;> simp_all
      clear h hwf h200 hsz hnm hats ht b1 hnew hn hc1 hc2 hc2f hwf1 hle ho1 hn0 hn1 ho hor hbW
      rcases hsv with rfl | ⟨rfl, hvk⟩
      all_goals (try rw [hvk] at HV)
      all_goals
        go_enter Tryz.func99, Tryz.ntmps99
        go_big_wp2_with (first
          | (go_at_call 84; refine (HV.out _).mono ?_; rintro e w1 ⟨rfl, rfl⟩)
          | (go_at_call 130; refine (HC.out _ HB1.out).mono ?_; rintro e w2 ⟨rfl, hB2, ho2⟩; have hp2 := ho2 _ _ HNew.out hPb; clear z0 z1 z2 z3 z4; obtain ⟨⟨z0, z1, z2, z3, z4⟩, _⟩ := local5 hp2; obtain ⟨⟨x0, x1, x2, x3⟩, y0, y1, y2, y3⟩ := local4 hB2.blk; have HB2 := Lib.hid hB2; clear hB2 ho2 hp2)
          | (go_at_call 83; refine (HT.out _ HB2.out).mono ?_; rintro e w3 ⟨rfl, hb3⟩; have hB3 := HB2.out.on hb3; clear x0 x1 x2 x3 y0 y1 y2 y3; obtain ⟨⟨x0, x1, x2, x3⟩, y0, y1, y2, y3⟩ := local4 hB3.blk; have HB3 := Lib.hid hB3; clear hb3 hB3))
        go_ret
        exact ⟨rfl, HB3.out.below⟩
end Go.Proofs.YtnfkndaggcklkaaGreatDoor

