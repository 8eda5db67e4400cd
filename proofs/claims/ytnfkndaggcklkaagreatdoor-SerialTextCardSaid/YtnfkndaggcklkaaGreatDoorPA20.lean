/-
  areKids, haveTheirKids of package tree: the children of a tree's nodes. Conditions: the tree has at most 16384 nodes.
  The stack of open nodes in a variable of its own: pop, push, downTo. No conditions.
  standRight of package tree: may each node stand where it does? Conditions: the tree has at most 16384 nodes; the library's two tables hold what its text lays.
  Right of package tree, by contract. Conditions: the library's two tables hold what its text lays.
-/
import Derived.Test.YtnfkndaggcklkaaGreatDoorPA17
import Derived.Test.YtnfkndaggcklkaaGreatDoorPA19
namespace Go.TreeKit
open Go Go.Lib Go.TokenKit
def noNI : NI := ⟨0, [], [], [], 0, []⟩
/-- Are these the children of node i, rising from the last one on, and no text behind one? -/
def kidsL (T : List NI) (i : Nat) : Nat → List Int → Bool
  | _, [] => true
  | last, k :: r =>
    if k ≤ (last : Int) then false
    else if (T.length : Int) ≤ k then false
    else if (T.getD k.toNat noNI).up = (i : Int) then
      (if (T.getD last noNI).kind = 2 ∧ (T.getD k.toNat noNI).kind = 2 then false else kidsL T i k.toNat r)
    else false
theorem kidsL_len {T : List NI} {i : Nat} : ∀ {l : List Int} {last : Nat}, last < T.length → kidsL T i last l = true → l.length + last + 1 ≤ T.length
  | [], last, h, _ => by simp; omega
  | k :: r, last, h, hk => by
    unfold kidsL at hk
    split at hk
    · cases hk
    · split at hk
      · cases hk
      · split at hk
        · split at hk
          · cases hk
          · have := kidsL_len (l := r) (last := k.toNat) (by omega) hk
            simp only [List.length_cons]
            omega
        · cases hk
/-- Do all nodes from i on have their children? How many there are. -/
def haveF (T : List NI) : Nat → Nat → Nat → Option Nat
  | 0, _, c => some c
  | f + 1, i, c => if kidsL T i i (T.getD i noNI).kids then haveF T f (i + 1) (c + (T.getD i noNI).kids.length) else none
def haveR (n : Nat) : Option Nat → Bool
  | some c => decide ((c : Int) = (n : Int) - 1)
  | none => false
def haveKidsB (T : List NI) : Bool := haveR T.length (haveF T T.length 0 0)
end Go.TreeKit
namespace Go.Proofs.YtnfkndaggcklkaaGreatDoor
open Go.RowKit Go.RunKit Go.CharrefKit Go.Lib Go.TokenKit Go.TreeKit

theorem node_at {T : List NI} {k : Nat} (h : k < T.length) : T[k]? = some (T.getD k noNI) := by
  rw [List.getD_eq_getElem?_getD, List.getElem?_eq_getElem h]
  rfl

set_option maxRecDepth 100000 in
set_option maxHeartbeats 4000000 in
theorem areKids_any (g o cap n i : Nat) (T : List NI) (w : World) (hn : n = T.length) (_hn2 : n ≤ 16384) (hi : i < n) (h : TreeIn w g o T) :
    Calls Tryz.prog 79 #[.slice (some ⟨g, o, none⟩) n cap, .int .i64 ((i : Nat) : Int)] w fun e w' => e = .returned (.bool (kidsL T i i (T.getD i noNI).kids)) ∧ w = w' := by
  have hx := h.at_ i _ (node_at (by omega))
  obtain ⟨ko, kcap, ck, hI, hlong⟩ := hx.kids
  have HI := Lib.hid hI
  have HT := Lib.hid h
  obtain ⟨ks, hks⟩ : ∃ ks, (T.getD i noNI).kids = ks := ⟨_, rfl⟩
  rw [hks] at ck HI hlong
  rw [hks]
  obtain ⟨ans, hans⟩ : ∃ a, kidsL T i i ks = a := ⟨_, rfl⟩
  rw [hans]
  have D0 : Hid (kidsL T i i (ks.drop 0) = ans) := Lib.hid hans
  clear hx hI h hks hans
  have hiI : (i : Int) < (n : Int) := by omega
  have hnH := Lib.hid hn
  clear hn
  obtain ⟨m, hm⟩ : ∃ m, ks.length = m := ⟨_, rfl⟩
  rw [hm] at ck hlong
  have hM := Lib.hid hm
  clear hm
  go_enter Tryz.func79, Tryz.ntmps79
  go_big_wp2
  go_loop [5, 15] (fun a b => ∃ (last j : Nat), a = .int .i64 ((last : Nat) : Int) ∧ b = .int .i64 ((j : Nat) : Int) ∧ last < n ∧ j ≤ m ∧ Hid (kidsL T i last (ks.drop j) = ans)) (fun _ b => m - (RowKit.intOf b).toNat)
  case atStart => exact ⟨i, 0, rfl, rfl, hi, Nat.zero_le _, D0⟩
  case round =>
    clear D0
    obtain ⟨last, j, rfl, rfl, hl, hj, HE⟩ := hrel
    by_cases hlt : j < m
    · have hltI : (j : Int) < (m : Int) := by omega
      obtain ⟨k, hk⟩ : ∃ k, ks[j]? = some k := ⟨_, List.getElem?_eq_getElem (by have := hM.out; omega)⟩
      have hd : ks.drop j = k :: ks.drop (j + 1) := by
        obtain ⟨h', e⟩ := List.getElem?_eq_some_iff.1 hk
        rw [List.drop_eq_getElem_cons h', e]
      rw [hd] at HE
      obtain ⟨gk, ok, hko, hck⟩ := HI.out.at_ j k hk
      subst hko
      clear hk hd
      unfold kidsL at HE
      by_cases h1 : k ≤ (last : Int)
      · rw [if_pos h1] at HE
        go_big_wp2
        go_ret
        exact ⟨ret1_eq (congrArg Value.bool HE.out), rfl⟩
      · have h1I := eq_false h1
        rw [if_neg h1] at HE
        by_cases h2 : (T.length : Int) ≤ k
        · have h2I : (n : Int) ≤ k := by have := hnH.out; omega
          rw [if_pos h2] at HE
          clear h2
          go_big_wp2
          go_ret
          exact ⟨ret1_eq (congrArg Value.bool HE.out), rfl⟩
        · obtain ⟨kn, rfl⟩ : ∃ kn : Nat, k = (kn : Int) := ⟨k.toNat, by omega⟩
          rw [if_neg h2] at HE
          have hkn : kn < n := by have := hnH.out; omega
          have h2I : ((n : Int) ≤ (kn : Int)) = False := eq_false (by omega)
          have h0I : (0 : Int) ≤ (kn : Int) := by omega
          have h3I : (kn : Int) < (n : Int) := by omega
          have hlI : (last : Int) < (n : Int) := by omega
          rw [Int.toNat_natCast] at HE
          have hy := HT.out.at_ kn _ (node_at (by have := hnH.out; omega))
          have hz := HT.out.at_ last _ (node_at (by have := hnH.out; omega))
          have cu := hy.up
          have cy := hy.kind
          have cz := hz.kind
          clear hy hz h2 h1
          by_cases h4 : (T.getD kn noNI).up = (i : Int)
          · rw [if_pos h4] at HE
            rw [h4] at cu
            clear h4
            obtain ⟨ky, hky⟩ : ∃ ky, (T.getD kn noNI).kind = ky := ⟨_, rfl⟩
            obtain ⟨kz, hkz⟩ : ∃ kz, (T.getD last noNI).kind = kz := ⟨_, rfl⟩
            rw [hky] at cy HE
            rw [hkz] at cz HE
            clear hky hkz
            by_cases h5 : kz = 2
            · subst h5
              by_cases h6 : ky = 2
              · subst h6
                rw [if_pos ⟨rfl, rfl⟩] at HE
                go_big_wp2
                go_ret
                exact ⟨ret1_eq (congrArg Value.bool HE.out), rfl⟩
              · have h6I : (((ky : Nat) : Int) = 2) = False := eq_false (by omega)
                have h6B : (((ky : Nat) : Int) == 2) = false := by rw [beq_eq_false_iff_ne]; omega
                rw [if_neg (fun e => h6 e.2)] at HE
                clear h6
                go_big_wp2
                exact ⟨⟨kn, j + 1, rfl, by go_num, hkn, by omega, HE⟩, by simp [RowKit.intOf]; omega⟩
            · have h5I : (((kz : Nat) : Int) = 2) = False := eq_false (by omega)
              have h5B : (((kz : Nat) : Int) == 2) = false := by rw [beq_eq_false_iff_ne]; omega
              rw [if_neg (fun e => h5 e.1)] at HE
              clear h5
              go_big_wp2
              exact ⟨⟨kn, j + 1, rfl, by go_num, hkn, by omega, HE⟩, by simp [RowKit.intOf]; omega⟩
          · rw [if_neg h4] at HE
            have h4I := eq_false h4
            have h4B : ((T.getD kn noNI).up != (i : Int)) = true := bne_iff_ne.2 h4
            obtain ⟨u, hu⟩ : ∃ u, (T.getD kn noNI).up = u := ⟨_, rfl⟩
            rw [hu] at cu h4I h4B
            clear h4 hu
            go_big_wp2
            go_ret
            exact ⟨ret1_eq (congrArg Value.bool HE.out), rfl⟩
    · obtain rfl : j = m := by omega
      have hd : ks.drop j = [] := List.drop_eq_nil_of_le (by have := hM.out; omega)
      rw [hd] at HE
      have hltI : ((j : Int) < (j : Int)) = False := eq_false (by omega)
      clear hd
      go_big_wp2
      go_ret
      exact ⟨ret1_eq (congrArg Value.bool HE.out), rfl⟩

set_option maxRecDepth 100000 in
set_option maxHeartbeats 4000000 in
theorem haveKids_any (g o cap n : Nat) (T : List NI) (w : World) (hn : n = T.length) (hn2 : n ≤ 16384) (h : TreeIn w g o T) :
    Calls Tryz.prog 46 #[.slice (some ⟨g, o, none⟩) n cap] w fun e w' => e = .returned (.bool (haveKidsB T)) ∧ w = w' := by
  have HA := Lib.hid fun (i : Nat) (hi : i < n) => areKids_any g o cap n i T w hn hn2 hi h
  have HT := Lib.hid h
  have hnH := Lib.hid hn
  obtain ⟨res, hres⟩ : ∃ r, haveF T T.length 0 0 = r := ⟨_, rfl⟩
  have D0 : Hid (haveF T n 0 0 = res) := Lib.hid (by rw [hn, hres])
  obtain ⟨ans, hans⟩ : ∃ a, haveKidsB T = a := ⟨_, rfl⟩
  have HAl : Hid (ans = haveR T.length res) := Lib.hid (by rw [← hans, ← hres]; rfl)
  rw [hans]
  clear hn h hres hans
  go_enter Tryz.func46, Tryz.ntmps46
  go_big_wp2
  go_loop [3, 7] (fun a b => ∃ (c j : Nat), a = .int .i64 ((c : Nat) : Int) ∧ b = .int .i64 ((j : Nat) : Int) ∧ j ≤ n ∧ c ≤ j * 16384 ∧ Hid (haveF T (n - j) j c = res)) (fun _ b => n - (RowKit.intOf b).toNat)
  case atStart => exact ⟨0, 0, rfl, rfl, Nat.zero_le _, by omega, D0⟩
  case round =>
    clear D0
    obtain ⟨c, j, rfl, rfl, hj, hc, HE⟩ := hrel
    by_cases hlt : j < n
    · have hltI : (j : Int) < (n : Int) := by omega
      obtain ⟨f, hf⟩ : ∃ f, n - j = f + 1 := ⟨n - j - 1, by omega⟩
      rw [hf] at HE
      unfold haveF at HE
      have hC := HA.out j hlt
      have hx := HT.out.at_ j _ (node_at (by have := hnH.out; omega))
      obtain ⟨ko, kcap, ck, _, _⟩ := hx.kids
      have hle : kidsL T j j (T.getD j noNI).kids = true → (T.getD j noNI).kids.length ≤ 16384 := fun hk => by
        have := kidsL_len (by have := hnH.out; omega) hk
        have := hnH.out
        omega
      obtain ⟨ks, hks⟩ : ∃ ks, (T.getD j noNI).kids = ks := ⟨_, rfl⟩
      rw [hks] at hC ck hle HE
      clear hx hks
      cases hb : kidsL T j j ks with
      | false =>
        rw [hb] at hC HE
        rw [if_neg (by decide)] at HE
        have HC := Lib.hid hC
        clear hC hle
        have hans : ans = false := by rw [HAl.out, ← HE.out]; rfl
        have HAns := Lib.hid hans
        clear hans
        go_big_wp2_with (go_at_call 79; refine HC.out.mono ?_; rintro e w1 ⟨rfl, rfl⟩)
        go_ret
        exact ⟨ret1_eq (congrArg Value.bool HAns.out.symm), rfl⟩
      | true =>
        rw [hb] at hC HE
        rw [if_pos rfl] at HE
        have HC := Lib.hid hC
        have hle2 := hle hb
        obtain ⟨m, hm⟩ : ∃ m, ks.length = m := ⟨_, rfl⟩
        rw [hm] at ck hle2 HE
        clear hC hle hb hm
        have hsum : wrap64 ((c : Int) + (m : Int)) = ((c + m : Nat) : Int) := by rw [IntWalk.wrap64_in _ ⟨by omega, by omega⟩]; omega
        go_big_wp2_with (go_at_call 79; refine HC.out.mono ?_; rintro e w1 ⟨rfl, rfl⟩)
        exact ⟨⟨c + m, j + 1, by go_num, by go_num, by omega, by omega, by rw [show n - (j + 1) = f by omega]; exact HE⟩, by simp [RowKit.intOf]; omega⟩
    · obtain rfl : j = n := by omega
      rw [Nat.sub_self] at HE
      have hans : ans = decide ((c : Int) = (j : Int) - 1) := by rw [HAl.out, ← HE.out, hnH.out]; rfl
      have HAns := Lib.hid hans
      clear hans
      have hltI : ((j : Int) < (j : Int)) = False := eq_false (by omega)
      have hsub : wrap64 ((j : Int) - 1) = (j : Int) - 1 := IntWalk.wrap64_in _ ⟨by omega, by omega⟩
      by_cases he : (c : Int) = (j : Int) - 1
      · go_big_wp2
        go_ret
        refine ⟨ret1_eq (congrArg Value.bool ?_), rfl⟩
        rw [HAns.out]
        simp [he]
      · go_big_wp2
        go_ret
        refine ⟨ret1_eq (congrArg Value.bool ?_), rfl⟩
        rw [HAns.out]
        simp [he]
end Go.Proofs.YtnfkndaggcklkaaGreatDoor

namespace Go.TreeKit
open Go Go.Lib Go.TokenKit
/-- All above a node closed. -/
def downL (node : Int) : List Opd → List Opd
  | [] => []
  | o :: r => if (o.node : Int) = node then o :: r else downL node r
theorem downL_len (node : Int) : ∀ l : List Opd, (downL node l).length ≤ l.length
  | [] => Nat.le_refl _
  | o :: r => by
    unfold downL
    split
    · exact Nat.le_refl _
    · have := downL_len node r; simp only [List.length_cons]; omega
end Go.TreeKit
namespace Go.Proofs.YtnfkndaggcklkaaGreatDoor
open Go.RowKit Go.RunKit Go.CharrefKit Go.Lib Go.TokenKit Go.TreeKit

abbrev TSt : TypeId := 59
/-- The stack in a block of its own. -/
structure StAt (w0 : World) (b : Nat) (ao : Option Addr) (cap : Nat) (st : List Opd) (W : World) : Prop where
  below : Below w0.heap.size w0 W
  le : w0.heap.size ≤ b
  blk : W.heap[b]? = some (.cells #[.slice ao st.length cap] TSt (0, 0))
  opens : W.ownsRow w0.heap.size TOp 3 (.slice ao st.length cap) st.length (opCells st.reverse)
theorem StAt.on {w0 W W' : World} {b : Nat} {ao : Option Addr} {cap : Nat} {st : List Opd} (h : StAt w0 b ao cap st W) (hb : Below W.heap.size W W') : StAt w0 b ao cap st W' :=
  ⟨h.below.trans (hb.mono h.below.size), h.le, by rw [hb.block _ (Array.getElem?_eq_some_iff.1 h.blk).1]; exact h.blk, own_on h.opens hb⟩
theorem StAt.cell {w0 W : World} {b : Nat} {ao : Option Addr} {cap : Nat} {st : List Opd} (h : StAt w0 b ao cap st W) : W.cell? ⟨b, 0, none⟩ = some (.slice ao st.length cap) := by rw [cell_of_row _ _ 0 _ _ _ h.blk]; rfl
theorem StAt.frozen {w0 W : World} {b : Nat} {ao : Option Addr} {cap : Nat} {st : List Opd} (h : StAt w0 b ao cap st W) : W.frozen? ⟨b, 0, none⟩ = false := frozen_of_row _ _ _ _ _ h.blk
theorem StAt.set {w0 W : World} {b : Nat} {ao ao' : Option Addr} {cap cap' : Nat} {st st' : List Opd} (h : StAt w0 b ao cap st W) (ho : W.ownsRow w0.heap.size TOp 3 (.slice ao' st'.length cap') st'.length (opCells st'.reverse)) : StAt w0 b ao' cap' st' (W.setCell ⟨b, 0, none⟩ (.slice ao' st'.length cap')) :=
  ⟨h.below.setCell h.le _, h.le, by have := heap_setCell_same W b 0 _ _ (.slice ao' st'.length cap') h.blk; simpa using this, own_other ho h.blk (by decide) (grown_set _ _ _ _)⟩
theorem StAt.grew {w0 W W2 : World} {b : Nat} {ao ao' : Option Addr} {cap cap' : Nat} {st st' : List Opd} (h : StAt w0 b ao cap st W) (hg : W.grownBy W2 (Value.slice ao st.length cap).ownBlock) (ho : W2.ownsRow w0.heap.size TOp 3 (.slice ao' st'.length cap') st'.length (opCells st'.reverse)) : StAt w0 b ao' cap' st' (W2.setCell ⟨b, 0, none⟩ (.slice ao' st'.length cap')) := by
  have hblk : W2.heap[b]? = some (.cells #[.slice ao st.length cap] TSt (0, 0)) := (hg.block b (Array.getElem?_eq_some_iff.1 h.blk).1 (fun e => own_ne h.opens h.blk (by decide) e.symm)).trans h.blk
  have hb : Below w0.heap.size w0 W2 := h.below.grown hg h.below.size (fun k hk => (World.ownsRow.lt h.opens k hk).1)
  exact ⟨hb.setCell h.le _, h.le, by have := heap_setCell_same W2 b 0 _ _ (.slice ao' st'.length cap') hblk; simpa using this, own_other ho hblk (by decide) (grown_set _ _ _ _)⟩

theorem StAt.blkGrown {w0 W W2 : World} {b : Nat} {ao : Option Addr} {cap n : Nat} {st : List Opd} (h : StAt w0 b ao cap st W) (hn : st.length = n) (hg : W.grownBy W2 (Value.slice ao n cap).ownBlock) : W2.cell? ⟨b, 0, none⟩ = some (.slice ao n cap) ∧ W2.frozen? ⟨b, 0, none⟩ = false := by
  subst hn
  have hblk : W2.heap[b]? = some (.cells #[.slice ao st.length cap] TSt (0, 0)) := (hg.block b (Array.getElem?_eq_some_iff.1 h.blk).1 (fun e => own_ne h.opens h.blk (by decide) e.symm)).trans h.blk
  exact ⟨by rw [cell_of_row _ _ 0 _ _ _ hblk]; rfl, frozen_of_row _ _ _ _ _ hblk⟩

set_option maxRecDepth 100000 in
set_option maxHeartbeats 1000000 in
theorem pop1_any (w0 : World) (b : Nat) (ao : Option Addr) (cap n : Nat) (o : Opd) (r : List Opd) (W : World) (hn : (o :: r).length = n) (hn32 : n ≤ 4294967296) (h : StAt w0 b ao cap (o :: r) W) :
    Calls Tryz.prog 122 #[.pointer (some ⟨b, 0, none⟩)] W fun e w' => e = .returned (.tuple #[]) ∧ StAt w0 b ao cap r w' := by
  have hop := h.opens
  have hO : W.ownsRow w0.heap.size TOp 3 (.slice ao r.length cap) r.length (opCells r.reverse) := opens_pop (by simpa using hop)
  have HB := Lib.hid (h.set hO)
  have x0 := h.cell
  have y0 := h.frozen
  rw [List.length_cons] at hn hop x0
  subst hn
  have h0 : (0 : Int) ≤ ((r.length + 1 : Nat) : Int) - 1 := by omega
  have hI : ((r.length + 1 : Nat) : Int) ≤ 4294967296 := by omega
  have hI2 : ((r.length + 1 : Nat) : Int) - 1 = (r.length : Int) := by omega
  have hcap : (r.length : Int) ≤ (cap : Int) := by
    rcases hop.2 with ⟨_, h'⟩ | ⟨_, _, _, e, _, _, hc, _⟩
    · omega
    · cases e; omega
  have hw : IntKind.i64.wrap (r.length : Int) = (r.length : Int) := IntWalk.i64_in _ (by omega)
  clear h hop hO
  go_enter Tryz.func122, Tryz.ntmps122
  go_big_wp2
  go_region
  all_goals
    go_end0
    exact ⟨rfl, HB.out.on (Below.refl _ _).drew⟩

set_option maxRecDepth 100000 in
set_option maxHeartbeats 2000000 in
theorem push1_any (w0 : World) (b : Nat) (ao : Option Addr) (cap n : Nat) (st : List Opd) (nd k : Nat) (nm : ByteArray) (W : World) (hn : st.length = n) (hn32 : n ≤ 4294967296) (h : StAt w0 b ao cap st W) :
    Calls Tryz.prog 85 #[.pointer (some ⟨b, 0, none⟩), .agg #[.int .i64 ((nd : Nat) : Int), .string nm, .int .u8 ((k : Nat) : Int)]] W fun e w' => e = .returned (.tuple #[]) ∧ ∃ ao' cap', StAt w0 b ao' cap' (⟨nd, bl nm, k⟩ :: st) w' := by
  have b1 : Below W.heap.size W (W.alloc (.cells #[.int .i64 ((nd : Nat) : Int), .string nm, .int .u8 ((k : Nat) : Int)] TOp)) := (Below.refl _ _).alloc (Nat.le_refl _) _
  have h1 := h.on b1
  obtain ⟨W1, hW1⟩ : ∃ W1, W.alloc (.cells #[.int .i64 ((nd : Nat) : Int), .string nm, .int .u8 ((k : Nat) : Int)] TOp) = W1 := ⟨_, rfl⟩
  have hl := heap_alloc_new W (.cells #[.int .i64 ((nd : Nat) : Int), .string nm, .int .u8 ((k : Nat) : Int)] TOp)
  rw [hW1] at h1 hl
  obtain ⟨B, hB⟩ : ∃ B, W.heap.size = B := ⟨_, rfl⟩
  rw [hB] at hl
  have x0 := h1.cell
  have y0 := h1.frozen
  rw [hn] at x0
  have z0 : W1.cell? ⟨B, 0, none⟩ = some (.int .i64 ((nd : Nat) : Int)) := by rw [cell_of_row W1 B 0 _ _ _ hl]; rfl
  have z1 : W1.cell? ⟨B, 1, none⟩ = some (.string nm) := by rw [cell_of_row W1 B 1 _ _ _ hl]; rfl
  have z2 : W1.cell? ⟨B, 2, none⟩ = some (.int .u8 ((k : Nat) : Int)) := by rw [cell_of_row W1 B 2 _ _ _ hl]; rfl
  have HN := Lib.hid hn
  obtain ⟨i0, hi0, hz0, hz1, hz2⟩ := info_parts Tryz.infoOp
  have hG := h1.on (W' := (W1.alloc (.cells #[.int .i64 ((nd : Nat) : Int), .string nm, .int .u8 ((k : Nat) : Int)] TOp)).drew) ((Below.refl _ _).alloc (Nat.le_refl _) _).drew
  have HG := Lib.hid hG
  have hp := h1.on (W' := W1.alloc (.cells #[.int .i64 ((nd : Nat) : Int), .string nm, .int .u8 ((k : Nat) : Int)] TOp)) ((Below.refl _ _).alloc (Nat.le_refl _) _)
  have p0 := hp.cell
  have q0 := hp.frozen
  rw [hn] at p0
  have HNews : Hid ((W1.alloc (.cells #[.int .i64 ((nd : Nat) : Int), .string nm, .int .u8 ((k : Nat) : Int)] TOp)).drew.heap[W1.heap.size]? = some (.cells #[.int .i64 ((nd : Nat) : Int), .string nm, .int .u8 ((k : Nat) : Int)] TOp (0, 0))) := Lib.hid (heap_alloc_new W1 _)
  have H1c : Hid (∀ u ∈ [Value.int .i64 ((nd : Nat) : Int), Value.string nm, Value.int .u8 ((k : Nat) : Int)], u.oneCell' = true) := Lib.hid fun u hu => by simp only [List.mem_cons, List.not_mem_nil, or_false] at hu; rcases hu with rfl | rfl | rfl <;> rfl
  have HMx : Hid (n + 1 ≤ maxLen) := Lib.hid (by unfold maxLen; omega)
  have HOp := Lib.hid (show (W1.alloc (.cells #[.int .i64 ((nd : Nat) : Int), .string nm, .int .u8 ((k : Nat) : Int)] TOp)).drew.ownsRow w0.heap.size TOp 3 (.slice ao n cap) n (opCells st.reverse) from by have := hG.opens; rwa [hn] at this)
  have HFin : Hid (∀ (W2 : World) (v' : Value), (W1.alloc (.cells #[.int .i64 ((nd : Nat) : Int), .string nm, .int .u8 ((k : Nat) : Int)] TOp)).drew.grownBy W2 (Value.slice ao n cap).ownBlock → ∀ g cap', v' = .slice (some ⟨g, 0, none⟩) (n + 1) cap' → W2.ownsRow w0.heap.size TOp 3 v' (n + 1) (opCells st.reverse ++ opCell ⟨nd, bl nm, k⟩) → StAt w0 b (some ⟨g, 0, none⟩) cap' (⟨nd, bl nm, k⟩ :: st) (W2.setCell ⟨b, 0, none⟩ v')) := Lib.hid fun W2 v' hg g cap' hv ho => by
    subst hv
    have hlen : (⟨nd, bl nm, k⟩ :: st : List Opd).length = n + 1 := by rw [List.length_cons, hn]
    have := hG.grew (st' := ⟨nd, bl nm, k⟩ :: st) (ao' := some ⟨g, 0, none⟩) (cap' := cap') (by rw [hn]; exact hg) (by have := opens_push (o := ⟨nd, bl nm, k⟩) (l := st) ho (by rw [hn]); rwa [hlen] at this ⊢)
    rwa [hlen] at this
  clear h h1 b1 hl hG hp
  go_enter Tryz.func85, Tryz.ntmps85
  go_big_wp2
  go_region_law (refine step_append_lies _ rfl _ _ 59 rfl w0.heap.size 57 i0 _ 3 32 Tryz.underlying59 hi0 hz0 hz1 hz2 rfl (by decide) _ n (opCells st.reverse) rfl HOp.out ⟨W1.heap.size, 0, none⟩ 1 1 [.int .i64 ((nd : Nat) : Int), .string nm, .int .u8 ((k : Nat) : Int)] rfl rfl (World.news_of_block HNews.out) H1c.out (by decide) HMx.out (by omega) HG.out.below.size _ rfl ?_; intro g cap' W2 hown hgrow _ _; obtain ⟨u0, v0⟩ := HG.out.blkGrown HN.out hgrow; have HOwn := Lib.hid hown; have HGr := Lib.hid hgrow; clear hown hgrow)
  all_goals
    go_end0
    refine ⟨rfl, some ⟨g, 0, none⟩, cap', ?_⟩
    have ho := HOwn.out
    rw [show [Value.int .i64 ((nd : Nat) : Int), Value.string nm, Value.int .u8 ((k : Nat) : Int)] = opCell ⟨nd, bl nm, k⟩ from rfl] at ho
    exact HFin.out _ _ HGr.out g cap' rfl ho
def lenAt (b : Nat) (w : World) : Nat := match w.cell? ⟨b, 0, none⟩ with
  | some (.slice _ n _) => n
  | _ => 0
theorem StAt.lenAt {w0 W : World} {b : Nat} {ao : Option Addr} {cap : Nat} {st : List Opd} (h : StAt w0 b ao cap st W) : lenAt b W = st.length := by
  unfold Proofs.YtnfkndaggcklkaaGreatDoor.lenAt
  rw [h.cell]

set_option maxRecDepth 100000 in
set_option maxHeartbeats 4000000 in
theorem downTo_any (w0 : World) (b : Nat) (ao : Option Addr) (cap : Nat) (st : List Opd) (node : Int) (W : World) (hn32 : st.length ≤ 65536) (h : StAt w0 b ao cap st W) :
    Calls Tryz.prog 80 #[.pointer (some ⟨b, 0, none⟩), .int .i64 node] W fun e w' => e = .returned (.bool (!(downL node st).isEmpty)) ∧ StAt w0 b ao cap (downL node st) w' := by
  have H0 := Lib.hid h
  obtain ⟨st1, hst1⟩ : ∃ l, downL node st = l := ⟨_, rfl⟩
  rw [hst1]
  have HD := Lib.hid hst1
  clear h hst1
  go_enter Tryz.func80, Tryz.ntmps80
  go_big_wp2
  go_loopw [] (fun wr => ∃ l : List Opd, Hid (StAt w0 b ao cap l wr) ∧ l.length ≤ 65536 ∧ Hid (downL node l = st1)) (fun wr => lenAt b wr)
  case atStart => exact ⟨st, H0, hn32, HD⟩
  case round =>
    obtain ⟨l, HS, hl32, HC⟩ := hrel
    have x0 := HS.out.cell
    have hm0 := Lib.hid HS.out.lenAt
    cases hl : l with
    | nil =>
      rw [hl] at HS HC x0
      have hE : Hid (st1 = []) := Lib.hid (by rw [← HC.out]; rfl)
      simp only [List.length_nil] at x0
      clear hl
      go_big_wp2
      go_ret
      exact ⟨by rw [hE.out]; rfl, by rw [hE.out]; exact HS.out⟩
    | cons o r =>
      rw [hl] at HS HC x0 hl32 hm0
      obtain ⟨n, hn⟩ : ∃ n, (o :: r).length = n := ⟨_, rfl⟩
      rw [hn] at x0 hl32 hm0
      have hn1 : n = r.length + 1 := by rw [← hn]; rfl
      have hop := HS.out.opens
      rw [hn] at hop
      have HT := Lib.hid (top_any ao cap n w0.heap.size o r wr hn1 (by omega) hop)
      have HP := Lib.hid fun w1 (hb : Below wr.heap.size wr w1) => pop1_any w0 b ao cap n o r w1 hn (by omega) (HS.out.on hb)
      have hpos : (0 : Int) < (n : Int) := by omega
      obtain ⟨nm, hnm⟩ : ∃ nm : ByteArray, (⟨o.name.toArray⟩ : ByteArray) = nm := ⟨_, rfl⟩
      rw [hnm] at HT
      have hf := field0 ((o.node : Nat) : Int) nm ((o.kind : Nat) : Int)
      have hN := Lib.hid hn1
      obtain ⟨kd, hkd⟩ : ∃ kd, o.kind = kd := ⟨_, rfl⟩
      obtain ⟨nd, hnd⟩ : ∃ nd, o.node = nd := ⟨_, rfl⟩
      have hc := HC.out
      unfold downL at hc
      rw [hkd, hnd] at HT hf
      rw [hnd] at hc
      clear hop hnm hkd hnd hn1 HC hl
      by_cases he : (nd : Int) = node
      · rw [if_pos he] at hc
        subst he
        have HE := Lib.hid hc
        have HNn := Lib.hid hn
        clear hc hn
        go_big_wp2_with (go_at_call 121
                         go_loud (
                           refine HT.out.mono ?_
                           rintro e w1 ⟨rfl, hb1⟩
                           have HB1 := Lib.hid hb1
                           have x1 := (HS.out.on hb1).cell
                           rw [HNn.out] at x1
                           clear hb1))
        go_ret
        exact ⟨by rw [← HE.out]; rfl, by rw [← HE.out]; exact HS.out.on HB1.out⟩
      · rw [if_neg he] at hc
        have heI := eq_false he
        have heB : ((nd : Int) != node) = true := bne_iff_ne.2 he
        have HE := Lib.hid hc
        clear hc hn he
        go_big_wp2_with (first
          | (go_at_call 121; refine HT.out.mono ?_; rintro e w1 ⟨rfl, hb1⟩; have HB1 := Lib.hid hb1; clear hb1)
          | (go_at_call 122; refine (HP.out _ HB1.out).mono ?_; rintro e w3 ⟨rfl, hS3⟩; have HS3 := Lib.hid hS3; clear hS3))
        exact ⟨⟨r, HS3, by have := hN.out; omega, HE⟩, by rw [HS3.out.lenAt, hm0.out]; have := hN.out; omega⟩
end Go.Proofs.YtnfkndaggcklkaaGreatDoor

namespace Go.Proofs.YtnfkndaggcklkaaGreatDoor
open Go.RowKit Go.RunKit Go.CharrefKit Go.Lib Go.TokenKit Go.TreeKit

/-- May these nodes, the i-th and those behind it, stand where they do? -/
def standL (i : Nat) (st : List Opd) : List NI → Bool
  | [] => true
  | x :: r => match downL x.up st with
    | [] => false
    | o :: q =>
      if x.kind = 2 then (if isTextB x then standL (i + 1) (o :: q) r else false)
      else if x.kind = 1 then
        (if kindL x.name = 0 then false
        else if isElementB x then
          (if takesL (kindL x.name) (o :: q) then
            (if 200 < (o :: q).length then false else standL (i + 1) (if voidK (kindL x.name) then o :: q else ⟨i, x.name, kindL x.name⟩ :: o :: q) r)
          else false)
        else false)
      else false

def stackWorld (w : World) : World := w.alloc (.cells (madeCells #[.int .i64 0, .string ⟨#[]⟩, .int .u8 0] 603) TOp)
theorem stack_run (w : World) : (Instr.makeSlice 59 (.int .i64 1) (.int .i64 201)).run Tryz.prog w = .ok (.slice (some ⟨w.heap.size, 0, none⟩) 1 201) (stackWorld w) := by
  obtain ⟨i0, hi, hz0, hz1, hz2⟩ := info_parts Tryz.infoOp
  have := run_make (P := Tryz.prog) w 59 57 i0 _ Tryz.underlying59 hi hz0 .i64 .i64 1 201 (by omega) (by omega) (by rw [hz2]; omega) (by omega)
  rw [hz1] at this
  exact this
theorem madeTake : (madeCells #[.int .i64 0, .string ⟨#[]⟩, .int .u8 0] 603).toList.take 3 = [.int .i64 0, .string ⟨#[]⟩, .int .u8 0] := by kernel_rfl
theorem madeSize : (madeCells #[.int .i64 0, .string ⟨#[]⟩, .int .u8 0] 603).size = 603 := by kernel_rfl
theorem stack_start (w : World) : StAt w (stackWorld w).heap.size (some ⟨w.heap.size, 0, none⟩) 201 [⟨0, [], 0⟩] ((stackWorld w).alloc (.cells #[.slice (some ⟨w.heap.size, 0, none⟩) 1 201] TSt)) := by
  have hb : Below w.heap.size w (stackWorld w) := (Below.refl _ _).alloc (Nat.le_refl _) _
  have hg : (stackWorld w).heap[w.heap.size]? = some (.cells (madeCells #[.int .i64 0, .string ⟨#[]⟩, .int .u8 0] 603) TOp (0, 0)) := heap_alloc_new w _
  have ho : (stackWorld w).ownsRow w.heap.size TOp 3 (.slice (some ⟨w.heap.size, 0, none⟩) 1 201) 1 (opCells [⟨0, [], 0⟩]) :=
    ⟨rfl, .inr ⟨w.heap.size, 201, _, rfl, Nat.le_refl _, hg, by omega, by unfold maxLen; omega, by rw [madeSize], by rw [show 1 * 3 = 3 from rfl, madeTake]; rfl⟩⟩
  exact ⟨hb.alloc hb.size _, hb.size, heap_alloc_new _ _, own_on ho ((Below.refl _ _).alloc (Nat.le_refl _) _)⟩

set_option maxRecDepth 100000 in
set_option maxHeartbeats 8000000 in
theorem standRight_any (g o cap n : Nat) (T : List NI) (w : World) (hn : n = T.length) (h1 : 1 ≤ n) (hn2 : n ≤ 16384) (h : TreeIn w g o T) (hv : VTabs w) :
    Calls Tryz.prog 47 #[.slice (some ⟨g, o, none⟩) n cap] w fun e w' => e = .returned (.bool (standL 1 [⟨0, [], 0⟩] (T.drop 1))) ∧ Below w.heap.size w w' := by
  have HT := Lib.hid h
  have HV := Lib.hid hv
  have hnH := Lib.hid hn
  have hmk := fun W => stack_run W
  have H0 := Lib.hid (stack_start w)
  have D0 : Hid (standL 1 [⟨0, [], 0⟩] (T.drop 1) = standL 1 [⟨0, [], 0⟩] (T.drop 1)) := Lib.hid rfl
  obtain ⟨ans, hans⟩ : ∃ ans, standL 1 [⟨0, [], 0⟩] (T.drop 1) = ans := ⟨_, rfl⟩
  rw [hans]
  rw [hans] at D0
  have D1 : Hid (standL 1 [⟨0, [], 0⟩] (T.drop 1) = ans) := Lib.hid hans
  clear h hv hn hans D0
  go_enter Tryz.func47, Tryz.ntmps47
  go_big_wp2
  generalize (stackWorld w).heap.size = b at *
  generalize (stackWorld w).alloc (.cells #[.slice (some ⟨w.heap.size, 0, none⟩) 1 201] TSt) = W at *
  clear hmk
  go_loopw [4] (fun a wr => ∃ (i : Nat) (st : List Opd) (ao : Option Addr) (cp : Nat), a = .int .i64 ((i : Nat) : Int) ∧ 1 ≤ i ∧ i ≤ n ∧ st.length ≤ 201 ∧ Hid (StAt w b ao cp st wr) ∧ Hid (standL i st (T.drop i) = ans)) (fun a _ => n - (RowKit.intOf a).toNat)
  case atStart => exact ⟨1, [⟨0, [], 0⟩], _, _, rfl, Nat.le_refl _, h1, by decide, H0, D1⟩
  case round =>
    clear H0 D1
    obtain ⟨i, st, ao, cp, rfl, hi1, hi, hst, HS, HE⟩ := hrel
    by_cases hlt : i < n
    · have hltI : (i : Int) < (n : Int) := by omega
      have hit : i < T.length := by have := hnH.out; omega
      have hd : T.drop i = T.getD i noNI :: T.drop (i + 1) := by
        rw [List.drop_eq_getElem_cons hit, List.getD_eq_getElem?_getD, List.getElem?_eq_getElem hit]
        rfl
      rw [hd] at HE
      have HX := Lib.hid (HT.out.at_ i _ (node_at hit))
      obtain ⟨x, hx⟩ : ∃ x, T.getD i noNI = x := ⟨_, rfl⟩
      rw [hx] at HE HX
      obtain ⟨m, hm⟩ : ∃ m, o + i * 6 = m := ⟨_, rfl⟩
      rw [hm] at HX
      clear hd hx
      unfold standL at HE
      have cu := (HX.out.on HS.out.below).up
      have HD := Lib.hid (downTo_any w b ao cp st x.up wr (by omega) HS.out)
      have hdl := downL_len x.up st
      cases hdd : downL x.up st with
      | nil =>
        rw [hdd] at HE HD
        have HA : Hid (false = ans) := Lib.hid HE.out
        clear HE hdl hdd
        go_big_wp2_with (go_at_call 80; refine HD.out.mono ?_; rintro e w1 ⟨rfl, hs1⟩; have HS1 := Lib.hid hs1; clear hs1)
        go_ret
        exact ⟨ret1_eq (congrArg Value.bool HA.out), HS1.out.below⟩
      | cons p q =>
        rw [hdd] at HE HD hdl
        simp only at HE
        have hq : (p :: q).length ≤ 201 := Nat.le_trans hdl hst
        obtain ⟨k, hk⟩ : ∃ k, x.kind = k := ⟨_, rfl⟩
        rw [hk] at HE
        have HK := Lib.hid hk
        clear hdl hdd hk
        by_cases hk2 : k = 2
        · subst hk2
          rw [if_pos rfl] at HE
          have HTx := Lib.hid fun W1 (hb : Below w.heap.size w W1) => isText_any g m x W1 (HX.out.on hb) (HV.out.on hb)
          cases ht : isTextB x with
          | false =>
            rw [ht] at HE HTx
            have HA : Hid (false = ans) := Lib.hid HE.out
            clear HE ht
            go_big_wp2_with (first
              | (go_at_call 80
                 refine HD.out.mono ?_
                 rintro e w1 ⟨rfl, hs1⟩
                 have HS1 := Lib.hid hs1
                 have ck := (HX.out.on hs1.below).kind
                 rw [HK.out] at ck
                 clear hs1)
              | (go_at_call 81; refine (HTx.out _ HS1.out.below).mono ?_; rintro e w2 ⟨rfl, hb2⟩))
            go_ret
            exact ⟨ret1_eq (congrArg Value.bool HA.out), HS1.out.below.trans (hb2.mono HS1.out.below.size)⟩
          | true =>
            rw [ht] at HE HTx
            have HA : Hid (standL (i + 1) (p :: q) (T.drop (i + 1)) = ans) := Lib.hid HE.out
            clear HE ht
            go_big_wp2_with (first
              | (go_at_call 80
                 refine HD.out.mono ?_
                 rintro e w1 ⟨rfl, hs1⟩
                 have HS1 := Lib.hid hs1
                 have ck := (HX.out.on hs1.below).kind
                 rw [HK.out] at ck
                 clear hs1)
              | (go_at_call 81; refine (HTx.out _ HS1.out.below).mono ?_; rintro e w2 ⟨rfl, hb2⟩))
            exact ⟨⟨i + 1, p :: q, ao, cp, by go_num, by omega, by omega, hq, Lib.hid (HS1.out.on hb2), HA⟩, by simp [RowKit.intOf]; omega⟩
        · have hk2I : ¬ ((k : Nat) : Int) = 2 := by omega
          have hk2B : (((k : Nat) : Int) == 2) = false := by rw [beq_eq_false_iff_ne]; omega
          rw [if_neg hk2] at HE
          by_cases hk1 : k = 1
          · subst hk1
            rw [if_pos rfl] at HE
            obtain ⟨kd, hkd⟩ : ∃ kd, kindL x.name = kd := ⟨_, rfl⟩
            rw [hkd] at HE
            have hKd := fun W1 => kind_any ⟨x.name.toArray⟩ W1
            simp only [bl_of, hkd] at hKd
            have HKd := Lib.hid hKd
            have hkle := kind_le x.name
            rw [hkd] at hkle
            clear hKd hkd hk2
            by_cases hk0 : kd = 0
            · subst hk0
              rw [if_pos rfl] at HE
              have HA : Hid (false = ans) := Lib.hid HE.out
              clear HE
              go_big_wp2_with (first
                | (go_at_call 80
                   refine HD.out.mono ?_
                   rintro e w1 ⟨rfl, hs1⟩
                   have HS1 := Lib.hid hs1
                   have ck := (HX.out.on hs1.below).kind
                   have cn := (HX.out.on hs1.below).name
                   rw [HK.out] at ck
                   clear hs1)
                | (go_at_call 52; refine (HKd.out _).mono ?_; rintro e w2 ⟨rfl, rfl⟩))
              go_ret
              exact ⟨ret1_eq (congrArg Value.bool HA.out), HS1.out.below⟩
            · have hk0I : ¬ ((kd : Nat) : Int) = 0 := by omega
              have hk0B : (((kd : Nat) : Int) == 0) = false := by rw [beq_eq_false_iff_ne]; omega
              rw [if_neg hk0] at HE
              have HEl := Lib.hid fun W1 (hb : Below w.heap.size w W1) => isElement_any g m x W1 (HX.out.on hb) (HV.out.on hb)
              cases hel : isElementB x with
              | false =>
                rw [hel] at HE HEl
                have HA : Hid (false = ans) := Lib.hid HE.out
                clear HE hel
                go_big_wp2_with (first
                  | (go_at_call 80
                     refine HD.out.mono ?_
                     rintro e w1 ⟨rfl, hs1⟩
                     have HS1 := Lib.hid hs1
                     have ck := (HX.out.on hs1.below).kind
                     have cn := (HX.out.on hs1.below).name
                     rw [HK.out] at ck
                     clear hs1)
                  | (go_at_call 52; refine (HKd.out _).mono ?_; rintro e w2 ⟨rfl, rfl⟩)
                  | (go_at_call 82; refine (HEl.out _ HS1.out.below).mono ?_; rintro e w3 ⟨rfl, hb3⟩))
                go_ret
                exact ⟨ret1_eq (congrArg Value.bool HA.out), HS1.out.below.trans (hb3.mono HS1.out.below.size)⟩
              | true =>
                rw [hel, if_pos rfl] at HE
                rw [hel] at HEl
                obtain ⟨tk, htk⟩ : ∃ tk, takesL kd (p :: q) = tk := ⟨_, rfl⟩
                obtain ⟨sn, hsn⟩ : ∃ sn, (p :: q).length = sn := ⟨_, rfl⟩
                rw [htk, hsn] at HE
                have HTk := Lib.hid fun W1 (hs : StAt w b ao cp (p :: q) W1) => htk ▸ takes_any ao cp sn w.heap.size kd p q W1 hkle (by rw [← hsn]; rfl) (by omega) (by have := hs.opens; rwa [hsn] at this)
                have HSn := Lib.hid hsn
                clear htk hel
                cases tk with
                | false =>
                  rw [if_neg (by decide)] at HE
                  have HA : Hid (false = ans) := Lib.hid HE.out
                  clear HE hsn
                  go_big_wp2_with (first
                    | (go_at_call 80
                       refine HD.out.mono ?_
                       rintro e w1 ⟨rfl, hs1⟩
                       have HS1 := Lib.hid hs1
                       have ck := (HX.out.on hs1.below).kind
                       have cn := (HX.out.on hs1.below).name
                       rw [HK.out] at ck
                       clear hs1)
                    | (go_at_call 52; refine (HKd.out _).mono ?_; rintro e w2 ⟨rfl, rfl⟩)
                    | (go_at_call 82
                       refine (HEl.out _ HS1.out.below).mono ?_
                       rintro e w3 ⟨rfl, hb3⟩
                       have HS3 := Lib.hid (HS1.out.on hb3)
                       have d3 := HS3.out.cell
                       rw [HSn.out] at d3
                       clear hb3)
                    | (go_at_call 83; refine (HTk.out _ HS3.out).mono ?_; rintro e w4 ⟨rfl, hb4⟩))
                  go_ret
                  exact ⟨ret1_eq (congrArg Value.bool HA.out), HS3.out.below.trans (hb4.mono HS3.out.below.size)⟩
                | true =>
                  rw [if_pos rfl] at HE
                  by_cases h200 : 200 < sn
                  · rw [if_pos h200] at HE
                    have h200I : (200 : Int) < (sn : Int) := by omega
                    have HA : Hid (false = ans) := Lib.hid HE.out
                    clear HE hsn
                    go_big_wp2_with (first
                      | (go_at_call 80
                         refine HD.out.mono ?_
                         rintro e w1 ⟨rfl, hs1⟩
                         have HS1 := Lib.hid hs1
                         have ck := (HX.out.on hs1.below).kind
                         have cn := (HX.out.on hs1.below).name
                         rw [HK.out] at ck
                         clear hs1)
                      | (go_at_call 52; refine (HKd.out _).mono ?_; rintro e w2 ⟨rfl, rfl⟩)
                      | (go_at_call 82
                         refine (HEl.out _ HS1.out.below).mono ?_
                         rintro e w3 ⟨rfl, hb3⟩
                         have HS3 := Lib.hid (HS1.out.on hb3)
                         have d3 := HS3.out.cell
                         rw [HSn.out] at d3
                         clear hb3)
                      | (go_at_call 83
                         refine (HTk.out _ HS3.out).mono ?_
                         rintro e w4 ⟨rfl, hb4⟩
                         have HS4 := Lib.hid (HS3.out.on hb4)
                         have d4 := HS4.out.cell
                         rw [HSn.out] at d4
                         clear hb4))
                    go_ret
                    exact ⟨ret1_eq (congrArg Value.bool HA.out), HS4.out.below⟩
                  · rw [if_neg h200] at HE
                    have h200I : ¬ (200 : Int) < (sn : Int) := by omega
                    have HVd := Lib.hid fun W1 => isVoid_any kd hkle W1
                    have HPu := Lib.hid fun W1 (hs : StAt w b ao cp (p :: q) W1) => push1_any w b ao cp sn (p :: q) i kd ⟨x.name.toArray⟩ W1 hsn (by omega) hs
                    rw [bl_of x.name] at HPu
                    cases hvd : voidK kd with
                    | true =>
                      rw [hvd, if_pos rfl] at HE
                      rw [hvd] at HVd
                      have HA : Hid (standL (i + 1) (p :: q) (T.drop (i + 1)) = ans) := Lib.hid HE.out
                      clear HE hvd h200
                      go_big_wp2_with (first
                        | (go_at_call 80
                           refine HD.out.mono ?_
                           rintro e w1 ⟨rfl, hs1⟩
                           have HS1 := Lib.hid hs1
                           have ck := (HX.out.on hs1.below).kind
                           have cn := (HX.out.on hs1.below).name
                           rw [HK.out] at ck
                           clear hs1)
                        | (go_at_call 52; refine (HKd.out _).mono ?_; rintro e w2 ⟨rfl, rfl⟩)
                        | (go_at_call 82
                           refine (HEl.out _ HS1.out.below).mono ?_
                           rintro e w3 ⟨rfl, hb3⟩
                           have HS3 := Lib.hid (HS1.out.on hb3)
                           have d3 := HS3.out.cell
                           rw [HSn.out] at d3
                           clear hb3)
                        | (go_at_call 83
                           refine (HTk.out _ HS3.out).mono ?_
                           rintro e w4 ⟨rfl, hb4⟩
                           have HS4 := Lib.hid (HS3.out.on hb4)
                           have d4 := HS4.out.cell
                           rw [HSn.out] at d4
                           clear hb4)
                        | (go_at_call 84; refine (HVd.out _).mono ?_; rintro e w5 ⟨rfl, rfl⟩))
                      exact ⟨⟨i + 1, p :: q, ao, cp, by go_num, by omega, by omega, hq, HS4, HA⟩, by simp [RowKit.intOf]; omega⟩
                    | false =>
                      rw [hvd, if_neg (by decide)] at HE
                      rw [hvd] at HVd
                      have HA : Hid (standL (i + 1) (⟨i, x.name, kd⟩ :: p :: q) (T.drop (i + 1)) = ans) := Lib.hid HE.out
                      have hq2 : (⟨i, x.name, kd⟩ :: p :: q : List Opd).length ≤ 201 := by rw [List.length_cons, hsn]; omega
                      clear HE hvd h200
                      go_big_wp2_with (first
                        | (go_at_call 80
                           refine HD.out.mono ?_
                           rintro e w1 ⟨rfl, hs1⟩
                           have HS1 := Lib.hid hs1
                           have ck := (HX.out.on hs1.below).kind
                           have cn := (HX.out.on hs1.below).name
                           rw [HK.out] at ck
                           clear hs1)
                        | (go_at_call 52; refine (HKd.out _).mono ?_; rintro e w2 ⟨rfl, rfl⟩)
                        | (go_at_call 82
                           refine (HEl.out _ HS1.out.below).mono ?_
                           rintro e w3 ⟨rfl, hb3⟩
                           have HS3 := Lib.hid (HS1.out.on hb3)
                           have d3 := HS3.out.cell
                           rw [HSn.out] at d3
                           clear hb3)
                        | (go_at_call 83
                           refine (HTk.out _ HS3.out).mono ?_
                           rintro e w4 ⟨rfl, hb4⟩
                           have HS4 := Lib.hid (HS3.out.on hb4)
                           have d4 := HS4.out.cell
                           rw [HSn.out] at d4
                           have cn4 := (HX.out.on HS4.out.below).name
                           clear hb4)
                        | (go_at_call 84; refine (HVd.out _).mono ?_; rintro e w5 ⟨rfl, rfl⟩)
                        | (go_at_call 85; refine (HPu.out _ HS4.out).mono ?_; rintro e w6 ⟨rfl, ao6, cp6, hs6⟩; have HS6 := Lib.hid hs6; clear hs6))
                      exact ⟨⟨i + 1, _, ao6, cp6, by go_num, by omega, by omega, hq2, HS6, HA⟩, by simp [RowKit.intOf]; omega⟩
          · rw [if_neg hk1] at HE
            have hk1I : ¬ ((k : Nat) : Int) = 1 := by omega
            have hk1B : (((k : Nat) : Int) == 1) = false := by rw [beq_eq_false_iff_ne]; omega
            have HA : Hid (false = ans) := Lib.hid HE.out
            clear HE hk1 hk2
            go_big_wp2_with (go_at_call 80
                             refine HD.out.mono ?_
                             rintro e w1 ⟨rfl, hs1⟩
                             have HS1 := Lib.hid hs1
                             have ck := (HX.out.on hs1.below).kind
                             rw [HK.out] at ck
                             clear hs1)
            go_ret
            exact ⟨ret1_eq (congrArg Value.bool HA.out), HS1.out.below⟩
    · obtain rfl : i = n := by omega
      have hd : T.drop i = [] := List.drop_eq_nil_of_le (by have := hnH.out; omega)
      rw [hd] at HE
      have HA : Hid (true = ans) := Lib.hid HE.out
      have hltI : ((i : Int) < (i : Int)) = False := eq_false (by omega)
      clear hd HE
      go_big_wp2
      go_ret
      exact ⟨ret1_eq (congrArg Value.bool HA.out), HS.out.below⟩
end Go.Proofs.YtnfkndaggcklkaaGreatDoor

namespace Go.Proofs.YtnfkndaggcklkaaGreatDoor
open Go.RowKit Go.RunKit Go.CharrefKit Go.Lib Go.TokenKit Go.TreeKit

/-- P5.4, as the code asks it. -/
def rightB (T : List NI) : Bool := !T.isEmpty && decide (T.length ≤ 16384) && isRootB (T.getD 0 noNI) && haveKidsB T && standL 1 [⟨0, [], 0⟩] (T.drop 1)
def rightE (T : List NI) : Nat := if rightB T then 0 else 53

set_option maxRecDepth 100000 in
set_option maxHeartbeats 2000000 in
theorem right_any (g o cap n : Nat) (T : List NI) (w : World) (hn : n = T.length) (h1 : 1 ≤ n) (hbig : n ≤ 9223372036854775807) (h : TreeIn w g o T) (hv : VTabs w) :
    Calls Tryz.prog 19 #[.slice (some ⟨g, o, none⟩) n cap] w fun e w' => e = .returned (.int .i64 ((rightE T : Nat) : Int)) ∧ Below w.heap.size w w' := by
  have hne : T.isEmpty = false := by cases T with
    | nil => simp at hn; omega
    | cons x r => rfl
  have h0 : ((n : Int) = 0) = False := eq_false (by omega)
  have h0B : ((n : Int) == 0) = false := by rw [beq_eq_false_iff_ne]; omega
  by_cases hlim : 16384 < n
  · have hlI : (16384 : Int) < (n : Int) := by omega
    have hr : rightE T = 53 := by unfold rightE rightB; rw [hne, decide_eq_false (show ¬ T.length ≤ 16384 by omega)]; rfl
    rw [hr]
    clear hn h hv hne hr hlim
    go_enter Tryz.func19, Tryz.ntmps19
    go_big_wp2
    go_ret
    exact ⟨rfl, Below.refl _ _⟩
  · have hlI : ¬ (16384 : Int) < (n : Int) := by omega
    have hpos : (0 : Int) < (n : Int) := by omega
    have hR := isRoot_any g o (T.getD 0 noNI) w (by have := h.at_ 0 _ (node_at (by omega)); simpa using this)
    have hK := haveKids_any g o cap n T w hn (by omega) h
    have hS := standRight_any g o cap n T w hn h1 (by omega) h hv
    obtain ⟨r1, hr1⟩ : ∃ r, isRootB (T.getD 0 noNI) = r := ⟨_, rfl⟩
    obtain ⟨r2, hr2⟩ : ∃ r, haveKidsB T = r := ⟨_, rfl⟩
    obtain ⟨r3, hr3⟩ : ∃ r, standL 1 [⟨0, [], 0⟩] (T.drop 1) = r := ⟨_, rfl⟩
    have hr : rightE T = if r1 && r2 && r3 then 0 else 53 := by unfold rightE rightB; rw [hne, decide_eq_true (show T.length ≤ 16384 by omega), hr1, hr2, hr3]; rfl
    rw [hr]
    rw [hr1] at hR
    rw [hr2] at hK
    rw [hr3] at hS
    have HR := Lib.hid hR
    have HK := Lib.hid hK
    have HS := Lib.hid hS
    clear hR hK hS hr1 hr2 hr3 hr hn h hv hne hlim
    cases r1 with
    | false =>
      show Calls _ _ _ _ fun e w' => e = .returned (.int .i64 53) ∧ _
      go_enter Tryz.func19, Tryz.ntmps19
      go_big_wp2_with (go_at_call 45; refine HR.out.mono ?_; rintro e w1 ⟨rfl, rfl⟩)
      go_ret
      exact ⟨rfl, Below.refl _ _⟩
    | true =>
      cases r2 with
      | false =>
        show Calls _ _ _ _ fun e w' => e = .returned (.int .i64 53) ∧ _
        go_enter Tryz.func19, Tryz.ntmps19
        go_big_wp2_with (first
          | (go_at_call 45; refine HR.out.mono ?_; rintro e w1 ⟨rfl, rfl⟩)
          | (go_at_call 46; refine HK.out.mono ?_; rintro e w1 ⟨rfl, rfl⟩))
        go_ret
        exact ⟨rfl, Below.refl _ _⟩
      | true =>
        cases r3 with
        | false =>
          show Calls _ _ _ _ fun e w' => e = .returned (.int .i64 53) ∧ _
          go_enter Tryz.func19, Tryz.ntmps19
          go_big_wp2_with (first
            | (go_at_call 45; refine HR.out.mono ?_; rintro e w1 ⟨rfl, rfl⟩)
            | (go_at_call 46; refine HK.out.mono ?_; rintro e w1 ⟨rfl, rfl⟩)
            | (go_at_call 47; refine HS.out.mono ?_; rintro e w1 ⟨rfl, hb1⟩))
          go_ret
          exact ⟨rfl, hb1⟩
        | true =>
          show Calls _ _ _ _ fun e w' => e = .returned (.int .i64 0) ∧ _
          go_enter Tryz.func19, Tryz.ntmps19
          go_big_wp2_with (first
            | (go_at_call 45; refine HR.out.mono ?_; rintro e w1 ⟨rfl, rfl⟩)
            | (go_at_call 46; refine HK.out.mono ?_; rintro e w1 ⟨rfl, rfl⟩)
            | (go_at_call 47; refine HS.out.mono ?_; rintro e w1 ⟨rfl, hb1⟩))
          go_ret
          exact ⟨rfl, hb1⟩
end Go.Proofs.YtnfkndaggcklkaaGreatDoor

