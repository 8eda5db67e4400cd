/-
  The stack of package tree: top, pop, push, has, takes, closeAll, closeOne. No conditions.
-/
import Derived.Test.YtkfmfldkllkcbabDoorRMem
import Derived.Deep.AppendLies
import Derived.Deep.RegionLaw
import Derived.RegionTactic
import Derived.ChangeAlike
import Derived.BigRegion
import Derived.Sort.AtCall
namespace Go.Proofs.YtkfmfldkllkcbabDoor
open Go.RowKit Go.RunKit Go.CharrefKit Go.Lib Go.TokenKit Go.TreeKit

theorem results_cell1 {P : Program} {fn : Func} {p : Tmp} {ty : TypeId} (h : fn.results = #[.cell p ty]) (tmps : Array Value) (w : World) (g : Nat) (t : TypeId) (cs : Array Value) (fr : Nat × Nat) (d : TypeDesc)
    (hp : tmps.getD p undef = .pointer (some ⟨g, 0, none⟩)) (hg : w.heap[g]? = some (.cells cs t fr))
    (hu : P.underlying ty = some d) (hd : (match d with | .struct _ | .array _ _ => true | _ => false) = true) (hi : (P.info? ty).map (·.size) = some cs.size) :
    (results fn tmps).run P w = .ok (.agg cs) w := by
  have e : (results fn tmps).run P w = ((asAddr (tmps.getD p undef)).run P w).andThen fun a w₁ => (loadVar ty a).run P w₁ := by
    simp only [results, h]
    simp [Sem.run_bind, Result.andThen]
  rw [e, hp]
  simp [asAddr, run_loadVar_row w g t ty cs fr d hg hu hd hi, Result.andThen]

set_option maxRecDepth 100000 in
set_option maxHeartbeats 1000000 in
theorem top_any (ao : Option Addr) (cap n base : Nat) (o : Opd) (r : List Opd) (w : World) (hn : n = r.length + 1) (hn32 : n ≤ 4294967296) (h : w.ownsRow base TOp 3 (.slice ao n cap) n (opCells (o :: r).reverse)) :
    Calls Tryd.prog 64 #[.slice ao n cap] w fun e w' => e = .returned (.agg #[.int .i64 ((o.node : Nat) : Int), .string ⟨o.name.toArray⟩, .int .u8 ((o.kind : Nat) : Int)]) ∧ Below w.heap.size w w' := by
  obtain ⟨g, rfl, c0, c1, c2⟩ := opens_top h hn
  have hg := World.block_lt_of_cell? _ _ c0
  obtain ⟨nm, hnm⟩ : ∃ nm : ByteArray, (⟨o.name.toArray⟩ : ByteArray) = nm := ⟨_, rfl⟩
  rw [hnm] at c1 ⊢
  have hI2 : r.length = n - 1 := by omega
  have h0 : (0 : Int) ≤ (n : Int) - 1 := by omega
  have h1 : (n : Int) - 1 < n := by omega
  have hnI : (n : Int) ≤ 4294967296 := by omega
  have b0 : Below w.heap.size w (w.alloc (.cells #[.int .i64 0, .string ⟨#[]⟩, .int .u8 0] TOp)) := (Below.refl _ _).alloc (Nat.le_refl _) _
  have d0 := (b0.cell hg (p := ⟨g, r.length * 3, none⟩)).trans c0
  have d1 := (b0.cell hg (p := ⟨g, r.length * 3 + 1, none⟩)).trans c1
  have d2 := (b0.cell hg (p := ⟨g, r.length * 3 + 2, none⟩)).trans c2
  rw [hI2] at d0 d1 d2 c0 c1 c2
  clear h hn hnm b0 hI2
  go_enter Tryd.func64, Tryd.ntmps64
  go_big_wp2
  refine bodyPost_ret (results_cell1 rfl _ _ w.heap.size TOp _ _ _ rfl (heap_alloc_new _ _) Tryd.underlying93 rfl (by kernel_rfl)) rfl ?_
  exact ⟨rfl, (Below.refl _ _).alloc (Nat.le_refl _) _⟩

theorem field0 (a : Int) (b : ByteArray) (c : Int) (w : World) : (Instr.field 93 (.agg #[.int .i64 a, .string b, .int .u8 c]) 0).run Tryd.prog w = .ok (.int .i64 a) w := by kernel_rfl
theorem field2 (a : Int) (b : ByteArray) (c : Int) (w : World) : (Instr.field 93 (.agg #[.int .i64 a, .string b, .int .u8 c]) 2).run Tryd.prog w = .ok (.int .u8 c) w := by kernel_rfl
theorem opens_push {w : World} {base n : Nat} {v : Value} {o : Opd} {l : List Opd} (h : w.ownsRow base TOp 3 v n (opCells l.reverse ++ opCell o)) (hn : n = l.length + 1) : w.ownsRow base TOp 3 v (o :: l).length (opCells (o :: l).reverse) := by
  rw [List.reverse_cons, opCells_snoc, List.length_cons, ← hn]; exact h
theorem Tryd.infoOp : (Tryd.prog.info? 93).map (fun i => (i.zero, i.size, i.bytes)) = some (some (.agg #[.int .i64 0, .string ⟨#[]⟩, .int .u8 0]), 3, 32) := by kernel_rfl

/-- The cells of an open one in the row, from the top down. -/
theorem opens_at {w : World} {base : Nat} {ao : Option Addr} {cap n : Nat} {l : List Opd} (h : w.ownsRow base TOp 3 (.slice ao n cap) n (opCells l.reverse)) (hn : n = l.length) {i : Nat} {o : Opd} (hi : i < n) (ho : l[n - 1 - i]? = some o) :
    ∃ g, ao = some ⟨g, 0, none⟩ ∧ w.cell? ⟨g, i * 3, none⟩ = some (.int .i64 ((o.node : Nat) : Int)) ∧ w.cell? ⟨g, i * 3 + 1, none⟩ = some (.string ⟨o.name.toArray⟩) ∧ w.cell? ⟨g, i * 3 + 2, none⟩ = some (.int .u8 ((o.kind : Nat) : Int)) := by
  have h' := h
  have hr : l.reverse[i]? = some o := by rw [List.getElem?_reverse (by omega), ← hn]; exact ho
  rcases h'.2 with ⟨_, hn⟩ | ⟨g, c, cur, e, _⟩
  · omega
  · cases e
    refine ⟨g, rfl, ?_, ?_, ?_⟩
    · have := opCells_at hr (c := 0) (by decide)
      rw [World.ownsRow.cellAt h (i * 3) (by omega)]; exact this
    · have := opCells_at hr (c := 1) (by decide)
      rw [World.ownsRow.cellAt h (i * 3 + 1) (by omega)]; exact this
    · have := opCells_at hr (c := 2) (by decide)
      rw [World.ownsRow.cellAt h (i * 3 + 2) (by omega)]; exact this

set_option maxRecDepth 100000 in
set_option maxHeartbeats 1000000 in
theorem endsP_any (k : Nat) (hk : k ≤ 8) (w : World) : Calls Tryd.prog 70 #[.int .u8 ((k : Nat) : Int)] w fun e w' => e = .returned (.bool (endsK k)) ∧ w = w' := by
  have : k = 0 ∨ k = 1 ∨ k = 2 ∨ k = 3 ∨ k = 4 ∨ k = 5 ∨ k = 6 ∨ k = 7 ∨ k = 8 := by omega
  rcases this with rfl | rfl | rfl | rfl | rfl | rfl | rfl | rfl | rfl
  all_goals
    go_enter Tryd.func70, Tryd.ntmps70
    go_big_wp2
    go_ret
    exact ⟨rfl, rfl⟩
set_option maxRecDepth 100000 in
set_option maxHeartbeats 1000000 in
theorem isVoid_any (k : Nat) (hk : k ≤ 8) (w : World) : Calls Tryd.prog 59 #[.int .u8 ((k : Nat) : Int)] w fun e w' => e = .returned (.bool (voidK k)) ∧ w = w' := by
  have : k = 0 ∨ k = 1 ∨ k = 2 ∨ k = 3 ∨ k = 4 ∨ k = 5 ∨ k = 6 ∨ k = 7 ∨ k = 8 := by omega
  rcases this with rfl | rfl | rfl | rfl | rfl | rfl | rfl | rfl | rfl
  all_goals
    go_enter Tryd.func59, Tryd.ntmps59
    go_big_wp2
    go_ret
    exact ⟨rfl, rfl⟩
theorem bl_eq {x y : ByteArray} (h : bl x = bl y) : x = y := ByteArray.ext (Array.toList_inj.1 h)
set_option maxRecDepth 100000 in
set_option maxHeartbeats 1000000 in
theorem isWall_any (nd k : Nat) (nm : ByteArray) (w : World) : Calls Tryd.prog 75 #[.agg #[.int .i64 ((nd : Nat) : Int), .string nm, .int .u8 ((k : Nat) : Int)]] w fun e w' => e = .returned (.bool (wallO ⟨nd, bl nm, k⟩)) ∧ Below w.heap.size w w' := by
  have hb : ∀ W, Below w.heap.size w W → Below w.heap.size w W := fun W h => h
  obtain ⟨z, hz⟩ : ∃ z, wallO ⟨nd, bl nm, k⟩ = z := ⟨_, rfl⟩
  rw [hz]
  have hz2 : ((k == 4) || ((k == 1) && !(bl nm == [100, 105, 118]))) = z := hz
  by_cases h4 : k = 4
  · have h4b : ((k : Int) == 4) = true := by rw [beq_iff_eq]; omega
    have : z = true := by rw [← hz2, h4]; rfl
    subst this
    clear hz hz2 hb h4
    go_enter Tryd.func75, Tryd.ntmps75
    go_big_wp2
    go_ret
    exact ⟨rfl, (Below.refl _ _).alloc (Nat.le_refl _) _⟩
  · have h4b : ((k : Int) == 4) = false := by rw [beq_eq_false_iff_ne]; omega
    by_cases h1 : k = 1
    · have h1b : ((k : Int) == 1) = true := by rw [beq_iff_eq]; omega
      by_cases hn : bl nm = [100, 105, 118]
      · have : z = false := by rw [← hz2, h1, hn]; rfl
        subst this
        have hnm : nm = ⟨#[100, 105, 118]⟩ := bl_eq hn
        subst hnm
        clear hz hz2 hb hn h4 h1
        go_enter Tryd.func75, Tryd.ntmps75
        go_big_wp2
        go_ret
        exact ⟨rfl, (Below.refl _ _).alloc (Nat.le_refl _) _⟩
      · have : z = true := by rw [← hz2, h1]; simp [hn]
        subst this
        have hn2 : ¬ nm.toList = [100, 105, 118] := by rw [Lib.toList_data]; exact hn
        have hn4 : (nm.toList == [100, 105, 118]) = false := beq_eq_false_iff_ne.2 hn2
        have hn5 : (nm.toList != [100, 105, 118]) = true := by rw [bne_iff_ne]; exact hn2
        clear hz hz2 hb hn h4 h1
        go_enter Tryd.func75, Tryd.ntmps75
        go_big_wp2
        go_ret
        exact ⟨rfl, (Below.refl _ _).alloc (Nat.le_refl _) _⟩
    · have h1b : ((k : Int) == 1) = false := by rw [beq_eq_false_iff_ne]; omega
      have : z = false := by rw [← hz2]; simp [h4, h1]
      subst this
      clear hz hz2 hb h4 h1
      go_enter Tryd.func75, Tryd.ntmps75
      go_big_wp2
      go_ret
      exact ⟨rfl, (Below.refl _ _).alloc (Nat.le_refl _) _⟩
theorem hasR_cons {k : Nat} {o : Opd} {r : List Opd} (hr : r ≠ []) : hasR k (o :: r) = if o.kind == k then true else if k == 3 && wallO o then false else hasR k r := by
  cases r with
  | nil => exact absurd rfl hr
  | cons x r => rfl

set_option maxRecDepth 100000 in
set_option maxHeartbeats 4000000 in
theorem has_any (ao : Option Addr) (cap n base k : Nat) (l : List Opd) (w : World) (hn : n = l.length) (hl : l ≠ []) (hn32 : n ≤ 4294967296) (h : w.ownsRow base TOp 3 (.slice ao n cap) n (opCells l.reverse)) :
    Calls Tryd.prog 71 #[.slice ao n cap, .int .u8 ((k : Nat) : Int)] w fun e w' => e = .returned (.bool (hasR k l)) ∧ Below w.heap.size w w' := by
  have hpos : 0 < n := by rw [hn]; exact List.length_pos_iff.2 hl
  have HR := Lib.hid h
  have HN := Lib.hid hn
  have hnI : (n : Int) ≤ 4294967296 := by omega
  obtain ⟨z, hz⟩ : ∃ z, hasR k l = z := ⟨_, rfl⟩
  have HZ := Lib.hid hz
  rw [hz]
  have hn1 : (n : Int) - 1 = ((n - 1 : Nat) : Int) := by omega
  have h1n : (1 : Int) ≤ n := by omega
  clear h hz hn
  go_enter Tryd.func71, Tryd.ntmps71
  go_big_wp2
  go_step3
  go_big_wp2
  go_step3
  go_big_wp2
  go_loopw [5] (fun v wr => ∃ i : Nat, v = .int .i64 (i : Nat) ∧ i < n ∧ Hid (Below w.heap.size w wr) ∧ Hid (hasR k (l.drop (n - 1 - i)) = z)) (fun v _ => (RowKit.intOf v).toNat)
  case atStart => exact ⟨n - 1, by first | rfl | (rw [hn1]) | go_num, by omega, Lib.hid (Below.refl _ _), Lib.hid (by rw [Nat.sub_self, List.drop_zero]; exact HZ.out)⟩
  case round =>
    obtain ⟨i, rfl, hi, HB, HS⟩ := hrel
    by_cases hi0 : 0 < i
    · have hiI : (0 : Int) < i := by omega
      have hinI : (i : Int) < n := by omega
      have hln : n = l.length := HN.out
      obtain ⟨o, ho⟩ : ∃ o, l[n - 1 - i]? = some o := ⟨l[n - 1 - i]'(by omega), by simp [show n - 1 - i < l.length by omega]⟩
      have hdr : l.drop (n - 1 - i) = o :: l.drop (n - 1 - (i - 1)) := by
        have hlt : n - 1 - i < l.length := by omega
        rw [List.drop_eq_getElem_cons hlt]
        rw [List.getElem?_eq_getElem hlt] at ho
        rw [Option.some.inj ho, show n - 1 - i + 1 = n - 1 - (i - 1) by omega]
      have hrne : l.drop (n - 1 - (i - 1)) ≠ [] := by
        intro e
        have := congrArg List.length e
        rw [List.length_drop] at this
        simp at this; omega
      have hst := HS.out
      rw [hdr, hasR_cons hrne] at hst
      obtain ⟨g, rfl, c0, c1, c2⟩ := opens_at (own_on HR.out HB.out) hln hi ho
      have hg := World.block_lt_of_cell? _ _ c0
      obtain ⟨⟨nd, nm, kd⟩, ho2⟩ : ∃ x, o = x := ⟨_, rfl⟩
      subst ho2
      obtain ⟨nb, hnb⟩ : ∃ nb : ByteArray, (⟨nm.toArray⟩ : ByteArray) = nb := ⟨_, rfl⟩
      have hbn : bl nb = nm := by rw [← hnb, bl_of]
      simp only at c0 c1 c2 hst
      rw [hnb] at c1
      have hi1 : (i : Int) - 1 = ((i - 1 : Nat) : Int) := by omega
      have h1i : (1 : Int) ≤ i := by omega
      by_cases hk : kd = k
      · subst hk
        have hzt : z = true := by rw [← hst]; simp
        subst hzt
        clear hst hdr hrne ho hln hbn hnb hi1
        go_big_wp2
        go_ret
        exact ⟨rfl, HB.out⟩
      · have hkb : ((kd : Int) == (k : Int)) = false := by rw [beq_eq_false_iff_ne]; omega
        have hkb2 : ((kd : Nat) == k) = false := beq_eq_false_iff_ne.2 hk
        rw [hkb2, if_neg (by decide)] at hst
        by_cases h3 : k = 3
        · have h3b : ((k : Int) == 3) = true := by rw [beq_iff_eq]; omega
          have h3b2 : ((k : Nat) == 3) = true := beq_iff_eq.2 h3
          have hW := Lib.hid fun W => isWall_any nd kd nb W
          rw [hbn] at hW
          rw [h3b2, Bool.true_and] at hst
          clear h3b2 h3
          cases hw : wallO ⟨nd, nm, kd⟩ with
          | true =>
            rw [hw] at hW hst
            have hzt : z = false := by rw [← hst]; rfl
            subst hzt
            clear hst hdr hrne ho hln hbn hnb hi1 hw hkb2
            go_big_wp2_with (go_at_call 75; refine (hW.out _).mono ?_; rintro e w1 ⟨rfl, hb1⟩)
            rw [Exit.noGoto_ret]
            go_ret
            exact ⟨rfl, HB.out.trans (hb1.mono HB.out.size)⟩
          | false =>
            rw [hw, if_neg (by decide)] at hst
            rw [hw] at hW
            have HS2 := Lib.hid hst
            clear hst hdr hrne ho hln hbn hnb hw hkb2
            go_big_wp2_with (go_at_call 75; refine (hW.out _).mono ?_; rintro e w1 ⟨rfl, hb1⟩)
            exact ⟨⟨i - 1, by first | rfl | (rw [hi1]) | go_num, by omega, Lib.hid (HB.out.trans (hb1.mono HB.out.size)), HS2⟩, by simp [RowKit.intOf]; omega⟩
        · have h3b : ((k : Int) == 3) = false := by rw [beq_eq_false_iff_ne]; omega
          have h3b2 : ((k : Nat) == 3) = false := beq_eq_false_iff_ne.2 h3
          rw [h3b2, Bool.false_and, if_neg (by decide)] at hst
          have HS2 := Lib.hid hst
          clear hst hdr hrne ho hln hbn hnb hkb2 h3b2
          go_big_wp2
          exact ⟨⟨i - 1, by first | rfl | (rw [hi1]) | go_num, by omega, HB, HS2⟩, by simp [RowKit.intOf]; omega⟩
    · obtain rfl : i = 0 := by omega
      have hz0 : z = false := by
        rw [← HS.out]
        have hlen := congrArg List.length (show l.drop (n - 1 - 0) = l.drop (n - 1 - 0) from rfl)
        have : (l.drop (n - 1 - 0)).length = 1 := by rw [List.length_drop]; have := HN.out; omega
        match hd : l.drop (n - 1 - 0), this with
        | [x], _ => rfl
      subst hz0
      go_big_wp2
      rw [Exit.noGoto_ret]
      go_ret
      exact ⟨rfl, HB.out⟩

set_option maxRecDepth 100000 in
set_option maxHeartbeats 4000000 in
theorem takes_any (ao : Option Addr) (cap n base k : Nat) (o : Opd) (r : List Opd) (w : World) (hk : k ≤ 8) (hn : n = r.length + 1) (hn32 : n ≤ 4294967296) (h : w.ownsRow base TOp 3 (.slice ao n cap) n (opCells (o :: r).reverse)) :
    Calls Tryd.prog 58 #[.slice ao n cap, .int .u8 ((k : Nat) : Int)] w fun e w' => e = .returned (.bool (takesL k (o :: r))) ∧ Below w.heap.size w w' := by
  have HE := Lib.hid fun W => endsP_any k hk W
  have hh := fun (j : Nat) W (hb : Below w.heap.size w W) => has_any ao cap n base j (o :: r) W (by rw [hn]; rfl) (by simp) hn32 (own_on h hb)
  have H2 : Hid (∀ W, Below w.heap.size w W → Calls Tryd.prog 71 #[.slice ao n cap, .int .u8 2] W fun e w' => e = .returned (.bool (hasR 2 (o :: r))) ∧ Below W.heap.size W w') := Lib.hid fun W hb => hh 2 W hb
  have HK := Lib.hid (hh k)
  have HT := Lib.hid fun W (hb : Below w.heap.size w W) => top_any ao cap n base o r W hn hn32 (own_on h hb)
  obtain ⟨z2, hz2⟩ : ∃ z, hasR 2 (o :: r) = z := ⟨_, rfl⟩
  obtain ⟨zk, hzk⟩ : ∃ z, hasR k (o :: r) = z := ⟨_, rfl⟩
  have hres : takesL k (o :: r) = if endsK k && z2 then false else if k == 3 || k == 6 then !zk else if k == 4 then !(o.kind == 4) else true := by unfold takesL; rw [hz2, hzk]; rfl
  rw [hres]
  rw [hz2] at H2
  rw [hzk] at HK
  obtain ⟨kd, hkd⟩ : ∃ kd, o.kind = kd := ⟨_, rfl⟩
  rw [hkd] at HT ⊢
  obtain ⟨nm, hnm⟩ : ∃ nm : ByteArray, (⟨o.name.toArray⟩ : ByteArray) = nm := ⟨_, rfl⟩
  rw [hnm] at HT
  clear hres hz2 hzk hh h hn hkd hnm
  have : k = 0 ∨ k = 1 ∨ k = 2 ∨ k = 3 ∨ k = 4 ∨ k = 5 ∨ k = 6 ∨ k = 7 ∨ k = 8 := by omega
  have hf := field2 ((o.node : Nat) : Int) nm ((kd : Nat) : Int)
  have h44 : Hid (kd = 4) ∧ (((kd : Nat) : Int) != 4) = false ∨ Hid (¬ kd = 4) ∧ (((kd : Nat) : Int) != 4) = true := by
    by_cases e : kd = 4
    · exact .inl ⟨Lib.hid e, by rw [e]; rfl⟩
    · exact .inr ⟨Lib.hid e, by rw [bne_iff_ne]; omega⟩
  rcases this with rfl | rfl | rfl | rfl | rfl | rfl | rfl | rfl | rfl
  all_goals
    rw [show endsK _ = _ from rfl] at HE
    cases z2 <;> rcases h44 with ⟨e4, f4⟩ | ⟨e4, f4⟩
  all_goals
    go_enter Tryd.func58, Tryd.ntmps58
    go_big_wp2_with (first
      | (go_at_call 70; refine (HE.out _).mono ?_; rintro e w1 ⟨rfl, rfl⟩)
      | (go_at_call_of 71 (Value.int .u8 2); refine (H2.out _ (Below.refl _ _)).mono ?_; rintro e w2 ⟨rfl, hb2⟩; have HB2 := Lib.hid hb2; clear hb2 H2)
      | (go_at_call 71; first
          | (refine (HK.out _ HB2.out).mono ?_; rintro e w3 ⟨rfl, hb3⟩; have HB3 := Lib.hid (HB2.out.trans (hb3.mono HB2.out.size)); clear hb3)
          | (refine (HK.out _ (Below.refl _ _)).mono ?_; rintro e w3 ⟨rfl, hb3⟩; have HB3 := Lib.hid hb3; clear hb3))
      | (go_at_call 64; first
          | (refine (HT.out _ HB2.out).mono ?_; rintro e w3 ⟨rfl, hb3⟩; have HB3 := Lib.hid (HB2.out.trans (hb3.mono HB2.out.size)); clear hb3)))
    go_ret
    first
      | exact ⟨rfl, Below.refl _ _⟩
      | exact ⟨rfl, HB2.out⟩
      | exact ⟨rfl, HB3.out⟩
      | exact ⟨by simp [e4.out], HB3.out⟩
end Go.Proofs.YtkfmfldkllkcbabDoor

