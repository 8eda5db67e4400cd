/-
  isElement of package tree: an element's attributes; the library's ContainsFunc over its closure. Conditions: the library's two tables hold what its text lays.
-/
import Derived.Test.YtkfmfldkllkcbabDoorRNode
namespace Go.Proofs.YtkfmfldkllkcbabDoor
open Go.RowKit Go.RunKit Go.CharrefKit Go.Lib Go.TokenKit Go.TreeKit

/-- May this attribute stand where it does? -/
def okAt (l : List At) (i : Nat) : Bool := match l[i]? with
  | some a => !((l.take i).any fun b => b.1 == a.1) && attrNameL a.1 && wellL ⟨a.2.toArray⟩
  | none => true
def attrsOkB (l : List At) : Bool := (List.range l.length).all (okAt l)
def isElementB (x : NI) : Bool := x.data.isEmpty && decide (x.attrs.length ≤ 16) && attrsOkB x.attrs

set_option maxRecDepth 100000 in
set_option maxHeartbeats 1000000 in
/-- The closure: has an attribute the name? -/
theorem elem1_any (n v an : ByteArray) (ga : Nat) (w : World) (hc : w.cell? ⟨ga, 0, none⟩ = some (.string an)) :
    Calls Tryd.prog 68 (#[.agg #[.string n, .string v]] ++ #[.pointer (some ⟨ga, 0, none⟩)]) w fun e w' => e = .returned (.bool (bl n == bl an)) ∧ Below w.heap.size w w' := by
  have hb : Below w.heap.size w (w.alloc (.cells #[.string n, .string v] 35)) := (Below.refl _ _).alloc (Nat.le_refl _) _
  have hc2 : (w.alloc (.cells #[.string n, .string v] 35)).cell? ⟨ga, 0, none⟩ = some (.string an) := by rw [hb.cell (World.block_lt_of_cell? _ _ hc)]; exact hc
  have hne : ¬ ga = w.heap.size := by have := World.block_lt_of_cell? _ _ hc; simp only at this; omega
  by_cases he : n = an
  · subst he
    rw [BEq.rfl]
    go_enter Tryd.func68, Tryd.ntmps68
    go_big_wp2
    go_ret
    refine ⟨ret1_eq (congrArg Value.bool ?_), hb⟩
    simp
  · have hne2 : ¬ bl n = bl an := fun e => he (bl_eq e)
    have h1 : (bl n == bl an) = false := beq_eq_false_iff_ne.2 hne2
    have h2 : (n.toList == an.toList) = false := by rw [Lib.toList_data, Lib.toList_data]; exact h1
    rw [h1]
    clear hne2 h1
    go_enter Tryd.func68, Tryd.ntmps68
    go_big_wp2
    go_ret
    exact ⟨rfl, hb⟩

/-- Where the first attribute of a name stands. -/
def nameIdx (l : List At) (an : Bytes) : Nat → Int
  | 0 => -1
  | f + 1 => if (l.getD (l.length - (f + 1)) ([], [])).1 = an then ((l.length - (f + 1) : Nat) : Int) else nameIdx l an f
theorem nameIdx_hit (l : List At) (an : Bytes) : ∀ f, f ≤ l.length → (0 ≤ nameIdx l an f ↔ ((l.drop (l.length - f)).any fun b => b.1 == an) = true)
  | 0, _ => by simp [nameIdx]
  | f + 1, h => by
    have hlt : l.length - (f + 1) < l.length := by omega
    have hd : l.drop (l.length - (f + 1)) = l.getD (l.length - (f + 1)) ([], []) :: l.drop (l.length - f) := by
      rw [List.drop_eq_getElem_cons hlt, List.getD_eq_getElem?_getD, List.getElem?_eq_getElem hlt, show l.length - (f + 1) + 1 = l.length - f by omega]
      rfl
    rw [hd, List.any_cons]
    unfold nameIdx
    by_cases he : (l.getD (l.length - (f + 1)) ([], [])).1 = an
    · rw [if_pos he, he, BEq.rfl, Bool.true_or]
      simp
    · rw [if_neg he, show ((l.getD (l.length - (f + 1)) ([], [])).1 == an) = false from beq_eq_false_iff_ne.2 he, Bool.false_or]
      exact nameIdx_hit l an f (by omega)

set_option maxRecDepth 100000 in
set_option maxHeartbeats 2000000 in
theorem indexFunc_any (ao : Option Addr) (cap n ga : Nat) (l : List At) (an : ByteArray) (w : World) (hn : n = l.length) (hn2 : n ≤ 65536) (h : AttrsIn w ao l) (hc : w.cell? ⟨ga, 0, none⟩ = some (.string an)) :
    Calls Tryd.prog 73 #[.slice ao n cap, .func (.func 68) #[] #[.pointer (some ⟨ga, 0, none⟩)]] w fun e w' => e = .returned (.int .i64 (nameIdx l (bl an) n)) ∧ Below w.heap.size w w' := by
  have HI := Lib.hid h
  have HCc := Lib.hid hc
  have hnH := Lib.hid hn
  have eg : ∀ args w, (callFunc 68 args).run Tryd.prog w = .ok (.enter 68 args) w := enters_of Tryd.func68 (by kernel_rfl) rfl
  have HB0 := Lib.hid (Below.refl w.heap.size w)
  obtain ⟨ans, hans⟩ : ∃ a, nameIdx l (bl an) n = a := ⟨_, rfl⟩
  rw [hans]
  have D0 : Hid (nameIdx l (bl an) (n - 0) = ans) := Lib.hid hans
  clear h hc hn hans
  go_enter Tryd.func73, Tryd.ntmps73
  go_big_wp2
  go_loopw [8] (fun a wr => ∃ j : Nat, a = .int .i64 ((j : Nat) : Int) ∧ j ≤ n ∧ Hid (nameIdx l (bl an) (n - j) = ans) ∧ Hid (Below w.heap.size w wr)) (fun a _ => n - (RowKit.intOf a).toNat)
  case atStart => exact ⟨0, rfl, Nat.zero_le _, D0, HB0⟩
  case round =>
    clear D0 HB0
    obtain ⟨j, rfl, hj, HE, HB⟩ := hrel
    by_cases hlt : j < n
    · have hltI : (j : Int) < (n : Int) := by omega
      obtain ⟨f, hf⟩ : ∃ f, n - j = f + 1 := ⟨n - j - 1, by omega⟩
      have hla : l[j]? = some (l.getD j ([], [])) := by
        rw [List.getD_eq_getElem?_getD, List.getElem?_eq_getElem (by have := hnH.out; omega)]
        rfl
      obtain ⟨gk, ok, hko, hc1, hc2⟩ := (HI.out.on HB.out).at_ j _ hla
      have hC := Lib.hid (elem1_any ⟨(l.getD j ([], [])).1.toArray⟩ ⟨(l.getD j ([], [])).2.toArray⟩ an ga wr (by rw [HB.out.cell (World.block_lt_of_cell? _ _ HCc.out)]; exact HCc.out))
      rw [hf] at HE
      unfold nameIdx at HE
      rw [show l.length - (f + 1) = j by have := hnH.out; omega] at HE
      subst hko
      rw [bl_of] at hC
      obtain ⟨a1, ha1⟩ : ∃ a1, (l.getD j ([], [])).1 = a1 := ⟨_, rfl⟩
      obtain ⟨a2, ha2⟩ : ∃ a2, (l.getD j ([], [])).2 = a2 := ⟨_, rfl⟩
      rw [ha1] at hc1 hC HE
      rw [ha2] at hc2 hC
      clear hla ha1 ha2
      by_cases he : a1 = bl an
      · rw [if_pos he] at HE
        rw [show (a1 == bl an) = true from beq_iff_eq.2 he] at hC
        generalize (⟨a1.toArray⟩ : ByteArray) = s1 at *
        clear he
        go_big_wp2_with (go_at_fn 68; refine hC.out.mono ?_; rintro e w1 ⟨rfl, hb1⟩)
        go_ret
        exact ⟨ret1_eq (congrArg (Value.int .i64) HE.out), HB.out.trans (hb1.mono HB.out.size)⟩
      · rw [if_neg he] at HE
        rw [show (a1 == bl an) = false from beq_eq_false_iff_ne.2 he] at hC
        generalize (⟨a1.toArray⟩ : ByteArray) = s1 at *
        clear he
        go_big_wp2_with (go_at_fn 68; refine hC.out.mono ?_; rintro e w1 ⟨rfl, hb1⟩)
        exact ⟨⟨j + 1, by go_num, by omega, by rw [show n - (j + 1) = f by omega]; exact HE, Lib.hid (HB.out.trans (hb1.mono HB.out.size))⟩, by simp [RowKit.intOf]; omega⟩
    · obtain rfl : j = n := by omega
      rw [Nat.sub_self] at HE
      have hltI : ((j : Int) < (j : Int)) = False := eq_false (by omega)
      go_big_wp2
      go_ret
      exact ⟨ret1_eq (congrArg (Value.int .i64) HE.out), HB.out⟩

set_option maxRecDepth 100000 in
set_option maxHeartbeats 1000000 in
theorem containsFunc_any (ao : Option Addr) (cap n ga : Nat) (l : List At) (an : ByteArray) (w : World) (hn : n = l.length) (hn2 : n ≤ 65536) (h : AttrsIn w ao l) (hc : w.cell? ⟨ga, 0, none⟩ = some (.string an)) :
    Calls Tryd.prog 67 #[.slice ao n cap, .func (.func 68) #[] #[.pointer (some ⟨ga, 0, none⟩)]] w fun e w' => e = .returned (.bool (l.any fun b => b.1 == bl an)) ∧ Below w.heap.size w w' := by
  have hI := indexFunc_any ao cap n ga l an w hn hn2 h hc
  have hh := nameIdx_hit l (bl an) l.length (Nat.le_refl _)
  rw [Nat.sub_self, List.drop_zero, ← hn] at hh
  obtain ⟨x, hx⟩ : ∃ x, nameIdx l (bl an) n = x := ⟨_, rfl⟩
  obtain ⟨v, hv⟩ : ∃ v, (l.any fun b => b.1 == bl an) = v := ⟨_, rfl⟩
  rw [hx] at hI hh
  rw [hv] at hh ⊢
  have HI := Lib.hid hI
  clear hI hx hv h hc hn
  cases v with
  | true =>
    have h0 : (0 : Int) ≤ x := hh.2 rfl
    clear hh
    go_enter Tryd.func67, Tryd.ntmps67
    go_big_wp2_with (go_at_call 73; refine HI.out.mono ?_; rintro e w1 ⟨rfl, hb1⟩)
    go_ret
    exact ⟨rfl, hb1⟩
  | false =>
    have h0 : x < 0 := by
      by_cases e : (0 : Int) ≤ x
      · have := hh.1 e; cases this
      · omega
    have h0F : ((0 : Int) ≤ x) = False := eq_false (by omega)
    clear hh
    go_enter Tryd.func67, Tryd.ntmps67
    go_big_wp2_with (go_at_call 73; refine HI.out.mono ?_; rintro e w1 ⟨rfl, hb1⟩)
    go_ret
    exact ⟨rfl, hb1⟩
theorem AttrsIn.take {w : World} {ao : Option Addr} {l : List At} (h : AttrsIn w ao l) (n : Nat) : AttrsIn w ao (l.take n) := ⟨fun j a ha => by
  rw [List.getElem?_take] at ha
  split at ha
  · exact h.at_ j a ha
  · cases ha⟩
theorem okAt_eq {l : List At} {j : Nat} {a : At} (h : l[j]? = some a) : okAt l j = (!((l.take j).any fun b => b.1 == a.1) && attrNameL a.1 && wellL ⟨a.2.toArray⟩) := by unfold okAt; rw [h]
theorem attrsOk_no {l : List At} {j : Nat} (hj : j < l.length) (h : okAt l j = false) : attrsOkB l = false := by
  unfold attrsOkB
  rw [Bool.eq_false_iff]
  intro hc
  have := List.all_eq_true.1 hc j (List.mem_range.2 hj)
  rw [h] at this
  cases this

set_option maxRecDepth 100000 in
set_option maxHeartbeats 4000000 in
theorem isElement_any (g m : Nat) (x : NI) (w : World) (h : NodeIn w g m x) (hv : VTabs w) :
    Calls Tryd.prog 57 #[.pointer (some ⟨g, m, none⟩)] w fun e w' => e = .returned (.bool (isElementB x)) ∧ Below w.heap.size w w' := by
  have HNode := Lib.hid h
  have c3 := h.data
  obtain ⟨ao, cap, c2, hA, hcap, hlong⟩ := h.attrs
  have HA := Lib.hid hA
  have HL := Lib.hid fun a (ha : a ∈ x.attrs) => h.long.2 a ha
  have HV := Lib.hid hv
  clear h hv hA
  obtain ⟨k, nm, l, dt, up, kids⟩ := x
  simp only at c3 c2 HA HL hcap hlong
  unfold isElementB
  simp only
  by_cases h3 : dt = []
  · obtain ⟨q1, q2, q3⟩ := toList_nil h3
    subst h3
    obtain ⟨n, hn⟩ : ∃ n, l.length = n := ⟨_, rfl⟩
    rw [hn] at c2 hcap hlong
    rw [hn]
    have hnH := Lib.hid hn
    have HC2 := Lib.hid c2
    by_cases h16 : 16 < n
    · have hI : (16 : Int) < (n : Int) := by omega
      rw [show decide (n ≤ 16) = false from decide_eq_false (by omega), Bool.and_false, Bool.false_and]
      clear hn h16
      go_enter Tryd.func57, Tryd.ntmps57
      go_big_wp2
      go_ret
      exact ⟨rfl, Below.refl _ _⟩
    · have hI : ((16 : Int) < (n : Int)) = False := eq_false (by omega)
      have hn16 : n ≤ 16 := by omega
      rw [show decide (n ≤ 16) = true from decide_eq_true hn16]
      show Calls _ _ _ _ fun e w' => e = .returned (.bool (attrsOkB l)) ∧ _
      clear hn h16
      have HB0 := Lib.hid (Below.refl w.heap.size w)
      have D0 : Hid (∀ i, i < 0 → okAt l i = true) := Lib.hid fun i hi => by omega
      go_enter Tryd.func57, Tryd.ntmps57
      go_big_wp2
      go_loopw [24] (fun a wr => ∃ j : Nat, a = .int .i64 ((j : Nat) : Int) ∧ j ≤ n ∧ Hid (∀ i, i < j → okAt l i = true) ∧ Hid (Below w.heap.size w wr)) (fun a _ => n - (RowKit.intOf a).toNat)
      case atStart => exact ⟨0, rfl, Nat.zero_le _, D0, HB0⟩
      case round =>
        clear D0 HB0 c2 c3
        obtain ⟨j, rfl, hj, HE, HB⟩ := hrel
        by_cases hlt : j < n
        · have hltI : (j : Int) < (n : Int) := by omega
          have hjc : (j : Int) ≤ (cap : Int) := by omega
          have hjl : j < l.length := by have := hnH.out; omega
          have hla : l[j]? = some (l.getD j ([], [])) := by
            rw [List.getD_eq_getElem?_getD, List.getElem?_eq_getElem hjl]
            rfl
          have hok := okAt_eq hla
          have hsz := HL.out _ (List.mem_of_getElem? hla)
          obtain ⟨gk, ok, hko, hc1, hc2⟩ := (HA.out.on HB.out).at_ j _ hla
          subst hko
          obtain ⟨a1, ha1⟩ : ∃ a1, (l.getD j ([], [])).1 = a1 := ⟨_, rfl⟩
          obtain ⟨a2, ha2⟩ : ∃ a2, (l.getD j ([], [])).2 = a2 := ⟨_, rfl⟩
          rw [ha1] at hc1 hok
          rw [ha2] at hc2 hok hsz
          have hN := fun W => isAttrName_any ⟨a1.toArray⟩ W
          rw [bl_of a1] at hN
          have hbl : bl ⟨a1.toArray⟩ = a1 := bl_of a1
          obtain ⟨s1, hs1⟩ : ∃ s1 : ByteArray, ⟨a1.toArray⟩ = s1 := ⟨_, rfl⟩
          obtain ⟨s2, hs2⟩ : ∃ s2 : ByteArray, ⟨a2.toArray⟩ = s2 := ⟨_, rfl⟩
          have hsz2 : s2.size ≤ 9223372036854775807 := by rw [← hs2]; simpa [ByteArray.size] using hsz
          rw [hs1] at hc1 hN hbl
          rw [hs2] at hc2 hok
          have hb2 : Below wr.heap.size wr (wr.alloc (.cells #[.string s1, .string s2] 35)) := (Below.refl _ _).alloc (Nat.le_refl _) _
          have hl2 := heap_alloc_new wr (.cells #[.string s1, .string s2] 35)
          have z0 : (wr.alloc (.cells #[.string s1, .string s2] 35)).cell? ⟨wr.heap.size, 0, none⟩ = some (.string s1) := by rw [cell_of_row _ _ 0 _ _ _ hl2]; rfl
          have z1 : (wr.alloc (.cells #[.string s1, .string s2] 35)).cell? ⟨wr.heap.size, 1, none⟩ = some (.string s2) := by rw [cell_of_row _ _ 1 _ _ _ hl2]; rfl
          have c2r : (wr.alloc (.cells #[.string s1, .string s2] 35)).cell? ⟨g, m + 2, none⟩ = some (.slice (some ⟨gk, ok, none⟩) n cap) := by
            have hbw := HB.out.trans (hb2.mono HB.out.size)
            rw [hbw.cell (World.block_lt_of_cell? _ _ HC2.out)]; exact HC2.out
          have hC := containsFunc_any (some ⟨gk, ok, none⟩) cap j wr.heap.size (l.take j) s1 (wr.alloc (.cells #[.string s1, .string s2] 35)) (by rw [List.length_take]; omega) (by omega) (((HA.out.on HB.out).on hb2).take j) z0
          rw [hbl] at hC
          obtain ⟨tw, htw⟩ : ∃ tw, ((l.take j).any fun b => b.1 == a1) = tw := ⟨_, rfl⟩
          obtain ⟨an, han⟩ : ∃ an, attrNameL a1 = an := ⟨_, rfl⟩
          obtain ⟨pl, hpl⟩ : ∃ pl, wellL s2 = pl := ⟨_, rfl⟩
          rw [htw] at hC hok
          rw [han] at hN hok
          rw [hpl] at hok
          have HC := Lib.hid hC
          have HN := Lib.hid hN
          have HO := Lib.hid hok
          have HP := Lib.hid fun W (hb : Below w.heap.size w W) => hpl ▸ isPlain_any s2 W hsz2 (HV.out.on hb)
          have HZ := Lib.hid (And.intro z0 z1)
          have HB2 := Lib.hid (HB.out.trans (hb2.mono HB.out.size))
          have NO : Hid (okAt l j = false → attrsOkB l = false) := Lib.hid fun h => attrsOk_no hjl h
          have YES : Hid (okAt l j = true → ∀ i, i < j + 1 → okAt l i = true) := Lib.hid fun h i hi => by
            by_cases e : i = j
            · subst e; exact h
            · exact HE.out i (by omega)
          clear hC hN hok hb2 hl2 z0 z1 hla hsz ha1 ha2 hs1 hs2 hbl htw han hpl hsz2 hjl
          cases tw with
          | true =>
            have HAns := Lib.hid (NO.out (by rw [HO.out]; rfl))
            go_big_wp2_with (go_at_call 67; refine HC.out.mono ?_; rintro e w3 ⟨rfl, hb3⟩)
            go_ret
            exact ⟨ret1_eq (congrArg Value.bool HAns.out.symm), HB2.out.trans (hb3.mono HB2.out.size)⟩
          | false =>
            cases an with
            | false =>
              have HAns := Lib.hid (NO.out (by rw [HO.out]; rfl))
              go_big_wp2_with (first
                | (go_at_call 67
                   refine HC.out.mono ?_
                   rintro e w3 ⟨rfl, hb3⟩
                   have d0 : w3.cell? ⟨wr.heap.size, 0, none⟩ = some (.string s1) := by rw [hb3.cell (World.block_lt_of_cell? _ _ HZ.out.1)]; exact HZ.out.1
                   have HB3 := Lib.hid (HB2.out.trans (hb3.mono HB2.out.size))
                   clear hb3)
                | (go_at_call 69; refine (HN.out _).mono ?_; rintro e w4 ⟨rfl, hb4⟩))
              go_ret
              exact ⟨ret1_eq (congrArg Value.bool HAns.out.symm), HB3.out.trans (hb4.mono HB3.out.size)⟩
            | true =>
              cases pl with
              | false =>
                have HAns := Lib.hid (NO.out (by rw [HO.out]; rfl))
                go_big_wp2_with (first
                  | (go_at_call 67
                     refine HC.out.mono ?_
                     rintro e w3 ⟨rfl, hb3⟩
                     have d0 : w3.cell? ⟨wr.heap.size, 0, none⟩ = some (.string s1) := by rw [hb3.cell (World.block_lt_of_cell? _ _ HZ.out.1)]; exact HZ.out.1
                     have d1 : Hid (w3.cell? ⟨wr.heap.size, 1, none⟩ = some (.string s2)) := Lib.hid (by rw [hb3.cell (World.block_lt_of_cell? _ _ HZ.out.2)]; exact HZ.out.2)
                     have HB3 := Lib.hid (HB2.out.trans (hb3.mono HB2.out.size))
                     clear hb3)
                  | (go_at_call 69
                     refine (HN.out _).mono ?_
                     rintro e w4 ⟨rfl, hb4⟩
                     have d4 : w4.cell? ⟨wr.heap.size, 1, none⟩ = some (.string s2) := by rw [hb4.cell (World.block_lt_of_cell? _ _ d1.out)]; exact d1.out
                     have HB4 := Lib.hid (HB3.out.trans (hb4.mono HB3.out.size))
                     clear hb4)
                  | (go_at_call 66; refine (HP.out _ HB4.out).mono ?_; rintro e w5 ⟨rfl, hb5⟩))
                go_ret
                exact ⟨ret1_eq (congrArg Value.bool HAns.out.symm), HB4.out.trans (hb5.mono HB4.out.size)⟩
              | true =>
                have HAns := Lib.hid (YES.out (by rw [HO.out]; rfl))
                go_big_wp2_with (first
                  | (go_at_call 67
                     refine HC.out.mono ?_
                     rintro e w3 ⟨rfl, hb3⟩
                     have d0 : w3.cell? ⟨wr.heap.size, 0, none⟩ = some (.string s1) := by rw [hb3.cell (World.block_lt_of_cell? _ _ HZ.out.1)]; exact HZ.out.1
                     have d1 : Hid (w3.cell? ⟨wr.heap.size, 1, none⟩ = some (.string s2)) := Lib.hid (by rw [hb3.cell (World.block_lt_of_cell? _ _ HZ.out.2)]; exact HZ.out.2)
                     have HB3 := Lib.hid (HB2.out.trans (hb3.mono HB2.out.size))
                     clear hb3)
                  | (go_at_call 69
                     refine (HN.out _).mono ?_
                     rintro e w4 ⟨rfl, hb4⟩
                     have d4 : w4.cell? ⟨wr.heap.size, 1, none⟩ = some (.string s2) := by rw [hb4.cell (World.block_lt_of_cell? _ _ d1.out)]; exact d1.out
                     have HB4 := Lib.hid (HB3.out.trans (hb4.mono HB3.out.size))
                     clear hb4)
                  | (go_at_call 66; refine (HP.out _ HB4.out).mono ?_; rintro e w5 ⟨rfl, hb5⟩))
                exact ⟨⟨j + 1, by go_num, by omega, HAns, Lib.hid (HB4.out.trans (hb5.mono HB4.out.size))⟩, by simp [RowKit.intOf]; omega⟩
        · obtain rfl : j = n := by omega
          have HAns : Hid (attrsOkB l = true) := Lib.hid (List.all_eq_true.2 fun i hi => HE.out i (by have := List.mem_range.1 hi; have := hnH.out; omega))
          have hltI : ((j : Int) < (j : Int)) = False := eq_false (by omega)
          go_big_wp2
          go_ret
          exact ⟨ret1_eq (congrArg Value.bool HAns.out.symm), HB.out⟩
  · obtain ⟨q1, q2, q3⟩ := toList_ne h3
    rw [empty_ne h3, Bool.false_and, Bool.false_and]
    obtain ⟨ds, hds⟩ : ∃ ds : ByteArray, ⟨dt.toArray⟩ = ds := ⟨_, rfl⟩
    rw [hds] at c3 q1 q2 q3
    clear hds
    clear h3
    go_enter Tryd.func57, Tryd.ntmps57
    go_big_wp2
    go_ret
    exact ⟨rfl, Below.refl _ _⟩
end Go.Proofs.YtkfmfldkllkcbabDoor

