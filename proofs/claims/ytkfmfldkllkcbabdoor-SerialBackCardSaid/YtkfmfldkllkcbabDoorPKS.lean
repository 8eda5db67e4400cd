/-
  isElement of package tree: an element's attributes; the library's ContainsFunc over its closure. Conditions: the library's two tables hold what its text lays.
  areKids, haveTheirKids of package tree: the children of a tree's nodes. Conditions: the tree has at most 16384 nodes.
  The stack of open nodes in a variable of its own: pop, push, downTo. No conditions.
  standRight of package tree: may each node stand where it does? Conditions: the tree has at most 16384 nodes; the library's two tables hold what its text lays.
  Right of package tree, by contract. Conditions: the library's two tables hold what its text lays.
  The document under way of package serial: strings.Builder at its head; put, putEscaped. Conditions: texts are no longer than 2^20 bytes.
  begin, end of package serial: what stands ahead of a node's children, and behind. Conditions: names are no longer than 2^20 bytes; a text is not empty.
  Serialize's closure of package serial, which calls itself: a node's document, and its children's. Conditions: children stand behind their parent; names are no longer than 2^20 bytes; a text is not empty.
  Serialize of package serial, by contract. Conditions: names of attributes are no longer than 2^20 bytes; the library's two tables hold what its text lays.
  The chapter's second example, of documents. Conditions: the library's two tables hold what its text lays.
  SerialJoins: what two strings are escaped to, one behind the other. Conditions: the library's two tables hold what its text lays.
-/
import Derived.Test.YtkfmfldkllkcbabDoorRNode
import Derived.Test.YtkfmfldkllkcbabDoorSEsc
import Derived.Laws.EntriesVeiled
import Derived.Test.YtkfmfldkllkcbabDoorRWell
import Derived.Test.YtkfmfldkllkcbabDoorRLaw3
namespace Go.Proofs.YtkfmfldkllkcbabDoor
open Go.RowKit Go.RunKit Go.CharrefKit Go.Lib Go.TokenKit Go.TreeKit

/-- May this attribute stand where it does? -/
def okAt (l : List At) (i : Nat) : Bool := match l[i]? with
  | some a => !((l.take i).any fun b => b.1 == a.1) && attrNameL a.1 && wellL ⟨a.2.toArray⟩
  | none => true
def attrsOkB (l : List At) : Bool := (List.range l.length).all (okAt l)
def isElementB (x : NI) : Bool := x.data.isEmpty && decide (x.attrs.length ≤ 16) && attrsOkB x.attrs

set_option maxRecDepth 100000 in
set_option maxHeartbeats 1000000 in
/-- The closure: has an attribute the name? -/
theorem elem1_any (n v an : ByteArray) (ga : Nat) (w : World) (hc : w.cell? ⟨ga, 0, none⟩ = some (.string an)) :
    Calls Tryd.prog 68 (#[.agg #[.string n, .string v]] ++ #[.pointer (some ⟨ga, 0, none⟩)]) w fun e w' => e = .returned (.bool (bl n == bl an)) ∧ Below w.heap.size w w' := by
  have hb : Below w.heap.size w (w.alloc (.cells #[.string n, .string v] 35)) := (Below.refl _ _).alloc (Nat.le_refl _) _
  have hc2 : (w.alloc (.cells #[.string n, .string v] 35)).cell? ⟨ga, 0, none⟩ = some (.string an) := by rw [hb.cell (World.block_lt_of_cell? _ _ hc)]; exact hc
  have hne : ¬ ga = w.heap.size := by have := World.block_lt_of_cell? _ _ hc; simp only at this; omega
  by_cases he : n = an
  · subst he
    rw [BEq.rfl]
    go_enter Tryd.func68, Tryd.ntmps68
    go_big_wp2
    go_ret
    refine ⟨ret1_eq (congrArg Value.bool ?_), hb⟩
    simp
  · have hne2 : ¬ bl n = bl an := fun e => he (bl_eq e)
    have h1 : (bl n == bl an) = false := beq_eq_false_iff_ne.2 hne2
    have h2 : (n.toList == an.toList) = false := by rw [Lib.toList_data, Lib.toList_data]; exact h1
    rw [h1]
    clear hne2 h1
    go_enter Tryd.func68, Tryd.ntmps68
    go_big_wp2
    go_ret
    exact ⟨rfl, hb⟩

/-- Where the first attribute of a name stands. -/
def nameIdx (l : List At) (an : Bytes) : Nat → Int
  | 0 => -1
  | f + 1 => if (l.getD (l.length - (f + 1)) ([], [])).1 = an then ((l.length - (f + 1) : Nat) : Int) else nameIdx l an f
theorem nameIdx_hit (l : List At) (an : Bytes) : ∀ f, f ≤ l.length → (0 ≤ nameIdx l an f ↔ ((l.drop (l.length - f)).any fun b => b.1 == an) = true)
  | 0, _ => by simp [nameIdx]
  | f + 1, h => by
    have hlt : l.length - (f + 1) < l.length := by omega
    have hd : l.drop (l.length - (f + 1)) = l.getD (l.length - (f + 1)) ([], []) :: l.drop (l.length - f) := by
      rw [List.drop_eq_getElem_cons hlt, List.getD_eq_getElem?_getD, List.getElem?_eq_getElem hlt, show l.length - (f + 1) + 1 = l.length - f by omega]
      rfl
    rw [hd, List.any_cons]
    unfold nameIdx
    by_cases he : (l.getD (l.length - (f + 1)) ([], [])).1 = an
    · rw [if_pos he, he, BEq.rfl, Bool.true_or]
      simp
    · rw [if_neg he, show ((l.getD (l.length - (f + 1)) ([], [])).1 == an) = false from beq_eq_false_iff_ne.2 he, Bool.false_or]
      exact nameIdx_hit l an f (by omega)

set_option maxRecDepth 100000 in
set_option maxHeartbeats 2000000 in
theorem indexFunc_any (ao : Option Addr) (cap n ga : Nat) (l : List At) (an : ByteArray) (w : World) (hn : n = l.length) (hn2 : n ≤ 65536) (h : AttrsIn w ao l) (hc : w.cell? ⟨ga, 0, none⟩ = some (.string an)) :
    Calls Tryd.prog 73 #[.slice ao n cap, .func (.func 68) #[] #[.pointer (some ⟨ga, 0, none⟩)]] w fun e w' => e = .returned (.int .i64 (nameIdx l (bl an) n)) ∧ Below w.heap.size w w' := by
  have HI := Lib.hid h
  have HCc := Lib.hid hc
  have hnH := Lib.hid hn
  have eg : ∀ args w, (callFunc 68 args).run Tryd.prog w = .ok (.enter 68 args) w := enters_of Tryd.func68 (by kernel_rfl) rfl
  have HB0 := Lib.hid (Below.refl w.heap.size w)
  obtain ⟨ans, hans⟩ : ∃ a, nameIdx l (bl an) n = a := ⟨_, rfl⟩
  rw [hans]
  have D0 : Hid (nameIdx l (bl an) (n - 0) = ans) := Lib.hid hans
  clear h hc hn hans
  go_enter Tryd.func73, Tryd.ntmps73
  go_big_wp2
  go_loopw [8] (fun a wr => ∃ j : Nat, a = .int .i64 ((j : Nat) : Int) ∧ j ≤ n ∧ Hid (nameIdx l (bl an) (n - j) = ans) ∧ Hid (Below w.heap.size w wr)) (fun a _ => n - (RowKit.intOf a).toNat)
  case atStart => exact ⟨0, rfl, Nat.zero_le _, D0, HB0⟩
  case round =>
    clear D0 HB0
    obtain ⟨j, rfl, hj, HE, HB⟩ := hrel
    by_cases hlt : j < n
    · have hltI : (j : Int) < (n : Int) := by omega
      obtain ⟨f, hf⟩ : ∃ f, n - j = f + 1 := ⟨n - j - 1, by omega⟩
      have hla : l[j]? = some (l.getD j ([], [])) := by
        rw [List.getD_eq_getElem?_getD, List.getElem?_eq_getElem (by have := hnH.out; omega)]
        rfl
      obtain ⟨gk, ok, hko, hc1, hc2⟩ := (HI.out.on HB.out).at_ j _ hla
      have hC := Lib.hid (elem1_any ⟨(l.getD j ([], [])).1.toArray⟩ ⟨(l.getD j ([], [])).2.toArray⟩ an ga wr (by rw [HB.out.cell (World.block_lt_of_cell? _ _ HCc.out)]; exact HCc.out))
      rw [hf] at HE
      unfold nameIdx at HE
      rw [show l.length - (f + 1) = j by have := hnH.out; omega] at HE
      subst hko
      rw [bl_of] at hC
      obtain ⟨a1, ha1⟩ : ∃ a1, (l.getD j ([], [])).1 = a1 := ⟨_, rfl⟩
      obtain ⟨a2, ha2⟩ : ∃ a2, (l.getD j ([], [])).2 = a2 := ⟨_, rfl⟩
      rw [ha1] at hc1 hC HE
      rw [ha2] at hc2 hC
      clear hla ha1 ha2
      by_cases he : a1 = bl an
      · rw [if_pos he] at HE
        rw [show (a1 == bl an) = true from beq_iff_eq.2 he] at hC
        generalize (⟨a1.toArray⟩ : ByteArray) = s1 at *
        clear he
        go_big_wp2_with (go_at_fn 68; refine hC.out.mono ?_; rintro e w1 ⟨rfl, hb1⟩)
        go_ret
        exact ⟨ret1_eq (congrArg (Value.int .i64) HE.out), HB.out.trans (hb1.mono HB.out.size)⟩
      · rw [if_neg he] at HE
        rw [show (a1 == bl an) = false from beq_eq_false_iff_ne.2 he] at hC
        generalize (⟨a1.toArray⟩ : ByteArray) = s1 at *
        clear he
        go_big_wp2_with (go_at_fn 68; refine hC.out.mono ?_; rintro e w1 ⟨rfl, hb1⟩)
        exact ⟨⟨j + 1, by go_num, by omega, by rw [show n - (j + 1) = f by omega]; exact HE, Lib.hid (HB.out.trans (hb1.mono HB.out.size))⟩, by simp [RowKit.intOf]; omega⟩
    · obtain rfl : j = n := by omega
      rw [Nat.sub_self] at HE
      have hltI : ((j : Int) < (j : Int)) = False := eq_false (by omega)
      go_big_wp2
      go_ret
      exact ⟨ret1_eq (congrArg (Value.int .i64) HE.out), HB.out⟩

set_option maxRecDepth 100000 in
set_option maxHeartbeats 1000000 in
theorem containsFunc_any (ao : Option Addr) (cap n ga : Nat) (l : List At) (an : ByteArray) (w : World) (hn : n = l.length) (hn2 : n ≤ 65536) (h : AttrsIn w ao l) (hc : w.cell? ⟨ga, 0, none⟩ = some (.string an)) :
    Calls Tryd.prog 67 #[.slice ao n cap, .func (.func 68) #[] #[.pointer (some ⟨ga, 0, none⟩)]] w fun e w' => e = .returned (.bool (l.any fun b => b.1 == bl an)) ∧ Below w.heap.size w w' := by
  have hI := indexFunc_any ao cap n ga l an w hn hn2 h hc
  have hh := nameIdx_hit l (bl an) l.length (Nat.le_refl _)
  rw [Nat.sub_self, List.drop_zero, ← hn] at hh
  obtain ⟨x, hx⟩ : ∃ x, nameIdx l (bl an) n = x := ⟨_, rfl⟩
  obtain ⟨v, hv⟩ : ∃ v, (l.any fun b => b.1 == bl an) = v := ⟨_, rfl⟩
  rw [hx] at hI hh
  rw [hv] at hh ⊢
  have HI := Lib.hid hI
  clear hI hx hv h hc hn
  cases v with
  | true =>
    have h0 : (0 : Int) ≤ x := hh.2 rfl
    clear hh
    go_enter Tryd.func67, Tryd.ntmps67
    go_big_wp2_with (go_at_call 73; refine HI.out.mono ?_; rintro e w1 ⟨rfl, hb1⟩)
    go_ret
    exact ⟨rfl, hb1⟩
  | false =>
    have h0 : x < 0 := by
      by_cases e : (0 : Int) ≤ x
      · have := hh.1 e; cases this
      · omega
    have h0F : ((0 : Int) ≤ x) = False := eq_false (by omega)
    clear hh
    go_enter Tryd.func67, Tryd.ntmps67
    go_big_wp2_with (go_at_call 73; refine HI.out.mono ?_; rintro e w1 ⟨rfl, hb1⟩)
    go_ret
    exact ⟨rfl, hb1⟩
theorem AttrsIn.take {w : World} {ao : Option Addr} {l : List At} (h : AttrsIn w ao l) (n : Nat) : AttrsIn w ao (l.take n) := ⟨fun j a ha => by
  rw [List.getElem?_take] at ha
  split at ha
  · exact h.at_ j a ha
  · cases ha⟩
theorem okAt_eq {l : List At} {j : Nat} {a : At} (h : l[j]? = some a) : okAt l j = (!((l.take j).any fun b => b.1 == a.1) && attrNameL a.1 && wellL ⟨a.2.toArray⟩) := by unfold okAt; rw [h]
theorem attrsOk_no {l : List At} {j : Nat} (hj : j < l.length) (h : okAt l j = false) : attrsOkB l = false := by
  unfold attrsOkB
  rw [Bool.eq_false_iff]
  intro hc
  have := List.all_eq_true.1 hc j (List.mem_range.2 hj)
  rw [h] at this
  cases this

set_option maxRecDepth 100000 in
set_option maxHeartbeats 4000000 in
theorem isElement_any (g m : Nat) (x : NI) (w : World) (h : NodeIn w g m x) (hv : VTabs w) :
    Calls Tryd.prog 57 #[.pointer (some ⟨g, m, none⟩)] w fun e w' => e = .returned (.bool (isElementB x)) ∧ Below w.heap.size w w' := by
  have HNode := Lib.hid h
  have c3 := h.data
  obtain ⟨ao, cap, c2, hA, hcap, hlong⟩ := h.attrs
  have HA := Lib.hid hA
  have HL := Lib.hid fun a (ha : a ∈ x.attrs) => h.long.2 a ha
  have HV := Lib.hid hv
  clear h hv hA
  obtain ⟨k, nm, l, dt, up, kids⟩ := x
  simp only at c3 c2 HA HL hcap hlong
  unfold isElementB
  simp only
  by_cases h3 : dt = []
  · obtain ⟨q1, q2, q3⟩ := toList_nil h3
    subst h3
    obtain ⟨n, hn⟩ : ∃ n, l.length = n := ⟨_, rfl⟩
    rw [hn] at c2 hcap hlong
    rw [hn]
    have hnH := Lib.hid hn
    have HC2 := Lib.hid c2
    by_cases h16 : 16 < n
    · have hI : (16 : Int) < (n : Int) := by omega
      rw [show decide (n ≤ 16) = false from decide_eq_false (by omega), Bool.and_false, Bool.false_and]
      clear hn h16
      go_enter Tryd.func57, Tryd.ntmps57
      go_big_wp2
      go_ret
      exact ⟨rfl, Below.refl _ _⟩
    · have hI : ((16 : Int) < (n : Int)) = False := eq_false (by omega)
      have hn16 : n ≤ 16 := by omega
      rw [show decide (n ≤ 16) = true from decide_eq_true hn16]
      show Calls _ _ _ _ fun e w' => e = .returned (.bool (attrsOkB l)) ∧ _
      clear hn h16
      have HB0 := Lib.hid (Below.refl w.heap.size w)
      have D0 : Hid (∀ i, i < 0 → okAt l i = true) := Lib.hid fun i hi => by omega
      go_enter Tryd.func57, Tryd.ntmps57
      go_big_wp2
      go_loopw [24] (fun a wr => ∃ j : Nat, a = .int .i64 ((j : Nat) : Int) ∧ j ≤ n ∧ Hid (∀ i, i < j → okAt l i = true) ∧ Hid (Below w.heap.size w wr)) (fun a _ => n - (RowKit.intOf a).toNat)
      case atStart => exact ⟨0, rfl, Nat.zero_le _, D0, HB0⟩
      case round =>
        clear D0 HB0 c2 c3
        obtain ⟨j, rfl, hj, HE, HB⟩ := hrel
        by_cases hlt : j < n
        · have hltI : (j : Int) < (n : Int) := by omega
          have hjc : (j : Int) ≤ (cap : Int) := by omega
          have hjl : j < l.length := by have := hnH.out; omega
          have hla : l[j]? = some (l.getD j ([], [])) := by
            rw [List.getD_eq_getElem?_getD, List.getElem?_eq_getElem hjl]
            rfl
          have hok := okAt_eq hla
          have hsz := HL.out _ (List.mem_of_getElem? hla)
          obtain ⟨gk, ok, hko, hc1, hc2⟩ := (HA.out.on HB.out).at_ j _ hla
          subst hko
          obtain ⟨a1, ha1⟩ : ∃ a1, (l.getD j ([], [])).1 = a1 := ⟨_, rfl⟩
          obtain ⟨a2, ha2⟩ : ∃ a2, (l.getD j ([], [])).2 = a2 := ⟨_, rfl⟩
          rw [ha1] at hc1 hok
          rw [ha2] at hc2 hok hsz
          have hN := fun W => isAttrName_any ⟨a1.toArray⟩ W
          rw [bl_of a1] at hN
          have hbl : bl ⟨a1.toArray⟩ = a1 := bl_of a1
          obtain ⟨s1, hs1⟩ : ∃ s1 : ByteArray, ⟨a1.toArray⟩ = s1 := ⟨_, rfl⟩
          obtain ⟨s2, hs2⟩ : ∃ s2 : ByteArray, ⟨a2.toArray⟩ = s2 := ⟨_, rfl⟩
          have hsz2 : s2.size ≤ 9223372036854775807 := by rw [← hs2]; simpa [ByteArray.size] using hsz
          rw [hs1] at hc1 hN hbl
          rw [hs2] at hc2 hok
          have hb2 : Below wr.heap.size wr (wr.alloc (.cells #[.string s1, .string s2] 35)) := (Below.refl _ _).alloc (Nat.le_refl _) _
          have hl2 := heap_alloc_new wr (.cells #[.string s1, .string s2] 35)
          have z0 : (wr.alloc (.cells #[.string s1, .string s2] 35)).cell? ⟨wr.heap.size, 0, none⟩ = some (.string s1) := by rw [cell_of_row _ _ 0 _ _ _ hl2]; rfl
          have z1 : (wr.alloc (.cells #[.string s1, .string s2] 35)).cell? ⟨wr.heap.size, 1, none⟩ = some (.string s2) := by rw [cell_of_row _ _ 1 _ _ _ hl2]; rfl
          have c2r : (wr.alloc (.cells #[.string s1, .string s2] 35)).cell? ⟨g, m + 2, none⟩ = some (.slice (some ⟨gk, ok, none⟩) n cap) := by
            have hbw := HB.out.trans (hb2.mono HB.out.size)
            rw [hbw.cell (World.block_lt_of_cell? _ _ HC2.out)]; exact HC2.out
          have hC := containsFunc_any (some ⟨gk, ok, none⟩) cap j wr.heap.size (l.take j) s1 (wr.alloc (.cells #[.string s1, .string s2] 35)) (by rw [List.length_take]; omega) (by omega) (((HA.out.on HB.out).on hb2).take j) z0
          rw [hbl] at hC
          obtain ⟨tw, htw⟩ : ∃ tw, ((l.take j).any fun b => b.1 == a1) = tw := ⟨_, rfl⟩
          obtain ⟨an, han⟩ : ∃ an, attrNameL a1 = an := ⟨_, rfl⟩
          obtain ⟨pl, hpl⟩ : ∃ pl, wellL s2 = pl := ⟨_, rfl⟩
          rw [htw] at hC hok
          rw [han] at hN hok
          rw [hpl] at hok
          have HC := Lib.hid hC
          have HN := Lib.hid hN
          have HO := Lib.hid hok
          have HP := Lib.hid fun W (hb : Below w.heap.size w W) => hpl ▸ isPlain_any s2 W hsz2 (HV.out.on hb)
          have HZ := Lib.hid (And.intro z0 z1)
          have HB2 := Lib.hid (HB.out.trans (hb2.mono HB.out.size))
          have NO : Hid (okAt l j = false → attrsOkB l = false) := Lib.hid fun h => attrsOk_no hjl h
          have YES : Hid (okAt l j = true → ∀ i, i < j + 1 → okAt l i = true) := Lib.hid fun h i hi => by
            by_cases e : i = j
            · subst e; exact h
            · exact HE.out i (by omega)
          clear hC hN hok hb2 hl2 z0 z1 hla hsz ha1 ha2 hs1 hs2 hbl htw han hpl hsz2 hjl
          cases tw with
          | true =>
            have HAns := Lib.hid (NO.out (by rw [HO.out]; rfl))
            go_big_wp2_with (go_at_call 67; refine HC.out.mono ?_; rintro e w3 ⟨rfl, hb3⟩)
            go_ret
            exact ⟨ret1_eq (congrArg Value.bool HAns.out.symm), HB2.out.trans (hb3.mono HB2.out.size)⟩
          | false =>
            cases an with
            | false =>
              have HAns := Lib.hid (NO.out (by rw [HO.out]; rfl))
              go_big_wp2_with (first
                | (go_at_call 67
                   refine HC.out.mono ?_
                   rintro e w3 ⟨rfl, hb3⟩
                   have d0 : w3.cell? ⟨wr.heap.size, 0, none⟩ = some (.string s1) := by rw [hb3.cell (World.block_lt_of_cell? _ _ HZ.out.1)]; exact HZ.out.1
                   have HB3 := Lib.hid (HB2.out.trans (hb3.mono HB2.out.size))
                   clear hb3)
                | (go_at_call 69; refine (HN.out _).mono ?_; rintro e w4 ⟨rfl, hb4⟩))
              go_ret
              exact ⟨ret1_eq (congrArg Value.bool HAns.out.symm), HB3.out.trans (hb4.mono HB3.out.size)⟩
            | true =>
              cases pl with
              | false =>
                have HAns := Lib.hid (NO.out (by rw [HO.out]; rfl))
                go_big_wp2_with (first
                  | (go_at_call 67
                     refine HC.out.mono ?_
                     rintro e w3 ⟨rfl, hb3⟩
                     have d0 : w3.cell? ⟨wr.heap.size, 0, none⟩ = some (.string s1) := by rw [hb3.cell (World.block_lt_of_cell? _ _ HZ.out.1)]; exact HZ.out.1
                     have d1 : Hid (w3.cell? ⟨wr.heap.size, 1, none⟩ = some (.string s2)) := Lib.hid (by rw [hb3.cell (World.block_lt_of_cell? _ _ HZ.out.2)]; exact HZ.out.2)
                     have HB3 := Lib.hid (HB2.out.trans (hb3.mono HB2.out.size))
                     clear hb3)
                  | (go_at_call 69
                     refine (HN.out _).mono ?_
                     rintro e w4 ⟨rfl, hb4⟩
                     have d4 : w4.cell? ⟨wr.heap.size, 1, none⟩ = some (.string s2) := by rw [hb4.cell (World.block_lt_of_cell? _ _ d1.out)]; exact d1.out
                     have HB4 := Lib.hid (HB3.out.trans (hb4.mono HB3.out.size))
                     clear hb4)
                  | (go_at_call 66; refine (HP.out _ HB4.out).mono ?_; rintro e w5 ⟨rfl, hb5⟩))
                go_ret
                exact ⟨ret1_eq (congrArg Value.bool HAns.out.symm), HB4.out.trans (hb5.mono HB4.out.size)⟩
              | true =>
                have HAns := Lib.hid (YES.out (by rw [HO.out]; rfl))
                go_big_wp2_with (first
                  | (go_at_call 67
                     refine HC.out.mono ?_
                     rintro e w3 ⟨rfl, hb3⟩
                     have d0 : w3.cell? ⟨wr.heap.size, 0, none⟩ = some (.string s1) := by rw [hb3.cell (World.block_lt_of_cell? _ _ HZ.out.1)]; exact HZ.out.1
                     have d1 : Hid (w3.cell? ⟨wr.heap.size, 1, none⟩ = some (.string s2)) := Lib.hid (by rw [hb3.cell (World.block_lt_of_cell? _ _ HZ.out.2)]; exact HZ.out.2)
                     have HB3 := Lib.hid (HB2.out.trans (hb3.mono HB2.out.size))
                     clear hb3)
                  | (go_at_call 69
                     refine (HN.out _).mono ?_
                     rintro e w4 ⟨rfl, hb4⟩
                     have d4 : w4.cell? ⟨wr.heap.size, 1, none⟩ = some (.string s2) := by rw [hb4.cell (World.block_lt_of_cell? _ _ d1.out)]; exact d1.out
                     have HB4 := Lib.hid (HB3.out.trans (hb4.mono HB3.out.size))
                     clear hb4)
                  | (go_at_call 66; refine (HP.out _ HB4.out).mono ?_; rintro e w5 ⟨rfl, hb5⟩))
                exact ⟨⟨j + 1, by go_num, by omega, HAns, Lib.hid (HB4.out.trans (hb5.mono HB4.out.size))⟩, by simp [RowKit.intOf]; omega⟩
        · obtain rfl : j = n := by omega
          have HAns : Hid (attrsOkB l = true) := Lib.hid (List.all_eq_true.2 fun i hi => HE.out i (by have := List.mem_range.1 hi; have := hnH.out; omega))
          have hltI : ((j : Int) < (j : Int)) = False := eq_false (by omega)
          go_big_wp2
          go_ret
          exact ⟨ret1_eq (congrArg Value.bool HAns.out.symm), HB.out⟩
  · obtain ⟨q1, q2, q3⟩ := toList_ne h3
    rw [empty_ne h3, Bool.false_and, Bool.false_and]
    obtain ⟨ds, hds⟩ : ∃ ds : ByteArray, ⟨dt.toArray⟩ = ds := ⟨_, rfl⟩
    rw [hds] at c3 q1 q2 q3
    clear hds
    clear h3
    go_enter Tryd.func57, Tryd.ntmps57
    go_big_wp2
    go_ret
    exact ⟨rfl, Below.refl _ _⟩
end Go.Proofs.YtkfmfldkllkcbabDoor

namespace Go.TreeKit
open Go Go.Lib Go.TokenKit
def noNI : NI := ⟨0, [], [], [], 0, []⟩
/-- Are these the children of node i, rising from the last one on, and no text behind one? -/
def kidsL (T : List NI) (i : Nat) : Nat → List Int → Bool
  | _, [] => true
  | last, k :: r =>
    if k ≤ (last : Int) then false
    else if (T.length : Int) ≤ k then false
    else if (T.getD k.toNat noNI).up = (i : Int) then
      (if (T.getD last noNI).kind = 2 ∧ (T.getD k.toNat noNI).kind = 2 then false else kidsL T i k.toNat r)
    else false
theorem kidsL_len {T : List NI} {i : Nat} : ∀ {l : List Int} {last : Nat}, last < T.length → kidsL T i last l = true → l.length + last + 1 ≤ T.length
  | [], last, h, _ => by simp; omega
  | k :: r, last, h, hk => by
    unfold kidsL at hk
    split at hk
    · cases hk
    · split at hk
      · cases hk
      · split at hk
        · split at hk
          · cases hk
          · have := kidsL_len (l := r) (last := k.toNat) (by omega) hk
            simp only [List.length_cons]
            omega
        · cases hk
/-- Do all nodes from i on have their children? How many there are. -/
def haveF (T : List NI) : Nat → Nat → Nat → Option Nat
  | 0, _, c => some c
  | f + 1, i, c => if kidsL T i i (T.getD i noNI).kids then haveF T f (i + 1) (c + (T.getD i noNI).kids.length) else none
def haveR (n : Nat) : Option Nat → Bool
  | some c => decide ((c : Int) = (n : Int) - 1)
  | none => false
def haveKidsB (T : List NI) : Bool := haveR T.length (haveF T T.length 0 0)
end Go.TreeKit
namespace Go.Proofs.YtkfmfldkllkcbabDoor
open Go.RowKit Go.RunKit Go.CharrefKit Go.Lib Go.TokenKit Go.TreeKit

theorem node_at {T : List NI} {k : Nat} (h : k < T.length) : T[k]? = some (T.getD k noNI) := by
  rw [List.getD_eq_getElem?_getD, List.getElem?_eq_getElem h]
  rfl

set_option maxRecDepth 100000 in
set_option maxHeartbeats 4000000 in
theorem areKids_any (g o cap n i : Nat) (T : List NI) (w : World) (hn : n = T.length) (_hn2 : n ≤ 16384) (hi : i < n) (h : TreeIn w g o T) :
    Calls Tryd.prog 53 #[.slice (some ⟨g, o, none⟩) n cap, .int .i64 ((i : Nat) : Int)] w fun e w' => e = .returned (.bool (kidsL T i i (T.getD i noNI).kids)) ∧ w = w' := by
  have hx := h.at_ i _ (node_at (by omega))
  obtain ⟨ko, kcap, ck, hI, hlong⟩ := hx.kids
  have HI := Lib.hid hI
  have HT := Lib.hid h
  obtain ⟨ks, hks⟩ : ∃ ks, (T.getD i noNI).kids = ks := ⟨_, rfl⟩
  rw [hks] at ck HI hlong
  rw [hks]
  obtain ⟨ans, hans⟩ : ∃ a, kidsL T i i ks = a := ⟨_, rfl⟩
  rw [hans]
  have D0 : Hid (kidsL T i i (ks.drop 0) = ans) := Lib.hid hans
  clear hx hI h hks hans
  have hiI : (i : Int) < (n : Int) := by omega
  have hnH := Lib.hid hn
  clear hn
  obtain ⟨m, hm⟩ : ∃ m, ks.length = m := ⟨_, rfl⟩
  rw [hm] at ck hlong
  have hM := Lib.hid hm
  clear hm
  go_enter Tryd.func53, Tryd.ntmps53
  go_big_wp2
  go_loop [5, 15] (fun a b => ∃ (last j : Nat), a = .int .i64 ((last : Nat) : Int) ∧ b = .int .i64 ((j : Nat) : Int) ∧ last < n ∧ j ≤ m ∧ Hid (kidsL T i last (ks.drop j) = ans)) (fun _ b => m - (RowKit.intOf b).toNat)
  case atStart => exact ⟨i, 0, rfl, rfl, hi, Nat.zero_le _, D0⟩
  case round =>
    clear D0
    obtain ⟨last, j, rfl, rfl, hl, hj, HE⟩ := hrel
    by_cases hlt : j < m
    · have hltI : (j : Int) < (m : Int) := by omega
      obtain ⟨k, hk⟩ : ∃ k, ks[j]? = some k := ⟨_, List.getElem?_eq_getElem (by have := hM.out; omega)⟩
      have hd : ks.drop j = k :: ks.drop (j + 1) := by
        obtain ⟨h', e⟩ := List.getElem?_eq_some_iff.1 hk
        rw [List.drop_eq_getElem_cons h', e]
      rw [hd] at HE
      obtain ⟨gk, ok, hko, hck⟩ := HI.out.at_ j k hk
      subst hko
      clear hk hd
      unfold kidsL at HE
      by_cases h1 : k ≤ (last : Int)
      · rw [if_pos h1] at HE
        go_big_wp2
        go_ret
        exact ⟨ret1_eq (congrArg Value.bool HE.out), rfl⟩
      · have h1I := eq_false h1
        rw [if_neg h1] at HE
        by_cases h2 : (T.length : Int) ≤ k
        · have h2I : (n : Int) ≤ k := by have := hnH.out; omega
          rw [if_pos h2] at HE
          clear h2
          go_big_wp2
          go_ret
          exact ⟨ret1_eq (congrArg Value.bool HE.out), rfl⟩
        · obtain ⟨kn, rfl⟩ : ∃ kn : Nat, k = (kn : Int) := ⟨k.toNat, by omega⟩
          rw [if_neg h2] at HE
          have hkn : kn < n := by have := hnH.out; omega
          have h2I : ((n : Int) ≤ (kn : Int)) = False := eq_false (by omega)
          have h0I : (0 : Int) ≤ (kn : Int) := by omega
          have h3I : (kn : Int) < (n : Int) := by omega
          have hlI : (last : Int) < (n : Int) := by omega
          rw [Int.toNat_natCast] at HE
          have hy := HT.out.at_ kn _ (node_at (by have := hnH.out; omega))
          have hz := HT.out.at_ last _ (node_at (by have := hnH.out; omega))
          have cu := hy.up
          have cy := hy.kind
          have cz := hz.kind
          clear hy hz h2 h1
          by_cases h4 : (T.getD kn noNI).up = (i : Int)
          · rw [if_pos h4] at HE
            rw [h4] at cu
            clear h4
            obtain ⟨ky, hky⟩ : ∃ ky, (T.getD kn noNI).kind = ky := ⟨_, rfl⟩
            obtain ⟨kz, hkz⟩ : ∃ kz, (T.getD last noNI).kind = kz := ⟨_, rfl⟩
            rw [hky] at cy HE
            rw [hkz] at cz HE
            clear hky hkz
            by_cases h5 : kz = 2
            · subst h5
              by_cases h6 : ky = 2
              · subst h6
                rw [if_pos ⟨rfl, rfl⟩] at HE
                go_big_wp2
                go_ret
                exact ⟨ret1_eq (congrArg Value.bool HE.out), rfl⟩
              · have h6I : (((ky : Nat) : Int) = 2) = False := eq_false (by omega)
                have h6B : (((ky : Nat) : Int) == 2) = false := by rw [beq_eq_false_iff_ne]; omega
                rw [if_neg (fun e => h6 e.2)] at HE
                clear h6
                go_big_wp2
                exact ⟨⟨kn, j + 1, rfl, by go_num, hkn, by omega, HE⟩, by simp [RowKit.intOf]; omega⟩
            · have h5I : (((kz : Nat) : Int) = 2) = False := eq_false (by omega)
              have h5B : (((kz : Nat) : Int) == 2) = false := by rw [beq_eq_false_iff_ne]; omega
              rw [if_neg (fun e => h5 e.1)] at HE
              clear h5
              go_big_wp2
              exact ⟨⟨kn, j + 1, rfl, by go_num, hkn, by omega, HE⟩, by simp [RowKit.intOf]; omega⟩
          · rw [if_neg h4] at HE
            have h4I := eq_false h4
            have h4B : ((T.getD kn noNI).up != (i : Int)) = true := bne_iff_ne.2 h4
            obtain ⟨u, hu⟩ : ∃ u, (T.getD kn noNI).up = u := ⟨_, rfl⟩
            rw [hu] at cu h4I h4B
            clear h4 hu
            go_big_wp2
            go_ret
            exact ⟨ret1_eq (congrArg Value.bool HE.out), rfl⟩
    · obtain rfl : j = m := by omega
      have hd : ks.drop j = [] := List.drop_eq_nil_of_le (by have := hM.out; omega)
      rw [hd] at HE
      have hltI : ((j : Int) < (j : Int)) = False := eq_false (by omega)
      clear hd
      go_big_wp2
      go_ret
      exact ⟨ret1_eq (congrArg Value.bool HE.out), rfl⟩

set_option maxRecDepth 100000 in
set_option maxHeartbeats 4000000 in
theorem haveKids_any (g o cap n : Nat) (T : List NI) (w : World) (hn : n = T.length) (hn2 : n ≤ 16384) (h : TreeIn w g o T) :
    Calls Tryd.prog 38 #[.slice (some ⟨g, o, none⟩) n cap] w fun e w' => e = .returned (.bool (haveKidsB T)) ∧ w = w' := by
  have HA := Lib.hid fun (i : Nat) (hi : i < n) => areKids_any g o cap n i T w hn hn2 hi h
  have HT := Lib.hid h
  have hnH := Lib.hid hn
  obtain ⟨res, hres⟩ : ∃ r, haveF T T.length 0 0 = r := ⟨_, rfl⟩
  have D0 : Hid (haveF T n 0 0 = res) := Lib.hid (by rw [hn, hres])
  obtain ⟨ans, hans⟩ : ∃ a, haveKidsB T = a := ⟨_, rfl⟩
  have HAl : Hid (ans = haveR T.length res) := Lib.hid (by rw [← hans, ← hres]; rfl)
  rw [hans]
  clear hn h hres hans
  go_enter Tryd.func38, Tryd.ntmps38
  go_big_wp2
  go_loop [3, 7] (fun a b => ∃ (c j : Nat), a = .int .i64 ((c : Nat) : Int) ∧ b = .int .i64 ((j : Nat) : Int) ∧ j ≤ n ∧ c ≤ j * 16384 ∧ Hid (haveF T (n - j) j c = res)) (fun _ b => n - (RowKit.intOf b).toNat)
  case atStart => exact ⟨0, 0, rfl, rfl, Nat.zero_le _, by omega, D0⟩
  case round =>
    clear D0
    obtain ⟨c, j, rfl, rfl, hj, hc, HE⟩ := hrel
    by_cases hlt : j < n
    · have hltI : (j : Int) < (n : Int) := by omega
      obtain ⟨f, hf⟩ : ∃ f, n - j = f + 1 := ⟨n - j - 1, by omega⟩
      rw [hf] at HE
      unfold haveF at HE
      have hC := HA.out j hlt
      have hx := HT.out.at_ j _ (node_at (by have := hnH.out; omega))
      obtain ⟨ko, kcap, ck, _, _⟩ := hx.kids
      have hle : kidsL T j j (T.getD j noNI).kids = true → (T.getD j noNI).kids.length ≤ 16384 := fun hk => by
        have := kidsL_len (by have := hnH.out; omega) hk
        have := hnH.out
        omega
      obtain ⟨ks, hks⟩ : ∃ ks, (T.getD j noNI).kids = ks := ⟨_, rfl⟩
      rw [hks] at hC ck hle HE
      clear hx hks
      cases hb : kidsL T j j ks with
      | false =>
        rw [hb] at hC HE
        rw [if_neg (by decide)] at HE
        have HC := Lib.hid hC
        clear hC hle
        have hans : ans = false := by rw [HAl.out, ← HE.out]; rfl
        have HAns := Lib.hid hans
        clear hans
        go_big_wp2_with (go_at_call 53; refine HC.out.mono ?_; rintro e w1 ⟨rfl, rfl⟩)
        go_ret
        exact ⟨ret1_eq (congrArg Value.bool HAns.out.symm), rfl⟩
      | true =>
        rw [hb] at hC HE
        rw [if_pos rfl] at HE
        have HC := Lib.hid hC
        have hle2 := hle hb
        obtain ⟨m, hm⟩ : ∃ m, ks.length = m := ⟨_, rfl⟩
        rw [hm] at ck hle2 HE
        clear hC hle hb hm
        have hsum : wrap64 ((c : Int) + (m : Int)) = ((c + m : Nat) : Int) := by rw [IntWalk.wrap64_in _ ⟨by omega, by omega⟩]; omega
        go_big_wp2_with (go_at_call 53; refine HC.out.mono ?_; rintro e w1 ⟨rfl, rfl⟩)
        exact ⟨⟨c + m, j + 1, by go_num, by go_num, by omega, by omega, by rw [show n - (j + 1) = f by omega]; exact HE⟩, by simp [RowKit.intOf]; omega⟩
    · obtain rfl : j = n := by omega
      rw [Nat.sub_self] at HE
      have hans : ans = decide ((c : Int) = (j : Int) - 1) := by rw [HAl.out, ← HE.out, hnH.out]; rfl
      have HAns := Lib.hid hans
      clear hans
      have hltI : ((j : Int) < (j : Int)) = False := eq_false (by omega)
      have hsub : wrap64 ((j : Int) - 1) = (j : Int) - 1 := IntWalk.wrap64_in _ ⟨by omega, by omega⟩
      by_cases he : (c : Int) = (j : Int) - 1
      · go_big_wp2
        go_ret
        refine ⟨ret1_eq (congrArg Value.bool ?_), rfl⟩
        rw [HAns.out]
        simp [he]
      · go_big_wp2
        go_ret
        refine ⟨ret1_eq (congrArg Value.bool ?_), rfl⟩
        rw [HAns.out]
        simp [he]
end Go.Proofs.YtkfmfldkllkcbabDoor

namespace Go.TreeKit
open Go Go.Lib Go.TokenKit
/-- All above a node closed. -/
def downL (node : Int) : List Opd → List Opd
  | [] => []
  | o :: r => if (o.node : Int) = node then o :: r else downL node r
theorem downL_len (node : Int) : ∀ l : List Opd, (downL node l).length ≤ l.length
  | [] => Nat.le_refl _
  | o :: r => by
    unfold downL
    split
    · exact Nat.le_refl _
    · have := downL_len node r; simp only [List.length_cons]; omega
end Go.TreeKit
namespace Go.Proofs.YtkfmfldkllkcbabDoor
open Go.RowKit Go.RunKit Go.CharrefKit Go.Lib Go.TokenKit Go.TreeKit

abbrev TSt : TypeId := 88
/-- The stack in a block of its own. -/
structure StAt (w0 : World) (b : Nat) (ao : Option Addr) (cap : Nat) (st : List Opd) (W : World) : Prop where
  below : Below w0.heap.size w0 W
  le : w0.heap.size ≤ b
  blk : W.heap[b]? = some (.cells #[.slice ao st.length cap] TSt (0, 0))
  opens : W.ownsRow w0.heap.size TOp 3 (.slice ao st.length cap) st.length (opCells st.reverse)
theorem StAt.on {w0 W W' : World} {b : Nat} {ao : Option Addr} {cap : Nat} {st : List Opd} (h : StAt w0 b ao cap st W) (hb : Below W.heap.size W W') : StAt w0 b ao cap st W' :=
  ⟨h.below.trans (hb.mono h.below.size), h.le, by rw [hb.block _ (Array.getElem?_eq_some_iff.1 h.blk).1]; exact h.blk, own_on h.opens hb⟩
theorem StAt.cell {w0 W : World} {b : Nat} {ao : Option Addr} {cap : Nat} {st : List Opd} (h : StAt w0 b ao cap st W) : W.cell? ⟨b, 0, none⟩ = some (.slice ao st.length cap) := by rw [cell_of_row _ _ 0 _ _ _ h.blk]; rfl
theorem StAt.frozen {w0 W : World} {b : Nat} {ao : Option Addr} {cap : Nat} {st : List Opd} (h : StAt w0 b ao cap st W) : W.frozen? ⟨b, 0, none⟩ = false := frozen_of_row _ _ _ _ _ h.blk
theorem StAt.set {w0 W : World} {b : Nat} {ao ao' : Option Addr} {cap cap' : Nat} {st st' : List Opd} (h : StAt w0 b ao cap st W) (ho : W.ownsRow w0.heap.size TOp 3 (.slice ao' st'.length cap') st'.length (opCells st'.reverse)) : StAt w0 b ao' cap' st' (W.setCell ⟨b, 0, none⟩ (.slice ao' st'.length cap')) :=
  ⟨h.below.setCell h.le _, h.le, by have := heap_setCell_same W b 0 _ _ (.slice ao' st'.length cap') h.blk; simpa using this, own_other ho h.blk (by decide) (grown_set _ _ _ _)⟩
theorem StAt.grew {w0 W W2 : World} {b : Nat} {ao ao' : Option Addr} {cap cap' : Nat} {st st' : List Opd} (h : StAt w0 b ao cap st W) (hg : W.grownBy W2 (Value.slice ao st.length cap).ownBlock) (ho : W2.ownsRow w0.heap.size TOp 3 (.slice ao' st'.length cap') st'.length (opCells st'.reverse)) : StAt w0 b ao' cap' st' (W2.setCell ⟨b, 0, none⟩ (.slice ao' st'.length cap')) := by
  have hblk : W2.heap[b]? = some (.cells #[.slice ao st.length cap] TSt (0, 0)) := (hg.block b (Array.getElem?_eq_some_iff.1 h.blk).1 (fun e => own_ne h.opens h.blk (by decide) e.symm)).trans h.blk
  have hb : Below w0.heap.size w0 W2 := h.below.grown hg h.below.size (fun k hk => (World.ownsRow.lt h.opens k hk).1)
  exact ⟨hb.setCell h.le _, h.le, by have := heap_setCell_same W2 b 0 _ _ (.slice ao' st'.length cap') hblk; simpa using this, own_other ho hblk (by decide) (grown_set _ _ _ _)⟩

theorem StAt.blkGrown {w0 W W2 : World} {b : Nat} {ao : Option Addr} {cap n : Nat} {st : List Opd} (h : StAt w0 b ao cap st W) (hn : st.length = n) (hg : W.grownBy W2 (Value.slice ao n cap).ownBlock) : W2.cell? ⟨b, 0, none⟩ = some (.slice ao n cap) ∧ W2.frozen? ⟨b, 0, none⟩ = false := by
  subst hn
  have hblk : W2.heap[b]? = some (.cells #[.slice ao st.length cap] TSt (0, 0)) := (hg.block b (Array.getElem?_eq_some_iff.1 h.blk).1 (fun e => own_ne h.opens h.blk (by decide) e.symm)).trans h.blk
  exact ⟨by rw [cell_of_row _ _ 0 _ _ _ hblk]; rfl, frozen_of_row _ _ _ _ _ hblk⟩

set_option maxRecDepth 100000 in
set_option maxHeartbeats 1000000 in
theorem pop1_any (w0 : World) (b : Nat) (ao : Option Addr) (cap n : Nat) (o : Opd) (r : List Opd) (W : World) (hn : (o :: r).length = n) (hn32 : n ≤ 4294967296) (h : StAt w0 b ao cap (o :: r) W) :
    Calls Tryd.prog 65 #[.pointer (some ⟨b, 0, none⟩)] W fun e w' => e = .returned (.tuple #[]) ∧ StAt w0 b ao cap r w' := by
  have hop := h.opens
  have hO : W.ownsRow w0.heap.size TOp 3 (.slice ao r.length cap) r.length (opCells r.reverse) := opens_pop (by simpa using hop)
  have HB := Lib.hid (h.set hO)
  have x0 := h.cell
  have y0 := h.frozen
  rw [List.length_cons] at hn hop x0
  subst hn
  have h0 : (0 : Int) ≤ ((r.length + 1 : Nat) : Int) - 1 := by omega
  have hI : ((r.length + 1 : Nat) : Int) ≤ 4294967296 := by omega
  have hI2 : ((r.length + 1 : Nat) : Int) - 1 = (r.length : Int) := by omega
  have hcap : (r.length : Int) ≤ (cap : Int) := by
    rcases hop.2 with ⟨_, h'⟩ | ⟨_, _, _, e, _, _, hc, _⟩
    · omega
    · cases e; omega
  have hw : IntKind.i64.wrap (r.length : Int) = (r.length : Int) := IntWalk.i64_in _ (by omega)
  clear h hop hO
  go_enter Tryd.func65, Tryd.ntmps65
  go_big_wp2
  go_region
  all_goals
    go_end0
    exact ⟨rfl, HB.out.on (Below.refl _ _).drew⟩

set_option maxRecDepth 100000 in
set_option maxHeartbeats 2000000 in
theorem push1_any (w0 : World) (b : Nat) (ao : Option Addr) (cap n : Nat) (st : List Opd) (nd k : Nat) (nm : ByteArray) (W : World) (hn : st.length = n) (hn32 : n ≤ 4294967296) (h : StAt w0 b ao cap st W) :
    Calls Tryd.prog 60 #[.pointer (some ⟨b, 0, none⟩), .agg #[.int .i64 ((nd : Nat) : Int), .string nm, .int .u8 ((k : Nat) : Int)]] W fun e w' => e = .returned (.tuple #[]) ∧ ∃ ao' cap', StAt w0 b ao' cap' (⟨nd, bl nm, k⟩ :: st) w' := by
  have b1 : Below W.heap.size W (W.alloc (.cells #[.int .i64 ((nd : Nat) : Int), .string nm, .int .u8 ((k : Nat) : Int)] TOp)) := (Below.refl _ _).alloc (Nat.le_refl _) _
  have h1 := h.on b1
  obtain ⟨W1, hW1⟩ : ∃ W1, W.alloc (.cells #[.int .i64 ((nd : Nat) : Int), .string nm, .int .u8 ((k : Nat) : Int)] TOp) = W1 := ⟨_, rfl⟩
  have hl := heap_alloc_new W (.cells #[.int .i64 ((nd : Nat) : Int), .string nm, .int .u8 ((k : Nat) : Int)] TOp)
  rw [hW1] at h1 hl
  obtain ⟨B, hB⟩ : ∃ B, W.heap.size = B := ⟨_, rfl⟩
  rw [hB] at hl
  have x0 := h1.cell
  have y0 := h1.frozen
  rw [hn] at x0
  have z0 : W1.cell? ⟨B, 0, none⟩ = some (.int .i64 ((nd : Nat) : Int)) := by rw [cell_of_row W1 B 0 _ _ _ hl]; rfl
  have z1 : W1.cell? ⟨B, 1, none⟩ = some (.string nm) := by rw [cell_of_row W1 B 1 _ _ _ hl]; rfl
  have z2 : W1.cell? ⟨B, 2, none⟩ = some (.int .u8 ((k : Nat) : Int)) := by rw [cell_of_row W1 B 2 _ _ _ hl]; rfl
  have HN := Lib.hid hn
  obtain ⟨i0, hi0, hz0, hz1, hz2⟩ := info_parts Tryd.infoOp
  have hG := h1.on (W' := (W1.alloc (.cells #[.int .i64 ((nd : Nat) : Int), .string nm, .int .u8 ((k : Nat) : Int)] TOp)).drew) ((Below.refl _ _).alloc (Nat.le_refl _) _).drew
  have HG := Lib.hid hG
  have hp := h1.on (W' := W1.alloc (.cells #[.int .i64 ((nd : Nat) : Int), .string nm, .int .u8 ((k : Nat) : Int)] TOp)) ((Below.refl _ _).alloc (Nat.le_refl _) _)
  have p0 := hp.cell
  have q0 := hp.frozen
  rw [hn] at p0
  have HNews : Hid ((W1.alloc (.cells #[.int .i64 ((nd : Nat) : Int), .string nm, .int .u8 ((k : Nat) : Int)] TOp)).drew.heap[W1.heap.size]? = some (.cells #[.int .i64 ((nd : Nat) : Int), .string nm, .int .u8 ((k : Nat) : Int)] TOp (0, 0))) := Lib.hid (heap_alloc_new W1 _)
  have H1c : Hid (∀ u ∈ [Value.int .i64 ((nd : Nat) : Int), Value.string nm, Value.int .u8 ((k : Nat) : Int)], u.oneCell' = true) := Lib.hid fun u hu => by simp only [List.mem_cons, List.not_mem_nil, or_false] at hu; rcases hu with rfl | rfl | rfl <;> rfl
  have HMx : Hid (n + 1 ≤ maxLen) := Lib.hid (by unfold maxLen; omega)
  have HOp := Lib.hid (show (W1.alloc (.cells #[.int .i64 ((nd : Nat) : Int), .string nm, .int .u8 ((k : Nat) : Int)] TOp)).drew.ownsRow w0.heap.size TOp 3 (.slice ao n cap) n (opCells st.reverse) from by have := hG.opens; rwa [hn] at this)
  have HFin : Hid (∀ (W2 : World) (v' : Value), (W1.alloc (.cells #[.int .i64 ((nd : Nat) : Int), .string nm, .int .u8 ((k : Nat) : Int)] TOp)).drew.grownBy W2 (Value.slice ao n cap).ownBlock → ∀ g cap', v' = .slice (some ⟨g, 0, none⟩) (n + 1) cap' → W2.ownsRow w0.heap.size TOp 3 v' (n + 1) (opCells st.reverse ++ opCell ⟨nd, bl nm, k⟩) → StAt w0 b (some ⟨g, 0, none⟩) cap' (⟨nd, bl nm, k⟩ :: st) (W2.setCell ⟨b, 0, none⟩ v')) := Lib.hid fun W2 v' hg g cap' hv ho => by
    subst hv
    have hlen : (⟨nd, bl nm, k⟩ :: st : List Opd).length = n + 1 := by rw [List.length_cons, hn]
    have := hG.grew (st' := ⟨nd, bl nm, k⟩ :: st) (ao' := some ⟨g, 0, none⟩) (cap' := cap') (by rw [hn]; exact hg) (by have := opens_push (o := ⟨nd, bl nm, k⟩) (l := st) ho (by rw [hn]); rwa [hlen] at this ⊢)
    rwa [hlen] at this
  clear h h1 b1 hl hG hp
  go_enter Tryd.func60, Tryd.ntmps60
  go_big_wp2
  go_region_law (refine step_append_lies _ rfl _ _ 88 rfl w0.heap.size 93 i0 _ 3 32 Tryd.underlying88 hi0 hz0 hz1 hz2 rfl (by decide) _ n (opCells st.reverse) rfl HOp.out ⟨W1.heap.size, 0, none⟩ 1 1 [.int .i64 ((nd : Nat) : Int), .string nm, .int .u8 ((k : Nat) : Int)] rfl rfl (World.news_of_block HNews.out) H1c.out (by decide) HMx.out (by omega) HG.out.below.size _ rfl ?_; intro g cap' W2 hown hgrow _ _; obtain ⟨u0, v0⟩ := HG.out.blkGrown HN.out hgrow; have HOwn := Lib.hid hown; have HGr := Lib.hid hgrow; clear hown hgrow)
  all_goals
    go_end0
    refine ⟨rfl, some ⟨g, 0, none⟩, cap', ?_⟩
    have ho := HOwn.out
    rw [show [Value.int .i64 ((nd : Nat) : Int), Value.string nm, Value.int .u8 ((k : Nat) : Int)] = opCell ⟨nd, bl nm, k⟩ from rfl] at ho
    exact HFin.out _ _ HGr.out g cap' rfl ho
def lenAt (b : Nat) (w : World) : Nat := match w.cell? ⟨b, 0, none⟩ with
  | some (.slice _ n _) => n
  | _ => 0
theorem StAt.lenAt {w0 W : World} {b : Nat} {ao : Option Addr} {cap : Nat} {st : List Opd} (h : StAt w0 b ao cap st W) : lenAt b W = st.length := by
  unfold Proofs.YtkfmfldkllkcbabDoor.lenAt
  rw [h.cell]

set_option maxRecDepth 100000 in
set_option maxHeartbeats 4000000 in
theorem downTo_any (w0 : World) (b : Nat) (ao : Option Addr) (cap : Nat) (st : List Opd) (node : Int) (W : World) (hn32 : st.length ≤ 65536) (h : StAt w0 b ao cap st W) :
    Calls Tryd.prog 54 #[.pointer (some ⟨b, 0, none⟩), .int .i64 node] W fun e w' => e = .returned (.bool (!(downL node st).isEmpty)) ∧ StAt w0 b ao cap (downL node st) w' := by
  have H0 := Lib.hid h
  obtain ⟨st1, hst1⟩ : ∃ l, downL node st = l := ⟨_, rfl⟩
  rw [hst1]
  have HD := Lib.hid hst1
  clear h hst1
  go_enter Tryd.func54, Tryd.ntmps54
  go_big_wp2
  go_loopw [] (fun wr => ∃ l : List Opd, Hid (StAt w0 b ao cap l wr) ∧ l.length ≤ 65536 ∧ Hid (downL node l = st1)) (fun wr => lenAt b wr)
  case atStart => exact ⟨st, H0, hn32, HD⟩
  case round =>
    obtain ⟨l, HS, hl32, HC⟩ := hrel
    have x0 := HS.out.cell
    have hm0 := Lib.hid HS.out.lenAt
    cases hl : l with
    | nil =>
      rw [hl] at HS HC x0
      have hE : Hid (st1 = []) := Lib.hid (by rw [← HC.out]; rfl)
      simp only [List.length_nil] at x0
      clear hl
      go_big_wp2
      go_ret
      exact ⟨by rw [hE.out]; rfl, by rw [hE.out]; exact HS.out⟩
    | cons o r =>
      rw [hl] at HS HC x0 hl32 hm0
      obtain ⟨n, hn⟩ : ∃ n, (o :: r).length = n := ⟨_, rfl⟩
      rw [hn] at x0 hl32 hm0
      have hn1 : n = r.length + 1 := by rw [← hn]; rfl
      have hop := HS.out.opens
      rw [hn] at hop
      have HT := Lib.hid (top_any ao cap n w0.heap.size o r wr hn1 (by omega) hop)
      have HP := Lib.hid fun w1 (hb : Below wr.heap.size wr w1) => pop1_any w0 b ao cap n o r w1 hn (by omega) (HS.out.on hb)
      have hpos : (0 : Int) < (n : Int) := by omega
      obtain ⟨nm, hnm⟩ : ∃ nm : ByteArray, (⟨o.name.toArray⟩ : ByteArray) = nm := ⟨_, rfl⟩
      rw [hnm] at HT
      have hf := field0 ((o.node : Nat) : Int) nm ((o.kind : Nat) : Int)
      have hN := Lib.hid hn1
      obtain ⟨kd, hkd⟩ : ∃ kd, o.kind = kd := ⟨_, rfl⟩
      obtain ⟨nd, hnd⟩ : ∃ nd, o.node = nd := ⟨_, rfl⟩
      have hc := HC.out
      unfold downL at hc
      rw [hkd, hnd] at HT hf
      rw [hnd] at hc
      clear hop hnm hkd hnd hn1 HC hl
      by_cases he : (nd : Int) = node
      · rw [if_pos he] at hc
        subst he
        have HE := Lib.hid hc
        have HNn := Lib.hid hn
        clear hc hn
        go_big_wp2_with (go_at_call 64
                         go_loud (
                           refine HT.out.mono ?_
                           rintro e w1 ⟨rfl, hb1⟩
                           have HB1 := Lib.hid hb1
                           have x1 := (HS.out.on hb1).cell
                           rw [HNn.out] at x1
                           clear hb1))
        go_ret
        exact ⟨by rw [← HE.out]; rfl, by rw [← HE.out]; exact HS.out.on HB1.out⟩
      · rw [if_neg he] at hc
        have heI := eq_false he
        have heB : ((nd : Int) != node) = true := bne_iff_ne.2 he
        have HE := Lib.hid hc
        clear hc hn he
        go_big_wp2_with (first
          | (go_at_call 64; refine HT.out.mono ?_; rintro e w1 ⟨rfl, hb1⟩; have HB1 := Lib.hid hb1; clear hb1)
          | (go_at_call 65; refine (HP.out _ HB1.out).mono ?_; rintro e w3 ⟨rfl, hS3⟩; have HS3 := Lib.hid hS3; clear hS3))
        exact ⟨⟨r, HS3, by have := hN.out; omega, HE⟩, by rw [HS3.out.lenAt, hm0.out]; have := hN.out; omega⟩
end Go.Proofs.YtkfmfldkllkcbabDoor

namespace Go.Proofs.YtkfmfldkllkcbabDoor
open Go.RowKit Go.RunKit Go.CharrefKit Go.Lib Go.TokenKit Go.TreeKit

/-- May these nodes, the i-th and those behind it, stand where they do? -/
def standL (i : Nat) (st : List Opd) : List NI → Bool
  | [] => true
  | x :: r => match downL x.up st with
    | [] => false
    | o :: q =>
      if x.kind = 2 then (if isTextB x then standL (i + 1) (o :: q) r else false)
      else if x.kind = 1 then
        (if kindL x.name = 0 then false
        else if isElementB x then
          (if takesL (kindL x.name) (o :: q) then
            (if 200 < (o :: q).length then false else standL (i + 1) (if voidK (kindL x.name) then o :: q else ⟨i, x.name, kindL x.name⟩ :: o :: q) r)
          else false)
        else false)
      else false

def stackWorld (w : World) : World := w.alloc (.cells (madeCells #[.int .i64 0, .string ⟨#[]⟩, .int .u8 0] 603) TOp)
theorem stack_run (w : World) : (Instr.makeSlice 88 (.int .i64 1) (.int .i64 201)).run Tryd.prog w = .ok (.slice (some ⟨w.heap.size, 0, none⟩) 1 201) (stackWorld w) := by
  obtain ⟨i0, hi, hz0, hz1, hz2⟩ := info_parts Tryd.infoOp
  have := run_make (P := Tryd.prog) w 88 93 i0 _ Tryd.underlying88 hi hz0 .i64 .i64 1 201 (by omega) (by omega) (by rw [hz2]; omega) (by omega)
  rw [hz1] at this
  exact this
theorem madeTake : (madeCells #[.int .i64 0, .string ⟨#[]⟩, .int .u8 0] 603).toList.take 3 = [.int .i64 0, .string ⟨#[]⟩, .int .u8 0] := by kernel_rfl
theorem madeSize : (madeCells #[.int .i64 0, .string ⟨#[]⟩, .int .u8 0] 603).size = 603 := by kernel_rfl
theorem stack_start (w : World) : StAt w (stackWorld w).heap.size (some ⟨w.heap.size, 0, none⟩) 201 [⟨0, [], 0⟩] ((stackWorld w).alloc (.cells #[.slice (some ⟨w.heap.size, 0, none⟩) 1 201] TSt)) := by
  have hb : Below w.heap.size w (stackWorld w) := (Below.refl _ _).alloc (Nat.le_refl _) _
  have hg : (stackWorld w).heap[w.heap.size]? = some (.cells (madeCells #[.int .i64 0, .string ⟨#[]⟩, .int .u8 0] 603) TOp (0, 0)) := heap_alloc_new w _
  have ho : (stackWorld w).ownsRow w.heap.size TOp 3 (.slice (some ⟨w.heap.size, 0, none⟩) 1 201) 1 (opCells [⟨0, [], 0⟩]) :=
    ⟨rfl, .inr ⟨w.heap.size, 201, _, rfl, Nat.le_refl _, hg, by omega, by unfold maxLen; omega, by rw [madeSize], by rw [show 1 * 3 = 3 from rfl, madeTake]; rfl⟩⟩
  exact ⟨hb.alloc hb.size _, hb.size, heap_alloc_new _ _, own_on ho ((Below.refl _ _).alloc (Nat.le_refl _) _)⟩

set_option maxRecDepth 100000 in
set_option maxHeartbeats 8000000 in
theorem standRight_any (g o cap n : Nat) (T : List NI) (w : World) (hn : n = T.length) (h1 : 1 ≤ n) (hn2 : n ≤ 16384) (h : TreeIn w g o T) (hv : VTabs w) :
    Calls Tryd.prog 39 #[.slice (some ⟨g, o, none⟩) n cap] w fun e w' => e = .returned (.bool (standL 1 [⟨0, [], 0⟩] (T.drop 1))) ∧ Below w.heap.size w w' := by
  have HT := Lib.hid h
  have HV := Lib.hid hv
  have hnH := Lib.hid hn
  have hmk := fun W => stack_run W
  have H0 := Lib.hid (stack_start w)
  have D0 : Hid (standL 1 [⟨0, [], 0⟩] (T.drop 1) = standL 1 [⟨0, [], 0⟩] (T.drop 1)) := Lib.hid rfl
  obtain ⟨ans, hans⟩ : ∃ ans, standL 1 [⟨0, [], 0⟩] (T.drop 1) = ans := ⟨_, rfl⟩
  rw [hans]
  rw [hans] at D0
  have D1 : Hid (standL 1 [⟨0, [], 0⟩] (T.drop 1) = ans) := Lib.hid hans
  clear h hv hn hans D0
  go_enter Tryd.func39, Tryd.ntmps39
  go_big_wp2
  generalize (stackWorld w).heap.size = b at *
  generalize (stackWorld w).alloc (.cells #[.slice (some ⟨w.heap.size, 0, none⟩) 1 201] TSt) = W at *
  clear hmk
  go_loopw [4] (fun a wr => ∃ (i : Nat) (st : List Opd) (ao : Option Addr) (cp : Nat), a = .int .i64 ((i : Nat) : Int) ∧ 1 ≤ i ∧ i ≤ n ∧ st.length ≤ 201 ∧ Hid (StAt w b ao cp st wr) ∧ Hid (standL i st (T.drop i) = ans)) (fun a _ => n - (RowKit.intOf a).toNat)
  case atStart => exact ⟨1, [⟨0, [], 0⟩], _, _, rfl, Nat.le_refl _, h1, by decide, H0, D1⟩
  case round =>
    clear H0 D1
    obtain ⟨i, st, ao, cp, rfl, hi1, hi, hst, HS, HE⟩ := hrel
    by_cases hlt : i < n
    · have hltI : (i : Int) < (n : Int) := by omega
      have hit : i < T.length := by have := hnH.out; omega
      have hd : T.drop i = T.getD i noNI :: T.drop (i + 1) := by
        rw [List.drop_eq_getElem_cons hit, List.getD_eq_getElem?_getD, List.getElem?_eq_getElem hit]
        rfl
      rw [hd] at HE
      have HX := Lib.hid (HT.out.at_ i _ (node_at hit))
      obtain ⟨x, hx⟩ : ∃ x, T.getD i noNI = x := ⟨_, rfl⟩
      rw [hx] at HE HX
      obtain ⟨m, hm⟩ : ∃ m, o + i * 6 = m := ⟨_, rfl⟩
      rw [hm] at HX
      clear hd hx
      unfold standL at HE
      have cu := (HX.out.on HS.out.below).up
      have HD := Lib.hid (downTo_any w b ao cp st x.up wr (by omega) HS.out)
      have hdl := downL_len x.up st
      cases hdd : downL x.up st with
      | nil =>
        rw [hdd] at HE HD
        have HA : Hid (false = ans) := Lib.hid HE.out
        clear HE hdl hdd
        go_big_wp2_with (go_at_call 54; refine HD.out.mono ?_; rintro e w1 ⟨rfl, hs1⟩; have HS1 := Lib.hid hs1; clear hs1)
        go_ret
        exact ⟨ret1_eq (congrArg Value.bool HA.out), HS1.out.below⟩
      | cons p q =>
        rw [hdd] at HE HD hdl
        simp only at HE
        have hq : (p :: q).length ≤ 201 := Nat.le_trans hdl hst
        obtain ⟨k, hk⟩ : ∃ k, x.kind = k := ⟨_, rfl⟩
        rw [hk] at HE
        have HK := Lib.hid hk
        clear hdl hdd hk
        by_cases hk2 : k = 2
        · subst hk2
          rw [if_pos rfl] at HE
          have HTx := Lib.hid fun W1 (hb : Below w.heap.size w W1) => isText_any g m x W1 (HX.out.on hb) (HV.out.on hb)
          cases ht : isTextB x with
          | false =>
            rw [ht] at HE HTx
            have HA : Hid (false = ans) := Lib.hid HE.out
            clear HE ht
            go_big_wp2_with (first
              | (go_at_call 54
                 refine HD.out.mono ?_
                 rintro e w1 ⟨rfl, hs1⟩
                 have HS1 := Lib.hid hs1
                 have ck := (HX.out.on hs1.below).kind
                 rw [HK.out] at ck
                 clear hs1)
              | (go_at_call 55; refine (HTx.out _ HS1.out.below).mono ?_; rintro e w2 ⟨rfl, hb2⟩))
            go_ret
            exact ⟨ret1_eq (congrArg Value.bool HA.out), HS1.out.below.trans (hb2.mono HS1.out.below.size)⟩
          | true =>
            rw [ht] at HE HTx
            have HA : Hid (standL (i + 1) (p :: q) (T.drop (i + 1)) = ans) := Lib.hid HE.out
            clear HE ht
            go_big_wp2_with (first
              | (go_at_call 54
                 refine HD.out.mono ?_
                 rintro e w1 ⟨rfl, hs1⟩
                 have HS1 := Lib.hid hs1
                 have ck := (HX.out.on hs1.below).kind
                 rw [HK.out] at ck
                 clear hs1)
              | (go_at_call 55; refine (HTx.out _ HS1.out.below).mono ?_; rintro e w2 ⟨rfl, hb2⟩))
            exact ⟨⟨i + 1, p :: q, ao, cp, by go_num, by omega, by omega, hq, Lib.hid (HS1.out.on hb2), HA⟩, by simp [RowKit.intOf]; omega⟩
        · have hk2I : ¬ ((k : Nat) : Int) = 2 := by omega
          have hk2B : (((k : Nat) : Int) == 2) = false := by rw [beq_eq_false_iff_ne]; omega
          rw [if_neg hk2] at HE
          by_cases hk1 : k = 1
          · subst hk1
            rw [if_pos rfl] at HE
            obtain ⟨kd, hkd⟩ : ∃ kd, kindL x.name = kd := ⟨_, rfl⟩
            rw [hkd] at HE
            have hKd := fun W1 => kind_any ⟨x.name.toArray⟩ W1
            simp only [bl_of, hkd] at hKd
            have HKd := Lib.hid hKd
            have hkle := kind_le x.name
            rw [hkd] at hkle
            clear hKd hkd hk2
            by_cases hk0 : kd = 0
            · subst hk0
              rw [if_pos rfl] at HE
              have HA : Hid (false = ans) := Lib.hid HE.out
              clear HE
              go_big_wp2_with (first
                | (go_at_call 54
                   refine HD.out.mono ?_
                   rintro e w1 ⟨rfl, hs1⟩
                   have HS1 := Lib.hid hs1
                   have ck := (HX.out.on hs1.below).kind
                   have cn := (HX.out.on hs1.below).name
                   rw [HK.out] at ck
                   clear hs1)
                | (go_at_call 56; refine (HKd.out _).mono ?_; rintro e w2 ⟨rfl, rfl⟩))
              go_ret
              exact ⟨ret1_eq (congrArg Value.bool HA.out), HS1.out.below⟩
            · have hk0I : ¬ ((kd : Nat) : Int) = 0 := by omega
              have hk0B : (((kd : Nat) : Int) == 0) = false := by rw [beq_eq_false_iff_ne]; omega
              rw [if_neg hk0] at HE
              have HEl := Lib.hid fun W1 (hb : Below w.heap.size w W1) => isElement_any g m x W1 (HX.out.on hb) (HV.out.on hb)
              cases hel : isElementB x with
              | false =>
                rw [hel] at HE HEl
                have HA : Hid (false = ans) := Lib.hid HE.out
                clear HE hel
                go_big_wp2_with (first
                  | (go_at_call 54
                     refine HD.out.mono ?_
                     rintro e w1 ⟨rfl, hs1⟩
                     have HS1 := Lib.hid hs1
                     have ck := (HX.out.on hs1.below).kind
                     have cn := (HX.out.on hs1.below).name
                     rw [HK.out] at ck
                     clear hs1)
                  | (go_at_call 56; refine (HKd.out _).mono ?_; rintro e w2 ⟨rfl, rfl⟩)
                  | (go_at_call 57; refine (HEl.out _ HS1.out.below).mono ?_; rintro e w3 ⟨rfl, hb3⟩))
                go_ret
                exact ⟨ret1_eq (congrArg Value.bool HA.out), HS1.out.below.trans (hb3.mono HS1.out.below.size)⟩
              | true =>
                rw [hel, if_pos rfl] at HE
                rw [hel] at HEl
                obtain ⟨tk, htk⟩ : ∃ tk, takesL kd (p :: q) = tk := ⟨_, rfl⟩
                obtain ⟨sn, hsn⟩ : ∃ sn, (p :: q).length = sn := ⟨_, rfl⟩
                rw [htk, hsn] at HE
                have HTk := Lib.hid fun W1 (hs : StAt w b ao cp (p :: q) W1) => htk ▸ takes_any ao cp sn w.heap.size kd p q W1 hkle (by rw [← hsn]; rfl) (by omega) (by have := hs.opens; rwa [hsn] at this)
                have HSn := Lib.hid hsn
                clear htk hel
                cases tk with
                | false =>
                  rw [if_neg (by decide)] at HE
                  have HA : Hid (false = ans) := Lib.hid HE.out
                  clear HE hsn
                  go_big_wp2_with (first
                    | (go_at_call 54
                       refine HD.out.mono ?_
                       rintro e w1 ⟨rfl, hs1⟩
                       have HS1 := Lib.hid hs1
                       have ck := (HX.out.on hs1.below).kind
                       have cn := (HX.out.on hs1.below).name
                       rw [HK.out] at ck
                       clear hs1)
                    | (go_at_call 56; refine (HKd.out _).mono ?_; rintro e w2 ⟨rfl, rfl⟩)
                    | (go_at_call 57
                       refine (HEl.out _ HS1.out.below).mono ?_
                       rintro e w3 ⟨rfl, hb3⟩
                       have HS3 := Lib.hid (HS1.out.on hb3)
                       have d3 := HS3.out.cell
                       rw [HSn.out] at d3
                       clear hb3)
                    | (go_at_call 58; refine (HTk.out _ HS3.out).mono ?_; rintro e w4 ⟨rfl, hb4⟩))
                  go_ret
                  exact ⟨ret1_eq (congrArg Value.bool HA.out), HS3.out.below.trans (hb4.mono HS3.out.below.size)⟩
                | true =>
                  rw [if_pos rfl] at HE
                  by_cases h200 : 200 < sn
                  · rw [if_pos h200] at HE
                    have h200I : (200 : Int) < (sn : Int) := by omega
                    have HA : Hid (false = ans) := Lib.hid HE.out
                    clear HE hsn
                    go_big_wp2_with (first
                      | (go_at_call 54
                         refine HD.out.mono ?_
                         rintro e w1 ⟨rfl, hs1⟩
                         have HS1 := Lib.hid hs1
                         have ck := (HX.out.on hs1.below).kind
                         have cn := (HX.out.on hs1.below).name
                         rw [HK.out] at ck
                         clear hs1)
                      | (go_at_call 56; refine (HKd.out _).mono ?_; rintro e w2 ⟨rfl, rfl⟩)
                      | (go_at_call 57
                         refine (HEl.out _ HS1.out.below).mono ?_
                         rintro e w3 ⟨rfl, hb3⟩
                         have HS3 := Lib.hid (HS1.out.on hb3)
                         have d3 := HS3.out.cell
                         rw [HSn.out] at d3
                         clear hb3)
                      | (go_at_call 58
                         refine (HTk.out _ HS3.out).mono ?_
                         rintro e w4 ⟨rfl, hb4⟩
                         have HS4 := Lib.hid (HS3.out.on hb4)
                         have d4 := HS4.out.cell
                         rw [HSn.out] at d4
                         clear hb4))
                    go_ret
                    exact ⟨ret1_eq (congrArg Value.bool HA.out), HS4.out.below⟩
                  · rw [if_neg h200] at HE
                    have h200I : ¬ (200 : Int) < (sn : Int) := by omega
                    have HVd := Lib.hid fun W1 => isVoid_any kd hkle W1
                    have HPu := Lib.hid fun W1 (hs : StAt w b ao cp (p :: q) W1) => push1_any w b ao cp sn (p :: q) i kd ⟨x.name.toArray⟩ W1 hsn (by omega) hs
                    rw [bl_of x.name] at HPu
                    cases hvd : voidK kd with
                    | true =>
                      rw [hvd, if_pos rfl] at HE
                      rw [hvd] at HVd
                      have HA : Hid (standL (i + 1) (p :: q) (T.drop (i + 1)) = ans) := Lib.hid HE.out
                      clear HE hvd h200
                      go_big_wp2_with (first
                        | (go_at_call 54
                           refine HD.out.mono ?_
                           rintro e w1 ⟨rfl, hs1⟩
                           have HS1 := Lib.hid hs1
                           have ck := (HX.out.on hs1.below).kind
                           have cn := (HX.out.on hs1.below).name
                           rw [HK.out] at ck
                           clear hs1)
                        | (go_at_call 56; refine (HKd.out _).mono ?_; rintro e w2 ⟨rfl, rfl⟩)
                        | (go_at_call 57
                           refine (HEl.out _ HS1.out.below).mono ?_
                           rintro e w3 ⟨rfl, hb3⟩
                           have HS3 := Lib.hid (HS1.out.on hb3)
                           have d3 := HS3.out.cell
                           rw [HSn.out] at d3
                           clear hb3)
                        | (go_at_call 58
                           refine (HTk.out _ HS3.out).mono ?_
                           rintro e w4 ⟨rfl, hb4⟩
                           have HS4 := Lib.hid (HS3.out.on hb4)
                           have d4 := HS4.out.cell
                           rw [HSn.out] at d4
                           clear hb4)
                        | (go_at_call 59; refine (HVd.out _).mono ?_; rintro e w5 ⟨rfl, rfl⟩))
                      exact ⟨⟨i + 1, p :: q, ao, cp, by go_num, by omega, by omega, hq, HS4, HA⟩, by simp [RowKit.intOf]; omega⟩
                    | false =>
                      rw [hvd, if_neg (by decide)] at HE
                      rw [hvd] at HVd
                      have HA : Hid (standL (i + 1) (⟨i, x.name, kd⟩ :: p :: q) (T.drop (i + 1)) = ans) := Lib.hid HE.out
                      have hq2 : (⟨i, x.name, kd⟩ :: p :: q : List Opd).length ≤ 201 := by rw [List.length_cons, hsn]; omega
                      clear HE hvd h200
                      go_big_wp2_with (first
                        | (go_at_call 54
                           refine HD.out.mono ?_
                           rintro e w1 ⟨rfl, hs1⟩
                           have HS1 := Lib.hid hs1
                           have ck := (HX.out.on hs1.below).kind
                           have cn := (HX.out.on hs1.below).name
                           rw [HK.out] at ck
                           clear hs1)
                        | (go_at_call 56; refine (HKd.out _).mono ?_; rintro e w2 ⟨rfl, rfl⟩)
                        | (go_at_call 57
                           refine (HEl.out _ HS1.out.below).mono ?_
                           rintro e w3 ⟨rfl, hb3⟩
                           have HS3 := Lib.hid (HS1.out.on hb3)
                           have d3 := HS3.out.cell
                           rw [HSn.out] at d3
                           clear hb3)
                        | (go_at_call 58
                           refine (HTk.out _ HS3.out).mono ?_
                           rintro e w4 ⟨rfl, hb4⟩
                           have HS4 := Lib.hid (HS3.out.on hb4)
                           have d4 := HS4.out.cell
                           rw [HSn.out] at d4
                           have cn4 := (HX.out.on HS4.out.below).name
                           clear hb4)
                        | (go_at_call 59; refine (HVd.out _).mono ?_; rintro e w5 ⟨rfl, rfl⟩)
                        | (go_at_call 60; refine (HPu.out _ HS4.out).mono ?_; rintro e w6 ⟨rfl, ao6, cp6, hs6⟩; have HS6 := Lib.hid hs6; clear hs6))
                      exact ⟨⟨i + 1, _, ao6, cp6, by go_num, by omega, by omega, hq2, HS6, HA⟩, by simp [RowKit.intOf]; omega⟩
          · rw [if_neg hk1] at HE
            have hk1I : ¬ ((k : Nat) : Int) = 1 := by omega
            have hk1B : (((k : Nat) : Int) == 1) = false := by rw [beq_eq_false_iff_ne]; omega
            have HA : Hid (false = ans) := Lib.hid HE.out
            clear HE hk1 hk2
            go_big_wp2_with (go_at_call 54
                             refine HD.out.mono ?_
                             rintro e w1 ⟨rfl, hs1⟩
                             have HS1 := Lib.hid hs1
                             have ck := (HX.out.on hs1.below).kind
                             rw [HK.out] at ck
                             clear hs1)
            go_ret
            exact ⟨ret1_eq (congrArg Value.bool HA.out), HS1.out.below⟩
    · obtain rfl : i = n := by omega
      have hd : T.drop i = [] := List.drop_eq_nil_of_le (by have := hnH.out; omega)
      rw [hd] at HE
      have HA : Hid (true = ans) := Lib.hid HE.out
      have hltI : ((i : Int) < (i : Int)) = False := eq_false (by omega)
      clear hd HE
      go_big_wp2
      go_ret
      exact ⟨ret1_eq (congrArg Value.bool HA.out), HS.out.below⟩
end Go.Proofs.YtkfmfldkllkcbabDoor

namespace Go.Proofs.YtkfmfldkllkcbabDoor
open Go.RowKit Go.RunKit Go.CharrefKit Go.Lib Go.TokenKit Go.TreeKit

/-- P5.4, as the code asks it. -/
def rightB (T : List NI) : Bool := !T.isEmpty && decide (T.length ≤ 16384) && isRootB (T.getD 0 noNI) && haveKidsB T && standL 1 [⟨0, [], 0⟩] (T.drop 1)
def rightE (T : List NI) : Nat := if rightB T then 0 else 53

set_option maxRecDepth 100000 in
set_option maxHeartbeats 2000000 in
theorem right_any (g o cap n : Nat) (T : List NI) (w : World) (hn : n = T.length) (h1 : 1 ≤ n) (hbig : n ≤ 9223372036854775807) (h : TreeIn w g o T) (hv : VTabs w) :
    Calls Tryd.prog 26 #[.slice (some ⟨g, o, none⟩) n cap] w fun e w' => e = .returned (.int .i64 ((rightE T : Nat) : Int)) ∧ Below w.heap.size w w' := by
  have hne : T.isEmpty = false := by cases T with
    | nil => simp at hn; omega
    | cons x r => rfl
  have h0 : ((n : Int) = 0) = False := eq_false (by omega)
  have h0B : ((n : Int) == 0) = false := by rw [beq_eq_false_iff_ne]; omega
  by_cases hlim : 16384 < n
  · have hlI : (16384 : Int) < (n : Int) := by omega
    have hr : rightE T = 53 := by unfold rightE rightB; rw [hne, decide_eq_false (show ¬ T.length ≤ 16384 by omega)]; rfl
    rw [hr]
    clear hn h hv hne hr hlim
    go_enter Tryd.func26, Tryd.ntmps26
    go_big_wp2
    go_ret
    exact ⟨rfl, Below.refl _ _⟩
  · have hlI : ¬ (16384 : Int) < (n : Int) := by omega
    have hpos : (0 : Int) < (n : Int) := by omega
    have hR := isRoot_any g o (T.getD 0 noNI) w (by have := h.at_ 0 _ (node_at (by omega)); simpa using this)
    have hK := haveKids_any g o cap n T w hn (by omega) h
    have hS := standRight_any g o cap n T w hn h1 (by omega) h hv
    obtain ⟨r1, hr1⟩ : ∃ r, isRootB (T.getD 0 noNI) = r := ⟨_, rfl⟩
    obtain ⟨r2, hr2⟩ : ∃ r, haveKidsB T = r := ⟨_, rfl⟩
    obtain ⟨r3, hr3⟩ : ∃ r, standL 1 [⟨0, [], 0⟩] (T.drop 1) = r := ⟨_, rfl⟩
    have hr : rightE T = if r1 && r2 && r3 then 0 else 53 := by unfold rightE rightB; rw [hne, decide_eq_true (show T.length ≤ 16384 by omega), hr1, hr2, hr3]; rfl
    rw [hr]
    rw [hr1] at hR
    rw [hr2] at hK
    rw [hr3] at hS
    have HR := Lib.hid hR
    have HK := Lib.hid hK
    have HS := Lib.hid hS
    clear hR hK hS hr1 hr2 hr3 hr hn h hv hne hlim
    cases r1 with
    | false =>
      show Calls _ _ _ _ fun e w' => e = .returned (.int .i64 53) ∧ _
      go_enter Tryd.func26, Tryd.ntmps26
      go_big_wp2_with (go_at_call 37; refine HR.out.mono ?_; rintro e w1 ⟨rfl, rfl⟩)
      go_ret
      exact ⟨rfl, Below.refl _ _⟩
    | true =>
      cases r2 with
      | false =>
        show Calls _ _ _ _ fun e w' => e = .returned (.int .i64 53) ∧ _
        go_enter Tryd.func26, Tryd.ntmps26
        go_big_wp2_with (first
          | (go_at_call 37; refine HR.out.mono ?_; rintro e w1 ⟨rfl, rfl⟩)
          | (go_at_call 38; refine HK.out.mono ?_; rintro e w1 ⟨rfl, rfl⟩))
        go_ret
        exact ⟨rfl, Below.refl _ _⟩
      | true =>
        cases r3 with
        | false =>
          show Calls _ _ _ _ fun e w' => e = .returned (.int .i64 53) ∧ _
          go_enter Tryd.func26, Tryd.ntmps26
          go_big_wp2_with (first
            | (go_at_call 37; refine HR.out.mono ?_; rintro e w1 ⟨rfl, rfl⟩)
            | (go_at_call 38; refine HK.out.mono ?_; rintro e w1 ⟨rfl, rfl⟩)
            | (go_at_call 39; refine HS.out.mono ?_; rintro e w1 ⟨rfl, hb1⟩))
          go_ret
          exact ⟨rfl, hb1⟩
        | true =>
          show Calls _ _ _ _ fun e w' => e = .returned (.int .i64 0) ∧ _
          go_enter Tryd.func26, Tryd.ntmps26
          go_big_wp2_with (first
            | (go_at_call 37; refine HR.out.mono ?_; rintro e w1 ⟨rfl, rfl⟩)
            | (go_at_call 38; refine HK.out.mono ?_; rintro e w1 ⟨rfl, rfl⟩)
            | (go_at_call 39; refine HS.out.mono ?_; rintro e w1 ⟨rfl, hb1⟩))
          go_ret
          exact ⟨rfl, hb1⟩
end Go.Proofs.YtkfmfldkllkcbabDoor

namespace Go.SerialKit
open Go Go.Lib Go.TokenKit
/-- A text put behind; too long is told. -/
def putT (d : Bytes × Bool) (s : Bytes) : Bytes × Bool := if (65536 : Int) - (d.1.length : Int) < (s.length : Int) then (d.1, true) else (d.1 ++ s, d.2)
/-- A text put behind, escaped. -/
def putE (attr : Bool) (d : Bytes × Bool) (s : Bytes) : Bytes × Bool := if 65536 < s.length then (d.1, true) else putT d (escR attr s)
end Go.SerialKit
namespace Go.Proofs.YtkfmfldkllkcbabDoor
open Go.RowKit Go.RunKit Go.UtfKit Go.CharrefKit Go.Lib Go.TokenKit Go.TreeKit Go.SerialKit

abbrev TDc : TypeId := 61
theorem liesBuilderD : liesAt Tryd.prog Tryd.prog.depth TDc (3 / Tryd.prog.cellsOf TDc) 0 TSb 1 = true := by kernel_rfl
theorem doc3 {W : World} {g : Nat} {a0 a1 a2 : Value} {T : TypeId} (h : W.heap[g]? = some (.cells #[a0, a1, a2] T (0, 0))) :
    (W.cell? ⟨g, 0, none⟩ = some a0 ∧ W.cell? ⟨g, 1, none⟩ = some a1 ∧ W.cell? ⟨g, 2, none⟩ = some a2) ∧ (W.frozen? ⟨g, 0, none⟩ = false ∧ W.frozen? ⟨g, 1, none⟩ = false ∧ W.frozen? ⟨g, 2, none⟩ = false) :=
  ⟨⟨by simp [World.cell?, h], by simp [World.cell?, h], by simp [World.cell?, h]⟩, frozen_of_row W g 0 _ _ h, frozen_of_row W g 1 _ _ h, frozen_of_row W g 2 _ _ h⟩
/-- The document but for its text. -/
structure DocB (w0 : World) (b : Nat) (pa bv : Value) (lg : Bool) (W : World) : Prop where
  below : Below w0.heap.size w0 W
  le : w0.heap.size ≤ b
  blk : W.heap[b]? = some (.cells #[pa, bv, .bool lg] TDc (0, 0))
def TextD (w0 : World) (b : Nat) (pa bv : Value) (t : Bytes) (W : World) : Prop :=
  (pa = .pointer none ∧ bv = .slice none 0 0 ∧ t = []) ∨ (pa = .pointer (some ⟨b, 0, none⟩) ∧ t ≠ [] ∧ W.ownsRowF w0.heap.size TU8 1 bv t.length (byteCells t))
/-- The document. -/
structure DocAt (w0 : World) (b : Nat) (d : Bytes × Bool) (W : World) : Prop where
  ex : ∃ pa bv, DocB w0 b pa bv d.2 W ∧ TextD w0 b pa bv d.1 W
theorem DocB.on {w0 W W' : World} {b : Nat} {pa bv : Value} {lg : Bool} (h : DocB w0 b pa bv lg W) (hb : Below W.heap.size W W') : DocB w0 b pa bv lg W' :=
  ⟨h.below.trans (hb.mono h.below.size), h.le, by rw [hb.block _ (Array.getElem?_eq_some_iff.1 h.blk).1]; exact h.blk⟩
theorem TextD.on {w0 W W' : World} {b : Nat} {pa bv : Value} {t : Bytes} (h : TextD w0 b pa bv t W) (hb : Below W.heap.size W W') : TextD w0 b pa bv t W' := by
  rcases h with h | ⟨h1, h2, h3⟩
  · exact .inl h
  · exact .inr ⟨h1, h2, World.ownsRowF.kept h3 (grown_below hb none) (by cases bv.ownBlock <;> simp)⟩
theorem DocAt.on {w0 W W' : World} {b : Nat} {d : Bytes × Bool} (h : DocAt w0 b d W) (hb : Below W.heap.size W W') : DocAt w0 b d W' := by
  obtain ⟨pa, bv, h1, h2⟩ := h.ex
  exact ⟨pa, bv, h1.on hb, h2.on hb⟩
theorem DocAt.below {w0 W : World} {b : Nat} {d : Bytes × Bool} (h : DocAt w0 b d W) : Below w0.heap.size w0 W := by
  obtain ⟨_, _, h1, _⟩ := h.ex
  exact h1.below
/-- What is neither the document nor a row of bytes stays. -/
abbrev KeepD (b : Nat) (W W' : World) : Prop := Lib.OthersKept TU8 (some b) W W'
theorem KeepD.of_below {b : Nat} {W W' : World} (hb : Below W.heap.size W W') : KeepD b W W' := fun k o hk _ _ => by rw [hb.block k (Array.getElem?_eq_some_iff.1 hk).1]; exact hk
theorem text_slice {w0 : World} {b : Nat} {pa bv : Value} {t : Bytes} {W : World} (h : TextD w0 b pa bv t W) : ∃ ao cap, bv = .slice ao t.length cap := by
  rcases h with ⟨_, rfl, rfl⟩ | ⟨_, _, h3⟩
  · exact ⟨none, 0, rfl⟩
  · rcases h3.2 with ⟨hv, h0⟩ | ⟨g, cap, cur, fz, hv, _⟩
    · exact ⟨none, 0, by rw [hv, h0]⟩
    · exact ⟨_, _, hv⟩

set_option maxRecDepth 100000 in
set_option maxHeartbeats 1000000 in
theorem dlen_any (b n cap : Nat) (ao : Option Addr) (pa : Value) (lg : Bool) (W : World) (hblk : W.heap[b]? = some (.cells #[pa, .slice ao n cap, .bool lg] TDc (0, 0))) :
    Calls Tryd.prog 61 #[.pointer (some ⟨b, 0, none⟩)] W fun e w' => e = .returned (.int .i64 ((n : Nat) : Int)) ∧ W = w' := by
  obtain ⟨⟨x0, x1, x2⟩, y0, y1, y2⟩ := doc3 hblk
  go_enter Tryd.func61, Tryd.ntmps61
  go_big_wp2
  go_ret
  exact ⟨rfl, rfl⟩
set_option maxRecDepth 100000 in
set_option maxHeartbeats 1000000 in
theorem dcheck_fresh (b : Nat) (bv : Value) (lg : Bool) (w : World) (hblk : w.heap[b]? = some (.cells #[.pointer none, bv, .bool lg] TDc (0, 0))) :
    Calls Tryd.prog 33 #[.pointer (some ⟨b, 0, none⟩)] w fun e w' => e = .returned (.tuple #[]) ∧ w' = w.setCell ⟨b, 0, none⟩ (.pointer (some ⟨b, 0, none⟩)) := by
  obtain ⟨j, hj, hjs⟩ := Option.map_eq_some_iff.1 sizeBuilderB
  obtain ⟨⟨x0, x1, x2⟩, y0, y1, y2⟩ := doc3 hblk
  have hsh : w.shape? b = some (TDc, 3) := by simp [World.shape?, hblk]
  go_enter Tryd.func33, Tryd.ntmps33
  go_big_wp2
  rw [Lib.run_to_unsafe w ⟨b, 0, none⟩ underPtrB underUnsafeB hj (by rw [hjs]; decide) hsh (show 0 < 3 by decide)]
  simp only [Result.andThen]
  rw [Oper.upon_value]
  go_big_wp2
  rw [run_callFunc_extern Tryd.func44 (by kernel_rfl) (by kernel_rfl) (by kernel_rfl) (e := Extern.AbiNoEscape.same) (by kernel_rfl)]
  rw [Lib.run_noEscape]
  simp only [Result.andThen]
  rw [Oper.upon_value]
  go_big_wp2
  rw [Lib.run_from_unsafe w ⟨b, 0, none⟩ underUnsafeB underPtrB hj hsh liesBuilderD]
  simp only [Result.andThen]
  rw [Oper.upon_value]
  go_big_wp2
  go_end0
  exact ⟨rfl, rfl⟩
set_option maxRecDepth 100000 in
set_option maxHeartbeats 1000000 in
theorem dcheck_used (b : Nat) (bv : Value) (lg : Bool) (w : World) (hblk : w.heap[b]? = some (.cells #[.pointer (some ⟨b, 0, none⟩), bv, .bool lg] TDc (0, 0))) :
    Calls Tryd.prog 33 #[.pointer (some ⟨b, 0, none⟩)] w fun e w' => e = .returned (.tuple #[]) ∧ w' = w := by
  obtain ⟨j, hj, _⟩ := Option.map_eq_some_iff.1 sizeBuilderB
  obtain ⟨⟨x0, x1, x2⟩, y0, y1, y2⟩ := doc3 hblk
  go_enter Tryd.func33, Tryd.ntmps33
  go_big_wp2
  rw [Lib.run_neq_ptr_same w _ underPtrB hj]
  go_big_wp2
  go_end0
  exact ⟨rfl, rfl⟩
theorem DocB.set {w0 W : World} {b i : Nat} {pa bv pa' bv' v : Value} {lg lg' : Bool} (h : DocB w0 b pa bv lg W) (he : #[pa, bv, .bool lg].setIfInBounds i v = #[pa', bv', .bool lg']) : DocB w0 b pa' bv' lg' (W.setCell ⟨b, i, none⟩ v) :=
  ⟨h.below.setCell h.le _, h.le, by rw [heap_setCell_same W b i _ _ v h.blk, he]⟩
theorem DocB.bytes {w0 W W' : World} {b g : Nat} {pa bv : Value} {lg : Bool} {cs : Array Value} {fr : Nat × Nat} (h : DocB w0 b pa bv lg W) (hg : W.heap[g]? = some (.cells cs TU8 fr)) (hge : w0.heap.size ≤ g) (hgr : W.grownBy W' (some g)) : DocB w0 b pa bv lg W' :=
  ⟨h.below.grown hgr h.below.size (fun k hk => by cases hk; exact hge), h.le, by
    rw [hgr.block b (Array.getElem?_eq_some_iff.1 h.blk).1 (fun e => by
      cases e
      rw [h.blk] at hg
      simp only [Option.some.injEq, Obj.cells.injEq] at hg
      exact absurd hg.2.1 (by decide))]
    exact h.blk⟩
theorem DocB.grownF {w0 W W' : World} {b n : Nat} {pa bv v2 : Value} {lg : Bool} {xs : List Value} (h : DocB w0 b pa bv lg W) (h2 : W.ownsRowF w0.heap.size TU8 1 v2 n xs) (hg : W.grownBy W' v2.ownBlock) : DocB w0 b pa bv lg W' := by
  rcases h2.2 with ⟨rfl, _⟩ | ⟨g, cap, cur, fz, rfl, hge, hgg, _⟩
  · exact h.on (below_none hg)
  · exact h.bytes hgg hge hg

set_option maxRecDepth 100000 in
set_option maxHeartbeats 4000000 in
theorem dwrite_any (w0 : World) (b : Nat) (s : ByteArray) (t : Bytes) (lg : Bool) (W : World) (hd : t ≠ [] ∨ bl s ≠ []) (hlen : t.length + s.size ≤ 70368744177664) (h : DocAt w0 b (t, lg) W) :
    Calls Tryd.prog 20 #[.pointer (some ⟨b, 0, none⟩), .string s] W fun e w' => e = .returned (.tuple #[.int .i64 ((s.size : Nat) : Int), .nilIface]) ∧ DocAt w0 b (t ++ bl s, lg) w' ∧ KeepD b W w' := by
  obtain ⟨pa, bv, hB, hT⟩ := h.ex
  obtain ⟨i0, hi, hz0, hz1, hz2⟩ := info_parts Tryd.infoByte
  have hck : Calls Tryd.prog 33 #[.pointer (some ⟨b, 0, none⟩)] W fun e w' => e = .returned (.tuple #[]) ∧ DocB w0 b (.pointer (some ⟨b, 0, none⟩)) bv lg w' ∧ w'.ownsRowF w0.heap.size TU8 1 bv t.length (byteCells t) ∧ KeepD b W w' := by
    rcases hT with ⟨h1, h2, h3⟩ | ⟨h1, h2, h3⟩
    · subst h1; subst h2
      refine (dcheck_fresh b (.slice none 0 0) lg W hB.blk).mono ?_
      rintro e w' ⟨rfl, rfl⟩
      exact ⟨rfl, hB.set rfl, by rw [show t = [] from h3]; exact World.ownsRowF_nil _ _ _ _, (Lib.OthersKept.refl TU8 (some b) W).setCell ⟨b, 0, none⟩ rfl _⟩
    · subst h1
      refine (dcheck_used b bv lg W hB.blk).mono ?_
      rintro e w' ⟨rfl, rfl⟩
      exact ⟨rfl, hB, h3, Lib.OthersKept.refl _ _ _⟩
  have HCk := Lib.hid hck
  have HD := Lib.hid hd
  have hds := bl_length s
  obtain ⟨ao0, cap0, hbv⟩ := text_slice hT
  subst hbv
  have HDs := Lib.hid hds
  clear hck h hd hds hB hT
  go_enter Tryd.func20, Tryd.ntmps20
  go_big_wp2_with (first
    | (go_at_call 33; refine HCk.out.mono ?_; rintro e w1 ⟨rfl, hB1, hown, hk1⟩; obtain ⟨⟨x0, x1, x2⟩, y0, y1, y2⟩ := doc3 hB1.blk; have HB1 := Lib.hid hB1; have HOwn := Lib.hid hown; have HK1 := Lib.hid hk1; clear hB1 hown hk1)
    | (at_builtin; refine Lib.wpList_append_own_stringF _ rfl _ _ 29 9 rfl w0.heap.size TU8 i0 underBytes underString hi hz0 hz1 hz2 _ _ _ rfl HOwn.out s rfl ?c3 ?c4 ?c5 ?_))
  case c3 => unfold maxLen; omega
  case c4 => omega
  case c5 => exact HB1.out.below.size
  intro v' w2 hown' hgrow _
  have hB2 := HB1.out.grownF HOwn.out hgrow
  have hK2 : KeepD b W w2 := HK1.out.grown hgrow (Lib.ownsRowF_kind HOwn.out)
  obtain ⟨ao', cap', rfl⟩ : ∃ ao' cap', v' = .slice ao' (t.length + s.size) cap' := by
    rcases hown'.2 with ⟨hv, h0⟩ | ⟨g, cap, cur, fz, hv, _⟩
    · exact ⟨none, 0, by rw [hv, h0]⟩
    · exact ⟨_, _, hv⟩
  clear x0 x1 x2 y0 y1 y2
  obtain ⟨⟨x0, x1, x2⟩, y0, y1, y2⟩ := doc3 hB2.blk
  have HB2 := Lib.hid hB2
  have HK2 := Lib.hid (hK2.setCell ⟨b, 1, none⟩ rfl (.slice ao' (t.length + s.size) cap'))
  have HOw2 := Lib.hid (own_fset (i := 1) (v := .slice ao' (t.length + s.size) cap') hown' hB2.blk (by decide))
  clear hown' hgrow hB2 hK2
  go_big_wp2
  go_ret2
  have hf := HB2.out.set (i := 1) (v := .slice ao' (t.length + s.size) cap') (pa' := .pointer (some ⟨b, 0, none⟩)) (bv' := .slice ao' (t.length + s.size) cap') (lg' := lg) rfl
  refine ⟨rfl, ⟨.pointer (some ⟨b, 0, none⟩), .slice ao' (t.length + s.size) cap', hf, .inr ⟨rfl, ?_, ?_⟩⟩, HK2.out⟩
  · intro e
    have e := List.append_eq_nil_iff.1 e
    rcases HD.out with h | h
    · exact h e.1
    · exact h e.2
  · show World.ownsRowF _ _ _ _ _ (t ++ bl s).length (byteCells (t ++ bl s))
    rw [List.length_append, HDs.out, cells_two]
    exact HOw2.out

set_option maxRecDepth 100000 in
set_option maxHeartbeats 4000000 in
theorem dstring_any (w0 : World) (b : Nat) (t : Bytes) (lg : Bool) (W : World) (hs : t ≠ []) (h : DocAt w0 b (t, lg) W) :
    Calls Tryd.prog 21 #[.pointer (some ⟨b, 0, none⟩)] W fun e w' => e = .returned (.string ⟨t.toArray⟩) ∧ Below w0.heap.size w0 w' := by
  obtain ⟨pa, bv, hB, hT⟩ := h.ex
  obtain ⟨_, _, hown⟩ : pa = .pointer (some ⟨b, 0, none⟩) ∧ t ≠ [] ∧ W.ownsRowF w0.heap.size TU8 1 bv t.length (byteCells t) := by
    rcases hT with ⟨_, _, h3⟩ | h3
    · exact absurd h3 hs
    · exact h3
  have hbk := hB.blk
  have hl0 : t.length ≠ 0 := by simpa using hs
  obtain ⟨g, cap, cur, fz, rfl, hbg, hg, hfz, hnc, hcm, hcs, htake⟩ : ∃ g cap cur fz, bv = .slice (some ⟨g, 0, none⟩) t.length cap ∧ w0.heap.size ≤ g ∧ W.heap[g]? = some (.cells cur TU8 fz) ∧ fz.2 ≤ t.length * 1 ∧ t.length ≤ cap ∧ cap ≤ maxLen ∧ cur.size = cap * 1 ∧ cur.toList.take (t.length * 1) = byteCells t := by
    rcases hown.2 with ⟨_, hz⟩ | ⟨g, cap, cur, fz, hv, r⟩
    · exact absurd hz hl0
    · exact ⟨g, cap, cur, fz, hv, r⟩
  have c1 : W.drew.cell? ⟨b, 1, none⟩ = some (.slice (some ⟨g, 0, none⟩) t.length cap) := (doc3 (W := W.drew) hbk).1.2.1
  have c2 : W.cell? ⟨b, 1, none⟩ = some (.slice (some ⟨g, 0, none⟩) t.length cap) := (doc3 hbk).1.2.1
  have hSD : (Builtin.unsafeSliceData_ #[29] 68 #[.slice (some ⟨g, 0, none⟩) t.length cap]).run Tryd.prog W.drew = .ok (.pointer (some ⟨g, 0, none⟩)) W.drew :=
    Lib.run_unsafeSliceData_row _ _ _ _ _ _ (by omega)
  have hUS : (Builtin.unsafeString_ #[68, 3] 9 #[.pointer (some ⟨g, 0, none⟩), .int .i64 t.length]).run Tryd.prog W.drew = .ok (.string ⟨t.toArray⟩) (W.drew.freeze ⟨g, 0, none⟩ t.length) := by
    refine Lib.run_unsafeString_row W.drew 68 3 9 TU8 underPtrU8 cellsU8 g cur.size (by have hg' : W.drew.heap[g]? = some (.cells cur TU8 fz) := hg; simp [World.shape?, hg']) t hs (by omega) (by unfold maxLen at hcm; omega) ?_
    intro j x hx
    have := hown.cells (g := g) rfl j (.int .u8 x.toNat) (by simp [Lib.byteCells, hx])
    exact this
  have hB1 := (hB.on (Below.refl _ _).drew).bytes (W' := W.drew.freeze ⟨g, 0, none⟩ t.length) hg hbg (freeze_grown _ _ _)
  have HB1 := Lib.hid hB1.below
  clear h hB hbk hown hg hfz hcs htake hB1 hT
  go_enter Tryd.func21, Tryd.ntmps21
  go_big_wp2
  go_region
  all_goals (go_big_wp2; go_ret; exact ⟨rfl, HB1.out⟩)

theorem oneE_ne (attr : Bool) (b : UInt8) : oneE attr b ≠ [] := by
  unfold oneE
  repeat' split
  all_goals simp [ampB, crB, ltB, gtB, quotB]
theorem escR_ne (attr : Bool) : ∀ {l : Bytes}, l ≠ [] → escR attr l ≠ []
  | [], h => absurd rfl h
  | [b], _ => oneE_ne attr b
  | b :: c :: r, _ => by
    rw [escR]
    split
    · simp [nbspB]
    · intro e
      exact oneE_ne attr b (List.append_eq_nil_iff.1 e).1
theorem oneE_len (attr : Bool) (b : UInt8) : (oneE attr b).length ≤ 6 := by
  unfold oneE
  repeat' split
  all_goals simp [ampB, crB, ltB, gtB, quotB]
theorem escR_len (attr : Bool) : ∀ (l : Bytes), (escR attr l).length ≤ 6 * l.length
  | [] => Nat.le_refl _
  | [b] => by have := oneE_len attr b; simpa [escR] using this
  | b :: c :: r => by
    rw [escR]
    split
    · have := escR_len attr r
      rw [List.length_append]
      simp only [List.length_cons, nbspB, List.length_nil]
      omega
    · have h1 := oneE_len attr b
      have h2 := escR_len attr (c :: r)
      rw [List.length_append]
      simp only [List.length_cons] at h2 ⊢
      omega

set_option maxRecDepth 100000 in
set_option maxHeartbeats 2000000 in
theorem put_any (w0 : World) (b : Nat) (s : ByteArray) (d : Bytes × Bool) (W : World) (hd : d.1 ≠ [] ∨ bl s ≠ []) (hl : d.1.length ≤ 65536) (_hlen : s.size ≤ 1073741824) (h : DocAt w0 b d W) :
    Calls Tryd.prog 41 #[.pointer (some ⟨b, 0, none⟩), .string s] W fun e w' => e = .returned (.tuple #[]) ∧ DocAt w0 b (putT d (bl s)) w' ∧ KeepD b W w' := by
  obtain ⟨t, lg⟩ := d
  simp only at hd hl
  have hls := bl_length s
  obtain ⟨pa, bv, hB, hT⟩ := h.ex
  obtain ⟨ao, cap, hbv⟩ := text_slice hT
  subst hbv
  have HL := Lib.hid (dlen_any b t.length cap ao pa lg W hB.blk)
  obtain ⟨⟨x0, x1, x2⟩, y0, y1, y2⟩ := doc3 hB.blk
  have hsub : wrap64 (65536 - (t.length : Int)) = 65536 - (t.length : Int) := IntWalk.wrap64_in _ ⟨by omega, by omega⟩
  by_cases hbig : (65536 : Int) - (t.length : Int) < (s.size : Int)
  · have e : putT (t, lg) (bl s) = (t, true) := by unfold putT; rw [hls, if_pos hbig]
    rw [e]
    have hset := hB.set (i := 2) (v := .bool true) (pa' := pa) (bv' := .slice ao t.length cap) (lg' := true) rfl
    have hD : DocAt w0 b (t, true) (W.setCell ⟨b, 2, none⟩ (.bool true)) := ⟨pa, .slice ao t.length cap, hset, by
      rcases hT with h | ⟨h1, h2, h3⟩
      · exact .inl h
      · exact .inr ⟨h1, h2, own_fset h3 hB.blk (by decide)⟩⟩
    have HD := Lib.hid hD
    clear e hset hD h hB hT hd
    go_enter Tryd.func41, Tryd.ntmps41
    go_big_wp2_with (go_at_call 61; refine HL.out.mono ?_; rintro e w1 ⟨rfl, rfl⟩)
    refine bodyPost_ret (results_none rfl _ _ _) rfl ?_
    exact ⟨rfl, HD.out, (Lib.OthersKept.refl TU8 (some b) W).setCell ⟨b, 2, none⟩ rfl _⟩
  · have e : putT (t, lg) (bl s) = (t ++ bl s, lg) := by unfold putT; rw [hls, if_neg hbig]
    rw [e]
    have HW := Lib.hid (dwrite_any w0 b s t lg W hd (by omega) h)
    clear e h hB hT hd
    go_enter Tryd.func41, Tryd.ntmps41
    go_big_wp2_with (first
      | (go_at_call 61; refine HL.out.mono ?_; rintro e w1 ⟨rfl, rfl⟩)
      | (go_at_call 20; refine HW.out.mono ?_; rintro e w2 ⟨rfl, hD2, hK2⟩; have HD2 := Lib.hid (And.intro hD2 hK2); clear hD2 hK2))
    go_end0
    exact ⟨rfl, HD2.out.1, HD2.out.2⟩
set_option maxRecDepth 100000 in
set_option maxHeartbeats 2000000 in
theorem putEscaped_any (w0 : World) (b : Nat) (attr : Bool) (g : FuncId) (eg : ∀ args w, (callFunc g args).run Tryd.prog w = .ok (.enter g args) w)
    (HG : Hid (∀ (s : ByteArray), s.size ≤ 1048576 → ∀ w : World, Calls Tryd.prog g #[.string s] w fun e w' => e = .returned (.string ⟨(escR attr (bl s)).toArray⟩) ∧ Below w.heap.size w w'))
    (s : ByteArray) (d : Bytes × Bool) (W : World) (hd : d.1 ≠ [] ∨ bl s ≠ []) (hl : d.1.length ≤ 65536) (h : DocAt w0 b d W) :
    Calls Tryd.prog 40 #[.pointer (some ⟨b, 0, none⟩), .string s, .func (.func g) #[] #[]] W fun e w' => e = .returned (.tuple #[]) ∧ DocAt w0 b (putE attr d (bl s)) w' ∧ KeepD b W w' := by
  have hls := bl_length s
  obtain ⟨t, lg⟩ := d
  simp only at hd hl
  by_cases hbig : 65536 < s.size
  · have hI : (65536 : Int) < (s.size : Int) := by omega
    have e : putE attr (t, lg) (bl s) = (t, true) := by unfold putE; rw [hls, if_pos hbig]
    rw [e]
    obtain ⟨pa, bv, hB, hT⟩ := h.ex
    obtain ⟨⟨x0, x1, x2⟩, y0, y1, y2⟩ := doc3 hB.blk
    have hset := hB.set (i := 2) (v := .bool true) (pa' := pa) (bv' := bv) (lg' := true) rfl
    have hD : DocAt w0 b (t, true) (W.setCell ⟨b, 2, none⟩ (.bool true)) := ⟨pa, bv, hset, by
      rcases hT with h | ⟨h1, h2, h3⟩
      · exact .inl h
      · exact .inr ⟨h1, h2, own_fset h3 hB.blk (by decide)⟩⟩
    have HD := Lib.hid hD
    clear e hset hD h hB hT hd
    go_enter Tryd.func40, Tryd.ntmps40
    go_big_wp2
    refine bodyPost_ret (results_none rfl _ _ _) rfl ?_
    exact ⟨rfl, HD.out, (Lib.OthersKept.refl TU8 (some b) W).setCell ⟨b, 2, none⟩ rfl _⟩
  · have hI : ¬ (65536 : Int) < (s.size : Int) := by omega
    have e : putE attr (t, lg) (bl s) = putT (t, lg) (escR attr (bl s)) := by unfold putE; rw [hls, if_neg hbig]
    rw [e]
    have HE := Lib.hid (HG.out s (by omega) W)
    have hel := escR_len attr (bl s)
    rw [hls] at hel
    have hne : t ≠ [] ∨ bl (⟨(escR attr (bl s)).toArray⟩ : ByteArray) ≠ [] := by
      rcases hd with hd | hd
      · exact .inl hd
      · exact .inr (escR_ne attr hd)
    have HPt := Lib.hid fun (W1 : World) (hb : Below W.heap.size W W1) => put_any w0 b ⟨(escR attr (bl s)).toArray⟩ (t, lg) W1 hne hl (by show (escR attr (bl s)).toArray.size ≤ _; simp; omega) (h.on hb)
    rw [bl_of (escR attr (bl s))] at HPt
    clear e h hd hne hel
    go_enter Tryd.func40, Tryd.ntmps40
    go_big_wp2_with (first
      | (go_at_fn g; refine HE.out.mono ?_; rintro e w1 ⟨rfl, hb1⟩; have HB1 := Lib.hid hb1; clear hb1)
      | (go_at_call 41; refine (HPt.out _ HB1.out).mono ?_; rintro e w2 ⟨rfl, hD2, hK2⟩; have HD2 := Lib.hid (And.intro hD2 ((KeepD.of_below HB1.out).trans hK2)); clear hD2 hK2))
    go_end0
    exact ⟨rfl, HD2.out.1, HD2.out.2⟩
end Go.Proofs.YtkfmfldkllkcbabDoor

namespace Go.SerialKit
open Go Go.Lib Go.TokenKit Go.TreeKit
def attrsPut (d : Bytes × Bool) : List At → Bytes × Bool
  | [] => d
  | a :: r => attrsPut (putT (putE true (putT d (32 :: a.1 ++ [61, 34])) a.2) [34]) r
def beginL (d : Bytes × Bool) (x : NI) : Bytes × Bool :=
  if x.kind = 2 then putE false d x.data
  else if x.kind = 1 then putT (attrsPut (putT d (60 :: x.name)) x.attrs) [62]
  else d
def isVoidB (n : Bytes) : Bool := n == [98, 114] || n == [119, 98, 114] || n == [104, 114]
def endD (d : Bytes × Bool) (x : NI) : Bytes × Bool := if x.kind = 1 ∧ isVoidB x.name = false then putT d (60 :: 47 :: x.name ++ [62]) else d
/-- What is asked of a node that is written. -/
structure Mild (x : NI) : Prop where
  name : x.name.length ≤ 1000
  attrs : ∀ a, a ∈ x.attrs → a.1.length ≤ 1048576
  data : x.kind = 2 → x.data ≠ []
theorem putT_len {d : Bytes × Bool} (h : d.1.length ≤ 65536) (s : Bytes) : (putT d s).1.length ≤ 65536 := by
  unfold putT
  split
  · exact h
  · simp only [List.length_append]; omega
theorem putE_len {attr : Bool} {d : Bytes × Bool} (h : d.1.length ≤ 65536) (s : Bytes) : (putE attr d s).1.length ≤ 65536 := by
  unfold putE
  split
  · exact h
  · exact putT_len h _
theorem putT_ne {d : Bytes × Bool} (h : d.1 ≠ []) (s : Bytes) : (putT d s).1 ≠ [] := by
  unfold putT
  split
  · exact h
  · exact fun e => h (List.append_eq_nil_iff.1 e).1
theorem putE_ne {attr : Bool} {d : Bytes × Bool} (h : d.1 ≠ []) (s : Bytes) : (putE attr d s).1 ≠ [] := by
  unfold putE
  split
  · exact h
  · exact putT_ne h _
theorem putT_some {d : Bytes × Bool} {s : Bytes} (hs : s ≠ []) (hl : s.length ≤ 65536) : (putT d s).1 ≠ [] := by
  unfold putT
  split
  · intro e
    simp only at e
    rename_i h
    rw [e] at h
    simp at h
    omega
  · exact fun e => hs (List.append_eq_nil_iff.1 e).2
theorem attrsPut_len : ∀ (l : List At) {d : Bytes × Bool}, d.1.length ≤ 65536 → (attrsPut d l).1.length ≤ 65536
  | [], _, h => h
  | _ :: r, _, h => attrsPut_len r (putT_len (putE_len (putT_len h _) _) _)
theorem attrsPut_ne : ∀ (l : List At) {d : Bytes × Bool}, d.1 ≠ [] → (attrsPut d l).1 ≠ []
  | [], _, h => h
  | _ :: r, _, h => attrsPut_ne r (putT_ne (putE_ne (putT_ne h _) _) _)
theorem beginL_len {d : Bytes × Bool} (h : d.1.length ≤ 65536) (x : NI) : (beginL d x).1.length ≤ 65536 := by
  unfold beginL
  split
  · exact putE_len h _
  · split
    · exact putT_len (attrsPut_len _ (putT_len h _)) _
    · exact h
theorem endD_len {d : Bytes × Bool} (h : d.1.length ≤ 65536) (x : NI) : (endD d x).1.length ≤ 65536 := by
  unfold endD
  split
  · exact putT_len h _
  · exact h
end Go.SerialKit
namespace Go.Proofs.YtkfmfldkllkcbabDoor
open Go.RowKit Go.RunKit Go.UtfKit Go.CharrefKit Go.Lib Go.TokenKit Go.TreeKit Go.SerialKit

set_option maxRecDepth 100000 in
set_option maxHeartbeats 1000000 in
theorem isVoid06_any (s : ByteArray) (w : World) : Calls Tryd.prog 42 #[.string s] w fun e w' => e = .returned (.bool (isVoidB (bl s))) ∧ w = w' := by
  have hlist := Lib.toList_data s
  have hbn : ∀ v : Bytes, ¬ bl s = v → (s.toList == v) = false := fun v h => by rw [hlist]; exact beq_eq_false_iff_ne.2 h
  have HBn := Lib.hid hbn
  clear hbn hlist
  by_cases h1 : bl s = [98, 114]
  · obtain rfl : s = ⟨#[98, 114]⟩ := bl_eq h1
    show Calls _ _ _ _ fun e w' => e = .returned (.bool true) ∧ _
    go_enter Tryd.func42, Tryd.ntmps42
    go_big_wp2
    go_ret
    exact ⟨rfl, rfl⟩
  have n1 := HBn.out _ h1
  by_cases h2 : bl s = [119, 98, 114]
  · obtain rfl : s = ⟨#[119, 98, 114]⟩ := bl_eq h2
    show Calls _ _ _ _ fun e w' => e = .returned (.bool true) ∧ _
    clear n1
    go_enter Tryd.func42, Tryd.ntmps42
    go_big_wp2
    go_ret
    exact ⟨rfl, rfl⟩
  have n2 := HBn.out _ h2
  by_cases h3 : bl s = [104, 114]
  · obtain rfl : s = ⟨#[104, 114]⟩ := bl_eq h3
    show Calls _ _ _ _ fun e w' => e = .returned (.bool true) ∧ _
    clear n1 n2
    go_enter Tryd.func42, Tryd.ntmps42
    go_big_wp2
    go_ret
    exact ⟨rfl, rfl⟩
  have n3 := HBn.out _ h3
  have e : isVoidB (bl s) = false := by unfold isVoidB; rw [beq_eq_false_iff_ne.2 h1, beq_eq_false_iff_ne.2 h2, beq_eq_false_iff_ne.2 h3]; rfl
  rw [e]
  clear h1 h2 h3 e
  go_enter Tryd.func42, Tryd.ntmps42
  go_big_wp2
  go_ret
  exact ⟨rfl, rfl⟩

set_option maxRecDepth 100000 in
set_option maxHeartbeats 2000000 in
theorem end06_any (w0 : World) (b g m : Nat) (x : NI) (d : Bytes × Bool) (W : World) (hm : Mild x) (hl : d.1.length ≤ 65536) (hx : NodeIn w0 g m x) (h : DocAt w0 b d W) :
    Calls Tryd.prog 29 #[.pointer (some ⟨b, 0, none⟩), .pointer (some ⟨g, m, none⟩)] W fun e w' => e = .returned (.tuple #[]) ∧ DocAt w0 b (endD d x) w' ∧ KeepD b W w' := by
  have hn := hx.on h.below
  have ck := hn.kind
  have cn := hn.name
  have hnl := hm.name
  have hV := fun W1 => isVoid06_any ⟨x.name.toArray⟩ W1
  rw [bl_of x.name] at hV
  have hbn : bl ⟨x.name.toArray⟩ = x.name := bl_of x.name
  have hns : (⟨x.name.toArray⟩ : ByteArray).size = x.name.length := by simp [ByteArray.size]
  obtain ⟨k, hk⟩ : ∃ k, x.kind = k := ⟨_, rfl⟩
  obtain ⟨ns, hns2⟩ : ∃ ns : ByteArray, ⟨x.name.toArray⟩ = ns := ⟨_, rfl⟩
  obtain ⟨v, hv⟩ : ∃ v, isVoidB x.name = v := ⟨_, rfl⟩
  rw [hk] at ck
  rw [hns2] at cn hV hbn hns
  rw [hv] at hV
  have HV := Lib.hid hV
  have HD := Lib.hid h
  clear hn hx hV hns2 hm h
  by_cases h1 : k = 1
  · subst h1
    cases v with
    | true =>
      have e : endD d x = d := by unfold endD; rw [if_neg (fun e => by rw [hv] at e; exact absurd e.2 (by decide))]
      rw [e]
      clear e hk hv hbn
      go_enter Tryd.func29, Tryd.ntmps29
      go_big_wp2_with (go_at_call 42; refine (HV.out _).mono ?_; rintro e w1 ⟨rfl, rfl⟩)
      go_end0
      exact ⟨rfl, HD.out, Lib.OthersKept.refl _ _ _⟩
    | false =>
      have e : endD d x = putT d (60 :: 47 :: x.name ++ [62]) := by unfold endD; rw [if_pos ⟨hk, hv⟩]
      rw [e]
      have hput := put_any w0 b (⟨#[60, 47]⟩ ++ ns ++ ⟨#[62]⟩) d W (.inr (by rw [bl_join, bl_join, hbn]; simp [show bl (⟨#[60, 47]⟩ : ByteArray) = [60, 47] from rfl])) hl (by
        rw [ByteArray.size_append, ByteArray.size_append, hns]
        show 2 + x.name.length + 1 ≤ _
        omega) HD.out
      rw [bl_join, bl_join, hbn, show bl (⟨#[60, 47]⟩ : ByteArray) = [60, 47] from rfl, show bl (⟨#[62]⟩ : ByteArray) = [62] from rfl] at hput
      have HP := Lib.hid hput
      have s1 : ¬ (9223372036854775807 : Int) < 2 + (ns.size : Int) := by omega
      have s2 : ¬ (9223372036854775807 : Int) < 2 + (ns.size : Int) + 1 := by omega
      clear e hk hv hbn hput
      go_enter Tryd.func29, Tryd.ntmps29
      go_big_wp2_with (first
        | (go_at_call 42; refine (HV.out _).mono ?_; rintro e w1 ⟨rfl, rfl⟩)
        | (go_at_call 41; refine HP.out.mono ?_; rintro e w2 ⟨rfl, hD2, hK2⟩; have HD2 := Lib.hid (And.intro hD2 hK2); clear hD2 hK2))
      go_end0
      exact ⟨rfl, HD2.out.1, HD2.out.2⟩
  · have e : endD d x = d := by unfold endD; rw [if_neg (fun e => h1 (by rw [← hk]; exact e.1))]
    rw [e]
    have h1I : ¬ ((k : Nat) : Int) = 1 := by omega
    have h1B : (((k : Nat) : Int) == 1) = false := by rw [beq_eq_false_iff_ne]; omega
    clear e hk hv hbn
    go_enter Tryd.func29, Tryd.ntmps29
    go_big_wp2
    go_end0
    exact ⟨rfl, HD.out, Lib.OthersKept.refl _ _ _⟩

set_option maxRecDepth 100000 in
set_option maxHeartbeats 8000000 in
theorem begin2_any (w0 : World) (b g m : Nat) (x : NI) (d : Bytes × Bool) (W : World) (hm : Mild x) (hl : d.1.length ≤ 65536) (hx : NodeIn w0 g m x) (h : DocAt w0 b d W) (hk : x.kind = 2) :
    Calls Tryd.prog 28 #[.pointer (some ⟨b, 0, none⟩), .pointer (some ⟨g, m, none⟩)] W fun e w' => e = .returned (.tuple #[]) ∧ DocAt w0 b (beginL d x) w' ∧ KeepD b W w' := by
  have hn := hx.on h.below
  have ck := hn.kind
  have HX := Lib.hid hx
  have HM := Lib.hid hm
  have HD := Lib.hid h
  rw [hk] at ck
  have cd := hn.data
  have hdata := hm.data hk
  have hbd : bl ⟨x.data.toArray⟩ = x.data := bl_of x.data
  have hput := putEscaped_any w0 b false 7 (enters_of Tryd.func7 (by kernel_rfl) rfl) (Lib.hid fun s hs w => escText_any s hs w) ⟨x.data.toArray⟩ d W (.inr (by rw [hbd]; exact hdata)) hl h
  rw [hbd] at hput
  have e : beginL d x = putE false d x.data := by unfold beginL; rw [if_pos hk]
  rw [e]
  have HP := Lib.hid hput
  generalize (⟨x.data.toArray⟩ : ByteArray) = ds at *
  clear e hk hbd hput hn hx hm h hdata
  go_enter Tryd.func28, Tryd.ntmps28
  go_big_wp2_with (go_at_call 40; refine HP.out.mono ?_; rintro e w2 ⟨rfl, hD2, hK2⟩; have HD2 := Lib.hid (And.intro hD2 hK2); clear hD2 hK2)
  go_end0
  exact ⟨rfl, HD2.out.1, HD2.out.2⟩
set_option maxRecDepth 100000 in
set_option maxHeartbeats 8000000 in
theorem begin1_any (w0 : World) (b g m : Nat) (x : NI) (d : Bytes × Bool) (W : World) (hm : Mild x) (hl : d.1.length ≤ 65536) (hx : NodeIn w0 g m x) (h : DocAt w0 b d W) (hk : x.kind = 1) :
    Calls Tryd.prog 28 #[.pointer (some ⟨b, 0, none⟩), .pointer (some ⟨g, m, none⟩)] W fun e w' => e = .returned (.tuple #[]) ∧ DocAt w0 b (beginL d x) w' ∧ KeepD b W w' := by
  have hn := hx.on h.below
  have ck := hn.kind
  have HX := Lib.hid hx
  have HM := Lib.hid hm
  have HD := Lib.hid h
  rw [hk] at ck
  have e : beginL d x = putT (attrsPut (putT d (60 :: x.name)) x.attrs) [62] := by unfold beginL; rw [if_neg (by omega), if_pos hk]
  rw [e]
  have cn := hn.name
  have hnl := hm.name
  have hbn : bl ⟨x.name.toArray⟩ = x.name := bl_of x.name
  have hns : (⟨x.name.toArray⟩ : ByteArray).size = x.name.length := by simp [ByteArray.size]
  obtain ⟨ns, hns2⟩ : ∃ ns : ByteArray, ⟨x.name.toArray⟩ = ns := ⟨_, rfl⟩
  rw [hns2] at cn hbn hns
  have hput := put_any w0 b (⟨#[60]⟩ ++ ns) d W (.inr (by rw [bl_join, hbn]; simp [show bl (⟨#[60]⟩ : ByteArray) = [60] from rfl])) hl (by
    rw [ByteArray.size_append, hns]
    show 1 + x.name.length ≤ _
    omega) h
  rw [bl_join, hbn, show bl (⟨#[60]⟩ : ByteArray) = [60] from rfl, List.singleton_append] at hput
  have HP := Lib.hid hput
  have s1 : ¬ (9223372036854775807 : Int) < 1 + (ns.size : Int) := by omega
  have hne0 : (putT d (60 :: x.name)).1 ≠ [] := putT_some (by simp) (by simp only [List.length_cons]; omega)
  have hl0 := putT_len hl (60 :: x.name)
  obtain ⟨d1, hd1⟩ : ∃ d1, putT d (60 :: x.name) = d1 := ⟨_, rfl⟩
  rw [hd1] at HP hne0 hl0
  rw [hd1]
  obtain ⟨ao, cap, hc2, hA, _, hlim⟩ := hx.attrs
  have HA := Lib.hid hA
  have HML := Lib.hid hm.attrs
  obtain ⟨n, hnn⟩ : ∃ n, x.attrs.length = n := ⟨_, rfl⟩
  have HNn := Lib.hid hnn
  rw [hnn] at hc2 hlim
  have HC2 := Lib.hid hc2
  have HS0 := Lib.hid (And.intro hne0 hl0)
  obtain ⟨d2, hd2⟩ : ∃ d2, attrsPut d1 x.attrs = d2 := ⟨_, rfl⟩
  rw [hd2]
  have D0 : Hid (attrsPut d1 (x.attrs.drop 0) = d2) := Lib.hid hd2
  have hend : Hid (d2.1 ≠ [] ∧ d2.1.length ≤ 65536) := Lib.hid (by rw [← hd2]; exact ⟨attrsPut_ne _ hne0, attrsPut_len _ hl0⟩)
  clear e hk hbn hput hn hx hm h hns2 hd1 hd2 hne0 hl0 hA hnn hnl hc2
  go_enter Tryd.func28, Tryd.ntmps28
  go_big_wp2_with (go_at_call 41
                   go_loud (
                     refine HP.out.mono ?_
                     rintro e w2 ⟨rfl, hD2, hK2⟩
                     have c2 : w2.cell? ⟨g, m + 2, none⟩ = some (.slice ao n cap) := by rw [hD2.below.cell (World.block_lt_of_cell? _ _ HC2.out)]; exact HC2.out
                     have HD2 := Lib.hid hD2
                     have HK2 := Lib.hid hK2
                     clear hD2 hK2))
  go_loopw [32] (fun a wr => ∃ (j : Nat) (dj : Bytes × Bool), a = .int .i64 ((j : Nat) : Int) ∧ j ≤ n ∧ Hid (DocAt w0 b dj wr) ∧ Hid (KeepD b W wr) ∧ Hid (attrsPut dj (x.attrs.drop j) = d2) ∧ Hid (dj.1 ≠ [] ∧ dj.1.length ≤ 65536)) (fun a _ => n - (RowKit.intOf a).toNat)
  case atStart => exact ⟨0, d1, rfl, Nat.zero_le _, HD2, HK2, D0, HS0⟩
  case round =>
    clear HD2 HK2 D0 HS0 HP c2 cn ck
    obtain ⟨j, dj, rfl, hj, HDj, HKj, HE, HSj⟩ := hrel
    by_cases hlt : j < n
    · have hltI : (j : Int) < (n : Int) := by omega
      have hjl : j < x.attrs.length := by have := HNn.out; omega
      have hla : x.attrs[j]? = some (x.attrs.getD j ([], [])) := by
        rw [List.getD_eq_getElem?_getD, List.getElem?_eq_getElem hjl]
        rfl
      have hdr : x.attrs.drop j = x.attrs.getD j ([], []) :: x.attrs.drop (j + 1) := by
        rw [List.drop_eq_getElem_cons hjl, List.getD_eq_getElem?_getD, List.getElem?_eq_getElem hjl]
        rfl
      rw [hdr] at HE
      have hal := HML.out _ (List.mem_of_getElem? hla)
      obtain ⟨gk, ok, hko, hc1, hc2⟩ := (HA.out.on HDj.out.below).at_ j _ hla
      subst hko
      obtain ⟨a1, ha1⟩ : ∃ a1, (x.attrs.getD j ([], [])).1 = a1 := ⟨_, rfl⟩
      obtain ⟨a2, ha2⟩ : ∃ a2, (x.attrs.getD j ([], [])).2 = a2 := ⟨_, rfl⟩
      have hE2 : attrsPut (putT (putE true (putT dj (32 :: a1 ++ [61, 34])) a2) [34]) (x.attrs.drop (j + 1)) = d2 := by rw [← ha1, ← ha2]; exact HE.out
      have HE2 := Lib.hid hE2
      rw [ha1] at hc1 hal
      rw [ha2] at hc2
      have hb1 : bl ⟨a1.toArray⟩ = a1 := bl_of a1
      have hb2 : bl ⟨a2.toArray⟩ = a2 := bl_of a2
      have hz1 : (⟨a1.toArray⟩ : ByteArray).size = a1.length := by simp [ByteArray.size]
      obtain ⟨s1, hs1⟩ : ∃ s1 : ByteArray, ⟨a1.toArray⟩ = s1 := ⟨_, rfl⟩
      obtain ⟨s2, hs2⟩ : ∃ s2 : ByteArray, ⟨a2.toArray⟩ = s2 := ⟨_, rfl⟩
      rw [hs1] at hc1 hb1 hz1
      rw [hs2] at hc2 hb2
      have hbw : Below wr.heap.size wr (wr.alloc (.cells #[.string s1, .string s2] 35)) := (Below.refl _ _).alloc (Nat.le_refl _) _
      have hl2 := heap_alloc_new wr (.cells #[.string s1, .string s2] 35)
      have z0 : (wr.alloc (.cells #[.string s1, .string s2] 35)).cell? ⟨wr.heap.size, 0, none⟩ = some (.string s1) := by rw [cell_of_row _ _ 0 _ _ _ hl2]; rfl
      have hbne : wr.heap.size ≠ b := by
        obtain ⟨_, _, hB, _⟩ := HDj.out.ex
        have := (Array.getElem?_eq_some_iff.1 hB.blk).1
        omega
      have hp1 := put_any w0 b (⟨#[32]⟩ ++ s1 ++ ⟨#[61, 34]⟩) dj (wr.alloc (.cells #[.string s1, .string s2] 35)) (.inl HSj.out.1) HSj.out.2 (by
        rw [ByteArray.size_append, ByteArray.size_append, hz1]
        show 1 + a1.length + 2 ≤ _
        omega) (HDj.out.on hbw)
      rw [bl_join, bl_join, hb1, show bl (⟨#[32]⟩ : ByteArray) = [32] from rfl, show bl (⟨#[61, 34]⟩ : ByteArray) = [61, 34] from rfl, show ([32] ++ a1 ++ [61, 34] : Bytes) = 32 :: a1 ++ [61, 34] from rfl] at hp1
      have hne1 := putT_ne HSj.out.1 (32 :: a1 ++ [61, 34])
      have hle1 := putT_len HSj.out.2 (32 :: a1 ++ [61, 34])
      obtain ⟨e1, he1⟩ : ∃ e1, putT dj (32 :: a1 ++ [61, 34]) = e1 := ⟨_, rfl⟩
      rw [he1] at hp1 hne1 hle1 HE2
      have hp2 := fun (W1 : World) (h1 : DocAt w0 b e1 W1) => putEscaped_any w0 b true 9 (enters_of Tryd.func9 (by kernel_rfl) rfl) (Lib.hid fun s hs w => escAttr_any s hs w) s2 e1 W1 (.inl hne1) hle1 h1
      rw [hb2] at hp2
      have hne2 := putE_ne (attr := true) hne1 a2
      have hle2 := putE_len (attr := true) hle1 a2
      obtain ⟨e2, he2⟩ : ∃ e2, putE true e1 a2 = e2 := ⟨_, rfl⟩
      rw [he2] at hp2 hne2 hle2 HE2
      have hp3 := fun (W1 : World) (h1 : DocAt w0 b e2 W1) => put_any w0 b ⟨#[34]⟩ e2 W1 (.inl hne2) hle2 (by decide) h1
      rw [show bl (⟨#[34]⟩ : ByteArray) = [34] from rfl] at hp3
      have HS3 : Hid ((putT e2 [34]).1 ≠ [] ∧ (putT e2 [34]).1.length ≤ 65536) := Lib.hid ⟨putT_ne hne2 _, putT_len hle2 _⟩
      have HP1 := Lib.hid hp1
      have HP2 := Lib.hid hp2
      have HP3 := Lib.hid hp3
      have HZ := Lib.hid (And.intro hl2 hbne)
      have HKw := Lib.hid (HKj.out.trans (KeepD.of_below hbw))
      have t1 : ¬ (9223372036854775807 : Int) < 1 + (s1.size : Int) := by omega
      have t2 : ¬ (9223372036854775807 : Int) < 1 + (s1.size : Int) + 2 := by omega
      clear hp1 hp2 hp3 hbw hl2 hbne hE2 hla hdr hal ha1 ha2 hb1 hb2 hz1 hs1 hs2 hne1 hle1 hne2 hle2 he1 he2 hjl
      go_big_wp2_with (first
        | (go_at_call 41
           go_loud (
             refine HP1.out.mono ?_
             clear HP1
             rintro e w2 ⟨rfl, hD2, hK2⟩
             have hrow := hK2 _ _ HZ.out.1 (fun e => HZ.out.2 (Option.some.inj e)) (fun c fz e => by cases e)
             have y1 : w2.cell? ⟨wr.heap.size, 1, none⟩ = some (.string s2) := by rw [cell_of_row _ _ 1 _ _ _ hrow]; rfl
             have HD2 := Lib.hid (And.intro hD2 (HKw.out.trans hK2))
             clear hD2 hK2 hrow))
        | (go_at_call 40
           go_loud (
             refine (HP2.out _ HD2.out.1).mono ?_
             clear HP2
             rintro e w3 ⟨rfl, hD3, hK3⟩
             have HD3 := Lib.hid (And.intro hD3 (HD2.out.2.trans hK3))
             clear hD3 hK3))
        | (go_at_call 41
           go_loud (
             refine (HP3.out _ HD3.out.1).mono ?_
             rintro e w4 ⟨rfl, hD4, hK4⟩
             have HD4 := Lib.hid (And.intro hD4 (HD3.out.2.trans hK4))
             clear hD4 hK4)))
      exact ⟨⟨j + 1, putT e2 [34], by go_num, by omega, Lib.hid HD4.out.1, Lib.hid HD4.out.2, HE2, HS3⟩, by simp [RowKit.intOf]; omega⟩
    · have hjn : j = n := by omega
      have hdn : x.attrs.drop j = [] := List.drop_eq_nil_of_le (by have := HNn.out; omega)
      rw [hdn] at HE
      have hdj : dj = d2 := HE.out
      have hp4 := put_any w0 b ⟨#[62]⟩ dj wr (.inl HSj.out.1) HSj.out.2 (by decide) HDj.out
      rw [show bl (⟨#[62]⟩ : ByteArray) = [62] from rfl, hdj] at hp4
      have HP4 := Lib.hid hp4
      have hltI : ¬ (j : Int) < (n : Int) := by omega
      clear hp4 hdn hdj hjn
      go_big_wp2_with (go_at_call 41; refine HP4.out.mono ?_; rintro e w5 ⟨rfl, hD5, hK5⟩; have HD5 := Lib.hid (And.intro hD5 (HKj.out.trans hK5)); clear hD5 hK5)
      go_end0
      exact ⟨rfl, HD5.out.1, HD5.out.2⟩
set_option maxRecDepth 100000 in
set_option maxHeartbeats 8000000 in
theorem begin0_any (w0 : World) (b g m : Nat) (x : NI) (d : Bytes × Bool) (W : World) (hm : Mild x) (_hl : d.1.length ≤ 65536) (hx : NodeIn w0 g m x) (h : DocAt w0 b d W) (h2 : ¬ x.kind = 2) (h1 : ¬ x.kind = 1) :
    Calls Tryd.prog 28 #[.pointer (some ⟨b, 0, none⟩), .pointer (some ⟨g, m, none⟩)] W fun e w' => e = .returned (.tuple #[]) ∧ DocAt w0 b (beginL d x) w' ∧ KeepD b W w' := by
  have hn := hx.on h.below
  have ck := hn.kind
  have HX := Lib.hid hx
  have HM := Lib.hid hm
  have HD := Lib.hid h
  obtain ⟨k, hk⟩ : ∃ k, x.kind = k := ⟨_, rfl⟩
  rw [hk] at ck h1 h2
  have h2I : ¬ ((k : Nat) : Int) = 2 := by omega
  have h2B : (((k : Nat) : Int) == 2) = false := by rw [beq_eq_false_iff_ne]; omega
  have h1I : ¬ ((k : Nat) : Int) = 1 := by omega
  have h1B : (((k : Nat) : Int) == 1) = false := by rw [beq_eq_false_iff_ne]; omega
  have e : beginL d x = d := by unfold beginL; rw [if_neg (by omega), if_neg (by omega)]
  rw [e]
  clear e hk hn hx hm h
  go_enter Tryd.func28, Tryd.ntmps28
  go_big_wp2
  go_end0
  exact ⟨rfl, HD.out, Lib.OthersKept.refl _ _ _⟩
theorem begin06_any (w0 : World) (b g m : Nat) (x : NI) (d : Bytes × Bool) (W : World) (hm : Mild x) (hl : d.1.length ≤ 65536) (hx : NodeIn w0 g m x) (h : DocAt w0 b d W) :
    Calls Tryd.prog 28 #[.pointer (some ⟨b, 0, none⟩), .pointer (some ⟨g, m, none⟩)] W fun e w' => e = .returned (.tuple #[]) ∧ DocAt w0 b (beginL d x) w' ∧ KeepD b W w' := by
  by_cases h2 : x.kind = 2
  · exact begin2_any w0 b g m x d W hm hl hx h h2
  · by_cases h1 : x.kind = 1
    · exact begin1_any w0 b g m x d W hm hl hx h h1
    · exact begin0_any w0 b g m x d W hm hl hx h h2 h1
end Go.Proofs.YtkfmfldkllkcbabDoor

namespace Go.SerialKit
open Go Go.Lib Go.TokenKit Go.TreeKit
/-- What is written of a node and what is below it, unless it is too long already. -/
def writeF (T : List NI) : Nat → Nat → Bytes × Bool → Bytes × Bool
  | 0, _, d => d
  | f + 1, i, d => if d.2 = true then d else endD ((T.getD i noNI).kids.foldl (fun d k => writeF T f k.toNat d) (beginL d (T.getD i noNI))) (T.getD i noNI)
theorem writeF_succ (T : List NI) (f i : Nat) (d : Bytes × Bool) : writeF T (f + 1) i d = if d.2 = true then d else endD ((T.getD i noNI).kids.foldl (fun d k => writeF T f k.toNat d) (beginL d (T.getD i noNI))) (T.getD i noNI) := rfl
/-- Children stand behind their parent, and are there. -/
def KidsIn (T : List NI) : Prop := ∀ (i : Nat) (x : NI), T[i]? = some x → ∀ k, k ∈ x.kids → (i : Int) < k ∧ k < (T.length : Int)
theorem foldl_len {T : List NI} {f : Nat} (ih : ∀ (i : Nat) (d : Bytes × Bool), d.1.length ≤ 65536 → (writeF T f i d).1.length ≤ 65536) : ∀ (l : List Int) (d : Bytes × Bool), d.1.length ≤ 65536 → (l.foldl (fun d k => writeF T f k.toNat d) d).1.length ≤ 65536
  | [], _, h => h
  | _ :: r, d, h => foldl_len ih r _ (ih _ d h)
theorem writeF_len (T : List NI) : ∀ (f i : Nat) (d : Bytes × Bool), d.1.length ≤ 65536 → (writeF T f i d).1.length ≤ 65536
  | 0, _, _, h => h
  | f + 1, i, d, h => by
    unfold writeF
    split
    · exact h
    · exact endD_len (foldl_len (writeF_len T f) _ _ (beginL_len h _)) _
theorem kids_in {T : List NI} {i : Nat} : ∀ {l : List Int} {last : Nat}, i ≤ last → kidsL T i last l = true → ∀ k, k ∈ l → (i : Int) < k ∧ k < (T.length : Int)
  | [], _, _, _, _, hk => by cases hk
  | k0 :: r, last, hil, h, k, hk => by
    unfold kidsL at h
    split at h
    · cases h
    · split at h
      · cases h
      · split at h
        · split at h
          · cases h
          · rcases List.mem_cons.1 hk with rfl | hk
            · omega
            · exact kids_in (l := r) (last := k0.toNat) (by omega) h k hk
        · cases h
theorem haveF_kids {T : List NI} : ∀ (f i c r : Nat), haveF T f i c = some r → ∀ j, i ≤ j → j < i + f → kidsL T j j (T.getD j noNI).kids = true
  | 0, _, _, _, _, j, h1, h2 => by omega
  | f + 1, i, c, r, h, j, h1, h2 => by
    unfold haveF at h
    split at h
    · rename_i hk
      by_cases e : j = i
      · subst e; exact hk
      · exact haveF_kids f (i + 1) _ r h j (by omega) (by omega)
    · cases h
theorem haveKids_in {T : List NI} (h : haveKidsB T = true) : KidsIn T := by
  intro i x hx k hk
  unfold haveKidsB at h
  cases hh : haveF T T.length 0 0 with
  | none => rw [hh] at h; cases h
  | some c =>
    have hi := (List.getElem?_eq_some_iff.1 hx).1
    have e : T.getD i noNI = x := by rw [List.getD_eq_getElem?_getD, hx]; rfl
    have := haveF_kids T.length 0 0 c hh i (Nat.zero_le _) (by omega)
    rw [e] at this
    exact kids_in (Nat.le_refl _) this k hk
end Go.SerialKit
namespace Go.Proofs.YtkfmfldkllkcbabDoor
open Go.RowKit Go.RunKit Go.UtfKit Go.CharrefKit Go.Lib Go.TokenKit Go.TreeKit Go.SerialKit

abbrev TTr : TypeId := 37
abbrev TFn : TypeId := 62
/-- The cells that the closure has: the tree's, its own. -/
structure Caught (b bx cl g o n cap : Nat) (W : World) : Prop where
  tree : W.heap[bx]? = some (.cells #[.slice (some ⟨g, o, none⟩) n cap] TTr (0, 0))
  self : W.heap[cl]? = some (.cells #[.func (.func 27) #[] #[.pointer (some ⟨b, 0, none⟩), .pointer (some ⟨bx, 0, none⟩), .pointer (some ⟨cl, 0, none⟩)]] TFn (0, 0))
  apart : bx ≠ b ∧ cl ≠ b
theorem Caught.kept {b bx cl g o n cap : Nat} {W W' : World} (h : Caught b bx cl g o n cap W) (hk : KeepD b W W') : Caught b bx cl g o n cap W' :=
  ⟨hk _ _ h.tree (fun e => h.apart.1 (Option.some.inj e)) (fun c fz e => by cases e), hk _ _ h.self (fun e => h.apart.2 (Option.some.inj e)) (fun c fz e => by cases e), h.apart⟩

set_option maxRecDepth 100000 in
set_option maxHeartbeats 8000000 in
theorem write_any (w0 : World) (b bx cl g o n cap : Nat) (T : List NI) (hn : n = T.length) (hn2 : n ≤ 16384) (hT : TreeIn w0 g o T) (hK : KidsIn T) (hM : ∀ x, x ∈ T → Mild x) :
    ∀ (f i : Nat) (d : Bytes × Bool) (W : World), n - i ≤ f → i < n → d.1.length ≤ 65536 → DocAt w0 b d W → Caught b bx cl g o n cap W →
    Calls Tryd.prog 27 (#[.int .i64 ((i : Nat) : Int)] ++ #[.pointer (some ⟨b, 0, none⟩), .pointer (some ⟨bx, 0, none⟩), .pointer (some ⟨cl, 0, none⟩)]) W fun e w' => e = .returned (.tuple #[]) ∧ DocAt w0 b (writeF T f i d) w' ∧ KeepD b W w'
  | 0, i, d, W, hf, hi, _, _, _ => by omega
  | f + 1, i, d, W, hf, hi, hl, hD, hC => by
    have IH := Lib.hid (write_any w0 b bx cl g o n cap T hn hn2 hT hK hM f)
    have hiT : i < T.length := by omega
    have hx := hT.at_ i _ (node_at hiT)
    have hmem : T.getD i noNI ∈ T := List.mem_of_getElem? (node_at hiT)
    have hmild := hM _ hmem
    have hkids := hK i _ (node_at hiT)
    obtain ⟨x, hxx⟩ : ∃ x, T.getD i noNI = x := ⟨_, rfl⟩
    rw [hxx] at hx hmild hkids
    obtain ⟨m, hm⟩ : ∃ m, o + i * 6 = m := ⟨_, rfl⟩
    rw [hm] at hx
    have hiI : (i : Int) < (n : Int) := by omega
    obtain ⟨pa, bv, hB, hTx⟩ := hD.ex
    obtain ⟨⟨x0, x1, x2⟩, y0, y1, y2⟩ := doc3 hB.blk
    by_cases hlong : d.2 = true
    · have e : writeF T (f + 1) i d = d := by rw [writeF_succ, if_pos hlong]
      rw [e]
      rw [hlong] at x2
      have HD := Lib.hid hD
      clear e hx hmild hkids hB hTx hD hC hK hM hT hmem hxx hlong
      go_enter Tryd.func27, Tryd.ntmps27
      go_big_wp2
      refine bodyPost_ret (results_none rfl _ _ _) rfl ?_
      exact ⟨rfl, HD.out, Lib.OthersKept.refl _ _ _⟩
    · have hl2 : d.2 = false := by simpa using hlong
      rw [hl2] at x2
      have e : writeF T (f + 1) i d = endD (x.kids.foldl (fun d k => writeF T f k.toNat d) (beginL d x)) x := by rw [writeF_succ, if_neg hlong, hxx]
      rw [e]
      have c1 : W.cell? ⟨bx, 0, none⟩ = some (.slice (some ⟨g, o, none⟩) n cap) := by rw [cell_of_row _ _ 0 _ _ _ hC.tree]; rfl
      have HBe := Lib.hid (begin06_any w0 b g m x d W hmild hl hx hD)
      have hlb := beginL_len hl x
      obtain ⟨d1, hd1⟩ : ∃ d1, beginL d x = d1 := ⟨_, rfl⟩
      rw [hd1] at HBe hlb
      rw [hd1]
      have HC := Lib.hid hC
      have HX := Lib.hid hx
      have HKi := Lib.hid hkids
      obtain ⟨ko, kcap, hck, hKI, hkl⟩ := hx.kids
      obtain ⟨q, hq⟩ : ∃ q, x.kids.length = q := ⟨_, rfl⟩
      rw [hq] at hck hkl
      have HCk := Lib.hid hck
      have HKI := Lib.hid hKI
      have HQ := Lib.hid hq
      obtain ⟨d2, hd2⟩ : ∃ d2, x.kids.foldl (fun d k => writeF T f k.toNat d) d1 = d2 := ⟨_, rfl⟩
      rw [hd2]
      have D0 : Hid ((x.kids.drop 0).foldl (fun d k => writeF T f k.toNat d) d1 = d2) := Lib.hid hd2
      have HEn := Lib.hid fun (W1 : World) (dd : Bytes × Bool) (hdl : dd.1.length ≤ 65536) (h1 : DocAt w0 b dd W1) => end06_any w0 b g m x dd W1 hmild hdl hx h1
      have HLn := Lib.hid (writeF_len T f)
      have hnH := Lib.hid hn
      have HL1 := Lib.hid hlb
      have eg : ∀ args w, (callFunc 27 args).run Tryd.prog w = .ok (.enter 27 args) w := enters_of Tryd.func27 (by kernel_rfl) rfl
      clear e hx hmild hkids hB hTx hD hC hK hM hT hmem hxx hlong hl2 hd1 hd2 hck hKI hq hlb hn
      go_enter Tryd.func27, Tryd.ntmps27
      go_big_wp2_with (go_at_call 28
                       go_loud (
                         refine HBe.out.mono ?_
                         rintro e w1 ⟨rfl, hD1, hK1⟩
                         have c2 : w1.cell? ⟨g, m + 5, none⟩ = some (.slice ko q kcap) := by rw [hD1.below.cell (World.block_lt_of_cell? _ _ HCk.out)]; exact HCk.out
                         have HD1 := Lib.hid hD1
                         have HK1 := Lib.hid hK1
                         clear hD1 hK1))
      go_loopw [20] (fun a wr => ∃ (j : Nat) (dj : Bytes × Bool), a = .int .i64 ((j : Nat) : Int) ∧ j ≤ q ∧ Hid (DocAt w0 b dj wr) ∧ Hid (KeepD b W wr) ∧ Hid ((x.kids.drop j).foldl (fun d k => writeF T f k.toNat d) dj = d2) ∧ Hid (dj.1.length ≤ 65536)) (fun a _ => q - (RowKit.intOf a).toNat)
      case atStart => exact ⟨0, d1, rfl, Nat.zero_le _, HD1, HK1, D0, HL1⟩
      case round =>
        clear HD1 HK1 D0 HL1 c2 c1 x0 x1 x2 y0 y1 y2
        obtain ⟨j, dj, rfl, hj, HDj, HKj, HE, HLj⟩ := hrel
        by_cases hlt : j < q
        · have hltI : (j : Int) < (q : Int) := by omega
          obtain ⟨k, hk⟩ : ∃ k, x.kids[j]? = some k := ⟨_, List.getElem?_eq_getElem (by have := HQ.out; omega)⟩
          have hdr : x.kids.drop j = k :: x.kids.drop (j + 1) := by
            obtain ⟨h', e⟩ := List.getElem?_eq_some_iff.1 hk
            rw [List.drop_eq_getElem_cons h', e]
          rw [hdr] at HE
          have hkin := HKi.out k (List.mem_of_getElem? hk)
          obtain ⟨kn, rfl⟩ : ∃ kn : Nat, k = (kn : Int) := ⟨k.toNat, by omega⟩
          obtain ⟨gk, ok, hko, hcell⟩ := (HKI.out.on HDj.out.below).at_ j _ hk
          subst hko
          have c3 : wr.cell? ⟨cl, 0, none⟩ = some (.func (.func 27) #[] #[.pointer (some ⟨b, 0, none⟩), .pointer (some ⟨bx, 0, none⟩), .pointer (some ⟨cl, 0, none⟩)]) := by rw [cell_of_row _ _ 0 _ _ _ (HC.out.kept HKj.out).self]; rfl
          have HW := Lib.hid (IH.out kn dj wr (by have := hnH.out; omega) (by have := hnH.out; omega) HLj.out HDj.out (HC.out.kept HKj.out))
          have hE2 : (x.kids.drop (j + 1)).foldl (fun d k => writeF T f k.toNat d) (writeF T f kn dj) = d2 := HE.out
          have HE2 := Lib.hid hE2
          have HL2 := Lib.hid (HLn.out kn dj HLj.out)
          clear hE2 hdr hk hkin HE
          go_big_wp2_with (go_at_fn 27
                           go_loud (
                             refine HW.out.mono ?_
                             rintro e w2 ⟨rfl, hD2, hK2⟩
                             have HD2 := Lib.hid (And.intro hD2 (HKj.out.trans hK2))
                             clear hD2 hK2))
          exact ⟨⟨j + 1, _, by go_num, by omega, Lib.hid HD2.out.1, Lib.hid HD2.out.2, HE2, HL2⟩, by simp [RowKit.intOf]; omega⟩
        · have hjq : j = q := by omega
          have hdn : x.kids.drop j = [] := List.drop_eq_nil_of_le (by have := HQ.out; omega)
          rw [hdn] at HE
          have hdj : dj = d2 := HE.out
          have hltI : ¬ (j : Int) < (q : Int) := by omega
          have HN := Lib.hid (HEn.out wr dj HLj.out HDj.out)
          rw [hdj] at HN
          clear hdn hdj hjq HE
          go_big_wp2_with (go_at_call 29; refine HN.out.mono ?_; rintro e w3 ⟨rfl, hD3, hK3⟩; have HD3 := Lib.hid (And.intro hD3 (HKj.out.trans hK3)); clear hD3 hK3)
          go_end0
          exact ⟨rfl, HD3.out.1, HD3.out.2⟩
end Go.Proofs.YtkfmfldkllkcbabDoor

namespace Go.Proofs.YtkfmfldkllkcbabDoor
open Go.RowKit Go.RunKit Go.UtfKit Go.CharrefKit Go.Lib Go.TokenKit Go.TreeKit Go.SerialKit

/-- P6.2, as the code tells it. -/
def serialL (T : List NI) : Bytes × Nat :=
  if rightB T = true then (if (writeF T T.length 0 ([], false)).2 = true then ([], 3) else ((writeF T T.length 0 ([], false)).1, 0)) else ([], 53)
theorem standL_mem : ∀ {l : List NI} {i : Nat} {st : List Opd}, standL i st l = true → ∀ x, x ∈ l → (x.kind = 2 ∧ isTextB x = true) ∨ (x.kind = 1 ∧ kindL x.name ≠ 0 ∧ isElementB x = true)
  | [], _, _, _, _, hx => by cases hx
  | y :: r, i, st, h, x, hx => by
    unfold standL at h
    split at h
    · cases h
    · split at h
      · rename_i hk
        split at h
        · rename_i ht
          rcases List.mem_cons.1 hx with rfl | hx
          · exact .inl ⟨hk, ht⟩
          · exact standL_mem h x hx
        · cases h
      · split at h
        · rename_i hk
          split at h
          · cases h
          · rename_i hkn
            split at h
            · rename_i hel
              split at h
              · split at h
                · cases h
                · rcases List.mem_cons.1 hx with rfl | hx
                  · exact .inr ⟨hk, hkn, hel⟩
                  · exact standL_mem h x hx
              · cases h
            · cases h
        · cases h
theorem kind_len {w : Bytes} (h : kindL w ≠ 0) : w.length ≤ 10 := by
  unfold kindL at h
  cases hf : kindTab.find? fun p => p.1 == w with
  | none => rw [hf] at h; exact absurd rfl h
  | some p =>
    have hm := List.mem_of_find?_eq_some hf
    have he : p.1 = w := by simpa using List.find?_some hf
    have : (kindTab.all fun p => decide (p.1.length ≤ 10)) = true := by decide
    have := List.all_eq_true.1 this p hm
    rw [← he]
    simpa using this
theorem mild_of {T : List NI} (h : rightB T = true) (hA : ∀ x, x ∈ T → ∀ a, a ∈ x.attrs → a.1.length ≤ 1048576) : ∀ x, x ∈ T → Mild x := by
  unfold rightB at h
  simp only [Bool.and_eq_true] at h
  obtain ⟨⟨⟨⟨h1, h2⟩, h3⟩, h4⟩, h5⟩ := h
  intro x hx
  have hsplit : x = T.getD 0 noNI ∨ x ∈ T.drop 1 := by
    cases T with
    | nil => cases hx
    | cons y r =>
      rcases List.mem_cons.1 hx with rfl | hx
      · exact .inl rfl
      · exact .inr hx
  rcases hsplit with e | hr
  · rw [← e] at h3
    unfold isRootB at h3
    simp only [Bool.and_eq_true, beq_iff_eq, List.isEmpty_iff] at h3
    obtain ⟨⟨⟨⟨k0, _⟩, kn⟩, _⟩, _⟩ := h3
    exact ⟨by rw [kn]; decide, hA x hx, fun e => by rw [k0] at e; cases e⟩
  · rcases standL_mem h5 x hr with ⟨hk, ht⟩ | ⟨hk, hkn, _⟩
    · unfold isTextB at ht
      simp only [Bool.and_eq_true, List.isEmpty_iff, Bool.not_eq_true'] at ht
      obtain ⟨⟨⟨kn, _⟩, kd⟩, _⟩ := ht
      exact ⟨by rw [kn]; decide, hA x hx, fun _ e => by rw [e] at kd; cases kd⟩
    · have := kind_len hkn
      exact ⟨by omega, hA x hx, fun e => by rw [hk] at e; cases e⟩

set_option maxRecDepth 100000 in
set_option maxHeartbeats 4000000 in
theorem dempty_any (w0 : World) (b : Nat) (lg : Bool) (W : World) (h : DocAt w0 b ([], lg) W) :
    Calls Tryd.prog 21 #[.pointer (some ⟨b, 0, none⟩)] W fun e w' => e = .returned (.string ⟨#[]⟩) ∧ Below w0.heap.size w0 w' := by
  obtain ⟨pa, bv, hB, hT⟩ := h.ex
  obtain ⟨_, rfl, _⟩ : pa = .pointer none ∧ bv = .slice none 0 0 ∧ True := by
    rcases hT with ⟨h1, h2, _⟩ | ⟨_, h2, _⟩
    · exact ⟨h1, h2, trivial⟩
    · exact absurd rfl h2
  have hbk := hB.blk
  have c1 : W.drew.cell? ⟨b, 1, none⟩ = some (.slice none 0 0) := (doc3 (W := W.drew) hbk).1.2.1
  have c2 : W.cell? ⟨b, 1, none⟩ = some (.slice none 0 0) := (doc3 hbk).1.2.1
  have hSD : (Builtin.unsafeSliceData_ #[29] 68 #[.slice none 0 0]).run Tryd.prog W.drew = .ok (.pointer none) W.drew := Lib.run_unsafeSliceData_nil _ _ _ _ _
  have hUS : (Builtin.unsafeString_ #[68, 3] 9 #[.pointer none, .int .i64 0]).run Tryd.prog W.drew = .ok (.string ⟨#[]⟩) W.drew := Lib.run_unsafeString_none _ _ _ _ _
  have HB1 := Lib.hid (hB.below.trans ((Below.refl W.heap.size W).drew.mono hB.below.size))
  clear h hB hbk hT
  go_enter Tryd.func21, Tryd.ntmps21
  go_big_wp2
  go_region
  all_goals (go_big_wp2; go_ret; exact ⟨rfl, HB1.out⟩)
theorem dtext_any (w0 : World) (b : Nat) (t : Bytes) (lg : Bool) (W : World) (h : DocAt w0 b (t, lg) W) :
    Calls Tryd.prog 21 #[.pointer (some ⟨b, 0, none⟩)] W fun e w' => e = .returned (.string ⟨t.toArray⟩) ∧ Below w0.heap.size w0 w' := by
  by_cases ht : t = []
  · subst ht; exact dempty_any w0 b lg W h
  · exact dstring_any w0 b t lg W ht h

set_option maxRecDepth 100000 in
set_option maxHeartbeats 4000000 in
theorem serialize_any (g o cap n : Nat) (T : List NI) (w : World) (hn : n = T.length) (h1 : 1 ≤ n) (hbig : n ≤ 9223372036854775807) (h : TreeIn w g o T) (hv : VTabs w) (hA : ∀ x, x ∈ T → ∀ a, a ∈ x.attrs → a.1.length ≤ 1048576) :
    Calls Tryd.prog 17 #[.slice (some ⟨g, o, none⟩) n cap] w fun e w' => e = .returned (.tuple #[.string ⟨(serialL T).1.toArray⟩, .int .i64 (((serialL T).2 : Nat) : Int)]) ∧ Below w.heap.size w w' := by
  have hb1 : Below w.heap.size w (w.alloc (.cells #[.slice (some ⟨g, o, none⟩) n cap] TTr)) := (Below.refl _ _).alloc (Nat.le_refl _) _
  have hl1 := heap_alloc_new w (.cells #[.slice (some ⟨g, o, none⟩) n cap] TTr)
  have hR := right_any g o cap n T (w.alloc (.cells #[.slice (some ⟨g, o, none⟩) n cap] TTr)) hn h1 hbig (h.on hb1) (hv.on hb1)
  have z1 : (w.alloc (.cells #[.slice (some ⟨g, o, none⟩) n cap] TTr)).cell? ⟨w.heap.size, 0, none⟩ = some (.slice (some ⟨g, o, none⟩) n cap) := by rw [cell_of_row _ _ 0 _ _ _ hl1]; rfl
  obtain ⟨W1, hW1⟩ : ∃ W1, w.alloc (.cells #[.slice (some ⟨g, o, none⟩) n cap] TTr) = W1 := ⟨_, rfl⟩
  rw [hW1] at hb1 hl1 hR z1
  cases hr : rightB T with
  | false =>
    have e : serialL T = ([], 53) := by unfold serialL; rw [hr, if_neg (by decide)]
    rw [e]
    have hr53 : rightE T = 53 := by unfold rightE; rw [hr]; rfl
    rw [hr53] at hR
    have HR := Lib.hid hR
    have HB1 := Lib.hid hb1
    clear hR hb1 hl1 e hr53 hr h hA hn hv
    go_enter Tryd.func17, Tryd.ntmps17
    go_big_wp2_with (go_at_call 26; refine HR.out.mono ?_; rintro e w2 ⟨rfl, hb2⟩)
    go_ret2
    exact ⟨rfl, HB1.out.trans (hb2.mono HB1.out.size)⟩
  | true =>
    have hr0 : rightE T = 0 := by unfold rightE; rw [hr]; rfl
    rw [hr0] at hR
    have hmild := mild_of hr hA
    have hr' := hr
    unfold rightB at hr'
    simp only [Bool.and_eq_true, decide_eq_true_eq] at hr'
    obtain ⟨⟨⟨⟨_, hlim⟩, _⟩, hhave⟩, _⟩ := hr'
    have hkids := haveKids_in hhave
    have HWr := Lib.hid fun (b bx cl : Nat) (W : World) (hD : DocAt w b ([], false) W) (hC : Caught b bx cl g o n cap W) => write_any w b bx cl g o n cap T hn (by omega) h hkids hmild n 0 ([], false) W (by omega) (by omega) (by decide) hD hC
    obtain ⟨out, lg, hres⟩ : ∃ out lg, writeF T n 0 ([], false) = (out, lg) := ⟨_, _, rfl⟩
    rw [hres] at HWr
    have e : serialL T = if lg = true then ([], 3) else (out, 0) := by unfold serialL; rw [hr, if_pos rfl, ← hn, hres]
    rw [e]
    have HR := Lib.hid hR
    have HB1 := Lib.hid (And.intro hb1 hl1)
    have eg : ∀ args w, (callFunc 27 args).run Tryd.prog w = .ok (.enter 27 args) w := enters_of Tryd.func27 (by kernel_rfl) rfl
    have HSet : Hid (∀ w2 : World, Below W1.heap.size W1 w2 → DocAt w w2.heap.size ([], false) ((w2.alloc (.cells #[.pointer none, .slice none 0 0, .bool false] TDc)).alloc (.cells #[.func (.func 27) #[] #[.pointer (some ⟨w2.heap.size, 0, none⟩), .pointer (some ⟨w.heap.size, 0, none⟩), .pointer (some ⟨w2.heap.size + 1, 0, none⟩)]] TFn)) ∧ Caught w2.heap.size w.heap.size (w2.heap.size + 1) g o n cap ((w2.alloc (.cells #[.pointer none, .slice none 0 0, .bool false] TDc)).alloc (.cells #[.func (.func 27) #[] #[.pointer (some ⟨w2.heap.size, 0, none⟩), .pointer (some ⟨w.heap.size, 0, none⟩), .pointer (some ⟨w2.heap.size + 1, 0, none⟩)]] TFn))) := Lib.hid fun w2 hb2 => by
      have hbw := HB1.out.1.trans (hb2.mono HB1.out.1.size)
      have hlt : w.heap.size < w2.heap.size := Nat.lt_of_lt_of_le (Array.getElem?_eq_some_iff.1 HB1.out.2).1 hb2.size
      have ba : Below w2.heap.size w2 (w2.alloc (.cells #[.pointer none, .slice none 0 0, .bool false] TDc)) := (Below.refl _ _).alloc (Nat.le_refl _) _
      have la := heap_alloc_new w2 (.cells #[.pointer none, .slice none 0 0, .bool false] TDc)
      have hsz : (w2.alloc (.cells #[.pointer none, .slice none 0 0, .bool false] TDc)).heap.size = w2.heap.size + 1 := by simp
      generalize w2.alloc (.cells #[.pointer none, .slice none 0 0, .bool false] TDc) = w3 at *
      have bb : Below w3.heap.size w3 (w3.alloc (.cells #[.func (.func 27) #[] #[.pointer (some ⟨w2.heap.size, 0, none⟩), .pointer (some ⟨w.heap.size, 0, none⟩), .pointer (some ⟨w2.heap.size + 1, 0, none⟩)]] TFn)) := (Below.refl _ _).alloc (Nat.le_refl _) _
      have lb := heap_alloc_new w3 (.cells #[.func (.func 27) #[] #[.pointer (some ⟨w2.heap.size, 0, none⟩), .pointer (some ⟨w.heap.size, 0, none⟩), .pointer (some ⟨w2.heap.size + 1, 0, none⟩)]] TFn)
      rw [hsz] at lb
      have hd : DocB w w2.heap.size (.pointer none) (.slice none 0 0) false w3 := ⟨hbw.trans (ba.mono hbw.size), hbw.size, la⟩
      refine ⟨⟨.pointer none, .slice none 0 0, hd.on bb, .inl ⟨rfl, rfl, rfl⟩⟩, ⟨?_, lb, by omega, by omega⟩⟩
      rw [bb.block _ (by omega), ba.block _ hlt, hb2.block _ (Array.getElem?_eq_some_iff.1 HB1.out.2).1]
      exact HB1.out.2
    have HWs : Hid (∀ (b bx cl : Nat) (W : World), DocAt w b ([], false) W → Caught b bx cl g o n cap W → Calls Tryd.prog 27 #[.int .i64 0, .pointer (some ⟨b, 0, none⟩), .pointer (some ⟨bx, 0, none⟩), .pointer (some ⟨cl, 0, none⟩)] W fun e w' => e = .returned (.tuple #[]) ∧ DocAt w b (out, lg) w' ∧ KeepD b W w') := Lib.hid fun b bx cl W hD hC => HWr.out b bx cl W hD hC
    clear hR hb1 hl1 e hr0 hr h hA hn hv hmild hkids hhave hlim hres
    cases lg with
    | true =>
      go_enter Tryd.func17, Tryd.ntmps17
      go_big_wp2_with (first
        | (go_at_call 26
           go_loud (
             refine HR.out.mono ?_
             rintro e w2 ⟨rfl, hb2⟩
             have HS := Lib.hid (HSet.out w2 hb2)
             have HB2 := Lib.hid (HB1.out.1.trans (hb2.mono HB1.out.1.size))
             clear hb2))
        | (go_at_fn 27
           go_loud (
             refine (HWs.out _ _ _ _ HS.out.1 HS.out.2).mono ?_
             rintro e w3 ⟨rfl, hD3, hK3⟩
             obtain ⟨pa, bv, hB3, _⟩ := hD3.ex
             obtain ⟨⟨x0, x1, x2⟩, y0, y1, y2⟩ := doc3 hB3.blk
             have HD3 := Lib.hid hD3
             clear hD3 hK3 hB3))
        | (go_at_call 21; refine (dtext_any w _ out false w3 HD3.out).mono ?_; rintro e w4 ⟨rfl, hb4⟩))
      go_ret2
      exact ⟨rfl, HD3.out.below⟩
    | false =>
      go_enter Tryd.func17, Tryd.ntmps17
      go_big_wp2_with (first
        | (go_at_call 26
           go_loud (
             refine HR.out.mono ?_
             rintro e w2 ⟨rfl, hb2⟩
             have HS := Lib.hid (HSet.out w2 hb2)
             have HB2 := Lib.hid (HB1.out.1.trans (hb2.mono HB1.out.1.size))
             clear hb2))
        | (go_at_fn 27
           go_loud (
             refine (HWs.out _ _ _ _ HS.out.1 HS.out.2).mono ?_
             rintro e w3 ⟨rfl, hD3, hK3⟩
             obtain ⟨pa, bv, hB3, _⟩ := hD3.ex
             obtain ⟨⟨x0, x1, x2⟩, y0, y1, y2⟩ := doc3 hB3.blk
             have HD3 := Lib.hid hD3
             clear hD3 hK3 hB3))
        | (go_at_call 21; refine (dtext_any w _ out false w3 HD3.out).mono ?_; rintro e w4 ⟨rfl, hb4⟩))
      go_ret2
      exact ⟨rfl, hb4⟩
end Go.Proofs.YtkfmfldkllkcbabDoor

namespace Go.SerialKit
open Go Go.Lib Go.TokenKit Go.TreeKit
def wk6T : List NI := [⟨0, [], [], [], -1, [1, 3]⟩, ⟨1, [112], [([99, 108, 97, 115, 115], [120, 34, 121])], [], 0, [2]⟩, ⟨2, [], [], [49, 32, 62, 32, 48], 1, []⟩, ⟨1, [98, 114], [], [], 0, []⟩]
end Go.SerialKit
namespace Go.Proofs.YtkfmfldkllkcbabDoor
open Go.RowKit Go.RunKit Go.UtfKit Go.CharrefKit Go.Lib Go.TokenKit Go.TreeKit Go.SerialKit

theorem wk6_ser : serialL wk6T = ([60, 112, 32, 99, 108, 97, 115, 115, 61, 34, 120, 38, 113, 117, 111, 116, 59, 121, 34, 62, 49, 32, 38, 103, 116, 59, 32, 48, 60, 47, 112, 62, 60, 98, 114, 62], 0) := by kernel_rfl
theorem wk6_esc : escR false (bl ⟨#[97, 32, 60, 32, 98, 32, 38, 32, 99]⟩) = [97, 32, 38, 108, 116, 59, 32, 98, 32, 38, 97, 109, 112, 59, 32, 99] := by kernel_rfl

theorem wk6_in (w : World) (ti ta tn : TypeId) : TreeIn ((((w.alloc (.cells #[.int .i64 1, .int .i64 3] ti)).alloc (.cells #[.string ⟨#[99, 108, 97, 115, 115]⟩, .string ⟨#[120, 34, 121]⟩] ta)).alloc (.cells #[.int .i64 2] ti)).alloc
      (.cells #[.int .u8 0, .string ⟨#[]⟩, .slice none 0 0, .string ⟨#[]⟩, .int .i64 (-1), .slice (some ⟨w.heap.size, 0, none⟩) 2 2, .int .u8 1, .string ⟨#[112]⟩, .slice (some ⟨w.heap.size + 1, 0, none⟩) 1 1, .string ⟨#[]⟩, .int .i64 0, .slice (some ⟨w.heap.size + 1 + 1, 0, none⟩) 1 1,
        .int .u8 2, .string ⟨#[]⟩, .slice none 0 0, .string ⟨#[49, 32, 62, 32, 48]⟩, .int .i64 1, .slice none 0 0, .int .u8 1, .string ⟨#[98, 114]⟩, .slice none 0 0, .string ⟨#[]⟩, .int .i64 0, .slice none 0 0] tn)) (w.heap.size + 1 + 1 + 1) 0 wk6T ∧
    Below w.heap.size w ((((w.alloc (.cells #[.int .i64 1, .int .i64 3] ti)).alloc (.cells #[.string ⟨#[99, 108, 97, 115, 115]⟩, .string ⟨#[120, 34, 121]⟩] ta)).alloc (.cells #[.int .i64 2] ti)).alloc
      (.cells #[.int .u8 0, .string ⟨#[]⟩, .slice none 0 0, .string ⟨#[]⟩, .int .i64 (-1), .slice (some ⟨w.heap.size, 0, none⟩) 2 2, .int .u8 1, .string ⟨#[112]⟩, .slice (some ⟨w.heap.size + 1, 0, none⟩) 1 1, .string ⟨#[]⟩, .int .i64 0, .slice (some ⟨w.heap.size + 1 + 1, 0, none⟩) 1 1,
        .int .u8 2, .string ⟨#[]⟩, .slice none 0 0, .string ⟨#[49, 32, 62, 32, 48]⟩, .int .i64 1, .slice none 0 0, .int .u8 1, .string ⟨#[98, 114]⟩, .slice none 0 0, .string ⟨#[]⟩, .int .i64 0, .slice none 0 0] tn)) := by
  have b1 : Below w.heap.size w (w.alloc (.cells #[.int .i64 1, .int .i64 3] ti)) := (Below.refl _ _).alloc (Nat.le_refl _) _
  have l1 := heap_alloc_new w (.cells #[.int .i64 1, .int .i64 3] ti)
  have s1 : (w.alloc (.cells #[.int .i64 1, .int .i64 3] ti)).heap.size = w.heap.size + 1 := by simp
  obtain ⟨n, hn⟩ : ∃ n, w.heap.size = n := ⟨_, rfl⟩
  rw [hn] at l1 s1 ⊢
  generalize w.alloc (.cells #[.int .i64 1, .int .i64 3] ti) = w1 at *
  have b2 : Below w1.heap.size w1 (w1.alloc (.cells #[.string ⟨#[99, 108, 97, 115, 115]⟩, .string ⟨#[120, 34, 121]⟩] ta)) := (Below.refl _ _).alloc (Nat.le_refl _) _
  have l2 := heap_alloc_new w1 (.cells #[.string ⟨#[99, 108, 97, 115, 115]⟩, .string ⟨#[120, 34, 121]⟩] ta)
  have s2 : (w1.alloc (.cells #[.string ⟨#[99, 108, 97, 115, 115]⟩, .string ⟨#[120, 34, 121]⟩] ta)).heap.size = n + 1 + 1 := by simp [s1]
  rw [s1] at l2
  generalize w1.alloc (.cells #[.string ⟨#[99, 108, 97, 115, 115]⟩, .string ⟨#[120, 34, 121]⟩] ta) = w2 at *
  have b3 : Below w2.heap.size w2 (w2.alloc (.cells #[.int .i64 2] ti)) := (Below.refl _ _).alloc (Nat.le_refl _) _
  have l3 := heap_alloc_new w2 (.cells #[.int .i64 2] ti)
  have s3 : (w2.alloc (.cells #[.int .i64 2] ti)).heap.size = n + 1 + 1 + 1 := by simp [s2]
  rw [s2] at l3
  generalize w2.alloc (.cells #[.int .i64 2] ti) = w3 at *
  obtain ⟨cs, hcs⟩ : ∃ cs : Array Value, #[.int .u8 0, .string ⟨#[]⟩, .slice none 0 0, .string ⟨#[]⟩, .int .i64 (-1), .slice (some ⟨n, 0, none⟩) 2 2, .int .u8 1, .string ⟨#[112]⟩, .slice (some ⟨n + 1, 0, none⟩) 1 1, .string ⟨#[]⟩, .int .i64 0, .slice (some ⟨n + 1 + 1, 0, none⟩) 1 1,
        .int .u8 2, .string ⟨#[]⟩, .slice none 0 0, .string ⟨#[49, 32, 62, 32, 48]⟩, .int .i64 1, .slice none 0 0, .int .u8 1, .string ⟨#[98, 114]⟩, .slice none 0 0, .string ⟨#[]⟩, .int .i64 0, .slice none 0 0] = cs := ⟨_, rfl⟩
  rw [hcs]
  have b4 : Below w3.heap.size w3 (w3.alloc (.cells cs tn)) := (Below.refl _ _).alloc (Nat.le_refl _) _
  have l4 := heap_alloc_new w3 (.cells cs tn)
  rw [s3] at l4
  generalize w3.alloc (.cells cs tn) = w4 at *
  have m1 : w4.heap[n]? = some (.cells #[.int .i64 1, .int .i64 3] ti) := by rw [b4.block _ (by omega), b3.block _ (by omega), b2.block _ (by omega)]; exact l1
  have m2 : w4.heap[n + 1]? = some (.cells #[.string ⟨#[99, 108, 97, 115, 115]⟩, .string ⟨#[120, 34, 121]⟩] ta) := by rw [b4.block _ (by omega), b3.block _ (by omega)]; exact l2
  have m3 : w4.heap[n + 1 + 1]? = some (.cells #[.int .i64 2] ti) := by rw [b4.block _ (by omega)]; exact l3
  have hb : Below n w w4 := ((b1.trans (b2.mono (by omega))).trans (b3.mono (by omega))).trans (b4.mono (by omega)) |> fun h => by rw [hn] at h; exact h
  refine ⟨⟨?_⟩, hb⟩
  have hc := fun j => cell_of_row w4 (n + 1 + 1 + 1) j _ _ _ l4
  have c1 := fun j => cell_of_row w4 n j _ _ _ m1
  have c2 := fun j => cell_of_row w4 (n + 1) j _ _ _ m2
  have c3 := fun j => cell_of_row w4 (n + 1 + 1) j _ _ _ m3
  rw [← hcs] at hc
  have e0 : AttrsIn w4 none [] := ⟨fun j a h => by cases h⟩
  have z0 : IntsIn w4 none [] := ⟨fun j a h => by cases h⟩
  have k0 : IntsIn w4 (some ⟨n, 0, none⟩) [1, 3] := ⟨fun j a h => by
    match j, h with
    | 0, h => obtain rfl := Option.some.inj (show some (1 : Int) = some a from h); exact ⟨n, 0, rfl, (c1 _).trans rfl⟩
    | 1, h => obtain rfl := Option.some.inj (show some (3 : Int) = some a from h); exact ⟨n, 0, rfl, (c1 _).trans rfl⟩⟩
  have k1 : IntsIn w4 (some ⟨n + 1 + 1, 0, none⟩) [2] := ⟨fun j a h => by
    match j, h with
    | 0, h => obtain rfl := Option.some.inj (show some (2 : Int) = some a from h); exact ⟨n + 1 + 1, 0, rfl, (c3 _).trans rfl⟩⟩
  have a1 : AttrsIn w4 (some ⟨n + 1, 0, none⟩) [([99, 108, 97, 115, 115], [120, 34, 121])] := ⟨fun j a h => by
    match j, h with
    | 0, h => obtain rfl := Option.some.inj (show some (([99, 108, 97, 115, 115], [120, 34, 121]) : At) = some a from h); exact ⟨n + 1, 0, rfl, (c2 _).trans rfl, (c2 _).trans rfl⟩⟩
  intro k x hx
  match k, hx with
  | 0, hx =>
    obtain rfl := Option.some.inj (show some (⟨0, [], [], [], -1, [1, 3]⟩ : NI) = some x from hx)
    exact ⟨(hc _).trans rfl, (hc _).trans rfl, ⟨none, 0, (hc _).trans rfl, e0, by decide, by decide⟩, (hc _).trans rfl, (hc _).trans rfl, ⟨_, 2, (hc _).trans rfl, k0, by decide⟩, by decide, fun a ha => by cases ha⟩
  | 1, hx =>
    obtain rfl := Option.some.inj (show some (⟨1, [112], [([99, 108, 97, 115, 115], [120, 34, 121])], [], 0, [2]⟩ : NI) = some x from hx)
    exact ⟨(hc _).trans rfl, (hc _).trans rfl, ⟨_, 1, (hc _).trans rfl, a1, by decide, by decide⟩, (hc _).trans rfl, (hc _).trans rfl, ⟨_, 1, (hc _).trans rfl, k1, by decide⟩, by decide, fun a ha => by
      rcases List.mem_cons.1 ha with rfl | ha
      · exact (by decide : (3 : Nat) ≤ 9223372036854775807)
      · cases ha⟩
  | 2, hx =>
    obtain rfl := Option.some.inj (show some (⟨2, [], [], [49, 32, 62, 32, 48], 1, []⟩ : NI) = some x from hx)
    exact ⟨(hc _).trans rfl, (hc _).trans rfl, ⟨none, 0, (hc _).trans rfl, e0, by decide, by decide⟩, (hc _).trans rfl, (hc _).trans rfl, ⟨_, 0, (hc _).trans rfl, z0, by decide⟩, by decide, fun a ha => by cases ha⟩
  | 3, hx =>
    obtain rfl := Option.some.inj (show some (⟨1, [98, 114], [], [], 0, []⟩ : NI) = some x from hx)
    exact ⟨(hc _).trans rfl, (hc _).trans rfl, ⟨none, 0, (hc _).trans rfl, e0, by decide, by decide⟩, (hc _).trans rfl, (hc _).trans rfl, ⟨_, 0, (hc _).trans rfl, z0, by decide⟩, by decide, fun a ha => by cases ha⟩

set_option maxRecDepth 100000 in
set_option maxHeartbeats 2000000 in
theorem works06_any (w : World) (hv : VTabs w) : Calls Tryd.prog 10 #[] w fun e w' => e = .returned (.bool true) ∧ Below w.heap.size w w' := by
  have HW := Lib.hid (wk6_in w 3 35 33)
  have HS := Lib.hid fun (W : World) (g : Nat) (h : TreeIn W g 0 wk6T) (hb : Below w.heap.size w W) => serialize_any g 0 4 4 wk6T W rfl (by decide) (by decide) h (hv.on hb) (fun x hx a ha => by
    have hall : (wk6T.all fun x => x.attrs.all fun a => decide (a.1.length ≤ 1048576)) = true := by decide
    simpa using List.all_eq_true.1 (List.all_eq_true.1 hall x hx) a ha)
  have HE := Lib.hid fun W => escText_any ⟨#[97, 32, 60, 32, 98, 32, 38, 32, 99]⟩ (by decide) W
  rw [wk6_ser] at HS
  rw [wk6_esc] at HE
  clear hv
  go_enter Tryd.func10, Tryd.ntmps10
  go_big_wp2_with (first
    | (go_at_call 17
       go_loud (
         refine (HS.out _ _ HW.out.1 HW.out.2).mono ?_
         rintro e w1 ⟨rfl, hb1⟩
         have HB1 := Lib.hid (HW.out.2.trans (hb1.mono HW.out.2.size))
         clear hb1))
    | (go_at_call 7
       go_loud (
         refine (HE.out _).mono ?_
         rintro e w2 ⟨rfl, hb2⟩
         have HB2 := Lib.hid (HB1.out.trans (hb2.mono HB1.out.size))
         clear hb2)))
  go_ret
  exact ⟨rfl, HB2.out⟩
end Go.Proofs.YtkfmfldkllkcbabDoor

namespace Go.SerialKit
open Go Go.Lib Go.TokenKit Go.TreeKit
theorem escR_append {attr : Bool} : ∀ (a b : Bytes), (∀ r, b ≠ 160 :: r) → escR attr (a ++ b) = escR attr a ++ escR attr b
  | [], b, _ => by rw [List.nil_append]; rw [show escR attr [] = [] from rfl, List.nil_append]
  | [x], [], _ => by rw [List.append_nil, show escR attr [] = [] from rfl, List.append_nil]
  | [x], c :: r, h => by
    rw [List.singleton_append, escR_not (fun e => h r (by rw [e]))]
    rfl
  | x :: y :: r, b, h => by
    rw [show x :: y :: r ++ b = x :: y :: (r ++ b) from rfl]
    by_cases hxy : x = 194 ∧ y = 160
    · rw [escR, if_pos hxy, escR_append r b h, escR, if_pos hxy, List.append_assoc]
    · rw [escR, if_neg hxy, show y :: (r ++ b) = (y :: r) ++ b from rfl, escR_append (y :: r) b h, escR, if_neg hxy, List.append_assoc]
theorem oneE_len (attr : Bool) (b : UInt8) : (oneE attr b).length ≤ 6 := by
  unfold oneE
  repeat' split
  all_goals first | decide | simp
theorem escR_len {attr : Bool} : ∀ a : Bytes, (escR attr a).length ≤ 6 * a.length
  | [] => Nat.zero_le _
  | [x] => by
    have := oneE_len attr x
    change (oneE attr x).length ≤ 6
    exact this
  | x :: y :: r => by
    rw [escR]
    split
    · have := escR_len (attr := attr) r
      have h : nbspB.length ≤ 6 := by decide
      simp only [List.length_append, List.length_cons]
      omega
    · have := escR_len (attr := attr) (y :: r)
      have h := oneE_len attr x
      simp only [List.length_append, List.length_cons] at this ⊢
      omega
end Go.SerialKit
namespace Go.Proofs.YtkfmfldkllkcbabDoor
open Go.RowKit Go.RunKit Go.UtfKit Go.CharrefKit Go.Lib Go.TokenKit Go.TreeKit Go.SerialKit

set_option maxRecDepth 100000 in
theorem well_head {s : ByteArray} (h : wellL s = true) : ∀ r, bl s ≠ 160 :: r := by
  intro r e
  have hs : 0 < s.size := by
    have := congrArg List.length e
    rw [bl_length] at this
    simp at this
    omega
  obtain ⟨b, hb, hv⟩ := byte_drop hs
  rw [List.drop_zero, e] at hb
  have hb160 : b = 160 := (List.cons.inj hb).1.symm
  rw [hb160] at hv
  have hv' : byteAt s 0 = 160 := hv
  have hok : (cutAt s 0).ok = true := well_ok h _ (by
    have := partsFrom_step s 0 hs
    change cutAt s 0 ∈ partsFrom s 0
    rw [this]
    exact List.mem_cons_self)
  have h1 : ¬ byteAt s 0 < 128 := by omega
  have h2 : byteAt s 0 < 194 := by omega
  have : (cutAt s 0).ok = false := by simp only [cutAt, cutN, h1, h2, if_true, if_false]
  rw [this] at hok
  cases hok
set_option maxRecDepth 100000 in
theorem esc_join {attr : Bool} {a b : ByteArray} (h : wellL b = true) : (⟨(escR attr (bl (a ++ b))).toArray⟩ : ByteArray) = ⟨(escR attr (bl a)).toArray⟩ ++ ⟨(escR attr (bl b)).toArray⟩ := by
  rw [bl_join, escR_append _ _ (well_head h)]
  apply ByteArray.ext
  simp
theorem esc_size {attr : Bool} {a : ByteArray} : (⟨(escR attr (bl a)).toArray⟩ : ByteArray).size ≤ 6 * a.size := by
  have := escR_len (attr := attr) (bl a)
  rw [bl_length] at this
  change (escR attr (bl a)).toArray.size ≤ _
  rw [List.size_toArray]
  exact this

set_option maxRecDepth 100000 in
set_option maxHeartbeats 2000000 in
theorem lawJoins (a b : ByteArray) (w : World) (hv : VTabs w) : Calls Tryd.prog 6 #[.string a, .string b] w fun e w' => e = .returned (.bool true) ∧ Below w.heap.size w w' := by
  have HW := Lib.hid fun (W : World) (hb : Below w.heap.size w W) => works06_any W (hv.on hb)
  clear hv
  by_cases hbig : 2000 < a.size
  · have hI : (2000 : Int) < a.size := by omega
    go_enter Tryd.func6, Tryd.ntmps6
    go_big_wp2_with (go_at_call 10; refine (HW.out _ (Below.refl _ _)).mono ?_; rintro e w1 ⟨rfl, hb1⟩)
    go_ret
    exact ⟨rfl, hb1⟩
  have hI : ((2000 : Int) < a.size) = False := eq_false (by omega)
  by_cases hbig2 : 2000 < b.size
  · have hI2 : (2000 : Int) < b.size := by omega
    go_enter Tryd.func6, Tryd.ntmps6
    go_big_wp2_with (go_at_call 10; refine (HW.out _ (Below.refl _ _)).mono ?_; rintro e w1 ⟨rfl, hb1⟩)
    go_ret
    exact ⟨rfl, hb1⟩
  have hI2 : ((2000 : Int) < b.size) = False := eq_false (by omega)
  have hWA := fun W => refWell05_any a W (by omega)
  have hWB := fun W => refWell05_any b W (by omega)
  cases hwa : wellL a with
  | false =>
    rw [hwa] at hWA
    have HWA := Lib.hid hWA
    clear hWA hWB hwa
    go_enter Tryd.func6, Tryd.ntmps6
    go_big_wp2_with (first
      | (go_at_call 11; refine (HWA.out _).mono ?_; rintro e w1 ⟨rfl, hb1⟩; have HB1 := Lib.hid hb1; clear hb1)
      | (go_at_call 10; refine (HW.out _ HB1.out).mono ?_; rintro e w2 ⟨rfl, hb2⟩))
    go_ret
    exact ⟨rfl, HB1.out.trans (hb2.mono HB1.out.size)⟩
  | true =>
    rw [hwa] at hWA
    have HWA := Lib.hid hWA
    cases hwb : wellL b with
    | false =>
      rw [hwb] at hWB
      have HWB := Lib.hid hWB
      clear hWA hWB hwa hwb
      go_enter Tryd.func6, Tryd.ntmps6
      go_big_wp2_with (first
        | (go_at_call 11; refine (HWA.out _).mono ?_; clear HWA; rintro e w1 ⟨rfl, hb1⟩; have HB1 := Lib.hid hb1; clear hb1)
        | (go_at_call 11; refine (HWB.out _).mono ?_; clear HWB; rintro e w1' ⟨rfl, hb1⟩; have HB2 := Lib.hid (HB1.out.trans (hb1.mono HB1.out.size)); clear hb1)
        | (go_at_call 10; refine (HW.out _ HB2.out).mono ?_; rintro e w2 ⟨rfl, hb2⟩))
      go_ret
      exact ⟨rfl, HB2.out.trans (hb2.mono HB2.out.size)⟩
    | true =>
      rw [hwb] at hWB
      have HWB := Lib.hid hWB
      have hsum : (9223372036854775807 < a.size + b.size) = False := eq_false (by omega)
      have hab : (a ++ b).size ≤ 1048576 := by rw [ByteArray.size_append]; omega
      have hTab := fun W => escText_any (a ++ b) hab W
      have hAab := fun W => escAttr_any (a ++ b) hab W
      rw [esc_join hwb] at hTab hAab
      have hTa := fun W => escText_any a (by omega) W
      have hTb := fun W => escText_any b (by omega) W
      have hAa := fun W => escAttr_any a (by omega) W
      have hAb := fun W => escAttr_any b (by omega) W
      have s1 := esc_size (attr := false) (a := a)
      have s2 := esc_size (attr := false) (a := b)
      have s3 := esc_size (attr := true) (a := a)
      have s4 := esc_size (attr := true) (a := b)
      generalize (⟨(escR false (bl a)).toArray⟩ : ByteArray) = ta at *
      generalize (⟨(escR false (bl b)).toArray⟩ : ByteArray) = tb at *
      generalize (⟨(escR true (bl a)).toArray⟩ : ByteArray) = va at *
      generalize (⟨(escR true (bl b)).toArray⟩ : ByteArray) = vb at *
      have hsum1 : (9223372036854775807 < ta.size + tb.size) = False := eq_false (by omega)
      have hsum2 : (9223372036854775807 < va.size + vb.size) = False := eq_false (by omega)
      have HTab := Lib.hid hTab
      have HAab := Lib.hid hAab
      have HTa := Lib.hid hTa
      have HTb := Lib.hid hTb
      have HAa := Lib.hid hAa
      have HAb := Lib.hid hAb
      clear hWA hWB hwa hwb hTab hAab hTa hTb hAa hAb s1 s2 s3 s4 hab hbig hbig2
      go_enter Tryd.func6, Tryd.ntmps6
      go_big_wp2_with (first
        | (go_at_call 11; refine (HWA.out _).mono ?_; clear HWA; rintro e w1 ⟨rfl, hb1⟩; have HB1 := Lib.hid hb1; clear hb1)
        | (go_at_call 11; refine (HWB.out _).mono ?_; clear HWB; rintro e w2 ⟨rfl, hb2⟩; have HB2 := Lib.hid (HB1.out.trans (hb2.mono HB1.out.size)); clear hb2)
        | (go_at_call 7; refine (HTab.out _).mono ?_; clear HTab; rintro e w3 ⟨rfl, hb3⟩; have HB3 := Lib.hid (HB2.out.trans (hb3.mono HB2.out.size)); clear hb3)
        | (go_at_call 7; refine (HTa.out _).mono ?_; clear HTa; rintro e w4 ⟨rfl, hb4⟩; have HB4 := Lib.hid (HB3.out.trans (hb4.mono HB3.out.size)); clear hb4)
        | (go_at_call 7; refine (HTb.out _).mono ?_; clear HTb; rintro e w5 ⟨rfl, hb5⟩; have HB5 := Lib.hid (HB4.out.trans (hb5.mono HB4.out.size)); clear hb5)
        | (go_at_call 9; refine (HAab.out _).mono ?_; clear HAab; rintro e w6 ⟨rfl, hb6⟩; have HB6 := Lib.hid (HB5.out.trans (hb6.mono HB5.out.size)); clear hb6)
        | (go_at_call 9; refine (HAa.out _).mono ?_; clear HAa; rintro e w7 ⟨rfl, hb7⟩; have HB7 := Lib.hid (HB6.out.trans (hb7.mono HB6.out.size)); clear hb7)
        | (go_at_call 9; refine (HAb.out _).mono ?_; clear HAb; rintro e w8 ⟨rfl, hb8⟩; have HB8 := Lib.hid (HB7.out.trans (hb8.mono HB7.out.size)); clear hb8)
        | (go_at_call 10; refine (HW.out _ HB8.out).mono ?_; rintro e w9 ⟨rfl, hb9⟩))
      go_ret
      exact ⟨rfl, HB8.out.trans (hb9.mono HB8.out.size)⟩
end Go.Proofs.YtkfmfldkllkcbabDoor

