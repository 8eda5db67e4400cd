/-
  standRight of package tree: may each node stand where it does? Conditions: the tree has at most 16384 nodes; the library's two tables hold what its text lays.
-/
import Derived.Test.YtkfmfldkllkcbabDoorRElem
import Derived.Test.YtkfmfldkllkcbabDoorRKids
import Derived.Test.YtkfmfldkllkcbabDoorRStackS
namespace Go.Proofs.YtkfmfldkllkcbabDoor
open Go.RowKit Go.RunKit Go.CharrefKit Go.Lib Go.TokenKit Go.TreeKit

/-- May these nodes, the i-th and those behind it, stand where they do? -/
def standL (i : Nat) (st : List Opd) : List NI → Bool
  | [] => true
  | x :: r => match downL x.up st with
    | [] => false
    | o :: q =>
      if x.kind = 2 then (if isTextB x then standL (i + 1) (o :: q) r else false)
      else if x.kind = 1 then
        (if kindL x.name = 0 then false
        else if isElementB x then
          (if takesL (kindL x.name) (o :: q) then
            (if 200 < (o :: q).length then false else standL (i + 1) (if voidK (kindL x.name) then o :: q else ⟨i, x.name, kindL x.name⟩ :: o :: q) r)
          else false)
        else false)
      else false

def stackWorld (w : World) : World := w.alloc (.cells (madeCells #[.int .i64 0, .string ⟨#[]⟩, .int .u8 0] 603) TOp)
theorem stack_run (w : World) : (Instr.makeSlice 88 (.int .i64 1) (.int .i64 201)).run Tryd.prog w = .ok (.slice (some ⟨w.heap.size, 0, none⟩) 1 201) (stackWorld w) := by
  obtain ⟨i0, hi, hz0, hz1, hz2⟩ := info_parts Tryd.infoOp
  have := run_make (P := Tryd.prog) w 88 93 i0 _ Tryd.underlying88 hi hz0 .i64 .i64 1 201 (by omega) (by omega) (by rw [hz2]; omega) (by omega)
  rw [hz1] at this
  exact this
theorem madeTake : (madeCells #[.int .i64 0, .string ⟨#[]⟩, .int .u8 0] 603).toList.take 3 = [.int .i64 0, .string ⟨#[]⟩, .int .u8 0] := by kernel_rfl
theorem madeSize : (madeCells #[.int .i64 0, .string ⟨#[]⟩, .int .u8 0] 603).size = 603 := by kernel_rfl
theorem stack_start (w : World) : StAt w (stackWorld w).heap.size (some ⟨w.heap.size, 0, none⟩) 201 [⟨0, [], 0⟩] ((stackWorld w).alloc (.cells #[.slice (some ⟨w.heap.size, 0, none⟩) 1 201] TSt)) := by
  have hb : Below w.heap.size w (stackWorld w) := (Below.refl _ _).alloc (Nat.le_refl _) _
  have hg : (stackWorld w).heap[w.heap.size]? = some (.cells (madeCells #[.int .i64 0, .string ⟨#[]⟩, .int .u8 0] 603) TOp (0, 0)) := heap_alloc_new w _
  have ho : (stackWorld w).ownsRow w.heap.size TOp 3 (.slice (some ⟨w.heap.size, 0, none⟩) 1 201) 1 (opCells [⟨0, [], 0⟩]) :=
    ⟨rfl, .inr ⟨w.heap.size, 201, _, rfl, Nat.le_refl _, hg, by omega, by unfold maxLen; omega, by rw [madeSize], by rw [show 1 * 3 = 3 from rfl, madeTake]; rfl⟩⟩
  exact ⟨hb.alloc hb.size _, hb.size, heap_alloc_new _ _, own_on ho ((Below.refl _ _).alloc (Nat.le_refl _) _)⟩

set_option maxRecDepth 100000 in
set_option maxHeartbeats 8000000 in
theorem standRight_any (g o cap n : Nat) (T : List NI) (w : World) (hn : n = T.length) (h1 : 1 ≤ n) (hn2 : n ≤ 16384) (h : TreeIn w g o T) (hv : VTabs w) :
    Calls Tryd.prog 39 #[.slice (some ⟨g, o, none⟩) n cap] w fun e w' => e = .returned (.bool (standL 1 [⟨0, [], 0⟩] (T.drop 1))) ∧ Below w.heap.size w w' := by
  have HT := Lib.hid h
  have HV := Lib.hid hv
  have hnH := Lib.hid hn
  have hmk := fun W => stack_run W
  have H0 := Lib.hid (stack_start w)
  have D0 : Hid (standL 1 [⟨0, [], 0⟩] (T.drop 1) = standL 1 [⟨0, [], 0⟩] (T.drop 1)) := Lib.hid rfl
  obtain ⟨ans, hans⟩ : ∃ ans, standL 1 [⟨0, [], 0⟩] (T.drop 1) = ans := ⟨_, rfl⟩
  rw [hans]
  rw [hans] at D0
  have D1 : Hid (standL 1 [⟨0, [], 0⟩] (T.drop 1) = ans) := Lib.hid hans
  clear h hv hn hans D0
  go_enter Tryd.func39, Tryd.ntmps39
  go_big_wp2
  generalize (stackWorld w).heap.size = b at *
  generalize (stackWorld w).alloc (.cells #[.slice (some ⟨w.heap.size, 0, none⟩) 1 201] TSt) = W at *
  clear hmk
  go_loopw [4] (fun a wr => ∃ (i : Nat) (st : List Opd) (ao : Option Addr) (cp : Nat), a = .int .i64 ((i : Nat) : Int) ∧ 1 ≤ i ∧ i ≤ n ∧ st.length ≤ 201 ∧ Hid (StAt w b ao cp st wr) ∧ Hid (standL i st (T.drop i) = ans)) (fun a _ => n - (RowKit.intOf a).toNat)
  case atStart => exact ⟨1, [⟨0, [], 0⟩], _, _, rfl, Nat.le_refl _, h1, by decide, H0, D1⟩
  case round =>
    clear H0 D1
    obtain ⟨i, st, ao, cp, rfl, hi1, hi, hst, HS, HE⟩ := hrel
    by_cases hlt : i < n
    · have hltI : (i : Int) < (n : Int) := by omega
      have hit : i < T.length := by have := hnH.out; omega
      have hd : T.drop i = T.getD i noNI :: T.drop (i + 1) := by
        rw [List.drop_eq_getElem_cons hit, List.getD_eq_getElem?_getD, List.getElem?_eq_getElem hit]
        rfl
      rw [hd] at HE
      have HX := Lib.hid (HT.out.at_ i _ (node_at hit))
      obtain ⟨x, hx⟩ : ∃ x, T.getD i noNI = x := ⟨_, rfl⟩
      rw [hx] at HE HX
      obtain ⟨m, hm⟩ : ∃ m, o + i * 6 = m := ⟨_, rfl⟩
      rw [hm] at HX
      clear hd hx
      unfold standL at HE
      have cu := (HX.out.on HS.out.below).up
      have HD := Lib.hid (downTo_any w b ao cp st x.up wr (by omega) HS.out)
      have hdl := downL_len x.up st
      cases hdd : downL x.up st with
      | nil =>
        rw [hdd] at HE HD
        have HA : Hid (false = ans) := Lib.hid HE.out
        clear HE hdl hdd
        go_big_wp2_with (go_at_call 54; refine HD.out.mono ?_; rintro e w1 ⟨rfl, hs1⟩; have HS1 := Lib.hid hs1; clear hs1)
        go_ret
        exact ⟨ret1_eq (congrArg Value.bool HA.out), HS1.out.below⟩
      | cons p q =>
        rw [hdd] at HE HD hdl
        simp only at HE
        have hq : (p :: q).length ≤ 201 := Nat.le_trans hdl hst
        obtain ⟨k, hk⟩ : ∃ k, x.kind = k := ⟨_, rfl⟩
        rw [hk] at HE
        have HK := Lib.hid hk
        clear hdl hdd hk
        by_cases hk2 : k = 2
        · subst hk2
          rw [if_pos rfl] at HE
          have HTx := Lib.hid fun W1 (hb : Below w.heap.size w W1) => isText_any g m x W1 (HX.out.on hb) (HV.out.on hb)
          cases ht : isTextB x with
          | false =>
            rw [ht] at HE HTx
            have HA : Hid (false = ans) := Lib.hid HE.out
            clear HE ht
            go_big_wp2_with (first
              | (go_at_call 54
                 refine HD.out.mono ?_
                 rintro e w1 ⟨rfl, hs1⟩
                 have HS1 := Lib.hid hs1
                 have ck := (HX.out.on hs1.below).kind
                 rw [HK.out] at ck
                 clear hs1)
              | (go_at_call 55; refine (HTx.out _ HS1.out.below).mono ?_; rintro e w2 ⟨rfl, hb2⟩))
            go_ret
            exact ⟨ret1_eq (congrArg Value.bool HA.out), HS1.out.below.trans (hb2.mono HS1.out.below.size)⟩
          | true =>
            rw [ht] at HE HTx
            have HA : Hid (standL (i + 1) (p :: q) (T.drop (i + 1)) = ans) := Lib.hid HE.out
            clear HE ht
            go_big_wp2_with (first
              | (go_at_call 54
                 refine HD.out.mono ?_
                 rintro e w1 ⟨rfl, hs1⟩
                 have HS1 := Lib.hid hs1
                 have ck := (HX.out.on hs1.below).kind
                 rw [HK.out] at ck
                 clear hs1)
              | (go_at_call 55; refine (HTx.out _ HS1.out.below).mono ?_; rintro e w2 ⟨rfl, hb2⟩))
            exact ⟨⟨i + 1, p :: q, ao, cp, by go_num, by omega, by omega, hq, Lib.hid (HS1.out.on hb2), HA⟩, by simp [RowKit.intOf]; omega⟩
        · have hk2I : ¬ ((k : Nat) : Int) = 2 := by omega
          have hk2B : (((k : Nat) : Int) == 2) = false := by rw [beq_eq_false_iff_ne]; omega
          rw [if_neg hk2] at HE
          by_cases hk1 : k = 1
          · subst hk1
            rw [if_pos rfl] at HE
            obtain ⟨kd, hkd⟩ : ∃ kd, kindL x.name = kd := ⟨_, rfl⟩
            rw [hkd] at HE
            have hKd := fun W1 => kind_any ⟨x.name.toArray⟩ W1
            simp only [bl_of, hkd] at hKd
            have HKd := Lib.hid hKd
            have hkle := kind_le x.name
            rw [hkd] at hkle
            clear hKd hkd hk2
            by_cases hk0 : kd = 0
            · subst hk0
              rw [if_pos rfl] at HE
              have HA : Hid (false = ans) := Lib.hid HE.out
              clear HE
              go_big_wp2_with (first
                | (go_at_call 54
                   refine HD.out.mono ?_
                   rintro e w1 ⟨rfl, hs1⟩
                   have HS1 := Lib.hid hs1
                   have ck := (HX.out.on hs1.below).kind
                   have cn := (HX.out.on hs1.below).name
                   rw [HK.out] at ck
                   clear hs1)
                | (go_at_call 56; refine (HKd.out _).mono ?_; rintro e w2 ⟨rfl, rfl⟩))
              go_ret
              exact ⟨ret1_eq (congrArg Value.bool HA.out), HS1.out.below⟩
            · have hk0I : ¬ ((kd : Nat) : Int) = 0 := by omega
              have hk0B : (((kd : Nat) : Int) == 0) = false := by rw [beq_eq_false_iff_ne]; omega
              rw [if_neg hk0] at HE
              have HEl := Lib.hid fun W1 (hb : Below w.heap.size w W1) => isElement_any g m x W1 (HX.out.on hb) (HV.out.on hb)
              cases hel : isElementB x with
              | false =>
                rw [hel] at HE HEl
                have HA : Hid (false = ans) := Lib.hid HE.out
                clear HE hel
                go_big_wp2_with (first
                  | (go_at_call 54
                     refine HD.out.mono ?_
                     rintro e w1 ⟨rfl, hs1⟩
                     have HS1 := Lib.hid hs1
                     have ck := (HX.out.on hs1.below).kind
                     have cn := (HX.out.on hs1.below).name
                     rw [HK.out] at ck
                     clear hs1)
                  | (go_at_call 56; refine (HKd.out _).mono ?_; rintro e w2 ⟨rfl, rfl⟩)
                  | (go_at_call 57; refine (HEl.out _ HS1.out.below).mono ?_; rintro e w3 ⟨rfl, hb3⟩))
                go_ret
                exact ⟨ret1_eq (congrArg Value.bool HA.out), HS1.out.below.trans (hb3.mono HS1.out.below.size)⟩
              | true =>
                rw [hel, if_pos rfl] at HE
                rw [hel] at HEl
                obtain ⟨tk, htk⟩ : ∃ tk, takesL kd (p :: q) = tk := ⟨_, rfl⟩
                obtain ⟨sn, hsn⟩ : ∃ sn, (p :: q).length = sn := ⟨_, rfl⟩
                rw [htk, hsn] at HE
                have HTk := Lib.hid fun W1 (hs : StAt w b ao cp (p :: q) W1) => htk ▸ takes_any ao cp sn w.heap.size kd p q W1 hkle (by rw [← hsn]; rfl) (by omega) (by have := hs.opens; rwa [hsn] at this)
                have HSn := Lib.hid hsn
                clear htk hel
                cases tk with
                | false =>
                  rw [if_neg (by decide)] at HE
                  have HA : Hid (false = ans) := Lib.hid HE.out
                  clear HE hsn
                  go_big_wp2_with (first
                    | (go_at_call 54
                       refine HD.out.mono ?_
                       rintro e w1 ⟨rfl, hs1⟩
                       have HS1 := Lib.hid hs1
                       have ck := (HX.out.on hs1.below).kind
                       have cn := (HX.out.on hs1.below).name
                       rw [HK.out] at ck
                       clear hs1)
                    | (go_at_call 56; refine (HKd.out _).mono ?_; rintro e w2 ⟨rfl, rfl⟩)
                    | (go_at_call 57
                       refine (HEl.out _ HS1.out.below).mono ?_
                       rintro e w3 ⟨rfl, hb3⟩
                       have HS3 := Lib.hid (HS1.out.on hb3)
                       have d3 := HS3.out.cell
                       rw [HSn.out] at d3
                       clear hb3)
                    | (go_at_call 58; refine (HTk.out _ HS3.out).mono ?_; rintro e w4 ⟨rfl, hb4⟩))
                  go_ret
                  exact ⟨ret1_eq (congrArg Value.bool HA.out), HS3.out.below.trans (hb4.mono HS3.out.below.size)⟩
                | true =>
                  rw [if_pos rfl] at HE
                  by_cases h200 : 200 < sn
                  · rw [if_pos h200] at HE
                    have h200I : (200 : Int) < (sn : Int) := by omega
                    have HA : Hid (false = ans) := Lib.hid HE.out
                    clear HE hsn
                    go_big_wp2_with (first
                      | (go_at_call 54
                         refine HD.out.mono ?_
                         rintro e w1 ⟨rfl, hs1⟩
                         have HS1 := Lib.hid hs1
                         have ck := (HX.out.on hs1.below).kind
                         have cn := (HX.out.on hs1.below).name
                         rw [HK.out] at ck
                         clear hs1)
                      | (go_at_call 56; refine (HKd.out _).mono ?_; rintro e w2 ⟨rfl, rfl⟩)
                      | (go_at_call 57
                         refine (HEl.out _ HS1.out.below).mono ?_
                         rintro e w3 ⟨rfl, hb3⟩
                         have HS3 := Lib.hid (HS1.out.on hb3)
                         have d3 := HS3.out.cell
                         rw [HSn.out] at d3
                         clear hb3)
                      | (go_at_call 58
                         refine (HTk.out _ HS3.out).mono ?_
                         rintro e w4 ⟨rfl, hb4⟩
                         have HS4 := Lib.hid (HS3.out.on hb4)
                         have d4 := HS4.out.cell
                         rw [HSn.out] at d4
                         clear hb4))
                    go_ret
                    exact ⟨ret1_eq (congrArg Value.bool HA.out), HS4.out.below⟩
                  · rw [if_neg h200] at HE
                    have h200I : ¬ (200 : Int) < (sn : Int) := by omega
                    have HVd := Lib.hid fun W1 => isVoid_any kd hkle W1
                    have HPu := Lib.hid fun W1 (hs : StAt w b ao cp (p :: q) W1) => push1_any w b ao cp sn (p :: q) i kd ⟨x.name.toArray⟩ W1 hsn (by omega) hs
                    rw [bl_of x.name] at HPu
                    cases hvd : voidK kd with
                    | true =>
                      rw [hvd, if_pos rfl] at HE
                      rw [hvd] at HVd
                      have HA : Hid (standL (i + 1) (p :: q) (T.drop (i + 1)) = ans) := Lib.hid HE.out
                      clear HE hvd h200
                      go_big_wp2_with (first
                        | (go_at_call 54
                           refine HD.out.mono ?_
                           rintro e w1 ⟨rfl, hs1⟩
                           have HS1 := Lib.hid hs1
                           have ck := (HX.out.on hs1.below).kind
                           have cn := (HX.out.on hs1.below).name
                           rw [HK.out] at ck
                           clear hs1)
                        | (go_at_call 56; refine (HKd.out _).mono ?_; rintro e w2 ⟨rfl, rfl⟩)
                        | (go_at_call 57
                           refine (HEl.out _ HS1.out.below).mono ?_
                           rintro e w3 ⟨rfl, hb3⟩
                           have HS3 := Lib.hid (HS1.out.on hb3)
                           have d3 := HS3.out.cell
                           rw [HSn.out] at d3
                           clear hb3)
                        | (go_at_call 58
                           refine (HTk.out _ HS3.out).mono ?_
                           rintro e w4 ⟨rfl, hb4⟩
                           have HS4 := Lib.hid (HS3.out.on hb4)
                           have d4 := HS4.out.cell
                           rw [HSn.out] at d4
                           clear hb4)
                        | (go_at_call 59; refine (HVd.out _).mono ?_; rintro e w5 ⟨rfl, rfl⟩))
                      exact ⟨⟨i + 1, p :: q, ao, cp, by go_num, by omega, by omega, hq, HS4, HA⟩, by simp [RowKit.intOf]; omega⟩
                    | false =>
                      rw [hvd, if_neg (by decide)] at HE
                      rw [hvd] at HVd
                      have HA : Hid (standL (i + 1) (⟨i, x.name, kd⟩ :: p :: q) (T.drop (i + 1)) = ans) := Lib.hid HE.out
                      have hq2 : (⟨i, x.name, kd⟩ :: p :: q : List Opd).length ≤ 201 := by rw [List.length_cons, hsn]; omega
                      clear HE hvd h200
                      go_big_wp2_with (first
                        | (go_at_call 54
                           refine HD.out.mono ?_
                           rintro e w1 ⟨rfl, hs1⟩
                           have HS1 := Lib.hid hs1
                           have ck := (HX.out.on hs1.below).kind
                           have cn := (HX.out.on hs1.below).name
                           rw [HK.out] at ck
                           clear hs1)
                        | (go_at_call 56; refine (HKd.out _).mono ?_; rintro e w2 ⟨rfl, rfl⟩)
                        | (go_at_call 57
                           refine (HEl.out _ HS1.out.below).mono ?_
                           rintro e w3 ⟨rfl, hb3⟩
                           have HS3 := Lib.hid (HS1.out.on hb3)
                           have d3 := HS3.out.cell
                           rw [HSn.out] at d3
                           clear hb3)
                        | (go_at_call 58
                           refine (HTk.out _ HS3.out).mono ?_
                           rintro e w4 ⟨rfl, hb4⟩
                           have HS4 := Lib.hid (HS3.out.on hb4)
                           have d4 := HS4.out.cell
                           rw [HSn.out] at d4
                           have cn4 := (HX.out.on HS4.out.below).name
                           clear hb4)
                        | (go_at_call 59; refine (HVd.out _).mono ?_; rintro e w5 ⟨rfl, rfl⟩)
                        | (go_at_call 60; refine (HPu.out _ HS4.out).mono ?_; rintro e w6 ⟨rfl, ao6, cp6, hs6⟩; have HS6 := Lib.hid hs6; clear hs6))
                      exact ⟨⟨i + 1, _, ao6, cp6, by go_num, by omega, by omega, hq2, HS6, HA⟩, by simp [RowKit.intOf]; omega⟩
          · rw [if_neg hk1] at HE
            have hk1I : ¬ ((k : Nat) : Int) = 1 := by omega
            have hk1B : (((k : Nat) : Int) == 1) = false := by rw [beq_eq_false_iff_ne]; omega
            have HA : Hid (false = ans) := Lib.hid HE.out
            clear HE hk1 hk2
            go_big_wp2_with (go_at_call 54
                             refine HD.out.mono ?_
                             rintro e w1 ⟨rfl, hs1⟩
                             have HS1 := Lib.hid hs1
                             have ck := (HX.out.on hs1.below).kind
                             rw [HK.out] at ck
                             clear hs1)
            go_ret
            exact ⟨ret1_eq (congrArg Value.bool HA.out), HS1.out.below⟩
    · obtain rfl : i = n := by omega
      have hd : T.drop i = [] := List.drop_eq_nil_of_le (by have := hnH.out; omega)
      rw [hd] at HE
      have HA : Hid (true = ans) := Lib.hid HE.out
      have hltI : ((i : Int) < (i : Int)) = False := eq_false (by omega)
      clear hd HE
      go_big_wp2
      go_ret
      exact ⟨ret1_eq (congrArg Value.bool HA.out), HS.out.below⟩
end Go.Proofs.YtkfmfldkllkcbabDoor

