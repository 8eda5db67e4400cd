/-
  What is true of the known text of the statements on package csstok: it has two tokens, and they are printed as that text. Conditions: the library's two tables hold what its text lays.
-/
import Derived.Test.YtmhdocgoeahbdaaGreatDoorQPw
namespace Go.CssKit
open Go Go.Lib Go.UtfKit
def wk7 : ByteArray := ⟨#[97, 45, 98, 40, 49, 46, 53, 101, 51, 112, 120]⟩
def wk7L : List CT := [⟨3, [97, 45, 98], [], false⟩, ⟨10, [49, 46, 53, 101, 51], [112, 120], false⟩]
theorem wk7_toks : toksC (charsOf wk7) = wk7L := by kernel_rfl
theorem wk7_print : printC wk7L = wk7.data.toList := by kernel_rfl
theorem wk7_esc : wk7L.flatMap escZ = [] := by kernel_rfl
end Go.CssKit
namespace Go.Proofs.YtmhdocgoeahbdaaGreatDoor
open Go.RowKit Go.RunKit Go.UtfKit Go.Lib Go.CssKit

theorem tokCells_at : ∀ (ts : List CT) (k j : Nat) (x : CT), ts[k]? = some x → j < 4 → (tokCells ts)[k * 4 + j]? = (tokC x)[j]?
  | [], k, _, x, h, _ => by simp at h
  | y :: ts, 0, j, x, h, hj => by
    simp only [List.getElem?_cons_zero, Option.some.injEq] at h
    subst h
    show (tokC y ++ tokCells ts)[0 * 4 + j]? = _
    rw [Nat.zero_mul, Nat.zero_add, List.getElem?_append_left (by show j < 4; exact hj)]
  | y :: ts, k + 1, j, x, h, hj => by
    rw [List.getElem?_cons_succ] at h
    show (tokC y ++ tokCells ts)[(k + 1) * 4 + j]? = _
    rw [List.getElem?_append_right (by show 4 ≤ _; omega)]
    rw [← tokCells_at ts k j x h hj]
    congr 1
    show (k + 1) * 4 + j - 4 = k * 4 + j
    omega
theorem OwnT.see {w : World} {base : Nat} {a : Option Addr} {cap : Nat} {ts : List CT} (h : OwnT w base (.slice a ts.length cap) ts) : TksSee w a ts := by
  intro W' hb k x hx
  have hk := (List.getElem?_eq_some_iff.1 hx).1
  rcases h.2 with ⟨e, e2⟩ | ⟨g, c, cur, e, _⟩
  · omega
  · simp only [Value.slice.injEq] at e
    obtain ⟨rfl, _, rfl⟩ := e
    refine ⟨g, rfl, ?_⟩
    have hc : ∀ j v, j < 4 → (tokC x)[j]? = some v → W'.cell? ⟨g, k * 4 + j, none⟩ = some v := fun j v hj hv => by
      have h2 : w.cell? ⟨g, k * 4 + j, none⟩ = some v := by
        rw [World.ownsRow.cellAt h (k * 4 + j) (by omega), tokCells_at ts k j x hx hj]
        exact hv
      rw [hb.cell (World.block_lt_of_cell? _ _ h2)]
      exact h2
    exact ⟨hc 0 _ (by omega) rfl, hc 1 _ (by omega) rfl, hc 2 _ (by omega) rfl, hc 3 _ (by omega) rfl⟩

set_option maxRecDepth 100000 in
set_option maxHeartbeats 4000000 in
theorem works7_any (w : World) (ht : U.Tabs w) : Calls Tryz.prog 7 #[] w fun e w' => e = .returned (.bool true) ∧ Below w.heap.size w w' := by
  have hT := tokens7_any wk7 w ht (by decide)
  rw [wk7_toks] at hT
  have HT := Lib.hid hT
  have HP := Lib.hid (fun (w1 : World) (hb : Below w.heap.size w w1) (a : Option Addr) (cap : Nat) (hs : TksSee w1 a wk7L) => print_any wk7L a cap w1 (ht.on hb) hs
    (by intro x hx; simp only [wk7L, List.mem_cons, List.not_mem_nil, or_false] at hx; rcases hx with rfl | rfl <;> decide) (by decide) (by decide)
    (fun b t x z hx hz => by
      have : z ∈ wk7L.flatMap escZ := List.mem_flatMap.2 ⟨x, hx, hz⟩
      rw [wk7_esc] at this
      cases this))
  rw [wk7_print] at HP
  clear hT ht
  go_enter Tryz.func7, Tryz.ntmps7
  go_big_wp2_with (first
    | (go_at_call 9
       go_loud (
         refine HT.out.mono ?_
         clear HT
         rintro e w1 ⟨a, cap, rfl, hown, hb⟩
         have hs := OwnT.see hown
         obtain ⟨g, rfl, a0, a1, a2, a3⟩ := hs w1 (Below.refl _ _) 0 _ rfl
         obtain ⟨g', hg', b0, b1, b2, b3⟩ := hs w1 (Below.refl _ _) 1 _ rfl
         cases hg'
         have HPr := Lib.hid (HP.out w1 hb _ cap hs)
         have HB := Lib.hid hb
         clear hown hb hs HP))
    | (go_at_call 12
       go_loud (
         refine HPr.out.mono ?_
         clear HPr
         rintro e w2 ⟨rfl, hb2⟩
         have HB2 := Lib.hid (HB.out.trans (hb2.mono HB.out.size))
         clear hb2)))
  go_ret
  exact ⟨ret1_eq (congrArg Value.bool (by kernel_rfl)), HB2.out⟩
/-- Tokens of the document's own way in a row, seen from now on. -/
abbrev TRt : TypeId := 40

set_option maxRecDepth 100000 in
set_option maxHeartbeats 8000000 in
theorem same7_any (ao bo : Option Addr) (c1 c2 : Nat) (ts us : List CT) (h32 : ts.length ≤ 4294967296) (w : World) (ha : TksSee w ao ts) (hb : TksSee w bo us) :
    Calls Tryz.prog 8 #[.slice ao ts.length c1, .slice bo us.length c2] w fun e w' => e = .returned (.bool (decide (ts = us))) ∧ Below w.heap.size w w' := by
  have HA := Lib.hid ha
  have HC := Lib.hid hb
  clear ha hb
  by_cases hl : ts.length = us.length
  · have D0 : Hid (decide (ts.drop 0 = us.drop 0) = decide (ts = us)) := Lib.hid (by rw [List.drop_zero, List.drop_zero])
    have HL := Lib.hid hl
    generalize decide (ts = us) = ans at *
    obtain ⟨n, hn⟩ : ∃ n, us.length = n := ⟨_, rfl⟩
    rw [hl, hn] at h32 ⊢
    have HN := Lib.hid hn
    clear hl hn
    go_enter Tryz.func8, Tryz.ntmps8
    go_big_wp2
    go_loopw [5] (fun v wr => ∃ k : Nat, v = .int .i64 (k : Nat) ∧ k ≤ n ∧ Hid (Below w.heap.size w wr) ∧ Hid (decide (ts.drop k = us.drop k) = ans)) (fun v _ => n - (RowKit.intOf v).toNat)
    case atStart => exact ⟨0, rfl, Nat.zero_le _, Lib.hid (Below.refl _ _), D0⟩
    case round =>
      clear D0
      obtain ⟨k, rfl, hk, HB, HD⟩ := hrel
      by_cases hkl : k < n
      · have hkI : (k : Int) < n := by omega
        have hu := HN.out
        have htl := HL.out
        obtain ⟨x, hx⟩ : ∃ x, ts[k]? = some x := ⟨ts[k]'(by omega), by simp [show k < ts.length by omega]⟩
        obtain ⟨y, hy⟩ : ∃ y, us[k]? = some y := ⟨us[k]'(by omega), by simp [show k < us.length by omega]⟩
        have hd1 : ts.drop k = x :: ts.drop (k + 1) := by rw [List.drop_eq_getElem_cons (by omega)]; rw [List.getElem?_eq_getElem (by omega)] at hx; cases hx; rfl
        have hd2 : us.drop k = y :: us.drop (k + 1) := by rw [List.drop_eq_getElem_cons (by omega)]; rw [List.getElem?_eq_getElem (by omega)] at hy; cases hy; rfl
        have hst := HD.out
        rw [hd1, hd2] at hst
        obtain ⟨g1, rfl, a0, a1, a2, a3⟩ := HA.out wr HB.out k x hx
        obtain ⟨g2, rfl, b0, b1, b2, b3⟩ := HC.out wr HB.out k y hy
        obtain ⟨k1, v1, u1, i1⟩ := x
        obtain ⟨k2, v2, u2, i2⟩ := y
        simp only at a0 a1 a2 a3 b0 b1 b2 b3
        clear hu htl hx hy hd1 hd2 HD
        have A0 := fun p : Over wr => p.cell a0
        have A1 := fun p : Over wr => p.cell a1
        have A2 := fun p : Over wr => p.cell a2
        have A3 := fun p : Over wr => p.cell a3
        have B0 := fun p : Over wr => p.cell b0
        have B1 := fun p : Over wr => p.cell b1
        have B2 := fun p : Over wr => p.cell b2
        have B3 := fun p : Over wr => p.cell b3
        clear a0 a1 a2 a3 b0 b1 b2 b3
        by_cases hk12 : k1 = k2
        · subst hk12
          obtain ⟨nv1, hv1⟩ : ∃ nb : ByteArray, (⟨v1.toArray⟩ : ByteArray) = nb := ⟨_, rfl⟩
          obtain ⟨nv2, hv2⟩ : ∃ nb : ByteArray, (⟨v2.toArray⟩ : ByteArray) = nb := ⟨_, rfl⟩
          obtain ⟨nu1, hu1⟩ : ∃ nb : ByteArray, (⟨u1.toArray⟩ : ByteArray) = nb := ⟨_, rfl⟩
          obtain ⟨nu2, hu2⟩ : ∃ nb : ByteArray, (⟨u2.toArray⟩ : ByteArray) = nb := ⟨_, rfl⟩
          rw [hv1] at A1
          rw [hv2] at B1
          rw [hu1] at A2
          rw [hu2] at B2
          by_cases hv : v1 = v2
          · subst hv
            rw [hv1] at hv2
            subst nv2
            by_cases hu : u1 = u2
            · subst hu
              rw [hu1] at hu2
              subst nu2
              by_cases hi : i1 = i2
              · subst hi
                have HS : Hid (decide (ts.drop (k + 1) = us.drop (k + 1)) = ans) := Lib.hid (by rw [← hst]; simp)
                clear hv1 hu1 hst
                cases i1
                all_goals
                  go_big_wp2
                  refine wp_region_below (by kernel_rfl) (by kernel_rfl) ?_
                  repeat (go_big_quiet_step (fail))
                  refine wpQuiet_nil ?_
                  intro W hw'
                  obtain ⟨q, rfl⟩ := hw'
                  go_big_wp2
                  exact ⟨⟨k + 1, by go_num, by omega, Lib.hid (HB.out.trans (q.below.mono HB.out.size)), HS⟩, by simp [RowKit.intOf]; omega⟩
              · have hans : ans = false := by rw [← hst]; simp [hi]
                subst hans
                clear hv1 hu1 hst
                cases i1 <;> cases i2
                all_goals (try (exact absurd rfl hi))
                all_goals
                  go_big_wp2
                  refine wp_region_below (by kernel_rfl) (by kernel_rfl) ?_
                  repeat (go_big_quiet_step (fail))
                  refine wpQuiet_nil ?_
                  intro W hw'
                  obtain ⟨q, rfl⟩ := hw'
                  go_big_wp2
                  go_ret
                  exact ⟨rfl, HB.out.trans (q.below.mono HB.out.size)⟩
            · have bu : (nu1.toList == nu2.toList) = false := by rw [beq_eq_false_iff_ne, ← hu1, ← hu2]; intro e; exact hu (by simpa using e)
              have hans : ans = false := by rw [← hst]; simp [hu]
              subst hans
              clear hv1 hu1 hu2 hst
              go_big_wp2
              refine wp_region_below (by kernel_rfl) (by kernel_rfl) ?_
              repeat (go_big_quiet_step (fail))
              refine wpQuiet_nil ?_
              intro W hw'
              obtain ⟨q, rfl⟩ := hw'
              go_big_wp2
              go_ret
              exact ⟨rfl, HB.out.trans (q.below.mono HB.out.size)⟩
          · have bv : (nv1.toList == nv2.toList) = false := by rw [beq_eq_false_iff_ne, ← hv1, ← hv2]; intro e; exact hv (by simpa using e)
            have hans : ans = false := by rw [← hst]; simp [hv]
            subst hans
            clear hv1 hv2 hu1 hu2 hst
            go_big_wp2
            refine wp_region_below (by kernel_rfl) (by kernel_rfl) ?_
            repeat (go_big_quiet_step (fail))
            refine wpQuiet_nil ?_
            intro W hw'
            obtain ⟨q, rfl⟩ := hw'
            go_big_wp2
            go_ret
            exact ⟨rfl, HB.out.trans (q.below.mono HB.out.size)⟩
        · have e1 : (((k1 : Nat) : Int) != k2) = true := by rw [bne_iff_ne]; omega
          have hans : ans = false := by rw [← hst]; simp [hk12]
          subst hans
          go_big_wp2
          refine wp_region_below (by kernel_rfl) (by kernel_rfl) ?_
          repeat (go_big_quiet_step (fail))
          refine wpQuiet_nil ?_
          intro W hw'
          obtain ⟨q, rfl⟩ := hw'
          go_big_wp2
          go_ret
          exact ⟨rfl, HB.out.trans (q.below.mono HB.out.size)⟩
      · obtain rfl : k = n := by omega
        have hst := HD.out
        rw [List.drop_eq_nil_of_le (by have := HL.out; have := HN.out; omega), List.drop_eq_nil_of_le (by have := HN.out; omega)] at hst
        have hans : ans = true := by simpa using hst.symm
        subst hans
        go_big_wp2
        go_ret
        exact ⟨rfl, HB.out⟩
  · rw [decide_eq_false (show ¬ ts = us from fun e => hl (by rw [e]))]
    have hI : ((ts.length : Int) != us.length) = true := by rw [bne_iff_ne]; omega
    clear HA HC
    go_enter Tryz.func8, Tryz.ntmps8
    go_big_wp2
    go_ret
    exact ⟨rfl, Below.refl _ _⟩
end Go.Proofs.YtmhdocgoeahbdaaGreatDoor
