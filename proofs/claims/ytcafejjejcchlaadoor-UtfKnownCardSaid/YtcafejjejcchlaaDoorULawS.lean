/-
  The law on String, walked: it hands back true. Conditions: the library's two tables hold what its text lays.
-/
import Derived.Test.YtcafejjejcchlaaDoorUStr
import Derived.Test.YtcafejjejcchlaaDoorULawR
import Derived.Laws.AppendOwnNone
namespace Go.Proofs.YtcafejjejcchlaaDoor
open Go.RowKit Go.RunKit Go.UtfKit Go.Lib Go.Shelf

def intCells (l : List Int) : List Value := l.map (Value.int .i32)
set_option maxRecDepth 100000 in
set_option maxHeartbeats 1000000 in
/-- String of a row of the call's own. -/
theorem string_row (base : Nat) (v : Value) (l : List Int) (w : World) (h : w.ownsRow base 21 1 v l.length (intCells l)) :
    Calls Tryd.prog 11 #[v] w fun e w' => e = .returned (.string ⟨(textOf l).toArray⟩) ∧ w = w' := by
  rcases h.2 with ⟨rfl, e⟩ | ⟨g, cap, cur, rfl, _⟩
  · have hl : l = [] := List.length_eq_zero_iff.1 e
    subst hl
    have hcv := run_convert_runes_nil (P := Tryd.prog) w 28 9 21 0 0 Tryd.underRunes underRune underString
    go_enter Tryd.func11, Tryd.ntmps11
    go_wp2
    go_ret
    exact ⟨rfl, rfl⟩
  · have := string_any ⟨g, 0, none⟩ cap l w (fun j hj => h.cells rfl j _ (by simp [intCells, List.getD, hj]))
    rwa [runesBytes_eq] at this

set_option maxRecDepth 100000 in
set_option maxHeartbeats 2000000 in
theorem lawStrings (a : Option Addr) (cap : Nat) (l : List Int) (w : World) (ht : Tabs w) (hr : ∀ z ∈ l, -2147483648 ≤ z ∧ z ≤ 2147483647) (hc : Reads w a l) (hnil : a = none → l = [] ∧ cap = 0) :
    Calls Tryd.prog 14 #[.slice a l.length cap] w fun e w' => e = .returned (.bool true) ∧ Below w.heap.size w w' := by
  have HW : Hid (∀ w1, Below w.heap.size w w1 → Calls Tryd.prog 7 #[] w1 fun e w' => e = .returned (.bool true) ∧ Below w.heap.size w w') := Lib.hid (fun w1 hb => from_base hb (works_any w1 (ht.on hb)))
  clear ht
  by_cases hbig : 20000 < l.length
  · have hI : (20000 : Int) < l.length := by omega
    go_enter Tryd.func14, Tryd.ntmps14
    go_wp2_with (go_at_call 7; refine (HW.out _ (Below.refl _ _)).mono ?_; rintro e w' ⟨rfl, hb⟩)
    go_ret
    exact ⟨rfl, hb⟩
  · have hI := eq_false (show ¬ (20000 : Int) < l.length by omega)
    obtain ⟨i0, hi, hz0, hz1, hz2⟩ := info_parts Tryd.infoInt32
    have HF : Hid (∀ w1, Below w.heap.size w w1 → Calls Tryd.prog 22 #[.slice a l.length cap] w1 fun e w' => e = .returned (.string ⟨(textOf l).toArray⟩) ∧ Below w1.heap.size w1 w') := Lib.hid (fun w1 hb => refString_any a cap l w1 hr (hc.on hb) (by omega))
    have HC := Lib.hid hc
    clear hc hr
    have HS : Hid (∀ v w1, w1.ownsRow w.heap.size 21 1 v l.length (intCells l) → Calls Tryd.prog 11 #[v] w1 fun e w' => e = .returned (.string ⟨(textOf l).toArray⟩) ∧ w1 = w') := Lib.hid (fun v w1 h => string_row _ v l w1 h)
    have HO : Hid (w.ownsRow w.heap.size 21 1 (.slice none 0 0) 0 []) := Lib.hid (World.ownsRow_nil _ _ _ _)
    cases a with
    | none =>
      obtain ⟨rfl, rfl⟩ := hnil rfl
      go_enter Tryd.func14, Tryd.ntmps14
      go_wp2_with (first
        | (at_builtin; refine wpList_append_own_none rfl _ _ 28 rfl w.heap.size 21 i0 1 Tryd.underRunes hi _ 0 [] rfl HO.out rfl ?_)
        | (go_at_call 11; refine (HS.out _ _ HO.out).mono ?_; rintro e w1 ⟨rfl, rfl⟩)
        | (go_at_call 22; refine (HF.out _ (Below.refl _ _)).mono ?_; rintro e w2 ⟨rfl, hb2⟩))
      go_loopw [4] (fun i wr => i = .int .i64 0 ∧ Below w.heap.size w wr) (fun _ _ => 0)
      case atStart => exact ⟨rfl, hb2⟩
      case round =>
        clear hb2
        obtain ⟨rfl, hb⟩ := hrel
        go_wp2_with (go_at_call 7; refine (HW.out _ hb).mono ?_; rintro e w' ⟨rfl, hb3⟩)
        go_ret
        exact ⟨rfl, hb3⟩
    | some x =>
      clear hnil
      go_enter Tryd.func14, Tryd.ntmps14
      go_wp2_with (at_builtin; refine wpList_append_own _ rfl _ _ 28 rfl w.heap.size 21 i0 _ 1 4 Tryd.underRunes hi hz0 hz1 hz2 rfl (by decide) _ 0 [] rfl HO.out x l.length cap (intCells l) rfl ?c1 ?c2 ?c3 ?c4 ?c5 ?c6 ?_)
      case c1 => simp [intCells]
      case c2 =>
        intro j u hu
        obtain ⟨z, hz, rfl⟩ : ∃ z, l[j]? = some z ∧ Value.int .i32 z = u := by simpa [intCells] using hu
        obtain ⟨ad, e, hcell⟩ := HC.out j z hz
        cases e
        exact hcell
      case c3 =>
        intro u hu
        obtain ⟨z, _, rfl⟩ := List.mem_map.1 hu
        rfl
      case c4 => unfold maxLen; omega
      case c5 => omega
      case c6 => exact Nat.le_refl _
      intro v' W hown' hgrow _
      obtain ⟨a1, cap1, hvs1⟩ := slice_of hown'
      subst hvs1
      have hbW : Below w.heap.size w W := (Below.refl _ _).grown hgrow (Nat.le_refl _) (fun k hk => by cases hk)
      have HX := Lib.hid (And.intro hown' hbW)
      clear hown' hbW hgrow
      go_wp2_with (first
        | (go_at_call 11; refine (HS.out _ _ HX.out.1).mono ?_; rintro e w1 ⟨rfl, rfl⟩)
        | (go_at_call 22; refine (HF.out _ HX.out.2).mono ?_; rintro e w2 ⟨rfl, hb2⟩))
      have HY : Hid (∀ j z, l[j]? = some z → ∃ g, a1 = some ⟨g, 0, none⟩ ∧ W.cell? ⟨g, j, none⟩ = some (.int .i32 z)) := Lib.hid (fun j z hz => by
        rcases HX.out.1.2 with ⟨_, e⟩ | ⟨g, cap3, cur, e, _⟩
        · rw [List.length_eq_zero_iff.1 e] at hz; simp at hz
        · cases e
          have h := HX.out.1.cells (g := g) rfl j (.int .i32 z) (by simp [intCells, hz])
          rw [add_at] at h
          exact ⟨g, rfl, h⟩)
      have HZ : Hid (Below w.heap.size w w2 ∧ (∀ j z, l[j]? = some z → ∃ g, a1 = some ⟨g, 0, none⟩ ∧ w2.cell? ⟨g, j, none⟩ = some (.int .i32 z)) ∧ Reads w2 (some x) l) := Lib.hid (by
        have hb3 := HX.out.2.trans (hb2.mono HX.out.2.size)
        refine ⟨hb3, fun j z hz => ?_, HC.out.on hb3⟩
        obtain ⟨g, e, hcell⟩ := HY.out j z hz
        exact ⟨g, e, by rw [hb2.cell (World.block_lt_of_cell? _ _ hcell)]; exact hcell⟩)
      clear hb2 HY
      go_loopw [4] (fun i wr => ∃ (k n : Nat), k ≤ l.length ∧ i = .int .i64 k ∧ wr = w2.drewN n) (fun i _ => l.length - (RowKit.intOf i).toNat)
      case atStart => exact ⟨0, 0, Nat.zero_le _, rfl, rfl⟩
      case round =>
        obtain ⟨k, n, hk, rfl, rfl⟩ := hrel
        by_cases hlt : k < l.length
        · obtain ⟨z, hz⟩ := some_at rfl hlt
          obtain ⟨g, e1, h1⟩ := HZ.out.2.1 k z hz
          obtain ⟨ad, e2, h2⟩ := HZ.out.2.2 k z hz
          cases e1
          cases e2
          have hkI : (k : Int) < l.length := by omega
          clear hz
          go_wp2
          go_quiet (fail)
          go_wp2
          exact ⟨⟨k + 1, _, by omega, by go_num, rfl⟩, by simp [RowKit.intOf]; omega⟩
        · go_wp2_with (go_at_call 7; refine (HW.out _ (below_drewN HZ.out.1 _)).mono ?_; rintro e w' ⟨rfl, hb3⟩)
          go_ret
          exact ⟨rfl, hb3⟩
end Go.Proofs.YtcafejjejcchlaaDoor
