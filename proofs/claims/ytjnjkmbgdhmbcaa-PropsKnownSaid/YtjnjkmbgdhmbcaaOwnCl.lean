/-
  Class of props: it hands back what the document's answer does. No conditions.
-/
import Derived.Test.YtjnjkmbgdhmbcaaSearch
import Derived.Deep.CutBlock
namespace Go.Proofs.Ytjnjkmbgdhmbcaa
open Go.RowKit Go.RunKit

def reaches (r : Int) (i : Nat) : Bool := match refRanges[i]? with
  | some x => decide (r ≤ x.2.1)
  | none => true

/-- Neither end falls. -/
def rising : List (Int × Int × Int) → Bool
  | [] => true
  | [_] => true
  | x :: y :: l => decide (x.1 ≤ y.1) && decide (x.2.1 ≤ y.2.1) && rising (y :: l)
theorem rising_from : ∀ {l : List (Int × Int × Int)}, rising l = true → ∀ (i j : Nat) (x y : Int × Int × Int), i ≤ j → l[i]? = some x → l[j]? = some y → x.1 ≤ y.1 ∧ x.2.1 ≤ y.2.1
  | [], _, i, j, x, y, _, hx, _ => by simp at hx
  | [a], _, i, j, x, y, hij, hx, hy => by
    cases i with
    | succ i => simp at hx
    | zero =>
      cases j with
      | succ j => simp at hy
      | zero => simp at hx hy; subst hx; subst hy; exact ⟨Int.le_refl _, Int.le_refl _⟩
  | a :: b :: l, h, i, j, x, y, hij, hx, hy => by
    simp only [rising, Bool.and_eq_true, decide_eq_true_eq] at h
    cases j with
    | zero =>
      obtain rfl : i = 0 := by omega
      rw [hx] at hy; cases hy; exact ⟨Int.le_refl _, Int.le_refl _⟩
    | succ j =>
      have hy' : (b :: l)[j]? = some y := by simpa using hy
      cases i with
      | succ i => exact rising_from h.2 i j x y (by omega) (by simpa using hx) hy'
      | zero =>
        have := rising_from h.2 0 j b y (by omega) (by simp) hy'
        simp at hx; subst hx
        exact ⟨Int.le_trans h.1.1 this.1, Int.le_trans h.1.2 this.2⟩
theorem refRanges_rising : rising refRanges = true := by kernel_rfl
theorem no_letters : refRanges.all (fun x => (decide (x.2.1 < 65) || decide (90 < x.1)) && (decide (x.2.1 < 97) || decide (122 < x.1))) = true := by kernel_rfl

theorem reaches_mono (r : Int) : ∀ a b, a ≤ b → b < 146 → reaches r a = true → reaches r b = true := by
  intro a b hab hb h
  obtain ⟨x, hx⟩ := some_at refRanges_len (show a < 146 by omega)
  obtain ⟨y, hy⟩ := some_at refRanges_len hb
  have := rising_from refRanges_rising a b x y hab hx hy
  unfold reaches at h ⊢
  rw [hx] at h; rw [hy]
  simp at h ⊢
  omega

theorem refClass_eq (r : Int) : refClass r = classOf (refRanges.find? (within r)) := by
  unfold refClass
  cases hl : letter r with
  | false => rfl
  | true =>
    have hn : refRanges.find? (within r) = none := by
      rw [List.find?_eq_none]
      intro x hx hw
      have h := List.all_eq_true.1 no_letters x hx
      simp only [letter, within, Bool.or_eq_true, Bool.and_eq_true, decide_eq_true_eq] at hl hw h
      omega
    rw [hn]; rfl

theorem class_of_first {r : Int} {c : Nat} (h : FirstAt (reaches r) 146 c) : refClass r = match refRanges[c]? with
    | some x => if x.1 ≤ r then x.2.2 else 1
    | none => 1 := by
  obtain ⟨hc, hno, hyes⟩ := h
  have hn : NoneTill (within r) refRanges c := by
    intro j x hj hx
    have := hno j hj
    unfold reaches at this
    rw [hx] at this
    simp [within] at this ⊢
    omega
  rw [refClass_eq]
  by_cases hlt : c < 146
  · obtain ⟨x, hx⟩ := some_at refRanges_len hlt
    have hr := hyes c (Nat.le_refl _) hlt
    unfold reaches at hr
    rw [hx] at hr
    simp at hr
    simp only [hx]
    by_cases hin : x.1 ≤ r
    · rw [if_pos hin, find_at hn hx (by simp [within]; omega)]; rfl
    · rw [if_neg hin]
      have : refRanges.find? (within r) = none := by
        rw [List.find?_eq_none]
        intro y hy
        obtain ⟨j, hj, rfl⟩ := List.getElem_of_mem hy
        rcases Nat.lt_or_ge j c with h | h
        · simp [hn j refRanges[j] h (by simp)]
        · have := rising_from refRanges_rising c j x refRanges[j] h hx (by simp)
          simp [within]; omega
      rw [this]; rfl
  · rw [List.getElem?_eq_none (by rw [refRanges_len]; omega), find_not hn (by rw [refRanges_len]; omega)]
    rfl

set_option maxHeartbeats 1000000 in
theorem class1_any (r : Int) (b1 b2 : Nat) (W : World) (hr : W.cell? ⟨b1, 0, none⟩ = some (.int .i32 r)) (k : Nat) (x : Int × Int × Int) (hx : refRanges[k]? = some x) (hk : k < 146)
    (hs : W.cell? ⟨b2, k * 3 + 1, none⟩ = some (.int .i32 x.2.1)) :
    Calls Try.prog 22 (#[.int .i64 (k : Nat)] ++ #[.pointer (some ⟨b1, 0, none⟩), .pointer (some ⟨b2, 0, none⟩)]) W fun e w' => e = .returned (.bool (reaches r k)) ∧ ∃ q, w' = W.drewN q := by
  have E : Hid (reaches r k = decide (r ≤ x.2.1)) := Lib.hid (by unfold reaches; rw [hx])
  clear hx
  go_enter Try.func22, Try.ntmps22
  go_wp2
  go_quiet (fail)
  go_wp2
  go_ret
  rw [E.out]
  exact ⟨rfl, _, rfl⟩


theorem info146 : (Try.prog.info? 42).map (fun i => (i.zero, i.size)) = some (some (.agg (oldCells3 146).toArray), 438) := by kernel_rfl
theorem old146 : ((Value.agg (oldCells3 146).toArray).cells).size = 438 := by kernel_rfl
theorem cells3_cs : (cells3 refRanges).toArray.size = 438 ∧ (cells3 refRanges).toArray.all (·.oneCell') = true := ⟨by kernel_rfl, by kernel_rfl⟩

set_option maxRecDepth 100000 in
set_option maxHeartbeats 1000000 in
theorem class_any (r : Int) (w : World) :
    Calls Try.prog 10 #[.int .i32 r] w fun e w' => e = .returned (.int .u8 (refClass r)) ∧ Below w.heap.size w w' := by
  have HR := Lib.hid (fun w => ranges_any w)
  have HE : Hid (∀ k x, refRanges[k]? = some x → (cells3 refRanges).toArray[k * 3]? = some (.int .i32 x.1) ∧ (cells3 refRanges).toArray[k * 3 + 1]? = some (.int .i32 x.2.1) ∧ (cells3 refRanges).toArray[k * 3 + 2]? = some (.int .u8 x.2.2)) :=
    Lib.hid fun k x h => by have := cells3_at h; exact ⟨by simp [this.1], by simp [this.2.1], by simp [this.2.2]⟩
  obtain ⟨hsz, hone⟩ := cells3_cs
  generalize (cells3 refRanges).toArray = cs at HR HE hsz hone
  have hsz' : (Try.prog.info? 42).map (·.size) = some cs.size := by rw [hsz]; exact size146
  have HX := Lib.hid (And.intro hsz (And.intro hone hsz'))
  clear hsz hone hsz'
  go_enter Try.func10, Try.ntmps10
  go_upto_region 1 with (fail)
  rename_i Q' K hK
  have hb1 : Below w.heap.size w (w.alloc (.cells #[.int .i32 r] 21)) := (Below.refl _ _).alloc (Nat.le_refl _) _
  have hc1 : (w.alloc (.cells #[.int .i32 r] 21)).cell? ⟨w.heap.size, 0, none⟩ = some (.int .i32 r) := by simp [go_sem]
  have hlt1 : w.heap.size < (w.alloc (.cells #[.int .i32 r] 21)).heap.size := by simp
  generalize w.alloc (.cells #[.int .i32 r] 21) = W1 at *
  generalize hB1 : w.heap.size = b1 at *
  refine wp_region_list ?_
  refine wpList_calls rfl (by kernel_rfl) (HR.out W1) ?_
  rintro e w' ⟨rfl, rfl⟩
  refine ⟨_, rfl, ?_⟩
  have hb2 : Below b1 w (W1.alloc (.cells cs 42)) := hb1.alloc (by omega) _
  have hc2 : (W1.alloc (.cells cs 42)).cell? ⟨b1, 0, none⟩ = some (.int .i32 r) := by rw [World.cell?_alloc_past _ _ _ (by omega)]; exact hc1
  have hlt2 : b1 < (W1.alloc (.cells cs 42)).heap.size := by simp; omega
  generalize W1.alloc (.cells cs 42) = W2 at *
  refine wpList_alloc_row rfl rfl info146 ?_
  refine wpList_store_row rfl _ _ _ rfl W2.heap.size cs (by rfl) (by rfl) 42 _ (heap_alloc_last W2 _) HX.out.2.2 (old146.trans HX.out.1.symm) HX.out.2.1 ?_
  rw [World.setRow_alloc_new]
  refine wpList_nil ?_
  refine hK _ _ ?_
  go_frame
  have hb3 : Below b1 w (W2.alloc (.cells cs 42)) := hb2.alloc (by omega) _
  have hc3 : (W2.alloc (.cells cs 42)).cell? ⟨b1, 0, none⟩ = some (.int .i32 r) := by rw [World.cell?_alloc_past _ _ _ (by omega)]; exact hc2
  have HA : Hid (∀ k x, refRanges[k]? = some x → (W2.alloc (.cells cs 42)).cell? ⟨W2.heap.size, k * 3, none⟩ = some (.int .i32 x.1) ∧ (W2.alloc (.cells cs 42)).cell? ⟨W2.heap.size, k * 3 + 1, none⟩ = some (.int .i32 x.2.1) ∧
      (W2.alloc (.cells cs 42)).cell? ⟨W2.heap.size, k * 3 + 2, none⟩ = some (.int .u8 x.2.2)) := Lib.hid fun k x h => by
    rw [World.cell?_alloc_at _ _ _ _ rfl, World.cell?_alloc_at _ _ _ _ rfl, World.cell?_alloc_at _ _ _ _ rfl]
    exact HE.out k x h
  generalize W2.alloc (.cells cs 42) = W at *
  generalize W2.heap.size = b3 at *
  rw [← hB1] at hb3
  clear hb1 hb2 hc1 hc2 hlt1 hlt2 HE HR HX
  clear hK W1 W2
  have hs := search_any 22 #[.pointer (some ⟨b1, 0, none⟩), .pointer (some ⟨b3, 0, none⟩)] 146 (reaches r) W (enters_of Try.func22 (by kernel_rfl) rfl) (by omega) (fun m i hi => by
      obtain ⟨x, hx⟩ := some_at refRanges_len hi
      exact class1_any r b1 b3 (W.drewN m) (by simpa [go_sem] using hc3) i x hx hi (by simpa [go_sem] using (HA.out i x hx).2.1)) (reaches_mono r)
  go_wp2_with (go_at_call 21; refine hs.mono ?_; rintro e w' ⟨⟨c, rfl, hfirst⟩, q, rfl⟩)
  have E := Lib.hid (class_of_first hfirst)
  clear hs
  have HF := Lib.hid hfirst; clear hfirst
  by_cases hlt : c < 146
  · obtain ⟨⟨p1, p2, p3⟩, hp⟩ := some_at refRanges_len hlt
    obtain ⟨a1, a2, a3⟩ := HA.out c _ hp
    have e := E.out
    rw [hp] at e
    have Hp := Lib.hid hp; clear hp
    have hI : (c : Int) < 146 := by omega
    by_cases hin : p1 ≤ r
    · have E2 : Hid (refClass r = p3) := Lib.hid (e.trans (if_pos hin))
      clear e
      go_wp2
      go_quiet (fail)
      go_wp2
      go_ret
      rw [E2.out]
      exact ⟨rfl, by first | exact below_drewN hb3 _ | exact below_drewN (below_drewN hb3 _) _⟩
    · have E2 : Hid (refClass r = 1) := Lib.hid (e.trans (if_neg hin))
      clear e
      go_wp2
      go_quiet (fail)
      go_wp2
      go_ret
      rw [E2.out]
      exact ⟨rfl, by first | exact below_drewN hb3 _ | exact below_drewN (below_drewN hb3 _) _⟩
  · obtain rfl : c = 146 := by have := HF.out.1; omega
    have e := E.out
    rw [List.getElem?_eq_none (by rw [refRanges_len]; omega)] at e
    have E2 : Hid (refClass r = 1) := Lib.hid e
    clear e
    go_wp2
    go_quiet (fail)
    go_wp2
    go_ret
    rw [E2.out]
    exact ⟨rfl, by first | exact below_drewN hb3 _ | exact below_drewN (below_drewN hb3 _) _⟩
end Go.Proofs.Ytjnjkmbgdhmbcaa
