/-
  The law CsstokComments: a comment between two texts' tokens changes nothing but that they stay two. Conditions: the library's two tables hold what its text lays; the strings' lengths have a sum that is a number of the machine.
-/
import Derived.Test.YtmhdocgoeahbdaaDoorQParts
import Derived.Test.YtmhdocgoeahbdaaDoorQPl
import Derived.Deep.DeepCutAuto
import Derived.Laws.AppendOwnNone
namespace Go.Proofs.YtmhdocgoeahbdaaDoor
open Go.RowKit Go.RunKit Go.UtfKit Go.Lib Go.CssKit

/-- No end of a comment begins ahead of the place i. -/
def NoneYet (c : ByteArray) (i : Nat) : Prop := ∀ j, j < i → j + 1 < c.size → ¬ (byteAt c j = 42 ∧ byteAt c (j + 1) = 47)
theorem byteAt_get (c : ByteArray) (i : Nat) (h : i < c.size) : byteAt c i = c[i].toNat := by
  have e1 : c = ⟨c.data.toList.toArray⟩ := rfl
  conv => lhs; rw [e1]
  rw [byteAt_list _ _ (by simpa using h)]
  rfl
theorem noShut_plain {c : ByteArray} (h : NoneYet c c.size) (hl : ∀ i, i + 1 = c.size → byteAt c i ≠ 42) : NoShut (c ++ ⟨#[]⟩) := by
  have e : c ++ ⟨#[]⟩ = c := by apply ByteArray.ext; simp
  rw [e]
  exact ⟨fun i hi => h i (by omega) hi, hl⟩
theorem noShut_blank {c : ByteArray} (h : NoneYet c c.size) : NoShut (c ++ ⟨#[32]⟩) := by
  have hs : (c ++ (⟨#[32]⟩ : ByteArray)).size = c.size + 1 := by rw [ByteArray.size_append]; rfl
  have h32 : byteAt (c ++ ⟨#[32]⟩) c.size = 32 := by
    have := byteAt_right c ⟨#[32]⟩ 0
    rw [Nat.add_zero] at this
    rw [this]; decide
  refine ⟨fun i hi => ?_, fun i hi => ?_⟩
  · rw [hs] at hi
    by_cases h1 : i + 1 < c.size
    · rw [byteAt_left _ _ _ (by omega), byteAt_left _ _ _ h1]
      exact h i (by omega) h1
    · rw [show i + 1 = c.size by omega, h32]
      exact fun e => absurd e.2 (by decide)
  · rw [hs] at hi
    rw [show i = c.size by omega, h32]
    decide
theorem commentText (a b c e : ByteArray) : a ++ ⟨#[59, 47, 42]⟩ ++ c ++ e ++ ⟨#[42, 47]⟩ ++ b = a ++ (⟨#[59]⟩ ++ (⟨#[47, 42]⟩ ++ ((c ++ e) ++ (⟨#[42, 47]⟩ ++ b)))) := by
  apply ByteArray.ext; apply Array.toList_inj.1; simp
theorem semiText (a : ByteArray) : a ++ ⟨#[59, 120, 59]⟩ = a ++ (⟨#[59]⟩ ++ ⟨#[120, 59]⟩) := by
  apply ByteArray.ext; apply Array.toList_inj.1; simp
theorem toks_le (s : ByteArray) : (toksC (charsOf s)).length ≤ s.size := by
  have hcl := charsL_len false (codes s)
  have hcl2 := codes_len s
  have htl := toksD_len _ (comL (charsOf s)) (Nat.le_refl _)
  have hcm := comL_le (charsOf s)
  rw [← toksC_com] at htl
  unfold charsOf at htl hcm ⊢
  omega
/-- Tokens that are own, once more, behind what is grown. -/
theorem OwnT.cells {w : World} {base : Nat} {g : Nat} {n cap : Nat} {ts : List CT} (h : OwnT w base (.slice (some ⟨g, 0, none⟩) n cap) ts) : ∀ j u, (tokCells ts)[j]? = some u → w.cell? ((⟨g, 0, none⟩ : Addr).add j) = some u :=
  World.ownsRow.cells (g := g) h rfl
theorem tokCells_one (ts : List CT) : ∀ u, u ∈ tokCells ts → u.oneCell' = true := by
  intro u hu
  unfold tokCells at hu
  obtain ⟨t, _, ht⟩ := List.mem_flatMap.1 hu
  simp only [tokC, List.mem_cons, List.not_mem_nil, or_false] at ht
  rcases ht with rfl | rfl | rfl | rfl <;> rfl
theorem tokCells_len4 : ∀ ts : List CT, (tokCells ts).length = ts.length * 4
  | [] => rfl
  | t :: ts => by
    have := tokCells_len4 ts
    show (tokC t ++ tokCells ts).length = (ts.length + 1) * 4
    rw [List.length_append, this]
    show 4 + _ = _
    omega
theorem tokCells_append (x y : List CT) : tokCells (x ++ y) = tokCells x ++ tokCells y := by simp [tokCells]

theorem commentTail {a b c e : ByteArray} {xs ys zs : List CT} (hs : NoShut (c ++ e)) (hx : toksC (charsOf (a ++ ⟨#[59]⟩)) = xs) (hy : toksC (charsOf b) = ys) (hz : toksC (charsOf (a ++ ⟨#[59, 120, 59]⟩)) = zs)
    (hg : (∀ t, xs.getLast? = some t → t.kind = 11) ∧ zs.length = xs.length + 2) : toksC (charsOf (a ++ ⟨#[59, 47, 42]⟩ ++ c ++ e ++ ⟨#[42, 47]⟩ ++ b)) = xs ++ ys := by
  have h := comments_all a b (c ++ e) hs (by rw [← semiText, hz, hx]; exact hg.2) (by rw [hx]; exact hg.1)
  rw [commentText, h, hx, hy]
theorem tailSize {a b c e : ByteArray} (h : a.size + b.size + c.size ≤ 4000) (he : e.size ≤ 1) : (a ++ ⟨#[59, 47, 42]⟩ ++ c ++ e ++ ⟨#[42, 47]⟩ ++ b).size ≤ 1073741824 := by
  rw [ByteArray.size_append, ByteArray.size_append, ByteArray.size_append, ByteArray.size_append, ByteArray.size_append]
  have h1 : (⟨#[59, 47, 42]⟩ : ByteArray).size = 3 := rfl
  have h2 : (⟨#[42, 47]⟩ : ByteArray).size = 2 := rfl
  omega
theorem tokens7_at {s : ByteArray} {ts : List CT} {n : Nat} (h : toksC (charsOf s) = ts) (hn : ts.length = n) (w : World) (ht : U.Tabs w) (hsz : s.size ≤ 1073741824) :
    Calls Tryd.prog 5 #[.string s] w fun e w' => ∃ a cap, e = .returned (.slice a n cap) ∧ TksSee w' a ts ∧ Below w.heap.size w w' := by
  subst hn
  subst h
  refine (tokens7_any s w ht hsz).mono ?_
  rintro e w' ⟨a5, cap5, he, hown, hb5⟩
  exact ⟨a5, cap5, he, hown.see, hb5⟩
theorem plain_at {ts : List CT} {n : Nat} (hn : ts.length = n) (h32 : n ≤ 4294967296) (ao : Option Addr) (cap : Nat) (w : World) (ha : TksSee w ao ts) :
    Calls Tryd.prog 7 #[.slice ao n cap] w fun e w' => ∃ a cap2, e = .returned (.slice a n cap2) ∧ TksSee w' a ts ∧ Below w.heap.size w w' := by
  subst hn
  exact plain_any ao cap ts h32 w ha
theorem same7_at {ts : List CT} {n : Nat} (hn : ts.length = n) (h32 : n ≤ 4294967296) (ao bo : Option Addr) (c1 c2 : Nat) (w : World) (ha : TksSee w ao ts) (hb : TksSee w bo ts) :
    Calls Tryd.prog 6 #[.slice ao n c1, .slice bo n c2] w fun e w' => e = .returned (.bool true) ∧ Below w.heap.size w w' := by
  subst hn
  have h := same7_any ao bo c1 c2 ts ts h32 w ha hb
  rwa [decide_eq_true (rfl : ts = ts)] at h

set_option maxRecDepth 100000 in
set_option maxHeartbeats 8000000 in
theorem lawComments (a b c : ByteArray) (habc : a.size + b.size + c.size ≤ 422212465053696) (w : World) (ht : U.Tabs w) :
    Calls Tryd.prog 3 #[.string a, .string b, .string c] w fun e w' => e = .returned (.bool true) ∧ Below w.heap.size w w' := by
  have HW := Lib.hid (fun W (hb : Below w.heap.size w W) => works7_any W (ht.on hb))
  have HB0 := Lib.hid (Below.refl w.heap.size w)
  by_cases hs : 4000 < a.size + b.size + c.size
  · have hI : (4000 : Int) < (a.size : Int) + b.size + c.size := by omega
    clear ht
    go_enter Tryd.func3, Tryd.ntmps3
    go_wp2_with (go_at_call 4; refine (HW.out _ HB0.out).mono ?_; rintro e w1 ⟨rfl, hb⟩; have HB := Lib.hid hb; clear hb)
    go_ret
    exact ⟨rfl, HB.out⟩
  · have hI : ¬ (4000 : Int) < (a.size : Int) + b.size + c.size := by omega
    have HTb := Lib.hid ht
    have HSz : Hid (a.size + b.size + c.size ≤ 4000) := Lib.hid (by omega)
    clear ht
    go_enter Tryd.func3, Tryd.ntmps3
    go_big_wp2
    go_loopw [7] (fun v wr => ∃ i : Nat, v = .int .i64 ((i : Nat) : Int) ∧ i ≤ c.size ∧ Hid (Below w.heap.size w wr) ∧ Hid (NoneYet c i)) (fun v _ => c.size - (RowKit.intOf v).toNat)
    case atStart => exact ⟨0, rfl, Nat.zero_le _, HB0, Lib.hid (fun j hj => by omega)⟩
    case round =>
      clear HB0
      obtain ⟨i, rfl, hi, HB, HN⟩ := hrel
      have hi64 : (i : Int) < 100000 := by have := HSz.out; omega
      by_cases hlt : i + 1 < c.size
      · have hltI : (i : Int) + 1 < c.size := by omega
        have hlt0 : i < c.size := by omega
        have hi0 : (0 : Int) ≤ (i : Int) + 1 := by omega
        by_cases h1 : byteAt c i = 42 ∧ byteAt c (i + 1) = 47
        · rw [byteAt_get c i hlt0, byteAt_get c (i + 1) hlt] at h1
          obtain ⟨h1, h2⟩ := h1
          clear HN hI
          go_big_wp2_with (go_at_call 4; refine (HW.out _ HB.out).mono ?_; rintro e w1 ⟨rfl, hb⟩; have HB2 := Lib.hid (HB.out.trans (hb.mono HB.out.size)); clear hb)
          go_ret
          exact ⟨rfl, HB2.out⟩
        · have HN2 : Hid (NoneYet c (i + 1)) := Lib.hid (fun j hj hjc => by
            by_cases e : j = i
            · subst e; exact h1
            · exact HN.out j (by omega) hjc)
          rw [byteAt_get c i hlt0, byteAt_get c (i + 1) hlt] at h1
          by_cases h2 : c[i].toNat = 42
          · have b3 : ((((c[i + 1]'hlt).toNat : Nat) : Int) == 47) = false := beq_eq_false_iff_ne.2 (by omega)
            clear h1 HN
            go_big_wp2
            exact ⟨⟨i + 1, by go_num, by omega, HB, HN2⟩, by simp [RowKit.intOf]; omega⟩
          · have b2 : ((((c[i]'hlt0).toNat : Nat) : Int) == 42) = false := beq_eq_false_iff_ne.2 (by omega)
            clear h1 h2
            go_big_wp2
            exact ⟨⟨i + 1, by go_num, by omega, HB, HN2⟩, by simp [RowKit.intOf]; omega⟩
      · have hltI : ¬ (i : Int) + 1 < c.size := by omega
        have HN2 : Hid (NoneYet c c.size) := Lib.hid (fun j hj hjc => HN.out j (by omega) hjc)
        clear HN
        have HT1 := Lib.hid (fun W (hb : Below w.heap.size w W) => tokens7_any (a ++ ⟨#[59]⟩) W (HTb.out.on hb) (by rw [ByteArray.size_append]; have := HSz.out; have : (⟨#[59]⟩ : ByteArray).size = 1 := rfl; omega))
        have HT2 := Lib.hid (fun W (hb : Below w.heap.size w W) => tokens7_any b W (HTb.out.on hb) (by have := HSz.out; omega))
        have HT3 := Lib.hid (fun W (hb : Below w.heap.size w W) => tokens7_any (a ++ ⟨#[59, 120, 59]⟩) W (HTb.out.on hb) (by rw [ByteArray.size_append]; have := HSz.out; have : (⟨#[59, 120, 59]⟩ : ByteArray).size = 3 := rfl; omega))
        have hlx := toks_le (a ++ ⟨#[59]⟩)
        have hly := toks_le b
        rw [ByteArray.size_append, show (⟨#[59]⟩ : ByteArray).size = 1 from rfl] at hlx
        obtain ⟨xs, hxs⟩ : ∃ x, toksC (charsOf (a ++ ⟨#[59]⟩)) = x := ⟨_, rfl⟩
        obtain ⟨ys, hys⟩ : ∃ x, toksC (charsOf b) = x := ⟨_, rfl⟩
        obtain ⟨zs, hzs⟩ : ∃ x, toksC (charsOf (a ++ ⟨#[59, 120, 59]⟩)) = x := ⟨_, rfl⟩
        rw [hxs] at HT1 hlx
        rw [hys] at HT2 hly
        rw [hzs] at HT3
        have HXs := Lib.hid hxs
        have HYs := Lib.hid hys
        have HZs := Lib.hid hzs
        have HLx : Hid (xs.length ≤ 4001 ∧ ys.length ≤ 4000) := Lib.hid (by have := HSz.out; omega)
        have hs1 : (9223372036854775807 < a.size + 1) = False := eq_false (by have := HSz.out; omega)
        have hs3 : (9223372036854775807 < a.size + 3) = False := eq_false (by have := HSz.out; omega)
        clear hxs hys hzs hlx hly
        rcases List.eq_nil_or_concat xs with hxn | ⟨xs0, t, hxc⟩
        · subst hxn
          clear HT3
          go_big_wp2_with (first
            | (go_at_call 5; refine (HT1.out _ HB.out).mono ?_; clear HT1; rintro e w1 ⟨ax, capx, rfl, hown, hb⟩; have HB1 := Lib.hid (HB.out.trans (hb.mono HB.out.size)); clear hb hown)
            | (go_at_call 5; refine (HT2.out _ HB1.out).mono ?_; clear HT2; rintro e w2 ⟨ay, capy, rfl, hown, hb⟩; have HB2 := Lib.hid (HB1.out.trans (hb.mono HB1.out.size)); clear hb hown)
            | (go_at_call 4; refine (HW.out _ HB2.out).mono ?_; rintro e w3 ⟨rfl, hb⟩; have HB3 := Lib.hid (HB2.out.trans (hb.mono HB2.out.size)); clear hb))
          go_ret
          exact ⟨rfl, HB3.out⟩
        obtain ⟨m, hm⟩ : ∃ m, xs0.length = m := ⟨_, rfl⟩
        have hxl : xs.length = m + 1 := by rw [hxc]; simp [hm]
        have hxm : xs[m]? = some t := by rw [hxc, ← hm]; simp
        have hla : xs.getLast? = some t := by rw [hxc]; simp
        have hne : xs ≠ [] := by rw [hxc]; simp
        have hm64 : (m : Int) < 100000 := by have := HLx.out; omega
        rw [hxl] at HT1
        have HXl := Lib.hid hxl
        have HXm := Lib.hid hxm
        have HLa := Lib.hid hla
        have HNe := Lib.hid hne
        clear hxl hxm hla hne hxc hm
        go_upto_region 9 with (first
          | (go_at_call 5; refine (HT1.out _ HB.out).mono ?_; clear HT1; rintro e w1 ⟨ax, capx, rfl, hown, hb⟩; have HX := Lib.hid (show OwnT w1 _ (.slice ax xs.length capx) xs by rw [HXl.out]; exact hown); have HB1 := Lib.hid (HB.out.trans (hb.mono HB.out.size)); clear hb hown)
          | (go_at_call 5; refine (HT2.out _ HB1.out).mono ?_; clear HT2; rintro e w2 ⟨ay, capy, rfl, hown, hb⟩; have HX2 := Lib.hid (HX.out.below (hb.mono (Nat.le_refl _))); have HY := Lib.hid hown; have HB2 := Lib.hid (HB1.out.trans (hb.mono HB1.out.size)); clear hb hown))
        go_cut [78] (fun v wd => ∃ g : Bool, v = .bool g ∧ Hid (Below w2.heap.size w2 wd) ∧ Hid (g = false → xs ≠ [] ∧ (∀ t, xs.getLast? = some t → t.kind = 11) ∧ zs.length = xs.length + 2))
        case first =>
          obtain ⟨gx, hg, c0, c1, c2, c3⟩ := HX2.out.see w2 (Below.refl _ _) m t HXm.out
          subst hg
          obtain ⟨kd, vl, un, idb⟩ := t
          simp only at c0 c1
          obtain ⟨L3, hL3⟩ : ∃ n, zs.length = n := ⟨_, rfl⟩
          rw [hL3] at HT3
          have HFin : Hid (kd = 11 → L3 = m + 3 → xs ≠ [] ∧ (∀ t, xs.getLast? = some t → t.kind = 11) ∧ zs.length = xs.length + 2) := Lib.hid (fun e1 e2 => ⟨HNe.out, fun t ht => by rw [HLa.out] at ht; cases ht; exact e1, by rw [hL3, HXl.out]; omega⟩)
          have hm0 : (0 : Int) ≤ m := by omega
          have hm1 : (m : Int) < (m : Int) + 1 := by omega
          have m0 : ((m : Int) + 1 == 0) = false := by rw [beq_eq_false_iff_ne]; omega
          have m1 : ((m : Int) + 1 = 0) = False := eq_false (by omega)
          clear hL3 c2 c3 HX2 HY HX
          by_cases hk : kd = 11
          · subst hk
            obtain ⟨vb, hvb⟩ : ∃ vb : ByteArray, (⟨vl.toArray⟩ : ByteArray) = vb := ⟨_, rfl⟩
            by_cases hv : vl = [59]
            · subst hv
              clear hvb
              by_cases hL : L3 = m + 3
              · have n1 : ((L3 : Int) != (m : Int) + 1 + 2) = false := by rw [bne_eq_false_iff_eq]; omega
                have HL := Lib.hid hL
                clear hL
                go_big_wp2_with (go_at_call 5; refine (HT3.out _ HB2.out).mono ?_; rintro e w3 ⟨az, capz, rfl, hown, hb⟩; have HB3 := Lib.hid hb; clear hb hown)
                go_meet
                exact ⟨false, rfl, HB3, Lib.hid (fun _ => HFin.out (by first | rfl | trivial) HL.out)⟩
              · have n1 : ((L3 : Int) != (m : Int) + 1 + 2) = true := by rw [bne_iff_ne]; omega
                have n2 : ((L3 : Int) = (m : Int) + 1 + 2) = False := eq_false (by omega)
                clear hL
                go_big_wp2_with (go_at_call 5; refine (HT3.out _ HB2.out).mono ?_; rintro e w3 ⟨az, capz, rfl, hown, hb⟩; have HB3 := Lib.hid hb; clear hb hown)
                go_meet
                exact ⟨true, rfl, HB3, Lib.hid (fun h => by cases h)⟩
            · have bv : (vb.toList == [59]) = false := by
                rw [beq_eq_false_iff_ne, ← hvb]
                intro e
                exact hv (by simpa using e)
              rw [hvb] at c1
              clear HT3 hvb hv
              go_big_wp2
              go_meet
              exact ⟨true, rfl, Lib.hid (Below.refl _ _), Lib.hid (fun h => by cases h)⟩
          · have n1 : (((kd : Nat) : Int) != 11) = true := by rw [bne_iff_ne]; omega
            have n2 : (((kd : Nat) : Int) = 11) = False := eq_false (by omega)
            have n3 : (kd = 11) = False := eq_false hk
            clear HT3 hk
            go_big_wp2
            go_meet
            exact ⟨true, rfl, Lib.hid (Below.refl _ _), Lib.hid (fun h => by cases h)⟩
        case rest =>
        clear HX HT3
        obtain ⟨gd, rfl, HBd, HG⟩ := hcut
        have HB3 := Lib.hid (HB2.out.trans (HBd.out.mono HB2.out.size))
        have HX3 := Lib.hid (HX2.out.below HBd.out)
        have HY3 := Lib.hid (HY.out.below HBd.out)
        clear HX2 HY HBd HB2
        cases gd
        · obtain ⟨hne, hlast, hcnt⟩ := HG.out rfl
          have HGo : Hid ((∀ t, xs.getLast? = some t → t.kind = 11) ∧ zs.length = xs.length + 2) := Lib.hid ⟨hlast, hcnt⟩
          obtain ⟨gx, hax⟩ : ∃ g, ax = some ⟨g, 0, none⟩ := by
            rcases HX3.out.2 with ⟨e, e2⟩ | ⟨g, c, cur, e, _⟩
            · simp only [Value.slice.injEq] at e
              exact absurd (List.length_eq_zero_iff.1 e2) hne
            · simp only [Value.slice.injEq] at e
              exact ⟨g, e.1⟩
          subst hax
          clear hne hlast hcnt HG
          obtain ⟨i0, hi, hz0, hz1, hz2⟩ := info_parts Tryd.infoTcT
          go_big_wp2_with (at_builtin; refine wpList_append_own _ rfl _ _ 23 rfl wc.heap.size TTc i0 _ 4 48 Tryd.underlying23 hi hz0 hz1 hz2 rfl (by decide) _ 0 [] rfl (World.ownsRow_nil _ _ _ _) ⟨gx, 0, none⟩ (m + 1) capx (tokCells xs) rfl ?c1 ?c2 ?c3 ?c4 ?c5 ?c6 ?_)
          case c1 => rw [tokCells_len4, HXl.out]
          case c2 => exact HX3.out.cells
          case c3 => exact tokCells_one xs
          case c4 => unfold maxLen; omega
          case c5 => omega
          case c6 => exact Nat.le_refl _
          intro v' W hown' hgrow _
          obtain ⟨a1, cap1, hvs1⟩ := U.slice_of hown'
          subst hvs1
          have HB4 := Lib.hid (HB3.out.grown hgrow HB3.out.size (fun k e => by cases e))
          have HY4 : Hid (OwnT W w1.heap.size (.slice ay ys.length capy) ys) := Lib.hid (World.ownsRow.kept HY3.out hgrow (by rw [show (Value.slice none 0 0).ownBlock = none from rfl]; cases (Value.slice ay ys.length capy).ownBlock <;> simp))
          have HA1 := Lib.hid hown'
          have HSzW := Lib.hid hgrow.size
          have HB3s := Lib.hid HB3.out.size
          clear hown' hgrow HX3 HY3 HB3
          go_upto_region 13 with (fail)
          go_cut [10] (fun v wd => ∃ (a2 : Option Addr) (cap2 : Nat), v = .slice a2 (m + 1 + ys.length) cap2 ∧ Hid (TksSee wd a2 (xs ++ ys)) ∧ Hid (Below w.heap.size w wd))
          case first =>
            rcases HY4.out.2 with ⟨e, e2⟩ | ⟨gy, cy, cur, e, _⟩
            · have HE := Lib.hid e
              have HL0 := Lib.hid e2
              have HF : Hid (TksSee W a1 (xs ++ ys)) := Lib.hid (by
                rw [List.length_eq_zero_iff.1 e2, List.append_nil]
                have h := HA1.out
                rw [← HXl.out] at h
                exact OwnT.see h)
              clear e e2 HY4
              go_big_wp2_with (at_builtin; refine wpList_append_own_none rfl _ _ 23 rfl wc.heap.size TTc i0 4 Tryd.underlying23 hi _ (m + 1) (tokCells xs) rfl HA1.out HE.out ?_)
              go_meet
              exact ⟨a1, cap1, by rw [HL0.out], HF, HB4⟩
            · have hcs := HY4.out
              rw [e] at hcs
              have HCs := Lib.hid (OwnT.cells hcs)
              have HE := Lib.hid e
              clear e hcs
              have hly := HLx.out
              have hlx := HXl.out
              go_big_wp2_with (at_builtin; refine wpList_append_own _ rfl _ _ 23 rfl wc.heap.size TTc i0 _ 4 48 Tryd.underlying23 hi hz0 hz1 hz2 rfl (by decide) _ (m + 1) (tokCells xs) rfl HA1.out ⟨gy, 0, none⟩ ys.length cy (tokCells ys) HE.out ?c1 ?c2 ?c3 ?c4 ?c5 ?c6 ?_)
              case c1 => rw [tokCells_len4]
              case c2 => exact HCs.out
              case c3 => exact tokCells_one ys
              case c4 => unfold maxLen; omega
              case c5 => omega
              case c6 => exact HSzW.out
              intro v' W2 hown2 hgrow2 _
              obtain ⟨a2, cap2, hvs2⟩ := U.slice_of hown2
              subst hvs2
              have HF : Hid (TksSee W2 a2 (xs ++ ys)) := Lib.hid (by
                have hl : m + 1 + ys.length = (xs ++ ys).length := by rw [List.length_append, HXl.out]
                rw [← tokCells_append, hl] at hown2
                exact OwnT.see hown2)
              have HB5 := Lib.hid (HB4.out.grown hgrow2 HB4.out.size (fun k e => Nat.le_trans HB3s.out (World.ownsRow.lt HA1.out k e).1))
              clear hown2 hgrow2 hly hlx
              go_big_wp2
              go_meet
              exact ⟨a2, cap2, rfl, HF, HB5⟩
          case rest =>
          clear HA1 HY4 HB4 HSzW
          obtain ⟨a2, cap2, rfl, HAll, HB5⟩ := hcut
          go_upto_region 15 with (fail)
          go_cut [96] (fun f wd => ∃ g : Bool, f = .bool g ∧ Hid (g = false → NoShut (c ++ ⟨#[]⟩)) ∧ wd = wc)
          case first =>
            by_cases hc0 : c.size = 0
            · have hcI : ¬ (0 : Int) < c.size := by omega
              have HG2 : Hid (NoShut (c ++ ⟨#[]⟩)) := Lib.hid (noShut_plain HN2.out (fun i hi => by omega))
              clear hcI hltI
              go_big_wp2
              go_meet
              exact ⟨false, rfl, Lib.hid (fun _ => HG2.out), by first | rfl | trivial⟩
            · have hcI : (0 : Int) < c.size := by omega
              have hcN : 0 < c.size := by omega
              have hl1 : c.size - 1 < c.size := by omega
              have hlI : (c.size : Int) - 1 < c.size := by omega
              have h0I : (0 : Int) ≤ (c.size : Int) - 1 := by omega
              have hcM : (c.size : Int) < 100000 := by have := HSz.out; omega
              by_cases h42 : (c[c.size - 1]'hl1).toNat = 42
              · clear hc0
                go_big_wp2
                go_meet
                exact ⟨true, rfl, Lib.hid (fun h => by cases h), by first | rfl | trivial⟩
              · have b42 : ((((c[c.size - 1]'hl1).toNat : Nat) : Int) == 42) = false := beq_eq_false_iff_ne.2 (by omega)
                have HG2 : Hid (NoShut (c ++ ⟨#[]⟩)) := Lib.hid (noShut_plain HN2.out (fun i hi => by
                  rw [byteAt_get c i (by omega)]
                  obtain rfl : i = c.size - 1 := by omega
                  exact h42))
                obtain ⟨y, hy⟩ : ∃ y, c[c.size - 1]'hl1 = y := ⟨_, rfl⟩
                rw [hy] at b42
                clear hc0 h42
                go_big_wp2
                go_meet
                exact ⟨false, rfl, Lib.hid (fun _ => HG2.out), by first | rfl | trivial⟩
          case rest =>
          obtain ⟨gd, rfl, HG, hwc⟩ := hcut
          rw [hwc]
          clear hwc hltI
          cases gd
          · have HNo := Lib.hid (HG.out rfl)
            clear HG
            have t0 : (9223372036854775807 < a.size + 3) = False := eq_false (by have := HSz.out; omega)
            have s0 : ((9223372036854775807 : Int) < (a.size : Int) + 3) = False := eq_false (by have := HSz.out; omega)
            have t1 : (9223372036854775807 < a.size + 3 + c.size) = False := eq_false (by have := HSz.out; omega)
            have s1 : ((9223372036854775807 : Int) < (a.size : Int) + 3 + (c.size : Int)) = False := eq_false (by have := HSz.out; omega)
            have t2 : (9223372036854775807 < a.size + 3 + c.size + 2) = False := eq_false (by have := HSz.out; omega)
            have s2 : ((9223372036854775807 : Int) < (a.size : Int) + 3 + (c.size : Int) + 2) = False := eq_false (by have := HSz.out; omega)
            have t3 : (9223372036854775807 < a.size + 3 + c.size + 2 + b.size) = False := eq_false (by have := HSz.out; omega)
            have s3 : ((9223372036854775807 : Int) < (a.size : Int) + 3 + (c.size : Int) + 2 + (b.size : Int)) = False := eq_false (by have := HSz.out; omega)
            have hst := commentTail HNo.out HXs.out HYs.out HZs.out HGo.out
            have hl : (xs ++ ys).length = m + 1 + ys.length := by rw [List.length_append, HXl.out]
            have h32 : m + 1 + ys.length ≤ 4294967296 := by have := HLx.out; have := HXl.out; omega
            have HT5 := Lib.hid (fun W (hb : Below w.heap.size w W) => tokens7_at hst hl W (HTb.out.on hb) (tailSize HSz.out (by decide)))
            have HPl := Lib.hid (fun W hs => plain_at hl h32 a2 cap2 W hs)
            have HSame := Lib.hid (fun W ao bo c1 c2 ha hb => same7_at hl h32 ao bo c1 c2 W ha hb)
            clear hst hl h32
            go_big_wp2_with (first
              | (go_at_call 5; refine (HT5.out _ HB5.out).mono ?_; rintro e w5 ⟨a5, cap5, rfl, hs5, hb⟩; have HS5 := Lib.hid hs5; have HAll2 : Hid (TksSee w5 a2 (xs ++ ys)) := Lib.hid (fun W' hb' => HAll.out W' (hb.trans (hb'.mono hb.size))); replace HB5 := Lib.hid (HB5.out.trans (hb.mono HB5.out.size)); clear hb hs5)
              | (go_at_call 7; refine (HPl.out _ HAll2.out).mono ?_; rintro e w6 ⟨a6, cap6, rfl, hs6, hb⟩; have HS6 := Lib.hid hs6; replace HS5 : Hid (TksSee w6 a5 (xs ++ ys)) := Lib.hid (fun W' hb' => HS5.out W' (hb.trans (hb'.mono hb.size))); replace HB5 := Lib.hid (HB5.out.trans (hb.mono HB5.out.size)); clear hb hs6)
              | (go_at_call 6; refine (HSame.out _ _ _ _ _ HS5.out HS6.out).mono ?_; rintro e w7 ⟨rfl, hb⟩; replace HB5 := Lib.hid (HB5.out.trans (hb.mono HB5.out.size)); clear hb)
              | (go_at_call 4; refine (HW.out _ HB5.out).mono ?_; rintro e w8 ⟨rfl, hb⟩; replace HB5 := Lib.hid (HB5.out.trans (hb.mono HB5.out.size)); clear hb))
            go_ret
            exact ⟨rfl, HB5.out⟩
          · have HNo := Lib.hid (noShut_blank HN2.out)
            clear HG
            have t0 : (9223372036854775807 < a.size + 3) = False := eq_false (by have := HSz.out; omega)
            have s0 : ((9223372036854775807 : Int) < (a.size : Int) + 3) = False := eq_false (by have := HSz.out; omega)
            have t1 : (9223372036854775807 < a.size + 3 + c.size) = False := eq_false (by have := HSz.out; omega)
            have s1 : ((9223372036854775807 : Int) < (a.size : Int) + 3 + (c.size : Int)) = False := eq_false (by have := HSz.out; omega)
            have t2 : (9223372036854775807 < a.size + 3 + c.size + 1) = False := eq_false (by have := HSz.out; omega)
            have s2 : ((9223372036854775807 : Int) < (a.size : Int) + 3 + (c.size : Int) + 1) = False := eq_false (by have := HSz.out; omega)
            have t3 : (9223372036854775807 < a.size + 3 + c.size + 1 + 2) = False := eq_false (by have := HSz.out; omega)
            have s3 : ((9223372036854775807 : Int) < (a.size : Int) + 3 + (c.size : Int) + 1 + 2) = False := eq_false (by have := HSz.out; omega)
            have t4 : (9223372036854775807 < a.size + 3 + c.size + 1 + 2 + b.size) = False := eq_false (by have := HSz.out; omega)
            have s4 : ((9223372036854775807 : Int) < (a.size : Int) + 3 + (c.size : Int) + 1 + 2 + (b.size : Int)) = False := eq_false (by have := HSz.out; omega)
            have hst := commentTail HNo.out HXs.out HYs.out HZs.out HGo.out
            have hl : (xs ++ ys).length = m + 1 + ys.length := by rw [List.length_append, HXl.out]
            have h32 : m + 1 + ys.length ≤ 4294967296 := by have := HLx.out; have := HXl.out; omega
            have HT5 := Lib.hid (fun W (hb : Below w.heap.size w W) => tokens7_at hst hl W (HTb.out.on hb) (tailSize HSz.out (by decide)))
            have HPl := Lib.hid (fun W hs => plain_at hl h32 a2 cap2 W hs)
            have HSame := Lib.hid (fun W ao bo c1 c2 ha hb => same7_at hl h32 ao bo c1 c2 W ha hb)
            clear hst hl h32
            go_big_wp2_with (first
              | (go_at_call 5; refine (HT5.out _ HB5.out).mono ?_; rintro e w5 ⟨a5, cap5, rfl, hs5, hb⟩; have HS5 := Lib.hid hs5; have HAll2 : Hid (TksSee w5 a2 (xs ++ ys)) := Lib.hid (fun W' hb' => HAll.out W' (hb.trans (hb'.mono hb.size))); replace HB5 := Lib.hid (HB5.out.trans (hb.mono HB5.out.size)); clear hb hs5)
              | (go_at_call 7; refine (HPl.out _ HAll2.out).mono ?_; rintro e w6 ⟨a6, cap6, rfl, hs6, hb⟩; have HS6 := Lib.hid hs6; replace HS5 : Hid (TksSee w6 a5 (xs ++ ys)) := Lib.hid (fun W' hb' => HS5.out W' (hb.trans (hb'.mono hb.size))); replace HB5 := Lib.hid (HB5.out.trans (hb.mono HB5.out.size)); clear hb hs6)
              | (go_at_call 6; refine (HSame.out _ _ _ _ _ HS5.out HS6.out).mono ?_; rintro e w7 ⟨rfl, hb⟩; replace HB5 := Lib.hid (HB5.out.trans (hb.mono HB5.out.size)); clear hb)
              | (go_at_call 4; refine (HW.out _ HB5.out).mono ?_; rintro e w8 ⟨rfl, hb⟩; replace HB5 := Lib.hid (HB5.out.trans (hb.mono HB5.out.size)); clear hb))
            go_ret
            exact ⟨rfl, HB5.out⟩
        · clear HG HX3 HY3
          go_big_wp2_with (go_at_call 4; refine (HW.out _ HB3.out).mono ?_; rintro e w3 ⟨rfl, hb⟩; have HB4 := Lib.hid (HB3.out.trans (hb.mono HB3.out.size)); clear hb)
          go_ret
          exact ⟨rfl, HB4.out⟩
end Go.Proofs.YtmhdocgoeahbdaaDoor
