/-
  The document's own characters of a text. Conditions: texts are no longer than 2^30 bytes.
  The document's own reader of package csstok: a text in quotes is taken. Conditions: texts of at most 20000 characters.
  The document's own reader of package csstok: what stands at a place of a number. Conditions: none but on memory.
-/
import Derived.Test.YtmhdocgoeahbdaaGreatDoorPR0
import Derived.Test.YtmhdocgoeahbdaaGreatDoorPR1
import Derived.Deep.DeepCutAuto
namespace Go.CssKit
open Go Go.Lib
theorem charsL_true {l : Chars} (h : at_ l 0 ≠ 10) : charsL true l = charsL false l := by
  cases l with
  | nil => rfl
  | cons c r =>
    rw [at_cons] at h
    rw [charsL, charsL, if_neg (fun e => h e.2)]
    simp
theorem charsL_ten (r : Chars) : charsL true (10 :: r) = charsL false r := by
  rw [charsL, if_pos ⟨rfl, rfl⟩]
end Go.CssKit
namespace Go.Proofs.YtmhdocgoeahbdaaGreatDoor
open Go.RowKit Go.RunKit Go.UtfKit Go.Lib Go.CssKit

set_option maxRecDepth 100000 in
set_option maxHeartbeats 8000000 in
theorem charactersZ_any (s : ByteArray) (w : World) (hsz : s.size ≤ 1073741824) :
    Calls Tryz.prog 21 #[.string s] w fun e w' => ∃ a cap, e = .returned (.slice a (charsOf s).length cap) ∧ OwnC w' w.heap.size (.slice a (charsOf s).length cap) (charsOf s) ∧ Below w.heap.size w w' := by
  obtain ⟨i0, hi, hz0, hz1, hz2⟩ := info_parts U.Tryz.infoInt32
  have HR := Lib.hid (U.refRunes_any s w (by omega))
  have hcl := codes_len s
  obtain ⟨ans, hans⟩ : ∃ x, charsOf s = x := ⟨_, rfl⟩
  have D0 : Hid (([] : Chars) ++ charsL false ((codes s).drop 0) = ans) := Lib.hid (by rw [List.drop_zero]; exact hans)
  rw [hans]
  have HEl := Lib.hid (charCells_codes s)
  obtain ⟨cs, hcs⟩ : ∃ x, codes s = x := ⟨_, rfl⟩
  have hpl : (parts s).length = cs.length := by rw [← hcs]; unfold codes; rw [List.length_map]
  rw [hcs] at D0 hcl HEl
  rw [hpl, HEl.out] at HR
  have HLen := Lib.hid hcl
  clear hans hcs hpl HEl
  go_enter Tryz.func21, Tryz.ntmps21
  go_wp2_with (go_at_call 31; refine HR.out.mono ?_; rintro e w1 ⟨v, rfl, hown, hb⟩; obtain ⟨ao, acap, hsl, hna, hra⟩ := OwnC.slice (l := cs) hown; subst hsl; have HW1 := Lib.hid (And.intro hown (And.intro hb (And.intro hna hra))); clear hown hb hna hra)
  obtain ⟨B, hB⟩ : ∃ n, w1.heap.size = n := ⟨_, rfl⟩
  have HBs := Lib.hid hB
  have N0 : Hid (OwnC w1 B (.slice none 0 0) [] ∧ Below B w1 w1) := Lib.hid ⟨OwnC.nil _ _, by rw [← hB]; exact Below.refl _ _⟩
  clear hB HR
  go_loopw [4, 5] (fun v i wr => ∃ (k : Nat) (a : Option Addr) (n cap : Nat) (out : Chars), v = .slice a n cap ∧ i = .int .i64 ((k : Nat) : Int) ∧ k ≤ cs.length ∧ n = out.length ∧ n ≤ k ∧ Hid (OwnC wr B (.slice a n cap) out ∧ Below B w1 wr) ∧ Hid (out ++ charsL false (cs.drop k) = ans)) (fun _ i _ => cs.length - (RowKit.intOf i).toNat)
  case atStart => exact ⟨0, none, 0, 0, [], rfl, rfl, Nat.zero_le _, rfl, Nat.le_refl _, N0, D0⟩
  case round =>
    clear N0 D0
    obtain ⟨k, a, n, cap, out, rfl, rfl, hk, rfl, hnk, HN, HD⟩ := hrel
    have HBel := Lib.hid (show Below w1.heap.size w1 wr by rw [HBs.out]; exact HN.out.2)
    by_cases hlt : k < cs.length
    · obtain ⟨z, hz⟩ := some_at (l := cs) rfl hlt
      have hd : cs.drop k = z :: cs.drop (k + 1) := by rw [List.drop_eq_getElem_cons hlt]; rw [List.getElem?_eq_getElem hlt] at hz; cases hz; rfl
      have hst := HD.out
      rw [hd, charsL, if_neg (fun e => by cases e.1)] at hst
      cases hao : ao with
      | none => have := HW1.out.2.2.1 hao; rw [this] at hlt; simp at hlt
      | some ad =>
      subst hao
      obtain ⟨g, o, rfl, hra⟩ := HW1.out.2.2.2 ad rfl
      have HRa := Lib.hid hra
      have hcell : wr.cell? ⟨g, o + k, none⟩ = some (.int .i32 z) := by
        rw [HBel.out.cell (World.block_lt_of_cell? _ _ (hra k z hz))]; exact hra k z hz
      have hcz : ∀ c, (wr.alloc (.cells #[c] 21)).cell? ⟨g, o + k, none⟩ = some (.int .i32 z) := fun c => by
        rw [((Below.refl wr.heap.size wr).alloc (Nat.le_refl _) (.cells #[c] 21)).cell (World.block_lt_of_cell? _ _ hcell)]; exact hcell
      have hltI : (k : Int) < cs.length := by omega
      clear hra hz hd
      by_cases h13 : z = 13
      · rw [if_pos h13] at hst
        subst h13
        by_cases h2 : k + 1 < cs.length
        · obtain ⟨y, hy⟩ := some_at (l := cs) rfl h2
          have hd2 : cs.drop (k + 1) = y :: cs.drop (k + 2) := by rw [List.drop_eq_getElem_cons h2]; rw [List.getElem?_eq_getElem h2] at hy; cases hy; rfl
          have h2I : (k : Int) + 1 < cs.length := by omega
          by_cases h10 : y = 10
          · subst h10
            have HS : Hid ((out ++ [10]) ++ charsL false (cs.drop (k + 2)) = ans) := Lib.hid (by rw [List.append_assoc]; rw [hd2, charsL_ten] at hst; exact hst)
            have HY := Lib.hid hy
            clear hst hd2 hy
            have HO := Lib.hid (World.ownsRow.alloc HN.out.1 (.cells #[.int .i32 10] 21))
            clear HD hk
            go_wp2_with (at_builtin; refine wpList_append_own _ rfl _ _ 41 rfl B 21 i0 _ 1 4 U.Tryz.underRunes hi hz0 hz1 hz2 rfl (by decide) _ out.length (intC out) rfl HO.out ⟨wr.heap.size, 0, none⟩ 1 1 [.int .i32 10] rfl ?c1 ?c2 ?c3 ?c4 ?c5 ?c6 ?_)
            case c1 => rfl
            case c2 =>
              intro j u hu
              cases j with
              | zero => simpa [go_sem] using hu
              | succ j => simp at hu
            case c3 => intro u hu; simp at hu; subst hu; rfl
            case c4 => unfold maxLen; omega
            case c5 => omega
            case c6 => have := HN.out.2.size; have := HBs.out; simp; omega
            intro v' W hown' hgrow _
            obtain ⟨a1, cap1, hvs1⟩ := U.slice_of hown'
            subst hvs1
            have HN2 := Lib.hid (charStep HN.out.1 HN.out.2 HBs.out hown' hgrow)
            clear hown' hgrow HO hcz
            have hBW : Below w1.heap.size w1 W := by rw [HBs.out]; exact HN2.out.2
            have hcy : W.cell? ⟨g, o + (k + 1), none⟩ = some (.int .i32 10) := by
              rw [hBW.cell (World.block_lt_of_cell? _ _ (HRa.out (k + 1) _ HY.out))]; exact HRa.out (k + 1) _ HY.out
            have hcy2 : W.cell? ⟨g, o + k + 1, none⟩ = some (.int .i32 10) := hcy
            clear hBW
            go_wp2
            exact ⟨⟨k + 2, a1, _, cap1, out ++ [10], rfl, by go_num, by omega, by simp, by omega, HN2, HS⟩, by simp [RowKit.intOf]; omega⟩
          · have HS : Hid ((out ++ [10]) ++ charsL false (cs.drop (k + 1)) = ans) := Lib.hid (by rw [List.append_assoc]; rw [charsL_true (by rw [hd2, at_cons]; exact h10)] at hst; exact hst)
            have HY := Lib.hid hy
            have b10 : (y == 10) = false := by rw [beq_eq_false_iff_ne]; exact h10
            clear hst hd2 hy
            have HO := Lib.hid (World.ownsRow.alloc HN.out.1 (.cells #[.int .i32 10] 21))
            clear HD hk
            go_wp2_with (at_builtin; refine wpList_append_own _ rfl _ _ 41 rfl B 21 i0 _ 1 4 U.Tryz.underRunes hi hz0 hz1 hz2 rfl (by decide) _ out.length (intC out) rfl HO.out ⟨wr.heap.size, 0, none⟩ 1 1 [.int .i32 10] rfl ?c1 ?c2 ?c3 ?c4 ?c5 ?c6 ?_)
            case c1 => rfl
            case c2 =>
              intro j u hu
              cases j with
              | zero => simpa [go_sem] using hu
              | succ j => simp at hu
            case c3 => intro u hu; simp at hu; subst hu; rfl
            case c4 => unfold maxLen; omega
            case c5 => omega
            case c6 => have := HN.out.2.size; have := HBs.out; simp; omega
            intro v' W hown' hgrow _
            obtain ⟨a1, cap1, hvs1⟩ := U.slice_of hown'
            subst hvs1
            have HN2 := Lib.hid (charStep HN.out.1 HN.out.2 HBs.out hown' hgrow)
            clear hown' hgrow HO hcz
            have hBW : Below w1.heap.size w1 W := by rw [HBs.out]; exact HN2.out.2
            have hcy : W.cell? ⟨g, o + (k + 1), none⟩ = some (.int .i32 y) := by
              rw [hBW.cell (World.block_lt_of_cell? _ _ (HRa.out (k + 1) _ HY.out))]; exact HRa.out (k + 1) _ HY.out
            have hcy2 : W.cell? ⟨g, o + k + 1, none⟩ = some (.int .i32 y) := hcy
            clear hBW
            go_wp2
            exact ⟨⟨k + 1, a1, _, cap1, out ++ [10], rfl, by go_num, by omega, by simp, by omega, HN2, HS⟩, by simp [RowKit.intOf]; omega⟩
        · have HS : Hid ((out ++ [10]) ++ charsL false (cs.drop (k + 1)) = ans) := Lib.hid (by rw [List.append_assoc]; rw [List.drop_eq_nil_of_le (by omega)] at hst ⊢; exact hst)
          have h2I : (cs.length : Int) ≤ (k : Int) + 1 := by omega
          clear hst
          have HO := Lib.hid (World.ownsRow.alloc HN.out.1 (.cells #[.int .i32 10] 21))
          clear HD hk
          go_wp2_with (at_builtin; refine wpList_append_own _ rfl _ _ 41 rfl B 21 i0 _ 1 4 U.Tryz.underRunes hi hz0 hz1 hz2 rfl (by decide) _ out.length (intC out) rfl HO.out ⟨wr.heap.size, 0, none⟩ 1 1 [.int .i32 10] rfl ?c1 ?c2 ?c3 ?c4 ?c5 ?c6 ?_)
          case c1 => rfl
          case c2 =>
            intro j u hu
            cases j with
            | zero => simpa [go_sem] using hu
            | succ j => simp at hu
          case c3 => intro u hu; simp at hu; subst hu; rfl
          case c4 => unfold maxLen; omega
          case c5 => omega
          case c6 => have := HN.out.2.size; have := HBs.out; simp; omega
          intro v' W hown' hgrow _
          obtain ⟨a1, cap1, hvs1⟩ := U.slice_of hown'
          subst hvs1
          have HN2 := Lib.hid (charStep HN.out.1 HN.out.2 HBs.out hown' hgrow)
          clear hown' hgrow HO hcz
          go_wp2
          exact ⟨⟨k + 1, a1, _, cap1, out ++ [10], rfl, by go_num, by omega, by simp, by omega, HN2, HS⟩, by simp [RowKit.intOf]; omega⟩
      rw [if_neg h13] at hst
      have b13 : (z == 13) = false := by rw [beq_eq_false_iff_ne]; exact h13
      by_cases h12 : z = 12
      · rw [if_pos h12] at hst
        have HS : Hid ((out ++ [10]) ++ charsL false (cs.drop (k + 1)) = ans) := Lib.hid (by rw [List.append_assoc]; exact hst)
        subst h12
        clear hst
        have HO := Lib.hid (World.ownsRow.alloc HN.out.1 (.cells #[.int .i32 10] 21))
        clear HD hk
        go_wp2_with (at_builtin; refine wpList_append_own _ rfl _ _ 41 rfl B 21 i0 _ 1 4 U.Tryz.underRunes hi hz0 hz1 hz2 rfl (by decide) _ out.length (intC out) rfl HO.out ⟨wr.heap.size, 0, none⟩ 1 1 [.int .i32 10] rfl ?c1 ?c2 ?c3 ?c4 ?c5 ?c6 ?_)
        case c1 => rfl
        case c2 =>
          intro j u hu
          cases j with
          | zero => simpa [go_sem] using hu
          | succ j => simp at hu
        case c3 => intro u hu; simp at hu; subst hu; rfl
        case c4 => unfold maxLen; omega
        case c5 => omega
        case c6 => have := HN.out.2.size; have := HBs.out; simp; omega
        intro v' W hown' hgrow _
        obtain ⟨a1, cap1, hvs1⟩ := U.slice_of hown'
        subst hvs1
        have HN2 := Lib.hid (charStep HN.out.1 HN.out.2 HBs.out hown' hgrow)
        clear hown' hgrow HO hcz
        go_wp2
        exact ⟨⟨k + 1, a1, _, cap1, out ++ [10], rfl, by go_num, by omega, by simp, by omega, HN2, HS⟩, by simp [RowKit.intOf]; omega⟩
      rw [if_neg h12] at hst
      have b12 : (z == 12) = false := by rw [beq_eq_false_iff_ne]; exact h12
      by_cases h0 : z = 0
      · rw [if_pos h0] at hst
        have HS : Hid ((out ++ [65533]) ++ charsL false (cs.drop (k + 1)) = ans) := Lib.hid (by rw [List.append_assoc]; exact hst)
        subst h0
        clear hst
        have HO := Lib.hid (World.ownsRow.alloc HN.out.1 (.cells #[.int .i32 65533] 21))
        clear HD hk
        go_wp2_with (at_builtin; refine wpList_append_own _ rfl _ _ 41 rfl B 21 i0 _ 1 4 U.Tryz.underRunes hi hz0 hz1 hz2 rfl (by decide) _ out.length (intC out) rfl HO.out ⟨wr.heap.size, 0, none⟩ 1 1 [.int .i32 65533] rfl ?c1 ?c2 ?c3 ?c4 ?c5 ?c6 ?_)
        case c1 => rfl
        case c2 =>
          intro j u hu
          cases j with
          | zero => simpa [go_sem] using hu
          | succ j => simp at hu
        case c3 => intro u hu; simp at hu; subst hu; rfl
        case c4 => unfold maxLen; omega
        case c5 => omega
        case c6 => have := HN.out.2.size; have := HBs.out; simp; omega
        intro v' W hown' hgrow _
        obtain ⟨a1, cap1, hvs1⟩ := U.slice_of hown'
        subst hvs1
        have HN2 := Lib.hid (charStep HN.out.1 HN.out.2 HBs.out hown' hgrow)
        clear hown' hgrow HO hcz
        go_wp2
        exact ⟨⟨k + 1, a1, _, cap1, out ++ [65533], rfl, by go_num, by omega, by simp, by omega, HN2, HS⟩, by simp [RowKit.intOf]; omega⟩
      rw [if_neg h0] at hst
      have b0 : (z == 0) = false := by rw [beq_eq_false_iff_ne]; exact h0
      have HS : Hid ((out ++ [z]) ++ charsL false (cs.drop (k + 1)) = ans) := Lib.hid (by rw [List.append_assoc]; exact hst)
      clear hst
      have HO := Lib.hid (World.ownsRow.alloc HN.out.1 (.cells #[.int .i32 z] 21))
      clear HD hk
      go_wp2_with (at_builtin; refine wpList_append_own _ rfl _ _ 41 rfl B 21 i0 _ 1 4 U.Tryz.underRunes hi hz0 hz1 hz2 rfl (by decide) _ out.length (intC out) rfl HO.out ⟨wr.heap.size, 0, none⟩ 1 1 [.int .i32 z] rfl ?c1 ?c2 ?c3 ?c4 ?c5 ?c6 ?_)
      case c1 => rfl
      case c2 =>
        intro j u hu
        cases j with
        | zero => simpa [go_sem] using hu
        | succ j => simp at hu
      case c3 => intro u hu; simp at hu; subst hu; rfl
      case c4 => unfold maxLen; omega
      case c5 => omega
      case c6 => have := HN.out.2.size; have := HBs.out; simp; omega
      intro v' W hown' hgrow _
      obtain ⟨a1, cap1, hvs1⟩ := U.slice_of hown'
      subst hvs1
      have HN2 := Lib.hid (charStep HN.out.1 HN.out.2 HBs.out hown' hgrow)
      clear hown' hgrow HO hcz
      go_wp2
      exact ⟨⟨k + 1, a1, _, cap1, out ++ [z], rfl, by go_num, by omega, by simp, by omega, HN2, HS⟩, by simp [RowKit.intOf]; omega⟩
    · have hkl : k = cs.length := by omega
      subst hkl
      have hst := HD.out
      rw [List.drop_length, charsL, List.append_nil] at hst
      subst hst
      go_wp2
      go_ret
      exact ⟨a, cap, rfl, ⟨HN.out.1.1, by
        rcases HN.out.1.2 with h | ⟨g, c, cur, e1, e2, e3⟩
        · exact .inl h
        · exact .inr ⟨g, c, cur, e1, by have := HW1.out.2.1.size; have := HBs.out; omega, e3⟩⟩, HW1.out.2.1.trans (HBel.out.mono HW1.out.2.1.size)⟩
end Go.Proofs.YtmhdocgoeahbdaaGreatDoor
namespace Go.CssKit
open Go Go.Lib
theorem textF_rng (q : Int) : ∀ (f : Nat) (l : Chars), (∀ z, z ∈ l → 0 ≤ z ∧ z ≤ 1114111) → ∀ z, z ∈ (textF q f l).1 → 0 ≤ z ∧ z ≤ 1114111
  | 0, _, _, z, hz => by cases hz
  | f + 1, [], _, z, hz => by cases hz
  | f + 1, c :: r, h, z, hz => by
    have hr : ∀ z, z ∈ r → 0 ≤ z ∧ z ≤ 1114111 := fun z hz => h z (by simp [hz])
    have he := escL_rng r hr
    unfold textF at hz
    split at hz
    · cases hz
    · split at hz
      · rcases List.mem_cons.1 hz with rfl | hz
        · exact h _ (by simp)
        · exact textF_rng q f _ hr z hz
      · split at hz
        · cases hz
        · split at hz
          · exact textF_rng q f _ (fun z hz => hr z (List.mem_of_mem_drop hz)) z hz
          · rcases List.mem_cons.1 hz with rfl | hz
            · exact ⟨he.1, he.2.1⟩
            · exact textF_rng q f _ he.2.2 z hz
end Go.CssKit
namespace Go.Proofs.YtmhdocgoeahbdaaGreatDoor
open Go.RowKit Go.RunKit Go.UtfKit Go.Lib Go.CssKit

theorem Tryz.infoTrt : (Tryz.prog.info? TRt).map (·.size) = some 4 := by kernel_rfl
theorem tok_readZ {f : Func} (hres : f.results = #[.cell 2 TRt]) {Q : Ending → World → Prop} {W : World} {g0 : Nat} {a0 a1 a2 a3 : Value} {tmps : Array Value}
    (h2 : tmps.getD 2 undef = .pointer (some ⟨g0, 0, none⟩)) (hb : W.heap[g0]? = some (.cells #[a0, a1, a2, a3] TRt (0, 0))) (hq : Q (.returned (.agg #[a0, a1, a2, a3])) W) :
    bodyPost Tryz.prog f Q .ret ⟨tmps, []⟩ W :=
  bodyPost_ret (results_cell_row hres _ _ g0 TRt _ _ _ h2 hb Tryz.underlying40 rfl Tryz.infoTrt) rfl hq
theorem box4f {W : World} {g : Nat} {a0 a1 a2 a3 : Value} {T : TypeId} (h : W.heap[g]? = some (.cells #[a0, a1, a2, a3] T (0, 0))) :
    (W.cell? ⟨g, 0, none⟩ = some a0 ∧ W.cell? ⟨g, 1, none⟩ = some a1 ∧ W.cell? ⟨g, 2, none⟩ = some a2 ∧ W.cell? ⟨g, 3, none⟩ = some a3) ∧ ∀ i, W.frozen? ⟨g, i, none⟩ = false :=
  ⟨box4 h, fun i => frozen_of_row W g i _ _ h⟩
/-- The world with a token's four cells written. -/
def tokSet (W : World) (g : Nat) (t : CT) : World := (((W.setCell ⟨g, 0, none⟩ (.int .u8 ((t.kind : Nat) : Int))).setCell ⟨g, 1, none⟩ (.string ⟨t.value.toArray⟩)).setCell ⟨g, 2, none⟩ (.string ⟨t.unit.toArray⟩)).setCell ⟨g, 3, none⟩ (.bool t.id)
theorem MZ.tok {w W : World} {b g j tb : Nat} {l0 : Chars} (h : MZ w b g l0 j W) (htb : w.heap.size ≤ tb) (hb : b < w.heap.size) (hgl : l0 ≠ [] → g < w.heap.size) (t : CT) : MZ w b g l0 j (tokSet W tb t) := by
  have hr : ∀ k, some tb = some k → w.heap.size ≤ k := fun k e => by cases e; exact htb
  unfold tokSet
  exact (((h.row (grown_cell _ _ _ _) hr hb hgl).row (grown_cell _ _ _ _) hr hb hgl).row (grown_cell _ _ _ _) hr hb hgl).row (grown_cell _ _ _ _) hr hb hgl
def zTok : Array Value := #[.int .u8 0, .string ⟨#[]⟩, .string ⟨#[]⟩, .bool false]

set_option maxRecDepth 100000 in
set_option maxHeartbeats 8000000 in
theorem takeTextZ_any (b g k : Nat) (l0 : Chars) (w : World) (h : RZ w b g l0 k) (h20 : l0.length ≤ 20000) (hq : at_ (l0.drop k) 0 = 34 ∨ at_ (l0.drop k) 0 = 39) :
    Calls Tryz.prog 47 #[.pointer (some ⟨b, 0, none⟩)] w fun e w' => e = .returned (ctV (quoteT (l0.drop k)).1) ∧ ∃ j, k < j ∧ l0.drop j = (quoteT (l0.drop k)).2 ∧ MZ w b g l0 j w' := by
  obtain ⟨i0, hi, hz0, hz1, hz2⟩ := info_parts U.Tryz.infoInt32
  have hkl := lt_of_at (l0 := l0) (k := k) (n := 0) (by rcases hq with e | e <;> rw [e] <;> decide)
  have hB0 : Below w.heap.size w (w.alloc (.cells #[.int .u8 0, .string ⟨#[]⟩, .string ⟨#[]⟩, .bool false] TRt)) := (Below.refl _ _).alloc (Nat.le_refl _) _
  have HS0 := Lib.hid (see_all (h.below hB0) 0 (by omega) _ (Below.refl _ _))
  have HR0 := Lib.hid (h.below hB0)
  have HB0 := Lib.hid hB0
  have HZ0 := Lib.hid (heap_alloc_new w (.cells #[.int .u8 0, .string ⟨#[]⟩, .string ⟨#[]⟩, .bool false] TRt))
  have HLt := Lib.hid h.lt
  have HGlt := Lib.hid (show l0 ≠ [] → g < w.heap.size from h.glt)
  have hlen := h.len
  have hk64 : (k : Int) < 1099511627776 := by omega
  obtain ⟨q, hqe⟩ : ∃ q, at_ (l0.drop k) 0 = q := ⟨_, rfl⟩
  obtain ⟨an, ar, han⟩ : ∃ c r, textL q (l0.drop (k + 1)) = (c, r) := ⟨_, _, rfl⟩
  have HQ7 : Hid (at_ ar 0 = 10 → quoteT (l0.drop k) = (⟨7, bytesC an, [], false⟩, ar)) := Lib.hid (fun e => by unfold quoteT; rw [hqe, List.drop_drop, han]; exact if_pos e)
  have HQ6 : Hid (at_ ar 0 ≠ 10 → quoteT (l0.drop k) = (⟨6, bytesC an, [], false⟩, ar.drop 1)) := Lib.hid (fun e => by unfold quoteT; rw [hqe, List.drop_drop, han]; exact if_neg e)
  have HRg := Lib.hid (show ∀ z, z ∈ an → 0 ≤ z ∧ z ≤ 1114111 from fun z hz => textF_rng q (l0.drop (k + 1)).length (l0.drop (k + 1)) (fun y hy => by have := h.ok y (List.mem_of_mem_drop hy); unfold okC at this; omega) z (by rw [show textF q (l0.drop (k + 1)).length (l0.drop (k + 1)) = textL q (l0.drop (k + 1)) from rfl, han]; exact hz))
  have D0 : Hid ([] ++ (textL q (l0.drop (k + 1))).1 = an ∧ (textL q (l0.drop (k + 1))).2 = ar) := Lib.hid (by rw [han]; exact ⟨rfl, rfl⟩)
  rw [hqe] at hq HS0
  have HKl := Lib.hid hkl
  obtain ⟨QT, hQT⟩ : ∃ x, quoteT (l0.drop k) = x := ⟨_, rfl⟩
  rw [hQT] at HQ7 HQ6 ⊢
  clear h hB0 hqe han hQT
  go_enter Tryz.func47, Tryz.ntmps47
  go_wp2_with (go_at_call 23; refine HS0.out.mono ?_; clear HS0; rintro e w1 ⟨rfl, hb⟩; obtain ⟨_, _, _, c1, f1, _⟩ := (HR0.out.below hb).parts; have HB1 := Lib.hid hb; clear hb)
  have HM0 : Hid (MZ w b g l0 (k + 1) (w1.setCell ⟨b, 1, none⟩ (.int .i64 ((k : Int) + 1)))) := Lib.hid (by
    have h1 : MZ w b g l0 k w1 := ⟨qg_below (HB0.out.trans (HB1.out.mono HB0.out.size)) _, HR0.out.below HB1.out⟩
    exact h1.trans (h1.rest.move (by have := HKl.out; omega) (by omega)))
  have HT0 : Hid ((w1.setCell ⟨b, 1, none⟩ (.int .i64 ((k : Int) + 1))).heap[w.heap.size]? = some (.cells #[.int .u8 0, .string ⟨#[]⟩, .string ⟨#[]⟩, .bool false] TRt (0, 0))) := Lib.hid (by
    rw [Below.heap_setCell _ _ _ _ (by have := HLt.out; simp; omega)]
    exact (HB1.out.block _ (by simp)).trans HZ0.out)
  clear HZ0 HB0 HR0 HB1 c1 f1
  generalize w1.setCell ⟨b, 1, none⟩ (.int .i64 ((k : Int) + 1)) = W0 at *
  obtain ⟨tb, htb⟩ : ∃ x, w.heap.size = x := ⟨_, rfl⟩
  have HTbE := Lib.hid htb
  rw [htb] at HT0 ⊢
  have HTb : Hid (∀ (i : Nat) (W : World), MZ W0 b g l0 i W → W.heap[tb]? = some (.cells #[.int .u8 0, .string ⟨#[]⟩, .string ⟨#[]⟩, .bool false] TRt (0, 0))) := Lib.hid (fun i W hm =>
    (hm.grown.block tb (Array.getElem?_eq_some_iff.1 HT0.out).1 (fun e => by have := HLt.out; have := HTbE.out; cases e; omega)).trans HT0.out)
  have N0 := Lib.hid (NameZ.start HM0.out.rest)
  have HFin : Hid (∀ (i : Nat) (W : World) (t : CT), MZ W0 b g l0 i W → MZ w b g l0 i (tokSet W tb t)) := Lib.hid (fun i W t hm => (HM0.out.trans hm).tok (by have := HTbE.out; omega) HLt.out HGlt.out t)
  clear htb HT0
  go_loopw [4] (fun v wr => ∃ (a : Option Addr) (n cap j : Nat) (out : Chars), v = .slice a n cap ∧ Hid (NameZ W0 b g l0 a n cap out j wr) ∧ Hid (out ++ (textL q (l0.drop j)).1 = an ∧ (textL q (l0.drop j)).2 = ar) ∧ n + k < j) (fun _ wr => l0.length - posN b wr)
  case atStart => exact ⟨none, 0, 0, k + 1, [], rfl, N0, D0, by omega⟩
  case round =>
    clear N0 D0 HM0
    obtain ⟨a, n, cap, j, out, rfl, HN, HD, hlenj⟩ := hrel
    have hle := HN.out.moved.rest.le
    have HPo := Lib.hid HN.out.moved.rest.posN
    have H0 := Lib.hid (fun W (hr : Below wr.heap.size wr W) => see_all HN.out.moved.rest 0 (by omega) W hr)
    have H1 := Lib.hid (fun W (hr : Below wr.heap.size wr W) => see_all HN.out.moved.rest 1 (by omega) W hr)
    have HB := Lib.hid (Below.refl wr.heap.size wr)
    have HMr := Lib.hid (MZ.refl HN.out.moved.rest)
    have hd := HD.out
    have hnn := HN.out.len
    subst hnn
    have HRow := Lib.hid HN.out.row
    have HSt := Lib.hid (fun W (hrg : ∀ z, z ∈ out → 0 ≤ z ∧ z ≤ 1114111) (hr : U.Reads W a out) => U.refString_any a cap out W (fun z hz => by have := hrg z hz; omega) hr (by omega))
    have HRd := Lib.hid (fun W (hb : Below wr.heap.size wr W) => (readsC HRow.out).on hb)
    cases hl1 : l0.drop j with
    | nil =>
      rw [hl1, textL_nil, List.append_nil] at hd
      obtain ⟨hd1, hd2⟩ := hd
      subst hd1; subst hd2
      have HQt := Lib.hid (HQ6.out (by decide))
      rw [hl1, at_nil] at H0
      have HX := Lib.hid hl1
      have HSt := Lib.hid (fun W hb => HSt.out W HRg.out (HRd.out W hb))
      clear H1 hl1 HQ6 HQ7 HRd
      go_wp2_with (first
        | (go_at_call_of 23 (Value.int .i64 0); refine (H0.out _ HB.out).mono ?_; clear HB; rintro e w1 ⟨rfl, hb⟩; have HB := Lib.hid hb; have HMb := Lib.hid (HN.out.moved.on hb); clear hb)
        | (go_at_call 54; refine (HSt.out _ HB.out).mono ?_; rintro e w3 ⟨rfl, hb⟩; have HF := Lib.hid (HMb.out.on hb); have hbk := HTb.out _ _ HF.out; obtain ⟨⟨z0, z1, z2, z3⟩, zf⟩ := box4f hbk; have y0 := zf 0; have y1 := zf 1; have y2 := zf 2; have y3 := zf 3; have HBk := Lib.hid hbk; clear hb hbk zf))
      refine tok_readZ rfl rfl (set4 HBk.out) ?_
      have hm := HFin.out _ _ ⟨6, bytesC out, [], false⟩ HF.out
      rw [HQt.out]
      exact ⟨rfl, j, by omega, HX.out, hm⟩
    | cons c r =>
      have hjl : j < l0.length := by have := congrArg List.length hl1; rw [List.length_drop, List.length_cons] at this; omega
      have hr1 : l0.drop (j + 1) = r := by rw [← List.drop_drop, hl1]; rfl
      rw [hl1, textL_step] at hd
      rw [hl1, at_cons] at H0
      have hok := HN.out.moved.rest.char (n := 0) hjl
      rw [hl1, at_cons] at hok
      have hce : (c == -1) = false := by rw [beq_eq_false_iff_ne]; unfold okC at hok; omega
      have hce2 : (c = -1) = False := eq_false (by unfold okC at hok; omega)
      have hj64 : (j : Int) < 1099511627776 := by omega
      by_cases hc : c = q ∨ c = 10
      · rw [if_pos hc, List.append_nil] at hd
        obtain ⟨hd1, hd2⟩ := hd
        subst hd1; subst hd2
        by_cases h10 : c = 10
        · subst h10
          have HQt := Lib.hid (HQ7.out (by rw [at_cons]))
          have HX := Lib.hid hl1
          have HSt := Lib.hid (fun W hb => HSt.out W HRg.out (HRd.out W hb))
          clear H1 hl1 HQ6 HQ7 HRd hc hok hce hce2 hr1
          go_wp2_with (first
            | (go_at_call_of 23 (Value.int .i64 0); refine (H0.out _ HB.out).mono ?_; clear HB; rintro e w1 ⟨rfl, hb⟩; have HB := Lib.hid hb; have HMb := Lib.hid (HN.out.moved.on hb); clear hb)
            | (go_at_call 54; refine (HSt.out _ HB.out).mono ?_; rintro e w3 ⟨rfl, hb⟩; have HF := Lib.hid (HMb.out.on hb); have hbk := HTb.out _ _ HF.out; obtain ⟨⟨z0, z1, z2, z3⟩, zf⟩ := box4f hbk; have y0 := zf 0; have y1 := zf 1; have y2 := zf 2; have y3 := zf 3; have HBk := Lib.hid hbk; clear hb hbk zf))
          refine tok_readZ rfl rfl (set4 HBk.out) ?_
          have hm := HFin.out _ _ ⟨7, bytesC out, [], false⟩ HF.out
          rw [HQt.out]
          exact ⟨rfl, j, by omega, HX.out, hm⟩
        · have hcq : c = q := by omega
          have HQt := Lib.hid (HQ6.out (by rw [at_cons]; exact h10))
          have b10 : (c == 10) = false := by rw [beq_eq_false_iff_ne]; exact h10
          have bq : (c == q) = true := by rw [hcq]; simp
          have HX := Lib.hid hr1
          have HSt := Lib.hid (fun W (hr : U.Reads W a out) => HSt.out W HRg.out hr)
          clear H1 hl1 HQ6 HQ7 HRd hc hok hr1 hcq h10
          go_wp2_with (first
            | (go_at_call_of 23 (Value.int .i64 0); refine (H0.out _ HB.out).mono ?_; clear HB; rintro e w1 ⟨rfl, hb⟩; have HB := Lib.hid hb; obtain ⟨_, _, _, c1, f1, _⟩ := (HN.out.moved.rest.below hb).parts; clear hb)
            | (go_at_call 54; refine (HSt.out _ (readsC (HRow.out.moved (HMr.out.trans (((HMr.out.on HB.out)).trans ((HMr.out.on HB.out).rest.move (j := j + 1) (i := (j : Int) + 1) (by omega) (by omega)))).grown HN.out.lt))).mono ?_; rintro e w3 ⟨rfl, hb⟩; have HF := Lib.hid ((HN.out.moved.trans ((HMr.out.on HB.out).trans ((HMr.out.on HB.out).rest.move (j := j + 1) (i := (j : Int) + 1) (by omega) (by omega)))).on hb); have hbk := HTb.out _ _ HF.out; obtain ⟨⟨z0, z1, z2, z3⟩, zf⟩ := box4f hbk; have y0 := zf 0; have y1 := zf 1; have y2 := zf 2; have y3 := zf 3; have HBk := Lib.hid hbk; clear hb hbk zf))
          refine tok_readZ rfl rfl (set4 HBk.out) ?_
          have hm := HFin.out _ _ ⟨6, bytesC out, [], false⟩ HF.out
          rw [HQt.out]
          exact ⟨rfl, j + 1, by omega, HX.out, hm⟩
      · rw [if_neg hc] at hd
        have b10 : (c == 10) = false := by rw [beq_eq_false_iff_ne]; exact fun e => hc (.inr e)
        have bq : (c == q) = false := by rw [beq_eq_false_iff_ne]; exact fun e => hc (.inl e)
        by_cases h92 : c = 92
        · rw [if_neg (by simp [h92])] at hd
          subst h92
          have hH1 : at_ (l0.drop j) 1 = at_ r 0 := by rw [← hr1, at_drop, at_drop, Nat.add_zero]
          rw [hH1] at H1
          clear hH1
          by_cases hr0 : r = []
          · rw [if_pos hr0] at hd
            have HS := Lib.hid (show out ++ (textL q (l0.drop (j + 1))).1 = an ∧ (textL q (l0.drop (j + 1))).2 = ar by rw [hr1, hr0, textL_nil]; exact hd)
            rw [hr0, at_nil] at H1
            clear hd hl1 hr1 hok hc HSt HRd HQ6 HQ7 hr0
            go_wp2_with (first
              | (go_at_call_of 23 (Value.int .i64 0); refine (H0.out _ HB.out).mono ?_; clear HB; rintro e w1 ⟨rfl, hb⟩; have HB := Lib.hid hb; clear hb)
              | (go_at_call 23; refine (H1.out _ HB.out).mono ?_; clear HB; rintro e w1 ⟨rfl, hb⟩; have HB := Lib.hid hb; (try clear c1 f1); obtain ⟨_, _, _, c1, f1, _⟩ := (HN.out.moved.rest.below hb).parts; clear hb))
            have HM3 := (HMr.out.on HB.out).trans ((HMr.out.on HB.out).rest.move (j := j + 1) (i := (j : Int) + 1) (by omega) (by omega))
            have HN3 := HN.out.pass HM3
            exact ⟨⟨a, _, cap, j + 1, out, rfl, Lib.hid HN3, HS, by omega⟩, by rw [HM3.rest.posN, HPo.out]; omega⟩
          · rw [if_neg hr0] at hd
            have hj1 : j + 1 < l0.length := by have := List.length_pos_iff.2 hr0; rw [← hr1, List.length_drop] at this; omega
            by_cases h10 : at_ r 0 = 10
            · rw [if_pos h10] at hd
              have HS := Lib.hid (show out ++ (textL q (l0.drop (j + 2))).1 = an ∧ (textL q (l0.drop (j + 2))).2 = ar by rw [show l0.drop (j + 2) = r.drop 1 by rw [← hr1, List.drop_drop]]; exact hd)
              rw [h10] at H1
              clear hd hl1 hr1 hok hc HSt HRd HQ6 HQ7 hr0 h10
              go_wp2_with (first
                | (go_at_call_of 23 (Value.int .i64 0); refine (H0.out _ HB.out).mono ?_; clear HB; rintro e w1 ⟨rfl, hb⟩; have HB := Lib.hid hb; clear hb)
                | (go_at_call 23; refine (H1.out _ HB.out).mono ?_; clear HB; rintro e w1 ⟨rfl, hb⟩; have HB := Lib.hid hb; (try clear c1 f1); obtain ⟨_, _, _, c1, f1, _⟩ := (HN.out.moved.rest.below hb).parts; clear hb))
              have HM3 := (HMr.out.on HB.out).trans ((HMr.out.on HB.out).rest.move (j := j + 2) (i := (j : Int) + 2) (by omega) (by omega))
              have HN3 := HN.out.pass HM3
              exact ⟨⟨a, _, cap, j + 2, out, rfl, Lib.hid HN3, HS, by omega⟩, by rw [HM3.rest.posN, HPo.out]; omega⟩
            · rw [if_neg h10] at hd
              have hok2 := HN.out.moved.rest.char (n := 1) hj1
              rw [show at_ (l0.drop j) 1 = at_ r 0 by rw [← hr1, at_drop, at_drop, Nat.add_zero]] at hok2
              have ye : (at_ r 0 == -1) = false := by rw [beq_eq_false_iff_ne]; unfold okC at hok2; omega
              have y10 : (at_ r 0 == 10) = false := by rw [beq_eq_false_iff_ne]; exact h10
              have HE := Lib.hid (fun W (hb : Below wr.heap.size wr W) => takeEscZ_any b g j l0 W (HN.out.moved.rest.below hb) hjl)
              rw [hr1] at HE
              obtain ⟨z, l2, hzl⟩ : ∃ z r2, escL r = (z, r2) := ⟨_, _, rfl⟩
              rw [hzl] at HE hd
              have HS := Lib.hid (show (out ++ [z]) ++ (textL q l2).1 = an ∧ (textL q l2).2 = ar by rw [List.append_assoc]; exact hd)
              simp only at HE
              generalize at_ r 0 = y at *
              clear hd hl1 hr1 hok hok2 hc HSt HRd HQ6 HQ7 hr0 h10 hzl
              go_wp2_with (first
                | (go_at_call_of 23 (Value.int .i64 0); refine (H0.out _ HB.out).mono ?_; clear HB; rintro e w1 ⟨rfl, hb⟩; have HB := Lib.hid hb; clear hb)
                | (go_at_call 23; refine (H1.out _ HB.out).mono ?_; clear HB; rintro e w1 ⟨rfl, hb⟩; have HB := Lib.hid hb; clear hb)
                | (go_at_call 80; refine (HE.out _ HB.out).mono ?_; rintro e w1 ⟨rfl, j2, hjj, hl2, hm⟩; have HL2 := Lib.hid hl2; have HM := Lib.hid ((HMr.out.on HB.out).trans hm); have HO := Lib.hid (World.ownsRow.alloc (HN.out.row.moved HM.out.grown HN.out.lt) (.cells #[.int .i32 z] 21)); clear hm hl2)
                | (at_builtin; refine wpList_append_own _ rfl _ _ 41 rfl W0.heap.size 21 i0 _ 1 4 U.Tryz.underRunes hi hz0 hz1 hz2 rfl (by decide) _ out.length (intC out) rfl HO.out ⟨_, 0, none⟩ 1 1 [.int .i32 z] rfl ?c1 ?c2 ?c3 ?c4 ?c5 ?c6 ?_))
              case c1 => rfl
              case c2 =>
                intro j u hu
                cases j with
                | zero => simpa [go_sem] using hu
                | succ j => simp at hu
              case c3 => intro u hu; simp at hu; subst hu; rfl
              case c4 => unfold maxLen; omega
              case c5 => omega
              case c6 => have := HN.out.moved.grown.size; have := HM.out.grown.size; simp; omega
              intro v' W hown' hgrow _
              obtain ⟨a1, cap1, hvs1⟩ := U.slice_of hown'
              subst hvs1
              have HN2 := Lib.hid (NameZ.wrote HN.out HM.out hown' rfl hgrow)
              clear hown' hgrow HO
              go_wp2
              have hle2 := HN2.out.moved.rest.le
              rw [← HL2.out] at HS
              exact ⟨⟨a1, _, cap1, j2, out ++ [z], rfl, HN2, HS, by omega⟩, by rw [HN2.out.moved.rest.posN, HPo.out]; omega⟩
        · rw [if_pos h92] at hd
          have b92 : (c == 92) = false := by rw [beq_eq_false_iff_ne]; exact h92
          have n92 : (c != 92) = true := by rw [bne_iff_ne]; exact h92
          have HS := Lib.hid (show (out ++ [c]) ++ (textL q (l0.drop (j + 1))).1 = an ∧ (textL q (l0.drop (j + 1))).2 = ar by rw [hr1, List.append_assoc]; exact hd)
          clear hd hl1 hr1 hok hc h92 H1 HSt HRd HQ6 HQ7
          go_wp2_with (first
            | (go_at_call_of 23 (Value.int .i64 0); refine (H0.out _ HB.out).mono ?_; clear HB; rintro e w1 ⟨rfl, hb⟩; have HB := Lib.hid hb; have HM := Lib.hid (HMr.out.on hb); have HO := Lib.hid (World.ownsRow.alloc (HN.out.row.moved HM.out.grown HN.out.lt) (.cells #[.int .i32 c] 21)); clear hb)
            | (at_builtin; refine wpList_append_own _ rfl _ _ 41 rfl W0.heap.size 21 i0 _ 1 4 U.Tryz.underRunes hi hz0 hz1 hz2 rfl (by decide) _ out.length (intC out) rfl HO.out ⟨_, 0, none⟩ 1 1 [.int .i32 c] rfl ?c1 ?c2 ?c3 ?c4 ?c5 ?c6 ?_))
          case c1 => rfl
          case c2 =>
            intro j u hu
            cases j with
            | zero => simpa [go_sem] using hu
            | succ j => simp at hu
          case c3 => intro u hu; simp at hu; subst hu; rfl
          case c4 => unfold maxLen; omega
          case c5 => omega
          case c6 => have := HN.out.moved.grown.size; have := HM.out.grown.size; simp; omega
          intro v' W hown' hgrow _
          obtain ⟨a1, cap1, hvs1⟩ := U.slice_of hown'
          subst hvs1
          have HN2 := Lib.hid (NameZ.wrote HN.out HM.out hown' rfl hgrow)
          obtain ⟨_, _, _, c1, f1, _⟩ := HN2.out.moved.rest.parts
          clear hown' hgrow HO H0
          go_wp2
          have HM3 := (MZ.refl HN2.out.moved.rest).trans (HN2.out.moved.rest.move (j := j + 1) (i := (j : Int) + 1) (by omega) (by omega))
          have HN3 := HN2.out.pass HM3
          exact ⟨⟨a1, _, cap1, j + 1, out ++ [c], rfl, Lib.hid HN3, HS, by omega⟩, by rw [HM3.rest.posN, HPo.out]; omega⟩
end Go.Proofs.YtmhdocgoeahbdaaGreatDoor
namespace Go.Proofs.YtmhdocgoeahbdaaGreatDoor
open Go.RowKit Go.RunKit Go.UtfKit Go.Lib Go.CssKit

theorem digs_at {b g k n : Nat} {l0 : Chars} {w : World} (h : RZ w b g l0 (k + n)) :
    Calls Tryz.prog 83 #[.pointer (some ⟨b, 0, none⟩)] w fun e w' => e = .returned (.tuple #[]) ∧ MZ w b g l0 (k + digsN (l0.drop k) n) w' :=
  (digitsZ_any b g (k + n) l0 w h).mono fun _ _ hh => ⟨hh.1, by unfold digsN; rw [List.drop_drop, ← Nat.add_assoc]; exact hh.2⟩
theorem see_at {b g k n : Nat} {l0 : Chars} {w : World} (h : RZ w b g l0 (k + n)) (m : Nat) (hm : m ≤ 1000) (w1 : World) (hb : Below w.heap.size w w1) :
    Calls Tryz.prog 23 #[.pointer (some ⟨b, 0, none⟩), .int .i64 ((m : Nat) : Int)] w1 fun e w' => e = .returned (.int .i32 (at_ (l0.drop k) (n + m))) ∧ Below w.heap.size w w' :=
  (see_all h m (by omega) w1 hb).mono fun _ _ hh => ⟨by rw [at_drop, ← Nat.add_assoc, ← at_drop]; exact hh.1, hh.2⟩

set_option maxRecDepth 100000 in
set_option maxHeartbeats 8000000 in
theorem takeNumZ_any (b g k : Nat) (l0 : Chars) (w : World) (h : RZ w b g l0 k) (h20 : l0.length ≤ 20000) (hnum : numAt (l0.drop k) = true) :
    Calls Tryz.prog 53 #[.pointer (some ⟨b, 0, none⟩)] w fun e w' => e = .returned (.string ⟨(bytesC ((l0.drop k).take (numN (l0.drop k)))).toArray⟩) ∧ MZ w b g l0 (k + numN (l0.drop k)) w' := by
  obtain ⟨_, _, _, c1, _⟩ := h.parts
  have hle := h.le
  have M0 := Lib.hid (MZ.refl (k := k + 0) h)
  have HLen := Lib.hid (show (l0.drop k).length + k ≤ 20000 by rw [List.length_drop]; omega)
  obtain ⟨n1, hn1⟩ : ∃ x, signN (l0.drop k) 0 = x := ⟨_, rfl⟩
  have hs1 := sign_le (l0.drop k) 0 (Nat.zero_le _)
  rw [hn1] at hs1
  have HN1 := Lib.hid hn1
  have HL := Lib.hid hle
  have HNum := Lib.hid hnum
  obtain ⟨n4, hn4⟩ : ∃ x, numN (l0.drop k) = x := ⟨_, rfl⟩
  have h4 := num_le (l0.drop k)
  rw [hn4] at h4 ⊢
  have HN4 := Lib.hid hn4
  clear h hn1 hnum hn4
  go_enter Tryz.func53, Tryz.ntmps53
  go_upto_region 2 with (fail)
  clear c1
  go_cut [3, 16] (fun v c wd => v = .int .i64 ((k : Nat) : Int) ∧ c = .bool (decide (at_ (l0.drop k) 0 = 43 ∨ at_ (l0.drop k) 0 = 45)) ∧ Hid (MZ w b g l0 (k + 0) wd))
  case first =>
    have H0 := Lib.hid (see_at M0.out.rest 0 (by omega))
    rw [Nat.add_zero] at H0
    have HB := Lib.hid (Below.refl w.heap.size w)
    generalize at_ (l0.drop k) 0 = x at *
    by_cases h1 : x = 43
    · subst h1
      go_wp2_with (go_at_call 23; refine (H0.out _ HB.out).mono ?_; clear HB; rintro e w1 ⟨rfl, hb⟩; have HB := Lib.hid hb; clear hb)
      go_meet
      exact ⟨rfl, rfl, Lib.hid (M0.out.on HB.out)⟩
    · have b1 : (x == 43) = false := by rw [beq_eq_false_iff_ne]; exact h1
      by_cases h2 : x = 45
      · subst h2
        go_wp2_with (go_at_call 23; refine (H0.out _ HB.out).mono ?_; clear HB; rintro e w1 ⟨rfl, hb⟩; have HB := Lib.hid hb; clear hb)
        go_meet
        exact ⟨rfl, rfl, Lib.hid (M0.out.on HB.out)⟩
      · have b2 : (x == 45) = false := by rw [beq_eq_false_iff_ne]; exact h2
        go_wp2_with (go_at_call 23; refine (H0.out _ HB.out).mono ?_; clear HB; rintro e w1 ⟨rfl, hb⟩; have HB := Lib.hid hb; clear hb)
        go_meet
        exact ⟨rfl, by rw [decide_eq_false (by omega)], Lib.hid (M0.out.on HB.out)⟩
  case rest =>
    clear M0
    obtain ⟨rfl, rfl, HM⟩ := hcut
    rw [Nat.add_zero] at HM
    have hlL := HLen.out
    go_upto_if 16 with (fail)
    go_cut [3] (fun v wd => v = .int .i64 ((k : Nat) : Int) ∧ Hid (MZ w b g l0 (k + n1) wd))
    case first =>
      obtain ⟨_, _, _, c1, f1, _⟩ := HM.out.rest.parts
      have hk64 : (k : Int) < 1099511627776 := by omega
      have hq := HN1.out
      unfold signN at hq
      by_cases hs : at_ (l0.drop k) 0 = 43 ∨ at_ (l0.drop k) 0 = 45
      · rw [if_pos hs] at hq
        rw [decide_eq_true hs]
        subst hq
        have hM3 := HM.out.trans (HM.out.rest.move (j := k + (0 + 1)) (i := (k : Int) + 1) (by have := hs1.2.1; rw [List.length_drop] at this; omega) (by omega))
        have HM3 := Lib.hid hM3
        clear hs hM3
        go_wp2
        go_meet
        exact ⟨rfl, HM3⟩
      · rw [if_neg hs] at hq
        rw [decide_eq_false hs]
        subst hq
        clear hs c1 f1
        go_wp2
        go_meet
        exact ⟨rfl, HM⟩
    case rest =>
    clear HM
    obtain ⟨rfl, HM⟩ := hcut
    go_upto_region 5 with (go_at_call 83; refine (digs_at HM.out.rest).mono ?_; rintro e w2 ⟨rfl, hm⟩; have HM2 := Lib.hid (HM.out.trans hm); clear hm)
    clear HM
    obtain ⟨n2, hn2⟩ : ∃ x, digsN (l0.drop k) n1 = x := ⟨_, rfl⟩
    have h2 := digs_le (l0.drop k) n1 hs1.2.1
    rw [hn2] at h2 HM2
    have hnum4 : numN (l0.drop k) = expoN (l0.drop k) (fracN (l0.drop k) n2) := by unfold numN; rw [HN1.out, hn2]
    have HNum4 := Lib.hid hnum4
    clear hn2 hnum4
    go_cut [3, 33] (fun v c wd => v = .int .i64 ((k : Nat) : Int) ∧ c = .bool (decide (at_ (l0.drop k) n2 = 46 ∧ isDg (at_ (l0.drop k) (n2 + 1)) = true)) ∧ Hid (MZ w b g l0 (k + n2) wd))
    case first =>
      have H0 := Lib.hid (see_at HM2.out.rest 0 (by omega))
      have H1 := Lib.hid (see_at HM2.out.rest 1 (by omega))
      rw [Nat.add_zero] at H0
      have HD := Lib.hid (refDigit_any (at_ (l0.drop k) (n2 + 1)))
      have HB := Lib.hid (Below.refl w2.heap.size w2)
      generalize at_ (l0.drop k) n2 = x at *
      generalize at_ (l0.drop k) (n2 + 1) = y at *
      generalize isDg y = p at *
      by_cases h1 : x = 46
      · subst h1
        cases p
        all_goals
          go_wp2_with (first
            | (go_at_call_of 23 (Value.int .i64 0); refine (H0.out _ HB.out).mono ?_; clear HB; rintro e w1 ⟨rfl, hb⟩; have HB := Lib.hid hb; clear hb)
            | (go_at_call 23; refine (H1.out _ HB.out).mono ?_; clear HB; rintro e w1 ⟨rfl, hb⟩; have HB := Lib.hid hb; clear hb)
            | (go_at_call 82; refine (HD.out _).mono ?_; rintro e w1 ⟨rfl, rfl⟩))
          go_meet
          exact ⟨rfl, rfl, Lib.hid (HM2.out.on HB.out)⟩
      · have b1 : (x == 46) = false := by rw [beq_eq_false_iff_ne]; exact h1
        go_wp2_with (go_at_call 23; refine (H0.out _ HB.out).mono ?_; clear HB; rintro e w1 ⟨rfl, hb⟩; have HB := Lib.hid hb; clear hb)
        go_meet
        exact ⟨rfl, by rw [decide_eq_false (fun e => h1 e.1)], Lib.hid (HM2.out.on HB.out)⟩
    case rest =>
    clear HM2
    obtain ⟨rfl, rfl, HM⟩ := hcut
    go_upto_if 33 with (fail)
    obtain ⟨n3, hn3⟩ : ∃ x, fracN (l0.drop k) n2 = x := ⟨_, rfl⟩
    have h3 := frac_le (l0.drop k) n2 h2.2
    rw [hn3] at h3
    have HN3 := Lib.hid hn3
    clear hn3
    go_cut [3] (fun v wd => v = .int .i64 ((k : Nat) : Int) ∧ Hid (MZ w b g l0 (k + n3) wd))
    case first =>
      obtain ⟨_, _, _, c1, f1, _⟩ := HM.out.rest.parts
      have hk64 : ((k + n2 : Nat) : Int) < 1099511627776 := by omega
      have hq := HN3.out
      unfold fracN at hq
      by_cases hs : at_ (l0.drop k) n2 = 46 ∧ isDg (at_ (l0.drop k) (n2 + 1)) = true
      · rw [if_pos hs] at hq
        rw [decide_eq_true hs]
        have hp := at_pos (l := l0.drop k) (n := n2) (by rw [hs.1]; decide)
        rw [List.length_drop] at hp
        have hM3 := HM.out.trans (HM.out.rest.move (j := k + (n2 + 1)) (i := (k : Int) + n2 + 1) (by omega) (by omega))
        have HM3 := Lib.hid hM3
        clear hs hM3
        go_wp2_with (go_at_call 83; refine (digs_at HM3.out.rest).mono ?_; rintro e w2 ⟨rfl, hm⟩; have HM2 := Lib.hid (HM3.out.trans hm); clear hm)
        rw [hq] at HM2
        go_meet
        exact ⟨rfl, HM2⟩
      · rw [if_neg hs] at hq
        rw [decide_eq_false hs]
        subst hq
        clear hs c1 f1
        go_wp2
        go_meet
        exact ⟨rfl, HM⟩
    case rest =>
    clear HM
    obtain ⟨rfl, HM⟩ := hcut
    go_upto_region 8 with (fail)
    go_cut [3, 50] (fun v c wd => v = .int .i64 ((k : Nat) : Int) ∧ c = .bool (decide (at_ (l0.drop k) n3 = 101 ∨ at_ (l0.drop k) n3 = 69)) ∧ Hid (MZ w b g l0 (k + n3) wd))
    case first =>
      have H0 := Lib.hid (see_at HM.out.rest 0 (by omega))
      rw [Nat.add_zero] at H0
      have HB := Lib.hid (Below.refl wc.heap.size wc)
      generalize at_ (l0.drop k) n3 = x at *
      by_cases h1 : x = 101
      · subst h1
        go_wp2_with (go_at_call 23; refine (H0.out _ HB.out).mono ?_; clear HB; rintro e w1 ⟨rfl, hb⟩; have HB := Lib.hid hb; clear hb)
        go_meet
        exact ⟨rfl, rfl, Lib.hid (HM.out.on HB.out)⟩
      · have b1 : (x == 101) = false := by rw [beq_eq_false_iff_ne]; exact h1
        by_cases h2 : x = 69
        · subst h2
          go_wp2_with (go_at_call 23; refine (H0.out _ HB.out).mono ?_; clear HB; rintro e w1 ⟨rfl, hb⟩; have HB := Lib.hid hb; clear hb)
          go_meet
          exact ⟨rfl, rfl, Lib.hid (HM.out.on HB.out)⟩
        · have b2 : (x == 69) = false := by rw [beq_eq_false_iff_ne]; exact h2
          go_wp2_with (go_at_call 23; refine (H0.out _ HB.out).mono ?_; clear HB; rintro e w1 ⟨rfl, hb⟩; have HB := Lib.hid hb; clear hb)
          go_meet
          exact ⟨rfl, by rw [decide_eq_false (by omega)], Lib.hid (HM.out.on HB.out)⟩
    case rest =>
    clear HM
    obtain ⟨rfl, rfl, HM⟩ := hcut
    go_upto_if 50 with (fail)
    rw [HN3.out, HN4.out] at HNum4
    go_cut [3] (fun v wd => v = .int .i64 ((k : Nat) : Int) ∧ Hid (MZ w b g l0 (k + n4) wd))
    case first =>
      have hk64 : ((k + n3 : Nat) : Int) < 1099511627776 := by omega
      have hq := HNum4.out.symm
      unfold expoN signN at hq
      by_cases hs : at_ (l0.drop k) n3 = 101 ∨ at_ (l0.drop k) n3 = 69
      · rw [decide_eq_true hs]
        have H1 := Lib.hid (see_at HM.out.rest 1 (by omega))
        have H2 := Lib.hid (see_at HM.out.rest 2 (by omega))
        have HD1 := Lib.hid (refDigit_any (at_ (l0.drop k) (n3 + 1)))
        have HD2 := Lib.hid (refDigit_any (at_ (l0.drop k) (n3 + 2)))
        have HB := Lib.hid (Below.refl wc.heap.size wc)
        by_cases hy : at_ (l0.drop k) (n3 + 1) = 43 ∨ at_ (l0.drop k) (n3 + 1) = 45
        · rw [if_pos hy, show n3 + 1 + 1 = n3 + 2 from rfl] at hq
          obtain ⟨y, hye, hyq⟩ : ∃ y, at_ (l0.drop k) (n3 + 1) = y ∧ (y = 43 ∨ y = 45) := ⟨_, rfl, hy⟩
          rw [hye] at H1
          clear hy hye HD1
          rcases hyq with rfl | rfl
          all_goals
            cases hdp : isDg (at_ (l0.drop k) (n3 + 2)) with
            | false =>
              rw [hdp] at HD2
              rw [if_neg (fun e => by rw [hdp] at e; cases e.2)] at hq
              subst hq
              clear hdp
              go_wp2_with (first
                | (go_at_call_of 23 (Value.int .i64 1); refine (H1.out _ HB.out).mono ?_; clear HB; rintro e w1 ⟨rfl, hb⟩; have HB := Lib.hid hb; clear hb)
                | (go_at_call 23; refine (H2.out _ HB.out).mono ?_; clear HB; rintro e w1 ⟨rfl, hb⟩; have HB := Lib.hid hb; clear hb)
                | (go_at_call 82; refine (HD2.out _).mono ?_; rintro e w5 ⟨rfl, rfl⟩))
              go_meet
              exact ⟨rfl, Lib.hid (HM.out.on HB.out)⟩
            | true =>
              rw [hdp] at HD2
              have hp := at_pos (l := l0.drop k) (n := n3 + 2) (by intro e; rw [e] at hdp; exact absurd hdp (by decide))
              rw [List.length_drop] at hp
              rw [if_pos ⟨hs, hdp⟩] at hq
              clear hdp
              go_wp2_with (first
                | (go_at_call_of 23 (Value.int .i64 1); refine (H1.out _ HB.out).mono ?_; clear HB; rintro e w1 ⟨rfl, hb⟩; have HB := Lib.hid hb; clear hb)
                | (go_at_call 23; refine (H2.out _ HB.out).mono ?_; clear HB; rintro e w1 ⟨rfl, hb⟩; have HB := Lib.hid hb; clear hb)
                | (go_at_call 82; refine (HD2.out _).mono ?_; rintro e w5 ⟨rfl, rfl⟩; obtain ⟨_, _, _, c1, f1, _⟩ := (HM.out.rest.below HB.out).parts)
                | (go_at_call 83; refine (digs_at ((HM.out.on HB.out).rest.move (j := k + (n3 + 2)) (i := (k : Int) + n3 + 2) (by omega) (by omega)).rest).mono ?_; rintro e w2 ⟨rfl, hm⟩; have HM2 := Lib.hid (((HM.out.on HB.out).trans ((HM.out.on HB.out).rest.move (j := k + (n3 + 2)) (i := (k : Int) + n3 + 2) (by omega) (by omega))).trans hm); clear hm))
              rw [hq] at HM2
              go_meet
              exact ⟨rfl, HM2⟩
        · rw [if_neg hy] at hq
          have b1 : (at_ (l0.drop k) (n3 + 1) == 43) = false := by rw [beq_eq_false_iff_ne]; exact fun e => hy (.inl e)
          have b2 : (at_ (l0.drop k) (n3 + 1) == 45) = false := by rw [beq_eq_false_iff_ne]; exact fun e => hy (.inr e)
          clear hy HD2 H2
          cases hdp : isDg (at_ (l0.drop k) (n3 + 1)) with
          | false =>
            rw [hdp] at HD1
            rw [if_neg (fun e => by rw [hdp] at e; cases e.2)] at hq
            subst hq
            (generalize at_ (l0.drop k) (n3 + 1) = y at *; clear hdp)
            go_wp2_with (first
              | (go_at_call 23; refine (H1.out _ HB.out).mono ?_; clear HB; rintro e w1 ⟨rfl, hb⟩; have HB := Lib.hid hb; clear hb)
              | (fail)
              | (go_at_call 82; refine (HD1.out _).mono ?_; rintro e w5 ⟨rfl, rfl⟩))
            go_meet
            exact ⟨rfl, Lib.hid (HM.out.on HB.out)⟩
          | true =>
            rw [hdp] at HD1
            have hp := at_pos (l := l0.drop k) (n := n3 + 1) (by intro e; rw [e] at hdp; exact absurd hdp (by decide))
            rw [List.length_drop] at hp
            rw [if_pos ⟨hs, hdp⟩] at hq
            (generalize at_ (l0.drop k) (n3 + 1) = y at *; clear hdp)
            go_wp2_with (first
              | (go_at_call 23; refine (H1.out _ HB.out).mono ?_; clear HB; rintro e w1 ⟨rfl, hb⟩; have HB := Lib.hid hb; clear hb)
              | (fail)
              | (go_at_call 82; refine (HD1.out _).mono ?_; rintro e w5 ⟨rfl, rfl⟩; obtain ⟨_, _, _, c1, f1, _⟩ := (HM.out.rest.below HB.out).parts)
              | (go_at_call 83; refine (digs_at ((HM.out.on HB.out).rest.move (j := k + (n3 + 1)) (i := (k : Int) + n3 + 1) (by omega) (by omega)).rest).mono ?_; rintro e w2 ⟨rfl, hm⟩; have HM2 := Lib.hid (((HM.out.on HB.out).trans ((HM.out.on HB.out).rest.move (j := k + (n3 + 1)) (i := (k : Int) + n3 + 1) (by omega) (by omega))).trans hm); clear hm))
            rw [hq] at HM2
            go_meet
            exact ⟨rfl, HM2⟩
      · rw [if_neg (fun e => hs e.1)] at hq
        rw [decide_eq_false hs]
        subst hq
        clear hs
        go_wp2
        go_meet
        exact ⟨rfl, HM⟩
    case rest =>
    clear HM
    obtain ⟨rfl, HM⟩ := hcut
    have hnp := num_pos HNum.out
    rw [HN4.out] at hnp
    rw [List.length_drop] at h4
    obtain ⟨ao, cap, hblk, hcap, hnil, hsee⟩ := HM.out.rest.ex
    have hne : l0 ≠ [] := fun e => by rw [e] at h4; simp at h4; omega
    have hao : ao = some ⟨g, 0, none⟩ := by
      cases ao with
      | none => exact absurd (hnil rfl) hne
      | some a => rw [(hsee a rfl).1]
    subst hao
    have HSee := Lib.hid (hsee _ rfl).2
    have c0 : wc.cell? ⟨b, 0, none⟩ = some (.slice (some ⟨g, 0, none⟩) l0.length cap) := by simp [World.cell?, hblk]
    have c1 : wc.cell? ⟨b, 1, none⟩ = some (.int .i64 ((k + n4 : Nat) : Int)) := by simp [World.cell?, hblk]
    have C0 := fun p : Over wc => p.cell c0
    have C1 := fun p : Over wc => p.cell c1
    have HStr := Lib.hid (fun p : Over wc => U.refString_any (some ⟨g, k, none⟩) (cap - k) ((l0.drop k).take n4) p.out
      (fun z hz => by have := HM.out.rest.ok z (List.mem_of_mem_drop (List.mem_of_mem_take hz)); unfold okC at this; omega)
      (fun j z hz => ⟨_, rfl, by
        have h1 : l0[k + j]? = some z := by
          have hj := (List.getElem?_eq_some_iff.1 hz).1
          rw [List.length_take] at hj
          rw [List.getElem?_take_of_lt (by omega), List.getElem?_drop] at hz
          exact hz
        rw [add_off]
        have := (HSee.out.on p.below).cell (k + j) z h1
        rwa [Nat.zero_add] at this⟩) (by rw [List.length_take, List.length_drop]; omega))
    rw [show ((l0.drop k).take n4).length = n4 by rw [List.length_take, List.length_drop]; omega] at HStr
    have i1 : (k : Int) ≤ ((k + n4 : Nat) : Int) := by omega
    have i2 : ((k + n4 : Nat) : Int) ≤ cap := by omega
    have i3 : ((k : Int) + n4) ≤ cap := by omega
    have i4 : k + n4 - k = n4 := by omega
    clear hblk hsee hnil c0 c1 h4 hne hle
    go_wp2
    refine wp_region_below (by kernel_rfl) (by kernel_rfl) ?_
    repeat (go_big_quiet_step (first | (go_at_call 54; exact calls_over (HStr.out _))))
    refine wpQuiet_nil ?_
    intro W hw'
    obtain ⟨q, rfl⟩ := hw'
    go_wp2
    go_ret
    exact ⟨rfl, HM.out.on q.below⟩
end Go.Proofs.YtmhdocgoeahbdaaGreatDoor
