/-
  Find: the document's way. Conditions: the text is no longer than 2^40 bytes.
-/
import Derived.Test.YtfjphhmbnhglcaaGreatDoorCRef1
namespace Go.CharrefKit
open Go
theorem best_snoc (r : List Nat) (l : List Entry) (e : Entry) (b : Nat × Nat) : best r (l ++ [e]) b = if (best r l b).1 < hit r e then (hit r e, e.2.1) else best r l b := by
  unfold best
  rw [List.foldl_append]
  rfl
theorem best_take {r : List Nat} {k : Nat} {e : Entry} (h : tab[k]? = some e) : best r (tab.take (k + 1)) (0, 0) = if (best r (tab.take k) (0, 0)).1 < hit r e then (hit r e, e.2.1) else best r (tab.take k) (0, 0) := by
  rw [List.take_add_one, h]
  exact best_snoc r _ e _
theorem tab_len : tab.length = 59 := by kernel_rfl
theorem tab_small {e : Entry} (h : e ∈ tab) : ∀ b ∈ e.1, b < 256 := tabC_small (mem_tabC.2 h)
end Go.CharrefKit
namespace Go.Proofs.YtfjphhmbnhglcaaGreatDoor
open Go.RowKit Go.RunKit Go.CharrefKit Go.Lib

theorem natsOf_append (a b : ByteArray) : natsOf (a ++ b) = natsOf a ++ natsOf b := by simp [natsOf, nats]
theorem refNames_run (w : World) : runFun Tryz.prog 80 153 #[] w = some (.slice (some ⟨w.heap.size, 0, none⟩) 59 59, w.alloc (.cells (nameCells tab).toArray 154)) := by kernel_rfl
theorem refNames_block (w : World) : ∀ k e, tab[k]? = some e → (w.alloc (.cells (nameCells tab).toArray 154)).cell? ⟨w.heap.size, k * 3, none⟩ = some (.string (strOf e.1)) ∧
    (w.alloc (.cells (nameCells tab).toArray 154)).cell? ⟨w.heap.size, k * 3 + 1, none⟩ = some (.int .i32 ((e.2.1 : Nat) : Int)) ∧ (w.alloc (.cells (nameCells tab).toArray 154)).cell? ⟨w.heap.size, k * 3 + 2, none⟩ = some (.bool e.2.2) := by
  intro k e he
  have := nameCells_at he
  rw [World.cell?_alloc_at _ _ _ _ rfl, World.cell?_alloc_at _ _ _ _ rfl, World.cell?_alloc_at _ _ _ _ rfl]
  exact ⟨by simp [this.1], by simp [this.2.1], by simp [this.2.2]⟩

/-- What the longest is so far. -/
structure Lg (s : ByteArray) (b : Nat × Nat) (lg : ByteArray) : Prop where
  zero : b.1 = 0 → lg.size = 0
  pos : 0 < b.1 → lg.size = b.1 + 1 ∧ natsOf lg = (natsOf s).take (b.1 + 1)

/-- What a name of the table is at a place. -/
theorem name_here {s : ByteArray} {r : List Nat} (hs : natsOf s = 38 :: r) {e : Entry} (he : e ∈ tab) :
    hasPre s (⟨#[38]⟩ ++ strOf e.1) = e.1.isPrefixOf r ∧ hasPre s (⟨#[38]⟩ ++ strOf e.1 ++ ⟨#[59]⟩) = (e.1.isPrefixOf r && decide (r[e.1.length]? = some 59)) ∧ (strOf e.1).size = e.1.length := by
  have h1 : natsOf (⟨#[38]⟩ ++ strOf e.1) = 38 :: e.1 := by rw [natsOf_append, natsOf_strOf (tab_small he)]; rfl
  have h2 : natsOf (⟨#[38]⟩ ++ strOf e.1 ++ ⟨#[59]⟩) = 38 :: (e.1 ++ [59]) := by rw [natsOf_append, h1]; rfl
  refine ⟨?_, ?_, by rw [← natsOf_length, natsOf_strOf (tab_small he)]⟩
  · unfold hasPre
    rw [h1, hs]; rfl
  · unfold hasPre
    rw [h2, hs]
    show (e.1 ++ [59]).isPrefixOf r = _
    rw [Bool.eq_iff_iff, Bool.and_eq_true, decide_eq_true_eq, List.isPrefixOf_iff_prefix, List.isPrefixOf_iff_prefix]
    constructor
    · intro h
      obtain ⟨t, ht⟩ := h
      refine ⟨⟨[59] ++ t, by rw [← ht]; simp⟩, ?_⟩
      rw [← ht]
      simp
    · rintro ⟨⟨t, ht⟩, h59⟩
      rw [← ht] at h59
      rw [List.getElem?_append_right (Nat.le_refl _), Nat.sub_self] at h59
      cases t with
      | nil => simp at h59
      | cons b u =>
        simp at h59
        subst h59
        exact ⟨u, by rw [← ht]; simp⟩

theorem lg_semi {s : ByteArray} {r : List Nat} (hs : natsOf s = 38 :: r) {e : Entry} (he : e ∈ tab) (hp : e.1.isPrefixOf r = true) (h59 : r[e.1.length]? = some 59) : hit r e = e.1.length + 1 ∧ Lg s (e.1.length + 1, e.2.1) (⟨#[38]⟩ ++ strOf e.1 ++ ⟨#[59]⟩) := by
  have h1 : natsOf (⟨#[38]⟩ ++ strOf e.1 ++ ⟨#[59]⟩) = 38 :: (e.1 ++ [59]) := by rw [natsOf_append, natsOf_append, natsOf_strOf (tab_small he)]; rfl
  refine ⟨by unfold CharrefKit.hit; rw [if_pos hp, if_pos h59], ⟨fun h => by simp at h, fun _ => ⟨?_, ?_⟩⟩⟩
  · rw [← natsOf_length, h1]; simp
  · rw [h1, hs]
    obtain ⟨t, ht⟩ := List.isPrefixOf_iff_prefix.1 hp
    rw [← ht] at h59 ⊢
    rw [List.getElem?_append_right (Nat.le_refl _), Nat.sub_self] at h59
    cases t with
    | nil => simp at h59
    | cons b u =>
      simp at h59
      subst h59
      simp [List.take_append, List.take_of_length_le]
theorem lg_bare {s : ByteArray} {r : List Nat} (hs : natsOf s = 38 :: r) {e : Entry} (he : e ∈ tab) (hp : e.1.isPrefixOf r = true) (h59 : ¬ r[e.1.length]? = some 59) (hb : e.2.2 = true) : hit r e = e.1.length ∧ Lg s (e.1.length, e.2.1) (⟨#[38]⟩ ++ strOf e.1) := by
  have h1 : natsOf (⟨#[38]⟩ ++ strOf e.1) = 38 :: e.1 := by rw [natsOf_append, natsOf_strOf (tab_small he)]; rfl
  refine ⟨by unfold CharrefKit.hit; rw [if_pos hp, if_neg h59, if_pos hb], ⟨fun h => by have := (tab_fact he).2.1; simp only at h; omega, fun _ => ⟨?_, ?_⟩⟩⟩
  · rw [← natsOf_length, h1]; simp
  · rw [h1, hs]
    obtain ⟨t, ht⟩ := List.isPrefixOf_iff_prefix.1 hp
    rw [← ht]
    simp
theorem hit_none {r : List Nat} {e : Entry} (h : e.1.isPrefixOf r = false ∨ (¬ r[e.1.length]? = some 59 ∧ e.2.2 = false)) : hit r e = 0 := by
  unfold CharrefKit.hit
  rcases h with h | ⟨h1, h2⟩
  · rw [if_neg (by rw [h]; decide)]
  · rw [if_neg h1, h2]
    simp

set_option maxRecDepth 100000 in
set_option maxHeartbeats 4000000 in
theorem refFind_name (attr : Bool) (s : ByteArray) (r : List Nat) (hs : natsOf s = 38 :: r) (hr : ∀ t, r ≠ 35 :: t) (hsz : s.size ≤ 1099511627776) (w : World) :
    Calls Tryz.prog 114 #[.string s, .bool attr] w fun e w' => e = .returned (refV (nameL attr r)) ∧ Below w.heap.size w w' := by
  have H1 := Lib.hid (fun w => begins_any s ⟨#[38]⟩ w)
  have H2 := Lib.hid (fun w => begins_any s ⟨#[38, 35]⟩ w)
  have e1 : hasPre s ⟨#[38]⟩ = true := by unfold hasPre; rw [hs]; rfl
  have e2 : hasPre s ⟨#[38, 35]⟩ = false := by
    unfold hasPre
    rw [hs]
    cases r with
    | nil => rfl
    | cons c t =>
      have hc : c ≠ 35 := fun e => hr t (by rw [e])
      show ((38 == 38) && ((35 == c) && List.isPrefixOf [] t)) = false
      rw [beq_eq_false_iff_ne.2 (fun e : 35 = c => hc e.symm)]; rfl
  rw [e1] at H1
  rw [e2] at H2
  have hsl := natsOf_length s
  rw [hs] at hsl
  simp only [List.length_cons] at hsl
  have HS := Lib.hid hs
  clear e1 e2 hs hr
  go_enter Tryz.func114, Tryz.ntmps114
  go_wp2_with (first
    | (go_at_call 151; refine (H1.out _).mono ?_; rintro e w1 ⟨rfl, rfl⟩; clear H1)
    | (go_at_call 151; refine (H2.out _).mono ?_; rintro e w1 ⟨rfl, rfl⟩; clear H2)
    | (go_at_call 153; refine (calls_of_run (refNames_run _)).mono ?_; rintro e w' ⟨rfl, rfl⟩))
  have hb : Below w.heap.size w (w.alloc (.cells (nameCells tab).toArray 154)) := (Below.refl _ _).alloc (Nat.le_refl _) _
  have HA := Lib.hid (refNames_block w)
  generalize w.alloc (.cells (nameCells tab).toArray 154) = W at *
  have HB := Lib.hid hb
  clear hb
  go_loop [11, 12, 13] (fun l c i => ∃ (k b1 b2 : Nat) (lg : ByteArray), k ≤ 59 ∧ l = .string lg ∧ c = .int .i32 (b2 : Nat) ∧ i = .int .i64 k ∧ Hid ((b1, b2) = best r (tab.take k) (0, 0)) ∧ Hid (Lg s (b1, b2) lg) ∧ (b1 = 0 → lg.size = 0) ∧ (0 < b1 → lg.size = b1 + 1)) (fun _ _ i => 59 - (RowKit.intOf i).toNat)
  case atStart => exact ⟨0, 0, 0, ⟨#[]⟩, by omega, rfl, rfl, rfl, Lib.hid rfl, Lib.hid ⟨fun _ => rfl, fun h => by simp at h⟩, fun _ => rfl, fun h => by simp at h⟩
  case round =>
    obtain ⟨k, b1, b2, lg, hk, rfl, rfl, rfl, HBE, HLG, hz, hpz⟩ := hrel
    by_cases hlt : k < 59
    · obtain ⟨e, he⟩ := some_at tab_len hlt
      have hem := List.mem_of_getElem? he
      obtain ⟨c0, c1, c2⟩ := HA.out k e he
      have hnx := best_take (r := r) he
      rw [← HBE.out] at hnx
      simp only at hnx
      obtain ⟨p1, p2, hns⟩ := name_here HS.out hem
      have hf := (tab_fact hem).2
      have P1 := fun w => begins_any s (⟨#[38]⟩ ++ strOf e.1) w
      have P2 := fun w => begins_any s (⟨#[38]⟩ ++ strOf e.1 ++ ⟨#[59]⟩) w
      rw [p1] at P1
      rw [p2] at P2
      have hkI : (k : Int) < 59 := by omega
      have hsm : (strOf e.1).size ≤ 6 := by omega
      cases hp : e.1.isPrefixOf r with
      | false =>
        rw [hp] at P1 P2
        have hh := hit_none (r := r) (e := e) (.inl hp)
        rw [hh, if_neg (by omega)] at hnx
        have HX := Lib.hid hnx.symm
        have HP1 := Lib.hid P1
        clear hnx P1 P2 p1 p2 hp hh he hem hns
        generalize strOf e.1 = nm at *
        go_wp2_with (go_at_call 151; refine (HP1.out _).mono ?_; rintro e w1 ⟨rfl, rfl⟩; clear HP1)
        exact ⟨⟨k + 1, b1, b2, lg, by omega, rfl, rfl, by go_num, HX, HLG, hz, hpz⟩, by simp [RowKit.intOf]; omega⟩
      | true =>
        rw [hp] at P1 P2
        by_cases h59 : r[e.1.length]? = some 59
        · obtain ⟨hh, hlg⟩ := lg_semi HS.out hem hp h59
          rw [hh] at hnx
          rw [decide_eq_true h59] at P2
          have HL2 := Lib.hid hlg
          have hls := (hlg.pos (by simp)).1
          simp only at hls
          have HP1 := Lib.hid P1
          have HP2 := Lib.hid P2
          clear P1 P2 p1 p2 hp hh he hem hlg h59
          by_cases hup : b1 < e.1.length + 1
          · rw [if_pos hup] at hnx
            have HX := Lib.hid hnx.symm
            clear hnx
            generalize strOf e.1 = nm at *
            generalize e.1.length = n at *
            generalize e.2.1 = ch at *
            have HSZ := Lib.hid hls
            clear hls
            go_wp2_with (first
              | (go_at_call 151; refine (HP1.out _).mono ?_; rintro e w1 ⟨rfl, rfl⟩; clear HP1)
              | (go_at_call 151; refine (HP2.out _).mono ?_; rintro e w1 ⟨rfl, rfl⟩; clear HP2))
            all_goals exact ⟨⟨k + 1, n + 1, ch, ⟨#[38]⟩ ++ nm ++ ⟨#[59]⟩, by omega, rfl, rfl, by go_num, HX, HL2, fun h => by omega, fun _ => HSZ.out⟩, by simp [RowKit.intOf]; omega⟩
          · rw [if_neg hup] at hnx
            have HX := Lib.hid hnx.symm
            clear hnx
            generalize strOf e.1 = nm at *
            generalize e.1.length = n at *
            generalize e.2.1 = ch at *
            have HSZ := Lib.hid hls
            clear hls
            go_wp2_with (first
              | (go_at_call 151; refine (HP1.out _).mono ?_; rintro e w1 ⟨rfl, rfl⟩; clear HP1)
              | (go_at_call 151; refine (HP2.out _).mono ?_; rintro e w1 ⟨rfl, rfl⟩; clear HP2))
            all_goals exact ⟨⟨k + 1, b1, b2, lg, by omega, rfl, rfl, by go_num, HX, HLG, hz, hpz⟩, by simp [RowKit.intOf]; omega⟩
        · rw [decide_eq_false h59] at P2
          have HP1 := Lib.hid P1
          have HP2 := Lib.hid P2
          cases hbare : e.2.2 with
          | true =>
            obtain ⟨hh, hlg⟩ := lg_bare HS.out hem hp h59 hbare
            rw [hh] at hnx
            rw [hbare] at c2
            have HL2 := Lib.hid hlg
            have hls := (hlg.pos (by simp only; omega)).1
            simp only at hls
            clear P1 P2 p1 p2 hp hh he hem hlg h59 hbare
            by_cases hup : b1 < e.1.length
            · rw [if_pos hup] at hnx
              have HX := Lib.hid hnx.symm
              clear hnx
              generalize strOf e.1 = nm at *
              generalize e.1.length = n at *
              generalize e.2.1 = ch at *
              have HSZ := Lib.hid hls
              clear hls
              go_wp2_with (first
                | (go_at_call 151; refine (HP1.out _).mono ?_; rintro e w1 ⟨rfl, rfl⟩; clear HP1)
                | (go_at_call 151; refine (HP2.out _).mono ?_; rintro e w1 ⟨rfl, rfl⟩; clear HP2))
              all_goals exact ⟨⟨k + 1, n, ch, ⟨#[38]⟩ ++ nm, by omega, rfl, rfl, by go_num, HX, HL2, fun h => by omega, fun _ => HSZ.out⟩, by simp [RowKit.intOf]; omega⟩
            · rw [if_neg hup] at hnx
              have HX := Lib.hid hnx.symm
              clear hnx
              generalize strOf e.1 = nm at *
              generalize e.1.length = n at *
              generalize e.2.1 = ch at *
              have HSZ := Lib.hid hls
              clear hls
              go_wp2_with (first
                | (go_at_call 151; refine (HP1.out _).mono ?_; rintro e w1 ⟨rfl, rfl⟩; clear HP1)
                | (go_at_call 151; refine (HP2.out _).mono ?_; rintro e w1 ⟨rfl, rfl⟩; clear HP2))
              all_goals exact ⟨⟨k + 1, b1, b2, lg, by omega, rfl, rfl, by go_num, HX, HLG, hz, hpz⟩, by simp [RowKit.intOf]; omega⟩
          | false =>
            have hh := hit_none (r := r) (e := e) (.inr ⟨h59, hbare⟩)
            rw [hh, if_neg (by omega)] at hnx
            rw [hbare] at c2
            have HX := Lib.hid hnx.symm
            clear hnx P1 P2 p1 p2 hp hh he hem h59 hbare
            generalize strOf e.1 = nm at *
            generalize e.1.length = n at *
            generalize e.2.1 = ch at *
            go_wp2_with (first
              | (go_at_call 151; refine (HP1.out _).mono ?_; rintro e w1 ⟨rfl, rfl⟩; clear HP1)
              | (go_at_call 151; refine (HP2.out _).mono ?_; rintro e w1 ⟨rfl, rfl⟩; clear HP2))
            all_goals exact ⟨⟨k + 1, b1, b2, lg, by omega, rfl, rfl, by go_num, HX, HLG, hz, hpz⟩, by simp [RowKit.intOf]; omega⟩
    · obtain rfl : k = 59 := by omega
      have hbest : (b1, b2) = best r tab (0, 0) := by
        rw [HBE.out, List.take_of_length_le (by rw [tab_len]; omega)]
      have HNL : Hid (nameL attr r = if b1 = 0 then noRef else if attr = true ∧ r[b1 - 1]? ≠ some 59 ∧ goesOn r[b1]? = true then noRef else ⟨b2, b1 + 1, true⟩) := Lib.hid (by unfold nameL; rw [← hbest])
      have HBW := HB.out
      clear hbest HBE HA
      by_cases h0 : b1 = 0
      · have hl0 := hz h0
        have HV : Hid (refV (nameL attr r) = .tuple #[.int .i32 0, .int .i64 0, .bool false]) := Lib.hid (by rw [HNL.out, if_pos h0]; rfl)
        have hlI : ((lg.size : Int) == 0) = true := by rw [hl0]; rfl
        clear hl0 h0 HNL hz hpz
        go_wp2
        go_ret3
        exact ⟨by rw [HV.out]; rfl, HBW⟩
      have hls := hpz (by omega)
      have hlI : ((lg.size : Int) == 0) = false := beq_eq_false_iff_ne.2 (by omega)
      have hnat := (HLG.out.pos (by simp only; omega)).2
      simp only at hnat
      have hlast : lg.size - 1 < lg.size := by omega
      have hx : r[b1 - 1]? = some (lg[lg.size - 1]'hlast).toNat := by
        rw [← natsOf_at lg (lg.size - 1) hlast, hnat, List.getElem?_take, if_pos (by omega), HS.out, hls, Nat.add_sub_cancel]
        obtain ⟨q, rfl⟩ : ∃ q, b1 = q + 1 := ⟨b1 - 1, by omega⟩
        rfl
      have hy : r[b1]? = (natsOf s)[lg.size]? := by rw [HS.out, hls]; rfl
      have HXY := Lib.hid (And.intro hx hy)
      have HF : Hid (refV ⟨b2, b1 + 1, true⟩ = .tuple #[.int .i32 (b2 : Nat), .int .i64 (lg.size : Nat), .bool true]) := Lib.hid (by rw [hls]; rfl)
      have HNE := Lib.hid h0
      have hl1 : (1 : Int) ≤ lg.size := by omega
      have hll : (lg.size : Int) ≤ 1099511627777 := by
        have h1 : (natsOf lg).length ≤ (natsOf s).length := by rw [hnat, List.length_take]; omega
        rw [natsOf_length, natsOf_length] at h1
        omega
      clear hx hy hnat hls h0 hz hpz HLG HB
      cases attr with
      | false =>
        have HV : Hid (refV (nameL false r) = .tuple #[.int .i32 (b2 : Nat), .int .i64 (lg.size : Nat), .bool true]) := Lib.hid (by rw [HNL.out, if_neg HNE.out, if_neg (by rintro ⟨q, _⟩; cases q)]; exact HF.out)
        go_wp2
        go_ret3
        exact ⟨by rw [HV.out]; rfl, HBW⟩
      | true =>
        by_cases hx59 : (lg[lg.size - 1]'hlast).toNat = 59
        · have HV : Hid (refV (nameL true r) = .tuple #[.int .i32 (b2 : Nat), .int .i64 (lg.size : Nat), .bool true]) := Lib.hid (by rw [HNL.out, if_neg HNE.out, if_neg (by rintro ⟨_, q, _⟩; exact q (by rw [HXY.out.1, hx59]))]; exact HF.out)
          have hxb : ((((lg[lg.size - 1]'hlast).toNat : Nat) : Int) == 59) = true := beq_iff_eq.2 (by rw [hx59]; rfl)
          have hxp : (((lg[lg.size - 1]'hlast).toNat : Nat) : Int) = 59 := by rw [hx59]; rfl
          clear hx59
          go_wp2
          go_ret3
          exact ⟨by rw [HV.out]; rfl, HBW⟩
        · have hxb : ((((lg[lg.size - 1]'hlast).toNat : Nat) : Int) == 59) = false := beq_eq_false_iff_ne.2 (by omega)
          have hxp : ¬ (((lg[lg.size - 1]'hlast).toNat : Nat) : Int) = 59 := by omega
          have HX59 := Lib.hid hx59
          clear hx59
          by_cases hls2 : lg.size < s.size
          · have hlsI : (lg.size : Int) < s.size := by omega
            have hyb := natsOf_at s lg.size hls2
            have HY : Hid (r[b1]? = some (s[lg.size]'hls2).toNat) := Lib.hid (by rw [HXY.out.2, hyb])
            have HAL := Lib.hid (fun w => alnum_any (s[lg.size]'hls2).toNat (UInt8.toNat_lt _) w)
            clear hyb
            by_cases h61 : (s[lg.size]'hls2).toNat = 61
            · have HV : Hid (refV (nameL true r) = .tuple #[.int .i32 0, .int .i64 0, .bool false]) := Lib.hid (by
                rw [HNL.out, if_neg HNE.out, if_pos ⟨rfl, fun q => HX59.out (by rw [HXY.out.1] at q; exact Option.some.inj q), by rw [HY.out, h61]; rfl⟩]; rfl)
              have h6b : ((((s[lg.size]'hls2).toNat : Nat) : Int) == 61) = true := beq_iff_eq.2 (by rw [h61]; rfl)
              have h6p : (((s[lg.size]'hls2).toNat : Nat) : Int) = 61 := by rw [h61]; rfl
              clear h61
              go_wp2
              go_ret3
              exact ⟨by rw [HV.out]; rfl, HBW⟩
            · have h6b : ((((s[lg.size]'hls2).toNat : Nat) : Int) == 61) = false := beq_eq_false_iff_ne.2 (by omega)
              have h6p : ¬ (((s[lg.size]'hls2).toNat : Nat) : Int) = 61 := by omega
              cases hal : (isLet (s[lg.size]'hls2).toNat || isNum (s[lg.size]'hls2).toNat) with
              | true =>
                rw [hal] at HAL
                have HV : Hid (refV (nameL true r) = .tuple #[.int .i32 0, .int .i64 0, .bool false]) := Lib.hid (by
                  rw [HNL.out, if_neg HNE.out, if_pos ⟨rfl, fun q => HX59.out (by rw [HXY.out.1] at q; exact Option.some.inj q), by
                    rw [HY.out]
                    show (decide ((s[lg.size]'hls2).toNat = 61) || isLet (s[lg.size]'hls2).toNat || isNum (s[lg.size]'hls2).toNat) = true
                    rw [Bool.or_assoc, hal, Bool.or_true]⟩]; rfl)
                clear h61 hal
                go_wp2_with (go_at_call 154; refine (HAL.out _).mono ?_; rintro e w1 ⟨rfl, rfl⟩)
                go_ret3
                exact ⟨by rw [HV.out]; rfl, HBW⟩
              | false =>
                rw [hal] at HAL
                have HV : Hid (refV (nameL true r) = .tuple #[.int .i32 (b2 : Nat), .int .i64 (lg.size : Nat), .bool true]) := Lib.hid (by
                  rw [HNL.out, if_neg HNE.out, if_neg (by
                    rintro ⟨_, _, q⟩
                    rw [HY.out] at q
                    have q2 : (decide ((s[lg.size]'hls2).toNat = 61) || isLet (s[lg.size]'hls2).toNat || isNum (s[lg.size]'hls2).toNat) = true := q
                    rw [Bool.or_assoc, hal, Bool.or_false, decide_eq_true_eq] at q2
                    exact h61 q2)]; exact HF.out)
                clear h61 hal
                go_wp2_with (go_at_call 154; refine (HAL.out _).mono ?_; rintro e w1 ⟨rfl, rfl⟩)
                go_ret3
                exact ⟨by rw [HV.out]; rfl, HBW⟩
          · have hlsI := eq_false (show ¬ (lg.size : Int) < s.size by omega)
            have HV : Hid (refV (nameL true r) = .tuple #[.int .i32 (b2 : Nat), .int .i64 (lg.size : Nat), .bool true]) := Lib.hid (by
              rw [HNL.out, if_neg HNE.out, if_neg (by
                rintro ⟨_, _, q⟩
                rw [HXY.out.2, List.getElem?_eq_none (by rw [natsOf_length]; omega)] at q
                cases q)]; exact HF.out)
            go_wp2
            go_ret3
            exact ⟨by rw [HV.out]; rfl, HBW⟩
end Go.Proofs.YtfjphhmbnhglcaaGreatDoor
