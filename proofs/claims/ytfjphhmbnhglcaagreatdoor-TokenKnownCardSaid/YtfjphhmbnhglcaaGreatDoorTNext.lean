/-
  The reader of package token: what reads next. Conditions: texts are no longer than 2^31 bytes.
-/
import Derived.Test.YtfjphhmbnhglcaaGreatDoorTOne3
namespace Go.Proofs.YtfjphhmbnhglcaaGreatDoor
open Go.RowKit Go.RunKit Go.CharrefKit Go.Lib Go.TokenKit

/-- What is handed back reads the token that begins here. -/
structure NextIs (f : FuncId) (b : Nat) (cur : ByteArray) : Prop where
  reads : ∀ W, RB W b cur → Maxed W b → ReadsAs f (oneL (bl cur)) b W
  enters : ∀ args w, (callFunc f args).run Tryz.prog w = .ok (.enter f args) w
theorem getD_at {s : ByteArray} (h : 1 < s.size) : (bl s).getD 1 0 = s[1]'h := by
  have := Lib.data_getElem? s 1 h
  change (bl s)[1]? = _ at this
  rw [List.getD_eq_getElem?_getD, this]; rfl
set_option maxRecDepth 100000 in
set_option maxHeartbeats 1000000 in
theorem next_any (b : Nat) (cur : ByteArray) (hsz : cur.size ≤ 4294967280) (hpos : 0 < cur.size) (w : World) (h : RB w b cur) :
    Calls Tryz.prog 39 #[.pointer (some ⟨b, 0, none⟩)] w fun e w' => ∃ f, e = .returned (.func (.func f) #[.pointer (some ⟨b, 0, none⟩)] #[]) ∧ Below w.heap.size w w' ∧ NextIs f b cur := by
  have hcell := h.cell
  have hM := fun w => isMark_any cur w
  cases hmk : markL (bl cur) with
  | false =>
    rw [hmk] at hM
    have HM := Lib.hid hM
    have HN : Hid (NextIs 60 b cur) := Lib.hid ⟨fun W hW _ => by
      unfold oneL
      rw [hmk]
      exact words_any b cur hsz W hW, enters_of Tryz.func60 (by kernel_rfl) rfl⟩
    clear hM hmk h
    go_enter Tryz.func39, Tryz.ntmps39
    go_big_wp2_with (go_at_call 59; refine (HM.out _).mono ?_; rintro e w1 ⟨rfl, rfl⟩)
    go_ret
    exact ⟨_, rfl, Below.refl _ _, HN.out⟩
  | true =>
    have h1 : 1 < cur.size := by
      rcases Nat.lt_or_ge 1 cur.size with h | h
      · exact h
      · rw [mark_short cur (by omega)] at hmk; cases hmk
    have h1I : (1 : Int) < cur.size := by omega
    have hg := getD_at h1
    obtain ⟨y, hy⟩ : ∃ y, cur[1]'h1 = y := ⟨_, rfl⟩
    rw [hy] at hg
    rw [hmk] at hM
    have HM := Lib.hid hM
    have HL := Lib.hid (tisLetter_any y.toNat y.toNat_lt)
    have HR := Lib.hid h
    have e1 : oneL (bl cur) = if isL y then tagL 1 ((bl cur).drop 1) else if y = 47 then endL ((bl cur).drop 2) else if Lib.hasPrefix (bl cur) [60, 33, 45, 45] then commentL ((bl cur).drop 4) else if smallL ((bl cur).take 9) = doctypeB then doctypeL ((bl cur).drop 9) else .error 43 := by
      unfold oneL
      rw [hmk, hg]; rfl
    clear hM hmk h hg
    cases hl : isL y with
    | true =>
      rw [show isLet y.toNat = true from hl] at HL
      have HN : Hid (NextIs 62 b cur) := Lib.hid ⟨fun W hW hm => by
        rw [e1, hl, if_pos rfl]
        exact start_any b cur hsz (by omega) W hW hm, enters_of Tryz.func62 (by kernel_rfl) rfl⟩
      clear e1 hl
      go_enter Tryz.func39, Tryz.ntmps39
      go_big_wp2_with (first
        | (go_at_call 59; refine (HM.out _).mono ?_; rintro e w1 ⟨rfl, rfl⟩)
        | (go_at_call 61; refine (HL.out _).mono ?_; rintro e w2 ⟨rfl, rfl⟩))
      go_ret
      exact ⟨_, rfl, Below.refl _ _, HN.out⟩
    | false =>
      rw [show isLet y.toNat = false from hl] at HL
      rw [hl] at e1
      by_cases h47 : y = 47
      · have hi47 : ((y.toNat : Int) == 47) = true := by subst h47; rfl
        have HN : Hid (NextIs 63 b cur) := Lib.hid ⟨fun W hW hm => by
          rw [e1, if_neg (by decide), if_pos h47]
          exact end_any b cur hsz (by omega) W hW hm, enters_of Tryz.func63 (by kernel_rfl) rfl⟩
        clear e1 hl h47
        go_enter Tryz.func39, Tryz.ntmps39
        go_big_wp2_with (first
          | (go_at_call 59; refine (HM.out _).mono ?_; rintro e w1 ⟨rfl, rfl⟩)
          | (go_at_call 61; refine (HL.out _).mono ?_; rintro e w2 ⟨rfl, rfl⟩))
        go_ret
        exact ⟨_, rfl, Below.refl _ _, HN.out⟩
      · have hi47 : ((y.toNat : Int) == 47) = false := by
          rw [beq_eq_false_iff_ne]; intro e; apply h47; apply UInt8.toNat_inj.1; show y.toNat = 47; omega
        rw [if_neg (by decide), if_neg h47] at e1
        have hP := fun w => Tryz.strings_HasPrefix cur ⟨#[60, 33, 45, 45]⟩ w
        cases hp : Lib.hasPrefix (bl cur) [60, 33, 45, 45] with
        | true =>
          rw [show Lib.hasPrefix cur.data.toList (⟨#[60, 33, 45, 45]⟩ : ByteArray).data.toList = true from hp] at hP
          have HP := Lib.hid hP
          have h4 : 4 ≤ cur.size := by
            have := (List.isPrefixOf_iff_prefix.1 hp).length_le
            rw [bl_length] at this
            exact this
          have HN : Hid (NextIs 65 b cur) := Lib.hid ⟨fun W hW hm => by
            rw [e1, hp, if_pos rfl]
            exact comment_any b cur hsz h4 W hW hm, enters_of Tryz.func65 (by kernel_rfl) rfl⟩
          clear e1 hl hp hP h47
          go_enter Tryz.func39, Tryz.ntmps39
          go_big_wp2_with (first
            | (go_at_call 59; refine (HM.out _).mono ?_; rintro e w1 ⟨rfl, rfl⟩)
            | (go_at_call 61; refine (HL.out _).mono ?_; rintro e w2 ⟨rfl, rfl⟩)
            | (go_at_call 64; refine (HP.out _).mono ?_; rintro e w3 ⟨rfl, hw⟩; rw [hw]; clear hw))
          go_ret
          exact ⟨_, rfl, Below.refl _ _, HN.out⟩
        | false =>
          rw [show Lib.hasPrefix cur.data.toList (⟨#[60, 33, 45, 45]⟩ : ByteArray).data.toList = false from hp] at hP
          have HP := Lib.hid hP
          rw [hp, if_neg (by decide)] at e1
          obtain ⟨kk, hkk⟩ : ∃ kk : Nat, min (9 : Int) (cur.size : Int) = (kk : Int) := ⟨min 9 cur.size, by omega⟩
          have hkl : kk ≤ cur.size := by omega
          have hkI : (kk : Int) ≤ cur.size := by omega
          have htk : (bl cur).take kk = (bl cur).take 9 := by
            have := bl_length cur
            rcases Nat.lt_or_ge 9 cur.size with h | h
            · rw [show kk = 9 by omega]
            · rw [List.take_of_length_le (by omega), List.take_of_length_le (by omega)]
          have hS := fun w => small_any (cur.extract 0 kk) (by simp; omega) w
          rw [bl_take, htk] at hS
          obtain ⟨sm, hsm⟩ : ∃ sm, smallL ((bl cur).take 9) = sm := ⟨_, rfl⟩
          rw [hsm] at hS e1
          have HS := Lib.hid hS
          have hca : ∀ p : Over w, p.out.cell? ⟨b, 0, none⟩ = some (.string cur) := fun p => p.cell hcell
          have HE := Lib.hid e1
          have HSm := Lib.hid hsm
          clear hS hsm htk e1 hl hp hP h47
          go_enter Tryz.func39, Tryz.ntmps39
          go_big_wp2_with (first
            | (go_at_call 59; refine (HM.out _).mono ?_; rintro e w1 ⟨rfl, rfl⟩)
            | (go_at_call 61; refine (HL.out _).mono ?_; rintro e w2 ⟨rfl, rfl⟩)
            | (go_at_call 64; refine (HP.out _).mono ?_; rintro e w3 ⟨rfl, hw⟩; rw [hw]; clear hw))
          refine wp_region_below (by kernel_rfl) (by kernel_rfl) ?_
          repeat (go_big_quiet_step (first | (go_at_call 66; exact calls_over (HS.out _))))
          refine wpQuiet_nil ?_
          intro W hw'
          obtain ⟨q, rfl⟩ := hw'
          by_cases hd : sm = doctypeB
          · have h9 : 9 ≤ cur.size := by
              have := congrArg List.length (HSm.out.trans hd)
              rw [small_len, List.length_take, bl_length] at this
              change min 9 cur.size = 9 at this
              omega
            have HN : Hid (NextIs 67 b cur) := Lib.hid ⟨fun W hW hm => by
              rw [HE.out, if_pos hd]
              exact doctype_any b cur hsz h9 W hW hm, enters_of Tryz.func67 (by kernel_rfl) rfl⟩
            have hdb : (sm == [60, 33, 100, 111, 99, 116, 121, 112, 101]) = true := beq_iff_eq.2 hd
            rw [hdb]
            clear hd hdb
            go_big_wp2
            go_ret
            exact ⟨_, rfl, q.below, HN.out⟩
          · have HN : Hid (NextIs 68 b cur) := Lib.hid ⟨fun W hW hm => by
              rw [HE.out, if_neg hd]
              exact unknown_any b cur W hW, enters_of Tryz.func68 (by kernel_rfl) rfl⟩
            have hdb : (sm == [60, 33, 100, 111, 99, 116, 121, 112, 101]) = false := beq_eq_false_iff_ne.2 hd
            rw [hdb]
            clear hd hdb
            go_big_wp2
            go_ret
            exact ⟨_, rfl, q.below, HN.out⟩
end Go.Proofs.YtfjphhmbnhglcaaGreatDoor
