/-
  The reader of package token: the doctype, end tags; what reads next. Conditions: texts are no longer than 2^31 bytes.
-/
import Derived.Test.YtfjphhmbnhglcaaGreatDoorTOne2
namespace Go.TokenKit
open Go Go.Lib Go.CharrefKit
theorem attrsF_err : ∀ (f : Nat) (l : List At) (s : Bytes) (x : Nat), attrsF f l s = .error x → x = 40 ∨ x = 41 ∨ x = 3
  | 0, _, _, _, h => by simp only [attrsF, Except.error.injEq] at h; exact .inl h.symm
  | f + 1, l, s, x, h => by
    unfold attrsF at h
    split at h
    · simp only [Except.error.injEq] at h; exact .inl h.symm
    · split at h
      · cases h
      · split at h
        · split at h
          · simp only [Except.error.injEq] at h; exact .inl h.symm
          · split at h
            · cases h
            · simp only [Except.error.injEq] at h; exact .inl h.symm
        · split at h
          · simp only [Except.error.injEq] at h; exact .inr (.inl h.symm)
          · split at h
            · simp only [Except.error.injEq] at h; exact .inr (.inl h.symm)
            · split at h
              · simp only [Except.error.injEq] at h; exact .inr (.inr h.symm)
              · exact attrsF_err f _ _ x h
theorem tagL_err {k : Nat} {s : Bytes} {x : Nat} (h : tagL k s = .error x) : x = 40 ∨ x = 41 ∨ x = 3 := by
  unfold tagL at h
  split at h
  · split at h
    · rename_i e he
      simp only [Except.error.injEq] at h
      subst h
      exact attrsF_err _ _ _ _ he
    · cases h
  · simp only [Except.error.injEq] at h; exact .inl h.symm
end Go.TokenKit
namespace Go.Proofs.YtfjphhmbnhglcaaGreatDoor
open Go.RowKit Go.RunKit Go.CharrefKit Go.Lib Go.TokenKit

theorem trimS_len (l cs : List UInt8) : (Lib.trimS l cs).length ≤ l.length := by
  unfold Lib.trimS Lib.trimLeftS Lib.trimRightS
  refine Nat.le_trans (List.dropWhile_sublist _).length_le ?_
  rw [List.length_reverse]
  refine Nat.le_trans (List.dropWhile_sublist _).length_le ?_
  rw [List.length_reverse]; exact Nat.le_refl _
set_option maxRecDepth 100000 in
set_option maxHeartbeats 1000000 in
theorem doctype_any (b : Nat) (cur : ByteArray) (hsz : cur.size ≤ 4294967280) (h9 : 9 ≤ cur.size) (w : World) (h : RB w b cur) (hm : Maxed w b) : ReadsAs 67 (doctypeL ((bl cur).drop 9)) b w := by
  have HO := Lib.hid (OwnAt.start h)
  have hcell := HO.out.moved.rest.cell
  have h9I : (9 : Int) ≤ cur.size := by omega
  have HMx := Lib.hid (hm.grown HO.out.moved.grown)
  obtain ⟨m, hmm⟩ := HMx.out.ex
  have hts : (cur.extract 9 cur.size).size ≤ 4294967280 := by simp; omega
  have hcut := Tryz.strings_Cut (cur.extract 9 cur.size) ⟨#[62]⟩ m _ (by omega) hmm
  rw [show Lib.cut (cur.extract 9 cur.size).data.toList (⟨#[62]⟩ : ByteArray).data.toList = Lib.cut ((bl cur).drop 9) [62] from congrArg (Lib.cut · [62]) (bl_drop cur 9)] at hcut
  unfold doctypeL
  have hcl : (Lib.cut ((bl cur).drop 9) [62]).1.length ≤ (bl cur).length := by
    unfold Lib.cut
    split
    · simp; omega
    · simp
  obtain ⟨⟨d, r, z⟩, hd⟩ : ∃ x, Lib.cut ((bl cur).drop 9) [62] = x := ⟨_, rfl⟩
  rw [hd] at hcut hcl
  rw [hd]
  simp only at hcut hcl
  have htl := trimS_len d blanks
  have hds : (⟨d.toArray⟩ : ByteArray).size ≤ 4294967280 := by rw [← bl_length, bl_of]; rw [bl_length] at hcl; omega
  have hT := fun w => trim_any ⟨d.toArray⟩ ⟨#[9, 10, 12, 32]⟩ w (by omega) (by decide) (ascii_of_all (by decide))
  rw [bl_of, show bl (⟨#[9, 10, 12, 32]⟩ : ByteArray) = blanks from rfl] at hT
  obtain ⟨t, ht⟩ : ∃ t, Lib.trimS d blanks = t := ⟨_, rfl⟩
  rw [ht] at hT htl
  have HT := Lib.hid hT
  have HC := Lib.hid fun w => clone_any ⟨t.toArray⟩ w (by rw [← bl_length, bl_of]; rw [bl_length] at hcl; omega)
  have HCut := Lib.hid hcut
  obtain ⟨o, ho⟩ : ∃ o, (if z = true then Except.ok (⟨5, [], [], false, Lib.trimS d blanks⟩, r) else Except.error 43 : Except Nat (Tok × Bytes)) = o := ⟨_, rfl⟩
  rw [ho]
  rw [ht] at ho
  have HOo := Lib.hid ho
  clear h hm hmm hcut hcl hd hds hts ho hT htl ht
  unfold ReadsAs
  go_enter Tryz.func67, Tryz.ntmps67
  go_big_wp2_with (first
    | (go_at_call 104; refine HCut.out.mono ?_; rintro e w1 ⟨rfl, n, rfl⟩; have HO1 := Lib.hid (HO.out.below (below_drewN (Below.refl _ _) n)); have hf1 := HO1.out.moved.rest.frozen; have hc1 := HO1.out.moved.rest.cell; obtain ⟨⟨r0, r1, r2, r3, r4⟩, s0, s1, s2, s3, s4⟩ := local5 HO1.out.res)
    | (go_at_call 107; refine (HT.out _).mono ?_; rintro e w2 ⟨rfl, hb2⟩; have HO2 := Lib.hid ((HO1.out.on (Moved.set HO1.out.moved.rest ⟨r.toArray⟩)).below hb2))
    | (go_at_call 106; refine (HC.out _).mono ?_; rintro e w3 ⟨rfl, hb3⟩; have HO3 := Lib.hid (HO2.out.below hb3); obtain ⟨⟨t0, t1, t2, t3, t4⟩, u0, u1, u2, u3, u4⟩ := local5 HO3.out.res))
  · have hz : z = false := by
      have : (!z) = true := by assumption
      simpa using this
    exact own_err rfl HO1.out rfl rfl rfl (by rw [← HOo.out, hz]; rfl)
  · have hz : z = true := by
      have : (!z) = false := by assumption
      simpa using this
    refine own_end rfl HO3.out rfl rfl (fun _ => rfl) (k := 5) (n := ⟨#[]⟩) (ao := none) (m := 0) (cap := 0) (sf := false) ?_
    rw [← HOo.out, hz]
    exact ⟨rfl, rfl, rfl, rfl, World.ownsRow_nil _ _ _ _, rfl, rfl⟩

theorem told_len {t : Tok} {r : Bytes} {base k : Nat} {n : ByteArray} {ao : Option Addr} {m cap : Nat} {sf : Bool} {d : ByteArray} {e : Int} {c : ByteArray} {W : World} (h : ToldK (.ok (t, r)) base k n ao m cap sf d e c W) : m = t.attrs.length := by
  obtain ⟨ao', cap', e, _⟩ := h.2.2.2.2.1.reads
  cases e; rfl
theorem told_on {o : Except Nat (Tok × Bytes)} {base k : Nat} {n : ByteArray} {ao : Option Addr} {m cap : Nat} {sf : Bool} {d : ByteArray} {e : Int} {c : ByteArray} {W W' : World} (h : ToldK o base k n ao m cap sf d e c W) (hb : Below W.heap.size W W') : ToldK o base k n ao m cap sf d e c W' := by
  cases o with
  | error x => exact h
  | ok x =>
    obtain ⟨t, r⟩ := x
    obtain ⟨t1, t2, t3, t4, t5, t6, t7⟩ := h
    exact ⟨t1, t2, t3, t4, t5.on hb, t6, t7⟩
/-- What is wrong with an end tag is known when all of it is read. -/
theorem endL_cons (x : UInt8) (t : Bytes) : endL (x :: t) = if isL x then (match tagL 2 (x :: t) with
      | .error e => .error e
      | .ok (t, r') => if t.self || !t.attrs.isEmpty then .error 40 else .ok (t, r')) else .error 40 := rfl
set_option maxRecDepth 100000 in
set_option maxHeartbeats 2000000 in
theorem end_any (b : Nat) (cur : ByteArray) (hsz : cur.size ≤ 4294967280) (h2 : 2 ≤ cur.size) (w : World) (h : RB w b cur) (hm : Maxed w b) : ReadsAs 63 (endL ((bl cur).drop 2)) b w := by
  have HO := Lib.hid (OwnAt.start h)
  have HM := Lib.hid hm
  have HT := Lib.hid fun w h => take_any b cur 2 h2 w h
  have hs1 : (cur.extract 2 cur.size).size ≤ 4294967280 := by simp; omega
  have hG := fun w h hm => tag_told b 2 (cur.extract 2 cur.size) hs1 w h hm
  rw [bl_drop] at hG
  have hcb : bl (cur.extract 2 cur.size) = (bl cur).drop 2 := bl_drop _ _
  obtain ⟨c1, hc1⟩ : ∃ c, cur.extract 2 cur.size = c := ⟨_, rfl⟩
  rw [hc1] at hG HT hcb
  clear h hm hc1 hs1
  obtain ⟨o, hoo⟩ : ∃ o, endL ((bl cur).drop 2) = o := ⟨_, rfl⟩
  rw [hoo]
  unfold ReadsAs
  cases hb : (bl cur).drop 2 with
  | nil =>
    rw [hb] at hcb
    have hE : c1.toList = [] := by rw [Lib.toList_data]; exact hcb
    have hE1 : c1.toList.isEmpty = true := by simp [hE]
    rw [hb] at hoo
    have HOo := Lib.hid hoo
    clear hcb hb hG hoo
    go_enter Tryz.func63, Tryz.ntmps63
    go_big_wp2_with (first
      | (go_at_call 101; refine (HT.out _ HO.out.moved.rest).mono ?_; rintro e w1 ⟨rfl, hm1⟩; have HO1 := Lib.hid (HO.out.on hm1); have hc := HO1.out.moved.rest.cell; obtain ⟨⟨r0, r1, r2, r3, r4⟩, s0, s1, s2, s3, s4⟩ := local5 HO1.out.res))
    exact own_err (x := 40) (er := 40) rfl HO1.out rfl rfl rfl HOo.out.symm
  | cons x t =>
    rw [hb] at hcb hG
    have hpos : 0 < c1.size := by rw [← bl_length, hcb]; simp
    have hx0 : c1[0]'hpos = x := by
      have := Lib.data_getElem? c1 0 hpos
      change (bl c1)[0]? = _ at this
      rw [hcb] at this
      simpa using this.symm
    have hne0 : ¬ c1.toList = [] := by rw [Lib.toList_data]; intro h; rw [show c1.data.toList = bl c1 from rfl, hcb] at h; cases h
    have hne1 : c1.toList.isEmpty = false := by simpa using hne0
    have HL := Lib.hid (tisLetter_any x.toNat x.toNat_lt)
    rw [hb, endL_cons] at hoo
    cases hl : isL x with
    | false =>
      rw [show isLet x.toNat = false from hl] at HL
      rw [hl] at hoo
      have HOo := Lib.hid hoo
      clear hcb hb hG hl hoo
      go_enter Tryz.func63, Tryz.ntmps63
      go_big_wp2_with (first
        | (go_at_call 101; refine (HT.out _ HO.out.moved.rest).mono ?_; rintro e w1 ⟨rfl, hm1⟩; have HO1 := Lib.hid (HO.out.on hm1); have hc := HO1.out.moved.rest.cell; obtain ⟨⟨r0, r1, r2, r3, r4⟩, s0, s1, s2, s3, s4⟩ := local5 HO1.out.res)
        | (go_at_call 61; refine (HL.out _).mono ?_; rintro e w2 ⟨rfl, rfl⟩))
      exact own_err (x := 40) (er := 40) rfl HO1.out rfl rfl rfl HOo.out.symm
    | true =>
      rw [show isLet x.toNat = true from hl] at HL
      rw [hl] at hoo
      cases ho : tagL 2 (x :: t) with
      | error y =>
        rw [ho] at hG hoo
        have HOo := Lib.hid hoo
        have hy0 : ¬ y = 0 := by have := tagL_err ho; omega
        have hyI : ¬ (y : Int) = 0 := by omega
        have HG := Lib.hid hG
        clear hcb hb hG hl ho hoo
        go_enter Tryz.func63, Tryz.ntmps63
        go_big_wp2_with (first
          | (go_at_call 101; refine (HT.out _ HO.out.moved.rest).mono ?_; rintro e w1 ⟨rfl, hm1⟩; have HO1 := Lib.hid (HO.out.on hm1); have hc := HO1.out.moved.rest.cell)
          | (go_at_call 61; refine (HL.out _).mono ?_; rintro e w2 ⟨rfl, rfl⟩)
          | (go_at_call 102; refine (HG.out _ HO1.out.moved.rest (HM.out.grown HO1.out.moved.grown)).mono ?_; rintro e w3 ⟨k, n, ao, m, cap, sf, d, er, c, rfl, hm3, hK⟩; have HO3 := Lib.hid (HO1.out.on hm3); obtain ⟨hK1, hK2, hK3, hK4, hK5, hK6, hK7, hK8⟩ := hK; subst hK1; subst hK2; subst hK3; subst hK4; subst hK5; subst hK6; subst hK7; subst hK8; have HO4 := Lib.hid (HO3.out.below ((Below.refl _ _).alloc (Nat.le_refl _) (.cells #[.int .u8 0, .string ⟨#[]⟩, .slice none 0 0, .bool false, .string ⟨#[]⟩] 33))); obtain ⟨⟨r0, r1, r2, r3, r4⟩, s0, s1, s2, s3, s4⟩ := local5 HO4.out.res))
        exact own_err (x := y) (er := y) rfl HO4.out rfl rfl rfl HOo.out.symm
      | ok y =>
        obtain ⟨tk, r⟩ := y
        rw [ho] at hG hoo
        obtain ⟨tk1, tk2, tk3, tk4, tk5⟩ := tk
        simp only at hoo
        cases tk4 with
        | true =>
          have HOo := Lib.hid hoo
          have HG := Lib.hid hG
          clear hcb hb hG hl ho hoo
          go_enter Tryz.func63, Tryz.ntmps63
          go_big_wp2_with (first
            | (go_at_call 101; refine (HT.out _ HO.out.moved.rest).mono ?_; rintro e w1 ⟨rfl, hm1⟩; have HO1 := Lib.hid (HO.out.on hm1); have hc := HO1.out.moved.rest.cell)
            | (go_at_call 61; refine (HL.out _).mono ?_; rintro e w2 ⟨rfl, rfl⟩)
            | (go_at_call 102; refine (HG.out _ HO1.out.moved.rest (HM.out.grown HO1.out.moved.grown)).mono ?_; rintro e w3 ⟨k, n, ao, m, cap, sf, d, er, c, rfl, hm3, hK⟩; have HO3 := Lib.hid (HO1.out.on hm3); have hsf : sf = true := hK.2.2.2.2.2.1; have her : er = 0 := hK.1; have hml := told_len hK; subst hsf; subst her; clear hml; have HK := Lib.hid hK; clear hK; have HO4 := Lib.hid (HO3.out.below ((Below.refl _ _).alloc (Nat.le_refl _) (.cells #[.int .u8 ((k : Nat) : Int), .string n, .slice ao m cap, .bool true, .string d] 33))); obtain ⟨⟨r0, r1, r2, r3, r4⟩, s0, s1, s2, s3, s4⟩ := local5 HO4.out.res))
          exact own_err (x := 40) (er := 40) rfl HO4.out rfl rfl rfl (HOo.out.symm.trans (by rfl))
        | false =>
          cases tk3 with
          | nil =>
            have HOo := Lib.hid hoo
            have HG := Lib.hid hG
            clear hcb hb hG hl ho hoo
            go_enter Tryz.func63, Tryz.ntmps63
            go_big_wp2_with (first
              | (go_at_call 101; refine (HT.out _ HO.out.moved.rest).mono ?_; rintro e w1 ⟨rfl, hm1⟩; have HO1 := Lib.hid (HO.out.on hm1); have hc := HO1.out.moved.rest.cell)
              | (go_at_call 61; refine (HL.out _).mono ?_; rintro e w2 ⟨rfl, rfl⟩)
              | (go_at_call 102; refine (HG.out _ HO1.out.moved.rest (HM.out.grown HO1.out.moved.grown)).mono ?_; rintro e w3 ⟨k, n, ao, m, cap, sf, d, er, c, rfl, hm3, hK⟩; have HO3 := Lib.hid (HO1.out.on hm3); have hsf : sf = false := hK.2.2.2.2.2.1; have her : er = 0 := hK.1; have hml := told_len hK; subst hsf; subst her; have hm0 : m = 0 := hml; clear hml; subst hm0; have HK := Lib.hid hK; clear hK; have HO4 := Lib.hid (HO3.out.below ((Below.refl _ _).alloc (Nat.le_refl _) (.cells #[.int .u8 ((k : Nat) : Int), .string n, .slice ao 0 cap, .bool false, .string d] 33))); obtain ⟨⟨r0, r1, r2, r3, r4⟩, s0, s1, s2, s3, s4⟩ := local5 HO4.out.res))
            refine own_end rfl HO4.out rfl rfl (fun _ => rfl) ?_
            rw [← HOo.out]
            exact told_on (told_mono HK.out HO1.out.lt2) ((Below.refl _ _).alloc (Nat.le_refl _) _)
          | cons a0 l0 =>
            have HOo := Lib.hid hoo
            have HG := Lib.hid hG
            clear hcb hb hG hl ho hoo
            go_enter Tryz.func63, Tryz.ntmps63
            go_big_wp2_with (first
              | (go_at_call 101; refine (HT.out _ HO.out.moved.rest).mono ?_; rintro e w1 ⟨rfl, hm1⟩; have HO1 := Lib.hid (HO.out.on hm1); have hc := HO1.out.moved.rest.cell)
              | (go_at_call 61; refine (HL.out _).mono ?_; rintro e w2 ⟨rfl, rfl⟩)
              | (go_at_call 102; refine (HG.out _ HO1.out.moved.rest (HM.out.grown HO1.out.moved.grown)).mono ?_; rintro e w3 ⟨k, n, ao, m, cap, sf, d, er, c, rfl, hm3, hK⟩; have HO3 := Lib.hid (HO1.out.on hm3); have hsf : sf = false := hK.2.2.2.2.2.1; have her : er = 0 := hK.1; have hml := told_len hK; subst hsf; subst her; have hmI : (0 : Int) < (m : Int) := (by have hml : m = l0.length + 1 := hml; omega); clear hml; have HK := Lib.hid hK; clear hK; have HO4 := Lib.hid (HO3.out.below ((Below.refl _ _).alloc (Nat.le_refl _) (.cells #[.int .u8 ((k : Nat) : Int), .string n, .slice ao m cap, .bool false, .string d] 33))); obtain ⟨⟨r0, r1, r2, r3, r4⟩, s0, s1, s2, s3, s4⟩ := local5 HO4.out.res))
            exact own_err (x := 40) (er := 40) rfl HO4.out rfl rfl rfl (HOo.out.symm.trans (by rfl))
end Go.Proofs.YtfjphhmbnhglcaaGreatDoor
