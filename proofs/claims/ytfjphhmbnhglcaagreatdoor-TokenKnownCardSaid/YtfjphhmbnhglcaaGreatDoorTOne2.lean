/-
  The reader of package token: texts, comments, the doctype, end tags. Conditions: texts are no longer than 2^31 bytes.
-/
import Derived.Test.YtfjphhmbnhglcaaGreatDoorTOne
namespace Go.Proofs.YtfjphhmbnhglcaaGreatDoor
open Go.RowKit Go.RunKit Go.CharrefKit Go.Lib Go.TokenKit

set_option maxRecDepth 100000 in
set_option maxHeartbeats 400000 in
theorem clone_any (s : ByteArray) (w : World) (h : s.size ≤ 281474976710656) : Calls Tryz.prog 106 #[.string s] w fun e w' => e = .returned (.string s) ∧ Below w.heap.size w w' := by
  have HC := Lib.hid (Tryz.stringslite_Clone s w h)
  clear h
  go_enter Tryz.func106, Tryz.ntmps106
  go_wp2_with (go_at_call 143; refine HC.out.mono ?_; rintro e w1 ⟨rfl, hb⟩)
  go_ret
  exact ⟨rfl, hb⟩

set_option maxRecDepth 100000 in
set_option maxHeartbeats 1000000 in
theorem words_any (b : Nat) (cur : ByteArray) (hsz : cur.size ≤ 4294967280) (w : World) (h : RB w b cur) : ReadsAs 60 (.ok (⟨3, [], [], false, decodeL false ((bl cur).take (wordsN (bl cur)))⟩, (bl cur).drop (wordsN (bl cur)))) b w := by
  have HO := Lib.hid (OwnAt.start h)
  have hlen := bl_length cur
  have hcell := HO.out.moved.rest.cell
  clear h
  unfold ReadsAs
  go_enter Tryz.func60, Tryz.ntmps60
  go_big_wp2
  go_loop [4] (fun v => ∃ n : Nat, v = .int .i64 (n : Nat) ∧ n ≤ cur.size ∧ Hid (∀ j, j < n → markL ((bl cur).drop j) = false)) (fun v => cur.size - (RowKit.intOf v).toNat)
  case atStart => exact ⟨0, rfl, Nat.zero_le _, Lib.hid fun j h => by omega⟩
  case round =>
    obtain ⟨n, rfl, hn, HA⟩ := hrel
    have hfin : (n = (bl cur).length ∨ markL ((bl cur).drop n) = true) → wordsN (bl cur) = n := fun h => wordsN_eq (bl cur) n (by omega) HA.out h
    have hK := fun w h => take_any b cur n hn w h
    rw [show cur.extract 0 n = ⟨((bl cur).take n).toArray⟩ from eq_mk (bl_take _ _), show cur.extract n cur.size = ⟨((bl cur).drop n).toArray⟩ from eq_mk (bl_drop _ _)] at hK
    have hD := fun w => decode_any false ⟨((bl cur).take n).toArray⟩ (by rw [← bl_length, bl_of]; simp; omega) w
    rw [bl_of] at hD
    have HF := Lib.hid hfin
    have HK := Lib.hid hK
    have HD := Lib.hid hD
    clear hfin hK hD
    by_cases hlt : n < cur.size
    · have hI : (n : Int) < cur.size := by omega
      have hI2 : (n : Int) ≤ cur.size := by omega
      have hM := fun w => isMark_any (cur.extract n cur.size) w
      rw [bl_drop] at hM
      cases hmk : markL ((bl cur).drop n) with
      | false =>
        rw [hmk] at hM
        have HM := Lib.hid hM
        have HN : Hid (∀ j, j < n + 1 → markL ((bl cur).drop j) = false) := Lib.hid fun j hj => by
          by_cases e : j = n
          · subst e; exact hmk
          · exact HA.out j (by omega)
        clear hM hmk
        go_big_wp2_with (go_at_call 59; refine (HM.out _).mono ?_; rintro e w1 ⟨rfl, rfl⟩)
        exact ⟨⟨n + 1, rfl, by omega, HN⟩, by simp [RowKit.intOf]; omega⟩
      | true =>
        rw [hmk] at hM
        have HM := Lib.hid hM
        have HWN := Lib.hid (HF.out (.inr hmk))
        clear hM hmk
        go_big_wp2_with (first
          | (go_at_call 59; refine (HM.out _).mono ?_; rintro e w1 ⟨rfl, rfl⟩)
          | (go_at_call 101; refine (HK.out _ HO.out.moved.rest).mono ?_; rintro e w2 ⟨rfl, hm2⟩; have HO2 := Lib.hid (HO.out.on hm2))
          | (go_at_call 100; refine (HD.out _).mono ?_; rintro e w3 ⟨rfl, hb3⟩; have HO3 := Lib.hid (HO2.out.below hb3); obtain ⟨⟨r0, r1, r2, r3, r4⟩, s0, s1, s2, s3, s4⟩ := local5 HO3.out.res))
        refine own_end rfl HO3.out rfl rfl (fun _ => rfl) (k := 3) (n := ⟨#[]⟩) (ao := none) (m := 0) (cap := 0) (sf := false) ?_
        rw [HWN.out]
        exact ⟨rfl, rfl, rfl, rfl, World.ownsRow_nil _ _ _ _, rfl, rfl⟩
    · obtain rfl : n = cur.size := by omega
      have HWN := Lib.hid (HF.out (.inl hlen.symm))
      go_big_wp2_with (first
          | (go_at_call 101; refine (HK.out _ HO.out.moved.rest).mono ?_; rintro e w2 ⟨rfl, hm2⟩; have HO2 := Lib.hid (HO.out.on hm2))
          | (go_at_call 100; refine (HD.out _).mono ?_; rintro e w3 ⟨rfl, hb3⟩; have HO3 := Lib.hid (HO2.out.below hb3); obtain ⟨⟨r0, r1, r2, r3, r4⟩, s0, s1, s2, s3, s4⟩ := local5 HO3.out.res))
      refine own_end rfl HO3.out rfl rfl (fun _ => rfl) (k := 3) (n := ⟨#[]⟩) (ao := none) (m := 0) (cap := 0) (sf := false) ?_
      rw [HWN.out]
      exact ⟨rfl, rfl, rfl, rfl, World.ownsRow_nil _ _ _ _, rfl, rfl⟩

set_option maxRecDepth 100000 in
set_option maxHeartbeats 1000000 in
theorem mayBe_any (d : ByteArray) (hsz : d.size ≤ 4294967280) (b : Nat) (w : World) (hm : Maxed w b) : Calls Tryz.prog 105 #[.string d] w fun e w' => e = .returned (.bool (mayL (bl d))) ∧ w' = w := by
  obtain ⟨m, hmm⟩ := hm.ex
  have H1 := Lib.hid fun w => Tryz.strings_HasPrefix d ⟨#[62]⟩ w
  have H2 := Lib.hid fun w => Tryz.strings_HasPrefix d ⟨#[45, 62]⟩ w
  have H3 := Lib.hid (Tryz.strings_Contains d ⟨#[45, 45, 33, 62]⟩ m w (by omega) hmm)
  have H4 := Lib.hid (Tryz.strings_Contains d ⟨#[60, 33, 45, 45]⟩ m w (by omega) hmm)
  have H5 := Lib.hid fun w => Tryz.strings_HasSuffix d ⟨#[60, 33, 45]⟩ w (by omega)
  unfold mayL
  obtain ⟨z1, e1⟩ : ∃ z, Lib.hasPrefix (bl d) [62] = z := ⟨_, rfl⟩
  obtain ⟨z2, e2⟩ : ∃ z, Lib.hasPrefix (bl d) [45, 62] = z := ⟨_, rfl⟩
  obtain ⟨z3, e3⟩ : ∃ z, Lib.contains (bl d) [45, 45, 33, 62] = z := ⟨_, rfl⟩
  obtain ⟨z4, e4⟩ : ∃ z, Lib.contains (bl d) [60, 33, 45, 45] = z := ⟨_, rfl⟩
  obtain ⟨z5, e5⟩ : ∃ z, Lib.hasSuffix (bl d) [60, 33, 45] = z := ⟨_, rfl⟩
  rw [show Lib.hasPrefix d.data.toList (⟨#[62]⟩ : ByteArray).data.toList = z1 from e1] at H1
  rw [show Lib.hasPrefix d.data.toList (⟨#[45, 62]⟩ : ByteArray).data.toList = z2 from e2] at H2
  rw [show Lib.contains d.data.toList (⟨#[45, 45, 33, 62]⟩ : ByteArray).data.toList = z3 from e3] at H3
  rw [show Lib.contains d.data.toList (⟨#[60, 33, 45, 45]⟩ : ByteArray).data.toList = z4 from e4] at H4
  rw [show Lib.hasSuffix d.data.toList (⟨#[60, 33, 45]⟩ : ByteArray).data.toList = z5 from e5] at H5
  rw [e1, e2, e3, e4, e5]
  clear e1 e2 e3 e4 e5 hm hmm
  go_enter Tryz.func105, Tryz.ntmps105
  go_big_wp2_with (first
    | (go_at_call_of 64 (Value.string ⟨#[62]⟩); refine (H1.out _).mono ?_; rintro e w1 ⟨rfl, hw⟩; rw [hw]; clear hw)
    | (go_at_call_of 64 (Value.string ⟨#[45, 62]⟩); refine (H2.out _).mono ?_; rintro e w1 ⟨rfl, hw⟩; rw [hw]; clear hw)
    | (go_at_call_of 141 (Value.string ⟨#[45, 45, 33, 62]⟩); refine H3.out.mono ?_; rintro e w1 ⟨rfl, hw⟩; rw [hw]; clear hw)
    | (go_at_call_of 141 (Value.string ⟨#[60, 33, 45, 45]⟩); refine H4.out.mono ?_; rintro e w1 ⟨rfl, hw⟩; rw [hw]; clear hw)
    | (go_at_call 142; refine (H5.out _).mono ?_; rintro e w1 ⟨rfl, hw⟩; rw [hw]; clear hw))
  all_goals (go_ret; refine ⟨ret1_eq (congrArg Value.bool ?_), rfl⟩; simp_all)

set_option maxRecDepth 100000 in
set_option maxHeartbeats 1000000 in
theorem comment_any (b : Nat) (cur : ByteArray) (hsz : cur.size ≤ 4294967280) (h4 : 4 ≤ cur.size) (w : World) (h : RB w b cur) (hm : Maxed w b) : ReadsAs 65 (commentL ((bl cur).drop 4)) b w := by
  have HO := Lib.hid (OwnAt.start h)
  have hcell := HO.out.moved.rest.cell
  have hfz := HO.out.moved.rest.frozen
  have h4I : (4 : Int) ≤ cur.size := by omega
  have HMx := Lib.hid (hm.grown HO.out.moved.grown)
  obtain ⟨m, hmm⟩ := HMx.out.ex
  have hts : (cur.extract 4 cur.size).size ≤ 4294967280 := by simp; omega
  have hcut := Tryz.strings_Cut (cur.extract 4 cur.size) ⟨#[45, 45, 62]⟩ m _ (by omega) hmm
  rw [show Lib.cut (cur.extract 4 cur.size).data.toList (⟨#[45, 45, 62]⟩ : ByteArray).data.toList = Lib.cut ((bl cur).drop 4) [45, 45, 62] from congrArg (Lib.cut · [45, 45, 62]) (bl_drop cur 4)] at hcut
  unfold commentL
  have hcl : (Lib.cut ((bl cur).drop 4) [45, 45, 62]).1.length ≤ (bl cur).length := by
    unfold Lib.cut
    split
    · simp; omega
    · simp
  obtain ⟨⟨d, r, z⟩, hd⟩ : ∃ x, Lib.cut ((bl cur).drop 4) [45, 45, 62] = x := ⟨_, rfl⟩
  rw [hd] at hcut hcl
  rw [hd]
  simp only at hcut hcl
  have hds : (⟨d.toArray⟩ : ByteArray).size ≤ 4294967280 := by rw [← bl_length, bl_of]; rw [bl_length] at hcl; omega
  have HB := Lib.hid fun w hm => mayBe_any ⟨d.toArray⟩ hds b w hm
  rw [bl_of] at HB
  obtain ⟨y, hy⟩ : ∃ y, mayL d = y := ⟨_, rfl⟩
  rw [hy] at HB
  rw [hy]
  have HC := Lib.hid fun w => clone_any ⟨d.toArray⟩ w (by omega)
  have HCut := Lib.hid hcut
  obtain ⟨o, ho⟩ : ∃ o, (if (z && y) = true then Except.ok (⟨4, [], [], false, d⟩, r) else Except.error 43 : Except Nat (Tok × Bytes)) = o := ⟨_, rfl⟩
  rw [ho]
  have HOo := Lib.hid ho
  clear h hm hmm hcut hcl hd hds hy hts ho
  unfold ReadsAs
  go_enter Tryz.func65, Tryz.ntmps65
  go_big_wp2_with (first
    | (go_at_call 104; refine HCut.out.mono ?_; rintro e w1 ⟨rfl, n, rfl⟩; have HO1 := Lib.hid (HO.out.below (below_drewN (Below.refl _ _) n)); have hf1 := HO1.out.moved.rest.frozen; have hc1 := HO1.out.moved.rest.cell; obtain ⟨⟨r0, r1, r2, r3, r4⟩, s0, s1, s2, s3, s4⟩ := local5 HO1.out.res)
    | (go_at_call 105; refine (HB.out _ (HMx.out.below (below_drewN (Below.refl _ _) n))).mono ?_; rintro e w2 ⟨rfl, hw⟩; rw [hw]; clear hw)
    | (go_at_call 106; refine (HC.out _).mono ?_; rintro e w3 ⟨rfl, hb3⟩; have HO3 := Lib.hid ((HO1.out.on (Moved.set HO1.out.moved.rest ⟨r.toArray⟩)).below hb3); obtain ⟨⟨t0, t1, t2, t3, t4⟩, u0, u1, u2, u3, u4⟩ := local5 HO3.out.res))
  · have hy : y = false := by
      have : (!y) = true := by assumption
      simpa using this
    have hz : z = true := by assumption
    exact own_err rfl HO1.out rfl rfl rfl (by rw [← HOo.out, hz, hy]; rfl)
  · have hy : y = true := by
      have : (!y) = false := by assumption
      simpa using this
    have hz : z = true := by assumption
    refine own_end rfl HO3.out rfl rfl (fun _ => rfl) (k := 4) (n := ⟨#[]⟩) (ao := none) (m := 0) (cap := 0) (sf := false) ?_
    rw [← HOo.out, hz, hy]
    exact ⟨rfl, rfl, rfl, rfl, World.ownsRow_nil _ _ _ _, rfl, rfl⟩
  · have hz : z = false := by
      have : ¬ z = true := by assumption
      simpa using this
    exact own_err rfl HO1.out rfl rfl rfl (by rw [← HOo.out, hz]; rfl)
end Go.Proofs.YtfjphhmbnhglcaaGreatDoor
