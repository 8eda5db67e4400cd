/-
  The reader of package token: texts, comments, the doctype, end tags. Conditions: texts are no longer than 2^31 bytes.
  The reader of package token: the doctype, end tags; what reads next. Conditions: texts are no longer than 2^31 bytes.
  The reader of package token: what reads next. Conditions: texts are no longer than 2^31 bytes.
-/
import Derived.Test.YtnfkndaggcklkaaGreatDoorPA7
namespace Go.Proofs.YtnfkndaggcklkaaGreatDoor
open Go.RowKit Go.RunKit Go.CharrefKit Go.Lib Go.TokenKit

set_option maxRecDepth 100000 in
set_option maxHeartbeats 400000 in
theorem clone_any (s : ByteArray) (w : World) (h : s.size ≤ 281474976710656) : Calls Tryz.prog 131 #[.string s] w fun e w' => e = .returned (.string s) ∧ Below w.heap.size w w' := by
  have HC := Lib.hid (Tryz.stringslite_Clone s w h)
  clear h
  go_enter Tryz.func131, Tryz.ntmps131
  go_wp2_with (go_at_call 159; refine HC.out.mono ?_; rintro e w1 ⟨rfl, hb⟩)
  go_ret
  exact ⟨rfl, hb⟩

set_option maxRecDepth 100000 in
set_option maxHeartbeats 1000000 in
theorem words_any (b : Nat) (cur : ByteArray) (hsz : cur.size ≤ 4294967280) (w : World) (h : RB w b cur) : ReadsAs 105 (.ok (⟨3, [], [], false, decodeL false ((bl cur).take (wordsN (bl cur)))⟩, (bl cur).drop (wordsN (bl cur)))) b w := by
  have HO := Lib.hid (OwnAt.start h)
  have hlen := bl_length cur
  have hcell := HO.out.moved.rest.cell
  clear h
  unfold ReadsAs
  go_enter Tryz.func105, Tryz.ntmps105
  go_big_wp2
  go_loop [4] (fun v => ∃ n : Nat, v = .int .i64 (n : Nat) ∧ n ≤ cur.size ∧ Hid (∀ j, j < n → markL ((bl cur).drop j) = false)) (fun v => cur.size - (RowKit.intOf v).toNat)
  case atStart => exact ⟨0, rfl, Nat.zero_le _, Lib.hid fun j h => by omega⟩
  case round =>
    obtain ⟨n, rfl, hn, HA⟩ := hrel
    have hfin : (n = (bl cur).length ∨ markL ((bl cur).drop n) = true) → wordsN (bl cur) = n := fun h => wordsN_eq (bl cur) n (by omega) HA.out h
    have hK := fun w h => take_any b cur n hn w h
    rw [show cur.extract 0 n = ⟨((bl cur).take n).toArray⟩ from eq_mk (bl_take _ _), show cur.extract n cur.size = ⟨((bl cur).drop n).toArray⟩ from eq_mk (bl_drop _ _)] at hK
    have hD := fun w => decode_any false ⟨((bl cur).take n).toArray⟩ (by rw [← bl_length, bl_of]; simp; omega) w
    rw [bl_of] at hD
    have HF := Lib.hid hfin
    have HK := Lib.hid hK
    have HD := Lib.hid hD
    clear hfin hK hD
    by_cases hlt : n < cur.size
    · have hI : (n : Int) < cur.size := by omega
      have hI2 : (n : Int) ≤ cur.size := by omega
      have hM := fun w => isMark_any (cur.extract n cur.size) w
      rw [bl_drop] at hM
      cases hmk : markL ((bl cur).drop n) with
      | false =>
        rw [hmk] at hM
        have HM := Lib.hid hM
        have HN : Hid (∀ j, j < n + 1 → markL ((bl cur).drop j) = false) := Lib.hid fun j hj => by
          by_cases e : j = n
          · subst e; exact hmk
          · exact HA.out j (by omega)
        clear hM hmk
        go_big_wp2_with (go_at_call 104; refine (HM.out _).mono ?_; rintro e w1 ⟨rfl, rfl⟩)
        exact ⟨⟨n + 1, rfl, by omega, HN⟩, by simp [RowKit.intOf]; omega⟩
      | true =>
        rw [hmk] at hM
        have HM := Lib.hid hM
        have HWN := Lib.hid (HF.out (.inr hmk))
        clear hM hmk
        go_big_wp2_with (first
          | (go_at_call 104; refine (HM.out _).mono ?_; rintro e w1 ⟨rfl, rfl⟩)
          | (go_at_call 138; refine (HK.out _ HO.out.moved.rest).mono ?_; rintro e w2 ⟨rfl, hm2⟩; have HO2 := Lib.hid (HO.out.on hm2))
          | (go_at_call 137; refine (HD.out _).mono ?_; rintro e w3 ⟨rfl, hb3⟩; have HO3 := Lib.hid (HO2.out.below hb3); obtain ⟨⟨r0, r1, r2, r3, r4⟩, s0, s1, s2, s3, s4⟩ := local5 HO3.out.res))
        refine own_end rfl HO3.out rfl rfl (fun _ => rfl) (k := 3) (n := ⟨#[]⟩) (ao := none) (m := 0) (cap := 0) (sf := false) ?_
        rw [HWN.out]
        exact ⟨rfl, rfl, rfl, rfl, World.ownsRow_nil _ _ _ _, rfl, rfl⟩
    · obtain rfl : n = cur.size := by omega
      have HWN := Lib.hid (HF.out (.inl hlen.symm))
      go_big_wp2_with (first
          | (go_at_call 138; refine (HK.out _ HO.out.moved.rest).mono ?_; rintro e w2 ⟨rfl, hm2⟩; have HO2 := Lib.hid (HO.out.on hm2))
          | (go_at_call 137; refine (HD.out _).mono ?_; rintro e w3 ⟨rfl, hb3⟩; have HO3 := Lib.hid (HO2.out.below hb3); obtain ⟨⟨r0, r1, r2, r3, r4⟩, s0, s1, s2, s3, s4⟩ := local5 HO3.out.res))
      refine own_end rfl HO3.out rfl rfl (fun _ => rfl) (k := 3) (n := ⟨#[]⟩) (ao := none) (m := 0) (cap := 0) (sf := false) ?_
      rw [HWN.out]
      exact ⟨rfl, rfl, rfl, rfl, World.ownsRow_nil _ _ _ _, rfl, rfl⟩

set_option maxRecDepth 100000 in
set_option maxHeartbeats 1000000 in
theorem mayBe_any (d : ByteArray) (hsz : d.size ≤ 4294967280) (b : Nat) (w : World) (hm : Maxed w b) : Calls Tryz.prog 142 #[.string d] w fun e w' => e = .returned (.bool (mayL (bl d))) ∧ w' = w := by
  obtain ⟨m, hmm⟩ := hm.ex
  have H1 := Lib.hid fun w => Tryz.strings_HasPrefix d ⟨#[62]⟩ w
  have H2 := Lib.hid fun w => Tryz.strings_HasPrefix d ⟨#[45, 62]⟩ w
  have H3 := Lib.hid (Tryz.strings_Contains d ⟨#[45, 45, 33, 62]⟩ m w (by omega) hmm)
  have H4 := Lib.hid (Tryz.strings_Contains d ⟨#[60, 33, 45, 45]⟩ m w (by omega) hmm)
  have H5 := Lib.hid fun w => Tryz.strings_HasSuffix d ⟨#[60, 33, 45]⟩ w (by omega)
  unfold mayL
  obtain ⟨z1, e1⟩ : ∃ z, Lib.hasPrefix (bl d) [62] = z := ⟨_, rfl⟩
  obtain ⟨z2, e2⟩ : ∃ z, Lib.hasPrefix (bl d) [45, 62] = z := ⟨_, rfl⟩
  obtain ⟨z3, e3⟩ : ∃ z, Lib.contains (bl d) [45, 45, 33, 62] = z := ⟨_, rfl⟩
  obtain ⟨z4, e4⟩ : ∃ z, Lib.contains (bl d) [60, 33, 45, 45] = z := ⟨_, rfl⟩
  obtain ⟨z5, e5⟩ : ∃ z, Lib.hasSuffix (bl d) [60, 33, 45] = z := ⟨_, rfl⟩
  rw [show Lib.hasPrefix d.data.toList (⟨#[62]⟩ : ByteArray).data.toList = z1 from e1] at H1
  rw [show Lib.hasPrefix d.data.toList (⟨#[45, 62]⟩ : ByteArray).data.toList = z2 from e2] at H2
  rw [show Lib.contains d.data.toList (⟨#[45, 45, 33, 62]⟩ : ByteArray).data.toList = z3 from e3] at H3
  rw [show Lib.contains d.data.toList (⟨#[60, 33, 45, 45]⟩ : ByteArray).data.toList = z4 from e4] at H4
  rw [show Lib.hasSuffix d.data.toList (⟨#[60, 33, 45]⟩ : ByteArray).data.toList = z5 from e5] at H5
  rw [e1, e2, e3, e4, e5]
  clear e1 e2 e3 e4 e5 hm hmm
  go_enter Tryz.func142, Tryz.ntmps142
  go_big_wp2_with (first
    | (go_at_call_of 109 (Value.string ⟨#[62]⟩); refine (H1.out _).mono ?_; rintro e w1 ⟨rfl, hw⟩; rw [hw]; clear hw)
    | (go_at_call_of 109 (Value.string ⟨#[45, 62]⟩); refine (H2.out _).mono ?_; rintro e w1 ⟨rfl, hw⟩; rw [hw]; clear hw)
    | (go_at_call_of 169 (Value.string ⟨#[45, 45, 33, 62]⟩); refine H3.out.mono ?_; rintro e w1 ⟨rfl, hw⟩; rw [hw]; clear hw)
    | (go_at_call_of 169 (Value.string ⟨#[60, 33, 45, 45]⟩); refine H4.out.mono ?_; rintro e w1 ⟨rfl, hw⟩; rw [hw]; clear hw)
    | (go_at_call 170; refine (H5.out _).mono ?_; rintro e w1 ⟨rfl, hw⟩; rw [hw]; clear hw))
  all_goals (go_ret; refine ⟨ret1_eq (congrArg Value.bool ?_), rfl⟩; simp_all)

set_option maxRecDepth 100000 in
set_option maxHeartbeats 1000000 in
theorem comment_any (b : Nat) (cur : ByteArray) (hsz : cur.size ≤ 4294967280) (h4 : 4 ≤ cur.size) (w : World) (h : RB w b cur) (hm : Maxed w b) : ReadsAs 110 (commentL ((bl cur).drop 4)) b w := by
  have HO := Lib.hid (OwnAt.start h)
  have hcell := HO.out.moved.rest.cell
  have hfz := HO.out.moved.rest.frozen
  have h4I : (4 : Int) ≤ cur.size := by omega
  have HMx := Lib.hid (hm.grown HO.out.moved.grown)
  obtain ⟨m, hmm⟩ := HMx.out.ex
  have hts : (cur.extract 4 cur.size).size ≤ 4294967280 := by simp; omega
  have hcut := Tryz.strings_Cut (cur.extract 4 cur.size) ⟨#[45, 45, 62]⟩ m _ (by omega) hmm
  rw [show Lib.cut (cur.extract 4 cur.size).data.toList (⟨#[45, 45, 62]⟩ : ByteArray).data.toList = Lib.cut ((bl cur).drop 4) [45, 45, 62] from congrArg (Lib.cut · [45, 45, 62]) (bl_drop cur 4)] at hcut
  unfold commentL
  have hcl : (Lib.cut ((bl cur).drop 4) [45, 45, 62]).1.length ≤ (bl cur).length := by
    unfold Lib.cut
    split
    · simp; omega
    · simp
  obtain ⟨⟨d, r, z⟩, hd⟩ : ∃ x, Lib.cut ((bl cur).drop 4) [45, 45, 62] = x := ⟨_, rfl⟩
  rw [hd] at hcut hcl
  rw [hd]
  simp only at hcut hcl
  have hds : (⟨d.toArray⟩ : ByteArray).size ≤ 4294967280 := by rw [← bl_length, bl_of]; rw [bl_length] at hcl; omega
  have HB := Lib.hid fun w hm => mayBe_any ⟨d.toArray⟩ hds b w hm
  rw [bl_of] at HB
  obtain ⟨y, hy⟩ : ∃ y, mayL d = y := ⟨_, rfl⟩
  rw [hy] at HB
  rw [hy]
  have HC := Lib.hid fun w => clone_any ⟨d.toArray⟩ w (by omega)
  have HCut := Lib.hid hcut
  obtain ⟨o, ho⟩ : ∃ o, (if (z && y) = true then Except.ok (⟨4, [], [], false, d⟩, r) else Except.error 43 : Except Nat (Tok × Bytes)) = o := ⟨_, rfl⟩
  rw [ho]
  have HOo := Lib.hid ho
  clear h hm hmm hcut hcl hd hds hy hts ho
  unfold ReadsAs
  go_enter Tryz.func110, Tryz.ntmps110
  go_big_wp2_with (first
    | (go_at_call 141; refine HCut.out.mono ?_; rintro e w1 ⟨rfl, n, rfl⟩; have HO1 := Lib.hid (HO.out.below (below_drewN (Below.refl _ _) n)); have hf1 := HO1.out.moved.rest.frozen; have hc1 := HO1.out.moved.rest.cell; obtain ⟨⟨r0, r1, r2, r3, r4⟩, s0, s1, s2, s3, s4⟩ := local5 HO1.out.res)
    | (go_at_call 142; refine (HB.out _ (HMx.out.below (below_drewN (Below.refl _ _) n))).mono ?_; rintro e w2 ⟨rfl, hw⟩; rw [hw]; clear hw)
    | (go_at_call 131; refine (HC.out _).mono ?_; rintro e w3 ⟨rfl, hb3⟩; have HO3 := Lib.hid ((HO1.out.on (Moved.set HO1.out.moved.rest ⟨r.toArray⟩)).below hb3); obtain ⟨⟨t0, t1, t2, t3, t4⟩, u0, u1, u2, u3, u4⟩ := local5 HO3.out.res))
  · have hy : y = false := by
      have : (!y) = true := by assumption
      simpa using this
    have hz : z = true := by assumption
    exact own_err rfl HO1.out rfl rfl rfl (by rw [← HOo.out, hz, hy]; rfl)
  · have hy : y = true := by
      have : (!y) = false := by assumption
      simpa using this
    have hz : z = true := by assumption
    refine own_end rfl HO3.out rfl rfl (fun _ => rfl) (k := 4) (n := ⟨#[]⟩) (ao := none) (m := 0) (cap := 0) (sf := false) ?_
    rw [← HOo.out, hz, hy]
    exact ⟨rfl, rfl, rfl, rfl, World.ownsRow_nil _ _ _ _, rfl, rfl⟩
  · have hz : z = false := by
      have : ¬ z = true := by assumption
      simpa using this
    exact own_err rfl HO1.out rfl rfl rfl (by rw [← HOo.out, hz]; rfl)
end Go.Proofs.YtnfkndaggcklkaaGreatDoor

namespace Go.TokenKit
open Go Go.Lib Go.CharrefKit
theorem attrsF_err : ∀ (f : Nat) (l : List At) (s : Bytes) (x : Nat), attrsF f l s = .error x → x = 40 ∨ x = 41 ∨ x = 3
  | 0, _, _, _, h => by simp only [attrsF, Except.error.injEq] at h; exact .inl h.symm
  | f + 1, l, s, x, h => by
    unfold attrsF at h
    split at h
    · simp only [Except.error.injEq] at h; exact .inl h.symm
    · split at h
      · cases h
      · split at h
        · split at h
          · simp only [Except.error.injEq] at h; exact .inl h.symm
          · split at h
            · cases h
            · simp only [Except.error.injEq] at h; exact .inl h.symm
        · split at h
          · simp only [Except.error.injEq] at h; exact .inr (.inl h.symm)
          · split at h
            · simp only [Except.error.injEq] at h; exact .inr (.inl h.symm)
            · split at h
              · simp only [Except.error.injEq] at h; exact .inr (.inr h.symm)
              · exact attrsF_err f _ _ x h
theorem tagL_err {k : Nat} {s : Bytes} {x : Nat} (h : tagL k s = .error x) : x = 40 ∨ x = 41 ∨ x = 3 := by
  unfold tagL at h
  split at h
  · split at h
    · rename_i e he
      simp only [Except.error.injEq] at h
      subst h
      exact attrsF_err _ _ _ _ he
    · cases h
  · simp only [Except.error.injEq] at h; exact .inl h.symm
end Go.TokenKit
namespace Go.Proofs.YtnfkndaggcklkaaGreatDoor
open Go.RowKit Go.RunKit Go.CharrefKit Go.Lib Go.TokenKit

theorem trimS_len (l cs : List UInt8) : (Lib.trimS l cs).length ≤ l.length := by
  unfold Lib.trimS Lib.trimLeftS Lib.trimRightS
  refine Nat.le_trans (List.dropWhile_sublist _).length_le ?_
  rw [List.length_reverse]
  refine Nat.le_trans (List.dropWhile_sublist _).length_le ?_
  rw [List.length_reverse]; exact Nat.le_refl _
set_option maxRecDepth 100000 in
set_option maxHeartbeats 1000000 in
theorem doctype_any (b : Nat) (cur : ByteArray) (hsz : cur.size ≤ 4294967280) (h9 : 9 ≤ cur.size) (w : World) (h : RB w b cur) (hm : Maxed w b) : ReadsAs 112 (doctypeL ((bl cur).drop 9)) b w := by
  have HO := Lib.hid (OwnAt.start h)
  have hcell := HO.out.moved.rest.cell
  have h9I : (9 : Int) ≤ cur.size := by omega
  have HMx := Lib.hid (hm.grown HO.out.moved.grown)
  obtain ⟨m, hmm⟩ := HMx.out.ex
  have hts : (cur.extract 9 cur.size).size ≤ 4294967280 := by simp; omega
  have hcut := Tryz.strings_Cut (cur.extract 9 cur.size) ⟨#[62]⟩ m _ (by omega) hmm
  rw [show Lib.cut (cur.extract 9 cur.size).data.toList (⟨#[62]⟩ : ByteArray).data.toList = Lib.cut ((bl cur).drop 9) [62] from congrArg (Lib.cut · [62]) (bl_drop cur 9)] at hcut
  unfold doctypeL
  have hcl : (Lib.cut ((bl cur).drop 9) [62]).1.length ≤ (bl cur).length := by
    unfold Lib.cut
    split
    · simp; omega
    · simp
  obtain ⟨⟨d, r, z⟩, hd⟩ : ∃ x, Lib.cut ((bl cur).drop 9) [62] = x := ⟨_, rfl⟩
  rw [hd] at hcut hcl
  rw [hd]
  simp only at hcut hcl
  have htl := trimS_len d blanks
  have hds : (⟨d.toArray⟩ : ByteArray).size ≤ 4294967280 := by rw [← bl_length, bl_of]; rw [bl_length] at hcl; omega
  have hT := fun w => trim_any ⟨d.toArray⟩ ⟨#[9, 10, 12, 32]⟩ w (by omega) (by decide) (ascii_of_all (by decide))
  rw [bl_of, show bl (⟨#[9, 10, 12, 32]⟩ : ByteArray) = blanks from rfl] at hT
  obtain ⟨t, ht⟩ : ∃ t, Lib.trimS d blanks = t := ⟨_, rfl⟩
  rw [ht] at hT htl
  have HT := Lib.hid hT
  have HC := Lib.hid fun w => clone_any ⟨t.toArray⟩ w (by rw [← bl_length, bl_of]; rw [bl_length] at hcl; omega)
  have HCut := Lib.hid hcut
  obtain ⟨o, ho⟩ : ∃ o, (if z = true then Except.ok (⟨5, [], [], false, Lib.trimS d blanks⟩, r) else Except.error 43 : Except Nat (Tok × Bytes)) = o := ⟨_, rfl⟩
  rw [ho]
  rw [ht] at ho
  have HOo := Lib.hid ho
  clear h hm hmm hcut hcl hd hds hts ho hT htl ht
  unfold ReadsAs
  go_enter Tryz.func112, Tryz.ntmps112
  go_big_wp2_with (first
    | (go_at_call 141; refine HCut.out.mono ?_; rintro e w1 ⟨rfl, n, rfl⟩; have HO1 := Lib.hid (HO.out.below (below_drewN (Below.refl _ _) n)); have hf1 := HO1.out.moved.rest.frozen; have hc1 := HO1.out.moved.rest.cell; obtain ⟨⟨r0, r1, r2, r3, r4⟩, s0, s1, s2, s3, s4⟩ := local5 HO1.out.res)
    | (go_at_call 143; refine (HT.out _).mono ?_; rintro e w2 ⟨rfl, hb2⟩; have HO2 := Lib.hid ((HO1.out.on (Moved.set HO1.out.moved.rest ⟨r.toArray⟩)).below hb2))
    | (go_at_call 131; refine (HC.out _).mono ?_; rintro e w3 ⟨rfl, hb3⟩; have HO3 := Lib.hid (HO2.out.below hb3); obtain ⟨⟨t0, t1, t2, t3, t4⟩, u0, u1, u2, u3, u4⟩ := local5 HO3.out.res))
  · have hz : z = false := by
      have : (!z) = true := by assumption
      simpa using this
    exact own_err rfl HO1.out rfl rfl rfl (by rw [← HOo.out, hz]; rfl)
  · have hz : z = true := by
      have : (!z) = false := by assumption
      simpa using this
    refine own_end rfl HO3.out rfl rfl (fun _ => rfl) (k := 5) (n := ⟨#[]⟩) (ao := none) (m := 0) (cap := 0) (sf := false) ?_
    rw [← HOo.out, hz]
    exact ⟨rfl, rfl, rfl, rfl, World.ownsRow_nil _ _ _ _, rfl, rfl⟩

theorem told_len {t : Tok} {r : Bytes} {base k : Nat} {n : ByteArray} {ao : Option Addr} {m cap : Nat} {sf : Bool} {d : ByteArray} {e : Int} {c : ByteArray} {W : World} (h : ToldK (.ok (t, r)) base k n ao m cap sf d e c W) : m = t.attrs.length := by
  obtain ⟨ao', cap', e, _⟩ := h.2.2.2.2.1.reads
  cases e; rfl
theorem told_on {o : Except Nat (Tok × Bytes)} {base k : Nat} {n : ByteArray} {ao : Option Addr} {m cap : Nat} {sf : Bool} {d : ByteArray} {e : Int} {c : ByteArray} {W W' : World} (h : ToldK o base k n ao m cap sf d e c W) (hb : Below W.heap.size W W') : ToldK o base k n ao m cap sf d e c W' := by
  cases o with
  | error x => exact h
  | ok x =>
    obtain ⟨t, r⟩ := x
    obtain ⟨t1, t2, t3, t4, t5, t6, t7⟩ := h
    exact ⟨t1, t2, t3, t4, t5.on hb, t6, t7⟩
/-- What is wrong with an end tag is known when all of it is read. -/
theorem endL_cons (x : UInt8) (t : Bytes) : endL (x :: t) = if isL x then (match tagL 2 (x :: t) with
      | .error e => .error e
      | .ok (t, r') => if t.self || !t.attrs.isEmpty then .error 40 else .ok (t, r')) else .error 40 := rfl
set_option maxRecDepth 100000 in
set_option maxHeartbeats 2000000 in
theorem end_any (b : Nat) (cur : ByteArray) (hsz : cur.size ≤ 4294967280) (h2 : 2 ≤ cur.size) (w : World) (h : RB w b cur) (hm : Maxed w b) : ReadsAs 108 (endL ((bl cur).drop 2)) b w := by
  have HO := Lib.hid (OwnAt.start h)
  have HM := Lib.hid hm
  have HT := Lib.hid fun w h => take_any b cur 2 h2 w h
  have hs1 : (cur.extract 2 cur.size).size ≤ 4294967280 := by simp; omega
  have hG := fun w h hm => tag_told b 2 (cur.extract 2 cur.size) hs1 w h hm
  rw [bl_drop] at hG
  have hcb : bl (cur.extract 2 cur.size) = (bl cur).drop 2 := bl_drop _ _
  obtain ⟨c1, hc1⟩ : ∃ c, cur.extract 2 cur.size = c := ⟨_, rfl⟩
  rw [hc1] at hG HT hcb
  clear h hm hc1 hs1
  obtain ⟨o, hoo⟩ : ∃ o, endL ((bl cur).drop 2) = o := ⟨_, rfl⟩
  rw [hoo]
  unfold ReadsAs
  cases hb : (bl cur).drop 2 with
  | nil =>
    rw [hb] at hcb
    have hE : c1.toList = [] := by rw [Lib.toList_data]; exact hcb
    have hE1 : c1.toList.isEmpty = true := by simp [hE]
    rw [hb] at hoo
    have HOo := Lib.hid hoo
    clear hcb hb hG hoo
    go_enter Tryz.func108, Tryz.ntmps108
    go_big_wp2_with (first
      | (go_at_call 138; refine (HT.out _ HO.out.moved.rest).mono ?_; rintro e w1 ⟨rfl, hm1⟩; have HO1 := Lib.hid (HO.out.on hm1); have hc := HO1.out.moved.rest.cell; obtain ⟨⟨r0, r1, r2, r3, r4⟩, s0, s1, s2, s3, s4⟩ := local5 HO1.out.res))
    exact own_err (x := 40) (er := 40) rfl HO1.out rfl rfl rfl HOo.out.symm
  | cons x t =>
    rw [hb] at hcb hG
    have hpos : 0 < c1.size := by rw [← bl_length, hcb]; simp
    have hx0 : c1[0]'hpos = x := by
      have := Lib.data_getElem? c1 0 hpos
      change (bl c1)[0]? = _ at this
      rw [hcb] at this
      simpa using this.symm
    have hne0 : ¬ c1.toList = [] := by rw [Lib.toList_data]; intro h; rw [show c1.data.toList = bl c1 from rfl, hcb] at h; cases h
    have hne1 : c1.toList.isEmpty = false := by simpa using hne0
    have HL := Lib.hid (tisLetter_any x.toNat x.toNat_lt)
    rw [hb, endL_cons] at hoo
    cases hl : isL x with
    | false =>
      rw [show isLet x.toNat = false from hl] at HL
      rw [hl] at hoo
      have HOo := Lib.hid hoo
      clear hcb hb hG hl hoo
      go_enter Tryz.func108, Tryz.ntmps108
      go_big_wp2_with (first
        | (go_at_call 138; refine (HT.out _ HO.out.moved.rest).mono ?_; rintro e w1 ⟨rfl, hm1⟩; have HO1 := Lib.hid (HO.out.on hm1); have hc := HO1.out.moved.rest.cell; obtain ⟨⟨r0, r1, r2, r3, r4⟩, s0, s1, s2, s3, s4⟩ := local5 HO1.out.res)
        | (go_at_call 106; refine (HL.out _).mono ?_; rintro e w2 ⟨rfl, rfl⟩))
      exact own_err (x := 40) (er := 40) rfl HO1.out rfl rfl rfl HOo.out.symm
    | true =>
      rw [show isLet x.toNat = true from hl] at HL
      rw [hl] at hoo
      cases ho : tagL 2 (x :: t) with
      | error y =>
        rw [ho] at hG hoo
        have HOo := Lib.hid hoo
        have hy0 : ¬ y = 0 := by have := tagL_err ho; omega
        have hyI : ¬ (y : Int) = 0 := by omega
        have HG := Lib.hid hG
        clear hcb hb hG hl ho hoo
        go_enter Tryz.func108, Tryz.ntmps108
        go_big_wp2_with (first
          | (go_at_call 138; refine (HT.out _ HO.out.moved.rest).mono ?_; rintro e w1 ⟨rfl, hm1⟩; have HO1 := Lib.hid (HO.out.on hm1); have hc := HO1.out.moved.rest.cell)
          | (go_at_call 106; refine (HL.out _).mono ?_; rintro e w2 ⟨rfl, rfl⟩)
          | (go_at_call 139; refine (HG.out _ HO1.out.moved.rest (HM.out.grown HO1.out.moved.grown)).mono ?_; rintro e w3 ⟨k, n, ao, m, cap, sf, d, er, c, rfl, hm3, hK⟩; have HO3 := Lib.hid (HO1.out.on hm3); obtain ⟨hK1, hK2, hK3, hK4, hK5, hK6, hK7, hK8⟩ := hK; subst hK1; subst hK2; subst hK3; subst hK4; subst hK5; subst hK6; subst hK7; subst hK8; have HO4 := Lib.hid (HO3.out.below ((Below.refl _ _).alloc (Nat.le_refl _) (.cells #[.int .u8 0, .string ⟨#[]⟩, .slice none 0 0, .bool false, .string ⟨#[]⟩] 25))); obtain ⟨⟨r0, r1, r2, r3, r4⟩, s0, s1, s2, s3, s4⟩ := local5 HO4.out.res))
        exact own_err (x := y) (er := y) rfl HO4.out rfl rfl rfl HOo.out.symm
      | ok y =>
        obtain ⟨tk, r⟩ := y
        rw [ho] at hG hoo
        obtain ⟨tk1, tk2, tk3, tk4, tk5⟩ := tk
        simp only at hoo
        cases tk4 with
        | true =>
          have HOo := Lib.hid hoo
          have HG := Lib.hid hG
          clear hcb hb hG hl ho hoo
          go_enter Tryz.func108, Tryz.ntmps108
          go_big_wp2_with (first
            | (go_at_call 138; refine (HT.out _ HO.out.moved.rest).mono ?_; rintro e w1 ⟨rfl, hm1⟩; have HO1 := Lib.hid (HO.out.on hm1); have hc := HO1.out.moved.rest.cell)
            | (go_at_call 106; refine (HL.out _).mono ?_; rintro e w2 ⟨rfl, rfl⟩)
            | (go_at_call 139; refine (HG.out _ HO1.out.moved.rest (HM.out.grown HO1.out.moved.grown)).mono ?_; rintro e w3 ⟨k, n, ao, m, cap, sf, d, er, c, rfl, hm3, hK⟩; have HO3 := Lib.hid (HO1.out.on hm3); have hsf : sf = true := hK.2.2.2.2.2.1; have her : er = 0 := hK.1; have hml := told_len hK; subst hsf; subst her; clear hml; have HK := Lib.hid hK; clear hK; have HO4 := Lib.hid (HO3.out.below ((Below.refl _ _).alloc (Nat.le_refl _) (.cells #[.int .u8 ((k : Nat) : Int), .string n, .slice ao m cap, .bool true, .string d] 25))); obtain ⟨⟨r0, r1, r2, r3, r4⟩, s0, s1, s2, s3, s4⟩ := local5 HO4.out.res))
          exact own_err (x := 40) (er := 40) rfl HO4.out rfl rfl rfl (HOo.out.symm.trans (by rfl))
        | false =>
          cases tk3 with
          | nil =>
            have HOo := Lib.hid hoo
            have HG := Lib.hid hG
            clear hcb hb hG hl ho hoo
            go_enter Tryz.func108, Tryz.ntmps108
            go_big_wp2_with (first
              | (go_at_call 138; refine (HT.out _ HO.out.moved.rest).mono ?_; rintro e w1 ⟨rfl, hm1⟩; have HO1 := Lib.hid (HO.out.on hm1); have hc := HO1.out.moved.rest.cell)
              | (go_at_call 106; refine (HL.out _).mono ?_; rintro e w2 ⟨rfl, rfl⟩)
              | (go_at_call 139; refine (HG.out _ HO1.out.moved.rest (HM.out.grown HO1.out.moved.grown)).mono ?_; rintro e w3 ⟨k, n, ao, m, cap, sf, d, er, c, rfl, hm3, hK⟩; have HO3 := Lib.hid (HO1.out.on hm3); have hsf : sf = false := hK.2.2.2.2.2.1; have her : er = 0 := hK.1; have hml := told_len hK; subst hsf; subst her; have hm0 : m = 0 := hml; clear hml; subst hm0; have HK := Lib.hid hK; clear hK; have HO4 := Lib.hid (HO3.out.below ((Below.refl _ _).alloc (Nat.le_refl _) (.cells #[.int .u8 ((k : Nat) : Int), .string n, .slice ao 0 cap, .bool false, .string d] 25))); obtain ⟨⟨r0, r1, r2, r3, r4⟩, s0, s1, s2, s3, s4⟩ := local5 HO4.out.res))
            refine own_end rfl HO4.out rfl rfl (fun _ => rfl) ?_
            rw [← HOo.out]
            exact told_on (told_mono HK.out HO1.out.lt2) ((Below.refl _ _).alloc (Nat.le_refl _) _)
          | cons a0 l0 =>
            have HOo := Lib.hid hoo
            have HG := Lib.hid hG
            clear hcb hb hG hl ho hoo
            go_enter Tryz.func108, Tryz.ntmps108
            go_big_wp2_with (first
              | (go_at_call 138; refine (HT.out _ HO.out.moved.rest).mono ?_; rintro e w1 ⟨rfl, hm1⟩; have HO1 := Lib.hid (HO.out.on hm1); have hc := HO1.out.moved.rest.cell)
              | (go_at_call 106; refine (HL.out _).mono ?_; rintro e w2 ⟨rfl, rfl⟩)
              | (go_at_call 139; refine (HG.out _ HO1.out.moved.rest (HM.out.grown HO1.out.moved.grown)).mono ?_; rintro e w3 ⟨k, n, ao, m, cap, sf, d, er, c, rfl, hm3, hK⟩; have HO3 := Lib.hid (HO1.out.on hm3); have hsf : sf = false := hK.2.2.2.2.2.1; have her : er = 0 := hK.1; have hml := told_len hK; subst hsf; subst her; have hmI : (0 : Int) < (m : Int) := (by have hml : m = l0.length + 1 := hml; omega); clear hml; have HK := Lib.hid hK; clear hK; have HO4 := Lib.hid (HO3.out.below ((Below.refl _ _).alloc (Nat.le_refl _) (.cells #[.int .u8 ((k : Nat) : Int), .string n, .slice ao m cap, .bool false, .string d] 25))); obtain ⟨⟨r0, r1, r2, r3, r4⟩, s0, s1, s2, s3, s4⟩ := local5 HO4.out.res))
            exact own_err (x := 40) (er := 40) rfl HO4.out rfl rfl rfl (HOo.out.symm.trans (by rfl))
end Go.Proofs.YtnfkndaggcklkaaGreatDoor

namespace Go.Proofs.YtnfkndaggcklkaaGreatDoor
open Go.RowKit Go.RunKit Go.CharrefKit Go.Lib Go.TokenKit

/-- What is handed back reads the token that begins here. -/
structure NextIs (f : FuncId) (b : Nat) (cur : ByteArray) : Prop where
  reads : ∀ W, RB W b cur → Maxed W b → ReadsAs f (oneL (bl cur)) b W
  enters : ∀ args w, (callFunc f args).run Tryz.prog w = .ok (.enter f args) w
theorem getD_at {s : ByteArray} (h : 1 < s.size) : (bl s).getD 1 0 = s[1]'h := by
  have := Lib.data_getElem? s 1 h
  change (bl s)[1]? = _ at this
  rw [List.getD_eq_getElem?_getD, this]; rfl
set_option maxRecDepth 100000 in
set_option maxHeartbeats 1000000 in
theorem next_any (b : Nat) (cur : ByteArray) (hsz : cur.size ≤ 4294967280) (hpos : 0 < cur.size) (w : World) (h : RB w b cur) :
    Calls Tryz.prog 77 #[.pointer (some ⟨b, 0, none⟩)] w fun e w' => ∃ f, e = .returned (.func (.func f) #[.pointer (some ⟨b, 0, none⟩)] #[]) ∧ Below w.heap.size w w' ∧ NextIs f b cur := by
  have hcell := h.cell
  have hM := fun w => isMark_any cur w
  cases hmk : markL (bl cur) with
  | false =>
    rw [hmk] at hM
    have HM := Lib.hid hM
    have HN : Hid (NextIs 105 b cur) := Lib.hid ⟨fun W hW _ => by
      unfold oneL
      rw [hmk]
      exact words_any b cur hsz W hW, enters_of Tryz.func105 (by kernel_rfl) rfl⟩
    clear hM hmk h
    go_enter Tryz.func77, Tryz.ntmps77
    go_big_wp2_with (go_at_call 104; refine (HM.out _).mono ?_; rintro e w1 ⟨rfl, rfl⟩)
    go_ret
    exact ⟨_, rfl, Below.refl _ _, HN.out⟩
  | true =>
    have h1 : 1 < cur.size := by
      rcases Nat.lt_or_ge 1 cur.size with h | h
      · exact h
      · rw [mark_short cur (by omega)] at hmk; cases hmk
    have h1I : (1 : Int) < cur.size := by omega
    have hg := getD_at h1
    obtain ⟨y, hy⟩ : ∃ y, cur[1]'h1 = y := ⟨_, rfl⟩
    rw [hy] at hg
    rw [hmk] at hM
    have HM := Lib.hid hM
    have HL := Lib.hid (tisLetter_any y.toNat y.toNat_lt)
    have HR := Lib.hid h
    have e1 : oneL (bl cur) = if isL y then tagL 1 ((bl cur).drop 1) else if y = 47 then endL ((bl cur).drop 2) else if Lib.hasPrefix (bl cur) [60, 33, 45, 45] then commentL ((bl cur).drop 4) else if smallL ((bl cur).take 9) = doctypeB then doctypeL ((bl cur).drop 9) else .error 43 := by
      unfold oneL
      rw [hmk, hg]; rfl
    clear hM hmk h hg
    cases hl : isL y with
    | true =>
      rw [show isLet y.toNat = true from hl] at HL
      have HN : Hid (NextIs 107 b cur) := Lib.hid ⟨fun W hW hm => by
        rw [e1, hl, if_pos rfl]
        exact start_any b cur hsz (by omega) W hW hm, enters_of Tryz.func107 (by kernel_rfl) rfl⟩
      clear e1 hl
      go_enter Tryz.func77, Tryz.ntmps77
      go_big_wp2_with (first
        | (go_at_call 104; refine (HM.out _).mono ?_; rintro e w1 ⟨rfl, rfl⟩)
        | (go_at_call 106; refine (HL.out _).mono ?_; rintro e w2 ⟨rfl, rfl⟩))
      go_ret
      exact ⟨_, rfl, Below.refl _ _, HN.out⟩
    | false =>
      rw [show isLet y.toNat = false from hl] at HL
      rw [hl] at e1
      by_cases h47 : y = 47
      · have hi47 : ((y.toNat : Int) == 47) = true := by subst h47; rfl
        have HN : Hid (NextIs 108 b cur) := Lib.hid ⟨fun W hW hm => by
          rw [e1, if_neg (by decide), if_pos h47]
          exact end_any b cur hsz (by omega) W hW hm, enters_of Tryz.func108 (by kernel_rfl) rfl⟩
        clear e1 hl h47
        go_enter Tryz.func77, Tryz.ntmps77
        go_big_wp2_with (first
          | (go_at_call 104; refine (HM.out _).mono ?_; rintro e w1 ⟨rfl, rfl⟩)
          | (go_at_call 106; refine (HL.out _).mono ?_; rintro e w2 ⟨rfl, rfl⟩))
        go_ret
        exact ⟨_, rfl, Below.refl _ _, HN.out⟩
      · have hi47 : ((y.toNat : Int) == 47) = false := by
          rw [beq_eq_false_iff_ne]; intro e; apply h47; apply UInt8.toNat_inj.1; show y.toNat = 47; omega
        rw [if_neg (by decide), if_neg h47] at e1
        have hP := fun w => Tryz.strings_HasPrefix cur ⟨#[60, 33, 45, 45]⟩ w
        cases hp : Lib.hasPrefix (bl cur) [60, 33, 45, 45] with
        | true =>
          rw [show Lib.hasPrefix cur.data.toList (⟨#[60, 33, 45, 45]⟩ : ByteArray).data.toList = true from hp] at hP
          have HP := Lib.hid hP
          have h4 : 4 ≤ cur.size := by
            have := (List.isPrefixOf_iff_prefix.1 hp).length_le
            rw [bl_length] at this
            exact this
          have HN : Hid (NextIs 110 b cur) := Lib.hid ⟨fun W hW hm => by
            rw [e1, hp, if_pos rfl]
            exact comment_any b cur hsz h4 W hW hm, enters_of Tryz.func110 (by kernel_rfl) rfl⟩
          clear e1 hl hp hP h47
          go_enter Tryz.func77, Tryz.ntmps77
          go_big_wp2_with (first
            | (go_at_call 104; refine (HM.out _).mono ?_; rintro e w1 ⟨rfl, rfl⟩)
            | (go_at_call 106; refine (HL.out _).mono ?_; rintro e w2 ⟨rfl, rfl⟩)
            | (go_at_call 109; refine (HP.out _).mono ?_; rintro e w3 ⟨rfl, hw⟩; rw [hw]; clear hw))
          go_ret
          exact ⟨_, rfl, Below.refl _ _, HN.out⟩
        | false =>
          rw [show Lib.hasPrefix cur.data.toList (⟨#[60, 33, 45, 45]⟩ : ByteArray).data.toList = false from hp] at hP
          have HP := Lib.hid hP
          rw [hp, if_neg (by decide)] at e1
          obtain ⟨kk, hkk⟩ : ∃ kk : Nat, min (9 : Int) (cur.size : Int) = (kk : Int) := ⟨min 9 cur.size, by omega⟩
          have hkl : kk ≤ cur.size := by omega
          have hkI : (kk : Int) ≤ cur.size := by omega
          have htk : (bl cur).take kk = (bl cur).take 9 := by
            have := bl_length cur
            rcases Nat.lt_or_ge 9 cur.size with h | h
            · rw [show kk = 9 by omega]
            · rw [List.take_of_length_le (by omega), List.take_of_length_le (by omega)]
          have hS := fun w => small_any (cur.extract 0 kk) (by simp; omega) w
          rw [bl_take, htk] at hS
          obtain ⟨sm, hsm⟩ : ∃ sm, smallL ((bl cur).take 9) = sm := ⟨_, rfl⟩
          rw [hsm] at hS e1
          have HS := Lib.hid hS
          have hca : ∀ p : Over w, p.out.cell? ⟨b, 0, none⟩ = some (.string cur) := fun p => p.cell hcell
          have HE := Lib.hid e1
          have HSm := Lib.hid hsm
          clear hS hsm htk e1 hl hp hP h47
          go_enter Tryz.func77, Tryz.ntmps77
          go_big_wp2_with (first
            | (go_at_call 104; refine (HM.out _).mono ?_; rintro e w1 ⟨rfl, rfl⟩)
            | (go_at_call 106; refine (HL.out _).mono ?_; rintro e w2 ⟨rfl, rfl⟩)
            | (go_at_call 109; refine (HP.out _).mono ?_; rintro e w3 ⟨rfl, hw⟩; rw [hw]; clear hw))
          refine wp_region_below (by kernel_rfl) (by kernel_rfl) ?_
          repeat (go_big_quiet_step (first | (go_at_call 111; exact calls_over (HS.out _))))
          refine wpQuiet_nil ?_
          intro W hw'
          obtain ⟨q, rfl⟩ := hw'
          by_cases hd : sm = doctypeB
          · have h9 : 9 ≤ cur.size := by
              have := congrArg List.length (HSm.out.trans hd)
              rw [small_len, List.length_take, bl_length] at this
              change min 9 cur.size = 9 at this
              omega
            have HN : Hid (NextIs 112 b cur) := Lib.hid ⟨fun W hW hm => by
              rw [HE.out, if_pos hd]
              exact doctype_any b cur hsz h9 W hW hm, enters_of Tryz.func112 (by kernel_rfl) rfl⟩
            have hdb : (sm == [60, 33, 100, 111, 99, 116, 121, 112, 101]) = true := beq_iff_eq.2 hd
            rw [hdb]
            clear hd hdb
            go_big_wp2
            go_ret
            exact ⟨_, rfl, q.below, HN.out⟩
          · have HN : Hid (NextIs 113 b cur) := Lib.hid ⟨fun W hW hm => by
              rw [HE.out, if_neg hd]
              exact unknown_any b cur W hW, enters_of Tryz.func113 (by kernel_rfl) rfl⟩
            have hdb : (sm == [60, 33, 100, 111, 99, 116, 121, 112, 101]) = false := beq_eq_false_iff_ne.2 hd
            rw [hdb]
            clear hd hdb
            go_big_wp2
            go_ret
            exact ⟨_, rfl, q.below, HN.out⟩
end Go.Proofs.YtnfkndaggcklkaaGreatDoor

