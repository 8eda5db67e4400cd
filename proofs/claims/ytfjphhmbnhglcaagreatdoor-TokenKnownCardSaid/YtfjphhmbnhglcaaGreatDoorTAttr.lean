/-
  The reader of package token: a value, an attribute. Conditions: texts are no longer than 2^31 bytes.
-/
import Derived.Test.YtfjphhmbnhglcaaGreatDoorTRead
import Derived.Test.YtfjphhmbnhglcaaGreatDoorCDec
import Derived.Sort.AtCall
namespace Go.TokenKit
open Go Go.Lib Go.CharrefKit
theorem index_byte (c : UInt8) : ∀ l : List UInt8, index l [c] = indexByte l c
  | [] => rfl
  | b :: l => by
    unfold index indexByte
    rw [index_byte c l]
    by_cases h : b = c
    · subst h; simp [List.isPrefixOf]
    · have h' : (c == b) = false := by simpa using fun e : c = b => h e.symm
      have h2 : (b == c) = false := by simpa using h
      simp [List.isPrefixOf, h', h2]
theorem cut_one (l : List UInt8) (q : UInt8) : cut l [q] = if l.contains q then (before [q] l, (behind [q] l).drop 1, true) else (l, [], false) := by
  have hix : index l [q] = indexAny l [q] := by rw [index_byte, indexAny_one]
  have hcon : l.contains q = decide (0 ≤ indexAny l [q]) := by rw [contains_iff_indexByte, indexAny_one]
  have hge := indexAny_ge [q] l
  unfold cut
  rw [hix, hcon]
  by_cases h : indexAny l [q] = -1
  · rw [h]; rfl
  · obtain ⟨p, hp⟩ : ∃ p : Nat, indexAny l [q] = (p : Int) := ⟨(indexAny l [q]).toNat, by omega⟩
    obtain ⟨_, e1, e2⟩ := any_some hp
    have h0 : (0 : Int) ≤ (p : Int) := by omega
    rw [hp, if_pos h0, decide_eq_true h0, if_pos rfl, e1, e2]
    simp
theorem containsAny_eq (l cs : List UInt8) : containsAny l cs = l.any (cs.contains ·) := by
  induction l with
  | nil => rfl
  | cons b r ih =>
    have hg := indexAny_ge cs r
    have e : indexAny (b :: r) cs = if cs.contains b then 0 else if indexAny r cs == -1 then -1 else indexAny r cs + 1 := rfl
    rw [Bool.eq_iff_iff, List.any_cons, Bool.or_eq_true, ← ih]
    unfold containsAny
    rw [decide_eq_true_eq, decide_eq_true_eq, e]
    by_cases hb : cs.contains b = true
    · rw [if_pos hb]; exact ⟨fun _ => .inl hb, fun _ => by omega⟩
    · rw [if_neg hb]
      by_cases hx : indexAny r cs = -1
      · rw [hx]; exact ⟨fun h => by simp at h, fun h => by rcases h with h | h; exact absurd h hb; omega⟩
      · rw [if_neg (by simpa using hx)]
        exact ⟨fun h => .inr (by omega), fun h => by rcases h with h | h; exact absurd h hb; omega⟩
theorem hasPrefix_one (l : List UInt8) (q : UInt8) : hasPrefix l [q] = decide (l.head? = some q) := by
  unfold hasPrefix
  cases l with
  | nil => rfl
  | cons b r =>
    rw [List.head?_cons, Bool.eq_iff_iff, decide_eq_true_eq, Option.some.injEq]
    show ((q == b) && List.isPrefixOf [] r) = true ↔ b = q
    rw [show List.isPrefixOf [] r = true from rfl, Bool.and_true, beq_iff_eq]
    exact eq_comm
theorem trimPrefix_one (l : List UInt8) (q : UInt8) : trimPrefix l [q] = if l.head? = some q then l.drop 1 else l := by
  unfold trimPrefix
  rw [hasPrefix_one]
  simp
/-- What a value's reader tells, against the document's. -/
def ToldV (o : Option (Bytes × Bytes)) (v : ByteArray) (ok : Bool) (c : ByteArray) : Prop := match o with
  | none => ok = false
  | some (x, r) => ok = true ∧ v = ⟨x.toArray⟩ ∧ c = ⟨r.toArray⟩
end Go.TokenKit
namespace Go.Proofs.YtfjphhmbnhglcaaGreatDoor
open Go.RowKit Go.RunKit Go.CharrefKit Go.Lib Go.TokenKit

theorem quote_one (b : Nat) (cur : ByteArray) (q : UInt8) (hsz : cur.size ≤ 4294967280) (w : World) (h : RB w b cur) (hm : Maxed w b) :
    Calls Tryz.prog 194 #[.pointer (some ⟨b, 0, none⟩), .string ⟨#[q]⟩] w fun e w' => ∃ v ok c, e = .returned (.tuple #[.string v, .bool ok]) ∧ Moved w b c w' ∧ ToldV (quotedL q (bl cur)) v ok c := by
  refine (quoted_any b cur ⟨#[q]⟩ hsz w h hm).mono ?_
  rintro e w' ⟨rfl, hw⟩
  refine ⟨_, _, _, rfl, hw, ?_⟩
  rw [show bl (⟨#[q]⟩ : ByteArray) = [q] from rfl, cut_one]
  unfold quotedL ToldV
  split <;> simp_all

set_option maxRecDepth 100000 in
set_option maxHeartbeats 1000000 in
theorem value_plain (b : Nat) (cur : ByteArray) (hsz : cur.size ≤ 4294967280) (w : World) (h : RB w b cur)
    (h34 : (bl cur).head? ≠ some 34) (h39 : (bl cur).head? ≠ some 39) :
    Calls Tryz.prog 170 #[.pointer (some ⟨b, 0, none⟩)] w fun e w' =>
      e = .returned (.tuple #[.string ⟨(before plainStops (bl cur)).toArray⟩, .bool (!(before plainStops (bl cur)).isEmpty && !(before plainStops (bl cur)).any badB)]) ∧ Moved w b ⟨(behind plainStops (bl cur)).toArray⟩ w' := by
  have HR := Lib.hid h
  have H34 := Lib.hid (fun w h => took_any b cur ⟨#[34]⟩ w h)
  have H39 := Lib.hid (fun w h => took_any b cur ⟨#[39]⟩ w h)
  rw [show bl (⟨#[34]⟩ : ByteArray) = [34] from rfl, hasPrefix_one, trimPrefix_one, if_neg h34, decide_eq_false h34] at H34
  rw [show bl (⟨#[39]⟩ : ByteArray) = [39] from rfl, hasPrefix_one, trimPrefix_one, if_neg h39, decide_eq_false h39] at H39
  have hU := takeUpTo_any b cur ⟨#[9, 10, 12, 32, 62]⟩ (by decide) (by decide) (ascii_of_all (by decide)) hsz
  rw [show bl (⟨#[9, 10, 12, 32, 62]⟩ : ByteArray) = plainStops from rfl] at hU
  obtain ⟨v, hv⟩ : ∃ v : ByteArray, (⟨(before plainStops (bl cur)).toArray⟩ : ByteArray) = v := ⟨_, rfl⟩
  have hvl : before plainStops (bl cur) = bl v := by subst hv; exact (bl_of _).symm
  have hvs : v.size ≤ cur.size := by
    have h1 := bl_length v
    have h2 := bl_length cur
    have h3 := before_len plainStops (bl cur)
    rw [hvl] at h3; omega
  rw [hv] at hU
  rw [hvl]
  have HU := Lib.hid hU
  have hC := fun w => containsAny_any v ⟨#[34, 39, 60, 61, 96]⟩ w (by decide) (by omega) (by decide) (ascii_of_all (by decide))
  rw [show bl (⟨#[34, 39, 60, 61, 96]⟩ : ByteArray) = [34, 39, 60, 61, 96] from rfl, containsAny_eq, show (bl v).any ([34, 39, 60, 61, 96].contains ·) = (bl v).any badB from rfl] at hC
  have HC := Lib.hid hC
  have HV := Lib.hid hv
  clear h h34 h39 hU hC hv hvl
  go_enter Tryz.func170, Tryz.ntmps170
  go_big_wp2_with (first
    | (go_at_call_of 137 (Value.string ⟨#[34]⟩); refine (H34.out _ HR.out).mono ?_; rintro e w1 ⟨rfl, hm1⟩)
    | (go_at_call_of 137 (Value.string ⟨#[39]⟩); refine (H39.out _ hm1.rest).mono ?_; rintro e w2 ⟨rfl, hm2⟩)
    | (go_at_call 134; refine (HU.out _ hm2.rest).mono ?_; rintro e w3 ⟨rfl, hm3⟩)
    | (go_at_call 195; refine (HC.out _).mono ?_; rintro e w4 ⟨rfl, hb4⟩))
  · rename_i he
    rw [Lib.toList_data] at he
    have hE : bl v = [] := he
    go_ret2
    rw [hE]
    exact ⟨by rw [show v = ⟨([] : List UInt8).toArray⟩ from eq_mk hE]; rfl, (hm1.trans hm2).trans hm3⟩
  · go_ret2
    exact ⟨by rw [show (bl v).isEmpty = v.toList.isEmpty by rw [Lib.toList_data]; rfl]; rfl, ((hm1.trans hm2).trans hm3).on hb4⟩
set_option maxRecDepth 100000 in
set_option maxHeartbeats 1000000 in
theorem value_any (b : Nat) (cur : ByteArray) (hsz : cur.size ≤ 4294967280) (w : World) (h : RB w b cur) (hm : Maxed w b) :
    Calls Tryz.prog 170 #[.pointer (some ⟨b, 0, none⟩)] w fun e w' => ∃ v ok c, e = .returned (.tuple #[.string v, .bool ok]) ∧ Moved w b c w' ∧ ToldV (valueL (bl cur)) v ok c := by
  have HM := Lib.hid hm
  have HR := Lib.hid h
  have H34 := Lib.hid (fun w h => took_any b cur ⟨#[34]⟩ w h)
  have H39 := Lib.hid (fun w h => took_any b cur ⟨#[39]⟩ w h)
  rw [show bl (⟨#[34]⟩ : ByteArray) = [34] from rfl, hasPrefix_one, trimPrefix_one] at H34
  rw [show bl (⟨#[39]⟩ : ByteArray) = [39] from rfl, hasPrefix_one, trimPrefix_one] at H39
  clear h hm
  cases hl : bl cur with
  | nil =>
    refine (value_plain b cur hsz w HR.out (by rw [hl]; simp) (by rw [hl]; simp)).mono ?_
    rintro e w' ⟨rfl, hw⟩
    exact ⟨_, _, _, rfl, hw, by rw [hl]; exact rfl⟩
  | cons x t =>
    rw [hl] at H34 H39
    rw [valueL]
    have hts : (⟨t.toArray⟩ : ByteArray).size ≤ 4294967280 := by
      have h1 := bl_length cur
      have h2 := bl_length ⟨t.toArray⟩
      rw [hl] at h1; rw [bl_of] at h2
      simp at h1; omega
    by_cases h34 : x = 34
    · subst h34
      rw [if_pos rfl]
      simp only [List.head?_cons, decide_true, List.drop_succ_cons, List.drop_zero, if_true] at H34
      have hq := quote_one b ⟨t.toArray⟩ 34 hts
      rw [bl_of] at hq
      have HQ := Lib.hid hq
      clear hq H39
      go_enter Tryz.func170, Tryz.ntmps170
      go_big_wp2_with (first
        | (go_at_call 137; refine (H34.out _ HR.out).mono ?_; rintro e w1 ⟨rfl, hm1⟩)
        | (go_at_call 194; refine (HQ.out _ hm1.rest (HM.out.grown hm1.grown)).mono ?_; rintro e w2 ⟨v, ok, c, rfl, hm2, hres⟩))
      go_ret2
      exact ⟨v, ok, c, rfl, hm1.trans hm2, hres⟩
    · rw [if_neg h34]
      have hn34 : decide ((x :: t).head? = some 34) = false := by simp [h34]
      have hi34 : (if (x :: t).head? = some 34 then (x :: t).drop 1 else x :: t) = bl cur := by rw [hl]; simp [h34]
      rw [hn34, hi34] at H34
      by_cases h39 : x = 39
      · subst h39
        rw [if_pos rfl]
        simp only [List.head?_cons, decide_true, List.drop_succ_cons, List.drop_zero, if_true] at H39
        have hq := quote_one b ⟨t.toArray⟩ 39 hts
        rw [bl_of] at hq
        have HQ := Lib.hid hq
        clear hq hl hn34 hi34 h34
        go_enter Tryz.func170, Tryz.ntmps170
        go_big_wp2_with (first
          | (go_at_call_of 137 (Value.string ⟨#[34]⟩); refine (H34.out _ HR.out).mono ?_; rintro e w1 ⟨rfl, hm1⟩)
          | (go_at_call_of 137 (Value.string ⟨#[39]⟩); refine (H39.out _ hm1.rest).mono ?_; rintro e w2 ⟨rfl, hm2⟩)
          | (go_at_call 194; refine (HQ.out _ hm2.rest (HM.out.grown (hm1.trans hm2).grown)).mono ?_; rintro e w3 ⟨v, ok, c, rfl, hm3, hres⟩))
        go_ret2
        exact ⟨v, ok, c, rfl, (hm1.trans hm2).trans hm3, hres⟩
      · rw [if_neg h39]
        refine (value_plain b cur hsz w HR.out (by rw [hl]; simp [h34]) (by rw [hl]; simp [h39])).mono ?_
        rintro e w' ⟨rfl, hw⟩
        refine ⟨_, _, _, rfl, hw, ?_⟩
        rw [hl]
        unfold ToldV
        cases h1 : (before plainStops (x :: t)).isEmpty with
        | true => simp
        | false =>
          cases h2 : (before plainStops (x :: t)).any badB with
          | true => simp
          | false => simp
end Go.Proofs.YtfjphhmbnhglcaaGreatDoor
