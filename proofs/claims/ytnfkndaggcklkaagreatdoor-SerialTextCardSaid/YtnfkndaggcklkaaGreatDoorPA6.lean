/-
  Decode of charref: it tells what the document says. Conditions: the text is no longer than 2^40 bytes.
  The reader of package token: a value, an attribute. Conditions: texts are no longer than 2^31 bytes.
  The reader of package token: an attribute. Conditions: texts are no longer than 2^31 bytes.
  mayJoin of package token: may one attribute more stand behind some. Conditions: the attributes stand in a row; fewer than 2^31.
-/
import Derived.Test.YtnfkndaggcklkaaGreatDoorPA4
import Derived.Test.YtnfkndaggcklkaaGreatDoorPA5
import Derived.Sort.AtCall
import Derived.Laws.ResultCell
import Derived.Laws.Rows
import Derived.Shelf.Abstract
import Derived.Laws.OwnMore
namespace Go.Proofs.YtnfkndaggcklkaaGreatDoor
open Go.RowKit Go.RunKit Go.CharrefKit Go.Lib

def strSize : Value → Nat
  | .string s => s.size
  | _ => 0
/-- What is held at the loop's head. -/
structure DecAt (w0 : World) (attr : Bool) (s0 cur : ByteArray) (done : List UInt8) (w : World) : Prop where
  rest : done ++ decodeL attr (bl cur) = decodeL attr (bl s0)
  built : Lib.IsBuilderF TB 5 w0.heap.size w0.heap.size (byteCells done) w
  below : Below w0.heap.size w0 w
  room : done.length + 4 * cur.size ≤ 4 * s0.size

theorem DecAt.wrote {w0 : World} {attr : Bool} {s0 cur cur' : ByteArray} {done l : List UInt8} {w w' : World} (h : DecAt w0 attr s0 cur done w) (he : decodeL attr (bl cur) = l ++ decodeL attr (bl cur')) (hr : l.length + 4 * cur'.size ≤ 4 * cur.size)
    (hb : Lib.BuilderAtF TB 5 w0.heap.size w0.heap.size (.pointer (some ⟨w0.heap.size, 0, none⟩)) (byteCells done ++ byteCells l) w') (hw : Below w0.heap.size w w') : DecAt w0 attr s0 cur' (done ++ l) w' :=
  ⟨by rw [List.append_assoc, ← he]; exact h.rest, .inr (by simpa [byteCells] using hb), h.below.trans hw, by rw [List.length_append]; have := h.room; omega⟩

theorem builder_on {B b : Nat} {bs : List Value} {w w' : World} (h : Lib.IsBuilderF TB 5 B b bs w) (hb : Below w.heap.size w w') : Lib.IsBuilderF TB 5 B b bs w' := by
  have hg : w.grownBy w' none := ⟨hb.os, hb.tape, hb.output, hb.size, fun k hk _ => hb.block k hk⟩
  have key : ∀ p, Lib.BuilderAtF TB 5 B b p bs w → Lib.BuilderAtF TB 5 B b p bs w' := by
    intro p h
    have hlt := h.lt
    obtain ⟨hB, v, hbk, hown, hne⟩ := h
    exact ⟨hB, v, by rw [hb.block b hlt]; exact hbk, hown.kept hg (Classical.em _), hne⟩
  rcases h with h | h
  · exact .inl (key _ h)
  · exact .inr (key _ h)
theorem DecAt.on {w0 : World} {attr : Bool} {s0 cur : ByteArray} {done : List UInt8} {w w' : World} (h : DecAt w0 attr s0 cur done w) (hb : Below w.heap.size w w') : DecAt w0 attr s0 cur done w' :=
  ⟨h.rest, builder_on h.built hb, h.below.trans (hb.mono h.below.size), h.room⟩

theorem decode_ref {attr : Bool} {t : ByteArray} {x : Ref} (hx : findL attr (natsOf t) = x) (hok : x.ok = true) : decodeL attr (bl t) = encodeRune ((x.char : Nat) : Int) ++ decodeL attr (bl (t.extract x.len t.size)) ∧ 1 ≤ x.len ∧ x.len ≤ t.size := by
  have h1 : (findL attr (nats (bl t))).ok = true := by change (findL attr (natsOf t)).ok = true; rw [hx]; exact hok
  have h2 := decodeL_ref h1
  have h3 := findL_len h1
  change findL attr (nats (bl t)) = x at hx
  rw [hx] at h2 h3
  have hl : (nats (bl t)).length = t.size := natsOf_length t
  rw [hl] at h3
  exact ⟨by rw [bl_drop]; exact h2, h3⟩
theorem decode_not {attr : Bool} {t : ByteArray} {y : List UInt8} (ht : bl t = 38 :: y) (hok : (findL attr (natsOf t)).ok = false) : decodeL attr (bl t) = [38] ++ decodeL attr (bl (t.extract 1 t.size)) := by
  rw [bl_drop, ht]
  refine decodeL_plain ?_
  rw [← ht]; exact hok

set_option maxRecDepth 100000 in
set_option maxHeartbeats 4000000 in
theorem decode_any (attr : Bool) (s : ByteArray) (hsz : s.size ≤ 1099511627776) (w : World) :
    Calls Tryz.prog 137 #[.string s, .bool attr] w fun e w' => e = .returned (.string ⟨(decodeL attr (bl s)).toArray⟩) ∧ Below w.heap.size w w' := by
  have D0 : Hid (DecAt w attr s s [] (w.alloc (.cells #[.pointer none, .slice none 0 0] TB))) := Lib.hid ⟨rfl, .inl ⟨Nat.le_refl _, .slice none 0 0, heap_alloc_new w _, World.ownsRowF_nil _ _ _ _, by simp [Value.ownBlock]⟩, (Below.refl _ _).alloc (Nat.le_refl _) _, by simp⟩
  go_enter Tryz.func137, Tryz.ntmps137
  go_wp2
  go_loopw [0] (fun v wr => ∃ (cur : ByteArray) (done : List UInt8), v = .string cur ∧ cur.size ≤ s.size ∧ Hid (DecAt w attr s cur done wr)) (fun v _ => strSize v)
  case atStart => exact ⟨s, [], rfl, Nat.le_refl _, D0⟩
  case round =>
    clear D0
    obtain ⟨cur, done, rfl, hcs, HD⟩ := hrel
    have HI := Lib.hid (fun w => Tryz.strings_IndexByte cur 38 w)
    have h38 : ((38 : Int).toNat.toUInt8) = (38 : UInt8) := rfl
    rw [h38] at HI
    change Hid (∀ w, Calls Tryz.prog 76 #[.string cur, .int .u8 38] w fun e w' => e = .returned (.int .i64 (Lib.indexByte (bl cur) 38)) ∧ w' = w) at HI
    by_cases hneg : Lib.indexByte (bl cur) 38 = -1
    · have hno := ib_none hneg
      have hdec : decodeL attr (bl cur) = bl cur ++ decodeL attr (bl ⟨#[]⟩) := by
        have := decodeL_ahead (attr := attr) (bl cur) [] (fun b hb => ne38 (hno b hb))
        rw [List.append_nil] at this
        rw [this]; rfl
      rw [hneg] at HI
      have HX := Lib.hid hdec
      have hroom := HD.out.room
      have hbsz := HD.out.below.size
      clear hneg hno hdec h38
      go_wp2_with (first
        | (go_at_call 76; refine (HI.out _).mono ?_; rintro e w1 ⟨rfl, rfl⟩)
        | (go_at_call 93; refine (writeString_any w.heap.size w.heap.size (byteCells done) cur _ HD.out.built (by simp [byteCells]; omega) hbsz).mono ?_; rintro e w2 ⟨rfl, hb2, hw2⟩; have HD2 := Lib.hid (HD.out.wrote (cur' := ⟨#[]⟩) HX.out (by rw [bl_length]; show _ + 4 * 0 ≤ _; omega) hb2 hw2); clear hb2 hw2)
        | (go_at_call 56; refine (Tryz.Builder_String_any_f _ _ (done ++ bl cur) _ HD2.out.built HD2.out.below.size).mono ?_; rintro e w3 ⟨rfl, _, hb3⟩))
      go_ret
      refine ⟨?_, HD2.out.below.trans hb3⟩
      have := HD2.out.rest
      rw [show bl (⟨#[]⟩ : ByteArray) = [] from rfl, decodeL_nil, List.append_nil] at this
      rw [← this]; rfl
    · obtain ⟨p, hp⟩ : ∃ p : Nat, Lib.indexByte (bl cur) 38 = (p : Int) := ⟨(Lib.indexByte (bl cur) 38).toNat, by have := Lib.indexByte_ge (bl cur) 38; omega⟩
      obtain ⟨x, y, hxy, hxl, hxn⟩ := ib_some hp
      rw [hp] at HI
      have hlen : x.length + 1 + y.length = cur.size := by
        have := bl_length cur
        rw [hxy] at this
        simp at this; omega
      have hpl : p < cur.size := by omega
      have htk : bl (cur.extract 0 p) = x := by rw [bl_take, hxy, ← hxl]; simp
      have htl : bl (cur.extract p cur.size) = 38 :: y := by rw [bl_drop, hxy, ← hxl]; simp
      have h1 : decodeL attr (bl cur) = bl (cur.extract 0 p) ++ decodeL attr (bl (cur.extract p cur.size)) := by
        rw [htk, htl, hxy]
        exact decodeL_ahead x (38 :: y) (fun b hb => ne38 (hxn b hb))
      have hts : (cur.extract p cur.size).size = cur.size - p := by simp
      have hps : (cur.extract 0 p).size = p := by simp; omega
      have H1 := Lib.hid h1
      have HS := Lib.hid (And.intro hts hps)
      have HF := find_any attr (cur.extract p cur.size) (by omega)
      obtain ⟨z, hz⟩ : ∃ z, findL attr (natsOf (cur.extract p cur.size)) = z := ⟨_, rfl⟩
      rw [hz] at HF
      have hroom := HD.out.room
      have hbsz := HD.out.below.size
      have HT := Lib.hid htl
      have hpI : (p : Int) ≤ cur.size := by omega
      clear h1 htk htl hp hneg hxy hxn h38 hlen hxl
      cases hok : z.ok with
      | true =>
        have hdr := decode_ref hz hok
        rw [hts] at hdr
        have HR := Lib.hid hdr
        obtain ⟨c, n, k⟩ := z
        simp only at hok
        subst hok
        unfold refV at HF
        simp only at HF HR
        have HF := Lib.hid HF
        have hcl := encodeRune_len ((c : Nat) : Int)
        have hn1 : 1 ≤ n ∧ n ≤ cur.size - p := HR.out.2
        have HE4 : Hid ((⟨(encodeRune ((c : Nat) : Int)).toArray⟩ : ByteArray).size = (encodeRune ((c : Nat) : Int)).length) := Lib.hid (by simp [ByteArray.size])
        clear hz hdr
        go_wp2_with (first
          | (go_at_call 76; refine (HI.out _).mono ?_; rintro e w1 ⟨rfl, rfl⟩)
          | (go_at_call 93; refine (writeString_any w.heap.size w.heap.size (byteCells done) (cur.extract 0 p) _ HD.out.built (by simp [byteCells]; omega) hbsz).mono ?_; rintro e w2 ⟨rfl, hb2, hw2⟩; have HD2 := Lib.hid (HD.out.wrote (cur' := cur.extract p cur.size) H1.out (by rw [bl_length, HS.out.1, HS.out.2]; omega) hb2 hw2); clear hb2 hw2 HD)
          | (go_at_call 160; refine (HF.out _).mono ?_; rintro e w3 ⟨rfl, hb3⟩; have HD3 := Lib.hid (HD2.out.on hb3); clear hb3 HD2)
          | (go_at_call 161; refine (string_one _ ((c : Nat) : Int) _ (by simp [go_sem])).mono ?_; rintro e w4 ⟨rfl, rfl⟩; have HD4 := Lib.hid (HD3.out.on ((Below.refl _ _).alloc (Nat.le_refl _) (.cells #[.int .i32 ((c : Nat) : Int)] 21))); have hr4 := HD4.out.room; have hs4 := HD4.out.below.size; clear HD3)
          | (go_at_call 93; refine (writeString_any w.heap.size w.heap.size (byteCells (done ++ bl (cur.extract 0 p))) ⟨(encodeRune ((c : Nat) : Int)).toArray⟩ _ HD4.out.built (by rw [byteCells_length, HE4.out]; omega) hs4).mono ?_; rintro e w5 ⟨rfl, hb5, hw5⟩; have HD5 := Lib.hid (HD4.out.wrote (cur' := (cur.extract p cur.size).extract n (cur.size - p)) (l := encodeRune ((c : Nat) : Int)) HR.out.1 (by simp; omega) hb5 hw5); clear hb5 hw5 HD4))
        exact ⟨⟨_, _, rfl, by simp; omega, HD5⟩, by simp [strSize]; omega⟩
      | false =>
        have hdn := decode_not HT.out (by rw [hz]; exact hok)
        rw [hts] at hdn
        have HR := Lib.hid hdn
        obtain ⟨c, n, k⟩ := z
        simp only at hok
        subst hok
        unfold refV at HF
        simp only at HF
        have HF := Lib.hid HF
        have htk1 : bl ((cur.extract p cur.size).extract 0 1) = [38] := by rw [bl_take, HT.out]; rfl
        have HT1 := Lib.hid htk1
        clear hz hdn htk1
        go_wp2_with (first
          | (go_at_call 76; refine (HI.out _).mono ?_; rintro e w1 ⟨rfl, rfl⟩)
          | (go_at_call 93; refine (writeString_any w.heap.size w.heap.size (byteCells done) (cur.extract 0 p) _ HD.out.built (by simp [byteCells]; omega) hbsz).mono ?_; rintro e w2 ⟨rfl, hb2, hw2⟩; have HD2 := Lib.hid (HD.out.wrote (cur' := cur.extract p cur.size) H1.out (by rw [bl_length, HS.out.1, HS.out.2]; omega) hb2 hw2); clear hb2 hw2 HD)
          | (go_at_call 160; refine (HF.out _).mono ?_; rintro e w3 ⟨rfl, hb3⟩; have HD3 := Lib.hid (HD2.out.on hb3); clear hb3 HD2)
          | (go_at_call 93; refine (writeString_any w.heap.size w.heap.size (byteCells (done ++ bl (cur.extract 0 p))) ((cur.extract p cur.size).extract 0 1) _ HD3.out.built (by have := HD3.out.room; simp [byteCells] at *; omega) HD3.out.below.size).mono ?_; rintro e w5 ⟨rfl, hb5, hw5⟩; have HD5 := Lib.hid (HD3.out.wrote (cur' := (cur.extract p cur.size).extract 1 (cur.size - p)) (l := bl ((cur.extract p cur.size).extract 0 1)) (by rw [HT1.out]; exact HR.out) (by rw [HT1.out]; simp; omega) hb5 hw5); clear hb5 hw5 HD3))
        exact ⟨⟨_, _, rfl, by simp; omega, HD5⟩, by simp [strSize]; omega⟩
end Go.Proofs.YtnfkndaggcklkaaGreatDoor

namespace Go.TokenKit
open Go Go.Lib Go.CharrefKit
theorem index_byte (c : UInt8) : ∀ l : List UInt8, index l [c] = indexByte l c
  | [] => rfl
  | b :: l => by
    unfold index indexByte
    rw [index_byte c l]
    by_cases h : b = c
    · subst h; simp [List.isPrefixOf]
    · have h' : (c == b) = false := by simpa using fun e : c = b => h e.symm
      have h2 : (b == c) = false := by simpa using h
      simp [List.isPrefixOf, h', h2]
theorem cut_one (l : List UInt8) (q : UInt8) : cut l [q] = if l.contains q then (before [q] l, (behind [q] l).drop 1, true) else (l, [], false) := by
  have hix : index l [q] = indexAny l [q] := by rw [index_byte, indexAny_one]
  have hcon : l.contains q = decide (0 ≤ indexAny l [q]) := by rw [contains_iff_indexByte, indexAny_one]
  have hge := indexAny_ge [q] l
  unfold cut
  rw [hix, hcon]
  by_cases h : indexAny l [q] = -1
  · rw [h]; rfl
  · obtain ⟨p, hp⟩ : ∃ p : Nat, indexAny l [q] = (p : Int) := ⟨(indexAny l [q]).toNat, by omega⟩
    obtain ⟨_, e1, e2⟩ := any_some hp
    have h0 : (0 : Int) ≤ (p : Int) := by omega
    rw [hp, if_pos h0, decide_eq_true h0, if_pos rfl, e1, e2]
    simp
theorem containsAny_eq (l cs : List UInt8) : containsAny l cs = l.any (cs.contains ·) := by
  induction l with
  | nil => rfl
  | cons b r ih =>
    have hg := indexAny_ge cs r
    have e : indexAny (b :: r) cs = if cs.contains b then 0 else if indexAny r cs == -1 then -1 else indexAny r cs + 1 := rfl
    rw [Bool.eq_iff_iff, List.any_cons, Bool.or_eq_true, ← ih]
    unfold containsAny
    rw [decide_eq_true_eq, decide_eq_true_eq, e]
    by_cases hb : cs.contains b = true
    · rw [if_pos hb]; exact ⟨fun _ => .inl hb, fun _ => by omega⟩
    · rw [if_neg hb]
      by_cases hx : indexAny r cs = -1
      · rw [hx]; exact ⟨fun h => by simp at h, fun h => by rcases h with h | h; exact absurd h hb; omega⟩
      · rw [if_neg (by simpa using hx)]
        exact ⟨fun h => .inr (by omega), fun h => by rcases h with h | h; exact absurd h hb; omega⟩
theorem hasPrefix_one (l : List UInt8) (q : UInt8) : hasPrefix l [q] = decide (l.head? = some q) := by
  unfold hasPrefix
  cases l with
  | nil => rfl
  | cons b r =>
    rw [List.head?_cons, Bool.eq_iff_iff, decide_eq_true_eq, Option.some.injEq]
    show ((q == b) && List.isPrefixOf [] r) = true ↔ b = q
    rw [show List.isPrefixOf [] r = true from rfl, Bool.and_true, beq_iff_eq]
    exact eq_comm
theorem trimPrefix_one (l : List UInt8) (q : UInt8) : trimPrefix l [q] = if l.head? = some q then l.drop 1 else l := by
  unfold trimPrefix
  rw [hasPrefix_one]
  simp
/-- What a value's reader tells, against the document's. -/
def ToldV (o : Option (Bytes × Bytes)) (v : ByteArray) (ok : Bool) (c : ByteArray) : Prop := match o with
  | none => ok = false
  | some (x, r) => ok = true ∧ v = ⟨x.toArray⟩ ∧ c = ⟨r.toArray⟩
end Go.TokenKit
namespace Go.Proofs.YtnfkndaggcklkaaGreatDoor
open Go.RowKit Go.RunKit Go.CharrefKit Go.Lib Go.TokenKit

theorem quote_one (b : Nat) (cur : ByteArray) (q : UInt8) (hsz : cur.size ≤ 4294967280) (w : World) (h : RB w b cur) (hm : Maxed w b) :
    Calls Tryz.prog 211 #[.pointer (some ⟨b, 0, none⟩), .string ⟨#[q]⟩] w fun e w' => ∃ v ok c, e = .returned (.tuple #[.string v, .bool ok]) ∧ Moved w b c w' ∧ ToldV (quotedL q (bl cur)) v ok c := by
  refine (quoted_any b cur ⟨#[q]⟩ hsz w h hm).mono ?_
  rintro e w' ⟨rfl, hw⟩
  refine ⟨_, _, _, rfl, hw, ?_⟩
  rw [show bl (⟨#[q]⟩ : ByteArray) = [q] from rfl, cut_one]
  unfold quotedL ToldV
  split <;> simp_all

set_option maxRecDepth 100000 in
set_option maxHeartbeats 1000000 in
theorem value_plain (b : Nat) (cur : ByteArray) (hsz : cur.size ≤ 4294967280) (w : World) (h : RB w b cur)
    (h34 : (bl cur).head? ≠ some 34) (h39 : (bl cur).head? ≠ some 39) :
    Calls Tryz.prog 190 #[.pointer (some ⟨b, 0, none⟩)] w fun e w' =>
      e = .returned (.tuple #[.string ⟨(before plainStops (bl cur)).toArray⟩, .bool (!(before plainStops (bl cur)).isEmpty && !(before plainStops (bl cur)).any badB)]) ∧ Moved w b ⟨(behind plainStops (bl cur)).toArray⟩ w' := by
  have HR := Lib.hid h
  have H34 := Lib.hid (fun w h => took_any b cur ⟨#[34]⟩ w h)
  have H39 := Lib.hid (fun w h => took_any b cur ⟨#[39]⟩ w h)
  rw [show bl (⟨#[34]⟩ : ByteArray) = [34] from rfl, hasPrefix_one, trimPrefix_one, if_neg h34, decide_eq_false h34] at H34
  rw [show bl (⟨#[39]⟩ : ByteArray) = [39] from rfl, hasPrefix_one, trimPrefix_one, if_neg h39, decide_eq_false h39] at H39
  have hU := takeUpTo_any b cur ⟨#[9, 10, 12, 32, 62]⟩ (by decide) (by decide) (ascii_of_all (by decide)) hsz
  rw [show bl (⟨#[9, 10, 12, 32, 62]⟩ : ByteArray) = plainStops from rfl] at hU
  obtain ⟨v, hv⟩ : ∃ v : ByteArray, (⟨(before plainStops (bl cur)).toArray⟩ : ByteArray) = v := ⟨_, rfl⟩
  have hvl : before plainStops (bl cur) = bl v := by subst hv; exact (bl_of _).symm
  have hvs : v.size ≤ cur.size := by
    have h1 := bl_length v
    have h2 := bl_length cur
    have h3 := before_len plainStops (bl cur)
    rw [hvl] at h3; omega
  rw [hv] at hU
  rw [hvl]
  have HU := Lib.hid hU
  have hC := fun w => containsAny_any v ⟨#[34, 39, 60, 61, 96]⟩ w (by decide) (by omega) (by decide) (ascii_of_all (by decide))
  rw [show bl (⟨#[34, 39, 60, 61, 96]⟩ : ByteArray) = [34, 39, 60, 61, 96] from rfl, containsAny_eq, show (bl v).any ([34, 39, 60, 61, 96].contains ·) = (bl v).any badB from rfl] at hC
  have HC := Lib.hid hC
  have HV := Lib.hid hv
  clear h h34 h39 hU hC hv hvl
  go_enter Tryz.func190, Tryz.ntmps190
  go_big_wp2_with (first
    | (go_at_call_of 165 (Value.string ⟨#[34]⟩); refine (H34.out _ HR.out).mono ?_; rintro e w1 ⟨rfl, hm1⟩)
    | (go_at_call_of 165 (Value.string ⟨#[39]⟩); refine (H39.out _ hm1.rest).mono ?_; rintro e w2 ⟨rfl, hm2⟩)
    | (go_at_call 162; refine (HU.out _ hm2.rest).mono ?_; rintro e w3 ⟨rfl, hm3⟩)
    | (go_at_call 212; refine (HC.out _).mono ?_; rintro e w4 ⟨rfl, hb4⟩))
  · rename_i he
    rw [Lib.toList_data] at he
    have hE : bl v = [] := he
    go_ret2
    rw [hE]
    exact ⟨by rw [show v = ⟨([] : List UInt8).toArray⟩ from eq_mk hE]; rfl, (hm1.trans hm2).trans hm3⟩
  · go_ret2
    exact ⟨by rw [show (bl v).isEmpty = v.toList.isEmpty by rw [Lib.toList_data]; rfl]; rfl, ((hm1.trans hm2).trans hm3).on hb4⟩
set_option maxRecDepth 100000 in
set_option maxHeartbeats 1000000 in
theorem value_any (b : Nat) (cur : ByteArray) (hsz : cur.size ≤ 4294967280) (w : World) (h : RB w b cur) (hm : Maxed w b) :
    Calls Tryz.prog 190 #[.pointer (some ⟨b, 0, none⟩)] w fun e w' => ∃ v ok c, e = .returned (.tuple #[.string v, .bool ok]) ∧ Moved w b c w' ∧ ToldV (valueL (bl cur)) v ok c := by
  have HM := Lib.hid hm
  have HR := Lib.hid h
  have H34 := Lib.hid (fun w h => took_any b cur ⟨#[34]⟩ w h)
  have H39 := Lib.hid (fun w h => took_any b cur ⟨#[39]⟩ w h)
  rw [show bl (⟨#[34]⟩ : ByteArray) = [34] from rfl, hasPrefix_one, trimPrefix_one] at H34
  rw [show bl (⟨#[39]⟩ : ByteArray) = [39] from rfl, hasPrefix_one, trimPrefix_one] at H39
  clear h hm
  cases hl : bl cur with
  | nil =>
    refine (value_plain b cur hsz w HR.out (by rw [hl]; simp) (by rw [hl]; simp)).mono ?_
    rintro e w' ⟨rfl, hw⟩
    exact ⟨_, _, _, rfl, hw, by rw [hl]; exact rfl⟩
  | cons x t =>
    rw [hl] at H34 H39
    rw [valueL]
    have hts : (⟨t.toArray⟩ : ByteArray).size ≤ 4294967280 := by
      have h1 := bl_length cur
      have h2 := bl_length ⟨t.toArray⟩
      rw [hl] at h1; rw [bl_of] at h2
      simp at h1; omega
    by_cases h34 : x = 34
    · subst h34
      rw [if_pos rfl]
      simp only [List.head?_cons, decide_true, List.drop_succ_cons, List.drop_zero, if_true] at H34
      have hq := quote_one b ⟨t.toArray⟩ 34 hts
      rw [bl_of] at hq
      have HQ := Lib.hid hq
      clear hq H39
      go_enter Tryz.func190, Tryz.ntmps190
      go_big_wp2_with (first
        | (go_at_call 165; refine (H34.out _ HR.out).mono ?_; rintro e w1 ⟨rfl, hm1⟩)
        | (go_at_call 211; refine (HQ.out _ hm1.rest (HM.out.grown hm1.grown)).mono ?_; rintro e w2 ⟨v, ok, c, rfl, hm2, hres⟩))
      go_ret2
      exact ⟨v, ok, c, rfl, hm1.trans hm2, hres⟩
    · rw [if_neg h34]
      have hn34 : decide ((x :: t).head? = some 34) = false := by simp [h34]
      have hi34 : (if (x :: t).head? = some 34 then (x :: t).drop 1 else x :: t) = bl cur := by rw [hl]; simp [h34]
      rw [hn34, hi34] at H34
      by_cases h39 : x = 39
      · subst h39
        rw [if_pos rfl]
        simp only [List.head?_cons, decide_true, List.drop_succ_cons, List.drop_zero, if_true] at H39
        have hq := quote_one b ⟨t.toArray⟩ 39 hts
        rw [bl_of] at hq
        have HQ := Lib.hid hq
        clear hq hl hn34 hi34 h34
        go_enter Tryz.func190, Tryz.ntmps190
        go_big_wp2_with (first
          | (go_at_call_of 165 (Value.string ⟨#[34]⟩); refine (H34.out _ HR.out).mono ?_; rintro e w1 ⟨rfl, hm1⟩)
          | (go_at_call_of 165 (Value.string ⟨#[39]⟩); refine (H39.out _ hm1.rest).mono ?_; rintro e w2 ⟨rfl, hm2⟩)
          | (go_at_call 211; refine (HQ.out _ hm2.rest (HM.out.grown (hm1.trans hm2).grown)).mono ?_; rintro e w3 ⟨v, ok, c, rfl, hm3, hres⟩))
        go_ret2
        exact ⟨v, ok, c, rfl, (hm1.trans hm2).trans hm3, hres⟩
      · rw [if_neg h39]
        refine (value_plain b cur hsz w HR.out (by rw [hl]; simp [h34]) (by rw [hl]; simp [h39])).mono ?_
        rintro e w' ⟨rfl, hw⟩
        refine ⟨_, _, _, rfl, hw, ?_⟩
        rw [hl]
        unfold ToldV
        cases h1 : (before plainStops (x :: t)).isEmpty with
        | true => simp
        | false =>
          cases h2 : (before plainStops (x :: t)).any badB with
          | true => simp
          | false => simp
end Go.Proofs.YtnfkndaggcklkaaGreatDoor

namespace Go.TokenKit
open Go Go.Lib Go.CharrefKit
theorem quoted_size {q : UInt8} {l x r : Bytes} (h : quotedL q l = some (x, r)) : x.length ≤ l.length := by
  unfold quotedL at h
  split at h
  · simp only [Option.some.injEq, Prod.mk.injEq] at h
    rw [← h.1]
    have := before_len [q] l
    omega
  · cases h
theorem valueL_size {l x r : Bytes} (h : valueL l = some (x, r)) : x.length ≤ l.length := by
  cases l with
  | nil => cases h
  | cons b t =>
    rw [valueL] at h
    split at h
    · have := quoted_size h; simp only [List.length_cons]; omega
    · split at h
      · have := quoted_size h; simp only [List.length_cons]; omega
      · split at h
        · cases h
        · simp only [Option.some.injEq, Prod.mk.injEq] at h
          rw [← h.1]
          have := before_len plainStops (b :: t)
          omega
theorem attrL_bad {l n : Bytes} (hn : n = smallL (before nameStops l)) (h : n = [] ∨ wordL [45, 95] n = false) : attrL l = none := by
  unfold attrL
  simp only [← hn]
  rw [if_pos (by rcases h with h | h <;> simp [h])]
theorem attrL_bare {l n r : Bytes} (hn : n = smallL (before nameStops l)) (hr : r = skipL (behind nameStops l)) (h1 : n ≠ []) (h2 : wordL [45, 95] n = true) (h3 : hasPrefix r [61] = false) : attrL l = some ((n, []), r) := by
  unfold attrL
  simp only [← hn, ← hr]
  rw [if_neg (by simp [h1, h2])]
  cases r with
  | nil => rfl
  | cons b t =>
    rw [hasPrefix_one] at h3
    have : b ≠ 61 := by simpa using h3
    simp only [this, if_false]
theorem attrL_value {l n r : Bytes} (hn : n = smallL (before nameStops l)) (hr : r = skipL (behind nameStops l)) (h1 : n ≠ []) (h2 : wordL [45, 95] n = true) (h3 : hasPrefix r [61] = true) :
    attrL l = match valueL (skipL (trimPrefix r [61])) with
      | none => none
      | some (v, r'') => some ((n, decodeL true v), r'') := by
  unfold attrL
  simp only [← hn, ← hr]
  rw [if_neg (by simp [h1, h2])]
  rw [hasPrefix_one] at h3
  rw [trimPrefix_one]
  cases r with
  | nil => simp at h3
  | cons b t =>
    have : b = 61 := by simpa using h3
    subst this
    simp only [List.head?_cons, if_true, List.drop_succ_cons, List.drop_zero]
    rfl
/-- What the reader of an attribute tells, against the document's. -/
def ToldA (o : Option (At × Bytes)) (n v : ByteArray) (e : Int) (c : ByteArray) : Prop := match o with
  | none => e = 41
  | some ((x, y), r) => e = 0 ∧ n = ⟨x.toArray⟩ ∧ v = ⟨y.toArray⟩ ∧ c = ⟨r.toArray⟩
end Go.TokenKit
namespace Go.Proofs.YtnfkndaggcklkaaGreatDoor
open Go.RowKit Go.RunKit Go.CharrefKit Go.Lib Go.TokenKit

abbrev TAt : TypeId := 40
theorem results_row_tmp {P : Program} {fn : Func} {p u : Tmp} {ty : TypeId} (h : fn.results = #[.cell p ty, .tmp u]) (tmps : Array Value) (w : World) (g : Nat) (t : TypeId) (cs : Array Value) (fr : Nat × Nat) (d : TypeDesc)
    (hp : tmps.getD p undef = .pointer (some ⟨g, 0, none⟩)) (hg : w.heap[g]? = some (.cells cs t fr))
    (hu : P.underlying ty = some d) (hd : (match d with | .struct _ | .array _ _ => true | _ => false) = true) (hi : (P.info? ty).map (·.size) = some cs.size) :
    (results fn tmps).run P w = .ok (.tuple #[.agg cs, tmps.getD u undef]) w := by
  rw [results_cell_tmp h, hp]
  simp [asAddr, run_loadVar_row w g t ty cs fr d hg hu hd hi, Result.andThen]

theorem small_len (l : List UInt8) : (smallL l).length = l.length := by simp [smallL]
theorem trimPrefix_len (l p : List UInt8) : (trimPrefix l p).length ≤ l.length := by
  unfold trimPrefix; split <;> simp
theorem below_of_old {w W : World} {b : Nat} {c : ByteArray} {g : Nat} {o : Obj} (h : Moved w b c W) (hg : w.heap[g]? = some o) (hne : g ≠ b) : W.heap[g]? = some o := by
  rw [h.grown.block g (Array.getElem?_eq_some_iff.1 hg).1 (by simpa using hne)]; exact hg

theorem toldV_size {l : List UInt8} {v c : ByteArray} {ok : Bool} (h : ToldV (valueL l) v ok c) (hok : ok = true) : v.size ≤ l.length := by
  cases hv : valueL l with
  | none => rw [hv] at h; exact absurd (hok.symm.trans h) (by decide)
  | some x =>
    obtain ⟨x, r⟩ := x
    rw [hv] at h
    have hx : x.length ≤ l.length := valueL_size hv
    rw [h.2.1, ← bl_length, bl_of]; exact hx
theorem Moved.newset {w W : World} {b g i : Nat} {c : ByteArray} {v : Value} (h : Moved w b c W) (hg : w.heap.size ≤ g) (hne : g ≠ b) : Moved w b c (W.setCell ⟨g, i, none⟩ v) :=
  ⟨⟨h.grown.os, h.grown.tape, h.grown.output, by simpa [World.setCell] using h.grown.size, fun k hk hn => (heap_setCell_other W ⟨g, i, none⟩ k v (by show k ≠ g; omega)).trans (h.grown.block k hk hn)⟩,
    (heap_setCell_other W ⟨g, i, none⟩ b v (by show b ≠ g; omega)).trans h.rest⟩
theorem set2 {W : World} {g : Nat} {a c x y : Value} {T : TypeId} (h : W.heap[g]? = some (.cells #[a, c] T (0, 0))) :
    ((W.setCell ⟨g, 0, none⟩ x).setCell ⟨g, 1, none⟩ y).heap[g]? = some (.cells #[x, y] T (0, 0)) := by
  have := heap_setCell_same _ g 1 _ _ y (heap_setCell_same W g 0 _ _ x h)
  simpa using this
theorem dec_room {v c4 cur : ByteArray} {ok : Bool} (h : ok = true → v.size ≤ (bl c4).length) (hk : (!ok) = false) (h4 : c4.size ≤ cur.size) (hs : cur.size ≤ 4294967280) : v.size ≤ 1099511627776 := by
  have := h (by simpa using hk)
  rw [bl_length] at this
  omega
theorem local2 {W : World} {g : Nat} {a c : Value} {T : TypeId} (h : W.heap[g]? = some (.cells #[a, c] T (0, 0))) :
    W.cell? ⟨g, 0, none⟩ = some a ∧ W.cell? ⟨g, 1, none⟩ = some c ∧ W.frozen? ⟨g, 0, none⟩ = false ∧ W.frozen? ⟨g, 1, none⟩ = false :=
  ⟨by simp [World.cell?, h], by simp [World.cell?, h], frozen_of_row W g 0 _ _ h, frozen_of_row W g 1 _ _ h⟩
set_option maxRecDepth 100000 in
set_option maxHeartbeats 2000000 in
theorem attribute_any (b : Nat) (cur : ByteArray) (hsz : cur.size ≤ 4294967280) (w : World) (h : RB w b cur) (hm : Maxed w b) :
    Calls Tryz.prog 166 #[.pointer (some ⟨b, 0, none⟩)] w fun e w' => ∃ n v er c, e = .returned (.tuple #[.agg #[.string n, .string v], .int .i64 er]) ∧ Moved w b c w' ∧ ToldA (attrL (bl cur)) n v er c := by
  have hbl := bl_length cur
  have hlt := h.lt
  obtain ⟨nm0, hnm0, e0⟩ : ∃ x : ByteArray, x = ⟨(before nameStops (bl cur)).toArray⟩ ∧ bl x = before nameStops (bl cur) := ⟨_, rfl, bl_of _⟩
  obtain ⟨c1, hc1, f1⟩ : ∃ x : ByteArray, x = ⟨(behind nameStops (bl cur)).toArray⟩ ∧ bl x = behind nameStops (bl cur) := ⟨_, rfl, bl_of _⟩
  obtain ⟨nm, hnm, e1⟩ : ∃ x : ByteArray, x = ⟨(smallL (bl nm0)).toArray⟩ ∧ bl x = smallL (bl nm0) := ⟨_, rfl, bl_of _⟩
  obtain ⟨c2, hc2, f2⟩ : ∃ x : ByteArray, x = ⟨(skipL (bl c1)).toArray⟩ ∧ bl x = skipL (bl c1) := ⟨_, rfl, bl_of _⟩
  obtain ⟨c3, hc3, f3⟩ : ∃ x : ByteArray, x = ⟨(Lib.trimPrefix (bl c2) [61]).toArray⟩ ∧ bl x = Lib.trimPrefix (bl c2) [61] := ⟨_, rfl, bl_of _⟩
  obtain ⟨c4, hc4, f4⟩ : ∃ x : ByteArray, x = ⟨(skipL (bl c3)).toArray⟩ ∧ bl x = skipL (bl c3) := ⟨_, rfl, bl_of _⟩
  have l0 := before_len nameStops (bl cur)
  have l2 := skip_len (bl c1)
  rw [← f2] at l2
  have l3 := trimPrefix_len (bl c2) [61]
  rw [← f3] at l3
  have l4 := skip_len (bl c3)
  rw [← f4] at l4
  rw [← f1] at l0
  have sn0 : nm0.size ≤ cur.size := by rw [← bl_length, e0]; omega
  have sn : nm.size ≤ cur.size := by rw [← bl_length, e1, small_len, bl_length]; exact sn0
  have s4 : c4.size ≤ cur.size := by rw [← bl_length]; omega
  have HU : Hid (∀ w, RB w b cur → _) := Lib.hid fun w h => takeUpTo_any b cur ⟨#[9, 10, 12, 32, 61, 47, 62]⟩ (by decide) (by decide) (ascii_of_all (by decide)) hsz w h
  rw [show bl (⟨#[9, 10, 12, 32, 61, 47, 62]⟩ : ByteArray) = nameStops from rfl, ← hnm0, ← hc1] at HU
  have HS := Lib.hid fun w => small_any nm0 (by omega) w
  rw [← hnm] at HS
  obtain ⟨z, HZ⟩ : ∃ z, Hid (wordL [45, 95] (bl nm) = z) := ⟨_, Lib.hid rfl⟩
  have HW := Lib.hid fun w => isWord_any nm ⟨#[45, 95]⟩ (by omega) w
  rw [show wordL (bl (⟨#[45, 95]⟩ : ByteArray)) (bl nm) = z from HZ.out] at HW
  have HL1 := Lib.hid fun w h => leave_any b c1 w h
  rw [← hc2] at HL1
  obtain ⟨p, HP⟩ : ∃ p, Hid (Lib.hasPrefix (bl c2) [61] = p) := ⟨_, Lib.hid rfl⟩
  have HT := Lib.hid fun w h => took_any b c2 ⟨#[61]⟩ w h
  rw [show bl (⟨#[61]⟩ : ByteArray) = [61] from rfl, HP.out, ← hc3] at HT
  have HL2 := Lib.hid fun w h => leave_any b c3 w h
  rw [← hc4] at HL2
  have HV := Lib.hid fun w h hm => value_any b c4 (by omega) w h hm
  have HE := Lib.hid (And.intro e0 (And.intro e1 (And.intro f1 (And.intro f2 (And.intro f3 (And.intro f4 (And.intro hc2 hc3)))))))
  have hne : w.heap.size ≠ b := by omega
  have H0 : Hid (Moved w b cur (w.alloc (.cells #[.string ⟨#[]⟩, .string ⟨#[]⟩] TAt))) := Lib.hid ((Moved.refl h).on ((Below.refl _ _).alloc (Nat.le_refl _) _))
  have G0 : Hid ((w.alloc (.cells #[.string ⟨#[]⟩, .string ⟨#[]⟩] TAt)).heap[w.heap.size]? = some (.cells #[.string ⟨#[]⟩, .string ⟨#[]⟩] TAt (0, 0))) := Lib.hid (heap_alloc_new w _)
  have hcell := H0.out.rest.cell
  have HM0 := Lib.hid (hm.below ((Below.refl w.heap.size w).alloc (Nat.le_refl _) (.cells #[.string ⟨#[]⟩, .string ⟨#[]⟩] TAt)))
  clear hnm0 e0 hc1 f1 hnm e1 hc2 f2 hc3 f3 hc4 f4 l0 l2 l3 l4 hbl h hm
  go_enter Tryz.func166, Tryz.ntmps166
  go_big_wp2_with (first
    | (go_at_call 162; refine (HU.out _ H0.out.rest).mono ?_; rintro e w1 ⟨rfl, hm1⟩)
    | (go_at_call 111; refine (HS.out _).mono ?_; rintro e w2 ⟨rfl, hb2⟩; have hg2 := (hm1.on hb2); obtain ⟨hx0, hx1, hz0, hz1⟩ := local2 (below_of_old hg2 G0.out hne))
    | (go_at_call 163; refine (HW.out _).mono ?_; rintro e w3 ⟨rfl, rfl⟩)
    | (go_at_call 164; refine (HL1.out _ hg2.rest).mono ?_; rintro e w4 ⟨rfl, hm4⟩; have hg4 := hg2.trans hm4; clear HL1)
    | (go_at_call 165; refine (HT.out _ hg4.rest).mono ?_; rintro e w5 ⟨rfl, hm5⟩; have hg5 := hg4.trans hm5; clear hx0 hx1 hz0 hz1; obtain ⟨hx0, hx1, hz0, hz1⟩ := local2 (below_of_old hg5 G0.out hne))
    | (go_at_call 164; refine (HL2.out _ hg5.rest).mono ?_; rintro e w6 ⟨rfl, hm6⟩; have hg6 := hg5.trans hm6)
    | (go_at_call 190; refine (HV.out _ hg6.rest (HM0.out.grown hg6.grown)).mono ?_; rintro e w7 ⟨v, ok, c, rfl, hm7, hv⟩; have hvs := toldV_size hv; have hg7 := hg6.trans hm7; clear hx0 hx1 hz0 hz1; obtain ⟨hx0, hx1, hz0, hz1⟩ := local2 (below_of_old hg7 G0.out hne))
    | (go_at_call 137; refine (decode_any true v (dec_room hvs (by assumption) s4 hsz) _).mono ?_; rintro e w8 ⟨rfl, hb8⟩; have hg8 := hg7.on hb8; clear hx0 hx1 hz0 hz1; obtain ⟨hx0, hx1, hz0, hz1⟩ := local2 (below_of_old hg8 G0.out hne)))
  all_goals
    obtain ⟨e0, e1, f1, f2, f3, f4, hc2, hc3⟩ := HE.out
    have hn : bl nm = smallL (before nameStops (bl cur)) := by rw [e1, e0]
    have hr : bl c2 = skipL (behind nameStops (bl cur)) := by rw [f2, f1]
    have hW0 : Below w.heap.size w (w.alloc (.cells #[.string ⟨#[]⟩, .string ⟨#[]⟩] TAt)) := (Below.refl _ _).alloc (Nat.le_refl _) _
  · rename_i hE
    rw [Lib.toList_data] at hE
    refine bodyPost_ret (results_row_tmp rfl _ _ w.heap.size TAt _ _ _ rfl (set2 (below_of_old hg2 G0.out hne)) Tryz.underlying40 rfl (by kernel_rfl)) rfl ?_
    refine ⟨_, _, _, c1, rfl, ((hg2.from_ hW0).newset (Nat.le_refl _) hne).newset (Nat.le_refl _) hne, ?_⟩
    rw [attrL_bad hn (.inl hE)]; rfl
  · rename_i hE hO
    rw [Lib.toList_data] at hE
    refine bodyPost_ret (results_row_tmp rfl _ _ w.heap.size TAt _ _ _ rfl (set2 (below_of_old hg2 G0.out hne)) Tryz.underlying40 rfl (by kernel_rfl)) rfl ?_
    refine ⟨_, _, _, c1, rfl, ((hg2.from_ hW0).newset (Nat.le_refl _) hne).newset (Nat.le_refl _) hne, ?_⟩
    have hz : z = false := by
      rcases hO with hO | hO
      · rw [Lib.toList_data] at hO; exact absurd (by simpa using hO) hE
      · simpa using hO
    rw [attrL_bad hn (.inr (HZ.out.trans hz))]; rfl
  · have hE : ¬ nm.toList = [] := by assumption
    have hO : nm.toList.isEmpty = false ∧ (!z) = false := by assumption
    have hp : (!p) = true := by assumption
    rw [Lib.toList_data] at hE
    have hz : z = true := by simpa using hO.2
    have hp : p = false := by simpa using hp
    refine bodyPost_ret (results_row_tmp rfl _ _ w.heap.size TAt _ _ _ rfl (set2 (below_of_old hg5 G0.out hne)) Tryz.underlying40 rfl (by kernel_rfl)) rfl ?_
    refine ⟨_, _, _, c3, rfl, ((hg5.from_ hW0).newset (Nat.le_refl _) hne).newset (Nat.le_refl _) hne, ?_⟩
    rw [attrL_bare hn hr hE (HZ.out.trans hz) (HP.out.trans hp)]
    refine ⟨rfl, rfl, rfl, ?_⟩
    rw [hc3]
    unfold Lib.trimPrefix
    rw [HP.out, hp]; rfl
  · have hE : ¬ nm.toList = [] := by assumption
    have hO : nm.toList.isEmpty = false ∧ (!z) = false := by assumption
    have hp : (!p) = false := by assumption
    have hok : (!ok) = true := by assumption
    rw [Lib.toList_data] at hE
    have hz : z = true := by simpa using hO.2
    have hp : p = true := by simpa using hp
    have hok : ok = false := by simpa using hok
    refine bodyPost_ret (results_row_tmp rfl _ _ w.heap.size TAt _ _ _ rfl (set2 (below_of_old hg7 G0.out hne)) Tryz.underlying40 rfl (by kernel_rfl)) rfl ?_
    refine ⟨_, _, _, c, rfl, ((hg7.from_ hW0).newset (Nat.le_refl _) hne).newset (Nat.le_refl _) hne, ?_⟩
    rw [attrL_value hn hr hE (HZ.out.trans hz) (HP.out.trans hp), ← f3, ← f4]
    cases hvl : valueL (bl c4) with
    | none => rfl
    | some x =>
      rw [hvl] at hv
      exact absurd (hok.symm.trans hv.1) (by decide)
  · have hE : ¬ nm.toList = [] := by assumption
    have hO : nm.toList.isEmpty = false ∧ (!z) = false := by assumption
    have hp : (!p) = false := by assumption
    have hok : (!ok) = false := by assumption
    rw [Lib.toList_data] at hE
    have hz : z = true := by simpa using hO.2
    have hp : p = true := by simpa using hp
    have hok : ok = true := by simpa using hok
    refine bodyPost_ret (results_row_tmp rfl _ _ w.heap.size TAt _ _ _ rfl (set2 (below_of_old hg8 G0.out hne)) Tryz.underlying40 rfl (by kernel_rfl)) rfl ?_
    refine ⟨_, _, _, c, rfl, ((hg8.from_ hW0).newset (Nat.le_refl _) hne).newset (Nat.le_refl _) hne, ?_⟩
    rw [attrL_value hn hr hE (HZ.out.trans hz) (HP.out.trans hp), ← f3, ← f4]
    cases hvl : valueL (bl c4) with
    | none =>
      rw [hvl] at hv
      exact absurd (hok.symm.trans hv) (by decide)
    | some x =>
      obtain ⟨x, r⟩ := x
      rw [hvl] at hv
      obtain ⟨_, hv2, hv3⟩ := hv
      exact ⟨rfl, rfl, by rw [hv2, bl_of], hv3⟩
end Go.Proofs.YtnfkndaggcklkaaGreatDoor

namespace Go.Proofs.YtnfkndaggcklkaaGreatDoor
open Go.RowKit Go.RunKit Go.CharrefKit Go.Lib Go.TokenKit Go.Shelf

def attrCells (l : List At) : List Value := l.flatMap fun a => [.string ⟨a.1.toArray⟩, .string ⟨a.2.toArray⟩]
theorem attrCells_cons (a : At) (r : List At) : attrCells (a :: r) = .string ⟨a.1.toArray⟩ :: .string ⟨a.2.toArray⟩ :: attrCells r := rfl
theorem attrCells_snoc (l : List At) (a : At) : attrCells (l ++ [a]) = attrCells l ++ [.string ⟨a.1.toArray⟩, .string ⟨a.2.toArray⟩] := by simp [attrCells]
theorem attrCells_at : ∀ {l : List At} {k : Nat} {a : At}, l[k]? = some a → (attrCells l)[k * 2]? = some (.string ⟨a.1.toArray⟩) ∧ (attrCells l)[k * 2 + 1]? = some (.string ⟨a.2.toArray⟩)
  | [], k, a, h => by simp at h
  | x :: r, 0, a, h => by
    simp only [List.getElem?_cons_zero, Option.some.injEq] at h
    subst h
    exact ⟨rfl, rfl⟩
  | x :: r, k + 1, a, h => by
    have := attrCells_at (l := r) (k := k) (a := a) (by simpa using h)
    rw [attrCells_cons, show (k + 1) * 2 = k * 2 + 1 + 1 by omega]
    simpa using this
/-- Attributes in memory. -/
def AtRow (w : World) (base : Nat) (v : Value) (l : List At) : Prop := w.ownsRow base TAt 2 v l.length (attrCells l)
/-- What is read of them. -/
structure AtReads (w : World) (ao : Option Addr) (l : List At) : Prop where
  at_ : ∀ k a, l[k]? = some a → ∃ g, ao = some ⟨g, 0, none⟩ ∧ w.cell? ⟨g, k * 2, none⟩ = some (.string ⟨a.1.toArray⟩) ∧ w.cell? ⟨g, k * 2 + 1, none⟩ = some (.string ⟨a.2.toArray⟩)
theorem AtRow.reads {w : World} {base : Nat} {v : Value} {l : List At} (h : AtRow w base v l) : ∃ ao cap, v = .slice ao l.length cap ∧ AtReads w ao l := by
  rcases h.2 with ⟨rfl, hn⟩ | ⟨g, cap, cur, rfl, _⟩
  · refine ⟨none, 0, by rw [hn], ⟨fun k a ha => ?_⟩⟩
    have := (List.getElem?_eq_some_iff.1 ha).1
    omega
  · refine ⟨_, cap, rfl, ⟨fun k a ha => ⟨g, rfl, ?_⟩⟩⟩
    have hk := (List.getElem?_eq_some_iff.1 ha).1
    obtain ⟨h1, h2⟩ := attrCells_at ha
    exact ⟨by rw [World.ownsRow.cellAt h (k * 2) (by omega)]; exact h1, by rw [World.ownsRow.cellAt h (k * 2 + 1) (by omega)]; exact h2⟩
theorem AtReads.on {w w' : World} {ao : Option Addr} {l : List At} (h : AtReads w ao l) (hb : Below w.heap.size w w') : AtReads w' ao l := ⟨fun k a ha => by
  obtain ⟨g, e, h1, h2⟩ := h.at_ k a ha
  exact ⟨g, e, by rw [hb.cell (World.block_lt_of_cell? _ _ h1)]; exact h1, by rw [hb.cell (World.block_lt_of_cell? _ _ h2)]; exact h2⟩⟩

set_option maxRecDepth 100000 in
set_option maxHeartbeats 400000 in
theorem asksName (p : Nat) (x y n : ByteArray) (w : World) (h : w.cell? ⟨p, 0, none⟩ = some (.string n)) :
    Calls Tryz.prog 191 #[.agg #[.string x, .string y], .pointer (some ⟨p, 0, none⟩)] w fun e w' => e = .returned (.bool (bl x == bl n)) ∧ Below w.heap.size w w' := by
  have hlt : p < w.heap.size := World.block_lt_of_cell? _ _ h
  have hcell : (w.alloc (.cells #[.string x, .string y] TAt)).cell? ⟨p, 0, none⟩ = some (.string n) := by
    rw [((Below.refl w.heap.size w).alloc (Nat.le_refl _) (.cells #[.string x, .string y] TAt)).cell hlt]; exact h
  go_enter Tryz.func191, Tryz.ntmps191
  go_big_wp2
  go_ret
  exact ⟨by rw [show (bl x == bl n) = (x.toList == n.toList) by rw [Lib.toList_data, Lib.toList_data]; rfl]; rfl, (Below.refl _ _).alloc (Nat.le_refl _) _⟩

/-- None of the first k has this name. -/
def NoName (n : ByteArray) (l : List At) (k : Nat) : Prop := ∀ j a, j < k → l[j]? = some a → (a.1 == bl n) = false
theorem noName_all {n : ByteArray} {l : List At} (h : NoName n l l.length) : l.any (fun a => a.1 == bl n) = false := by
  rw [List.any_eq_false]
  intro a ha
  obtain ⟨j, hj⟩ := List.mem_iff_getElem?.1 ha
  rw [h j a (List.getElem?_eq_some_iff.1 hj).1 hj]; decide
theorem noName_hit {n : ByteArray} {l : List At} {k : Nat} {a : At} (h : l[k]? = some a) (e : (a.1 == bl n) = true) : l.any (fun a => a.1 == bl n) = true :=
  List.any_eq_true.2 ⟨a, List.mem_of_getElem? h, e⟩

set_option maxRecDepth 100000 in
set_option maxHeartbeats 1000000 in
theorem indexName (p : Nat) (ao : Option Addr) (cap : Nat) (l : List At) (n : ByteArray) (w : World) (hl : l.length ≤ 4294967296) (h : w.cell? ⟨p, 0, none⟩ = some (.string n)) (hr : AtReads w ao l) :
    Calls Tryz.prog 154 #[.slice ao l.length cap, .func (.func 191) #[] #[.pointer (some ⟨p, 0, none⟩)]] w fun e w' =>
      ∃ i : Int, e = .returned (.int .i64 i) ∧ Below w.heap.size w w' ∧ decide (0 ≤ i) = l.any (fun a => a.1 == bl n) := by
  have HR := Lib.hid hr
  have HP := Lib.hid h
  have hlt : p < w.heap.size := World.block_lt_of_cell? _ _ h
  have eg := enters_of Tryz.func191 (by kernel_rfl) rfl
  clear h hr
  go_enter Tryz.func154, Tryz.ntmps154
  go_wp2
  go_loopw [8] (fun v wr => ∃ k : Nat, v = .int .i64 (k : Nat) ∧ k ≤ l.length ∧ Hid (Below w.heap.size w wr) ∧ Hid (NoName n l k)) (fun v _ => l.length - (RowKit.intOf v).toNat)
  case atStart => exact ⟨0, rfl, Nat.zero_le _, Lib.hid (Below.refl _ _), Lib.hid fun j a h => by omega⟩
  case round =>
    obtain ⟨k, rfl, hk, HB, HN⟩ := hrel
    by_cases hkl : k < l.length
    · have hkI : (k : Int) < l.length := by omega
      obtain ⟨a, ha⟩ : ∃ a, l[k]? = some a := ⟨l[k], by simp [hkl]⟩
      obtain ⟨g, rfl, h1, h2⟩ := HR.out.at_ k a ha
      have hg := World.block_lt_of_cell? _ _ h1
      have c1 : wr.cell? ⟨g, k * 2, none⟩ = some (.string ⟨a.1.toArray⟩) := by rw [HB.out.cell hg]; exact h1
      have c2 : wr.cell? ⟨g, k * 2 + 1, none⟩ = some (.string ⟨a.2.toArray⟩) := by rw [HB.out.cell (World.block_lt_of_cell? _ _ h2)]; exact h2
      have cp : wr.cell? ⟨p, 0, none⟩ = some (.string n) := by rw [HB.out.cell hlt]; exact HP.out
      have hq := asksName p ⟨a.1.toArray⟩ ⟨a.2.toArray⟩ n wr cp
      rw [bl_of] at hq
      have HA := Lib.hid ha
      cases hz : a.1 == bl n with
      | true =>
        rw [hz] at hq
        have HQ := Lib.hid hq
        have HZ := Lib.hid hz
        clear hq hz ha h1 h2 cp
        go_wp2_with (go_at_call 191; refine HQ.out.mono ?_; rintro e w1 ⟨rfl, hb1⟩)
        go_ret
        exact ⟨_, rfl, HB.out.trans (hb1.mono HB.out.size), by rw [noName_hit HA.out HZ.out]; simp⟩
      | false =>
        rw [hz] at hq
        have HQ := Lib.hid hq
        have HZ := Lib.hid hz
        clear hq hz ha h1 h2 cp
        go_wp2_with (go_at_call 191; refine HQ.out.mono ?_; rintro e w1 ⟨rfl, hb1⟩)
        refine ⟨⟨k + 1, rfl, by omega, Lib.hid (HB.out.trans (hb1.mono HB.out.size)), Lib.hid fun j b hj hb => ?_⟩, by simp [RowKit.intOf]; omega⟩
        by_cases e : j = k
        · subst e; rw [HA.out] at hb; cases hb; exact HZ.out
        · exact HN.out j b (by omega) hb
    · obtain rfl : k = l.length := by omega
      go_wp2
      go_ret
      exact ⟨_, rfl, HB.out, by rw [noName_all HN.out]; rfl⟩

set_option maxRecDepth 100000 in
set_option maxHeartbeats 400000 in
theorem containsName (p : Nat) (ao : Option Addr) (cap : Nat) (l : List At) (n : ByteArray) (w : World) (hl : l.length ≤ 4294967296) (h : w.cell? ⟨p, 0, none⟩ = some (.string n)) (hr : AtReads w ao l) :
    Calls Tryz.prog 124 #[.slice ao l.length cap, .func (.func 191) #[] #[.pointer (some ⟨p, 0, none⟩)]] w fun e w' =>
      e = .returned (.bool (l.any (fun a => a.1 == bl n))) ∧ Below w.heap.size w w' := by
  have HI := Lib.hid (indexName p ao cap l n w hl h hr)
  clear h hr
  go_enter Tryz.func124, Tryz.ntmps124
  go_wp2_with (go_at_call 154; refine HI.out.mono ?_; rintro e w1 ⟨i, rfl, hb1, hi⟩)
  go_ret
  exact ⟨by rw [← hi]; rfl, hb1⟩

/-- P4.1: what is wrong with one attribute more. -/
def joinE (l : List At) (n : Bytes) : Int := if l.any (fun a => a.1 == n) then 41 else if 16 ≤ l.length then 3 else 0

set_option maxRecDepth 100000 in
set_option maxHeartbeats 1000000 in
theorem mayJoin_any (ao : Option Addr) (cap : Nat) (l : List At) (n v : ByteArray) (w : World) (hl : l.length ≤ 4294967296) (hr : AtReads w ao l) :
    Calls Tryz.prog 167 #[.slice ao l.length cap, .agg #[.string n, .string v]] w fun e w' => e = .returned (.int .i64 (joinE l (bl n))) ∧ Below w.heap.size w w' := by
  have hb0 : Below w.heap.size w (w.alloc (.cells #[.string n, .string v] TAt)) := (Below.refl _ _).alloc (Nat.le_refl _) _
  have hgn : (w.alloc (.cells #[.string n, .string v] TAt)).heap[w.heap.size]? = some (.cells #[.string n, .string v] TAt) := heap_alloc_new w _
  have hi := containsName w.heap.size ao cap l n (w.alloc (.cells #[.string n, .string v] TAt)) hl (by simp only [World.cell?, hgn]; rfl) (hr.on hb0)
  have HB := Lib.hid hb0
  obtain ⟨z, hz⟩ : ∃ z, l.any (fun a => a.1 == bl n) = z := ⟨_, rfl⟩
  rw [hz] at hi
  have HI := Lib.hid hi
  unfold joinE
  rw [hz]
  clear hr hb0 hi hz hgn
  go_enter Tryz.func167, Tryz.ntmps167
  go_big_wp2_with (go_at_call 124; refine HI.out.mono ?_; rintro e w1 ⟨rfl, hb1⟩)
  all_goals (go_ret; exact ⟨rfl, HB.out.trans (hb1.mono HB.out.size)⟩)
end Go.Proofs.YtnfkndaggcklkaaGreatDoor

