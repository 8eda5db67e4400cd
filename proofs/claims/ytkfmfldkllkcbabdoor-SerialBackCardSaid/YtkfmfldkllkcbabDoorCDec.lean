/-
  Decode of charref: it tells what the document says. Conditions: the text is no longer than 2^40 bytes.
-/
import Derived.Test.YtkfmfldkllkcbabDoorCEnc
namespace Go.Proofs.YtkfmfldkllkcbabDoor
open Go.RowKit Go.RunKit Go.CharrefKit Go.Lib

def strSize : Value → Nat
  | .string s => s.size
  | _ => 0
/-- What is held at the loop's head. -/
structure DecAt (w0 : World) (attr : Bool) (s0 cur : ByteArray) (done : List UInt8) (w : World) : Prop where
  rest : done ++ decodeL attr (bl cur) = decodeL attr (bl s0)
  built : Lib.IsBuilderF TB 5 w0.heap.size w0.heap.size (byteCells done) w
  below : Below w0.heap.size w0 w
  room : done.length + 4 * cur.size ≤ 4 * s0.size

theorem DecAt.wrote {w0 : World} {attr : Bool} {s0 cur cur' : ByteArray} {done l : List UInt8} {w w' : World} (h : DecAt w0 attr s0 cur done w) (he : decodeL attr (bl cur) = l ++ decodeL attr (bl cur')) (hr : l.length + 4 * cur'.size ≤ 4 * cur.size)
    (hb : Lib.BuilderAtF TB 5 w0.heap.size w0.heap.size (.pointer (some ⟨w0.heap.size, 0, none⟩)) (byteCells done ++ byteCells l) w') (hw : Below w0.heap.size w w') : DecAt w0 attr s0 cur' (done ++ l) w' :=
  ⟨by rw [List.append_assoc, ← he]; exact h.rest, .inr (by simpa [byteCells] using hb), h.below.trans hw, by rw [List.length_append]; have := h.room; omega⟩

theorem builder_on {B b : Nat} {bs : List Value} {w w' : World} (h : Lib.IsBuilderF TB 5 B b bs w) (hb : Below w.heap.size w w') : Lib.IsBuilderF TB 5 B b bs w' := by
  have hg : w.grownBy w' none := ⟨hb.os, hb.tape, hb.output, hb.size, fun k hk _ => hb.block k hk⟩
  have key : ∀ p, Lib.BuilderAtF TB 5 B b p bs w → Lib.BuilderAtF TB 5 B b p bs w' := by
    intro p h
    have hlt := h.lt
    obtain ⟨hB, v, hbk, hown, hne⟩ := h
    exact ⟨hB, v, by rw [hb.block b hlt]; exact hbk, hown.kept hg (Classical.em _), hne⟩
  rcases h with h | h
  · exact .inl (key _ h)
  · exact .inr (key _ h)
theorem DecAt.on {w0 : World} {attr : Bool} {s0 cur : ByteArray} {done : List UInt8} {w w' : World} (h : DecAt w0 attr s0 cur done w) (hb : Below w.heap.size w w') : DecAt w0 attr s0 cur done w' :=
  ⟨h.rest, builder_on h.built hb, h.below.trans (hb.mono h.below.size), h.room⟩

theorem decode_ref {attr : Bool} {t : ByteArray} {x : Ref} (hx : findL attr (natsOf t) = x) (hok : x.ok = true) : decodeL attr (bl t) = encodeRune ((x.char : Nat) : Int) ++ decodeL attr (bl (t.extract x.len t.size)) ∧ 1 ≤ x.len ∧ x.len ≤ t.size := by
  have h1 : (findL attr (nats (bl t))).ok = true := by change (findL attr (natsOf t)).ok = true; rw [hx]; exact hok
  have h2 := decodeL_ref h1
  have h3 := findL_len h1
  change findL attr (nats (bl t)) = x at hx
  rw [hx] at h2 h3
  have hl : (nats (bl t)).length = t.size := natsOf_length t
  rw [hl] at h3
  exact ⟨by rw [bl_drop]; exact h2, h3⟩
theorem decode_not {attr : Bool} {t : ByteArray} {y : List UInt8} (ht : bl t = 38 :: y) (hok : (findL attr (natsOf t)).ok = false) : decodeL attr (bl t) = [38] ++ decodeL attr (bl (t.extract 1 t.size)) := by
  rw [bl_drop, ht]
  refine decodeL_plain ?_
  rw [← ht]; exact hok

set_option maxRecDepth 100000 in
set_option maxHeartbeats 4000000 in
theorem decode_any (attr : Bool) (s : ByteArray) (hsz : s.size ≤ 1099511627776) (w : World) :
    Calls Tryd.prog 12 #[.string s, .bool attr] w fun e w' => e = .returned (.string ⟨(decodeL attr (bl s)).toArray⟩) ∧ Below w.heap.size w w' := by
  have D0 : Hid (DecAt w attr s s [] (w.alloc (.cells #[.pointer none, .slice none 0 0] TB))) := Lib.hid ⟨rfl, .inl ⟨Nat.le_refl _, .slice none 0 0, heap_alloc_new w _, World.ownsRowF_nil _ _ _ _, by simp [Value.ownBlock]⟩, (Below.refl _ _).alloc (Nat.le_refl _) _, by simp⟩
  go_enter Tryd.func12, Tryd.ntmps12
  go_wp2
  go_loopw [0] (fun v wr => ∃ (cur : ByteArray) (done : List UInt8), v = .string cur ∧ cur.size ≤ s.size ∧ Hid (DecAt w attr s cur done wr)) (fun v _ => strSize v)
  case atStart => exact ⟨s, [], rfl, Nat.le_refl _, D0⟩
  case round =>
    clear D0
    obtain ⟨cur, done, rfl, hcs, HD⟩ := hrel
    have HI := Lib.hid (fun w => Tryd.strings_IndexByte cur 38 w)
    have h38 : ((38 : Int).toNat.toUInt8) = (38 : UInt8) := rfl
    rw [h38] at HI
    change Hid (∀ w, Calls Tryd.prog 19 #[.string cur, .int .u8 38] w fun e w' => e = .returned (.int .i64 (Lib.indexByte (bl cur) 38)) ∧ w' = w) at HI
    by_cases hneg : Lib.indexByte (bl cur) 38 = -1
    · have hno := ib_none hneg
      have hdec : decodeL attr (bl cur) = bl cur ++ decodeL attr (bl ⟨#[]⟩) := by
        have := decodeL_ahead (attr := attr) (bl cur) [] (fun b hb => ne38 (hno b hb))
        rw [List.append_nil] at this
        rw [this]; rfl
      rw [hneg] at HI
      have HX := Lib.hid hdec
      have hroom := HD.out.room
      have hbsz := HD.out.below.size
      clear hneg hno hdec h38
      go_wp2_with (first
        | (go_at_call 19; refine (HI.out _).mono ?_; rintro e w1 ⟨rfl, rfl⟩)
        | (go_at_call 20; refine (writeString_any w.heap.size w.heap.size (byteCells done) cur _ HD.out.built (by simp [byteCells]; omega) hbsz).mono ?_; rintro e w2 ⟨rfl, hb2, hw2⟩; have HD2 := Lib.hid (HD.out.wrote (cur' := ⟨#[]⟩) HX.out (by rw [bl_length]; show _ + 4 * 0 ≤ _; omega) hb2 hw2); clear hb2 hw2)
        | (go_at_call 21; refine (Tryd.Builder_String_any_f _ _ (done ++ bl cur) _ HD2.out.built HD2.out.below.size).mono ?_; rintro e w3 ⟨rfl, _, hb3⟩))
      go_ret
      refine ⟨?_, HD2.out.below.trans hb3⟩
      have := HD2.out.rest
      rw [show bl (⟨#[]⟩ : ByteArray) = [] from rfl, decodeL_nil, List.append_nil] at this
      rw [← this]; rfl
    · obtain ⟨p, hp⟩ : ∃ p : Nat, Lib.indexByte (bl cur) 38 = (p : Int) := ⟨(Lib.indexByte (bl cur) 38).toNat, by have := Lib.indexByte_ge (bl cur) 38; omega⟩
      obtain ⟨x, y, hxy, hxl, hxn⟩ := ib_some hp
      rw [hp] at HI
      have hlen : x.length + 1 + y.length = cur.size := by
        have := bl_length cur
        rw [hxy] at this
        simp at this; omega
      have hpl : p < cur.size := by omega
      have htk : bl (cur.extract 0 p) = x := by rw [bl_take, hxy, ← hxl]; simp
      have htl : bl (cur.extract p cur.size) = 38 :: y := by rw [bl_drop, hxy, ← hxl]; simp
      have h1 : decodeL attr (bl cur) = bl (cur.extract 0 p) ++ decodeL attr (bl (cur.extract p cur.size)) := by
        rw [htk, htl, hxy]
        exact decodeL_ahead x (38 :: y) (fun b hb => ne38 (hxn b hb))
      have hts : (cur.extract p cur.size).size = cur.size - p := by simp
      have hps : (cur.extract 0 p).size = p := by simp; omega
      have H1 := Lib.hid h1
      have HS := Lib.hid (And.intro hts hps)
      have HF := find_any attr (cur.extract p cur.size) (by omega)
      obtain ⟨z, hz⟩ : ∃ z, findL attr (natsOf (cur.extract p cur.size)) = z := ⟨_, rfl⟩
      rw [hz] at HF
      have hroom := HD.out.room
      have hbsz := HD.out.below.size
      have HT := Lib.hid htl
      have hpI : (p : Int) ≤ cur.size := by omega
      clear h1 htk htl hp hneg hxy hxn h38 hlen hxl
      cases hok : z.ok with
      | true =>
        have hdr := decode_ref hz hok
        rw [hts] at hdr
        have HR := Lib.hid hdr
        obtain ⟨c, n, k⟩ := z
        simp only at hok
        subst hok
        unfold refV at HF
        simp only at HF HR
        have HF := Lib.hid HF
        have hcl := encodeRune_len ((c : Nat) : Int)
        have hn1 : 1 ≤ n ∧ n ≤ cur.size - p := HR.out.2
        have HE4 : Hid ((⟨(encodeRune ((c : Nat) : Int)).toArray⟩ : ByteArray).size = (encodeRune ((c : Nat) : Int)).length) := Lib.hid (by simp [ByteArray.size])
        clear hz hdr
        go_wp2_with (first
          | (go_at_call 19; refine (HI.out _).mono ?_; rintro e w1 ⟨rfl, rfl⟩)
          | (go_at_call 20; refine (writeString_any w.heap.size w.heap.size (byteCells done) (cur.extract 0 p) _ HD.out.built (by simp [byteCells]; omega) hbsz).mono ?_; rintro e w2 ⟨rfl, hb2, hw2⟩; have HD2 := Lib.hid (HD.out.wrote (cur' := cur.extract p cur.size) H1.out (by rw [bl_length, HS.out.1, HS.out.2]; omega) hb2 hw2); clear hb2 hw2 HD)
          | (go_at_call 22; refine (HF.out _).mono ?_; rintro e w3 ⟨rfl, hb3⟩; have HD3 := Lib.hid (HD2.out.on hb3); clear hb3 HD2)
          | (go_at_call 23; refine (string_one _ ((c : Nat) : Int) _ (by simp [go_sem])).mono ?_; rintro e w4 ⟨rfl, rfl⟩; have HD4 := Lib.hid (HD3.out.on ((Below.refl _ _).alloc (Nat.le_refl _) (.cells #[.int .i32 ((c : Nat) : Int)] 21))); have hr4 := HD4.out.room; have hs4 := HD4.out.below.size; clear HD3)
          | (go_at_call 20; refine (writeString_any w.heap.size w.heap.size (byteCells (done ++ bl (cur.extract 0 p))) ⟨(encodeRune ((c : Nat) : Int)).toArray⟩ _ HD4.out.built (by rw [byteCells_length, HE4.out]; omega) hs4).mono ?_; rintro e w5 ⟨rfl, hb5, hw5⟩; have HD5 := Lib.hid (HD4.out.wrote (cur' := (cur.extract p cur.size).extract n (cur.size - p)) (l := encodeRune ((c : Nat) : Int)) HR.out.1 (by simp; omega) hb5 hw5); clear hb5 hw5 HD4))
        exact ⟨⟨_, _, rfl, by simp; omega, HD5⟩, by simp [strSize]; omega⟩
      | false =>
        have hdn := decode_not HT.out (by rw [hz]; exact hok)
        rw [hts] at hdn
        have HR := Lib.hid hdn
        obtain ⟨c, n, k⟩ := z
        simp only at hok
        subst hok
        unfold refV at HF
        simp only at HF
        have HF := Lib.hid HF
        have htk1 : bl ((cur.extract p cur.size).extract 0 1) = [38] := by rw [bl_take, HT.out]; rfl
        have HT1 := Lib.hid htk1
        clear hz hdn htk1
        go_wp2_with (first
          | (go_at_call 19; refine (HI.out _).mono ?_; rintro e w1 ⟨rfl, rfl⟩)
          | (go_at_call 20; refine (writeString_any w.heap.size w.heap.size (byteCells done) (cur.extract 0 p) _ HD.out.built (by simp [byteCells]; omega) hbsz).mono ?_; rintro e w2 ⟨rfl, hb2, hw2⟩; have HD2 := Lib.hid (HD.out.wrote (cur' := cur.extract p cur.size) H1.out (by rw [bl_length, HS.out.1, HS.out.2]; omega) hb2 hw2); clear hb2 hw2 HD)
          | (go_at_call 22; refine (HF.out _).mono ?_; rintro e w3 ⟨rfl, hb3⟩; have HD3 := Lib.hid (HD2.out.on hb3); clear hb3 HD2)
          | (go_at_call 20; refine (writeString_any w.heap.size w.heap.size (byteCells (done ++ bl (cur.extract 0 p))) ((cur.extract p cur.size).extract 0 1) _ HD3.out.built (by have := HD3.out.room; simp [byteCells] at *; omega) HD3.out.below.size).mono ?_; rintro e w5 ⟨rfl, hb5, hw5⟩; have HD5 := Lib.hid (HD3.out.wrote (cur' := (cur.extract p cur.size).extract 1 (cur.size - p)) (l := bl ((cur.extract p cur.size).extract 0 1)) (by rw [HT1.out]; exact HR.out) (by rw [HT1.out]; simp; omega) hb5 hw5); clear hb5 hw5 HD3))
        exact ⟨⟨_, _, rfl, by simp; omega, HD5⟩, by simp [strSize]; omega⟩
end Go.Proofs.YtkfmfldkllkcbabDoor

