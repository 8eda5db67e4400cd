/-
  The reader of package token: a tag. Conditions: texts are no longer than 2^31 bytes.
  The reader of package token: what reads each token. Conditions: texts are no longer than 2^31 bytes.
-/
import Derived.Test.YtnfkndaggcklkaaGreatDoorPA6
import Derived.Maps.AppendAt
namespace Go.TokenKit
open Go Go.Lib Go.CharrefKit
end Go.TokenKit
namespace Go.Proofs.YtnfkndaggcklkaaGreatDoor
open Go.RowKit Go.RunKit Go.CharrefKit Go.Lib Go.TokenKit

abbrev TTk : TypeId := 25
def tokVal (k : Nat) (nm : ByteArray) (av : Value) (sf : Bool) (data : ByteArray) : Array Value := #[.int .u8 (k : Nat), .string nm, av, .bool sf, .string data]
def tokZero : Array Value := #[.int .u8 0, .string ⟨#[]⟩, .slice none 0 0, .bool false, .string ⟨#[]⟩]
theorem atRow_ne {w : World} {base k : Nat} {v : Value} {l : List At} {cs : Array Value} {T : TypeId} {fr : Nat × Nat} (h : AtRow w base v l) (hk : w.heap[k]? = some (.cells cs T fr)) (hT : T ≠ TAt) : v.ownBlock ≠ some k := by
  intro e
  rcases h.2 with ⟨rfl, _⟩ | ⟨g, cap, cur, rfl, _, hg, _⟩
  · simp [Value.ownBlock] at e
  · simp only [Value.ownBlock, Option.some.injEq] at e
    subst e
    rw [hk] at hg
    simp only [Option.some.injEq, Obj.cells.injEq] at hg
    exact hT hg.2.1
theorem AtRow.kept {w w' : World} {base k : Nat} {v : Value} {l : List At} {cs : Array Value} {T : TypeId} {fr : Nat × Nat} (h : AtRow w base v l) (hk : w.heap[k]? = some (.cells cs T fr)) (hT : T ≠ TAt) (hg : w.grownBy w' (some k)) : AtRow w' base v l :=
  World.ownsRow.kept h hg (.inr (atRow_ne h hk hT))
theorem AtRow.on {w w' : World} {base : Nat} {v : Value} {l : List At} (h : AtRow w base v l) (hb : Below w.heap.size w w') : AtRow w' base v l :=
  World.ownsRow.kept h (grown_below hb none) (by cases v.ownBlock <;> simp)
/-- What is held at the loop's head. -/
structure TagAt (w : World) (b g : Nat) (kd : Nat) (nm cur : ByteArray) (av : Value) (sf : Bool) (l : List At) (wr : World) : Prop where
  moved : Moved w b cur wr
  tok : wr.heap[g]? = some (.cells (tokVal kd nm av sf ⟨#[]⟩) TTk (0, 0))
  res : wr.heap[w.heap.size]? = some (.cells tokZero TTk (0, 0))
  row : AtRow wr w.heap.size av l
  ne : g ≠ b ∧ w.heap.size < g ∧ b < w.heap.size
theorem TagAt.on {w : World} {b g kd : Nat} {nm cur cur' : ByteArray} {av : Value} {sf : Bool} {l : List At} {wr wr' : World} (h : TagAt w b g kd nm cur av sf l wr) (m : Moved wr b cur' wr') : TagAt w b g kd nm cur' av sf l wr' :=
  ⟨h.moved.trans m, below_of_old m h.tok h.ne.1, below_of_old m h.res (by have := h.ne; omega), h.row.kept h.moved.rest (by decide) m.grown, h.ne⟩
theorem TagAt.below {w : World} {b g kd : Nat} {nm cur : ByteArray} {av : Value} {sf : Bool} {l : List At} {wr wr' : World} (h : TagAt w b g kd nm cur av sf l wr) (m : Below wr.heap.size wr wr') : TagAt w b g kd nm cur av sf l wr' :=
  h.on ((Moved.refl h.moved.rest).on m)
/-- The five cells of a token in memory. -/
theorem local5 {W : World} {g : Nat} {a0 a1 a2 a3 a4 : Value} {T : TypeId} (h : W.heap[g]? = some (.cells #[a0, a1, a2, a3, a4] T (0, 0))) :
    (W.cell? ⟨g, 0, none⟩ = some a0 ∧ W.cell? ⟨g, 1, none⟩ = some a1 ∧ W.cell? ⟨g, 2, none⟩ = some a2 ∧ W.cell? ⟨g, 3, none⟩ = some a3 ∧ W.cell? ⟨g, 4, none⟩ = some a4) ∧
    (W.frozen? ⟨g, 0, none⟩ = false ∧ W.frozen? ⟨g, 1, none⟩ = false ∧ W.frozen? ⟨g, 2, none⟩ = false ∧ W.frozen? ⟨g, 3, none⟩ = false ∧ W.frozen? ⟨g, 4, none⟩ = false) :=
  ⟨⟨by simp [World.cell?, h], by simp [World.cell?, h], by simp [World.cell?, h], by simp [World.cell?, h], by simp [World.cell?, h]⟩, frozen_of_row W g 0 _ _ h, frozen_of_row W g 1 _ _ h, frozen_of_row W g 2 _ _ h, frozen_of_row W g 3 _ _ h, frozen_of_row W g 4 _ _ h⟩

theorem tagStart {w w2 : World} {b : Nat} {c : ByteArray} (kd : Nat) (nm : ByteArray) (hlt : b < w.heap.size) (hm : Moved (w.alloc (.cells tokZero TTk)) b c w2) :
    TagAt w b w2.heap.size kd nm c (.slice none 0 0) false [] (w2.alloc (.cells (tokVal kd nm (.slice none 0 0) false ⟨#[]⟩) TTk)) := by
  have h1 : w.heap.size < w2.heap.size := by
    have := hm.grown.size
    simp at this; omega
  have hb2 : Below w2.heap.size w2 (w2.alloc (.cells (tokVal kd nm (.slice none 0 0) false ⟨#[]⟩) TTk)) := (Below.refl _ _).alloc (Nat.le_refl _) _
  refine ⟨(hm.from_ ((Below.refl _ _).alloc (Nat.le_refl _) _)).on hb2, heap_alloc_new w2 _, ?_, World.ownsRow_nil _ _ _ _, by omega, h1, hlt⟩
  rw [hb2.block _ h1]
  exact below_of_old hm (heap_alloc_new w _) (by omega)
theorem tagFrom {w W W' : World} {b g kd : Nat} {nm cur : ByteArray} {av : Value} {sf : Bool} {l : List At} (h : TagAt w b g kd nm cur av sf l W) (e : W = W') : TagAt w b g kd nm cur av sf l W' := e ▸ h
theorem Moved.newrow {w W : World} {b g : Nat} {c : ByteArray} (h : Moved w b c W) (hg : w.heap.size ≤ g) (hne : g ≠ b) (v0 v1 v2 v3 v4 : Value) :
    Moved w b c (((((W.setCell ⟨g, 0, none⟩ v0).setCell ⟨g, 1, none⟩ v1).setCell ⟨g, 2, none⟩ v2).setCell ⟨g, 3, none⟩ v3).setCell ⟨g, 4, none⟩ v4) :=
  ((((h.newset hg hne).newset hg hne).newset hg hne).newset hg hne).newset hg hne
theorem set5 {W : World} {g : Nat} {a0 a1 a2 a3 a4 v0 v1 v2 v3 v4 : Value} {T : TypeId} (h : W.heap[g]? = some (.cells #[a0, a1, a2, a3, a4] T (0, 0))) :
    (((((W.setCell ⟨g, 0, none⟩ v0).setCell ⟨g, 1, none⟩ v1).setCell ⟨g, 2, none⟩ v2).setCell ⟨g, 3, none⟩ v3).setCell ⟨g, 4, none⟩ v4).heap[g]? = some (.cells #[v0, v1, v2, v3, v4] T (0, 0)) := by
  have := heap_setCell_same _ g 4 _ _ v4 (heap_setCell_same _ g 3 _ _ v3 (heap_setCell_same _ g 2 _ _ v2 (heap_setCell_same _ g 1 _ _ v1 (heap_setCell_same W g 0 _ _ v0 h))))
  simpa using this
theorem grown_set (w : World) (g i : Nat) (v : Value) : w.grownBy (w.setCell ⟨g, i, none⟩ v) (some g) :=
  ⟨rfl, rfl, rfl, by simp [World.setCell], fun k _ hk => heap_setCell_other w ⟨g, i, none⟩ k v (fun e => hk (by rw [show k = g from e]))⟩
theorem AtRow.newrow {W : World} {base g : Nat} {av : Value} {l : List At} {cs : Array Value} {T : TypeId} (h : AtRow W base av l) (hk : W.heap[g]? = some (.cells cs T (0, 0))) (hT : T ≠ TAt) (v0 v1 v2 v3 v4 : Value) :
    AtRow (((((W.setCell ⟨g, 0, none⟩ v0).setCell ⟨g, 1, none⟩ v1).setCell ⟨g, 2, none⟩ v2).setCell ⟨g, 3, none⟩ v3).setCell ⟨g, 4, none⟩ v4) base av l :=
  h.kept hk hT (grown_trans (grown_trans (grown_trans (grown_trans (grown_set _ _ _ _) (grown_set _ _ _ _)) (grown_set _ _ _ _)) (grown_set _ _ _ _)) (grown_set _ _ _ _))
/-- How much the reader has not read yet. -/
def restAt (b : Nat) (w : World) : Nat := match w.heap[b]? with
  | some (.cells cs _ _) => (match cs[0]? with | some (Value.string s) => s.size | _ => 0)
  | _ => 0
theorem RB.restAt {w : World} {b : Nat} {cur : ByteArray} (h : RB w b cur) : restAt b w = cur.size := by
  unfold RB at h
  unfold Go.Proofs.YtnfkndaggcklkaaGreatDoor.restAt
  rw [h]; rfl
theorem trimPrefix_no {l p : List UInt8} (h : Lib.hasPrefix l p = false) : Lib.trimPrefix l p = l := by unfold Lib.trimPrefix; rw [h]; rfl
/-- What the reader of a tag tells, against the document's. -/
def ToldT (o : Except Nat (Tok × Bytes)) (base : Nat) (cs : Array Value) (e : Int) (c : ByteArray) (w : World) : Prop := match o with
  | .error x => e = (x : Nat) ∧ cs = tokZero
  | .ok (t, r) => e = 0 ∧ c = ⟨r.toArray⟩ ∧ ∃ av, AtRow w base av t.attrs ∧ cs = tokVal t.kind ⟨t.name.toArray⟩ av t.self ⟨t.data.toArray⟩

theorem AtRow.at_ {w : World} {base n cap : Nat} {ao : Option Addr} {l : List At} (h : AtRow w base (.slice ao n cap) l) : AtReads w ao l := by
  obtain ⟨ao', cap', e, hr⟩ := h.reads
  cases e
  exact hr
theorem Tryz.infoAttr : (Tryz.prog.info? 40).map (fun i => (i.zero, i.size, i.bytes)) = some (some (.agg #[.string ⟨#[]⟩, .string ⟨#[]⟩]), 2, 32) := by kernel_rfl
theorem Moved.grew {w W0 W : World} {b : Nat} {c : ByteArray} {row : Option Nat} (h : Moved w b c W0) (hg : W0.grownBy W row) (hrow : ∀ k, row = some k → w.heap.size ≤ k) (hb : row ≠ some b) : Moved w b c W :=
  ⟨⟨hg.os.trans h.grown.os, hg.tape.trans h.grown.tape, hg.output.trans h.grown.output, Nat.le_trans h.grown.size hg.size, fun k hk hn =>
      (hg.block k (Nat.lt_of_lt_of_le hk h.grown.size) (fun e => by have := hrow k e.symm; omega)).trans (h.grown.block k hk hn)⟩,
    (hg.block b h.rest.lt (fun e => hb e.symm)).trans h.rest⟩
theorem TagAt.grew {w W0 W : World} {b g kd : Nat} {nm cur : ByteArray} {av av' : Value} {sf : Bool} {l l' : List At} (h : TagAt w b g kd nm cur av sf l W0) (hg : W0.grownBy W av.ownBlock) (hown : AtRow W w.heap.size av' l') :
    W.heap[g]? = some (.cells (tokVal kd nm av sf ⟨#[]⟩) TTk (0, 0)) ∧ TagAt w b g kd nm cur av' sf l' (W.setCell ⟨g, 2, none⟩ av') := by
  have ht : W.heap[g]? = some (.cells (tokVal kd nm av sf ⟨#[]⟩) TTk (0, 0)) := (hg.block g (Array.getElem?_eq_some_iff.1 h.tok).1 (fun e => atRow_ne h.row h.tok (by decide) e.symm)).trans h.tok
  have hr : W.heap[w.heap.size]? = some (.cells tokZero TTk (0, 0)) := (hg.block _ (Array.getElem?_eq_some_iff.1 h.res).1 (fun e => atRow_ne h.row h.res (by decide) e.symm)).trans h.res
  have hm := h.moved.grew hg (fun k hk => (World.ownsRow.lt h.row k hk).1) (atRow_ne h.row h.moved.rest (by decide))
  have hne := h.ne
  refine ⟨ht, hm.newset (by omega) hne.1, ?_, ?_, hown.kept ht (by decide) (grown_set _ _ _ _), hne⟩
  · have := heap_setCell_same W g 2 _ _ av' ht
    simpa [tokVal] using this
  · rw [heap_setCell_other _ _ _ _ (by show w.heap.size ≠ g; omega)]; exact hr
theorem news_alloc (w : World) (cs : List Value) (T : TypeId) : ∀ j u, cs[j]? = some u → (w.alloc (.cells cs.toArray T)).cell? ((⟨w.heap.size, 0, none⟩ : Addr).add j) = some u := by
  intro j u hu
  rw [add_at]
  have h := heap_alloc_new w (.cells cs.toArray T)
  simp only [World.cell?, h]
  simpa using hu
theorem sliceOf {w : World} {base : Nat} {e : TypeId} {size : Nat} {v : Value} {n : Nat} {xs : List Value} (h : w.ownsRow base e size v n xs) : ∃ a cap, v = .slice a n cap := by
  rcases h.2 with ⟨rfl, rfl⟩ | ⟨g, cap, cur, rfl, _⟩
  · exact ⟨_, _, rfl⟩
  · exact ⟨_, _, rfl⟩
/-- The last word, at an error. -/
theorem tellErr {kd : Nat} {cur nm0 nm c1 cur' c : ByteArray} {z : Bool} {l : List At} {x : Nat} {base : Nat} {W : World} (he : bl nm0 = before tagStops (bl cur) ∧ bl nm = smallL (bl nm0) ∧ bl c1 = behind tagStops (bl cur)) (hz : wordL [] (bl nm) = z) (hz2 : (!z) = false)
    (ha : attrsL l (bl cur') = attrsL [] (bl c1)) (hs : attrsL l (bl cur') = .error x) : ToldT (tagL kd (bl cur)) base tokZero (x : Nat) c W := by
  have hz : wordL [] (smallL (before tagStops (bl cur))) = true := by rw [← he.1, ← he.2.1, hz]; simpa using hz2
  have e : tagL kd (bl cur) = .error x := by
    unfold tagL
    rw [if_pos hz, ← he.2.2, ← ha, hs]
  rw [e]
  exact ⟨rfl, rfl⟩
/-- The last word, at an end. -/
theorem tellOk {kd : Nat} {cur nm0 nm c1 cur' : ByteArray} {z : Bool} {l : List At} {sf : Bool} {r : Bytes} {base : Nat} {av : Value} {W : World} (he : bl nm0 = before tagStops (bl cur) ∧ bl nm = smallL (bl nm0) ∧ bl c1 = behind tagStops (bl cur)) (hz : wordL [] (bl nm) = z) (hz2 : (!z) = false)
    (ha : attrsL l (bl cur') = attrsL [] (bl c1)) (hs : attrsL l (bl cur') = .ok (l, sf, r)) (hrow : AtRow W base av l) : ToldT (tagL kd (bl cur)) base (tokVal kd nm av sf ⟨#[]⟩) 0 ⟨r.toArray⟩ W := by
  have hz : wordL [] (smallL (before tagStops (bl cur))) = true := by rw [← he.1, ← he.2.1, hz]; simpa using hz2
  have e : tagL kd (bl cur) = .ok (⟨kd, smallL (before tagStops (bl cur)), l, sf, []⟩, r) := by
    unfold tagL
    rw [if_pos hz, ← he.2.2, ← ha, hs]
  rw [e]
  refine ⟨rfl, rfl, av, hrow, ?_⟩
  rw [show nm = ⟨(bl nm).toArray⟩ from rfl, he.2.1, he.1]
set_option maxRecDepth 100000 in
set_option maxHeartbeats 1000000 in
theorem tag_any (b kd : Nat) (cur : ByteArray) (hsz : cur.size ≤ 4294967280) (w : World) (h : RB w b cur) (hm : Maxed w b) :
    Calls Tryz.prog 139 #[.pointer (some ⟨b, 0, none⟩), .int .u8 (kd : Nat)] w fun e w' => ∃ cs er c, e = .returned (.tuple #[.agg cs, .int .i64 er]) ∧ Moved w b c w' ∧ ToldT (tagL kd (bl cur)) w.heap.size cs er c w' := by
  have hlt := h.lt
  have hbl := bl_length cur
  obtain ⟨nm0, hnm0, e0⟩ : ∃ x : ByteArray, x = ⟨(before tagStops (bl cur)).toArray⟩ ∧ bl x = before tagStops (bl cur) := ⟨_, rfl, bl_of _⟩
  obtain ⟨c1, hc1, f1⟩ : ∃ x : ByteArray, x = ⟨(behind tagStops (bl cur)).toArray⟩ ∧ bl x = behind tagStops (bl cur) := ⟨_, rfl, bl_of _⟩
  obtain ⟨nm, hnm, e1⟩ : ∃ x : ByteArray, x = ⟨(smallL (bl nm0)).toArray⟩ ∧ bl x = smallL (bl nm0) := ⟨_, rfl, bl_of _⟩
  have l0 := before_len tagStops (bl cur)
  have sn0 : nm0.size ≤ cur.size := by rw [← bl_length, e0]; omega
  have sn : nm.size ≤ cur.size := by rw [← bl_length, e1, small_len, bl_length]; exact sn0
  have s1 : c1.size ≤ cur.size := by rw [← bl_length, f1]; omega
  have HU : Hid (∀ w, RB w b cur → _) := Lib.hid fun w h => takeUpTo_any b cur ⟨#[9, 10, 12, 32, 47, 62]⟩ (by decide) (by decide) (ascii_of_all (by decide)) hsz w h
  rw [show bl (⟨#[9, 10, 12, 32, 47, 62]⟩ : ByteArray) = tagStops from rfl, ← hnm0, ← hc1] at HU
  have HS := Lib.hid fun w => small_any nm0 (by omega) w
  rw [← hnm] at HS
  obtain ⟨z, HZ⟩ : ∃ z, Hid (wordL [] (bl nm) = z) := ⟨_, Lib.hid rfl⟩
  have HW := Lib.hid fun w => isWord_any nm ⟨#[]⟩ (by omega) w
  rw [show wordL (bl (⟨#[]⟩ : ByteArray)) (bl nm) = z from HZ.out] at HW
  have HE := Lib.hid (And.intro e0 (And.intro e1 f1))
  have H0 : Hid (Moved w b cur (w.alloc (.cells tokZero TTk))) := Lib.hid ((Moved.refl h).on ((Below.refl _ _).alloc (Nat.le_refl _) _))
  have G0 : Hid ((w.alloc (.cells tokZero TTk)).heap[w.heap.size]? = some (.cells tokZero TTk (0, 0))) := Lib.hid (heap_alloc_new w _)
  have HM0 := Lib.hid (hm.below ((Below.refl w.heap.size w).alloc (Nat.le_refl _) (.cells tokZero TTk)))
  have HM := Lib.hid hm
  unfold tokZero at H0 G0 HM0
  clear hnm0 e0 hc1 f1 hnm e1 l0 hbl h hm
  go_enter Tryz.func139, Tryz.ntmps139
  go_big_wp2
  go_step3
  go_big_wp2_with (first
    | (go_at_call 162; refine (HU.out _ H0.out.rest).mono ?_; rintro e w1 ⟨rfl, hm1⟩)
    | (go_at_call 111; refine (HS.out _).mono ?_; rintro e w2 ⟨rfl, hb2⟩; have hm2 := hm1.on hb2)
    | (go_at_call 163; refine (HW.out _).mono ?_; rintro e w3 ⟨rfl, hw3⟩; have HG := Lib.hid (tagFrom (tagStart kd nm hlt hm2) hw3); clear hw3; obtain ⟨⟨ry0, ry1, ry2, ry3, ry4⟩, rz0, rz1, rz2, rz3, rz4⟩ := local5 HG.out.res))
  · rw [Exit.noGoto_ret]
    refine bodyPost_ret (results_row_tmp rfl _ _ w.heap.size TTk _ _ _ rfl (set5 HG.out.res) Tryz.underlying25 rfl (by kernel_rfl)) rfl ?_
    refine ⟨_, _, c1, rfl, HG.out.moved.newrow (Nat.le_refl _) (by omega) _ _ _ _ _, ?_⟩
    have hz : z = false := by
      have hz : (!z) = true := by assumption
      simpa using hz
    unfold tagL
    rw [← HE.out.1, ← HE.out.2.1, HZ.out, hz]
    exact ⟨rfl, rfl⟩
  · have hz : (!z) = false := by assumption
    rw [hz]
    have hz' : z = true := by simpa using hz
    subst hz'
    clear hz
    go_step3
    clear ry0 ry1 ry2 ry3 ry4 rz0 rz1 rz2 rz3 rz4
    go_big_wp2
    go_loopw [8] (fun _ wr => ∃ (cur' : ByteArray) (av : Value) (l : List At), Hid (TagAt w b w2.heap.size kd nm cur' av false l wr) ∧ l.length ≤ 16 ∧ cur'.size ≤ cur.size ∧ Hid (attrsL l (bl cur') = attrsL [] (bl c1))) (fun _ wr => restAt b wr)
    case atStart => exact ⟨c1, .slice none 0 0, [], HG, by simp, s1, Lib.hid rfl⟩
    case round =>
      clear HG
      obtain ⟨cur', av, l, HG, hl16, hcs, HA⟩ := hrel
      obtain ⟨ao, cap, hav, hrd⟩ := HG.out.row.reads
      subst hav
      clear hrd
      have hgn : ¬ (w2.heap.size = w.heap.size) := by have := HG.out.ne; omega
      have hgn' : ¬ (w.heap.size = w2.heap.size) := by omega
      obtain ⟨c2, hc2, f2⟩ : ∃ x : ByteArray, x = ⟨(skipL (bl cur')).toArray⟩ ∧ bl x = skipL (bl cur') := ⟨_, rfl, bl_of _⟩
      have hsk := skip_len (bl cur')
      rw [← f2, bl_length, bl_length] at hsk
      have HL := Lib.hid fun w h => leave_any b cur' w h
      rw [← hc2] at HL
      have hT1 := fun w h => took_any b c2 ⟨#[62]⟩ w h
      have hT2 := fun w h => took_any b c2 ⟨#[47, 62]⟩ w h
      rw [show bl (⟨#[62]⟩ : ByteArray) = [62] from rfl] at hT1
      rw [show bl (⟨#[47, 62]⟩ : ByteArray) = [47, 62] from rfl] at hT2
      have hst := attrsL_step l (bl cur')
      rw [← f2] at hst
      have hres : RB wr b cur' := HG.out.moved.rest
      have hra := hres.restAt
      have HW0 := Lib.hid hres
      clear hres hc2 f2
      cases hb : bl c2 with
      | nil =>
        have h1 : Lib.hasPrefix (bl c2) [62] = false := by rw [hb]; rfl
        have h2 : Lib.hasPrefix (bl c2) [47, 62] = false := by rw [hb]; rfl
        rw [hb] at hst
        rw [h1, trimPrefix_no h1, show (⟨(bl c2).toArray⟩ : ByteArray) = c2 from rfl] at hT1
        rw [h2, trimPrefix_no h2, show (⟨(bl c2).toArray⟩ : ByteArray) = c2 from rfl] at hT2
        have HT1 := Lib.hid hT1
        have HT2 := Lib.hid hT2
        have hE : c2.toList = [] := by rw [Lib.toList_data]; exact hb
        have HF := Lib.hid (And.intro hst hb)
        clear hT1 hT2 hst hb h1 h2
        go_big_wp2_with (first
          | (go_at_call 164; refine (HL.out _ HW0.out).mono ?_; rintro e w4 ⟨rfl, hm4⟩; have HG4 := Lib.hid (HG.out.on hm4))
          | (go_at_call_of 165 (Value.string ⟨#[62]⟩); refine (HT1.out _ HG4.out.moved.rest).mono ?_; rintro e w5 ⟨rfl, hm5⟩; have HG5 := Lib.hid (HG4.out.on hm5))
          | (go_at_call_of 165 (Value.string ⟨#[47, 62]⟩); refine (HT2.out _ HG5.out.moved.rest).mono ?_; rintro e w6 ⟨rfl, hm6⟩; have HG6 := Lib.hid (HG5.out.on hm6); have hcc := HG6.out.moved.rest.cell; obtain ⟨⟨x0, x1, x2, x3, x4⟩, y0, y1, y2, y3, y4⟩ := local5 HG6.out.tok; obtain ⟨⟨r0, r1, r2, r3, r4⟩, s0, s1, s2, s3, s4⟩ := local5 HG6.out.res))
        rw [Exit.noGoto_ret]
        refine bodyPost_ret (results_row_tmp rfl _ _ w.heap.size TTk _ _ _ rfl (set5 HG6.out.res) Tryz.underlying25 rfl (by kernel_rfl)) rfl ?_
        refine ⟨_, _, _, rfl, HG6.out.moved.newrow (Nat.le_refl _) (by omega) _ _ _ _ _, ?_⟩
        exact tellErr HE.out HZ.out rfl HA.out HF.out.1
      | cons x t =>
        have hpos : 0 < c2.size := by rw [← bl_length, hb]; simp
        have hx0 : c2[0]'hpos = x := by
          have := Lib.data_getElem? c2 0 hpos
          change (bl c2)[0]? = _ at this
          rw [hb] at this
          simpa using this.symm
        have hne0 : ¬ c2.toList = [] := by rw [Lib.toList_data]; intro h; rw [show c2.data.toList = bl c2 from rfl, hb] at h; cases h
        have hne1 : c2.toList.isEmpty = false := by simpa using hne0
        rw [hb] at hst
        simp only at hst
        by_cases e62 : x = 62
        · subst e62
          have h1 : Lib.hasPrefix (bl c2) [62] = true := by rw [hb, hasPrefix_one]; rfl
          have h1t : Lib.trimPrefix (bl c2) [62] = t := by rw [hb, trimPrefix_one]; rfl
          rw [h1, h1t] at hT1
          rw [if_pos rfl] at hst
          have HT1 := Lib.hid hT1
          have HF := Lib.hid hst
          clear hT1 hT2 hst hb h1 h1t hx0 hne0 hne1 hpos
          go_big_wp2_with (first
            | (go_at_call 164; refine (HL.out _ HW0.out).mono ?_; rintro e w4 ⟨rfl, hm4⟩; have HG4 := Lib.hid (HG.out.on hm4))
            | (go_at_call_of 165 (Value.string ⟨#[62]⟩); refine (HT1.out _ HG4.out.moved.rest).mono ?_; rintro e w5 ⟨rfl, hm5⟩; have HG5 := Lib.hid (HG4.out.on hm5); obtain ⟨⟨x0, x1, x2, x3, x4⟩, y0, y1, y2, y3, y4⟩ := local5 HG5.out.tok; obtain ⟨⟨r0, r1, r2, r3, r4⟩, s0, s1, s2, s3, s4⟩ := local5 HG5.out.res))
          rw [Exit.noGoto_ret]
          refine bodyPost_ret (results_row_tmp rfl _ _ w.heap.size TTk _ _ _ rfl (set5 HG5.out.res) Tryz.underlying25 rfl (by kernel_rfl)) rfl ?_
          refine ⟨_, _, _, rfl, HG5.out.moved.newrow (Nat.le_refl _) (by omega) _ _ _ _ _, ?_⟩
          exact tellOk HE.out HZ.out rfl HA.out HF.out (HG5.out.row.newrow HG5.out.res (by decide) _ _ _ _ _)
        · have h1 : Lib.hasPrefix (bl c2) [62] = false := by rw [hb, hasPrefix_one]; simp [e62]
          rw [h1, trimPrefix_no h1, show (⟨(bl c2).toArray⟩ : ByteArray) = c2 from rfl] at hT1
          rw [if_neg e62] at hst
          have HT1 := Lib.hid hT1
          clear hT1 h1
          by_cases e47 : x = 47
          · subst e47
            rw [if_pos rfl] at hst
            have hslash : ∀ u, t = 62 :: u ∨ t.head? ≠ some 62 → True := fun _ _ => trivial
            clear hslash
            by_cases ht : t.head? = some 62
            · obtain ⟨u, rfl⟩ : ∃ u, t = 62 :: u := by
                cases t with
                | nil => simp at ht
                | cons c u => simp at ht; exact ⟨u, by rw [ht]⟩
              have h2 : Lib.hasPrefix (bl c2) [47, 62] = true := by rw [hb]; rfl
              have h2t : Lib.trimPrefix (bl c2) [47, 62] = u := by unfold Lib.trimPrefix; rw [h2, hb]; rfl
              rw [h2, h2t] at hT2
              have hst2 : attrsL l (bl cur') = .ok (l, true, u) := by rw [hst]; rfl
              have HT2 := Lib.hid hT2
              have HF := Lib.hid hst2
              clear hT2 hst hst2 hb h2 h2t hx0 hne0 hne1 hpos ht
              go_big_wp2_with (first
                | (go_at_call 164; refine (HL.out _ HW0.out).mono ?_; rintro e w4 ⟨rfl, hm4⟩; have HG4 := Lib.hid (HG.out.on hm4))
                | (go_at_call_of 165 (Value.string ⟨#[62]⟩); refine (HT1.out _ HG4.out.moved.rest).mono ?_; rintro e w5 ⟨rfl, hm5⟩; have HG5 := Lib.hid (HG4.out.on hm5))
                | (go_at_call_of 165 (Value.string ⟨#[47, 62]⟩); refine (HT2.out _ HG5.out.moved.rest).mono ?_; rintro e w6 ⟨rfl, hm6⟩; have HG6 := Lib.hid (HG5.out.on hm6); have hcc := HG6.out.moved.rest.cell; obtain ⟨⟨x0, x1, x2, x3, x4⟩, y0, y1, y2, y3, y4⟩ := local5 HG6.out.tok; obtain ⟨⟨r0, r1, r2, r3, r4⟩, s0, s1, s2, s3, s4⟩ := local5 HG6.out.res))
              rw [Exit.noGoto_ret]
              have hres7 : (w6.setCell ⟨w2.heap.size, 3, none⟩ (.bool true)).heap[w.heap.size]? = some (.cells tokZero TTk (0, 0)) := by
                rw [heap_setCell_other _ _ _ _ (by exact hgn')]; exact HG6.out.res
              refine bodyPost_ret (results_row_tmp rfl _ _ w.heap.size TTk _ _ _ rfl (set5 hres7) Tryz.underlying25 rfl (by kernel_rfl)) rfl ?_
              refine ⟨_, _, _, rfl, (HG6.out.moved.newset (by have := HG6.out.ne; omega) HG6.out.ne.1).newrow (Nat.le_refl _) (by omega) _ _ _ _ _, ?_⟩
              exact tellOk HE.out HZ.out rfl HA.out HF.out ((HG6.out.row.kept HG6.out.tok (by decide) (grown_set _ _ _ _)).newrow hres7 (by decide) _ _ _ _ _)
            · have h2 : Lib.hasPrefix (bl c2) [47, 62] = false := by
                rw [hb]
                cases t with
                | nil => rfl
                | cons c u =>
                  show ((47 : UInt8) == 47 && ((62 : UInt8) == c && List.isPrefixOf [] u)) = false
                  have : (62 : UInt8) ≠ c := fun e => ht (by simp [e])
                  simp [this]
              rw [h2, trimPrefix_no h2, show (⟨(bl c2).toArray⟩ : ByteArray) = c2 from rfl] at hT2
              have hst2 : attrsL l (bl cur') = .error 40 := by
                rw [hst]
                cases t with
                | nil => rfl
                | cons c u =>
                  have : c ≠ 62 := fun e => ht (by simp [e])
                  simp only [this, if_false]
              have HT2 := Lib.hid hT2
              have HF := Lib.hid hst2
              clear hT2 hst hst2 hb h2 ht
              go_big_wp2_with (first
                | (go_at_call 164; refine (HL.out _ HW0.out).mono ?_; rintro e w4 ⟨rfl, hm4⟩; have HG4 := Lib.hid (HG.out.on hm4))
                | (go_at_call_of 165 (Value.string ⟨#[62]⟩); refine (HT1.out _ HG4.out.moved.rest).mono ?_; rintro e w5 ⟨rfl, hm5⟩; have HG5 := Lib.hid (HG4.out.on hm5))
                | (go_at_call_of 165 (Value.string ⟨#[47, 62]⟩); refine (HT2.out _ HG5.out.moved.rest).mono ?_; rintro e w6 ⟨rfl, hm6⟩; have HG6 := Lib.hid (HG5.out.on hm6); have hcc := HG6.out.moved.rest.cell; obtain ⟨⟨x0, x1, x2, x3, x4⟩, y0, y1, y2, y3, y4⟩ := local5 HG6.out.tok; obtain ⟨⟨r0, r1, r2, r3, r4⟩, s0, s1, s2, s3, s4⟩ := local5 HG6.out.res))
              rw [Exit.noGoto_ret]
              refine bodyPost_ret (results_row_tmp rfl _ _ w.heap.size TTk _ _ _ rfl (set5 HG6.out.res) Tryz.underlying25 rfl (by kernel_rfl)) rfl ?_
              refine ⟨_, _, _, rfl, HG6.out.moved.newrow (Nat.le_refl _) (by omega) _ _ _ _ _, ?_⟩
              exact tellErr HE.out HZ.out rfl HA.out HF.out
          · rw [if_neg e47] at hst
            have h2 : Lib.hasPrefix (bl c2) [47, 62] = false := by
              rw [hb]
              show ((47 : UInt8) == x && List.isPrefixOf [62] t) = false
              have : (47 : UInt8) ≠ x := fun e => e47 e.symm
              simp [this]
            rw [h2, trimPrefix_no h2, show (⟨(bl c2).toArray⟩ : ByteArray) = c2 from rfl] at hT2
            have HT2 := Lib.hid hT2
            rw [← hb] at hst
            have hn47 : ((x.toNat : Int) == 47) = false := by
              rw [beq_eq_false_iff_ne]; intro e; apply e47; apply UInt8.toNat_inj.1; show x.toNat = 47; omega
            have hq := fun W h hm => attribute_any b c2 (by omega) W h hm
            cases ha : attrL (bl c2) with
            | none =>
              rw [ha] at hq hst
              have HQ := Lib.hid hq
              have HF := Lib.hid hst
              clear hT2 hst hb h2 ha hq
              go_big_wp2_with (first
                | (go_at_call 164; refine (HL.out _ HW0.out).mono ?_; rintro e w4 ⟨rfl, hm4⟩; have HG4 := Lib.hid (HG.out.on hm4))
                | (go_at_call_of 165 (Value.string ⟨#[62]⟩); refine (HT1.out _ HG4.out.moved.rest).mono ?_; rintro e w5 ⟨rfl, hm5⟩; have HG5 := Lib.hid (HG4.out.on hm5))
                | (go_at_call_of 165 (Value.string ⟨#[47, 62]⟩); refine (HT2.out _ HG5.out.moved.rest).mono ?_; rintro e w6 ⟨rfl, hm6⟩; have HG6 := Lib.hid (HG5.out.on hm6); have hcc := HG6.out.moved.rest.cell)
                | (go_at_call 166; refine (HQ.out _ HG6.out.moved.rest (HM.out.grown HG6.out.moved.grown)).mono ?_; rintro e w7 ⟨n, v, er, c, rfl, hm7, hA⟩; have HG7 := Lib.hid (HG6.out.on hm7); have her : er = 41 := hA; subst her; have HG8 := Lib.hid (HG7.out.below ((Below.refl _ _).alloc (Nat.le_refl _) (.cells #[.string n, .string v] 40))); obtain ⟨⟨x0, x1, x2, x3, x4⟩, y0, y1, y2, y3, y4⟩ := local5 HG8.out.tok; obtain ⟨⟨r0, r1, r2, r3, r4⟩, s0, s1, s2, s3, s4⟩ := local5 HG8.out.res))
              rw [Exit.noGoto_ret]
              refine bodyPost_ret (results_row_tmp rfl _ _ w.heap.size TTk _ _ _ rfl (set5 HG8.out.res) Tryz.underlying25 rfl (by kernel_rfl)) rfl ?_
              refine ⟨_, _, _, rfl, HG8.out.moved.newrow (Nat.le_refl _) (by omega) _ _ _ _ _, ?_⟩
              exact tellErr HE.out HZ.out rfl HA.out HF.out
            | some ar =>
              obtain ⟨⟨an, av⟩, r⟩ := ar
              have hr := attr_len ha
              rw [bl_length] at hr
              rw [ha] at hq hst
              simp only at hst
              have HQ := Lib.hid hq
              clear hT2 hb h2 ha hq
              by_cases hany : l.any (fun a => a.1 == an) = true
              · have hje : joinE l an = 41 := by unfold joinE; rw [if_pos hany]
                rw [if_pos hany] at hst
                clear hany
                have hj : ∀ W, AtReads W ao l → Calls Tryz.prog 167 #[.slice ao l.length cap, .agg #[.string ⟨an.toArray⟩, .string ⟨av.toArray⟩]] W fun e w' => e = .returned (.int .i64 41) ∧ Below W.heap.size W w' := fun W h => by
                  have := mayJoin_any ao cap l ⟨an.toArray⟩ ⟨av.toArray⟩ W (by omega) h
                  rwa [bl_of, hje] at this
                have HJ := Lib.hid hj
                have HF := Lib.hid hst
                clear hst hj hje
                go_big_wp2_with (first
                  | (go_at_call 164; refine (HL.out _ HW0.out).mono ?_; rintro e w4 ⟨rfl, hm4⟩; have HG4 := Lib.hid (HG.out.on hm4))
                  | (go_at_call_of 165 (Value.string ⟨#[62]⟩); refine (HT1.out _ HG4.out.moved.rest).mono ?_; rintro e w5 ⟨rfl, hm5⟩; have HG5 := Lib.hid (HG4.out.on hm5))
                  | (go_at_call_of 165 (Value.string ⟨#[47, 62]⟩); refine (HT2.out _ HG5.out.moved.rest).mono ?_; rintro e w6 ⟨rfl, hm6⟩; have HG6 := Lib.hid (HG5.out.on hm6); have hcc := HG6.out.moved.rest.cell)
                  | (go_at_call 166; refine (HQ.out _ HG6.out.moved.rest (HM.out.grown HG6.out.moved.grown)).mono ?_; rintro e w7 ⟨n, v, er, c, rfl, hm7, hA⟩; have HG7 := Lib.hid (HG6.out.on hm7); obtain ⟨her, hn, hv, hc⟩ := hA; subst her; subst hn; subst hv; subst hc; have HG8 := Lib.hid (HG7.out.below ((Below.refl _ _).alloc (Nat.le_refl _) (.cells #[.string ⟨an.toArray⟩, .string ⟨av.toArray⟩] 40))); have HA8 := Lib.hid (heap_alloc_new w7 (.cells #[.string ⟨an.toArray⟩, .string ⟨av.toArray⟩] 40)); obtain ⟨⟨x0, x1, x2, x3, x4⟩, y0, y1, y2, y3, y4⟩ := local5 HG8.out.tok)
                  | (go_at_call 167; refine (HJ.out _ HG8.out.row.at_).mono ?_; rintro e w9 ⟨rfl, hb9⟩; clear x0 x1 x2 x3 x4 y0 y1 y2 y3 y4; have HG9 := Lib.hid (HG8.out.below hb9); obtain ⟨⟨x0, x1, x2, x3, x4⟩, y0, y1, y2, y3, y4⟩ := local5 HG9.out.tok; obtain ⟨⟨r0, r1, r2, r3, r4⟩, s0, s1, s2, s3, s4⟩ := local5 HG9.out.res))
                rw [Exit.noGoto_ret]
                refine bodyPost_ret (results_row_tmp rfl _ _ w.heap.size TTk _ _ _ rfl (set5 HG9.out.res) Tryz.underlying25 rfl (by kernel_rfl)) rfl ?_
                refine ⟨_, _, _, rfl, HG9.out.moved.newrow (Nat.le_refl _) (by omega) _ _ _ _ _, ?_⟩
                exact tellErr HE.out HZ.out rfl HA.out HF.out
              · by_cases h16 : 16 ≤ l.length
                · have hje : joinE l an = 3 := by unfold joinE; rw [if_neg hany, if_pos h16]
                  rw [if_neg hany, if_pos h16] at hst
                  clear hany h16
                  have hj : ∀ W, AtReads W ao l → Calls Tryz.prog 167 #[.slice ao l.length cap, .agg #[.string ⟨an.toArray⟩, .string ⟨av.toArray⟩]] W fun e w' => e = .returned (.int .i64 3) ∧ Below W.heap.size W w' := fun W h => by
                    have := mayJoin_any ao cap l ⟨an.toArray⟩ ⟨av.toArray⟩ W (by omega) h
                    rwa [bl_of, hje] at this
                  have HJ := Lib.hid hj
                  have HF := Lib.hid hst
                  clear hst hj hje
                  go_big_wp2_with (first
                    | (go_at_call 164; refine (HL.out _ HW0.out).mono ?_; rintro e w4 ⟨rfl, hm4⟩; have HG4 := Lib.hid (HG.out.on hm4))
                    | (go_at_call_of 165 (Value.string ⟨#[62]⟩); refine (HT1.out _ HG4.out.moved.rest).mono ?_; rintro e w5 ⟨rfl, hm5⟩; have HG5 := Lib.hid (HG4.out.on hm5))
                    | (go_at_call_of 165 (Value.string ⟨#[47, 62]⟩); refine (HT2.out _ HG5.out.moved.rest).mono ?_; rintro e w6 ⟨rfl, hm6⟩; have HG6 := Lib.hid (HG5.out.on hm6); have hcc := HG6.out.moved.rest.cell)
                    | (go_at_call 166; refine (HQ.out _ HG6.out.moved.rest (HM.out.grown HG6.out.moved.grown)).mono ?_; rintro e w7 ⟨n, v, er, c, rfl, hm7, hA⟩; have HG7 := Lib.hid (HG6.out.on hm7); obtain ⟨her, hn, hv, hc⟩ := hA; subst her; subst hn; subst hv; subst hc; have HG8 := Lib.hid (HG7.out.below ((Below.refl _ _).alloc (Nat.le_refl _) (.cells #[.string ⟨an.toArray⟩, .string ⟨av.toArray⟩] 40))); have HA8 := Lib.hid (heap_alloc_new w7 (.cells #[.string ⟨an.toArray⟩, .string ⟨av.toArray⟩] 40)); obtain ⟨⟨x0, x1, x2, x3, x4⟩, y0, y1, y2, y3, y4⟩ := local5 HG8.out.tok)
                    | (go_at_call 167; refine (HJ.out _ HG8.out.row.at_).mono ?_; rintro e w9 ⟨rfl, hb9⟩; clear x0 x1 x2 x3 x4 y0 y1 y2 y3 y4; have HG9 := Lib.hid (HG8.out.below hb9); obtain ⟨⟨x0, x1, x2, x3, x4⟩, y0, y1, y2, y3, y4⟩ := local5 HG9.out.tok; obtain ⟨⟨r0, r1, r2, r3, r4⟩, s0, s1, s2, s3, s4⟩ := local5 HG9.out.res))
                  rw [Exit.noGoto_ret]
                  refine bodyPost_ret (results_row_tmp rfl _ _ w.heap.size TTk _ _ _ rfl (set5 HG9.out.res) Tryz.underlying25 rfl (by kernel_rfl)) rfl ?_
                  refine ⟨_, _, _, rfl, HG9.out.moved.newrow (Nat.le_refl _) (by omega) _ _ _ _ _, ?_⟩
                  exact tellErr HE.out HZ.out rfl HA.out HF.out
                · have hje : joinE l an = 0 := by unfold joinE; rw [if_neg hany, if_neg h16]
                  rw [if_neg hany, if_neg h16] at hst
                  clear hany
                  have hj : ∀ W, AtReads W ao l → Calls Tryz.prog 167 #[.slice ao l.length cap, .agg #[.string ⟨an.toArray⟩, .string ⟨av.toArray⟩]] W fun e w' => e = .returned (.int .i64 0) ∧ Below W.heap.size W w' := fun W h => by
                    have := mayJoin_any ao cap l ⟨an.toArray⟩ ⟨av.toArray⟩ W (by omega) h
                    rwa [bl_of, hje] at this
                  have HJ := Lib.hid hj
                  have HF := Lib.hid hst
                  obtain ⟨i0, hi0, hz0, hz1, hz2⟩ := info_parts Tryz.infoAttr
                  clear hst hj hje
                  go_big_wp2_with (first
                    | (go_at_call 164; refine (HL.out _ HW0.out).mono ?_; rintro e w4 ⟨rfl, hm4⟩; have HG4 := Lib.hid (HG.out.on hm4))
                    | (go_at_call_of 165 (Value.string ⟨#[62]⟩); refine (HT1.out _ HG4.out.moved.rest).mono ?_; rintro e w5 ⟨rfl, hm5⟩; have HG5 := Lib.hid (HG4.out.on hm5))
                    | (go_at_call_of 165 (Value.string ⟨#[47, 62]⟩); refine (HT2.out _ HG5.out.moved.rest).mono ?_; rintro e w6 ⟨rfl, hm6⟩; have HG6 := Lib.hid (HG5.out.on hm6); have hcc := HG6.out.moved.rest.cell)
                    | (go_at_call 166; refine (HQ.out _ HG6.out.moved.rest (HM.out.grown HG6.out.moved.grown)).mono ?_; rintro e w7 ⟨n, v, er, c, rfl, hm7, hA⟩; have HG7 := Lib.hid (HG6.out.on hm7); obtain ⟨her, hn, hv, hc⟩ := hA; subst her; subst hn; subst hv; subst hc; have HG8 := Lib.hid (HG7.out.below ((Below.refl _ _).alloc (Nat.le_refl _) (.cells #[.string ⟨an.toArray⟩, .string ⟨av.toArray⟩] 40))); have HA8 := Lib.hid (heap_alloc_new w7 (.cells #[.string ⟨an.toArray⟩, .string ⟨av.toArray⟩] 40)); obtain ⟨⟨x0, x1, x2, x3, x4⟩, y0, y1, y2, y3, y4⟩ := local5 HG8.out.tok)
                    | (go_at_call 167; refine (HJ.out _ HG8.out.row.at_).mono ?_; rintro e w9 ⟨rfl, hb9⟩; clear x0 x1 x2 x3 x4 y0 y1 y2 y3 y4; have HG9 := Lib.hid (HG8.out.below hb9); have HA9 := (hb9.block _ (by simp)).trans HA8.out; obtain ⟨p0, p1, _, _⟩ := local2 HA9; obtain ⟨⟨x0, x1, x2, x3, x4⟩, y0, y1, y2, y3, y4⟩ := local5 HG9.out.tok; have HG10 := Lib.hid (HG9.out.below ((Below.refl _ _).alloc (Nat.le_refl _) (.cells #[.string ⟨an.toArray⟩, .string ⟨av.toArray⟩] 40))))
                    | (at_builtin; refine wpList_append_own_at _ rfl _ _ 23 rfl w.heap.size 40 i0 _ 2 32 Tryz.underlying23 hi0 hz0 hz1 hz2 rfl (by decide) _ l.length (attrCells l) rfl HG10.out.row ⟨w9.heap.size, 0, none⟩ 1 1 [.string ⟨an.toArray⟩, .string ⟨av.toArray⟩] rfl ?c1 ?c2 ?c3 ?c4 ?c5 ?c6 ?_))
                  case c1 => rfl
                  case c2 => exact news_alloc w9 [.string ⟨an.toArray⟩, .string ⟨av.toArray⟩] 40
                  case c3 => intro u hu; simp only [List.mem_cons, List.not_mem_nil, or_false] at hu; rcases hu with rfl | rfl <;> rfl
                  case c4 => unfold maxLen; omega
                  case c5 => omega
                  case c6 => exact HG10.out.moved.grown.size
                  intro v' W hown' hgrow _ _
                  rw [← attrCells_snoc l (an, av)] at hown'
                  have hrow' : AtRow W w.heap.size v' (l ++ [(an, av)]) := by
                    unfold AtRow
                    rw [List.length_append]
                    exact hown'
                  obtain ⟨a1, cap1, hv'⟩ := sliceOf hown'
                  subst hv'
                  obtain ⟨hW, hTag⟩ := HG10.out.grew hgrow hrow'
                  have HN := Lib.hid hTag
                  obtain ⟨⟨x0, x1, x2, x3, x4⟩, y0, y1, y2, y3, y4⟩ := local5 hW
                  clear hTag hW hrow' hown' hgrow
                  go_big_wp2
                  exact ⟨⟨_, _, _, HN, by simp; omega, by rw [← bl_length, bl_of]; omega, Lib.hid (HF.out.symm.trans HA.out)⟩, by
                    rw [HN.out.moved.rest.restAt, hra, ← bl_length, bl_of]; omega⟩
end Go.Proofs.YtnfkndaggcklkaaGreatDoor

namespace Go.TokenKit
open Go Go.Lib Go.CharrefKit
theorem wordsN_eq : ∀ (l : Bytes) (n : Nat), n ≤ l.length → (∀ j, j < n → markL (l.drop j) = false) → (n = l.length ∨ markL (l.drop n) = true) → wordsN l = n
  | [], n, h, _, _ => by simp at h; subst h; rfl
  | b :: r, 0, _, _, h => by
    rcases h with h | h
    · simp at h
    · unfold wordsN
      rw [List.drop_zero] at h
      rw [h]; rfl
  | b :: r, n + 1, h, ha, he => by
    have h0 : markL (b :: r) = false := ha 0 (by omega)
    unfold wordsN
    rw [h0]
    have := wordsN_eq r n (by simpa using h) (fun j hj => by simpa using ha (j + 1) (by omega)) (by simpa using he)
    simp [this]
end Go.TokenKit
namespace Go.Proofs.YtnfkndaggcklkaaGreatDoor
open Go.RowKit Go.RunKit Go.CharrefKit Go.Lib Go.TokenKit

/-- What a reader tells, against the document's: part by part. -/
def ToldK (o : Except Nat (Tok × Bytes)) (base : Nat) (k : Nat) (n : ByteArray) (ao : Option Addr) (m cap : Nat) (sf : Bool) (d : ByteArray) (e : Int) (c : ByteArray) (W : World) : Prop := match o with
  | .error x => e = (x : Nat) ∧ k = 0 ∧ n = ⟨#[]⟩ ∧ ao = none ∧ m = 0 ∧ cap = 0 ∧ sf = false ∧ d = ⟨#[]⟩
  | .ok (t, r) => e = 0 ∧ c = ⟨r.toArray⟩ ∧ k = t.kind ∧ n = ⟨t.name.toArray⟩ ∧ AtRow W base (.slice ao m cap) t.attrs ∧ sf = t.self ∧ d = ⟨t.data.toArray⟩
theorem AtRow.mono {w : World} {base base' : Nat} {v : Value} {l : List At} (h : AtRow w base' v l) (hb : base ≤ base') : AtRow w base v l := by
  refine ⟨h.1, ?_⟩
  rcases h.2 with hn | ⟨g, cap, cur, e, hg, rest⟩
  · exact .inl hn
  · exact .inr ⟨g, cap, cur, e, Nat.le_trans hb hg, rest⟩
theorem told_mono {o : Except Nat (Tok × Bytes)} {base base' k : Nat} {n : ByteArray} {ao : Option Addr} {m cap : Nat} {sf : Bool} {d : ByteArray} {e : Int} {c : ByteArray} {W : World} (h : ToldK o base' k n ao m cap sf d e c W) (hb : base ≤ base') : ToldK o base k n ao m cap sf d e c W := by
  cases o with
  | error x => exact h
  | ok x =>
    obtain ⟨t, r⟩ := x
    obtain ⟨t1, t2, t3, t4, t5, t6, t7⟩ := h
    exact ⟨t1, t2, t3, t4, t5.mono hb, t6, t7⟩
/-- What a reader of a token owes. -/
def ReadsAs (f : FuncId) (o : Except Nat (Tok × Bytes)) (b : Nat) (w : World) : Prop :=
  Calls Tryz.prog f #[.pointer (some ⟨b, 0, none⟩)] w fun e w' => ∃ k n ao m cap sf d er c, e = .returned (.tuple #[.agg #[.int .u8 ((k : Nat) : Int), .string n, .slice ao m cap, .bool sf, .string d], .int .i64 er]) ∧ Moved w b c w' ∧ ToldK o w.heap.size k n ao m cap sf d er c w'

theorem tag_told (b kd : Nat) (cur : ByteArray) (hsz : cur.size ≤ 4294967280) (w : World) (h : RB w b cur) (hm : Maxed w b) :
    Calls Tryz.prog 139 #[.pointer (some ⟨b, 0, none⟩), .int .u8 (kd : Nat)] w fun e w' => ∃ k n ao m cap sf d er c, e = .returned (.tuple #[.agg #[.int .u8 ((k : Nat) : Int), .string n, .slice ao m cap, .bool sf, .string d], .int .i64 er]) ∧ Moved w b c w' ∧ ToldK (tagL kd (bl cur)) w.heap.size k n ao m cap sf d er c w' := by
  refine (tag_any b kd cur hsz w h hm).mono ?_
  rintro e w' ⟨cs, er, c, rfl, hmv, ht⟩
  cases ho : tagL kd (bl cur) with
  | error x =>
    rw [ho] at ht
    obtain ⟨h1, h2⟩ := ht
    subst h2
    exact ⟨0, ⟨#[]⟩, none, 0, 0, false, ⟨#[]⟩, er, c, rfl, hmv, h1, rfl, rfl, rfl, rfl, rfl, rfl, rfl⟩
  | ok x =>
    obtain ⟨t, r⟩ := x
    rw [ho] at ht
    obtain ⟨h1, h2, av, h3, h4⟩ := ht
    obtain ⟨ao, cap, rfl, _⟩ := h3.reads
    subst h4
    exact ⟨t.kind, _, ao, _, cap, t.self, _, er, c, rfl, hmv, h1, h2, rfl, rfl, h3, rfl, rfl⟩
/-- A result's block, and what is read meanwhile. -/
structure OwnAt (w : World) (b : Nat) (cur : ByteArray) (wr : World) : Prop where
  moved : Moved w b cur wr
  res : wr.heap[w.heap.size]? = some (.cells tokZero TTk (0, 0))
  lt : b < w.heap.size
theorem OwnAt.start {w : World} {b : Nat} {cur : ByteArray} (h : RB w b cur) : OwnAt w b cur (w.alloc (.cells #[.int .u8 0, .string ⟨#[]⟩, .slice none 0 0, .bool false, .string ⟨#[]⟩] TTk)) :=
  ⟨(Moved.refl h).on ((Below.refl _ _).alloc (Nat.le_refl _) _), heap_alloc_new w _, h.lt⟩
theorem OwnAt.on {w wr wr' : World} {b : Nat} {cur cur' : ByteArray} (h : OwnAt w b cur wr) (m : Moved wr b cur' wr') : OwnAt w b cur' wr' :=
  ⟨h.moved.trans m, below_of_old m h.res (by have := h.lt; omega), h.lt⟩
theorem OwnAt.below {w wr wr' : World} {b : Nat} {cur : ByteArray} (h : OwnAt w b cur wr) (m : Below wr.heap.size wr wr') : OwnAt w b cur wr' := h.on ((Moved.refl h.moved.rest).on m)
theorem OwnAt.lt2 {w wr : World} {b : Nat} {cur : ByteArray} (h : OwnAt w b cur wr) : w.heap.size ≤ wr.heap.size := h.moved.grown.size
/-- The end of a reader: what stands in its result's block. -/
theorem own_end {f : Func} (hres : f.results = #[.cell 2 TTk, .tmp 3]) {w W : World} {b : Nat} {cur c : ByteArray} (h : OwnAt w b cur W) {o : Except Nat (Tok × Bytes)} {tmps : Array Value} {k : Nat} {n : ByteArray} {ao : Option Addr} {m cap : Nat} {sf : Bool} {d : ByteArray} {er : Int}
    (h2 : tmps.getD 2 undef = .pointer (some ⟨w.heap.size, 0, none⟩)) (h3 : tmps.getD 3 undef = .int .i64 er) (hc : o.isOk = true → c = cur) (ht : ToldK o w.heap.size k n ao m cap sf d er c W) :
    bodyPost Tryz.prog f (fun e w' => ∃ k n ao m cap sf d er c, e = .returned (.tuple #[.agg #[.int .u8 ((k : Nat) : Int), .string n, .slice ao m cap, .bool sf, .string d], .int .i64 er]) ∧ Moved w b c w' ∧ ToldK o w.heap.size k n ao m cap sf d er c w') .ret ⟨tmps, []⟩
      (((((W.setCell ⟨w.heap.size, 0, none⟩ (.int .u8 ((k : Nat) : Int))).setCell ⟨w.heap.size, 1, none⟩ (.string n)).setCell ⟨w.heap.size, 2, none⟩ (.slice ao m cap)).setCell ⟨w.heap.size, 3, none⟩ (.bool sf)).setCell ⟨w.heap.size, 4, none⟩ (.string d)) := by
  have hlt := h.lt
  refine bodyPost_ret (results_row_tmp hres _ _ w.heap.size TTk _ _ _ h2 (set5 h.res) Tryz.underlying25 rfl (by kernel_rfl)) rfl ?_
  refine ⟨k, n, ao, m, cap, sf, d, er, cur, by rw [h3], h.moved.newrow (Nat.le_refl _) (by omega) _ _ _ _ _, ?_⟩
  cases o with
  | error x => exact ht
  | ok x =>
    obtain ⟨t, r⟩ := x
    obtain ⟨t1, t2, t3, t4, t5, t6, t7⟩ := ht
    exact ⟨t1, by rw [← hc rfl]; exact t2, t3, t4, t5.newrow h.res (by decide) _ _ _ _ _, t6, t7⟩

theorem own_err {f : Func} (hres : f.results = #[.cell 2 TTk, .tmp 3]) {w W : World} {b : Nat} {cur : ByteArray} (h : OwnAt w b cur W) {o : Except Nat (Tok × Bytes)} {tmps : Array Value} {x : Nat} {er : Int}
    (h2 : tmps.getD 2 undef = .pointer (some ⟨w.heap.size, 0, none⟩)) (h3 : tmps.getD 3 undef = .int .i64 er) (he : er = (x : Nat)) (ho : o = .error x) :
    bodyPost Tryz.prog f (fun e w' => ∃ k n ao m cap sf d er c, e = .returned (.tuple #[.agg #[.int .u8 ((k : Nat) : Int), .string n, .slice ao m cap, .bool sf, .string d], .int .i64 er]) ∧ Moved w b c w' ∧ ToldK o w.heap.size k n ao m cap sf d er c w') .ret ⟨tmps, []⟩
      (((((W.setCell ⟨w.heap.size, 0, none⟩ (.int .u8 0)).setCell ⟨w.heap.size, 1, none⟩ (.string ⟨#[]⟩)).setCell ⟨w.heap.size, 2, none⟩ (.slice none 0 0)).setCell ⟨w.heap.size, 3, none⟩ (.bool false)).setCell ⟨w.heap.size, 4, none⟩ (.string ⟨#[]⟩)) := by
  have hlt := h.lt
  refine bodyPost_ret (results_row_tmp hres _ _ w.heap.size TTk _ _ _ h2 (set5 h.res) Tryz.underlying25 rfl (by kernel_rfl)) rfl ?_
  refine ⟨0, _, _, _, _, _, _, er, cur, by rw [h3]; rfl, h.moved.newrow (Nat.le_refl _) (by omega) _ _ _ _ _, ?_⟩
  subst ho
  exact ⟨he, rfl, rfl, rfl, rfl, rfl, rfl, rfl⟩
set_option maxRecDepth 100000 in
set_option maxHeartbeats 400000 in
theorem unknown_any (b : Nat) (cur : ByteArray) (w : World) (h : RB w b cur) : ReadsAs 113 (.error 43) b w := by
  have HO := Lib.hid (OwnAt.start h)
  clear h
  unfold ReadsAs
  go_enter Tryz.func113, Tryz.ntmps113
  obtain ⟨⟨r0, r1, r2, r3, r4⟩, s0, s1, s2, s3, s4⟩ := local5 HO.out.res
  go_big_wp2
  refine bodyPost_ret (results_row_tmp rfl _ _ w.heap.size TTk _ _ _ rfl HO.out.res Tryz.underlying25 rfl (by kernel_rfl)) rfl ?_
  exact ⟨0, _, _, _, _, _, _, 43, cur, rfl, HO.out.moved, rfl, rfl, rfl, rfl, rfl, rfl, rfl, rfl⟩
set_option maxRecDepth 100000 in
set_option maxHeartbeats 400000 in
theorem start_any (b : Nat) (cur : ByteArray) (hsz : cur.size ≤ 4294967280) (h1 : 1 ≤ cur.size) (w : World) (h : RB w b cur) (hm : Maxed w b) : ReadsAs 107 (tagL 1 ((bl cur).drop 1)) b w := by
  have HO := Lib.hid (OwnAt.start h)
  have HM := Lib.hid hm
  have HT := Lib.hid fun w h => take_any b cur 1 h1 w h
  have hs1 : (cur.extract 1 cur.size).size ≤ 4294967280 := by simp; omega
  have HG := Lib.hid fun w h hm => tag_told b 1 (cur.extract 1 cur.size) hs1 w h hm
  rw [bl_drop] at HG
  obtain ⟨c1, hc1⟩ : ∃ c, cur.extract 1 cur.size = c := ⟨_, rfl⟩
  rw [hc1] at HG HT
  clear h hm hc1 hs1
  unfold ReadsAs
  go_enter Tryz.func107, Tryz.ntmps107
  go_big_wp2_with (first
    | (go_at_call 138; refine (HT.out _ HO.out.moved.rest).mono ?_; rintro e w1 ⟨rfl, hm1⟩; have HO1 := Lib.hid (HO.out.on hm1))
    | (go_at_call 139; refine (HG.out _ HO1.out.moved.rest (HM.out.grown HO1.out.moved.grown)).mono ?_; rintro e w2 ⟨k, n, ao, m, cap, sf, d, er, c, rfl, hm2, hK⟩; have HO2 := Lib.hid (HO1.out.on hm2); obtain ⟨⟨r0, r1, r2, r3, r4⟩, s0, s1, s2, s3, s4⟩ := local5 HO2.out.res))
  refine own_end rfl HO2.out rfl rfl (fun _ => rfl) (told_mono hK HO1.out.lt2)
end Go.Proofs.YtnfkndaggcklkaaGreatDoor

