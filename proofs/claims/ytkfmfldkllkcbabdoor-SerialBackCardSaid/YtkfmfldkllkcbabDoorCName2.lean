/-
  References by name, walked: the program's way. Conditions: the text begins with &.
-/
import Derived.Test.YtkfmfldkllkcbabDoorCTab
import Derived.BigRegion
namespace Go.Proofs.YtkfmfldkllkcbabDoor
open Go.RowKit Go.RunKit Go.CharrefKit Go.Lib

/-- The names in a block. -/
def NamesIn (gl : Nat) (w : World) : Prop := gl < w.heap.size ∧ ∀ k e, tabC[k]? = some e → w.cell? ⟨gl, k * 3, none⟩ = some (.string (strOf e.1)) ∧ w.cell? ⟨gl, k * 3 + 1, none⟩ = some (.int .i32 ((e.2.1 : Nat) : Int)) ∧ w.cell? ⟨gl, k * 3 + 2, none⟩ = some (.bool e.2.2)
theorem NamesIn.on {gl : Nat} {w w' : World} (h : NamesIn gl w) (hb : Below w.heap.size w w') : NamesIn gl w' := ⟨Nat.lt_of_lt_of_le h.1 hb.size, fun k e he => by
  obtain ⟨a, b, c⟩ := h.2 k e he
  exact ⟨by rw [hb.cell h.1]; exact a, by rw [hb.cell h.1]; exact b, by rw [hb.cell h.1]; exact c⟩⟩
theorem names_laid (w : World) : NamesIn w.heap.size (w.alloc (.cells (nameCells tabC).toArray 81)) := ⟨by simp, fun k e he => by
  have := nameCells_at he
  rw [World.cell?_alloc_at _ _ _ _ rfl, World.cell?_alloc_at _ _ _ _ rfl, World.cell?_alloc_at _ _ _ _ rfl]
  exact ⟨by simp [this.1], by simp [this.2.1], by simp [this.2.2]⟩⟩

theorem code_none {attr : Bool} {r : List Nat} {k : Nat} (h : ∀ e ∈ tabC, e.1 ≠ r.take (k + 1)) : codeName attr r (k + 1) = codeName attr r k := by
  have : tabC.find? (fun e => decide (e.1 = r.take (k + 1))) = none := List.find?_eq_none.2 (fun e he => by simpa using h e he)
  simp only [codeName, this]
theorem code_some {attr : Bool} {r : List Nat} {k : Nat} {e : Entry} (he : e ∈ tabC) (hn : e.1 = r.take (k + 1)) :
    codeName attr r (k + 1) = if r[k + 1]? = some 59 then ⟨e.2.1, k + 3, true⟩ else if e.2.2 = true then (if attr = true ∧ goesOn r[k + 1]? = true then noRef else ⟨e.2.1, k + 2, true⟩) else codeName attr r k := by
  have : tabC.find? (fun e => decide (e.1 = r.take (k + 1))) = some e := by
    cases hf : tabC.find? (fun e => decide (e.1 = r.take (k + 1))) with
    | none =>
      have := List.find?_eq_none.1 hf e he
      simp only [decide_eq_true_eq] at this
      exact absurd hn this
    | some e' =>
      have h1 : e'.1 = r.take (k + 1) := by simpa using List.find?_some hf
      rw [tab_same (mem_tabC.1 (List.mem_of_find?_eq_some hf)) (mem_tabC.1 he) (by rw [h1, hn])]
  simp only [codeName, this]
theorem word_is {word : ByteArray} {e : Entry} (he : e ∈ tabC) : bytesOf e.1 = word.data.toList ↔ e.1 = natsOf word := by
  constructor
  · intro h
    have := nats_bytesOf (tabC_small he)
    rw [h] at this
    exact this.symm
  · intro h
    apply nats_inj
    rw [nats_bytesOf (tabC_small he), h]; rfl

set_option maxRecDepth 100000 in
set_option maxHeartbeats 4000000 in
theorem byName_any (attr : Bool) (s : ByteArray) (r : List Nat) (hs : natsOf s = 38 :: r) (hsz : s.size ≤ 1099511627776) (w : World) :
    Calls Tryd.prog 36 #[.string s, .bool attr] w fun e w' => e = .returned (refV (nameL attr r)) ∧ Below w.heap.size w w' := by
  have hsl := natsOf_length s
  rw [hs] at hsl
  simp only [List.length_cons] at hsl
  have HS := Lib.hid hs
  have h1s : natsOf (s.extract 1 s.size) = r := by rw [natsOf_drop, hs]; rfl
  have HL := Lib.hid (fun w => letters_any (s.extract 1 s.size) (by simp; omega) w)
  rw [h1s] at HL
  have HF := Lib.hid (codeName_letters attr r)
  have hln := (lettersN_le r).1
  have HR := Lib.hid (fun w => names_any w)
  have HNI := Lib.hid (fun w => names_laid w)
  have HO := Lib.hid names_one
  have HZ : Hid ((Tryd.prog.info? 81).map (·.size) = some (nameCells tabC).toArray.size ∧ (oldNames 59).toArray.size = (nameCells tabC).toArray.size) := Lib.hid ⟨by rw [names_size]; exact size59, by kernel_rfl⟩
  generalize (nameCells tabC).toArray = cs at *
  have hszI : (1 : Int) ≤ s.size := by omega
  clear hs h1s
  go_enter Tryd.func36, Tryd.ntmps36
  go_upto_region 1 with (fail)
  rename_i Q' K hK
  refine wp_region_list ?_
  refine wpList_calls rfl (by kernel_rfl) (HR.out w) ?_
  rintro e w1 ⟨rfl, rfl⟩
  refine ⟨_, rfl, ?_⟩
  have hb1 : Below w.heap.size w (w.alloc (.cells cs 81)) := (Below.refl _ _).alloc (Nat.le_refl _) _
  generalize w.alloc (.cells cs 81) = W1 at *
  refine wpList_alloc_row rfl rfl info59 ?_
  refine wpList_store_row rfl _ _ _ rfl W1.heap.size cs (by rfl) (by rfl) 81 _ (heap_alloc_last W1 _) HZ.out.1 HZ.out.2 HO.out ?_
  rw [World.setRow_alloc_new]
  refine wpList_nil ?_
  refine hK _ _ ?_
  go_frame
  have hb2 : Below w.heap.size w (W1.alloc (.cells cs 81)) := hb1.alloc hb1.size _
  have HN := Lib.hid (HNI.out W1)
  generalize W1.alloc (.cells cs 81) = W2 at *
  generalize W1.heap.size = gl at *
  clear HR HO HZ HNI hb1
  go_wp2_with (go_at_call 49; refine (HL.out _).mono ?_; rintro e w2 ⟨rfl, rfl⟩)
  go_loopw [8] (fun i wr => ∃ k : Nat, i = .int .i64 ((k : Int) + 1) ∧ k ≤ r.length ∧ Hid (nameL attr r = codeName attr r k) ∧ Below w.heap.size w wr ∧ Hid (NamesIn gl wr)) (fun i _ => (RowKit.intOf i).toNat)
  case atStart => exact ⟨lettersN r, by go_num, hln, Lib.hid HF.out.symm, hb2, HN⟩
  case round =>
    clear hb2 HN HF
    obtain ⟨k, rfl, hk, HF, hb, HN⟩ := hrel
    cases k with
    | zero =>
      have HV : Hid (refV (nameL attr r) = .tuple #[.int .i32 0, .int .i64 0, .bool false]) := Lib.hid (by rw [HF.out]; rfl)
      go_wp2
      go_ret3
      exact ⟨by rw [HV.out]; rfl, hb⟩
    | succ k =>
      have hkI : (1 : Int) < (k : Int) + 1 + 1 := by omega
      have hkI2 : (k : Int) + 1 + 1 ≤ s.size := by omega
      have HW : Hid (natsOf (s.extract 1 (k + 1 + 1)) = r.take (k + 1)) := Lib.hid (by rw [natsOf_extract, HS.out]; simp)
      have hsem := semi_at s (k + 1 + 1)
      have hrest : (natsOf s)[k + 1 + 1]? = r[k + 1]? := by rw [HS.out]; rfl
      have hrest0 : (natsOf (s.extract (k + 1 + 1) s.size))[0]? = r[k + 1]? := by rw [natsOf_drop, List.getElem?_drop, Nat.add_zero, hrest]
      rw [hrest] at hsem
      have HPre := Lib.hid (fun w => hasPrefix_any (s.extract (k + 1 + 1) s.size) ⟨#[59]⟩ w)
      rw [hsem] at HPre
      have HGo := Lib.hid (fun w => goesOn_any (s.extract (k + 1 + 1) s.size) w)
      rw [hrest0] at HGo
      clear hsem hrest hrest0 HL HS
      go_wp2
      go_region
      generalize s.extract 1 (k + 1 + 1) = word at *
      generalize s.extract (k + 1 + 1) s.size = rest at *
      have hb5 : Below w.heap.size w (wr.alloc (.cells #[.string word] 9)).drew := (hb.alloc hb.size _).drew
      have hn5 : NamesIn gl (wr.alloc (.cells #[.string word] 9)).drew := HN.out.on (((Below.refl _ _).alloc (Nat.le_refl _) _).drew)
      have hw5 : (wr.alloc (.cells #[.string word] 9)).drew.cell? ⟨wr.heap.size, 0, none⟩ = some (.string word) := by simp [go_sem]
      generalize (wr.alloc (.cells #[.string word] 9)).drew = w5 at *
      generalize wr.heap.size = gw at *
      have HSr := Lib.hid (search_any 51 #[.pointer (some ⟨gl, 0, none⟩), .pointer (some ⟨gw, 0, none⟩)] 59 (atLeast word.data.toList) w5 (enters_of Tryd.func51 (by kernel_rfl) rfl) (by omega) (fun m i hi => asks_any gl gw word w5 ⟨fun k e he => (hn5.2 k e he).1, hw5⟩ m i hi) (atLeast_mono _))
      have HN5 := Lib.hid hn5
      have HB5 := Lib.hid hb5
      have HW5 := Lib.hid hw5
      clear hb5 hn5 hw5 hb HN
      go_wp2_with (go_at_call 50; refine HSr.out.mono ?_; rintro e w6 ⟨⟨c, rfl, hfirst⟩, q, rfl⟩; clear HSr)
      have cw := HW5.out
      rcases search_word _ _ hfirst with ⟨e, hce, hwe⟩ | ⟨hc, hno⟩
      · have hcl : c < 59 := by
          have := (List.getElem?_eq_some_iff.1 hce).1
          have := tabC_len
          omega
        have hem := List.mem_of_getElem? hce
        have hn : e.1 = r.take (k + 1) := by rw [(word_is hem).1 hwe, HW.out]
        have hse : strOf e.1 = word := by
          apply ByteArray.ext
          apply Array.ext'
          exact hwe
        obtain ⟨c0, c1, c2⟩ := HN5.out.2 c e hce
        rw [hse] at c0
        have hcode := code_some (attr := attr) (k := k) hem hn
        have hcI : (c : Int) < 59 := by omega
        have hcne : ¬ (c : Int) = 59 := by omega
        have hcb : ((c : Int) == 59) = false := beq_eq_false_iff_ne.2 hcne
        clear hce hwe hfirst hn hse hem HW
        generalize e.2.1 = ch at *
        by_cases h59 : r[k + 1]? = some 59
        · rw [if_pos h59] at hcode
          rw [decide_eq_true h59] at HPre
          clear h59
          have HV : Hid (refV (nameL attr r) = .tuple #[.int .i32 ((ch : Nat) : Int), .int .i64 ((k : Int) + 1 + 1 + 1), .bool true]) := Lib.hid (by
            rw [HF.out, hcode]
            show Value.tuple #[.int .i32 ((ch : Nat) : Int), .int .i64 ((k + 3 : Nat) : Int), .bool true] = _
            have e9 : ((k + 3 : Nat) : Int) = (k : Int) + 1 + 1 + 1 := by omega
            rw [e9])
          clear hcode HF
          go_quiet (fail)
          go_wp2_with (first
            | (go_at_call 34; refine (HPre.out _).mono ?_; rintro e w7 ⟨rfl, rfl⟩)
            | (go_at_call 52; refine (HGo.out _).mono ?_; rintro e w8 ⟨rfl, rfl⟩))
          go_ret3
          exact ⟨by rw [HV.out]; rfl, below_drewN HB5.out _⟩
        · rw [if_neg h59] at hcode
          rw [decide_eq_false h59] at HPre
          clear h59
          cases hbare : e.2.2 with
          | true =>
            rw [hbare] at hcode c2
            rw [if_pos rfl] at hcode
            clear hbare
            cases attr with
            | true =>
              cases hg : goesOn r[k + 1]? with
              | true =>
                rw [hg] at hcode HGo
                rw [if_pos ⟨rfl, rfl⟩] at hcode
                clear hg
                have HV : Hid (refV (nameL true r) = .tuple #[.int .i32 0, .int .i64 0, .bool false]) := Lib.hid (by
                  rw [HF.out, hcode]
                  rfl)
                clear hcode HF
                go_quiet (fail)
                go_wp2_with (first
            | (go_at_call 34; refine (HPre.out _).mono ?_; rintro e w7 ⟨rfl, rfl⟩)
            | (go_at_call 52; refine (HGo.out _).mono ?_; rintro e w8 ⟨rfl, rfl⟩))
                go_ret3
                exact ⟨by rw [HV.out]; rfl, below_drewN HB5.out _⟩
              | false =>
                rw [hg] at hcode HGo
                rw [if_neg (by rintro ⟨_, q⟩; cases q)] at hcode
                clear hg
                have HV : Hid (refV (nameL true r) = .tuple #[.int .i32 ((ch : Nat) : Int), .int .i64 ((k : Int) + 1 + 1), .bool true]) := Lib.hid (by
                  rw [HF.out, hcode]
                  show Value.tuple #[.int .i32 ((ch : Nat) : Int), .int .i64 ((k + 2 : Nat) : Int), .bool true] = _
                  have e9 : ((k + 2 : Nat) : Int) = (k : Int) + 1 + 1 := by omega
                  rw [e9])
                clear hcode HF
                go_quiet (fail)
                go_wp2_with (first
            | (go_at_call 34; refine (HPre.out _).mono ?_; rintro e w7 ⟨rfl, rfl⟩)
            | (go_at_call 52; refine (HGo.out _).mono ?_; rintro e w8 ⟨rfl, rfl⟩))
                go_ret3
                exact ⟨by rw [HV.out]; rfl, below_drewN HB5.out _⟩
            | false =>
              rw [if_neg (by rintro ⟨q, _⟩; cases q)] at hcode
              have HV : Hid (refV (nameL false r) = .tuple #[.int .i32 ((ch : Nat) : Int), .int .i64 ((k : Int) + 1 + 1), .bool true]) := Lib.hid (by
                rw [HF.out, hcode]
                show Value.tuple #[.int .i32 ((ch : Nat) : Int), .int .i64 ((k + 2 : Nat) : Int), .bool true] = _
                have e9 : ((k + 2 : Nat) : Int) = (k : Int) + 1 + 1 := by omega
                rw [e9])
              clear hcode HF
              go_quiet (fail)
              go_wp2_with (first
            | (go_at_call 34; refine (HPre.out _).mono ?_; rintro e w7 ⟨rfl, rfl⟩)
            | (go_at_call 52; refine (HGo.out _).mono ?_; rintro e w8 ⟨rfl, rfl⟩))
              go_ret3
              exact ⟨by rw [HV.out]; rfl, below_drewN HB5.out _⟩
          | false =>
            rw [hbare] at hcode c2
            rw [if_neg (by decide)] at hcode
            clear hbare
            have HX : Hid (nameL attr r = codeName attr r k) := Lib.hid (by rw [HF.out, hcode])
            clear hcode HF
            go_quiet (fail)
            go_wp2_with (first
            | (go_at_call 34; refine (HPre.out _).mono ?_; rintro e w7 ⟨rfl, rfl⟩)
            | (go_at_call 52; refine (HGo.out _).mono ?_; rintro e w8 ⟨rfl, rfl⟩))
            exact ⟨⟨k, by go_num, by omega, HX, below_drewN HB5.out _, Lib.hid (HN5.out.on (below_drewN (Below.refl _ _) _))⟩, by simp [RowKit.intOf]; omega⟩
      · have hcode : codeName attr r (k + 1) = codeName attr r k := code_none (fun e he hn => hno e he ((word_is he).2 (by rw [hn, HW.out])))
        clear hno HW
        rcases hc with rfl | ⟨e, hce, hwe⟩
        · clear hfirst
          have HX : Hid (nameL attr r = codeName attr r k) := Lib.hid (by rw [HF.out, hcode])
          clear hcode HF
          go_quiet (fail)
          go_wp2_with (first
            | (go_at_call 34; refine (HPre.out _).mono ?_; rintro e w7 ⟨rfl, rfl⟩)
            | (go_at_call 52; refine (HGo.out _).mono ?_; rintro e w8 ⟨rfl, rfl⟩))
          exact ⟨⟨k, by go_num, by omega, HX, below_drewN HB5.out _, Lib.hid (HN5.out.on (below_drewN (Below.refl _ _) _))⟩, by simp [RowKit.intOf]; omega⟩
        · have hcl : c < 59 := by
            have := (List.getElem?_eq_some_iff.1 hce).1
            have := tabC_len
            omega
          obtain ⟨c0, c1, c2⟩ := HN5.out.2 c e hce
          have hcI : (c : Int) < 59 := by omega
          have hcne : ¬ (c : Int) = 59 := by omega
          have hcb : ((c : Int) == 59) = false := beq_eq_false_iff_ne.2 hcne
          have hneq : ((strOf e.1).toList == word.toList) = false := by
            rw [ByteArray.toList_eq, ByteArray.toList_eq, beq_eq_false_iff_ne]
            exact hwe
          clear hce hwe hfirst
          generalize strOf e.1 = other at *
          have HX : Hid (nameL attr r = codeName attr r k) := Lib.hid (by rw [HF.out, hcode])
          clear hcode HF
          go_quiet (fail)
          go_wp2_with (first
            | (go_at_call 34; refine (HPre.out _).mono ?_; rintro e w7 ⟨rfl, rfl⟩)
            | (go_at_call 52; refine (HGo.out _).mono ?_; rintro e w8 ⟨rfl, rfl⟩))
          exact ⟨⟨k, by go_num, by omega, HX, below_drewN HB5.out _, Lib.hid (HN5.out.on (below_drewN (Below.refl _ _) _))⟩, by simp [RowKit.intOf]; omega⟩
end Go.Proofs.YtkfmfldkllkcbabDoor

