/-
  Decode: the document's way. Conditions: the text is no longer than 2^40 bytes.
-/
import Derived.Test.YtfjphhmbnhglcaaGreatDoorCOneR
namespace Go.CharrefKit
open Go
theorem win_le : (winTab.all fun x => decide (x ≤ 1114111)) = true := by kernel_rfl
theorem tab_le : (tab.all fun e => decide (e.2.1 ≤ 1114111)) = true := by kernel_rfl
theorem charOf_le (v : Nat) : charOf v ≤ 1114111 := by
  unfold charOf
  split
  · rw [List.getD_eq_getElem?_getD]
    cases h : winTab[v - 128]? with
    | none => simp
    | some x => simpa using of_decide_eq_true (List.all_eq_true.1 win_le x (List.mem_of_getElem? h))
  · split <;> omega
theorem findL_char (attr : Bool) (l : List Nat) : (findL attr l).char ≤ 1114111 := by
  rcases find_cases attr l with ⟨r, rfl⟩ | ⟨r, rfl, hr⟩ | ⟨_, h0⟩
  · rw [findL_num]
    split
    · simp only
      unfold numberL
      simp only
      split
      · simp [noRef]
      · exact charOf_le _
    · simp [noRef]
  · rw [findL_name hr]
    unfold nameL
    simp only
    split
    · simp [noRef]
    · split
      · simp [noRef]
      · simp only
        obtain ⟨_, _, h3⟩ := best_spec r tab (0, 0)
        rcases h3 with h3 | ⟨e, he, h3, _⟩
        · rw [h3]; simp
        · rw [h3]
          simpa using List.all_eq_true.1 tab_le e he
  · rw [h0]; simp [noRef]
end Go.CharrefKit
namespace Go.Proofs.YtfjphhmbnhglcaaGreatDoor
open Go.RowKit Go.RunKit Go.CharrefKit Go.Lib

theorem ownsRow_on {w w' : World} {base : Nat} {e : TypeId} {size : Nat} {v : Value} {n : Nat} {xs : List Value} (h : w.ownsRow base e size v n xs) (hb : Below w.heap.size w w') : w'.ownsRow base e size v n xs := by
  obtain ⟨h1, h2⟩ := h
  refine ⟨h1, ?_⟩
  rcases h2 with h2 | ⟨g, cap, cur, e1, e2, e3, e4⟩
  · exact .inl h2
  · exact .inr ⟨g, cap, cur, e1, e2, by rw [hb.block g (Array.getElem?_eq_some_iff.1 e3).1]; exact e3, e4⟩

/-- What is held at the loop's head. -/
structure RefAt (w0 : World) (attr : Bool) (s : ByteArray) (pos m cap : Nat) (b : Option Addr) (done : List UInt8) (w : World) : Prop where
  row : w.ownsRow w0.heap.size 5 1 (.slice b m cap) m (byteCells done)
  rest : done ++ decodeL attr ((bl s).drop pos) = decodeL attr (bl s)
  below : Below w0.heap.size w0 w
  room : m + 4 * (s.size - pos) ≤ 4 * s.size
theorem RefAt.on {w0 : World} {attr : Bool} {s : ByteArray} {pos m cap : Nat} {b : Option Addr} {done : List UInt8} {w w' : World} (h : RefAt w0 attr s pos m cap b done w) (hb : Below w.heap.size w w') : RefAt w0 attr s pos m cap b done w' :=
  ⟨ownsRow_on h.row hb, h.rest, h.below.trans (hb.mono h.below.size), h.room⟩
theorem RefAt.grown {w0 : World} {attr : Bool} {s : ByteArray} {pos m cap : Nat} {b : Option Addr} {done : List UInt8} {w W : World} (h : RefAt w0 attr s pos m cap b done w) (hg : w.grownBy W (Value.slice b m cap).ownBlock) : Below w0.heap.size w0 W :=
  h.below.grown hg h.below.size (fun k hk => (World.ownsRow.lt h.row k hk).1)

set_option maxRecDepth 100000 in
set_option maxHeartbeats 4000000 in
theorem refDecode_any (attr : Bool) (s : ByteArray) (hsz : s.size ≤ 1099511627776) (w : World) :
    Calls Tryz.prog 74 #[.string s, .bool attr] w fun e w' => e = .returned (.string ⟨(decodeL attr (bl s)).toArray⟩) ∧ Below w.heap.size w w' := by
  obtain ⟨i0, hi, hz0, hz1, hz2⟩ := info_parts Tryz.infoByte
  have D0 : Hid (RefAt w attr s 0 0 0 none [] w) := Lib.hid ⟨World.ownsRow_nil _ _ _ _, rfl, Below.refl _ _, by omega⟩
  go_enter Tryz.func74, Tryz.ntmps74
  go_wp2
  go_loopw [5, 6] (fun l i wr => ∃ (pos m cap : Nat) (b : Option Addr) (done : List UInt8), l = .slice b m cap ∧ i = .int .i64 pos ∧ pos ≤ s.size ∧ Hid (RefAt w attr s pos m cap b done wr)) (fun _ i _ => s.size - (RowKit.intOf i).toNat)
  case atStart => exact ⟨0, 0, 0, none, [], rfl, rfl, Nat.zero_le _, D0⟩
  case round =>
    clear D0
    obtain ⟨pos, m, cap, b, done, rfl, rfl, hpos, HD⟩ := hrel
    have hroom := HD.out.room
    by_cases hlt : pos < s.size
    · have hltI : (pos : Int) < s.size := by omega
      have hts : (s.extract pos s.size).size = s.size - pos := by simp
      have hF := refFind_any attr (s.extract pos s.size) (by omega)
      obtain ⟨z, hz⟩ : ∃ z, findL attr (natsOf (s.extract pos s.size)) = z := ⟨_, rfl⟩
      rw [hz] at hF
      have hbt : bl (s.extract pos s.size) = (bl s).drop pos := bl_drop s pos
      cases hok : z.ok with
      | true =>
        have hdr := decode_ref hz hok
        have hch := findL_char attr (natsOf (s.extract pos s.size))
        rw [hz] at hch
        obtain ⟨c, n, k⟩ := z
        have hcr : c ≤ 1114111 := hch
        simp only at hok
        subst hok
        unfold refV at hF
        simp only at hF hdr
        rw [hbt, hts] at hdr
        have e1 : bl ((s.extract pos s.size).extract n (s.size - pos)) = (bl s).drop (pos + n) := by rw [← hts, bl_drop, hbt, List.drop_drop]
        rw [e1] at hdr
        have HR := Lib.hid hdr
        have HF := Lib.hid hF
        have hn1 : 1 ≤ n ∧ n ≤ s.size - pos := HR.out.2
        have hl4 := runeCells_le ((c : Nat) : Int)
        have HO := Lib.hid (one_any ((c : Nat) : Int) (by omega))
        clear hz hF hdr e1 hts hbt hch
        go_wp2_with (first
          | (go_at_call 114; refine (HF.out _).mono ?_; rintro e w1 ⟨rfl, hb1⟩; have HD1 := Lib.hid (HD.out.on hb1); clear hb1)
          | (go_at_call 115; refine (HO.out _).mono ?_; rintro e w2 ⟨rfl, rfl⟩; have HD2 := Lib.hid (HD1.out.on ((Below.refl _ _).alloc (Nat.le_refl _) (.cells (runeCells ((c : Nat) : Int)).toArray 5))); have hs2 := HD2.out.below.size)
          | (at_builtin; refine wpList_append_own _ rfl _ _ 39 rfl w.heap.size 5 i0 _ 1 1 underBytes hi hz0 hz1 hz2 rfl (by decide) _ m (byteCells done) rfl HD2.out.row ⟨w1.heap.size, 0, none⟩ (runeCells ((c : Nat) : Int)).length (runeCells ((c : Nat) : Int)).length (runeCells ((c : Nat) : Int)) rfl ?c1 ?c2 ?c3 ?c4 ?c5 ?c6 ?_))
        case c1 => simp
        case c2 => intro j u hu; simpa [go_sem] using hu
        case c3 =>
          intro u hu
          obtain ⟨x, _, rfl⟩ := List.mem_map.1 hu
          rfl
        case c4 => unfold maxLen; omega
        case c5 => omega
        case c6 => exact hs2
        intro v' W hown' hgrow _
        obtain ⟨a1, cap2, hvs1⟩ := slice_of hown'
        subst hvs1
        have hbW := HD2.out.grown hgrow
        have HX : Hid (RefAt w attr s (pos + n) (m + (runeCells ((c : Nat) : Int)).length) cap2 a1 (done ++ encodeRune ((c : Nat) : Int)) W) := Lib.hid ⟨by
          have e : byteCells (done ++ encodeRune ((c : Nat) : Int)) = byteCells done ++ runeCells ((c : Nat) : Int) := by rw [← byteCells_encodeRune]; simp [byteCells]
          rw [e]; exact hown', by rw [List.append_assoc, ← HR.out.1]; exact HD.out.rest, hbW, by omega⟩
        clear hown' hbW hgrow HD2 HD1
        go_wp2
        exact ⟨⟨pos + n, _, cap2, a1, _, rfl, by go_num, by omega, HX⟩, by simp [RowKit.intOf]; omega⟩
      | false =>
        obtain ⟨c, n, k⟩ := z
        simp only at hok
        subst hok
        unfold refV at hF
        simp only at hF
        have HF := Lib.hid hF
        have hd : pos < (bl s).length := by rw [bl_length]; exact hlt
        have hbs : ((bl s)[pos]'hd).toNat = (s[pos]'hlt).toNat := rfl
        have hdn : decodeL attr ((bl s).drop pos) = (bl s)[pos]'hd :: decodeL attr ((bl s).drop (pos + 1)) := by
          have hc := List.drop_eq_getElem_cons hd
          rw [hc]
          refine decodeL_plain ?_
          rw [← hc, ← hbt]
          change (findL attr (natsOf (s.extract pos s.size))).ok = false
          rw [hz]
        have HR := Lib.hid hdn
        clear hz hF hdn hts hbt
        go_wp2_with (first
          | (go_at_call 114; refine (HF.out _).mono ?_; rintro e w1 ⟨rfl, hb1⟩; have HD1 := Lib.hid (HD.out.on hb1); clear hb1; have HD2 := Lib.hid (HD1.out.on ((Below.refl _ _).alloc (Nat.le_refl _) (.cells #[.int .u8 ((s[pos]'hlt).toNat : Int)] 5))); have hs2 := HD2.out.below.size)
          | (at_builtin; refine wpList_append_own _ rfl _ _ 39 rfl w.heap.size 5 i0 _ 1 1 underBytes hi hz0 hz1 hz2 rfl (by decide) _ m (byteCells done) rfl HD2.out.row ⟨w1.heap.size, 0, none⟩ 1 1 [.int .u8 ((s[pos]'hlt).toNat : Int)] rfl ?c7 ?c8 ?c9 ?c10 ?c11 ?c12 ?_))
        case c7 => simp
        case c8 =>
          intro j u hu
          obtain rfl : j = 0 := by have := (List.getElem?_eq_some_iff.1 hu).1; simp at this; exact this
          simpa [go_sem] using hu
        case c9 =>
          intro u hu
          simp at hu
          subst hu
          rfl
        case c10 => unfold maxLen; omega
        case c11 => omega
        case c12 => exact hs2
        intro v' W hown' hgrow _
        obtain ⟨a1, cap2, hvs1⟩ := slice_of hown'
        subst hvs1
        have hbW := HD2.out.grown hgrow
        have HX : Hid (RefAt w attr s (pos + 1) (m + 1) cap2 a1 (done ++ [(bl s)[pos]'hd]) W) := Lib.hid ⟨by
          have e : byteCells (done ++ [(bl s)[pos]'hd]) = byteCells done ++ [.int .u8 ((s[pos]'hlt).toNat : Int)] := by rw [← hbs]; simp [byteCells]
          rw [e]; exact hown', by rw [List.append_assoc]; have := HD.out.rest; rw [HR.out] at this; exact this, hbW, by omega⟩
        clear hown' hbW hgrow HD2 HD1 hbs
        go_wp2
        exact ⟨⟨pos + 1, _, cap2, a1, _, rfl, by go_num, by omega, HX⟩, by simp [RowKit.intOf]; omega⟩
    · have he : done = decodeL attr (bl s) := by
        have := HD.out.rest
        rw [List.drop_eq_nil_of_le (by rw [bl_length]; omega), decodeL_nil, List.append_nil] at this
        exact this
      subst he
      have hown := HD.out.row
      have hlen : (decodeL attr (bl s)).length = m := by have := hown.1; rw [byteCells_length] at this; omega
      have hcv : (convert 39 9 (.slice b m cap)).run Tryz.prog wr = .ok (.string ⟨(decodeL attr (bl s)).toArray⟩) wr := by
        rcases hown.2 with ⟨e, e2⟩ | ⟨g, cap3, cur, e, _⟩
        · cases e
          have : decodeL attr (bl s) = [] := List.length_eq_zero_iff.1 (by omega)
          rw [this]
          exact run_convert_bytes_nil (P := Tryz.prog) _ 39 5 underBytes underByte _ _ _ underString
        · cases e
          have := run_convert_bytes_back (P := Tryz.prog) wr 39 9 5 ⟨g, 0, none⟩ cap (decodeL attr (bl s)) underBytes underByte underString (fun j hj => hown.cells rfl j _ (by simp [byteCells, hj]))
          rwa [hlen] at this
      have HB := Lib.hid HD.out.below
      clear hown hlen
      go_wp2
      go_ret
      exact ⟨rfl, HB.out⟩
end Go.Proofs.YtfjphhmbnhglcaaGreatDoor
