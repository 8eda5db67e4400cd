/-
  small and isWord of package token. Conditions: texts are no longer than 2^40 bytes.
-/
import Derived.Test.YtfjphhmbnhglcaaGreatDoorTByte
import Derived.Laws.IdiomStrings
namespace Go.Proofs.YtfjphhmbnhglcaaGreatDoor
open Go.RowKit Go.RunKit Go.CharrefKit Go.Lib Go.TokenKit

/-- A row of bytes that may be written, in a block. -/
structure BR (w : World) (g : Nat) (l : List UInt8) : Prop where
  ex : ∃ cur fr, w.heap[g]? = some (.cells cur 5 fr) ∧ cur.toList.take l.length = byteCells l ∧ l.length ≤ fr.1
theorem BR.at_ {w : World} {g : Nat} {l : List UInt8} (h : BR w g l) (j : Nat) (hj : j < l.length) : w.cell? ⟨g, j, none⟩ = some (.int .u8 (l[j].toNat : Int)) := by
  obtain ⟨cur, fr, hg, ht, _⟩ := h.ex
  have e : cur[j]? = (byteCells l)[j]? := by
    rw [← ht, List.getElem?_take, if_pos hj]; simp
  simp only [World.cell?, hg]
  simp [e, byteCells, hj]
theorem BR.frozen {w : World} {g : Nat} {l : List UInt8} (h : BR w g l) (j : Nat) (hj : j < l.length) : w.frozen? ⟨g, j, none⟩ = false := by
  obtain ⟨cur, ⟨lo, hi⟩, hg, _, hf⟩ := h.ex
  simp only [World.frozen?, hg]
  simp only at hf
  simp; omega
theorem BR.set {w : World} {g : Nat} {l : List UInt8} (h : BR w g l) (j : Nat) (b : UInt8) : BR (w.setCell ⟨g, j, none⟩ (.int .u8 (b.toNat : Int))) g (l.set j b) := by
  obtain ⟨cur, fr, hg, ht, hf⟩ := h.ex
  refine ⟨cur.setIfInBounds j (.int .u8 (b.toNat : Int)), fr, ?_, ?_, by simpa using hf⟩
  · have hlt : g < w.heap.size := (Array.getElem?_eq_some_iff.1 hg).1
    have hv : w.heap[g] = .cells cur 5 fr := (Array.getElem?_eq_some_iff.1 hg).2
    simp only [World.setCell]
    rw [Array.getElem?_eq_getElem (by simpa using hlt), Array.getElem_modify]
    simp [hv]
  · rw [Array.toList_setIfInBounds, List.length_set, List.take_set, ht]
    simp [byteCells, List.map_set]
theorem bytes_made (s : ByteArray) (w : World) : ∃ cap W, (convert 9 39 (.string s)).run Tryz.prog w = .ok (.slice (some ⟨w.heap.size, 0, none⟩) s.size cap) W ∧ BR W w.heap.size (bl s) ∧ Below w.heap.size w W := by
  refine ⟨_, _, run_bytes_of_string w 9 39 5 s underString underBytes underByte, ⟨_, _, heap_alloc_new w.drew _, ?_, ?_⟩, (Below.refl _ _).drew.alloc (Nat.le_refl _) _⟩
  · simp [bytesRow, byteCells, bl]
  · simp [bytesRow, bl_length]
theorem BR.text {w : World} {g : Nat} {l : List UInt8} (h : BR w g l) (cap : Nat) : (convert 39 9 (.slice (some ⟨g, 0, none⟩) l.length cap)).run Tryz.prog w = .ok (.string ⟨l.toArray⟩) w :=
  run_convert_bytes_back w 39 9 5 ⟨g, 0, none⟩ cap l underBytes underByte underString (fun j hj => by rw [add_at]; exact h.at_ j hj)

theorem smallB_hit {b : UInt8} (h1 : 65 ≤ b.toNat) (h2 : b.toNat ≤ 90) : (smallB b).toNat = b.toNat + 32 := by
  unfold smallB
  rw [if_pos ⟨h1, h2⟩, UInt8.toNat_add]
  show (b.toNat + 32) % 256 = _
  omega
theorem smallB_miss {b : UInt8} (h : ¬ (65 ≤ b.toNat ∧ b.toNat ≤ 90)) : smallB b = b := by unfold smallB; rw [if_neg h]
/-- Small up to a place. -/
def smallTo (l : List UInt8) (i : Nat) : List UInt8 := smallL (l.take i) ++ l.drop i
theorem smallTo_len (l : List UInt8) (i : Nat) : (smallTo l i).length = l.length := by simp [smallTo, smallL]; omega
theorem smallTo_zero (l : List UInt8) : smallTo l 0 = l := by simp [smallTo, smallL]
theorem smallTo_all (l : List UInt8) : smallTo l l.length = smallL l := by simp [smallTo]
theorem smallTo_at {l : List UInt8} {i : Nat} {b : UInt8} (h : l[i]? = some b) : (smallTo l i)[i]? = some b := by
  have hi : i < l.length := (List.getElem?_eq_some_iff.1 h).1
  unfold smallTo
  rw [List.getElem?_append_right (by simp [smallL]; omega)]
  simp [smallL, Nat.min_eq_left (Nat.le_of_lt hi), h]
theorem smallTo_set {l : List UInt8} {i : Nat} {b : UInt8} (h : l[i]? = some b) : (smallTo l i).set i (smallB b) = smallTo l (i + 1) := by
  have hi : i < l.length := (List.getElem?_eq_some_iff.1 h).1
  have hb : l[i] = b := by rw [List.getElem?_eq_getElem hi] at h; exact Option.some.inj h
  have e1 : l.take (i + 1) = l.take i ++ [b] := by rw [List.take_succ_eq_append_getElem hi, hb]
  have e2 : l.drop i = b :: l.drop (i + 1) := by rw [List.drop_eq_getElem_cons hi, hb]
  have e3 : (smallL (l.take i)).length = i := by simp [smallL]; omega
  unfold smallTo
  rw [e1, e2, List.set_append_right _ _ (by omega), e3, Nat.sub_self]
  simp [smallL]
theorem smallTo_same {l : List UInt8} {i : Nat} {b : UInt8} (h : l[i]? = some b) (hb : smallB b = b) : smallTo l i = smallTo l (i + 1) := by
  have hi : i < l.length := (List.getElem?_eq_some_iff.1 h).1
  rw [← smallTo_set h, hb]
  symm
  have := smallTo_at h
  have h2 := (List.getElem?_eq_some_iff.1 this)
  obtain ⟨h3, h4⟩ := h2
  conv => lhs; rw [← h4]
  exact List.set_getElem_self h3

set_option maxRecDepth 100000 in
set_option maxHeartbeats 1000000 in
theorem small_any (s : ByteArray) (hsz : s.size ≤ 1099511627776) (w : World) :
    Calls Tryz.prog 66 #[.string s] w fun e w' => e = .returned (.string ⟨(smallL (bl s)).toArray⟩) ∧ Below w.heap.size w w' := by
  obtain ⟨cap, W, hcv, hrow, hbel⟩ := bytes_made s w
  have hlen := bl_length s
  go_enter Tryz.func66, Tryz.ntmps66
  go_wp2
  have HR := Lib.hid hrow
  clear hrow hcv
  go_loopw [10] (fun v wr => ∃ i : Nat, v = .int .i64 (i : Nat) ∧ i ≤ s.size ∧ Hid (BR wr w.heap.size (smallTo (bl s) i)) ∧ Hid (Below w.heap.size w wr)) (fun v _ => s.size - (RowKit.intOf v).toNat)
  case atStart => exact ⟨0, rfl, Nat.zero_le _, by rw [smallTo_zero]; exact HR, Lib.hid hbel⟩
  case round =>
    clear HR hbel
    obtain ⟨i, rfl, his, HR, HB⟩ := hrel
    by_cases hi : i < s.size
    · have hI : (i : Int) < s.size := by omega
      obtain ⟨x, hx⟩ : ∃ x : UInt8, s[i]'hi = x := ⟨_, rfl⟩
      have hxl : (bl s)[i]? = some x := by rw [← hx]; exact Lib.data_getElem? s i hi
      have hc : wr.cell? ⟨w.heap.size, i, none⟩ = some (.int .u8 (x.toNat : Int)) := by
        have hj : i < (smallTo (bl s) i).length := by rw [smallTo_len, hlen]; exact hi
        rw [HR.out.at_ i hj]
        have := smallTo_at hxl
        rw [List.getElem?_eq_getElem hj] at this
        rw [Option.some.inj this]
      have hfz : wr.frozen? ⟨w.heap.size, i, none⟩ = false := HR.out.frozen i (by rw [smallTo_len, hlen]; exact hi)
      have HX := Lib.hid hxl
      clear hxl hx
      have hx256 := x.toNat_lt
      by_cases hup : 65 ≤ x.toNat ∧ x.toNat ≤ 90
      · have h1 : (65 : Int) ≤ x.toNat := by omega
        have h2 : (x.toNat : Int) ≤ 90 := by omega
        have HS : Hid (BR (wr.setCell ⟨w.heap.size, i, none⟩ (.int .u8 ((smallB x).toNat : Int))) w.heap.size (smallTo (bl s) (i + 1))) := by
          have := HR.out.set i (smallB x)
          rw [smallTo_set HX.out] at this
          exact Lib.hid this
        rw [smallB_hit hup.1 hup.2] at HS
        clear hup
        go_wp2
        rw [show (x.toNat : Int) - 65 + 97 = ((x.toNat + 32 : Nat) : Int) by omega]
        exact ⟨⟨i + 1, rfl, by omega, HS, Lib.hid (HB.out.setCell (Nat.le_refl _) _)⟩, by simp [RowKit.intOf]; omega⟩
      · have hm := smallTo_same HX.out (smallB_miss hup)
        rw [hm] at HR
        have hor : ¬ ((65 : Int) ≤ x.toNat) ∨ ¬ ((x.toNat : Int) ≤ 90) := by omega
        clear hup hm
        rcases hor with h1 | h1
        · go_wp2
          exact ⟨⟨i + 1, rfl, by omega, HR, HB⟩, by simp [RowKit.intOf]; omega⟩
        · by_cases h0 : (65 : Int) ≤ x.toNat
          · go_wp2
            exact ⟨⟨i + 1, rfl, by omega, HR, HB⟩, by simp [RowKit.intOf]; omega⟩
          · go_wp2
            exact ⟨⟨i + 1, rfl, by omega, HR, HB⟩, by simp [RowKit.intOf]; omega⟩
    · obtain rfl : i = s.size := by omega
      have ht := HR.out.text cap
      rw [smallTo_len, hlen] at ht
      rw [show s.size = (bl s).length from hlen.symm, smallTo_all] at ht
      rw [hlen] at ht
      go_wp2
      go_ret
      exact ⟨rfl, HB.out⟩

/-- Are all bytes up to a place such as may be? -/
def okB (more : List UInt8) (b : UInt8) : Bool := isL b || isD b || more.contains b
theorem wordL_no {more l : List UInt8} {i : Nat} {b : UInt8} (h : l[i]? = some b) (hb : okB more b = false) : wordL more l = false := by
  unfold wordL
  rw [List.all_eq_false]
  exact ⟨b, List.mem_of_getElem? h, by change ¬ okB more b = true; simp [hb]⟩
theorem wordL_yes {more l : List UInt8} (h : ∀ j b, j < l.length → l[j]? = some b → okB more b = true) : wordL more l = true := by
  unfold wordL
  rw [List.all_eq_true]
  intro b hb
  obtain ⟨j, hj⟩ := List.mem_iff_getElem?.1 hb
  exact h j b (List.getElem?_eq_some_iff.1 hj).1 hj

set_option maxRecDepth 100000 in
set_option maxHeartbeats 2000000 in
theorem isWord_any (s more : ByteArray) (hsz : s.size ≤ 1099511627776) (w : World) :
    Calls Tryz.prog 135 #[.string s, .string more] w fun e w' => e = .returned (.bool (wordL (bl more) (bl s))) ∧ w = w' := by
  have hlen := bl_length s
  go_enter Tryz.func135, Tryz.ntmps135
  go_wp2
  go_loop [9] (fun v => ∃ i : Nat, v = .int .i64 (i : Nat) ∧ i ≤ s.size ∧ Hid (∀ j b, j < i → (bl s)[j]? = some b → okB (bl more) b = true)) (fun v => s.size - (RowKit.intOf v).toNat)
  case atStart => exact ⟨0, rfl, Nat.zero_le _, Lib.hid fun j b h => by omega⟩
  case round =>
    obtain ⟨i, rfl, his, HA⟩ := hrel
    by_cases hi : i < s.size
    · have hI : (i : Int) < s.size := by omega
      obtain ⟨x, hx⟩ : ∃ x : UInt8, s[i]'hi = x := ⟨_, rfl⟩
      have hxl : (bl s)[i]? = some x := by rw [← hx]; exact Lib.data_getElem? s i hi
      have HX := Lib.hid hxl
      clear hxl
      have HL := Lib.hid (tisLetter_any x.toNat x.toNat_lt)
      have HD := Lib.hid (tisDigit_any x.toNat x.toNat_lt)
      have HI : Hid (∀ W, Calls Tryz.prog 38 #[.string more, .int .u8 x.toNat] W fun e w'' => e = .returned (.int .i64 (Lib.indexByte more.data.toList x)) ∧ W = w'') :=
        Lib.hid fun W => (Tryz.strings_IndexByte more (x.toNat : Int) W).mono fun e w1 ⟨h1, h2⟩ => ⟨by rw [h1, show ((x.toNat : Int)).toNat.toUInt8 = x by simp], h2.symm⟩
      have hcon := Lib.contains_iff_indexByte more.data.toList x
      have hok : okB (bl more) x = (isLet x.toNat || isNum x.toNat || decide (0 ≤ Lib.indexByte more.data.toList x)) := by rw [← hcon]; rfl
      obtain ⟨z1, hz1⟩ : ∃ z, isLet x.toNat = z := ⟨_, rfl⟩
      obtain ⟨z2, hz2⟩ : ∃ z, isNum x.toNat = z := ⟨_, rfl⟩
      obtain ⟨z3, hz3⟩ : ∃ z, Lib.indexByte more.data.toList x = z := ⟨_, rfl⟩
      rw [hz1] at HL hok
      rw [hz2] at HD hok
      rw [hz3] at HI hok
      have HO := Lib.hid hok
      clear hz1 hz2 hz3 hcon hok
      go_big_wp2_with (first
        | (go_at_call 61; refine (HL.out _).mono ?_; rintro e w1 ⟨rfl, rfl⟩)
        | (go_at_call 168; refine (HD.out _).mono ?_; rintro e w1 ⟨rfl, rfl⟩)
        | (go_at_call 38; refine (HI.out _).mono ?_; rintro e w1 ⟨rfl, rfl⟩))
      all_goals first
        | (refine ⟨⟨i + 1, rfl, by omega, Lib.hid fun j b hj hb => ?_⟩, by simp [RowKit.intOf]; omega⟩
           by_cases e : j = i
           · subst e; rw [HX.out] at hb; cases hb; rw [HO.out]; simp_all
           · exact HA.out j b (by omega) hb)
        | (go_ret
           exact ⟨by rw [wordL_no HX.out (by rw [HO.out]; simp_all)]; rfl, rfl⟩)
    · obtain rfl : i = s.size := by omega
      go_wp2
      go_ret
      exact ⟨by rw [wordL_yes (fun j b hj hb => HA.out j b (by rw [← hlen]; exact hj) hb)]; rfl, rfl⟩
end Go.Proofs.YtfjphhmbnhglcaaGreatDoor
