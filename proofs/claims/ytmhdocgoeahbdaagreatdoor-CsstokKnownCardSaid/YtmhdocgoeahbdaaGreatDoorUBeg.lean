/-
  How far the beginning of an ill-formed part goes: beginningLen of utf. Conditions: the library's two tables hold what its text lays.
-/
import Derived.Test.YtmhdocgoeahbdaaGreatDoorUFull
namespace Go.Proofs.YtmhdocgoeahbdaaGreatDoor.U
open Go.RowKit Go.RunKit Go.UtfKit Go.Lib

theorem from_base {P : Program} {f : FuncId} {args : Array Value} {w0 w : World} {v : Ending} (hb : Below w0.heap.size w0 w) (h : Calls P f args w fun e w' => e = v ∧ Below w.heap.size w w') :
    Calls P f args w fun e w' => e = v ∧ Below w0.heap.size w0 w' := h.mono fun _ _ h => ⟨h.1, hb.trans (h.2.mono hb.size)⟩

set_option maxRecDepth 100000 in
set_option maxHeartbeats 2000000 in
theorem full_small (s : ByteArray) (w : World) (hs : 0 < s.size) (b0 x : Nat) (e0 : (s[0]'hs).toNat = b0) (hb0 : b0 < 256) (hc : w.cell? ⟨0, b0, none⟩ = some (.int .u8 (x : Nat))) (hx : x = 240 ∨ x = 241) :
    Calls Tryz.prog 104 #[.string s] w fun e w' => e = .returned (.bool true) ∧ Below w.heap.size w w' := by
  have hb := Below.refl w.heap.size w
  have hn1 : s.size ≠ 0 := by omega
  have hnI : (1 : Int) ≤ s.size := by omega
  have hnJ : (0 : Int) ≤ s.size := by omega
  rcases hx with rfl | rfl
  all_goals
    go_enter Tryz.func104, Tryz.ntmps104
    go_wp2
    go_ret
    exact ⟨rfl, hb⟩

theorem fullT_eq {n sz lo hi b0 b1 b2 : Nat} (hn : 0 < n) (hz : sizeT b0 = sz) (hsec : sec b0 b1 = decide (lo ≤ b1 ∧ b1 ≤ hi)) : fullT n sz lo hi b1 b2 = fullN n b0 b1 b2 := by
  unfold fullT fullN
  rw [hsec, hz]
  have e1 : (!decide (lo ≤ b1 ∧ b1 ≤ hi)) = (decide (b1 < lo) || decide (hi < b1)) := by
    by_cases h1 : b1 < lo
    · simp [h1]
    · by_cases h2 : hi < b1
      · simp [h2]
      · simp [h1, h2]; omega
  have e2 : (!tailB b2) = (decide (b2 < 128) || decide (191 < b2)) := by
    unfold tailB
    by_cases h1 : b2 < 128
    · simp [h1]
    · by_cases h2 : 191 < b2
      · simp [h2]
      · simp [h1, h2]; omega
  rw [e1, e2]
  simp [hn]

theorem full_any (s : ByteArray) (w : World) (hw : Tabs w) (hs : 0 < s.size) :
    Calls Tryz.prog 104 #[.string s] w fun e w' => e = .returned (.bool (fullN s.size (byteAt s 0) (byteAt s 1) (byteAt s 2))) ∧ Below w.heap.size w w' := by
  have e0 := (byteAt_get s 0 hs).symm
  have hlt := byteAt_lt s 0
  generalize byteAt s 0 = b0 at *
  have hc := hw.first b0 hlt
  have hsmall : sizeT b0 ≤ 1 → fullN s.size b0 (byteAt s 1) (byteAt s 2) = true := fun h => by
    have : sizeT b0 ≤ s.size := by omega
    simp [fullN, hs, this]
  by_cases c1 : b0 < 128
  · rw [hsmall (by simp [sizeT, c1])]
    exact full_small s w hs b0 _ e0 hlt hc (.inl (by simp [firstT, c1]))
  by_cases c2 : b0 < 194
  · rw [hsmall (by simp [sizeT, c1, c2])]
    exact full_small s w hs b0 _ e0 hlt hc (.inr (by simp [firstT, c1, c2]))
  by_cases c3 : b0 < 224
  · rw [← fullT_eq (lo := 128) (hi := 191) hs (show sizeT b0 = 2 by simp [sizeT, c1, c2, c3]) (by unfold sec; rw [if_neg (by omega), if_neg (by omega), if_neg (by omega), if_neg (by omega)])]
    exact full_multi s w hs b0 _ 2 128 191 0 e0 hc (.inl ⟨by simp [firstT, c1, c2, c3], rfl, rfl⟩) hlt (hw.lo 0 (by omega)) (hw.hi 0 (by omega))
  by_cases c4 : b0 = 224
  · subst c4
    rw [← fullT_eq (lo := 160) (hi := 191) hs (show sizeT 224 = 3 by rfl) rfl]
    exact full_multi s w hs 224 _ 3 160 191 1 e0 hc (.inr (.inr (.inl ⟨rfl, rfl, rfl⟩))) hlt (hw.lo 1 (by omega)) (hw.hi 1 (by omega))
  by_cases c5 : b0 = 237
  · subst c5
    rw [← fullT_eq (lo := 128) (hi := 159) hs (show sizeT 237 = 3 by rfl) rfl]
    exact full_multi s w hs 237 _ 3 128 159 2 e0 hc (.inr (.inr (.inr (.inl ⟨rfl, rfl, rfl⟩)))) hlt (hw.lo 2 (by omega)) (hw.hi 2 (by omega))
  by_cases c6 : b0 < 240
  · rw [← fullT_eq (lo := 128) (hi := 191) hs (show sizeT b0 = 3 by simp [sizeT, c1, c2, c3, c6]) (by unfold sec; rw [if_neg (by omega), if_neg (by omega), if_neg (by omega), if_neg (by omega)])]
    refine full_multi s w hs b0 _ 3 128 191 0 e0 hc (.inr (.inl ⟨?_, rfl, rfl⟩)) hlt (hw.lo 0 (by omega)) (hw.hi 0 (by omega))
    by_cases h : b0 < 237
    · simp [firstT, c1, c2, c3, c4, h]
    · simp [firstT, c1, c2, c3, c4, c5, h, c6]
  by_cases c7 : b0 = 240
  · subst c7
    rw [← fullT_eq (lo := 144) (hi := 191) hs (show sizeT 240 = 4 by rfl) rfl]
    exact full_multi s w hs 240 _ 4 144 191 3 e0 hc (.inr (.inr (.inr (.inr (.inr (.inl ⟨rfl, rfl, rfl⟩)))))) hlt (hw.lo 3 (by omega)) (hw.hi 3 (by omega))
  by_cases c8 : b0 = 244
  · subst c8
    rw [← fullT_eq (lo := 128) (hi := 143) hs (show sizeT 244 = 4 by rfl) rfl]
    exact full_multi s w hs 244 _ 4 128 143 4 e0 hc (.inr (.inr (.inr (.inr (.inr (.inr ⟨rfl, rfl, rfl⟩)))))) hlt (hw.lo 4 (by omega)) (hw.hi 4 (by omega))
  by_cases c9 : b0 < 244
  · rw [← fullT_eq (lo := 128) (hi := 191) hs (show sizeT b0 = 4 by simp only [sizeT]; rw [if_neg c1, if_neg c2, if_neg c3, if_neg c6, if_pos (by omega)]) (by unfold sec; rw [if_neg (by omega), if_neg (by omega), if_neg (by omega), if_neg (by omega)])]
    refine full_multi s w hs b0 _ 4 128 191 0 e0 hc (.inr (.inr (.inr (.inr (.inl ⟨?_, rfl, rfl⟩))))) hlt (hw.lo 0 (by omega)) (hw.hi 0 (by omega))
    simp only [firstT]
    rw [if_neg c1, if_neg c2, if_neg c3, if_neg c4, if_neg (by omega), if_neg c5, if_neg c6, if_neg c7, if_pos c9]
  · rw [hsmall (by simp only [sizeT]; rw [if_neg c1, if_neg c2, if_neg c3, if_neg c6, if_neg (by omega)]; omega)]
    refine full_small s w hs b0 _ e0 hlt hc (.inr ?_)
    simp only [firstT]
    rw [if_neg c1, if_neg c2, if_neg c3, if_neg c4, if_neg (by omega), if_neg c5, if_neg c6, if_neg c7, if_neg c9, if_neg c8]

theorem byteAt_take (s : ByteArray) (k i : Nat) (hk : k ≤ s.size) (hi : i < k) : byteAt (s.extract 0 k) i = byteAt s i := by
  have h1 : i < (s.extract 0 k).size := by simp; omega
  rw [byteAt_get _ _ h1, byteAt_get s i (by omega)]
  congr 1
  simp [ByteArray.getElem_extract]

theorem fullN_two (b0 b1 b2 : Nat) : fullN 2 b0 b1 b2 = fullN 2 b0 b1 0 := by simp [fullN]
theorem fullN_four (b0 b1 b2 : Nat) : fullN 4 b0 b1 b2 = true := by
  have : sizeT b0 ≤ 4 := by unfold sizeT; repeat' split
                            all_goals omega
  simp [fullN, this]

/-- One more byte is looked at. -/
theorem full_take (s : ByteArray) (w : World) (hw : Tabs w) (k : Nat) (hk : k + 1 ≤ s.size) :
    Calls Tryz.prog 104 #[.string (s.extract 0 (k + 1))] w fun e w' => e = .returned (.bool (fullN (k + 1) (byteAt s 0) (byteAt (s.extract 0 (k + 1)) 1) (byteAt (s.extract 0 (k + 1)) 2))) ∧ Below w.heap.size w w' := by
  have h := full_any (s.extract 0 (k + 1)) w hw (by simp; omega)
  rw [byteAt_take s (k + 1) 0 hk (by omega)] at h
  have hz : (s.extract 0 (k + 1)).size = k + 1 := by simp; omega
  rwa [hz] at h

/-- So far the bytes looked at begin no whole part. -/
def Open (s : ByteArray) (k : Nat) : Prop := (2 ≤ k → 1 < s.size ∧ fullN 2 (byteAt s 0) (byteAt s 1) 0 = false) ∧ (3 ≤ k → 2 < s.size ∧ fullN 3 (byteAt s 0) (byteAt s 1) (byteAt s 2) = false)
theorem take_full (s : ByteArray) (k : Nat) (hk1 : 1 ≤ k) (hk3 : k ≤ 3) (hk : k + 1 ≤ s.size) : fullN (k + 1) (byteAt s 0) (byteAt (s.extract 0 (k + 1)) 1) (byteAt (s.extract 0 (k + 1)) 2) =
    if k = 1 then fullN 2 (byteAt s 0) (byteAt s 1) 0 else if k = 2 then fullN 3 (byteAt s 0) (byteAt s 1) (byteAt s 2) else true := by
  rw [byteAt_take s (k + 1) 1 hk (by omega)]
  by_cases h1 : k = 1
  · subst h1; rw [fullN_two]; rfl
  · rw [if_neg h1]
    rw [byteAt_take s (k + 1) 2 hk (by omega)]
    by_cases h2 : k = 2
    · subst h2; rfl
    · obtain rfl : k = 3 := by omega
      exact fullN_four _ _ _
theorem open_on {s : ByteArray} {k : Nat} (hk1 : 1 ≤ k) (hk3 : k ≤ 3) (hk : k + 1 ≤ s.size) (h : Open s k) (hf : fullN (k + 1) (byteAt s 0) (byteAt (s.extract 0 (k + 1)) 1) (byteAt (s.extract 0 (k + 1)) 2) = false) : k + 1 ≤ 3 ∧ Open s (k + 1) := by
  rw [take_full s k hk1 hk3 hk] at hf
  by_cases h1 : k = 1
  · subst h1; exact ⟨by omega, fun _ => ⟨by omega, by simpa using hf⟩, fun h => by omega⟩
  · by_cases h2 : k = 2
    · subst h2; exact ⟨by omega, fun _ => h.1 (by omega), fun _ => ⟨by omega, by simpa using hf⟩⟩
    · simp [h1, h2] at hf
theorem open_stop {s : ByteArray} {k : Nat} (hk1 : 1 ≤ k) (hk3 : k ≤ 3) (hk : k ≤ s.size) (h : Open s k) (hf : k = s.size ∨ (k + 1 ≤ s.size ∧ fullN (k + 1) (byteAt s 0) (byteAt (s.extract 0 (k + 1)) 1) (byteAt (s.extract 0 (k + 1)) 2) = true)) :
    begN s.size (byteAt s 0) (byteAt s 1) (byteAt s 2) = k := by
  unfold begN
  by_cases h1 : k = 1
  · subst h1
    rw [if_neg]
    rintro ⟨a, b⟩
    rcases hf with e | ⟨e, hf⟩
    · omega
    · rw [take_full s 1 hk1 hk3 e, if_pos rfl, b] at hf; cases hf
  · by_cases h2 : k = 2
    · subst h2
      rw [if_pos (h.1 (by omega)), if_neg]
      rintro ⟨a, b⟩
      rcases hf with e | ⟨e, hf⟩
      · omega
      · rw [take_full s 2 hk1 hk3 e, if_neg (by omega), if_pos rfl, b] at hf; cases hf
    · obtain rfl : k = 3 := by omega
      rw [if_pos (h.1 (by omega)), if_pos (h.2 (by omega))]

set_option maxRecDepth 100000 in
set_option maxHeartbeats 2000000 in
theorem beg_any (s : ByteArray) (w : World) (hw : Tabs w) (hs : 0 < s.size) :
    Calls Tryz.prog 93 #[.string s] w fun e w' => e = .returned (.int .i64 (begN s.size (byteAt s 0) (byteAt s 1) (byteAt s 2) : Nat)) ∧ Below w.heap.size w w' := by
  have hb := Below.refl w.heap.size w
  have HW := Lib.hid hw
  clear hw
  go_enter Tryz.func93, Tryz.ntmps93
  go_wp2
  go_loopw [3] (fun i wr => ∃ k : Nat, 1 ≤ k ∧ k ≤ 3 ∧ k ≤ s.size ∧ i = .int .i64 k ∧ Below w.heap.size w wr ∧ Hid (Open s k)) (fun i _ => 4 - (RowKit.intOf i).toNat)
  case atStart => exact ⟨1, by omega, by omega, by omega, rfl, hb, Lib.hid ⟨fun h => by omega, fun h => by omega⟩⟩
  case round =>
    clear hb
    obtain ⟨k, hk1, hk3, hks, rfl, hb, HI⟩ := hrel
    by_cases hlt : k < s.size
    · have HC := Lib.hid (full_take s wr (HW.out.on hb) k (by omega))
      generalize hv : fullN (k + 1) (byteAt s 0) (byteAt (s.extract 0 (k + 1)) 1) (byteAt (s.extract 0 (k + 1)) 2) = v at HC
      cases v with
      | true =>
        have HV := Lib.hid hv
        clear hv
        go_wp2_with (go_at_call 104; refine (from_base hb HC.out).mono ?_; rintro e w' ⟨rfl, hb'⟩)
        have e := open_stop hk1 hk3 hks HI.out (.inr ⟨by omega, HV.out⟩)
        go_ret
        rw [e]
        exact ⟨rfl, hb'⟩
      | false =>
        have HV := Lib.hid hv
        clear hv
        go_wp2_with (go_at_call 104; refine (from_base hb HC.out).mono ?_; rintro e w' ⟨rfl, hb'⟩)
        have e := open_on hk1 hk3 (by omega) HI.out HV.out
        exact ⟨⟨k + 1, by omega, e.1, by omega, by go_num, hb', Lib.hid e.2⟩, by simp [RowKit.intOf]; omega⟩
    · have e := open_stop hk1 hk3 hks HI.out (.inl (by omega))
      go_wp2
      go_ret
      rw [e]
      exact ⟨rfl, hb⟩
end Go.Proofs.YtmhdocgoeahbdaaGreatDoor.U

