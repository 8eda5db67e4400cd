/-
  The law on Decode, Runes and String, there and back, walked: it hands back true. Conditions: the library's two tables hold what its text lays.
-/
import Derived.Test.YtcafejjejcchlaaDoorULawP
namespace Go.Proofs.YtcafejjejcchlaaDoor
open Go.RowKit Go.RunKit Go.UtfKit Go.Lib Go.Shelf

theorem string_reads (a : Option Addr) (cap : Nat) (l : List Int) (w : World) (hc : Reads w a l) (hnil : a = none → l = [] ∧ cap = 0) :
    Calls Tryd.prog 11 #[.slice a l.length cap] w fun e w' => e = .returned (.string ⟨(textOf l).toArray⟩) ∧ w = w' := by
  cases a with
  | none =>
    obtain ⟨rfl, rfl⟩ := hnil rfl
    exact string_row 0 (.slice none 0 0) [] w (World.ownsRow_nil _ _ _ _)
  | some x =>
    have := string_any x cap l w (fun j hj => by
      obtain ⟨ad, e, h⟩ := hc j l[j] (List.getElem?_eq_getElem hj)
      cases e
      rw [h]; simp [List.getD, hj])
    rwa [runesBytes_eq] at this
theorem reads_of_row {w : World} {base : Nat} {a : Option Addr} {n cap : Nat} {zs : List Int} (h : w.ownsRow base 21 1 (.slice a n cap) n (intCells zs)) : Reads w a zs := by
  intro j z hz
  rcases h.2 with ⟨_, e⟩ | ⟨g, cap3, cur, e, _⟩
  · have := h.1
    subst e
    have h0 : zs = [] := List.length_eq_zero_iff.1 (by simpa [intCells] using this)
    rw [h0] at hz; simp at hz
  · cases e
    exact ⟨_, rfl, h.cells rfl j (.int .i32 z) (by simp [intCells, hz])⟩
theorem charCells_ints (d : List Part) : charCells d = intCells (d.map fun p => ((p.char : Nat) : Int)) := by simp [charCells, intCells]

/-- String of Runes. -/
theorem runes_string (t : ByteArray) (w : World) (ht : Tabs w) (hs : t.size ≤ 300000) (hb : (⟨(textOf ((UtfKit.parts t).map fun p => ((p.char : Nat) : Int))).toArray⟩ : ByteArray) = t) :
    Calls Tryd.prog 12 #[.string t] w fun e w' => ∃ v, e = .returned v ∧ Below w.heap.size w w' ∧ Calls Tryd.prog 11 #[v] w' fun e w'' => e = .returned (.string t) ∧ w' = w'' := by
  refine (runes_any t w ht (by omega)).mono ?_
  rintro e w' ⟨v, rfl, hown, hbl⟩
  refine ⟨v, rfl, hbl, ?_⟩
  rw [charCells_ints] at hown
  have h := string_row w.heap.size v ((UtfKit.parts t).map fun p => ((p.char : Nat) : Int)) w' (by rw [List.length_map]; exact hown)
  rwa [hb] at h
/-- Runes of a text of characters. -/
theorem runes_text (l : List Int) (w : World) (ht : Tabs w) (hs : l.length ≤ 20000) :
    Calls Tryd.prog 12 #[.string ⟨(textOf l).toArray⟩] w fun e w' => ∃ a cap, e = .returned (.slice a l.length cap) ∧ Below w.heap.size w w' ∧ Reads w' a (l.map fun z => ((clean z : Nat) : Int)) := by
  have hl := textOf_len l
  refine (runes_any ⟨(textOf l).toArray⟩ w ht (by simp [ByteArray.size]; omega)).mono ?_
  rintro e w' ⟨v, rfl, hown, hbl⟩
  rw [charCells_ints, parts_textOf, List.map_map, List.length_map] at hown
  obtain ⟨a, cap, rfl⟩ := slice_of hown
  exact ⟨a, cap, rfl, hbl, reads_of_row hown⟩

set_option maxRecDepth 100000 in
set_option maxHeartbeats 4000000 in
theorem lawBack (a : Option Addr) (n cap : Nat) (s : ByteArray) (x : Option Addr) (capx : Nat) (l : List Int) (w : World) (ht : Tabs w) (hs : BytesAt w a n cap s) (hr : ∀ z ∈ l, -2147483648 ≤ z ∧ z ≤ 2147483647) (hc : Reads w x l) (hnil : x = none → l = [] ∧ capx = 0) :
    Calls Tryd.prog 4 #[.slice a n cap, .slice x l.length capx] w fun e w' => e = .returned (.bool true) ∧ Below w.heap.size w w' := by
  have HW : Hid (∀ w1, Below w.heap.size w w1 → Calls Tryd.prog 7 #[] w1 fun e w' => e = .returned (.bool true) ∧ Below w.heap.size w w') := Lib.hid (fun w1 hb => from_base hb (works_any w1 (ht.on hb)))
  have HT := Lib.hid ht
  have HS := Lib.hid hs
  have HC := Lib.hid hc
  have HN := Lib.hid hnil
  have HR := Lib.hid hr
  clear ht hs hc hnil hr
  by_cases hbig : 60000 < n
  · have hI : (60000 : Int) < n := by omega
    go_enter Tryd.func4, Tryd.ntmps4
    go_wp2_with (go_at_call 7; refine (HW.out _ (Below.refl _ _)).mono ?_; rintro e w' ⟨rfl, hb⟩)
    go_ret
    exact ⟨rfl, hb⟩
  have hI := eq_false (show ¬ (60000 : Int) < n by omega)
  by_cases hbig2 : 20000 < l.length
  · have hI2 : (20000 : Int) < l.length := by omega
    go_enter Tryd.func4, Tryd.ntmps4
    go_wp2_with (go_at_call 7; refine (HW.out _ (Below.refl _ _)).mono ?_; rintro e w' ⟨rfl, hb⟩)
    go_ret
    exact ⟨rfl, hb⟩
  have hI2 := eq_false (show ¬ (20000 : Int) < l.length by omega)
  have hsz := HS.out.size
  have HD : Hid (Calls Tryd.prog 8 #[.slice a n cap] w fun e w' => e = .returned (.tuple #[.string (decText s), .int .i64 0]) ∧ Below w.heap.size w w') := Lib.hid (by
    have h := decode_told HS.out HT.out
    have e : decErr s = 0 := by unfold decErr; rw [if_pos (by omega)]
    rwa [e] at h)
  obtain ⟨zs, hp, hzl⟩ := decText_plain s (by omega)
  have hts := hp.size
  generalize decText s = t at *
  have HE : Hid (∀ w1, Below w.heap.size w w1 → Calls Tryd.prog 10 #[.string t] w1 fun e w' => e = .returned (.bool true) ∧ Below w1.heap.size w1 w') := Lib.hid (fun w1 _ => by
    have h := refWell_any t w1 (by omega)
    rwa [hp.well] at h)
  have HM := Lib.hid (fun (h : t.size ≤ 65536) (w1 : World) (hb : Below w.heap.size w w1) => decode_made t _ rfl w1 (HT.out.on hb) h)
  have HRS := Lib.hid (fun (w1 : World) (hb : Below w.heap.size w w1) => runes_string t w1 (HT.out.on hb) (by omega) hp.back)
  have HK := Lib.hid (fun (w1 : World) (hb : Below w.heap.size w w1) => string_reads x capx l w1 (HC.out.on hb) HN.out)
  have HU := Lib.hid (fun (w1 : World) (hb : Below w.heap.size w w1) => runes_text l w1 (HT.out.on hb) (by omega))
  generalize (⟨(textOf l).toArray⟩ : ByteArray) = u at *
  have HP := Lib.hid hp
  have htb : t.size ≤ 240000 := by omega
  clear hp hsz HS hzl HN hts
  go_enter Tryd.func4, Tryd.ntmps4
  go_wp2_with (first
    | (go_at_call 8; refine HD.out.mono ?_; rintro e w1 ⟨rfl, hb1⟩; clear HD; have HB1 := Lib.hid hb1; clear hb1)
    | (go_at_call 10; refine (HE.out _ HB1.out).mono ?_; rintro e w2 ⟨rfl, hb2⟩; have HB2 := Lib.hid (HB1.out.trans (hb2.mono HB1.out.size)); clear hb2))
  go_loop [7] (fun i => ∃ k : Nat, k ≤ t.size ∧ i = .int .i64 k) (fun i => t.size - (RowKit.intOf i).toNat)
  case atStart => exact ⟨0, Nat.zero_le _, rfl⟩
  case round =>
    obtain ⟨k, hk, rfl⟩ := hrel
    by_cases hlt : k < t.size
    · have hltI : (k : Int) < t.size := by omega
      have hne : ¬ (((t[k]'hlt).toNat : Nat) : Int) = 13 := by
        have := HP.out.no_cr k hlt
        rw [byteAt_get t k hlt] at this
        omega
      go_wp2
      exact ⟨⟨k + 1, by omega, by go_num⟩, by simp [RowKit.intOf]; omega⟩
    · have hltI := eq_false (show ¬ (k : Int) < t.size by omega)
      clear HE
      by_cases hT : t.size ≤ 65536
      · have hTI : (t.size : Int) ≤ 65536 := by omega
        obtain ⟨gc, w3, cv, hb3, dT⟩ := HM.out hT _ HB2.out
        rw [HP.out.again hT] at dT
        have HB3' := Lib.hid (HB2.out.trans (hb3.mono HB2.out.size))
        clear hb3
        clear HB2
        go_wp2_with (first
          | (go_at_call 8; refine dT.mono ?_; rintro e w3b ⟨rfl, hb3⟩; clear dT cv; have HB3 := Lib.hid (HB3'.out.trans (hb3.mono HB3'.out.size)); clear hb3 HB3')
          | (go_at_call 12; refine (HRS.out _ HB3.out).mono ?_; rintro e w4 ⟨v, rfl, hb4, hstr⟩; clear HRS; have HB4 := Lib.hid (HB3.out.trans (hb4.mono HB3.out.size)); clear hb4)
          | (go_at_call 11; refine hstr.mono ?_; rintro e w5 ⟨rfl, rfl⟩; clear hstr)
          | (go_at_call 11; refine (HK.out _ HB4.out).mono ?_; rintro e w6 ⟨rfl, rfl⟩; clear HK)
          | (go_at_call 12; refine (HU.out _ HB4.out).mono ?_; rintro e w7 ⟨ak, capk, rfl, hb7, hk⟩; clear HU; have HB7 := Lib.hid (HB4.out.trans (hb7.mono HB4.out.size)); clear hb7))
        have HY : Hid (Reads w7 ak (l.map fun z => ((clean z : Nat) : Int)) ∧ Reads w7 x l) := Lib.hid ⟨hk, HC.out.on HB7.out⟩
        clear hk HB4 HB3
        go_loopw [11] (fun i wr => ∃ (q m : Nat), q ≤ l.length ∧ i = .int .i64 q ∧ wr = w7.drewN m) (fun i _ => l.length - (RowKit.intOf i).toNat)
        case atStart => exact ⟨0, 0, Nat.zero_le _, rfl, rfl⟩
        case round =>
          obtain ⟨q, m, hq, rfl, rfl⟩ := hrel
          by_cases hqn : q < l.length
          · obtain ⟨z, hz⟩ := some_at rfl hqn
            obtain ⟨ad2, e2, h2⟩ := HY.out.2 q z hz
            obtain ⟨ad1, e1, h1⟩ := HY.out.1 q ((clean z : Nat) : Int) (by rw [List.getElem?_map, hz]; rfl)
            cases e1
            cases e2
            have hqI : (q : Int) < l.length := by omega
            have hzr := HR.out z (List.mem_of_getElem? hz)
            clear hz
            by_cases z0 : z < 0
            · have hcl : clean z = 65533 := by unfold clean; rw [if_pos (by omega)]
              rw [hcl] at h1
              clear hcl
              go_wp2
              exact ⟨⟨q + 1, _, by omega, by go_num, rfl⟩, by simp [RowKit.intOf]; omega⟩
            have z0F := eq_false z0
            by_cases z1 : 1114111 < z
            · have hcl : clean z = 65533 := by unfold clean; rw [if_pos (by omega)]
              rw [hcl] at h1
              clear hcl
              go_wp2
              exact ⟨⟨q + 1, _, by omega, by go_num, rfl⟩, by simp [RowKit.intOf]; omega⟩
            have z1F := eq_false z1
            by_cases z2 : 55296 ≤ z
            · by_cases z3 : z ≤ 57343
              · have hcl : clean z = 65533 := by unfold clean; rw [if_pos (by omega)]
                rw [hcl] at h1
                clear hcl
                go_wp2
                exact ⟨⟨q + 1, _, by omega, by go_num, rfl⟩, by simp [RowKit.intOf]; omega⟩
              · have z3F := eq_false z3
                have hcl : ((clean z : Nat) : Int) = z := by unfold clean; rw [if_neg (by omega)]; omega
                rw [hcl] at h1
                clear hcl
                go_wp2
                exact ⟨⟨q + 1, _, by omega, by go_num, rfl⟩, by simp [RowKit.intOf]; omega⟩
            · have z2F := eq_false z2
              have hcl : ((clean z : Nat) : Int) = z := by unfold clean; rw [if_neg (by omega)]; omega
              rw [hcl] at h1
              clear hcl
              go_wp2
              exact ⟨⟨q + 1, _, by omega, by go_num, rfl⟩, by simp [RowKit.intOf]; omega⟩
          · have hqI := eq_false (show ¬ (q : Int) < l.length by omega)
            go_wp2_with (go_at_call 7; refine (HW.out _ (below_drewN HB7.out _)).mono ?_; rintro e w' ⟨rfl, hb3⟩)
            go_ret
            exact ⟨rfl, hb3⟩
      · have hTI := eq_false (show ¬ (t.size : Int) ≤ 65536 by omega)
        have HB3 := HB2
        clear HB2
        go_wp2_with (first
          | (go_at_call 12; refine (HRS.out _ HB3.out).mono ?_; rintro e w4 ⟨v, rfl, hb4, hstr⟩; clear HRS; have HB4 := Lib.hid (HB3.out.trans (hb4.mono HB3.out.size)); clear hb4)
          | (go_at_call 11; refine hstr.mono ?_; rintro e w5 ⟨rfl, rfl⟩; clear hstr)
          | (go_at_call 11; refine (HK.out _ HB4.out).mono ?_; rintro e w6 ⟨rfl, rfl⟩; clear HK)
          | (go_at_call 12; refine (HU.out _ HB4.out).mono ?_; rintro e w7 ⟨ak, capk, rfl, hb7, hk⟩; clear HU; have HB7 := Lib.hid (HB4.out.trans (hb7.mono HB4.out.size)); clear hb7))
        have HY : Hid (Reads w7 ak (l.map fun z => ((clean z : Nat) : Int)) ∧ Reads w7 x l) := Lib.hid ⟨hk, HC.out.on HB7.out⟩
        clear hk HB4 HB3
        go_loopw [11] (fun i wr => ∃ (q m : Nat), q ≤ l.length ∧ i = .int .i64 q ∧ wr = w7.drewN m) (fun i _ => l.length - (RowKit.intOf i).toNat)
        case atStart => exact ⟨0, 0, Nat.zero_le _, rfl, rfl⟩
        case round =>
          obtain ⟨q, m, hq, rfl, rfl⟩ := hrel
          by_cases hqn : q < l.length
          · obtain ⟨z, hz⟩ := some_at rfl hqn
            obtain ⟨ad2, e2, h2⟩ := HY.out.2 q z hz
            obtain ⟨ad1, e1, h1⟩ := HY.out.1 q ((clean z : Nat) : Int) (by rw [List.getElem?_map, hz]; rfl)
            cases e1
            cases e2
            have hqI : (q : Int) < l.length := by omega
            have hzr := HR.out z (List.mem_of_getElem? hz)
            clear hz
            by_cases z0 : z < 0
            · have hcl : clean z = 65533 := by unfold clean; rw [if_pos (by omega)]
              rw [hcl] at h1
              clear hcl
              go_wp2
              exact ⟨⟨q + 1, _, by omega, by go_num, rfl⟩, by simp [RowKit.intOf]; omega⟩
            have z0F := eq_false z0
            by_cases z1 : 1114111 < z
            · have hcl : clean z = 65533 := by unfold clean; rw [if_pos (by omega)]
              rw [hcl] at h1
              clear hcl
              go_wp2
              exact ⟨⟨q + 1, _, by omega, by go_num, rfl⟩, by simp [RowKit.intOf]; omega⟩
            have z1F := eq_false z1
            by_cases z2 : 55296 ≤ z
            · by_cases z3 : z ≤ 57343
              · have hcl : clean z = 65533 := by unfold clean; rw [if_pos (by omega)]
                rw [hcl] at h1
                clear hcl
                go_wp2
                exact ⟨⟨q + 1, _, by omega, by go_num, rfl⟩, by simp [RowKit.intOf]; omega⟩
              · have z3F := eq_false z3
                have hcl : ((clean z : Nat) : Int) = z := by unfold clean; rw [if_neg (by omega)]; omega
                rw [hcl] at h1
                clear hcl
                go_wp2
                exact ⟨⟨q + 1, _, by omega, by go_num, rfl⟩, by simp [RowKit.intOf]; omega⟩
            · have z2F := eq_false z2
              have hcl : ((clean z : Nat) : Int) = z := by unfold clean; rw [if_neg (by omega)]; omega
              rw [hcl] at h1
              clear hcl
              go_wp2
              exact ⟨⟨q + 1, _, by omega, by go_num, rfl⟩, by simp [RowKit.intOf]; omega⟩
          · have hqI := eq_false (show ¬ (q : Int) < l.length by omega)
            go_wp2_with (go_at_call 7; refine (HW.out _ (below_drewN HB7.out _)).mono ?_; rintro e w' ⟨rfl, hb3⟩)
            go_ret
            exact ⟨rfl, hb3⟩
end Go.Proofs.YtcafejjejcchlaaDoor
