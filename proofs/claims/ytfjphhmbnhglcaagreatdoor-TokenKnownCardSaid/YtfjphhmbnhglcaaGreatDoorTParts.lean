/-
  What follows a tag is read as if it stood alone: the law. Conditions: the library's variable MaxLen holds a number.
-/
import Derived.Test.YtfjphhmbnhglcaaGreatDoorTRight
import Derived.Test.YtfjphhmbnhglcaaGreatDoorTSame
import Derived.Sort.AtCall
import Derived.Deep.DeepCutAuto
namespace Go.TokenKit
open Go Go.Lib Go.CharrefKit
theorem toks_place : ∀ (n : Nat) (l : Bytes) (p : Nat) (x : Nat × Nat), l.length ≤ n → toksAt p l = .error x → x.2 ≤ p + l.length
  | n, [], p, x, _, h => by rw [toksAt_nil] at h; cases h
  | n, c :: l, p, x, hn, h => by
    rw [toksAt_step p (by simp)] at h
    split at h
    · cases h; exact Nat.le_add_right _ _
    · rename_i t r h1
      have hlen := one_len (by simp) h1
      cases n with
      | zero => simp at hn
      | succ n =>
        simp only [List.length_cons] at hlen hn ⊢
        split at h
        · rename_i y hy
          cases h
          have := toks_place n r _ _ (by omega) hy
          simp only [List.length_cons] at this
          omega
        · cases h
theorem answer_place {l : Bytes} {ts : List Tok} {e p : Nat} (h : answerL l = (ts, e, p)) : p ≤ l.length := by
  unfold answerL at h
  split at h
  · cases h; exact Nat.zero_le _
  · split at h
    · cases h
      have := before_len [0] l
      omega
    · split at h
      · rename_i x y hy
        cases h
        have := toks_place _ l 0 _ (Nat.le_refl _) hy
        simpa using this
      · cases h; exact Nat.zero_le _
end Go.TokenKit
namespace Go.Proofs.YtfjphhmbnhglcaaGreatDoor
open Go.RowKit Go.RunKit Go.CharrefKit Go.Lib Go.TokenKit

theorem right_at {ao : Option Addr} {cap n : Nat} {L : List (Tok × Value)} {ts : List Tok} (hm : L.map (·.1) = ts) (hn : ts.length = n) (h16 : n ≤ 65536) {w : World} (hF : FullReads w ao L) (hR : RightL ts) (hN : ∀ t, t ∈ ts → t.name.length ≤ 65536) :
    Calls Tryz.prog 41 #[.slice ao n cap] w fun e w' => e = .returned (.bool true) ∧ Below w.heap.size w w' := by
  subst hm
  have hl : L.length = n := by rw [← hn, List.length_map]
  subst hl
  exact right_any ao cap L h16 w hF hR hN

/-- Two tokens side by side in blocks of their own: they are the same. -/
structure PairAt (w0 : World) (b1 kd cx cy : Nat) (bx bz : Option Addr) (nb db : ByteArray) (sf : Bool) (ats : List At) (w2 : World) : Prop where
  below : Below w0.heap.size w0 w2
  one : Loc5 w2 b1 (.int .u8 ((kd : Nat) : Int)) (.string nb) (.slice bx ats.length cx) (.bool sf) (.string db)
  two : Loc5 w2 (b1 + 1) (.int .u8 ((kd : Nat) : Int)) (.string nb) (.slice bz ats.length cy) (.bool sf) (.string db)
  r1 : AtReads w2 bx ats
  r2 : AtReads w2 bz ats
theorem pair_new {w0 wr : World} (hD : Below w0.heap.size w0 wr) {kd cx cy : Nat} {bx bz : Option Addr} {nb db : ByteArray} {sf : Bool} {ats : List At} {T : TypeId} (hx : AtReads wr bx ats) (hy : AtReads wr bz ats) :
    PairAt w0 wr.heap.size kd cx cy bx bz nb db sf ats ((wr.alloc (.cells #[.int .u8 ((kd : Nat) : Int), .string nb, .slice bx ats.length cx, .bool sf, .string db] T)).alloc (.cells #[.int .u8 ((kd : Nat) : Int), .string nb, .slice bz ats.length cy, .bool sf, .string db] T)) := by
  have hs : (wr.alloc (.cells #[.int .u8 ((kd : Nat) : Int), .string nb, .slice bx ats.length cx, .bool sf, .string db] T)).heap.size = wr.heap.size + 1 := by simp
  have h1 := (Below.refl _ (wr.alloc (.cells #[.int .u8 ((kd : Nat) : Int), .string nb, .slice bx ats.length cx, .bool sf, .string db] T))).alloc (Nat.le_refl _) (.cells #[.int .u8 ((kd : Nat) : Int), .string nb, .slice bz ats.length cy, .bool sf, .string db] T)
  have h0 := ((Below.refl wr.heap.size wr).alloc (Nat.le_refl _) (.cells #[.int .u8 ((kd : Nat) : Int), .string nb, .slice bx ats.length cx, .bool sf, .string db] T)).trans (h1.mono (by rw [hs]; exact Nat.le_succ _))
  have hn := loc5_new (wr.alloc (.cells #[.int .u8 ((kd : Nat) : Int), .string nb, .slice bx ats.length cx, .bool sf, .string db] T)) (.int .u8 ((kd : Nat) : Int)) (.string nb) (.slice bz ats.length cy) (.bool sf) (.string db) T
  rw [hs] at hn
  exact ⟨hD.trans (h0.mono hD.size), (loc5_new wr _ _ _ _ _ T).on h1, hn, hx.on h0, hy.on h0⟩

set_option maxRecDepth 100000 in
set_option maxHeartbeats 8000000 in
theorem lawParts (a b : ByteArray) (w : World) (hM : Maxed w w.heap.size) : Calls Tryz.prog 17 #[.string a, .string b] w fun e w' => e = .returned (.bool true) ∧ Below w.heap.size w w' := by
  have HW := Lib.hid fun w1 (hb : Below w.heap.size w w1) => works_any w1 (maxed_on hM hb)
  by_cases hA : 2000 < a.size
  · have hI : (2000 : Int) < a.size := by omega
    go_enter Tryz.func17, Tryz.ntmps17
    go_big_wp2_with (go_at_call 13; refine (HW.out _ (Below.refl _ _)).mono ?_; rintro e w1 ⟨rfl, hb1⟩)
    go_ret
    exact ⟨rfl, hb1⟩
  have hAI : ¬ (2000 : Int) < a.size := by omega
  by_cases hB : 2000 < b.size
  · have hI : (2000 : Int) < b.size := by omega
    go_enter Tryz.func17, Tryz.ntmps17
    go_big_wp2_with (go_at_call 13; refine (HW.out _ (Below.refl _ _)).mono ?_; rintro e w1 ⟨rfl, hb1⟩)
    go_ret
    exact ⟨rfl, hb1⟩
  have hBI : ¬ (2000 : Int) < b.size := by omega
  have hla := bl_length a
  have hlb := bl_length b
  obtain ⟨ts, e1, p1, ha⟩ : ∃ ts e1 p1, answerL (bl a) = (ts, e1, p1) := ⟨_, _, _, rfl⟩
  obtain ⟨us, f, q, hb⟩ : ∃ us f q, answerL (bl b) = (us, f, q) := ⟨_, _, _, rfl⟩
  obtain ⟨n1, hn1⟩ : ∃ n, ts.length = n := ⟨_, rfl⟩
  obtain ⟨n2, hn2⟩ : ∃ n, us.length = n := ⟨_, rfl⟩
  have hle1 := answer_le ha
  have hle2 := answer_le hb
  have hn1b : n1 ≤ 65536 := by rw [← hn1]; exact hle1.1
  have hn2b : n2 ≤ 65536 := by rw [← hn2]; exact hle2.1
  have hqb := answer_place hb
  rw [hlb] at hqb
  have HR1 := Lib.hid (answer_right ha)
  have HR2 := Lib.hid (answer_right hb)
  have HN1 := Lib.hid hle1.2
  have HN2 := Lib.hid hle2.2
  have HT1 := Lib.hid fun w1 (hb1 : Below w.heap.size w w1) => tokens_at ha hn1 w1 (maxed_on hM hb1)
  have HT2 := Lib.hid fun w1 (hb1 : Below w.heap.size w w1) => tokens_at hb hn2 w1 (maxed_on hM hb1)
  have HA := Lib.hid ha
  have HB := Lib.hid hb
  have HM := Lib.hid hM
  have HL1 := Lib.hid hn1
  have HL2 := Lib.hid hn2
  clear hM ha hb hle1 hle2 hn1 hn2 hla hlb
  go_enter Tryz.func17, Tryz.ntmps17
  go_upto_region 7 with (first
    | (go_at_call_of 14 (Value.string a)
       go_loud (
         refine (HT1.out _ (Below.refl _ _)).mono ?_
         rintro e w1 ⟨ao1, cap1, L, rfl, hb1, hrow1, hr1, hL1⟩
         have HB1 := Lib.hid hb1
         have HF1 := Lib.hid (hrow1.full hr1)
         have HM1 := Lib.hid hL1
         clear hb1 hrow1 hr1 hL1))
    | (go_at_call_of 14 (Value.string b)
       go_loud (
         refine (HT2.out _ HB1.out).mono ?_
         rintro e w2 ⟨ao2, cap2, K, rfl, hb2, hrow2, hr2, hL2⟩
         have HB2 := Lib.hid (HB1.out.trans (hb2.mono HB1.out.size))
         have HF2 := Lib.hid (hrow2.full hr2)
         have HF12 := Lib.hid (HF1.out.on hb2)
         have HM2 := Lib.hid hL2
         clear hb2 hrow2 hr2 hL2))
    | (go_at_call_of 41 (Value.slice ao1 n1 cap1)
       go_loud (
         refine (right_at HM1.out HL1.out hn1b HF12.out HR1.out HN1.out).mono ?_
         rintro e w3 ⟨rfl, hb3⟩
         have HB3 := Lib.hid (HB2.out.trans (hb3.mono HB2.out.size))
         have HF13 := Lib.hid (HF12.out.on hb3)
         have HF23 := Lib.hid (HF2.out.on hb3)
         clear hb3))
    | (go_at_call_of 41 (Value.slice ao2 n2 cap2)
       go_loud (
         refine (right_at HM2.out HL2.out hn2b HF23.out HR2.out HN2.out).mono ?_
         rintro e w4 ⟨rfl, hb4⟩
         have HB4 := Lib.hid (HB3.out.trans (hb4.mono HB3.out.size))
         have HF14 := Lib.hid (HF13.out.on hb4)
         have HF24 := Lib.hid (HF23.out.on hb4)
         clear hb4)))
  clear HF1 HF2 HF12 HF13 HF23 HT1 HT2 HB1 HB2 HB3 HR1 HR2 HN1 HN2
  by_cases he : e1 = 0
  · subst he
    by_cases hn0 : n1 = 0
    · subst hn0
      clear HA HB HM
      go_big_wp2_with (go_at_call 13; refine (HW.out _ HB4.out).mono ?_; rintro e w5 ⟨rfl, hb5⟩)
      go_ret
      exact ⟨rfl, HB4.out.trans (hb5.mono HB4.out.size)⟩
    · have hnI : ¬ (n1 : Int) = 0 := by omega
      have hlo : (0 : Int) ≤ (n1 : Int) - 1 := by omega
      have hhi : (n1 : Int) - 1 < n1 := by omega
      have hLl : L.length = n1 := by rw [← HL1.out, ← HM1.out, List.length_map]
      obtain ⟨z, hz⟩ : ∃ z, L[n1 - 1]? = some z := ⟨L[n1 - 1]'(by omega), by simp [show n1 - 1 < L.length by omega]⟩
      obtain ⟨g1, rfl, z0, _⟩ := HF14.out.toks.at_ (n1 - 1) z hz
      have z1 : w4.cell? ⟨g1, ((n1 : Int) - 1).toNat * 5, none⟩ = some (.int .u8 ((z.1.kind : Nat) : Int)) := by rw [show ((n1 : Int) - 1).toNat = n1 - 1 by omega]; exact z0
      have hlast : ts.getLast? = some z.1 := by rw [← HM1.out, List.getLast?_eq_getElem?, List.length_map, hLl, List.getElem?_map, hz]; rfl
      have HLast := Lib.hid hlast
      obtain ⟨zk, hzk⟩ : ∃ k, z.1.kind = k := ⟨_, rfl⟩
      rw [hzk] at z0 z1
      have HZ := Lib.hid hzk
      clear hlast hzk hLl hz
      by_cases h3 : zk = 3
      · subst h3
        clear HA HB HM
        go_big_wp2_with (go_at_call 13; refine (HW.out _ HB4.out).mono ?_; rintro e w5 ⟨rfl, hb5⟩)
        go_ret
        exact ⟨rfl, HB4.out.trans (hb5.mono HB4.out.size)⟩
      · have h3I : ¬ (zk : Int) = 3 := by omega
        have h3b : ((zk : Int) == 3) = false := beq_eq_false_iff_ne.2 h3I
        by_cases h42 : f = 42
        · subst h42
          clear HA HB HM
          go_big_wp2_with (go_at_call 13; refine (HW.out _ HB4.out).mono ?_; rintro e w5 ⟨rfl, hb5⟩)
          go_ret
          exact ⟨rfl, HB4.out.trans (hb5.mono HB4.out.size)⟩
        · have h42I : ¬ (f : Int) = 42 := by omega
          have h42b : ((f : Int) == 42) = false := beq_eq_false_iff_ne.2 h42I
          have hts : ts ≠ [] := by intro e; have := HL1.out; rw [e] at this; exact hn0 this.symm
          have hab : bl (a ++ b) = bl a ++ bl b := by simp [bl]
          have hpt := parts_told HA.out hts (fun t ht => by rw [HLast.out] at ht; cases ht; rw [HZ.out]; exact h3) HB.out h42 (by rw [bl_length]; omega) (by rw [bl_length]; omega)
          rw [← hab] at hpt
          rcases hpt with ⟨hf, hpt⟩ | ⟨hf, hpt⟩
          · subst hf
            obtain ⟨n3, hn3⟩ : ∃ n, n = n1 + n2 := ⟨_, rfl⟩
            have hlen3 : (ts ++ us).length = n3 := by rw [List.length_append, HL1.out, HL2.out, hn3]
            have hn3I : (n3 : Int) = (n1 : Int) + (n2 : Int) := by omega
            have HT3 := Lib.hid fun w1 (hb1 : Below w.heap.size w w1) => tokens_at hpt hlen3 w1 (maxed_on HM.out hb1)
            have HN3 := Lib.hid hn3I
            have hneq : ((n3 : Int) != (n1 : Int) + (n2 : Int)) = false := by rw [bne_eq_false_iff_eq]; omega
            have HR3 := Lib.hid (answer_right hpt)
            clear hpt hts HA HB HM hlen3 hn3 hn3I
            go_big_wp2_with (first
              | (go_at_call 14
                 go_loud (
                   refine (HT3.out _ HB4.out).mono ?_
                   rintro e w5 ⟨ao3, cap3, M, rfl, hb5, hrow3, hr3, hL3⟩
                   have HB5 := Lib.hid (HB4.out.trans (hb5.mono HB4.out.size))
                   have HF15 := Lib.hid (HF14.out.on hb5)
                   have HF25 := Lib.hid (HF24.out.on hb5)
                   have HF35 := Lib.hid (hrow3.full hr3)
                   have HM3 := Lib.hid hL3
                   clear hb5 hrow3 hr3 hL3)))
            clear z0 z1 HZ HLast h3 h3I h3b h42 h42I h42b hnI hlo hhi HF14 HF24 HT3 hneq
            have hMl : M.length = n3 := by have := congrArg List.length HM3.out; rw [List.length_map, List.length_append, HL1.out, HL2.out] at this; have := HN3.out; omega
            have hLl : L.length = n1 := by rw [← HL1.out, ← HM1.out, List.length_map]
            have hKl : K.length = n2 := by rw [← HL2.out, ← HM2.out, List.length_map]
            go_loopw [14] (fun v wr => ∃ i : Nat, v = .int .i64 (i : Nat) ∧ i ≤ n3 ∧ Hid (Below w5.heap.size w5 wr)) (fun v _ => n3 - (RowKit.intOf v).toNat)
            case atStart => exact ⟨0, rfl, Nat.zero_le _, Lib.hid (Below.refl _ _)⟩
            case round =>
              obtain ⟨i, rfl, hi, HD⟩ := hrel
              by_cases hlt : i < n3
              · have hltI : (i : Int) < n3 := by omega
                obtain ⟨x, hx⟩ : ∃ x, M[i]? = some x := ⟨M[i]'(by omega), by simp [show i < M.length by omega]⟩
                have hmx : (ts ++ us)[i]? = some x.1 := by rw [← HM3.out, List.getElem?_map, hx]; rfl
                obtain ⟨g3, rfl, a0, a1, a2, a3, a4⟩ := (HF35.out.on HD.out).toks.at_ i x hx
                obtain ⟨bx, cx, hv, hatx⟩ := (HF35.out.on HD.out).attrs i x hx
                obtain ⟨⟨kd, nm, ats, sf, dt⟩, v⟩ := x
                obtain rfl : v = .slice bx ats.length cx := hv
                simp only at a0 a1 a2 a3 a4 hmx hatx
                obtain ⟨nb, hnb⟩ : ∃ nb : ByteArray, (⟨nm.toArray⟩ : ByteArray) = nb := ⟨_, rfl⟩
                obtain ⟨db, hdb⟩ : ∃ db : ByteArray, (⟨dt.toArray⟩ : ByteArray) = db := ⟨_, rfl⟩
                rw [hnb] at a1
                rw [hdb] at a4
                have HAX := Lib.hid hatx
                have HMX := Lib.hid hmx
                clear hx hmx hatx
                go_upto_if 116 with (fail)
                have hi3 : (i : Int) ≤ 131072 := by have := HN3.out; omega
                go_cut [14] (fun v wd => v = .int .i64 ((i : Nat) : Int) ∧ ∃ bz cy, Hid (PairAt w5 wr.heap.size kd cx cy bx bz nb db sf ats wd))
                case first =>
                  by_cases hin : i < n1
                  · have hinI : (i : Int) < n1 := by omega
                    obtain ⟨y, hy⟩ : ∃ y, L[i]? = some y := ⟨L[i]'(by omega), by simp [show i < L.length by omega]⟩
                    have hyx : y.1 = ⟨kd, nm, ats, sf, dt⟩ := by
                      have h1 : ts[i]? = some y.1 := by rw [← HM1.out, List.getElem?_map, hy]; rfl
                      have h2 := HMX.out
                      rw [List.getElem?_append_left (by rw [HL1.out]; exact hin), h1] at h2
                      exact Option.some.inj h2
                    obtain ⟨g1', hg1', y0, y1, y2, y3, y4⟩ := (HF15.out.on HD.out).toks.at_ i y hy
                    cases hg1'
                    obtain ⟨bz, cy, hv, haty⟩ := (HF15.out.on HD.out).attrs i y hy
                    obtain ⟨yt, v2⟩ := y
                    obtain rfl : yt = ⟨kd, nm, ats, sf, dt⟩ := hyx
                    obtain rfl : v2 = .slice bz ats.length cy := hv
                    simp only at y0 y1 y2 y3 y4 haty
                    rw [hnb] at y1
                    rw [hdb] at y4
                    have hbe : Below wr.heap.size wr ((wr.alloc (.cells #[.int .u8 ((kd : Nat) : Int), .string nb, .slice bx ats.length cx, .bool sf, .string db] 33)).alloc (.cells #[.int .u8 0, .string ⟨#[]⟩, .slice none 0 0, .bool false, .string ⟨#[]⟩] 33)) := ((Below.refl wr.heap.size wr).alloc (Nat.le_refl _) _).alloc (by simp) _
                    have e0 := (hbe.cell (World.block_lt_of_cell? _ _ y0)).trans y0
                    have e1 := (hbe.cell (World.block_lt_of_cell? _ _ y1)).trans y1
                    have e2 := (hbe.cell (World.block_lt_of_cell? _ _ y2)).trans y2
                    have e3 := (hbe.cell (World.block_lt_of_cell? _ _ y3)).trans y3
                    have e4 := (hbe.cell (World.block_lt_of_cell? _ _ y4)).trans y4
                    have HP := Lib.hid (pair_new HD.out (kd := kd) (cx := cx) (cy := cy) (nb := nb) (db := db) (sf := sf) (T := 33) HAX.out haty)
                    clear y0 y1 y2 y3 y4 haty hbe hy a0 a1 a2 a3 a4 
                    go_big_wp2
                    go_meet
                    exact ⟨rfl, bz, cy, HP⟩
                  · have hinI : ¬ (i : Int) < n1 := by omega
                    have hlo : (0 : Int) ≤ (i : Int) - n1 := by omega
                    have hhi : (i : Int) - n1 < n2 := by have := HN3.out; omega
                    have hin2 : i - n1 < n2 := by omega
                    obtain ⟨y, hy⟩ : ∃ y, K[i - n1]? = some y := ⟨K[i - n1]'(by omega), by simp [show i - n1 < K.length by omega]⟩
                    have hyx : y.1 = ⟨kd, nm, ats, sf, dt⟩ := by
                      have h1 : us[i - n1]? = some y.1 := by rw [← HM2.out, List.getElem?_map, hy]; rfl
                      have h2 := HMX.out
                      rw [List.getElem?_append_right (by rw [HL1.out]; omega), HL1.out, h1] at h2
                      exact Option.some.inj h2
                    obtain ⟨g2, rfl, y0, y1, y2, y3, y4⟩ := (HF25.out.on HD.out).toks.at_ (i - n1) y hy
                    obtain ⟨bz, cy, hv, haty⟩ := (HF25.out.on HD.out).attrs (i - n1) y hy
                    obtain ⟨yt, v2⟩ := y
                    obtain rfl : yt = ⟨kd, nm, ats, sf, dt⟩ := hyx
                    obtain rfl : v2 = .slice bz ats.length cy := hv
                    simp only at y0 y1 y2 y3 y4 haty
                    rw [hnb] at y1
                    rw [hdb] at y4
                    have hbe : Below wr.heap.size wr ((wr.alloc (.cells #[.int .u8 ((kd : Nat) : Int), .string nb, .slice bx ats.length cx, .bool sf, .string db] 33)).alloc (.cells #[.int .u8 0, .string ⟨#[]⟩, .slice none 0 0, .bool false, .string ⟨#[]⟩] 33)) := ((Below.refl wr.heap.size wr).alloc (Nat.le_refl _) _).alloc (by simp) _
                    have e0 := (hbe.cell (World.block_lt_of_cell? _ _ y0)).trans y0
                    have e1 := (hbe.cell (World.block_lt_of_cell? _ _ y1)).trans y1
                    have e2 := (hbe.cell (World.block_lt_of_cell? _ _ y2)).trans y2
                    have e3 := (hbe.cell (World.block_lt_of_cell? _ _ y3)).trans y3
                    have e4 := (hbe.cell (World.block_lt_of_cell? _ _ y4)).trans y4
                    have hti : ((i : Int) - n1).toNat = i - n1 := by omega
                    have f0 := e0
                    have f1 := e1
                    have f2 := e2
                    have f3 := e3
                    have f4 := e4
                    rw [← hti] at f0 f1 f2 f3 f4
                    have HP := Lib.hid (pair_new HD.out (kd := kd) (cx := cx) (cy := cy) (nb := nb) (db := db) (sf := sf) (T := 33) HAX.out haty)
                    clear y0 y1 y2 y3 y4 haty hbe hy a0 a1 a2 a3 a4 hti
                    go_big_wp2
                    go_meet
                    exact ⟨rfl, bz, cy, HP⟩
                case rest =>
                  obtain ⟨rfl, bz, cy, HP⟩ := hcut
                  have h16 := (HR3.out.each i _ HMX.out).size
                  simp only at h16
                  obtain ⟨x0, x1, x2, x3, x4⟩ := HP.out.one
                  obtain ⟨y0, y1, y2, y3, y4⟩ := HP.out.two
                  have HS := Lib.hid (sameAttrs_any bx bz cx cy ats (by omega) wc HP.out.r1 HP.out.r2)
                  go_big_wp2_with (go_at_call 33; go_loud (refine HS.out.mono ?_; rintro e w6 ⟨rfl, hb6⟩))
                  exact ⟨⟨i + 1, by go_num, by omega, Lib.hid (HP.out.below.trans (hb6.mono HP.out.below.size))⟩, by simp [RowKit.intOf]; omega⟩
              · obtain rfl : i = n3 := by omega
                go_big_wp2_with (go_at_call 13; refine (HW.out _ (HB5.out.trans (HD.out.mono HB5.out.size))).mono ?_; rintro e w6 ⟨rfl, hb6⟩)
                go_ret
                exact ⟨rfl, (HB5.out.trans (HD.out.mono HB5.out.size)).trans (hb6.mono (HB5.out.trans (HD.out.mono HB5.out.size)).size)⟩
          · rw [bl_length] at hpt
            have hfI : ¬ (f : Int) = 0 := by omega
            have hfb : ((f : Int) == 0) = false := beq_eq_false_iff_ne.2 hfI
            have HT3 := Lib.hid fun w1 (hb1 : Below w.heap.size w w1) => tokens_at (n := 0) hpt rfl w1 (maxed_on HM.out hb1)
            clear hpt hts HA HB HM
            go_big_wp2_with (first
              | (go_at_call 14
                 go_loud (
                   refine (HT3.out _ HB4.out).mono ?_
                   rintro e w5 ⟨ao3, cap3, M, rfl, hb5, _, _, _⟩
                   have HB5 := Lib.hid (HB4.out.trans (hb5.mono HB4.out.size))
                   clear hb5))
              | (go_at_call 13; refine (HW.out _ HB5.out).mono ?_; rintro e w6 ⟨rfl, hb6⟩))
            go_ret
            exact ⟨rfl, HB5.out.trans (hb6.mono HB5.out.size)⟩
  · have heI : ¬ (e1 : Int) = 0 := by omega
    clear HA HB HM
    go_big_wp2_with (go_at_call 13; refine (HW.out _ HB4.out).mono ?_; rintro e w5 ⟨rfl, hb5⟩)
    go_ret
    exact ⟨rfl, HB4.out.trans (hb5.mono HB4.out.size)⟩
end Go.Proofs.YtfjphhmbnhglcaaGreatDoor
