/-
  right of the statements: tokens that are such as may be. Conditions: no more of them than 2^20.
-/
import Derived.Test.YtfjphhmbnhglcaaGreatDoorTMath4
import Derived.Test.YtfjphhmbnhglcaaGreatDoorTRefS
import Derived.Test.YtfjphhmbnhglcaaGreatDoorTLaw1
import Derived.Deep.DeepCutAuto
namespace Go.TokenKit
open Go Go.Lib Go.CharrefKit
theorem tag_nameLe {k : Nat} {l r : Bytes} {t : Tok} (h : tagL k l = .ok (t, r)) : t.name.length ≤ l.length := by
  unfold tagL at h
  split at h
  · split at h
    · cases h
    · cases h
      have := before_len tagStops l
      simp only [smallL, List.length_map]
      omega
  · cases h
theorem one_nameLe {l r : Bytes} {t : Tok} (h : oneL l = .ok (t, r)) : t.name.length ≤ l.length := by
  unfold oneL at h
  split at h
  · split at h
    · have := tag_nameLe h; rw [List.length_drop] at this; omega
    · split at h
      · cases hl : l.drop 2 with
        | nil => rw [hl] at h; cases h
        | cons x s =>
          rw [hl, endL] at h
          split at h
          · split at h
            · cases h
            · rename_i t' r' ht
              split at h
              · cases h
              · cases h
                have := tag_nameLe ht
                rw [← hl, List.length_drop] at this
                omega
          · cases h
      · split at h
        · unfold commentL at h
          split at h
          · cases h; exact Nat.zero_le _
          · cases h
        · split at h
          · unfold doctypeL at h
            split at h
            · cases h; exact Nat.zero_le _
            · cases h
          · cases h
  · cases h; exact Nat.zero_le _
theorem toks_nameLe : ∀ (n : Nat) (l : Bytes) (p : Nat) (ts : List Tok), l.length ≤ n → toksAt p l = .ok ts → ts.length ≤ n ∧ ∀ t, t ∈ ts → t.name.length ≤ n
  | n, [], p, ts, _, h => by rw [toksAt_nil] at h; cases h; exact ⟨Nat.zero_le _, fun t h => by cases h⟩
  | n, c :: l, p, ts, hn, h => by
    rw [toksAt_step p (by simp)] at h
    split at h
    · cases h
    · rename_i t r h1
      have hlen := one_len (by simp) h1
      have hle := one_nameLe h1
      split at h
      · cases h
      · rename_i ts' h2
        cases h
        cases n with
        | zero => simp at hn
        | succ n =>
          simp only [List.length_cons] at hlen hn hle
          obtain ⟨h3, h4⟩ := toks_nameLe n r _ ts' (by omega) h2
          refine ⟨by simp only [List.length_cons]; omega, fun u hu => ?_⟩
          rcases List.mem_cons.1 hu with rfl | hu
          · omega
          · have := h4 u hu; omega
theorem answer_le {l : Bytes} {ts : List Tok} {e p : Nat} (h : answerL l = (ts, e, p)) : ts.length ≤ 65536 ∧ ∀ t, t ∈ ts → t.name.length ≤ 65536 := by
  have hn : ([] : List Tok).length ≤ 65536 ∧ ∀ t, t ∈ ([] : List Tok) → t.name.length ≤ 65536 := ⟨Nat.zero_le _, fun t h => by cases h⟩
  unfold answerL at h
  split at h
  · cases h; exact hn
  · rename_i hs
    split at h
    · cases h; exact hn
    · split at h
      · cases h; exact hn
      · rename_i hu
        cases h
        exact toks_nameLe 65536 l 0 _ (by omega) hu
end Go.TokenKit
namespace Go.Proofs.YtfjphhmbnhglcaaGreatDoor
open Go.RowKit Go.RunKit Go.CharrefKit Go.Lib Go.TokenKit

/-- All that is read of tokens. -/
structure FullReads (w : World) (ao : Option Addr) (L : List (Tok × Value)) : Prop where
  toks : TkReads w ao L
  attrs : ∀ (k : Nat) (x : Tok × Value), L[k]? = some x → ∃ bo cap, x.2 = .slice bo x.1.attrs.length cap ∧ AtReads w bo x.1.attrs
theorem FullReads.on {w w' : World} {ao : Option Addr} {L : List (Tok × Value)} (h : FullReads w ao L) (hb : Below w.heap.size w w') : FullReads w' ao L :=
  ⟨h.toks.on hb, fun k x hx => by
    obtain ⟨bo, cap, e, hr⟩ := h.attrs k x hx
    exact ⟨bo, cap, e, hr.on hb⟩⟩
theorem TkRow.full {T : TypeId} {w : World} {base n cap : Nat} {ao : Option Addr} {L : List (Tok × Value)} (h : TkRow T w base (.slice ao n cap) L) (hr : TkReads w ao L) : FullReads w ao L :=
  ⟨hr, fun _ x hx => (h.sub x (List.mem_of_getElem? hx)).reads⟩
/-- The cells of a token in its local block. -/
def Loc5 (W : World) (b : Nat) (a0 a1 a2 a3 a4 : Value) : Prop := W.cell? ⟨b, 0, none⟩ = some a0 ∧ W.cell? ⟨b, 1, none⟩ = some a1 ∧ W.cell? ⟨b, 2, none⟩ = some a2 ∧ W.cell? ⟨b, 3, none⟩ = some a3 ∧ W.cell? ⟨b, 4, none⟩ = some a4
theorem loc5_new (w : World) (a0 a1 a2 a3 a4 : Value) (T : TypeId) : Loc5 (w.alloc (.cells #[a0, a1, a2, a3, a4] T)) w.heap.size a0 a1 a2 a3 a4 := (local5 (heap_alloc_new w _)).1
theorem Loc5.on {W W' : World} {b : Nat} {a0 a1 a2 a3 a4 : Value} (h : Loc5 W b a0 a1 a2 a3 a4) (hb : Below W.heap.size W W') : Loc5 W' b a0 a1 a2 a3 a4 :=
  ⟨by rw [hb.cell (World.block_lt_of_cell? _ _ h.1)]; exact h.1, by rw [hb.cell (World.block_lt_of_cell? _ _ h.2.1)]; exact h.2.1, by rw [hb.cell (World.block_lt_of_cell? _ _ h.2.2.1)]; exact h.2.2.1,
    by rw [hb.cell (World.block_lt_of_cell? _ _ h.2.2.2.1)]; exact h.2.2.2.1, by rw [hb.cell (World.block_lt_of_cell? _ _ h.2.2.2.2)]; exact h.2.2.2.2⟩

set_option maxRecDepth 100000 in
set_option maxHeartbeats 8000000 in
theorem right_any (ao : Option Addr) (cap : Nat) (L : List (Tok × Value)) (hl : L.length ≤ 65536) (w : World) (hF : FullReads w ao L) (hR : RightL (L.map (·.1))) (hN : ∀ t, t ∈ L.map (·.1) → t.name.length ≤ 65536) :
    Calls Tryz.prog 41 #[.slice ao L.length cap] w fun e w' => e = .returned (.bool true) ∧ Below w.heap.size w w' := by
  have HF := Lib.hid hF
  have HR := Lib.hid hR
  have HN := Lib.hid hN
  clear hF hR hN
  go_enter Tryz.func41, Tryz.ntmps41
  go_big_wp2
  go_loopw [3] (fun v wr => ∃ k : Nat, v = .int .i64 (k : Nat) ∧ k ≤ L.length ∧ Hid (Below w.heap.size w wr)) (fun v _ => L.length - (RowKit.intOf v).toNat)
  case atStart => exact ⟨0, rfl, Nat.zero_le _, Lib.hid (Below.refl _ _)⟩
  case round =>
    obtain ⟨k, rfl, hk, HB⟩ := hrel
    by_cases hkl : k < L.length
    · have hkI : (k : Int) < L.length := by omega
      obtain ⟨x, hx⟩ : ∃ x, L[k]? = some x := ⟨L[k], by simp [hkl]⟩
      have hmap : (L.map (·.1))[k]? = some x.1 := by rw [List.getElem?_map, hx]; rfl
      have hrt := HR.out.each k x.1 hmap
      have hnl := HN.out x.1 (List.mem_of_getElem? hmap)
      obtain ⟨g, rfl, a0, a1, a2, a3, a4⟩ := (HF.out.on HB.out).toks.at_ k x hx
      obtain ⟨bo, bc, hv, hat⟩ := (HF.out.on HB.out).attrs k x hx
      obtain ⟨⟨kd, nm, ats, sf, dt⟩, v⟩ := x
      obtain rfl : v = .slice bo ats.length bc := hv
      simp only at a0 a1 a2 a3 a4 hrt hnl hat
      have HAT := Lib.hid hat
      have HX := Lib.hid hx
      have HRT := Lib.hid hrt
      obtain ⟨nb, hnb⟩ : ∃ nb : ByteArray, (⟨nm.toArray⟩ : ByteArray) = nb := ⟨_, rfl⟩
      have hbl : bl nb = nm := by rw [← hnb, bl_of]
      have hS := fun W => refSmall_any nb (by rw [← bl_length, hbl]; omega) W
      rw [hbl, hrt.small, hnb] at hS
      rw [hnb] at a1
      obtain ⟨db, hdb⟩ : ∃ db : ByteArray, (⟨dt.toArray⟩ : ByteArray) = db := ⟨_, rfl⟩
      rw [hdb] at a4
      have HS := Lib.hid hS
      have hlow := hrt.low
      have hhigh := hrt.high
      simp only at hlow hhigh
      clear hS hat hx hrt hnl hdb hmap
      go_big_wp2
      have hloc : ∀ p : Over (wr.alloc (.cells #[.int .u8 ((kd : Nat) : Int), .string nb, .slice bo ats.length bc, .bool sf, .string db] 33)), Loc5 p.out wr.heap.size (.int .u8 ((kd : Nat) : Int)) (.string nb) (.slice bo ats.length bc) (.bool sf) (.string db) := fun p => (loc5_new wr _ _ _ _ _ _).on p.below
      have c0 := fun p => (hloc p).1
      have c1 := fun p => (hloc p).2.1
      have c2 := fun p => (hloc p).2.2.1
      have c3 := fun p => (hloc p).2.2.2.1
      have c4 := fun p => (hloc p).2.2.2.2
      clear hloc a0 a1 a2 a3 a4
      have h16 : decide ((16 : Int) < ats.length) = false := by simp only [decide_eq_false_iff_not]; have := HRT.out.size; simp only at this; omega
      have HC2 := Lib.hid c2
      obtain ⟨I, HI⟩ : ∃ I : World → Prop, Hid ((∀ p : Over (wr.alloc (.cells #[.int .u8 ((kd : Nat) : Int), .string nb, .slice bo ats.length bc, .bool sf, .string db] 33)), I p.out) ∧ ∀ w2, I w2 → (w2.cell? ⟨wr.heap.size, 2, none⟩ = some (.slice bo ats.length bc) ∧ AtReads w2 bo ats ∧ Below w.heap.size w w2 ∧ ∀ w3, Below w2.heap.size w2 w3 → I w3)) :=
        ⟨fun w2 => ∃ p : Over (wr.alloc (.cells #[.int .u8 ((kd : Nat) : Int), .string nb, .slice bo ats.length bc, .bool sf, .string db] 33)), w2 = p.out, Lib.hid ⟨fun p => ⟨p, rfl⟩, by
          rintro w2 ⟨p, rfl⟩
          have hbe := ((Below.refl wr.heap.size wr).alloc (Nat.le_refl _) (.cells #[.int .u8 ((kd : Nat) : Int), .string nb, .slice bo ats.length bc, .bool sf, .string db] 33)).trans (p.below.mono (by simp))
          exact ⟨HC2.out p, HAT.out.on hbe, HB.out.trans (hbe.mono HB.out.size), fun w3 h3 => ⟨p.on h3, rfl⟩⟩⟩⟩
      go_cut [80] (fun b wd => b = .bool false ∧ I wd)
      case first =>
        obtain rfl | rfl | rfl | rfl | rfl : kd = 1 ∨ kd = 2 ∨ kd = 3 ∨ kd = 4 ∨ kd = 5 := by omega
        · cases hk0 : decide (0 < k)
          all_goals
            have hne : nb.toList.isEmpty = false := by
              rw [Lib.toList_data, show nb.data.toList = bl nb from rfl, hbl]
              have := HRT.out.name (by show 1 ≤ 2; decide)
              cases hnm : nm with
              | nil => exact absurd hnm this
              | cons => rfl
            refine wp_region_below (by kernel_rfl) (by kernel_rfl) ?_
            repeat (go_big_quiet_step (first | (go_at_call 37; exact calls_over (HS.out _))))
            refine wpQuiet_nil ?_
            intro W hw'
            obtain ⟨q, rfl⟩ := hw'
            go_wp2
            go_meet
            exact ⟨rfl, HI.out.1 q⟩
        · cases hk0 : decide (0 < k)
          all_goals
            obtain rfl : ats = [] := (HRT.out.bare (by show 2 ≠ 1; decide)).1
            obtain rfl : sf = false := (HRT.out.bare (by show 2 ≠ 1; decide)).2
            have hne : nb.toList.isEmpty = false := by
              rw [Lib.toList_data, show nb.data.toList = bl nb from rfl, hbl]
              have := HRT.out.name (by show 2 ≤ 2; decide)
              cases hnm : nm with
              | nil => exact absurd hnm this
              | cons => rfl
            refine wp_region_below (by kernel_rfl) (by kernel_rfl) ?_
            repeat (go_big_quiet_step (first | (go_at_call 37; exact calls_over (HS.out _))))
            refine wpQuiet_nil ?_
            intro W hw'
            obtain ⟨q, rfl⟩ := hw'
            go_wp2
            go_meet
            exact ⟨rfl, HI.out.1 q⟩
        · cases hk0 : decide (0 < k) with
          | false =>
            obtain rfl : ats = [] := (HRT.out.bare (by show 3 ≠ 1; decide)).1
            obtain rfl : sf = false := (HRT.out.bare (by show 3 ≠ 1; decide)).2
            obtain rfl : nm = [] := HRT.out.none (by show ¬ 3 ≤ 2; decide)
            subst hnb
            refine wp_region_below (by kernel_rfl) (by kernel_rfl) ?_
            repeat (go_big_quiet_step (first | (go_at_call 37; exact calls_over (HS.out _))))
            refine wpQuiet_nil ?_
            intro W hw'
            obtain ⟨q, rfl⟩ := hw'
            go_wp2
            go_meet
            exact ⟨rfl, HI.out.1 q⟩
          | true =>
            have hk1 : 0 < k := by simpa using hk0
            have hlo : (0 : Int) ≤ (k : Int) - 1 := by omega
            have hhi : (k : Int) - 1 < L.length := by omega
            obtain ⟨y, hy⟩ : ∃ y, L[k - 1]? = some y := ⟨L[k - 1], by simp [show k - 1 < L.length by omega]⟩
            have hmy : (L.map (·.1))[k - 1]? = some y.1 := by rw [List.getElem?_map, hy]; rfl
            have hmk : (L.map (·.1))[k - 1 + 1]? = some ⟨3, nm, ats, sf, dt⟩ := by rw [show k - 1 + 1 = k by omega, List.getElem?_map, HX.out]; rfl
            have hy3 : y.1.kind ≠ 3 := fun e => HR.out.next (k - 1) _ _ hmy hmk e rfl
            obtain ⟨g', hg', b0, _⟩ := (HF.out.on HB.out).toks.at_ (k - 1) y hy
            cases hg'
            have c5 : ∀ p : Over (wr.alloc (.cells #[.int .u8 ((3 : Nat) : Int), .string nb, .slice bo ats.length bc, .bool sf, .string db] 33)), p.out.cell? ⟨g, (k - 1) * 5, none⟩ = some (.int .u8 ((y.1.kind : Nat) : Int)) := fun p =>
              p.cell (by rw [((Below.refl wr.heap.size wr).alloc (Nat.le_refl _) _).cell (World.block_lt_of_cell? _ _ b0)]; exact b0)
            have c6 : ∀ p : Over (wr.alloc (.cells #[.int .u8 ((3 : Nat) : Int), .string nb, .slice bo ats.length bc, .bool sf, .string db] 33)), p.out.cell? ⟨g, ((k : Int) - 1).toNat * 5, none⟩ = some (.int .u8 ((y.1.kind : Nat) : Int)) := by
              rw [show ((k : Int) - 1).toNat = k - 1 by omega]; exact c5
            obtain ⟨pk, hpk⟩ : ∃ pk, y.1.kind = pk := ⟨_, rfl⟩
            rw [hpk] at c5 c6 hy3
            have hp1 : ((pk : Int) == 3) = false := by rw [beq_eq_false_iff_ne]; omega
            have hp2 : ¬ (pk : Int) = 3 := by omega
            have hp3 : (pk == 3) = false := by rw [beq_eq_false_iff_ne]; omega
            clear hy hmy hmk b0 hpk
            obtain rfl : ats = [] := (HRT.out.bare (by show 3 ≠ 1; decide)).1
            obtain rfl : sf = false := (HRT.out.bare (by show 3 ≠ 1; decide)).2
            obtain rfl : nm = [] := HRT.out.none (by show ¬ 3 ≤ 2; decide)
            subst hnb
            refine wp_region_below (by kernel_rfl) (by kernel_rfl) ?_
            repeat (go_big_quiet_step (first | (go_at_call 37; exact calls_over (HS.out _))))
            refine wpQuiet_nil ?_
            intro W hw'
            obtain ⟨q, rfl⟩ := hw'
            go_wp2
            go_meet
            exact ⟨rfl, HI.out.1 q⟩
        · cases hk0 : decide (0 < k)
          all_goals
            obtain rfl : ats = [] := (HRT.out.bare (by show 4 ≠ 1; decide)).1
            obtain rfl : sf = false := (HRT.out.bare (by show 4 ≠ 1; decide)).2
            obtain rfl : nm = [] := HRT.out.none (by show ¬ 4 ≤ 2; decide)
            subst hnb
            refine wp_region_below (by kernel_rfl) (by kernel_rfl) ?_
            repeat (go_big_quiet_step (first | (go_at_call 37; exact calls_over (HS.out _))))
            refine wpQuiet_nil ?_
            intro W hw'
            obtain ⟨q, rfl⟩ := hw'
            go_wp2
            go_meet
            exact ⟨rfl, HI.out.1 q⟩
        · cases hk0 : decide (0 < k)
          all_goals
            obtain rfl : ats = [] := (HRT.out.bare (by show 5 ≠ 1; decide)).1
            obtain rfl : sf = false := (HRT.out.bare (by show 5 ≠ 1; decide)).2
            obtain rfl : nm = [] := HRT.out.none (by show ¬ 5 ≤ 2; decide)
            subst hnb
            refine wp_region_below (by kernel_rfl) (by kernel_rfl) ?_
            repeat (go_big_quiet_step (first | (go_at_call 37; exact calls_over (HS.out _))))
            refine wpQuiet_nil ?_
            intro W hw'
            obtain ⟨q, rfl⟩ := hw'
            go_wp2
            go_meet
            exact ⟨rfl, HI.out.1 q⟩
      case rest =>
        obtain ⟨rfl, hI⟩ := hcut
        have HI1 := Lib.hid hI
        clear c0 c1 c2 c3 c4 HC2 h16 HS hbl hnb hlow hhigh HAT hI
        go_big_wp2
        go_loopw [5] (fun v w2 => ∃ c : Nat, v = .int .i64 (c : Nat) ∧ c ≤ ats.length ∧ Hid (I w2)) (fun v _ => ats.length - (RowKit.intOf v).toNat)
        case atStart => exact ⟨0, rfl, Nat.zero_le _, HI1⟩
        case round =>
          obtain ⟨c, rfl, hc, HI2⟩ := hrel
          obtain ⟨d2, _, d4, _⟩ := HI.out.2 _ HI2.out
          have h16 := HRT.out.size
          simp only at h16
          by_cases hcl : c < ats.length
          · have hcI : (c : Int) < ats.length := by omega
            go_big_wp2
            go_loopw [6] (fun v w3 => ∃ j : Nat, v = .int .i64 (j : Nat) ∧ j ≤ c ∧ Hid (I w3)) (fun v _ => c - (RowKit.intOf v).toNat)
            case atStart => exact ⟨0, rfl, Nat.zero_le _, HI2⟩
            case round =>
              obtain ⟨j, rfl, hj, HI3⟩ := hrel
              obtain ⟨e2, e3, _, e5⟩ := HI.out.2 _ HI3.out
              by_cases hjc : j < c
              · have hjI : (j : Int) < c := by omega
                have hjl : (j : Int) < ats.length := by omega
                obtain ⟨a, ha⟩ : ∃ a, ats[j]? = some a := ⟨ats[j], by simp [show j < ats.length by omega]⟩
                obtain ⟨b, hb⟩ : ∃ b, ats[c]? = some b := ⟨ats[c], by simp [hcl]⟩
                have hab : a.1 ≠ b.1 := fun e => by
                  have hnd := HRT.out.apart
                  simp only at hnd
                  have h1 : (ats.map (·.1))[j]? = some a.1 := by rw [List.getElem?_map, ha]; rfl
                  have h2 : (ats.map (·.1))[c]? = some b.1 := by rw [List.getElem?_map, hb]; rfl
                  rw [e] at h1
                  have hjm : j < (ats.map (·.1)).length := (List.getElem?_eq_some_iff.1 h1).1
                  have := (List.getElem?_inj hjm hnd).1 (h1.trans h2.symm)
                  omega
                obtain ⟨g1, rfl, x1, _⟩ := e3.at_ j a ha
                obtain ⟨g2, hg2, y1, _⟩ := e3.at_ c b hb
                cases hg2
                obtain ⟨na, hna⟩ : ∃ na : ByteArray, (⟨a.1.toArray⟩ : ByteArray) = na := ⟨_, rfl⟩
                obtain ⟨nc, hnc⟩ : ∃ nc : ByteArray, (⟨b.1.toArray⟩ : ByteArray) = nc := ⟨_, rfl⟩
                rw [hna] at x1
                rw [hnc] at y1
                have hn1 : ¬ na = nc := fun e => hab (by rw [← bl_of a.1, ← bl_of b.1, hna, hnc, e])
                have hn2 : ¬ na.toList = nc.toList := fun e => hn1 (by rw [Lib.toList_data, Lib.toList_data] at e; exact ByteArray.ext (Array.toList_inj.1 e))
                have hn4 : (na.toList == nc.toList) = false := beq_eq_false_iff_ne.2 hn2
                clear ha hb hab hna hnc e3
                go_big_wp2
                go_quiet (fail)
                go_big_wp2
                exact ⟨⟨j + 1, rfl, by omega, Lib.hid (e5 _ (below_drewN (Below.refl _ _) _))⟩, by simp [RowKit.intOf]; omega⟩
              · obtain rfl : j = c := by omega
                go_big_wp2
                exact ⟨⟨j + 1, rfl, by omega, HI3⟩, by simp [RowKit.intOf]; omega⟩
          · obtain rfl : c = ats.length := by omega
            go_big_wp2
            exact ⟨⟨k + 1, by go_num, by omega, Lib.hid d4⟩, by simp [RowKit.intOf]; omega⟩
    · obtain rfl : k = L.length := by omega
      go_big_wp2
      go_ret
      exact ⟨rfl, HB.out⟩
end Go.Proofs.YtfjphhmbnhglcaaGreatDoor
