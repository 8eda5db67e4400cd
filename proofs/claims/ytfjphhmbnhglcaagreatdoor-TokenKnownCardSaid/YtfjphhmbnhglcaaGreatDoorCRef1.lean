/-
  References by number: the document's way. No conditions.
-/
import Derived.Test.YtfjphhmbnhglcaaGreatDoorCDec
import Derived.Test.YtfjphhmbnhglcaaGreatDoorCByteR
import Derived.Deep.DeepCutAuto
namespace Go.CharrefKit
open Go
/-- The characters of numbers that are others. -/
def repTab : List (Int × Int) := [(128, 8364), (130, 8218), (131, 402), (132, 8222), (133, 8230), (134, 8224), (135, 8225), (136, 710), (137, 8240), (138, 352), (139, 8249), (140, 338), (142, 381), (145, 8216), (146, 8217), (147, 8220), (148, 8221), (149, 8226), (150, 8211), (151, 8212), (152, 732), (153, 8482), (154, 353), (155, 8250), (156, 339), (158, 382), (159, 376)]
def fixed (n : Nat) : Nat := if n = 0 ∨ 1114111 < n ∨ (55296 ≤ n ∧ n ≤ 57343) then 65533 else n
def isRep (n : Nat) (p : Int × Int) : Bool := p.1 == (n : Int)
def looked (n : Nat) : Int := match repTab.find? (isRep n) with
  | some p => p.2
  | none => n
theorem rep_low : ((List.range 32).all fun k => decide (looked (k + 128) = ((winTab.getD k 0 : Nat) : Int))) = true := by kernel_rfl
theorem rep_in : (repTab.all fun p => decide (128 ≤ p.1) && decide (p.1 ≤ 159)) = true := by kernel_rfl
theorem looked_out {n : Nat} (h : ¬ (128 ≤ n ∧ n ≤ 159)) : looked n = n := by
  have : repTab.find? (isRep n) = none := List.find?_eq_none.2 (fun p hp => by
    have := List.all_eq_true.1 rep_in p hp
    simp only [Bool.and_eq_true, decide_eq_true_eq] at this
    unfold isRep
    simp only [beq_iff_eq]
    omega)
  unfold looked
  rw [this]
theorem looked_charOf (v : Nat) : looked (fixed (min v 1114112)) = ((charOf v : Nat) : Int) := by
  by_cases h0 : 128 ≤ v ∧ v ≤ 159
  · have e : fixed (min v 1114112) = v := by unfold fixed; rw [if_neg (by omega)]; omega
    have h := List.all_eq_true.1 rep_low (v - 128) (List.mem_range.2 (by omega))
    rw [decide_eq_true_eq, show v - 128 + 128 = v by omega] at h
    rw [e, h]
    unfold charOf
    rw [if_pos h0]
  · unfold charOf
    rw [if_neg h0]
    by_cases h1 : v = 0 ∨ 1114111 < v ∨ (55296 ≤ v ∧ v ≤ 57343)
    · have e : fixed (min v 1114112) = 65533 := by unfold fixed; rw [if_pos (by omega)]
      rw [if_pos h1, e, looked_out (by omega)]
    · have e : fixed (min v 1114112) = v := by unfold fixed; rw [if_neg (by omega)]; omega
      rw [if_neg h1, e, looked_out h0]

/-- The first k of the digits are summed, up to a bound. -/
structure NumR (base : Nat) (l : List Nat) (k c : Nat) : Prop where
  all : ∀ b ∈ l.take k, isDig base b = true
  le : k ≤ l.length
  sum : c = min (valueOf base (l.take k)) 1114112
theorem NumR.zero (base : Nat) (l : List Nat) : NumR base l 0 0 := ⟨by simp, Nat.zero_le _, by simp [valueOf]⟩
theorem NumR.next {base : Nat} {l : List Nat} {k c b : Nat} (h : NumR base l k c) (hbase : 1 ≤ base) (hb : l[k]? = some b) (hd : digitV b < base) : NumR base l (k + 1) (min (c * base + digitV b) 1114112) := by
  have hlt := (List.getElem?_eq_some_iff.1 hb).1
  refine ⟨fun x hx => ?_, hlt, ?_⟩
  · rw [take_snoc hb, List.mem_append] at hx
    rcases hx with hx | hx
    · exact h.all x hx
    · simp at hx; subst hx; simpa [isDig] using hd
  · rw [take_snoc hb, valueOf_snoc, h.sum]
    by_cases hv : valueOf base (l.take k) ≤ 1114112
    · rw [Nat.min_eq_left hv]
    · have h1 : 1114112 * 1 ≤ 1114112 * base := Nat.mul_le_mul (Nat.le_refl _) hbase
      have h2 : valueOf base (l.take k) * 1 ≤ valueOf base (l.take k) * base := Nat.mul_le_mul (Nat.le_refl _) hbase
      have h3 : 1114112 * base ≤ valueOf base (l.take k) * base := Nat.mul_le_mul (by omega) (Nat.le_refl _)
      have e : min (valueOf base (l.take k)) 1114112 = 1114112 := Nat.min_eq_right (by omega)
      rw [e, Nat.min_eq_right (show 1114112 ≤ 1114112 * base + digitV b by omega), Nat.min_eq_right (show 1114112 ≤ valueOf base (l.take k) * base + digitV b by omega)]
theorem NumR.fin {l : List Nat} {k c : Nat} (h : NumR (baseOf l) (l.drop (headOf l)) k c) (he : ∀ b, (l.drop (headOf l))[k]? = some b → ¬ digitV b < baseOf l) :
    numberL l = if k = 0 then noRef else ⟨charOf (valueOf (baseOf l) ((l.drop (headOf l)).take k)), headOf l + k + (if l[headOf l + k]? = some 59 then 1 else 0), true⟩ := by
  have e : digs (baseOf l) (l.drop (headOf l)) = (l.drop (headOf l)).take k := takeWhile_take h.all (fun b hb => by simpa [isDig] using he b hb)
  have e2 : ((l.drop (headOf l)).take k).length = k := by rw [List.length_take]; have := h.le; omega
  unfold numberL
  simp only [e, e2]
  by_cases hk : k = 0
  · subst hk; simp
  · rw [if_neg (fun h => by rw [h] at e2; simp at e2; omega), if_neg hk]
theorem base_cases (l : List Nat) : (baseOf l = 16 ∧ headOf l = 1) ∨ (baseOf l = 10 ∧ headOf l = 0) := by
  unfold baseOf headOf
  cases isHex l <;> simp
end Go.CharrefKit
namespace Go.Proofs.YtfjphhmbnhglcaaGreatDoor
open Go.RowKit Go.RunKit Go.CharrefKit Go.Lib

theorem replaced_run (w : World) : runFun Tryz.prog 50 180 #[] w = some (.slice (some ⟨w.heap.size, 0, none⟩) 27 27, w.alloc (.cells (cells2 repTab).toArray 173)) := by kernel_rfl
theorem repTab_len : repTab.length = 27 := by rfl
theorem replaced_block (w : World) : ∀ k p, repTab[k]? = some p → (w.alloc (.cells (cells2 repTab).toArray 173)).cell? ⟨w.heap.size, k * 2, none⟩ = some (.int .i32 p.1) ∧ (w.alloc (.cells (cells2 repTab).toArray 173)).cell? ⟨w.heap.size, k * 2 + 1, none⟩ = some (.int .i32 p.2) := by
  intro k p hk
  have := cells2_at hk
  exact ⟨by simp [go_sem, this.1], by simp [go_sem, this.2]⟩

set_option maxRecDepth 100000 in
set_option maxHeartbeats 2000000 in
theorem refNumber_any (s : ByteArray) (hsz : s.size ≤ 1099511627776) (w : World) :
    Calls Tryz.prog 152 #[.string s] w fun e w' => e = .returned (refV (numberL (natsOf s))) ∧ Below w.heap.size w w' := by
  have H1 := Lib.hid (fun w => begins_any s ⟨#[120]⟩ w)
  have H2 := Lib.hid (fun w => begins_any s ⟨#[88]⟩ w)
  have e1 : hasPre s ⟨#[120]⟩ = [120].isPrefixOf (natsOf s) := rfl
  have e2 : hasPre s ⟨#[88]⟩ = [88].isPrefixOf (natsOf s) := rfl
  rw [e1] at H1
  rw [e2] at H2
  clear e1 e2
  go_enter Tryz.func152, Tryz.ntmps152
  go_upto_region 2 with (fail)
  go_cut [16] (fun c wc => c = .bool (isHex (natsOf s)) ∧ wc = w)
  case first =>
    rcases isHex_cases (natsOf s) with ⟨h, hx⟩ | ⟨hx, h⟩ | ⟨hx, h⟩ | ⟨q, l, h, hx, h1, h2⟩
    · have a1 : [120].isPrefixOf (natsOf s) = false := by rw [h]; rfl
      have a2 : [88].isPrefixOf (natsOf s) = false := by rw [h]; rfl
      rw [a1] at H1
      rw [a2] at H2
      have HX := Lib.hid hx
      clear h hx a1 a2
      go_wp2_with (first
        | (go_at_call 151; refine (H1.out _).mono ?_; rintro e w1 ⟨rfl, rfl⟩; clear H1)
        | (go_at_call 151; refine (H2.out _).mono ?_; rintro e w1 ⟨rfl, rfl⟩))
      go_meet
      exact ⟨by rw [HX.out], rfl⟩
    · have a1 : [120].isPrefixOf (natsOf s) = true := by
        cases hl : natsOf s with
        | nil => rw [hl] at h; simp at h
        | cons q l => rw [hl] at h; simp only [List.head?_cons, Option.some.injEq] at h; subst h; rfl
      have a2 : [88].isPrefixOf (natsOf s) = false := by
        cases hl : natsOf s with
        | nil => rw [hl] at h; simp at h
        | cons q l => rw [hl] at h; simp only [List.head?_cons, Option.some.injEq] at h; subst h; rfl
      rw [a1] at H1
      rw [a2] at H2
      have HX := Lib.hid hx
      clear h hx a1 a2
      go_wp2_with (first
        | (go_at_call 151; refine (H1.out _).mono ?_; rintro e w1 ⟨rfl, rfl⟩; clear H1)
        | (go_at_call 151; refine (H2.out _).mono ?_; rintro e w1 ⟨rfl, rfl⟩))
      go_meet
      exact ⟨by rw [HX.out], rfl⟩
    · have a1 : [120].isPrefixOf (natsOf s) = false := by
        cases hl : natsOf s with
        | nil => rw [hl] at h; simp at h
        | cons q l => rw [hl] at h; simp only [List.head?_cons, Option.some.injEq] at h; subst h; rfl
      have a2 : [88].isPrefixOf (natsOf s) = true := by
        cases hl : natsOf s with
        | nil => rw [hl] at h; simp at h
        | cons q l => rw [hl] at h; simp only [List.head?_cons, Option.some.injEq] at h; subst h; rfl
      rw [a1] at H1
      rw [a2] at H2
      have HX := Lib.hid hx
      clear h hx a1 a2
      go_wp2_with (first
        | (go_at_call 151; refine (H1.out _).mono ?_; rintro e w1 ⟨rfl, rfl⟩; clear H1)
        | (go_at_call 151; refine (H2.out _).mono ?_; rintro e w1 ⟨rfl, rfl⟩))
      go_meet
      exact ⟨by rw [HX.out], rfl⟩
    · have a1 : [120].isPrefixOf (natsOf s) = false := by
        rw [h]
        show ((120 == q) && List.isPrefixOf [] l) = false
        rw [beq_eq_false_iff_ne.2 (fun e : 120 = q => h1 e.symm)]; rfl
      have a2 : [88].isPrefixOf (natsOf s) = false := by
        rw [h]
        show ((88 == q) && List.isPrefixOf [] l) = false
        rw [beq_eq_false_iff_ne.2 (fun e : 88 = q => h2 e.symm)]; rfl
      rw [a1] at H1
      rw [a2] at H2
      have HX := Lib.hid hx
      clear h hx a1 a2
      go_wp2_with (first
        | (go_at_call 151; refine (H1.out _).mono ?_; rintro e w1 ⟨rfl, rfl⟩; clear H1)
        | (go_at_call 151; refine (H2.out _).mono ?_; rintro e w1 ⟨rfl, rfl⟩))
      go_meet
      exact ⟨by rw [HX.out], rfl⟩
  case rest =>
    obtain ⟨rfl, rfl⟩ := hcut
    clear H1 H2
    go_upto_if 16 with (fail)
    go_cut [5, 6] (fun a b wd => a = .int .i32 ((baseOf (natsOf s) : Nat) : Int) ∧ b = .int .i64 ((headOf (natsOf s) : Nat) : Int) ∧ wd = wc)
    case first =>
      cases hx : isHex (natsOf s)
      · have HX := Lib.hid hx
        clear hx
        go_wp2
        go_meet
        exact ⟨by unfold baseOf; rw [HX.out]; rfl, by unfold headOf; rw [HX.out]; rfl, rfl⟩
      · have HX := Lib.hid hx
        clear hx
        go_wp2
        go_meet
        exact ⟨by unfold baseOf; rw [HX.out]; rfl, by unfold headOf; rw [HX.out]; rfl, rfl⟩
    case rest =>
      obtain ⟨rfl, rfl, rfl⟩ := hcut
      have HBC := Lib.hid (base_cases (natsOf s))
      have hbr : 10 ≤ baseOf (natsOf s) ∧ baseOf (natsOf s) ≤ 16 ∧ headOf (natsOf s) ≤ 1 := by rcases HBC.out with ⟨a, b⟩ | ⟨a, b⟩ <;> omega
      obtain ⟨L, hL⟩ : ∃ L, (natsOf s).drop (headOf (natsOf s)) = L := ⟨_, rfl⟩
      have hh1 : isHex (natsOf s) = true → 1 ≤ s.size := fun h => by
        rw [← natsOf_length]
        cases hl : natsOf s with
        | nil => rw [hl] at h; cases h
        | cons q l => simp
      have HL : Hid (∀ k, (natsOf s)[headOf (natsOf s) + k]? = L[k]?) := Lib.hid (fun k => by rw [← hL, List.getElem?_drop])
      have HLL : Hid (L.length = s.size - headOf (natsOf s) ∧ headOf (natsOf s) ≤ s.size) := Lib.hid (by
        refine ⟨by rw [← hL, List.length_drop, natsOf_length], ?_⟩
        unfold headOf
        split
        · rename_i h; exact hh1 h
        · omega)
      have HLD := Lib.hid hL
      clear hL hh1 hbr
      rcases HBC.out with ⟨hB, hH⟩ | ⟨hB, hH⟩
      · have HAT : Hid (∀ k, (natsOf s)[k + 1]? = L[k]?) := Lib.hid (fun k => by have := HL.out k; rw [hH] at this; rw [← this]; congr 1; omega)
        have hLs : L.length + 1 = s.size := by have := HLL.out; rw [hH] at this; omega
        have HFIN : Hid (∀ k c, NumR 16 L k c → (∀ x, L[k]? = some x → ¬ digitV x < 16) → refV (numberL (natsOf s)) = if k = 0 then .tuple #[.int .i32 0, .int .i64 0, .bool false] else .tuple #[.int .i32 (looked (fixed c)), .int .i64 (if L[k]? = some 59 then (k : Int) + 1 + 1 else (k : Int) + 1), .bool true]) := Lib.hid (fun k c h1 h2 => by
          have := NumR.fin (l := natsOf s) (k := k) (c := c) (by rw [hB, HLD.out]; exact h1) (by rw [hB, HLD.out]; exact h2)
          rw [this, h1.sum, looked_charOf, hB, HLD.out]
          by_cases hk0 : k = 0
          · rw [if_pos hk0, if_pos hk0]; rfl
          · rw [if_neg hk0, if_neg hk0, HL.out k, hH]
            unfold refV
            simp only
            split
            · rw [show ((1 + k + 1 : Nat) : Int) = (k : Int) + 1 + 1 by omega]
            · rw [show ((1 + k + 0 : Nat) : Int) = (k : Int) + 1 by omega])
        rw [hB, hH, show ((16 : Nat) : Int) = 16 from rfl, show ((1 : Nat) : Int) = 1 from rfl]
        clear hB hH HL HLL HLD
        go_upto_block 0 with (fail)
        go_cut [6, 8] (fun a n wd => ∃ k c : Nat, a = .int .i64 ((k : Int) + 1) ∧ n = .int .i32 (c : Nat) ∧ Hid (NumR 16 L k c) ∧ Hid (∀ x, L[k]? = some x → ¬ digitV x < 16) ∧ k ≤ L.length ∧ c ≤ 1114112 ∧ wd = wc)
        case first =>
          clear HFIN
          go_wp2
          go_loopw [6, 8] (fun a n wr => ∃ k c : Nat, a = .int .i64 ((k : Int) + 1) ∧ n = .int .i32 (c : Nat) ∧ Hid (NumR 16 L k c) ∧ k ≤ L.length ∧ c ≤ 1114112 ∧ wr = wc) (fun a _ _ => s.size - (RowKit.intOf a).toNat)
          case atStart => exact ⟨0, 0, by first | rfl | go_num, rfl, Lib.hid (NumR.zero _ _), Nat.zero_le _, by omega, by first | rfl | trivial⟩
          case round =>
            obtain ⟨k, c, rfl, rfl, HN, hk, hc, rfl⟩ := hrel
            by_cases hlt : k < L.length
            · obtain ⟨b, hbk⟩ := some_at (l := L) rfl hlt
              have hsl : k + 1 < s.size := by omega
              have hbs : (s[k + 1]'hsl).toNat = b := by
                have h1 := natsOf_at s (k + 1) hsl
                have h2 := HAT.out k
                rw [h1, hbk] at h2
                exact Option.some.inj h2
              have hslI : (k : Int) + 1 < s.size := by omega
              have hdg := fun w => refDigit_any (s[k + 1]'hsl).toNat (UInt8.toNat_lt _) w
              rw [show refDigV (s[k + 1]'hsl).toNat = refDigV b by rw [hbs]] at hdg
              by_cases hd : digitV b < 16
              · have e1 : refDigV b = ((digitV b : Nat) : Int) := by unfold refDigV; rw [if_pos (by omega)]
                rw [e1] at hdg
                have HX := Lib.hid (HN.out.next (by omega) hbk hd)
                have HDG := Lib.hid hdg
                generalize digitV b = d at *
                clear hbk hbs e1 hdg
                have hdI : (d : Int) < 16 := by omega
                go_wp2_with (go_at_call 179; refine (HDG.out _).mono ?_; rintro e w1 ⟨rfl, rfl⟩)
                exact ⟨⟨k + 1, min (c * 16 + d) 1114112, by go_num, by (congr 1; omega), HX, by omega, by omega, by first | rfl | trivial⟩, by simp [RowKit.intOf]; omega⟩
              · by_cases h16 : digitV b < 16
                · exact absurd h16 hd
                · have e1 : refDigV b = -1 := by unfold refDigV; rw [if_neg h16]
                  rw [e1] at hdg
                  have HDG := Lib.hid hdg
                  have HE : Hid (∀ x, L[k]? = some x → ¬ digitV x < 16) := Lib.hid (fun x hx => by rw [hbk] at hx; cases hx; exact hd)
                  clear hbk hbs e1 hdg
                  go_wp2_with (go_at_call 179; refine (HDG.out _).mono ?_; rintro e w1 ⟨rfl, rfl⟩)
                  go_meet
                  exact ⟨k, c, rfl, rfl, HN, HE, hk, hc, by first | rfl | trivial⟩
            · have hslI := eq_false (show ¬ (k : Int) + 1 < s.size by omega)
              have HE : Hid (∀ x, L[k]? = some x → ¬ digitV x < 16) := Lib.hid (fun x hx => by rw [List.getElem?_eq_none (by omega)] at hx; cases hx)
              go_wp2
              go_meet
              exact ⟨k, c, rfl, rfl, HN, HE, hk, hc, by first | rfl | trivial⟩
        case rest =>
          obtain ⟨k, c, rfl, rfl, HN, HE, hk, hc, rfl⟩ := hcut
          have HV := Lib.hid (HFIN.out k c HN.out HE.out)
          clear HN HE HFIN
          by_cases hk0 : k = 0
          · subst hk0
            go_wp2
            go_ret3
            exact ⟨by rw [HV.out]; rfl, Below.refl _ _⟩
          · have HV2 : Hid (refV (numberL (natsOf s)) = .tuple #[.int .i32 (looked (fixed c)), .int .i64 (if L[k]? = some 59 then (k : Int) + 1 + 1 else (k : Int) + 1), .bool true]) := Lib.hid (by rw [HV.out, if_neg hk0])
            clear HV
            have hkI : ¬ (k : Int) = 0 := by omega
            go_upto_region 11 with (fail)
            go_cut [60] (fun b wd => b = .bool (decide (L[k]? = some 59)) ∧ wd = wc)
            case first =>
              by_cases hlt : k < L.length
              · obtain ⟨b, hbk⟩ := some_at (l := L) rfl hlt
                have hsl : k + 1 < s.size := by omega
                have hbs : (s[k + 1]'hsl).toNat = b := by
                  have h1 := natsOf_at s (k + 1) hsl
                  have h2 := HAT.out k
                  rw [h1, hbk] at h2
                  exact Option.some.inj h2
                have hslI : (k : Int) + 1 < s.size := by omega
                by_cases h59 : b = 59
                · have hd : decide (L[k]? = some 59) = true := decide_eq_true (by rw [hbk, h59])
                  have h9 : ((((s[k + 1]'hsl).toNat : Nat) : Int) == 59) = true := beq_iff_eq.2 (by rw [hbs, h59]; rfl)
                  have HD9 := Lib.hid hd
                  clear hbk hbs h59 hd HV2
                  go_wp2
                  go_meet
                  exact ⟨by rw [HD9.out], by first | rfl | trivial⟩
                · have hd : decide (L[k]? = some 59) = false := decide_eq_false (by rw [hbk]; exact fun e => h59 (Option.some.inj e))
                  have h9 : ((((s[k + 1]'hsl).toNat : Nat) : Int) == 59) = false := beq_eq_false_iff_ne.2 (by rw [hbs]; omega)
                  have HD9 := Lib.hid hd
                  clear hbk hbs h59 hd HV2
                  go_wp2
                  go_meet
                  exact ⟨by rw [HD9.out], by first | rfl | trivial⟩
              · have hslI := eq_false (show ¬ (k : Int) + 1 < s.size by omega)
                have HD9 : Hid (decide (L[k]? = some 59) = false) := Lib.hid (decide_eq_false (by rw [List.getElem?_eq_none (by omega)]; exact fun e => by cases e))
                clear HV2
                go_wp2
                go_meet
                exact ⟨by rw [HD9.out], by first | rfl | trivial⟩
            case rest =>
              obtain ⟨rfl, rfl⟩ := hcut
              obtain ⟨A, hA⟩ : ∃ A : Int, Hid (A = if L[k]? = some 59 then (k : Int) + 1 + 1 else (k : Int) + 1) := ⟨_, Lib.hid rfl⟩
              rw [← hA.out] at HV2
              go_upto_if 60 with (fail)
              go_cut [6] (fun a wd => a = .int .i64 A ∧ wd = wc)
              case first =>
                by_cases h59 : L[k]? = some 59
                · have hA2 : Hid (A = (k : Int) + 1 + 1) := Lib.hid (by rw [hA.out, if_pos h59])
                  rw [decide_eq_true h59]
                  clear h59 hA HV2
                  go_wp2
                  go_meet
                  exact ⟨by rw [hA2.out], by first | rfl | trivial⟩
                · have hA2 : Hid (A = (k : Int) + 1) := Lib.hid (by rw [hA.out, if_neg h59])
                  rw [decide_eq_false h59]
                  clear h59 hA HV2
                  go_wp2
                  go_meet
                  exact ⟨by rw [hA2.out], by first | rfl | trivial⟩
              case rest =>
                obtain ⟨rfl, rfl⟩ := hcut
                clear hA HAT
                go_upto_region 13 with (fail)
                go_cut [76] (fun b wd => b = .bool (decide (c = 0 ∨ 1114111 < c ∨ (55296 ≤ c ∧ c ≤ 57343))) ∧ wd = wc)
                case first =>
                  clear HV2
                  by_cases a3 : c = 0
                  · have b3 : ((c : Int) == 0) = true := by rw [a3]; rfl
                    have H3 := Lib.hid a3
                    clear a3
                    go_wp2
                    go_meet
                    exact ⟨congrArg Value.bool (decide_eq_true (Or.inl H3.out)).symm, by first | rfl | trivial⟩
                  · have b3 : ((c : Int) == 0) = false := beq_eq_false_iff_ne.2 (by omega)
                    by_cases a4 : (1114111 : Int) < c <;> by_cases a5 : (55296 : Int) ≤ c <;> by_cases a6 : (c : Int) ≤ 57343
                    all_goals (try (exfalso; omega))
                    all_goals
                      go_wp2
                      go_meet
                      first
                        | exact ⟨congrArg Value.bool (decide_eq_true (by omega)).symm, by first | rfl | trivial⟩
                        | exact ⟨congrArg Value.bool (decide_eq_false (by omega)).symm, by first | rfl | trivial⟩
                case rest =>
                  obtain ⟨rfl, rfl⟩ := hcut
                  go_upto_if 76 with (fail)
                  go_cut [8] (fun n wd => n = .int .i32 ((fixed c : Nat) : Int) ∧ wd = wc)
                  case first =>
                    clear HV2
                    by_cases hbad : c = 0 ∨ 1114111 < c ∨ (55296 ≤ c ∧ c ≤ 57343)
                    · have hf : Hid (fixed c = 65533) := Lib.hid (by unfold fixed; rw [if_pos hbad])
                      rw [decide_eq_true hbad]
                      clear hbad
                      go_wp2
                      go_meet
                      exact ⟨by rw [hf.out]; rfl, by first | rfl | trivial⟩
                    · have hf : Hid (fixed c = c) := Lib.hid (by unfold fixed; rw [if_neg hbad])
                      rw [decide_eq_false hbad]
                      clear hbad
                      go_wp2
                      go_meet
                      exact ⟨by rw [hf.out], by first | rfl | trivial⟩
                  case rest =>
                    obtain ⟨rfl, rfl⟩ := hcut
                    generalize fixed c = f at *
                    go_wp2_with (go_at_call 180; refine (calls_of_run (replaced_run _)).mono ?_; rintro e w' ⟨rfl, rfl⟩)
                    have hb : Below wc.heap.size wc (wc.alloc (.cells (cells2 repTab).toArray 173)) := (Below.refl _ _).alloc (Nat.le_refl _) _
                    have HA := Lib.hid (replaced_block wc)
                    generalize wc.alloc (.cells (cells2 repTab).toArray 173) = W at *
                    go_loop [10] (fun i => ∃ j : Nat, j ≤ 27 ∧ i = .int .i64 j ∧ NoneTill (isRep f) repTab j) (fun i => 27 - (RowKit.intOf i).toNat)
                    case atStart => exact ⟨0, by omega, rfl, noneTill_zero _ _⟩
                    case round =>
                      obtain ⟨j, hj, rfl, hno⟩ := hrel
                      have Hn := Lib.hid hno; clear hno
                      by_cases hlt : j < 27
                      · obtain ⟨⟨p1, p2⟩, hp⟩ := some_at repTab_len hlt
                        obtain ⟨d1, d2⟩ := HA.out j _ hp
                        have Hp := Lib.hid hp; clear hp
                        by_cases hq : p1 = (f : Int)
                        · have HL2 : Hid (looked f = p2) := Lib.hid (by unfold looked; rw [find_at Hn.out Hp.out (by simp [isRep, hq])])
                          subst hq
                          go_wp2
                          go_ret3
                          exact ⟨by rw [HV2.out, HL2.out]; rfl, hb⟩
                        · have hqb : (p1 == (f : Int)) = false := beq_eq_false_iff_ne.2 hq
                          have HN2 := Lib.hid (noneTill_succ Hn.out Hp.out (show isRep f (p1, p2) = false from hqb))
                          go_wp2
                          exact ⟨⟨j + 1, by omega, by go_num, HN2.out⟩, by simp [RowKit.intOf]; omega⟩
                      · have HL2 : Hid (looked f = (f : Int)) := Lib.hid (by unfold looked; rw [find_not Hn.out (by rw [repTab_len]; omega)])
                        go_wp2
                        go_ret3
                        exact ⟨by rw [HV2.out, HL2.out]; rfl, hb⟩
      · have HAT : Hid (∀ k, (natsOf s)[k]? = L[k]?) := Lib.hid (fun k => by have := HL.out k; rw [hH] at this; rw [← this]; congr 1; omega)
        have hLs : L.length + 0 = s.size := by have := HLL.out; rw [hH] at this; omega
        have HFIN : Hid (∀ k c, NumR 10 L k c → (∀ x, L[k]? = some x → ¬ digitV x < 10) → refV (numberL (natsOf s)) = if k = 0 then .tuple #[.int .i32 0, .int .i64 0, .bool false] else .tuple #[.int .i32 (looked (fixed c)), .int .i64 (if L[k]? = some 59 then (k : Int) + 1 else (k : Int)), .bool true]) := Lib.hid (fun k c h1 h2 => by
          have := NumR.fin (l := natsOf s) (k := k) (c := c) (by rw [hB, HLD.out]; exact h1) (by rw [hB, HLD.out]; exact h2)
          rw [this, h1.sum, looked_charOf, hB, HLD.out]
          by_cases hk0 : k = 0
          · rw [if_pos hk0, if_pos hk0]; rfl
          · rw [if_neg hk0, if_neg hk0, HL.out k, hH]
            unfold refV
            simp only
            split
            · rw [show ((0 + k + 1 : Nat) : Int) = (k : Int) + 1 by omega]
            · rw [show ((0 + k + 0 : Nat) : Int) = (k : Int) by omega])
        rw [hB, hH, show ((10 : Nat) : Int) = 10 from rfl, show ((0 : Nat) : Int) = 0 from rfl]
        clear hB hH HL HLL HLD
        go_upto_block 0 with (fail)
        go_cut [6, 8] (fun a n wd => ∃ k c : Nat, a = .int .i64 ((k : Int)) ∧ n = .int .i32 (c : Nat) ∧ Hid (NumR 10 L k c) ∧ Hid (∀ x, L[k]? = some x → ¬ digitV x < 10) ∧ k ≤ L.length ∧ c ≤ 1114112 ∧ wd = wc)
        case first =>
          clear HFIN
          go_wp2
          go_loopw [6, 8] (fun a n wr => ∃ k c : Nat, a = .int .i64 ((k : Int)) ∧ n = .int .i32 (c : Nat) ∧ Hid (NumR 10 L k c) ∧ k ≤ L.length ∧ c ≤ 1114112 ∧ wr = wc) (fun a _ _ => s.size - (RowKit.intOf a).toNat)
          case atStart => exact ⟨0, 0, by first | rfl | go_num, rfl, Lib.hid (NumR.zero _ _), Nat.zero_le _, by omega, by first | rfl | trivial⟩
          case round =>
            obtain ⟨k, c, rfl, rfl, HN, hk, hc, rfl⟩ := hrel
            by_cases hlt : k < L.length
            · obtain ⟨b, hbk⟩ := some_at (l := L) rfl hlt
              have hsl : k < s.size := by omega
              have hbs : (s[k]'hsl).toNat = b := by
                have h1 := natsOf_at s (k) hsl
                have h2 := HAT.out k
                rw [h1, hbk] at h2
                exact Option.some.inj h2
              have hslI : (k : Int) < s.size := by omega
              have hdg := fun w => refDigit_any (s[k]'hsl).toNat (UInt8.toNat_lt _) w
              rw [show refDigV (s[k]'hsl).toNat = refDigV b by rw [hbs]] at hdg
              by_cases hd : digitV b < 10
              · have e1 : refDigV b = ((digitV b : Nat) : Int) := by unfold refDigV; rw [if_pos (by omega)]
                rw [e1] at hdg
                have HX := Lib.hid (HN.out.next (by omega) hbk hd)
                have HDG := Lib.hid hdg
                generalize digitV b = d at *
                clear hbk hbs e1 hdg
                have hdI : (d : Int) < 10 := by omega
                go_wp2_with (go_at_call 179; refine (HDG.out _).mono ?_; rintro e w1 ⟨rfl, rfl⟩)
                exact ⟨⟨k + 1, min (c * 10 + d) 1114112, by go_num, by (congr 1; omega), HX, by omega, by omega, by first | rfl | trivial⟩, by simp [RowKit.intOf]; omega⟩
              · by_cases h16 : digitV b < 16
                · have e1 : refDigV b = ((digitV b : Nat) : Int) := by unfold refDigV; rw [if_pos h16]
                  rw [e1] at hdg
                  have HDG := Lib.hid hdg
                  have HE : Hid (∀ x, L[k]? = some x → ¬ digitV x < 10) := Lib.hid (fun x hx => by rw [hbk] at hx; cases hx; exact hd)
                  generalize digitV b = d at *
                  clear hbk hbs e1 hdg
                  have hdI := eq_false (show ¬ (d : Int) < 10 by omega)
                  go_wp2_with (go_at_call 179; refine (HDG.out _).mono ?_; rintro e w1 ⟨rfl, rfl⟩)
                  go_meet
                  exact ⟨k, c, rfl, rfl, HN, HE, hk, hc, by first | rfl | trivial⟩
                · have e1 : refDigV b = -1 := by unfold refDigV; rw [if_neg h16]
                  rw [e1] at hdg
                  have HDG := Lib.hid hdg
                  have HE : Hid (∀ x, L[k]? = some x → ¬ digitV x < 10) := Lib.hid (fun x hx => by rw [hbk] at hx; cases hx; exact hd)
                  clear hbk hbs e1 hdg
                  go_wp2_with (go_at_call 179; refine (HDG.out _).mono ?_; rintro e w1 ⟨rfl, rfl⟩)
                  go_meet
                  exact ⟨k, c, rfl, rfl, HN, HE, hk, hc, by first | rfl | trivial⟩
            · have hslI := eq_false (show ¬ (k : Int) < s.size by omega)
              have HE : Hid (∀ x, L[k]? = some x → ¬ digitV x < 10) := Lib.hid (fun x hx => by rw [List.getElem?_eq_none (by omega)] at hx; cases hx)
              go_wp2
              go_meet
              exact ⟨k, c, rfl, rfl, HN, HE, hk, hc, by first | rfl | trivial⟩
        case rest =>
          obtain ⟨k, c, rfl, rfl, HN, HE, hk, hc, rfl⟩ := hcut
          have HV := Lib.hid (HFIN.out k c HN.out HE.out)
          clear HN HE HFIN
          by_cases hk0 : k = 0
          · subst hk0
            go_wp2
            go_ret3
            exact ⟨by rw [HV.out]; rfl, Below.refl _ _⟩
          · have HV2 : Hid (refV (numberL (natsOf s)) = .tuple #[.int .i32 (looked (fixed c)), .int .i64 (if L[k]? = some 59 then (k : Int) + 1 else (k : Int)), .bool true]) := Lib.hid (by rw [HV.out, if_neg hk0])
            clear HV
            have hkI : ¬ (k : Int) = 0 := by omega
            go_upto_region 11 with (fail)
            go_cut [60] (fun b wd => b = .bool (decide (L[k]? = some 59)) ∧ wd = wc)
            case first =>
              by_cases hlt : k < L.length
              · obtain ⟨b, hbk⟩ := some_at (l := L) rfl hlt
                have hsl : k < s.size := by omega
                have hbs : (s[k]'hsl).toNat = b := by
                  have h1 := natsOf_at s (k) hsl
                  have h2 := HAT.out k
                  rw [h1, hbk] at h2
                  exact Option.some.inj h2
                have hslI : (k : Int) < s.size := by omega
                by_cases h59 : b = 59
                · have hd : decide (L[k]? = some 59) = true := decide_eq_true (by rw [hbk, h59])
                  have h9 : ((((s[k]'hsl).toNat : Nat) : Int) == 59) = true := beq_iff_eq.2 (by rw [hbs, h59]; rfl)
                  have HD9 := Lib.hid hd
                  clear hbk hbs h59 hd HV2
                  go_wp2
                  go_meet
                  exact ⟨by rw [HD9.out], by first | rfl | trivial⟩
                · have hd : decide (L[k]? = some 59) = false := decide_eq_false (by rw [hbk]; exact fun e => h59 (Option.some.inj e))
                  have h9 : ((((s[k]'hsl).toNat : Nat) : Int) == 59) = false := beq_eq_false_iff_ne.2 (by rw [hbs]; omega)
                  have HD9 := Lib.hid hd
                  clear hbk hbs h59 hd HV2
                  go_wp2
                  go_meet
                  exact ⟨by rw [HD9.out], by first | rfl | trivial⟩
              · have hslI := eq_false (show ¬ (k : Int) < s.size by omega)
                have HD9 : Hid (decide (L[k]? = some 59) = false) := Lib.hid (decide_eq_false (by rw [List.getElem?_eq_none (by omega)]; exact fun e => by cases e))
                clear HV2
                go_wp2
                go_meet
                exact ⟨by rw [HD9.out], by first | rfl | trivial⟩
            case rest =>
              obtain ⟨rfl, rfl⟩ := hcut
              obtain ⟨A, hA⟩ : ∃ A : Int, Hid (A = if L[k]? = some 59 then (k : Int) + 1 else (k : Int)) := ⟨_, Lib.hid rfl⟩
              rw [← hA.out] at HV2
              go_upto_if 60 with (fail)
              go_cut [6] (fun a wd => a = .int .i64 A ∧ wd = wc)
              case first =>
                by_cases h59 : L[k]? = some 59
                · have hA2 : Hid (A = (k : Int) + 1) := Lib.hid (by rw [hA.out, if_pos h59])
                  rw [decide_eq_true h59]
                  clear h59 hA HV2
                  go_wp2
                  go_meet
                  exact ⟨by rw [hA2.out], by first | rfl | trivial⟩
                · have hA2 : Hid (A = (k : Int)) := Lib.hid (by rw [hA.out, if_neg h59])
                  rw [decide_eq_false h59]
                  clear h59 hA HV2
                  go_wp2
                  go_meet
                  exact ⟨by rw [hA2.out], by first | rfl | trivial⟩
              case rest =>
                obtain ⟨rfl, rfl⟩ := hcut
                clear hA HAT
                go_upto_region 13 with (fail)
                go_cut [76] (fun b wd => b = .bool (decide (c = 0 ∨ 1114111 < c ∨ (55296 ≤ c ∧ c ≤ 57343))) ∧ wd = wc)
                case first =>
                  clear HV2
                  by_cases a3 : c = 0
                  · have b3 : ((c : Int) == 0) = true := by rw [a3]; rfl
                    have H3 := Lib.hid a3
                    clear a3
                    go_wp2
                    go_meet
                    exact ⟨congrArg Value.bool (decide_eq_true (Or.inl H3.out)).symm, by first | rfl | trivial⟩
                  · have b3 : ((c : Int) == 0) = false := beq_eq_false_iff_ne.2 (by omega)
                    by_cases a4 : (1114111 : Int) < c <;> by_cases a5 : (55296 : Int) ≤ c <;> by_cases a6 : (c : Int) ≤ 57343
                    all_goals (try (exfalso; omega))
                    all_goals
                      go_wp2
                      go_meet
                      first
                        | exact ⟨congrArg Value.bool (decide_eq_true (by omega)).symm, by first | rfl | trivial⟩
                        | exact ⟨congrArg Value.bool (decide_eq_false (by omega)).symm, by first | rfl | trivial⟩
                case rest =>
                  obtain ⟨rfl, rfl⟩ := hcut
                  go_upto_if 76 with (fail)
                  go_cut [8] (fun n wd => n = .int .i32 ((fixed c : Nat) : Int) ∧ wd = wc)
                  case first =>
                    clear HV2
                    by_cases hbad : c = 0 ∨ 1114111 < c ∨ (55296 ≤ c ∧ c ≤ 57343)
                    · have hf : Hid (fixed c = 65533) := Lib.hid (by unfold fixed; rw [if_pos hbad])
                      rw [decide_eq_true hbad]
                      clear hbad
                      go_wp2
                      go_meet
                      exact ⟨by rw [hf.out]; rfl, by first | rfl | trivial⟩
                    · have hf : Hid (fixed c = c) := Lib.hid (by unfold fixed; rw [if_neg hbad])
                      rw [decide_eq_false hbad]
                      clear hbad
                      go_wp2
                      go_meet
                      exact ⟨by rw [hf.out], by first | rfl | trivial⟩
                  case rest =>
                    obtain ⟨rfl, rfl⟩ := hcut
                    generalize fixed c = f at *
                    go_wp2_with (go_at_call 180; refine (calls_of_run (replaced_run _)).mono ?_; rintro e w' ⟨rfl, rfl⟩)
                    have hb : Below wc.heap.size wc (wc.alloc (.cells (cells2 repTab).toArray 173)) := (Below.refl _ _).alloc (Nat.le_refl _) _
                    have HA := Lib.hid (replaced_block wc)
                    generalize wc.alloc (.cells (cells2 repTab).toArray 173) = W at *
                    go_loop [10] (fun i => ∃ j : Nat, j ≤ 27 ∧ i = .int .i64 j ∧ NoneTill (isRep f) repTab j) (fun i => 27 - (RowKit.intOf i).toNat)
                    case atStart => exact ⟨0, by omega, rfl, noneTill_zero _ _⟩
                    case round =>
                      obtain ⟨j, hj, rfl, hno⟩ := hrel
                      have Hn := Lib.hid hno; clear hno
                      by_cases hlt : j < 27
                      · obtain ⟨⟨p1, p2⟩, hp⟩ := some_at repTab_len hlt
                        obtain ⟨d1, d2⟩ := HA.out j _ hp
                        have Hp := Lib.hid hp; clear hp
                        by_cases hq : p1 = (f : Int)
                        · have HL2 : Hid (looked f = p2) := Lib.hid (by unfold looked; rw [find_at Hn.out Hp.out (by simp [isRep, hq])])
                          subst hq
                          go_wp2
                          go_ret3
                          exact ⟨by rw [HV2.out, HL2.out]; rfl, hb⟩
                        · have hqb : (p1 == (f : Int)) = false := beq_eq_false_iff_ne.2 hq
                          have HN2 := Lib.hid (noneTill_succ Hn.out Hp.out (show isRep f (p1, p2) = false from hqb))
                          go_wp2
                          exact ⟨⟨j + 1, by omega, by go_num, HN2.out⟩, by simp [RowKit.intOf]; omega⟩
                      · have HL2 : Hid (looked f = (f : Int)) := Lib.hid (by unfold looked; rw [find_not Hn.out (by rw [repTab_len]; omega)])
                        go_wp2
                        go_ret3
                        exact ⟨by rw [HV2.out, HL2.out]; rfl, hb⟩
end Go.Proofs.YtfjphhmbnhglcaaGreatDoor
