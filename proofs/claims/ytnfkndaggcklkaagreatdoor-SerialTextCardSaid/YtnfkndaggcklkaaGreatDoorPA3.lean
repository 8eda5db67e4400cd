/-
  References by number, walked: the program's way. Conditions: the text begins with &#.
  Names, asked for from the longest on: what is found is what the document says. No conditions.
-/
import Derived.Test.YtnfkndaggcklkaaGreatDoorPA2
import Derived.Test.YtnfkndaggcklkaaGreatDoorCMath
namespace Go.CharrefKit
open Go

theorem valueOf_snoc (base : Nat) (ds : List Nat) (d : Nat) : valueOf base (ds ++ [d]) = valueOf base ds * base + digitV d := by simp [valueOf]

/-- The first k of the digits are summed; what is past all characters stays so. -/
structure NumAt (base : Nat) (l : List Nat) (k c : Nat) : Prop where
  all : ∀ b ∈ l.take k, isDig base b = true
  le : k ≤ l.length
  sum : (c ≤ 1114111 ∧ c = valueOf base (l.take k)) ∨ (1114111 < c ∧ c ≤ 17825791 ∧ 1114111 < valueOf base (l.take k))
theorem NumAt.zero (base : Nat) (l : List Nat) : NumAt base l 0 0 := ⟨by simp, Nat.zero_le _, .inl ⟨by omega, by simp [valueOf]⟩⟩
theorem NumAt.small {base : Nat} {l : List Nat} {k c : Nat} (h : NumAt base l k c) : c ≤ 17825791 := by rcases h.sum with h | h <;> omega
theorem take_snoc {l : List Nat} {k b : Nat} (hb : l[k]? = some b) : l.take (k + 1) = l.take k ++ [b] := by rw [List.take_add_one, hb]; rfl
theorem NumAt.next {base : Nat} {l : List Nat} {k c b : Nat} (h : NumAt base l k c) (hbase : 1 ≤ base ∧ base ≤ 16) (hb : l[k]? = some b) (hd : digitV b < base) (hc : c ≤ 1114111) : NumAt base l (k + 1) (c * base + digitV b) := by
  have hlt := (List.getElem?_eq_some_iff.1 hb).1
  have hv : c = valueOf base (l.take k) := by rcases h.sum with h | h <;> omega
  refine ⟨fun x hx => ?_, hlt, ?_⟩
  · rw [take_snoc hb, List.mem_append] at hx
    rcases hx with hx | hx
    · exact h.all x hx
    · simp at hx; subst hx; simpa [isDig] using hd
  · rw [take_snoc hb, valueOf_snoc, ← hv]
    have : c * base ≤ 1114111 * 16 := Nat.mul_le_mul hc hbase.2
    by_cases hh : c * base + digitV b ≤ 1114111
    · exact .inl ⟨hh, rfl⟩
    · exact .inr ⟨by omega, by omega, by omega⟩
theorem NumAt.stay {base : Nat} {l : List Nat} {k c b : Nat} (h : NumAt base l k c) (hbase : 1 ≤ base ∧ base ≤ 16) (hb : l[k]? = some b) (hd : digitV b < base) (hc : 1114111 < c) : NumAt base l (k + 1) c := by
  have hlt := (List.getElem?_eq_some_iff.1 hb).1
  have hv : c ≤ 17825791 ∧ 1114111 < valueOf base (l.take k) := by rcases h.sum with h | h <;> omega
  refine ⟨fun x hx => ?_, hlt, .inr ⟨hc, hv.1, ?_⟩⟩
  · rw [take_snoc hb, List.mem_append] at hx
    rcases hx with hx | hx
    · exact h.all x hx
    · simp at hx; subst hx; simpa [isDig] using hd
  · rw [take_snoc hb, valueOf_snoc]
    have : valueOf base (l.take k) * 1 ≤ valueOf base (l.take k) * base := Nat.mul_le_mul (Nat.le_refl _) hbase.1
    omega
theorem takeWhile_take {α : Type} {p : α → Bool} : ∀ {l : List α} {k : Nat}, (∀ b ∈ l.take k, p b = true) → (∀ b, l[k]? = some b → p b = false) → l.takeWhile p = l.take k
  | [], k, _, _ => by simp
  | x :: r, 0, _, h => by
    have := h x rfl
    simp [List.takeWhile, this]
  | x :: r, k + 1, h1, h2 => by
    have hx := h1 x (by simp)
    rw [List.takeWhile_cons, if_pos hx, List.take_succ_cons, takeWhile_take (fun b (hb : b ∈ r.take k) => h1 b (by rw [List.take_succ_cons]; exact List.mem_cons_of_mem _ hb)) (fun b hb => h2 b (by simpa using hb))]
theorem charOf_big {a b : Nat} (ha : 1114111 < a) (hb : 1114111 < b) : charOf a = charOf b := by
  unfold charOf
  rw [if_neg (by omega), if_pos (by omega), if_neg (by omega), if_pos (by omega)]
theorem NumAt.char {base : Nat} {l : List Nat} {k c : Nat} (h : NumAt base l k c) : charOf c = charOf (valueOf base (l.take k)) := by
  rcases h.sum with h | h
  · rw [← h.2]
  · exact charOf_big h.1 h.2.2
theorem NumAt.done {base : Nat} {l : List Nat} {k c : Nat} (h : NumAt base l k c) (he : ∀ b, l[k]? = some b → ¬ digitV b < base) : digs base l = l.take k ∧ (l.take k).length = k :=
  ⟨takeWhile_take h.all (fun b hb => by simpa [isDig] using he b hb), by rw [List.length_take]; have := h.le; omega⟩
theorem number_none {attr : Bool} {r : List Nat} {c : Nat} (h : NumAt (baseOf r) (r.drop (headOf r)) 0 c) (he : ∀ b, (r.drop (headOf r))[0]? = some b → ¬ digitV b < baseOf r) : findL attr (38 :: 35 :: r) = noRef := by
  have e := (h.done he).1
  have hn : numberL r = noRef := by unfold numberL; rw [e]; simp
  rw [findL_num, hn]; rfl
theorem number_some {attr : Bool} {r : List Nat} {k c : Nat} (h : NumAt (baseOf r) (r.drop (headOf r)) k c) (he : ∀ b, (r.drop (headOf r))[k]? = some b → ¬ digitV b < baseOf r) (hk : 0 < k) :
    findL attr (38 :: 35 :: r) = ⟨charOf c, headOf r + k + (if r[headOf r + k]? = some 59 then 1 else 0) + 2, true⟩ := by
  obtain ⟨e, e2⟩ := h.done he
  have hn : numberL r = ⟨charOf c, headOf r + k + (if r[headOf r + k]? = some 59 then 1 else 0), true⟩ := by
    unfold numberL
    simp only [e, e2]
    rw [if_neg (fun h => by rw [h] at e2; simp at e2; omega), h.char]
  rw [findL_num, hn]; rfl
end Go.CharrefKit
namespace Go.Proofs.YtnfkndaggcklkaaGreatDoor
open Go.RowKit Go.RunKit Go.CharrefKit Go.Lib

def refV (x : Ref) : Value := .tuple #[.int .i32 ((x.char : Nat) : Int), .int .i64 ((x.len : Nat) : Int), .bool x.ok]
theorem semi_at (s : ByteArray) (n : Nat) : hasPre (s.extract n s.size) ⟨#[59]⟩ = decide ((natsOf s)[n]? = some 59) := by
  unfold hasPre
  rw [natsOf_drop]
  have e : natsOf ⟨#[59]⟩ = [59] := rfl
  rw [e]
  have h0 : (natsOf s)[n]? = ((natsOf s).drop n)[0]? := by rw [List.getElem?_drop, Nat.add_zero]
  rw [h0]
  cases (natsOf s).drop n with
  | nil => rfl
  | cons b t =>
    show ((59 == b) && List.isPrefixOf [] t) = decide (some b = some 59)
    by_cases h : b = 59
    · subst h; rfl
    · have h1 : (59 == b) = false := beq_eq_false_iff_ne.2 (fun e => h e.symm)
      rw [h1, decide_eq_false (fun e => h (Option.some.inj e))]
      rfl

set_option maxRecDepth 100000 in
set_option maxHeartbeats 4000000 in
theorem byNumber_empty (attr : Bool) (s : ByteArray) (r : List Nat) (hs : natsOf s = 38 :: 35 :: r) (_hsz : s.size ≤ 1099511627776) (w : World) (hr : r = []) (hx : isHex r = false) :
    Calls Tryz.prog 185 #[.string s] w fun e w' => e = .returned (refV (findL attr (natsOf s))) ∧ Below w.heap.size w w' := by
  have HS := Lib.hid hs
  have hsl := natsOf_length s
  rw [hs] at hsl
  simp only [List.length_cons] at hsl
  have hrl : r.length = 0 := by rw [hr]; rfl
  have hbase : baseOf r = 10 := by unfold baseOf; rw [hx]; rfl
  have hhead : headOf r = 0 := by unfold headOf; rw [hx]; rfl
  have HNUM : ∀ {k c : Nat}, NumAt 10 r k c → NumAt (baseOf r) (r.drop (headOf r)) k c := fun h => by rw [hbase, hhead]; exact h
  have HEND : ∀ {k : Nat}, (∀ b, r[k]? = some b → ¬ digitV b < 10) → ∀ b, (r.drop (headOf r))[k]? = some b → ¬ digitV b < baseOf r := fun h => by rw [hbase, hhead]; exact h
  have HHEAD := hhead
  have HAT : Hid (∀ k, (natsOf s)[k + 2]? = r[k]?) := Lib.hid (fun k => by rw [hs]; rfl)
  have HAT2 : Hid (∀ k, (natsOf s)[k + 2]? = r[headOf r + k]?) := Lib.hid (fun k => by rw [hs, hhead, Nat.zero_add]; rfl)
  have h2 : ¬ (2 : Int) < s.size := by omega
  have hF := eq_false h2
  clear hs
  go_enter Tryz.func185, Tryz.ntmps185
  go_wp2
  go_loopw [6, 7] (fun n c wr => ∃ k c' : Nat, n = .int .i64 ((k : Int) + 2) ∧ c = .int .i32 (c' : Nat) ∧ Hid (NumAt 10 r k c') ∧ k ≤ r.length ∧ c' ≤ 17825791 ∧ Below w.heap.size w wr) (fun n _ _ => s.size - (RowKit.intOf n).toNat)
  case atStart => exact ⟨0, 0, rfl, rfl, Lib.hid (NumAt.zero _ _), Nat.zero_le _, by omega, Below.refl _ _⟩
  case round =>
    obtain ⟨k, c, rfl, rfl, HN, hk, hc, hb⟩ := hrel
    by_cases hlt : k < r.length
    · exact absurd hlt (by omega)
    · have hslI := eq_false (show ¬ (k : Int) + 2 < s.size by omega)
      have HE : Hid (∀ b, r[k]? = some b → ¬ digitV b < 10) := Lib.hid (fun x hx => by rw [List.getElem?_eq_none (by omega)] at hx; cases hx)
      have HDG : True := trivial
      by_cases hk0 : k = 0
      · subst hk0
        have HV : Hid (refV (findL attr (natsOf s)) = .tuple #[.int .i32 0, .int .i64 0, .bool false]) := Lib.hid (by rw [HS.out, number_none (HNUM HN.out) (HEND HE.out)]; rfl)
        clear HN HE
        go_wp2
        go_ret3
        exact ⟨by rw [HV.out]; rfl, hb⟩
      · exact absurd hk0 (by omega)

set_option maxRecDepth 100000 in
set_option maxHeartbeats 4000000 in
theorem byNumber_dec (attr : Bool) (s : ByteArray) (r : List Nat) (hs : natsOf s = 38 :: 35 :: r) (hsz : s.size ≤ 1099511627776) (w : World) (q : Nat) (l : List Nat) (hq : r = q :: l) (hx : isHex r = false) (hq1' : q ≠ 120) (hq2' : q ≠ 88) :
    Calls Tryz.prog 185 #[.string s] w fun e w' => e = .returned (refV (findL attr (natsOf s))) ∧ Below w.heap.size w w' := by
  have HS := Lib.hid hs
  have hsl := natsOf_length s
  rw [hs] at hsl
  simp only [List.length_cons] at hsl
  have hrl : r.length = l.length + 1 := by rw [hq]; rfl
  have hbase : baseOf r = 10 := by unfold baseOf; rw [hx]; rfl
  have hhead : headOf r = 0 := by unfold headOf; rw [hx]; rfl
  have HNUM : ∀ {k c : Nat}, NumAt 10 r k c → NumAt (baseOf r) (r.drop (headOf r)) k c := fun h => by rw [hbase, hhead]; exact h
  have HEND : ∀ {k : Nat}, (∀ b, r[k]? = some b → ¬ digitV b < 10) → ∀ b, (r.drop (headOf r))[k]? = some b → ¬ digitV b < baseOf r := fun h => by rw [hbase, hhead]; exact h
  have HHEAD := hhead
  have HAT : Hid (∀ k, (natsOf s)[k + 2]? = r[k]?) := Lib.hid (fun k => by rw [hs]; rfl)
  have HAT2 : Hid (∀ k, (natsOf s)[k + 2]? = r[headOf r + k]?) := Lib.hid (fun k => by rw [hs, hhead, Nat.zero_add]; rfl)
  have h2 : 2 < s.size := by omega
  have h2I : (2 : Int) < s.size := by omega
  have hc2 : (s[2]'h2).toNat = q := by
    have h1 := natsOf_at s 2 h2
    rw [hs, hq] at h1
    exact (Option.some.inj h1).symm
  have hq1 : ((((s[2]'h2).toNat : Nat) : Int) == 120) = false := beq_eq_false_iff_ne.2 (by rw [hc2]; omega)
  have hq2 : ((((s[2]'h2).toNat : Nat) : Int) == 88) = false := beq_eq_false_iff_ne.2 (by rw [hc2]; omega)
  clear hc2
  clear hs
  go_enter Tryz.func185, Tryz.ntmps185
  go_wp2
  go_loopw [6, 7] (fun n c wr => ∃ k c' : Nat, n = .int .i64 ((k : Int) + 2) ∧ c = .int .i32 (c' : Nat) ∧ Hid (NumAt 10 r k c') ∧ k ≤ r.length ∧ c' ≤ 17825791 ∧ Below w.heap.size w wr) (fun n _ _ => s.size - (RowKit.intOf n).toNat)
  case atStart => exact ⟨0, 0, rfl, rfl, Lib.hid (NumAt.zero _ _), Nat.zero_le _, by omega, Below.refl _ _⟩
  case round =>
    obtain ⟨k, c, rfl, rfl, HN, hk, hc, hb⟩ := hrel
    by_cases hlt : k < r.length
    · obtain ⟨b, hbk⟩ := some_at (l := r) rfl hlt
      have hsl : k + 2 < s.size := by omega
      have hbs : (s[k + 2]'hsl).toNat = b := by
        have h1 := natsOf_at s (k + 2) hsl
        have h2 := HAT.out k
        rw [h1, hbk] at h2
        exact Option.some.inj h2
      have hslI : (k : Int) + 2 < s.size := by omega
      have HDG := Lib.hid (fun w => digit_any (s[k + 2]'hsl).toNat (UInt8.toNat_lt _) w)
      by_cases hd : digitV b < 10
      · have hdI : ((digitV (s[k + 2]'hsl).toNat : Nat) : Int) < 10 := by rw [hbs]; omega
        by_cases hcs : c ≤ 1114111
        · have hcI : (c : Int) ≤ 1114111 := by omega
          have HX := Lib.hid (HN.out.next ⟨by omega, by omega⟩ hbk hd hcs)
          have hcast : ((c * 10 + digitV b : Nat) : Int) = (c : Int) * 10 + ((digitV (s[k + 2]'hsl).toNat : Nat) : Int) := by rw [hbs]; omega
          have hsm := HX.out.small
          have HY := Lib.hid (And.intro hcast hsm)
          have hdr : ((digitV (s[k + 2]'hsl).toNat : Nat) : Int) ≤ 15 := by omega
          clear hbk hcast hsm hbs
          go_wp2_with (go_at_call 201; refine (HDG.out _).mono ?_; rintro e w1 ⟨rfl, rfl⟩)
          exact ⟨⟨k + 1, _, by go_num, by rw [HY.out.1], HX, by omega, HY.out.2, hb⟩, by simp [RowKit.intOf]; omega⟩
        · have hcI := eq_false (show ¬ (c : Int) ≤ 1114111 by omega)
          have HX := Lib.hid (HN.out.stay ⟨by omega, by omega⟩ hbk hd (by omega))
          clear hbk hbs
          go_wp2_with (go_at_call 201; refine (HDG.out _).mono ?_; rintro e w1 ⟨rfl, rfl⟩)
          exact ⟨⟨k + 1, _, by go_num, rfl, HX, by omega, hc, hb⟩, by simp [RowKit.intOf]; omega⟩
      · have hdI := eq_false (show ¬ ((digitV (s[k + 2]'hsl).toNat : Nat) : Int) < 10 by rw [hbs]; omega)
        have HE : Hid (∀ b, r[k]? = some b → ¬ digitV b < 10) := Lib.hid (fun x hx => by rw [hbk] at hx; cases hx; exact hd)
        clear hbk hbs
        by_cases hk0 : k = 0
        · subst hk0
          have HV : Hid (refV (findL attr (natsOf s)) = .tuple #[.int .i32 0, .int .i64 0, .bool false]) := Lib.hid (by rw [HS.out, number_none (HNUM HN.out) (HEND HE.out)]; rfl)
          clear HN HE
          go_wp2_with (go_at_call 201; refine (HDG.out _).mono ?_; rintro e w1 ⟨rfl, rfl⟩)
          go_ret3
          exact ⟨by rw [HV.out]; rfl, hb⟩
        · have hkne : ¬ (k : Int) = 0 := by omega
          have hsn := semi_at s (k + 2)
          have hat : (natsOf s)[k + 2]? = r[headOf r + k]? := HAT2.out k
          rw [hat] at hsn
          have HNB := Lib.hid (fun w => numbered_any c hc w)
          have hV := number_some (attr := attr) (HNUM HN.out) (HEND HE.out) (by omega)
          rw [← HS.out] at hV
          by_cases h59 : r[headOf r + k]? = some 59
          · rw [decide_eq_true h59] at hsn
            rw [if_pos h59] at hV
            have HP := Lib.hid (fun w => hasPrefix_any (s.extract (k + 2) s.size) ⟨#[59]⟩ w)
            rw [hsn] at HP
            have HV : Hid (refV (findL attr (natsOf s)) = .tuple #[.int .i32 ((charOf c : Nat) : Int), .int .i64 ((k : Int) + 2 + 1), .bool true]) := Lib.hid (by
              rw [hV]
              show Value.tuple #[.int .i32 ((charOf c : Nat) : Int), .int .i64 ((headOf r + k + 1 + 2 : Nat) : Int), .bool true] = _
              have e : ((headOf r + k + 1 + 2 : Nat) : Int) = (k : Int) + 2 + 1 := by omega
              rw [e])
            clear HN HE hsn hat h59 hV
            go_wp2_with (first
              | (go_at_call 201; refine (HDG.out _).mono ?_; rintro e w1 ⟨rfl, rfl⟩)
              | (go_at_call 109; refine (HP.out _).mono ?_; rintro e w2 ⟨rfl, rfl⟩)
              | (go_at_call 202; refine (HNB.out _).mono ?_; rintro e w3 ⟨rfl, hb3⟩))
            go_ret3
            exact ⟨by rw [HV.out]; rfl, hb.trans (hb3.mono hb.size)⟩
          · rw [decide_eq_false h59] at hsn
            rw [if_neg h59] at hV
            have HP := Lib.hid (fun w => hasPrefix_any (s.extract (k + 2) s.size) ⟨#[59]⟩ w)
            rw [hsn] at HP
            have HV : Hid (refV (findL attr (natsOf s)) = .tuple #[.int .i32 ((charOf c : Nat) : Int), .int .i64 ((k : Int) + 2), .bool true]) := Lib.hid (by
              rw [hV]
              show Value.tuple #[.int .i32 ((charOf c : Nat) : Int), .int .i64 ((headOf r + k + 0 + 2 : Nat) : Int), .bool true] = _
              have e : ((headOf r + k + 0 + 2 : Nat) : Int) = (k : Int) + 2 := by omega
              rw [e])
            clear HN HE hsn hat h59 hV
            go_wp2_with (first
              | (go_at_call 201; refine (HDG.out _).mono ?_; rintro e w1 ⟨rfl, rfl⟩)
              | (go_at_call 109; refine (HP.out _).mono ?_; rintro e w2 ⟨rfl, rfl⟩)
              | (go_at_call 202; refine (HNB.out _).mono ?_; rintro e w3 ⟨rfl, hb3⟩))
            go_ret3
            exact ⟨by rw [HV.out]; rfl, hb.trans (hb3.mono hb.size)⟩
    · have hslI := eq_false (show ¬ (k : Int) + 2 < s.size by omega)
      have HE : Hid (∀ b, r[k]? = some b → ¬ digitV b < 10) := Lib.hid (fun x hx => by rw [List.getElem?_eq_none (by omega)] at hx; cases hx)
      have HDG : True := trivial
      by_cases hk0 : k = 0
      · subst hk0
        exact absurd hlt (by omega)
      · have hkne : ¬ (k : Int) = 0 := by omega
        have hsn := semi_at s (k + 2)
        have hat : (natsOf s)[k + 2]? = r[headOf r + k]? := HAT2.out k
        rw [hat] at hsn
        have HNB := Lib.hid (fun w => numbered_any c hc w)
        have hV := number_some (attr := attr) (HNUM HN.out) (HEND HE.out) (by omega)
        rw [← HS.out] at hV
        by_cases h59 : r[headOf r + k]? = some 59
        · rw [decide_eq_true h59] at hsn
          rw [if_pos h59] at hV
          have HP := Lib.hid (fun w => hasPrefix_any (s.extract (k + 2) s.size) ⟨#[59]⟩ w)
          rw [hsn] at HP
          have HV : Hid (refV (findL attr (natsOf s)) = .tuple #[.int .i32 ((charOf c : Nat) : Int), .int .i64 ((k : Int) + 2 + 1), .bool true]) := Lib.hid (by
            rw [hV]
            show Value.tuple #[.int .i32 ((charOf c : Nat) : Int), .int .i64 ((headOf r + k + 1 + 2 : Nat) : Int), .bool true] = _
            have e : ((headOf r + k + 1 + 2 : Nat) : Int) = (k : Int) + 2 + 1 := by omega
            rw [e])
          clear HN HE hsn hat h59 hV
          go_wp2_with (first
            | (go_at_call 109; refine (HP.out _).mono ?_; rintro e w2 ⟨rfl, rfl⟩)
            | (go_at_call 202; refine (HNB.out _).mono ?_; rintro e w3 ⟨rfl, hb3⟩))
          go_ret3
          exact ⟨by rw [HV.out]; rfl, hb.trans (hb3.mono hb.size)⟩
        · rw [decide_eq_false h59] at hsn
          rw [if_neg h59] at hV
          have HP := Lib.hid (fun w => hasPrefix_any (s.extract (k + 2) s.size) ⟨#[59]⟩ w)
          rw [hsn] at HP
          have HV : Hid (refV (findL attr (natsOf s)) = .tuple #[.int .i32 ((charOf c : Nat) : Int), .int .i64 ((k : Int) + 2), .bool true]) := Lib.hid (by
            rw [hV]
            show Value.tuple #[.int .i32 ((charOf c : Nat) : Int), .int .i64 ((headOf r + k + 0 + 2 : Nat) : Int), .bool true] = _
            have e : ((headOf r + k + 0 + 2 : Nat) : Int) = (k : Int) + 2 := by omega
            rw [e])
          clear HN HE hsn hat h59 hV
          go_wp2_with (first
            | (go_at_call 109; refine (HP.out _).mono ?_; rintro e w2 ⟨rfl, rfl⟩)
            | (go_at_call 202; refine (HNB.out _).mono ?_; rintro e w3 ⟨rfl, hb3⟩))
          go_ret3
          exact ⟨by rw [HV.out]; rfl, hb.trans (hb3.mono hb.size)⟩

set_option maxRecDepth 100000 in
set_option maxHeartbeats 4000000 in
theorem byNumber_hex (attr : Bool) (s : ByteArray) (r : List Nat) (hs : natsOf s = 38 :: 35 :: r) (hsz : s.size ≤ 1099511627776) (w : World) (hx : isHex r = true) (hq : r.head? = some 120) :
    Calls Tryz.prog 185 #[.string s] w fun e w' => e = .returned (refV (findL attr (natsOf s))) ∧ Below w.heap.size w w' := by
  have HS := Lib.hid hs
  have hsl := natsOf_length s
  rw [hs] at hsl
  simp only [List.length_cons] at hsl
  have hbase : baseOf r = 16 := by unfold baseOf; rw [hx]; rfl
  have hhead : headOf r = 1 := by unfold headOf; rw [hx]; rfl
  obtain ⟨q, l, rfl⟩ : ∃ q l, r = q :: l := by
    cases r with
    | nil => cases hx
    | cons q l => exact ⟨q, l, rfl⟩
  simp only [List.length_cons] at hsl
  simp only [List.head?_cons, Option.some.injEq] at hq
  have HNUM : ∀ {k c : Nat}, NumAt 16 l k c → NumAt (baseOf (q :: l)) ((q :: l).drop (headOf (q :: l))) k c := fun h => by rw [hbase, hhead]; exact h
  have HEND : ∀ {k : Nat}, (∀ b, l[k]? = some b → ¬ digitV b < 16) → ∀ b, ((q :: l).drop (headOf (q :: l)))[k]? = some b → ¬ digitV b < baseOf (q :: l) := fun h => by rw [hbase, hhead]; exact h
  have HHEAD := hhead
  have HAT : Hid (∀ k, (natsOf s)[k + 3]? = l[k]?) := Lib.hid (fun k => by rw [hs]; rfl)
  have HAT2 : Hid (∀ k, (natsOf s)[k + 3]? = (q :: l)[headOf (q :: l) + k]?) := Lib.hid (fun k => by rw [hs, hhead, Nat.add_comm 1 k]; rfl)
  have h2 : 2 < s.size := by omega
  have h2I : (2 : Int) < s.size := by omega
  have hc2 : (s[2]'h2).toNat = q := by
    have h1 := natsOf_at s 2 h2
    rw [hs] at h1
    exact (Option.some.inj h1).symm
  rw [hq] at hc2
  clear hs
  go_enter Tryz.func185, Tryz.ntmps185
  go_wp2
  go_loopw [6, 7] (fun n c wr => ∃ k c' : Nat, n = .int .i64 ((k : Int) + 3) ∧ c = .int .i32 (c' : Nat) ∧ Hid (NumAt 16 l k c') ∧ k ≤ l.length ∧ c' ≤ 17825791 ∧ Below w.heap.size w wr) (fun n _ _ => s.size - (RowKit.intOf n).toNat)
  case atStart => exact ⟨0, 0, rfl, rfl, Lib.hid (NumAt.zero _ _), Nat.zero_le _, by omega, Below.refl _ _⟩
  case round =>
    obtain ⟨k, c, rfl, rfl, HN, hk, hc, hb⟩ := hrel
    by_cases hlt : k < l.length
    · obtain ⟨b, hbk⟩ := some_at (l := l) rfl hlt
      have hsl : k + 3 < s.size := by omega
      have hbs : (s[k + 3]'hsl).toNat = b := by
        have h1 := natsOf_at s (k + 3) hsl
        have h2 := HAT.out k
        rw [h1, hbk] at h2
        exact Option.some.inj h2
      have hslI : (k : Int) + 3 < s.size := by omega
      have HDG := Lib.hid (fun w => digit_any (s[k + 3]'hsl).toNat (UInt8.toNat_lt _) w)
      by_cases hd : digitV b < 16
      · have hdI : ((digitV (s[k + 3]'hsl).toNat : Nat) : Int) < 16 := by rw [hbs]; omega
        by_cases hcs : c ≤ 1114111
        · have hcI : (c : Int) ≤ 1114111 := by omega
          have HX := Lib.hid (HN.out.next ⟨by omega, by omega⟩ hbk hd hcs)
          have hcast : ((c * 16 + digitV b : Nat) : Int) = (c : Int) * 16 + ((digitV (s[k + 3]'hsl).toNat : Nat) : Int) := by rw [hbs]; omega
          have hsm := HX.out.small
          have HY := Lib.hid (And.intro hcast hsm)
          have hdr : ((digitV (s[k + 3]'hsl).toNat : Nat) : Int) ≤ 15 := by omega
          clear hbk hcast hsm hbs
          go_wp2_with (go_at_call 201; refine (HDG.out _).mono ?_; rintro e w1 ⟨rfl, rfl⟩)
          exact ⟨⟨k + 1, _, by go_num, by rw [HY.out.1], HX, by omega, HY.out.2, hb⟩, by simp [RowKit.intOf]; omega⟩
        · have hcI := eq_false (show ¬ (c : Int) ≤ 1114111 by omega)
          have HX := Lib.hid (HN.out.stay ⟨by omega, by omega⟩ hbk hd (by omega))
          clear hbk hbs
          go_wp2_with (go_at_call 201; refine (HDG.out _).mono ?_; rintro e w1 ⟨rfl, rfl⟩)
          exact ⟨⟨k + 1, _, by go_num, rfl, HX, by omega, hc, hb⟩, by simp [RowKit.intOf]; omega⟩
      · have hdI := eq_false (show ¬ ((digitV (s[k + 3]'hsl).toNat : Nat) : Int) < 16 by rw [hbs]; omega)
        have HE : Hid (∀ b, l[k]? = some b → ¬ digitV b < 16) := Lib.hid (fun x hx => by rw [hbk] at hx; cases hx; exact hd)
        clear hbk hbs
        by_cases hk0 : k = 0
        · subst hk0
          have HV : Hid (refV (findL attr (natsOf s)) = .tuple #[.int .i32 0, .int .i64 0, .bool false]) := Lib.hid (by rw [HS.out, number_none (HNUM HN.out) (HEND HE.out)]; rfl)
          clear HN HE
          go_wp2_with (go_at_call 201; refine (HDG.out _).mono ?_; rintro e w1 ⟨rfl, rfl⟩)
          go_ret3
          exact ⟨by rw [HV.out]; rfl, hb⟩
        · have hkne : ¬ (k : Int) = 0 := by omega
          have hsn := semi_at s (k + 3)
          have hat : (natsOf s)[k + 3]? = (q :: l)[headOf (q :: l) + k]? := HAT2.out k
          rw [hat] at hsn
          have HNB := Lib.hid (fun w => numbered_any c hc w)
          have hV := number_some (attr := attr) (HNUM HN.out) (HEND HE.out) (by omega)
          rw [← HS.out] at hV
          by_cases h59 : (q :: l)[headOf (q :: l) + k]? = some 59
          · rw [decide_eq_true h59] at hsn
            rw [if_pos h59] at hV
            have HP := Lib.hid (fun w => hasPrefix_any (s.extract (k + 3) s.size) ⟨#[59]⟩ w)
            rw [hsn] at HP
            have HV : Hid (refV (findL attr (natsOf s)) = .tuple #[.int .i32 ((charOf c : Nat) : Int), .int .i64 ((k : Int) + 3 + 1), .bool true]) := Lib.hid (by
              rw [hV]
              show Value.tuple #[.int .i32 ((charOf c : Nat) : Int), .int .i64 ((headOf (q :: l) + k + 1 + 2 : Nat) : Int), .bool true] = _
              have e : ((headOf (q :: l) + k + 1 + 2 : Nat) : Int) = (k : Int) + 3 + 1 := by omega
              rw [e])
            clear HN HE hsn hat h59 hV
            go_wp2_with (first
              | (go_at_call 201; refine (HDG.out _).mono ?_; rintro e w1 ⟨rfl, rfl⟩)
              | (go_at_call 109; refine (HP.out _).mono ?_; rintro e w2 ⟨rfl, rfl⟩)
              | (go_at_call 202; refine (HNB.out _).mono ?_; rintro e w3 ⟨rfl, hb3⟩))
            go_ret3
            exact ⟨by rw [HV.out]; rfl, hb.trans (hb3.mono hb.size)⟩
          · rw [decide_eq_false h59] at hsn
            rw [if_neg h59] at hV
            have HP := Lib.hid (fun w => hasPrefix_any (s.extract (k + 3) s.size) ⟨#[59]⟩ w)
            rw [hsn] at HP
            have HV : Hid (refV (findL attr (natsOf s)) = .tuple #[.int .i32 ((charOf c : Nat) : Int), .int .i64 ((k : Int) + 3), .bool true]) := Lib.hid (by
              rw [hV]
              show Value.tuple #[.int .i32 ((charOf c : Nat) : Int), .int .i64 ((headOf (q :: l) + k + 0 + 2 : Nat) : Int), .bool true] = _
              have e : ((headOf (q :: l) + k + 0 + 2 : Nat) : Int) = (k : Int) + 3 := by omega
              rw [e])
            clear HN HE hsn hat h59 hV
            go_wp2_with (first
              | (go_at_call 201; refine (HDG.out _).mono ?_; rintro e w1 ⟨rfl, rfl⟩)
              | (go_at_call 109; refine (HP.out _).mono ?_; rintro e w2 ⟨rfl, rfl⟩)
              | (go_at_call 202; refine (HNB.out _).mono ?_; rintro e w3 ⟨rfl, hb3⟩))
            go_ret3
            exact ⟨by rw [HV.out]; rfl, hb.trans (hb3.mono hb.size)⟩
    · have hslI := eq_false (show ¬ (k : Int) + 3 < s.size by omega)
      have HE : Hid (∀ b, l[k]? = some b → ¬ digitV b < 16) := Lib.hid (fun x hx => by rw [List.getElem?_eq_none (by omega)] at hx; cases hx)
      have HDG : True := trivial
      by_cases hk0 : k = 0
      · subst hk0
        have HV : Hid (refV (findL attr (natsOf s)) = .tuple #[.int .i32 0, .int .i64 0, .bool false]) := Lib.hid (by rw [HS.out, number_none (HNUM HN.out) (HEND HE.out)]; rfl)
        clear HN HE
        go_wp2
        go_ret3
        exact ⟨by rw [HV.out]; rfl, hb⟩
      · have hkne : ¬ (k : Int) = 0 := by omega
        have hsn := semi_at s (k + 3)
        have hat : (natsOf s)[k + 3]? = (q :: l)[headOf (q :: l) + k]? := HAT2.out k
        rw [hat] at hsn
        have HNB := Lib.hid (fun w => numbered_any c hc w)
        have hV := number_some (attr := attr) (HNUM HN.out) (HEND HE.out) (by omega)
        rw [← HS.out] at hV
        by_cases h59 : (q :: l)[headOf (q :: l) + k]? = some 59
        · rw [decide_eq_true h59] at hsn
          rw [if_pos h59] at hV
          have HP := Lib.hid (fun w => hasPrefix_any (s.extract (k + 3) s.size) ⟨#[59]⟩ w)
          rw [hsn] at HP
          have HV : Hid (refV (findL attr (natsOf s)) = .tuple #[.int .i32 ((charOf c : Nat) : Int), .int .i64 ((k : Int) + 3 + 1), .bool true]) := Lib.hid (by
            rw [hV]
            show Value.tuple #[.int .i32 ((charOf c : Nat) : Int), .int .i64 ((headOf (q :: l) + k + 1 + 2 : Nat) : Int), .bool true] = _
            have e : ((headOf (q :: l) + k + 1 + 2 : Nat) : Int) = (k : Int) + 3 + 1 := by omega
            rw [e])
          clear HN HE hsn hat h59 hV
          go_wp2_with (first
            | (go_at_call 109; refine (HP.out _).mono ?_; rintro e w2 ⟨rfl, rfl⟩)
            | (go_at_call 202; refine (HNB.out _).mono ?_; rintro e w3 ⟨rfl, hb3⟩))
          go_ret3
          exact ⟨by rw [HV.out]; rfl, hb.trans (hb3.mono hb.size)⟩
        · rw [decide_eq_false h59] at hsn
          rw [if_neg h59] at hV
          have HP := Lib.hid (fun w => hasPrefix_any (s.extract (k + 3) s.size) ⟨#[59]⟩ w)
          rw [hsn] at HP
          have HV : Hid (refV (findL attr (natsOf s)) = .tuple #[.int .i32 ((charOf c : Nat) : Int), .int .i64 ((k : Int) + 3), .bool true]) := Lib.hid (by
            rw [hV]
            show Value.tuple #[.int .i32 ((charOf c : Nat) : Int), .int .i64 ((headOf (q :: l) + k + 0 + 2 : Nat) : Int), .bool true] = _
            have e : ((headOf (q :: l) + k + 0 + 2 : Nat) : Int) = (k : Int) + 3 := by omega
            rw [e])
          clear HN HE hsn hat h59 hV
          go_wp2_with (first
            | (go_at_call 109; refine (HP.out _).mono ?_; rintro e w2 ⟨rfl, rfl⟩)
            | (go_at_call 202; refine (HNB.out _).mono ?_; rintro e w3 ⟨rfl, hb3⟩))
          go_ret3
          exact ⟨by rw [HV.out]; rfl, hb.trans (hb3.mono hb.size)⟩

set_option maxRecDepth 100000 in
set_option maxHeartbeats 4000000 in
theorem byNumber_heX (attr : Bool) (s : ByteArray) (r : List Nat) (hs : natsOf s = 38 :: 35 :: r) (hsz : s.size ≤ 1099511627776) (w : World) (hx : isHex r = true) (hq : r.head? = some 88) :
    Calls Tryz.prog 185 #[.string s] w fun e w' => e = .returned (refV (findL attr (natsOf s))) ∧ Below w.heap.size w w' := by
  have HS := Lib.hid hs
  have hsl := natsOf_length s
  rw [hs] at hsl
  simp only [List.length_cons] at hsl
  have hbase : baseOf r = 16 := by unfold baseOf; rw [hx]; rfl
  have hhead : headOf r = 1 := by unfold headOf; rw [hx]; rfl
  obtain ⟨q, l, rfl⟩ : ∃ q l, r = q :: l := by
    cases r with
    | nil => cases hx
    | cons q l => exact ⟨q, l, rfl⟩
  simp only [List.length_cons] at hsl
  simp only [List.head?_cons, Option.some.injEq] at hq
  have HNUM : ∀ {k c : Nat}, NumAt 16 l k c → NumAt (baseOf (q :: l)) ((q :: l).drop (headOf (q :: l))) k c := fun h => by rw [hbase, hhead]; exact h
  have HEND : ∀ {k : Nat}, (∀ b, l[k]? = some b → ¬ digitV b < 16) → ∀ b, ((q :: l).drop (headOf (q :: l)))[k]? = some b → ¬ digitV b < baseOf (q :: l) := fun h => by rw [hbase, hhead]; exact h
  have HHEAD := hhead
  have HAT : Hid (∀ k, (natsOf s)[k + 3]? = l[k]?) := Lib.hid (fun k => by rw [hs]; rfl)
  have HAT2 : Hid (∀ k, (natsOf s)[k + 3]? = (q :: l)[headOf (q :: l) + k]?) := Lib.hid (fun k => by rw [hs, hhead, Nat.add_comm 1 k]; rfl)
  have h2 : 2 < s.size := by omega
  have h2I : (2 : Int) < s.size := by omega
  have hc2 : (s[2]'h2).toNat = q := by
    have h1 := natsOf_at s 2 h2
    rw [hs] at h1
    exact (Option.some.inj h1).symm
  rw [hq] at hc2
  clear hs
  go_enter Tryz.func185, Tryz.ntmps185
  go_wp2
  go_loopw [6, 7] (fun n c wr => ∃ k c' : Nat, n = .int .i64 ((k : Int) + 3) ∧ c = .int .i32 (c' : Nat) ∧ Hid (NumAt 16 l k c') ∧ k ≤ l.length ∧ c' ≤ 17825791 ∧ Below w.heap.size w wr) (fun n _ _ => s.size - (RowKit.intOf n).toNat)
  case atStart => exact ⟨0, 0, rfl, rfl, Lib.hid (NumAt.zero _ _), Nat.zero_le _, by omega, Below.refl _ _⟩
  case round =>
    obtain ⟨k, c, rfl, rfl, HN, hk, hc, hb⟩ := hrel
    by_cases hlt : k < l.length
    · obtain ⟨b, hbk⟩ := some_at (l := l) rfl hlt
      have hsl : k + 3 < s.size := by omega
      have hbs : (s[k + 3]'hsl).toNat = b := by
        have h1 := natsOf_at s (k + 3) hsl
        have h2 := HAT.out k
        rw [h1, hbk] at h2
        exact Option.some.inj h2
      have hslI : (k : Int) + 3 < s.size := by omega
      have HDG := Lib.hid (fun w => digit_any (s[k + 3]'hsl).toNat (UInt8.toNat_lt _) w)
      by_cases hd : digitV b < 16
      · have hdI : ((digitV (s[k + 3]'hsl).toNat : Nat) : Int) < 16 := by rw [hbs]; omega
        by_cases hcs : c ≤ 1114111
        · have hcI : (c : Int) ≤ 1114111 := by omega
          have HX := Lib.hid (HN.out.next ⟨by omega, by omega⟩ hbk hd hcs)
          have hcast : ((c * 16 + digitV b : Nat) : Int) = (c : Int) * 16 + ((digitV (s[k + 3]'hsl).toNat : Nat) : Int) := by rw [hbs]; omega
          have hsm := HX.out.small
          have HY := Lib.hid (And.intro hcast hsm)
          have hdr : ((digitV (s[k + 3]'hsl).toNat : Nat) : Int) ≤ 15 := by omega
          clear hbk hcast hsm hbs
          go_wp2_with (go_at_call 201; refine (HDG.out _).mono ?_; rintro e w1 ⟨rfl, rfl⟩)
          exact ⟨⟨k + 1, _, by go_num, by rw [HY.out.1], HX, by omega, HY.out.2, hb⟩, by simp [RowKit.intOf]; omega⟩
        · have hcI := eq_false (show ¬ (c : Int) ≤ 1114111 by omega)
          have HX := Lib.hid (HN.out.stay ⟨by omega, by omega⟩ hbk hd (by omega))
          clear hbk hbs
          go_wp2_with (go_at_call 201; refine (HDG.out _).mono ?_; rintro e w1 ⟨rfl, rfl⟩)
          exact ⟨⟨k + 1, _, by go_num, rfl, HX, by omega, hc, hb⟩, by simp [RowKit.intOf]; omega⟩
      · have hdI := eq_false (show ¬ ((digitV (s[k + 3]'hsl).toNat : Nat) : Int) < 16 by rw [hbs]; omega)
        have HE : Hid (∀ b, l[k]? = some b → ¬ digitV b < 16) := Lib.hid (fun x hx => by rw [hbk] at hx; cases hx; exact hd)
        clear hbk hbs
        by_cases hk0 : k = 0
        · subst hk0
          have HV : Hid (refV (findL attr (natsOf s)) = .tuple #[.int .i32 0, .int .i64 0, .bool false]) := Lib.hid (by rw [HS.out, number_none (HNUM HN.out) (HEND HE.out)]; rfl)
          clear HN HE
          go_wp2_with (go_at_call 201; refine (HDG.out _).mono ?_; rintro e w1 ⟨rfl, rfl⟩)
          go_ret3
          exact ⟨by rw [HV.out]; rfl, hb⟩
        · have hkne : ¬ (k : Int) = 0 := by omega
          have hsn := semi_at s (k + 3)
          have hat : (natsOf s)[k + 3]? = (q :: l)[headOf (q :: l) + k]? := HAT2.out k
          rw [hat] at hsn
          have HNB := Lib.hid (fun w => numbered_any c hc w)
          have hV := number_some (attr := attr) (HNUM HN.out) (HEND HE.out) (by omega)
          rw [← HS.out] at hV
          by_cases h59 : (q :: l)[headOf (q :: l) + k]? = some 59
          · rw [decide_eq_true h59] at hsn
            rw [if_pos h59] at hV
            have HP := Lib.hid (fun w => hasPrefix_any (s.extract (k + 3) s.size) ⟨#[59]⟩ w)
            rw [hsn] at HP
            have HV : Hid (refV (findL attr (natsOf s)) = .tuple #[.int .i32 ((charOf c : Nat) : Int), .int .i64 ((k : Int) + 3 + 1), .bool true]) := Lib.hid (by
              rw [hV]
              show Value.tuple #[.int .i32 ((charOf c : Nat) : Int), .int .i64 ((headOf (q :: l) + k + 1 + 2 : Nat) : Int), .bool true] = _
              have e : ((headOf (q :: l) + k + 1 + 2 : Nat) : Int) = (k : Int) + 3 + 1 := by omega
              rw [e])
            clear HN HE hsn hat h59 hV
            go_wp2_with (first
              | (go_at_call 201; refine (HDG.out _).mono ?_; rintro e w1 ⟨rfl, rfl⟩)
              | (go_at_call 109; refine (HP.out _).mono ?_; rintro e w2 ⟨rfl, rfl⟩)
              | (go_at_call 202; refine (HNB.out _).mono ?_; rintro e w3 ⟨rfl, hb3⟩))
            go_ret3
            exact ⟨by rw [HV.out]; rfl, hb.trans (hb3.mono hb.size)⟩
          · rw [decide_eq_false h59] at hsn
            rw [if_neg h59] at hV
            have HP := Lib.hid (fun w => hasPrefix_any (s.extract (k + 3) s.size) ⟨#[59]⟩ w)
            rw [hsn] at HP
            have HV : Hid (refV (findL attr (natsOf s)) = .tuple #[.int .i32 ((charOf c : Nat) : Int), .int .i64 ((k : Int) + 3), .bool true]) := Lib.hid (by
              rw [hV]
              show Value.tuple #[.int .i32 ((charOf c : Nat) : Int), .int .i64 ((headOf (q :: l) + k + 0 + 2 : Nat) : Int), .bool true] = _
              have e : ((headOf (q :: l) + k + 0 + 2 : Nat) : Int) = (k : Int) + 3 := by omega
              rw [e])
            clear HN HE hsn hat h59 hV
            go_wp2_with (first
              | (go_at_call 201; refine (HDG.out _).mono ?_; rintro e w1 ⟨rfl, rfl⟩)
              | (go_at_call 109; refine (HP.out _).mono ?_; rintro e w2 ⟨rfl, rfl⟩)
              | (go_at_call 202; refine (HNB.out _).mono ?_; rintro e w3 ⟨rfl, hb3⟩))
            go_ret3
            exact ⟨by rw [HV.out]; rfl, hb.trans (hb3.mono hb.size)⟩
    · have hslI := eq_false (show ¬ (k : Int) + 3 < s.size by omega)
      have HE : Hid (∀ b, l[k]? = some b → ¬ digitV b < 16) := Lib.hid (fun x hx => by rw [List.getElem?_eq_none (by omega)] at hx; cases hx)
      have HDG : True := trivial
      by_cases hk0 : k = 0
      · subst hk0
        have HV : Hid (refV (findL attr (natsOf s)) = .tuple #[.int .i32 0, .int .i64 0, .bool false]) := Lib.hid (by rw [HS.out, number_none (HNUM HN.out) (HEND HE.out)]; rfl)
        clear HN HE
        go_wp2
        go_ret3
        exact ⟨by rw [HV.out]; rfl, hb⟩
      · have hkne : ¬ (k : Int) = 0 := by omega
        have hsn := semi_at s (k + 3)
        have hat : (natsOf s)[k + 3]? = (q :: l)[headOf (q :: l) + k]? := HAT2.out k
        rw [hat] at hsn
        have HNB := Lib.hid (fun w => numbered_any c hc w)
        have hV := number_some (attr := attr) (HNUM HN.out) (HEND HE.out) (by omega)
        rw [← HS.out] at hV
        by_cases h59 : (q :: l)[headOf (q :: l) + k]? = some 59
        · rw [decide_eq_true h59] at hsn
          rw [if_pos h59] at hV
          have HP := Lib.hid (fun w => hasPrefix_any (s.extract (k + 3) s.size) ⟨#[59]⟩ w)
          rw [hsn] at HP
          have HV : Hid (refV (findL attr (natsOf s)) = .tuple #[.int .i32 ((charOf c : Nat) : Int), .int .i64 ((k : Int) + 3 + 1), .bool true]) := Lib.hid (by
            rw [hV]
            show Value.tuple #[.int .i32 ((charOf c : Nat) : Int), .int .i64 ((headOf (q :: l) + k + 1 + 2 : Nat) : Int), .bool true] = _
            have e : ((headOf (q :: l) + k + 1 + 2 : Nat) : Int) = (k : Int) + 3 + 1 := by omega
            rw [e])
          clear HN HE hsn hat h59 hV
          go_wp2_with (first
            | (go_at_call 109; refine (HP.out _).mono ?_; rintro e w2 ⟨rfl, rfl⟩)
            | (go_at_call 202; refine (HNB.out _).mono ?_; rintro e w3 ⟨rfl, hb3⟩))
          go_ret3
          exact ⟨by rw [HV.out]; rfl, hb.trans (hb3.mono hb.size)⟩
        · rw [decide_eq_false h59] at hsn
          rw [if_neg h59] at hV
          have HP := Lib.hid (fun w => hasPrefix_any (s.extract (k + 3) s.size) ⟨#[59]⟩ w)
          rw [hsn] at HP
          have HV : Hid (refV (findL attr (natsOf s)) = .tuple #[.int .i32 ((charOf c : Nat) : Int), .int .i64 ((k : Int) + 3), .bool true]) := Lib.hid (by
            rw [hV]
            show Value.tuple #[.int .i32 ((charOf c : Nat) : Int), .int .i64 ((headOf (q :: l) + k + 0 + 2 : Nat) : Int), .bool true] = _
            have e : ((headOf (q :: l) + k + 0 + 2 : Nat) : Int) = (k : Int) + 3 := by omega
            rw [e])
          clear HN HE hsn hat h59 hV
          go_wp2_with (first
            | (go_at_call 109; refine (HP.out _).mono ?_; rintro e w2 ⟨rfl, rfl⟩)
            | (go_at_call 202; refine (HNB.out _).mono ?_; rintro e w3 ⟨rfl, hb3⟩))
          go_ret3
          exact ⟨by rw [HV.out]; rfl, hb.trans (hb3.mono hb.size)⟩
end Go.Proofs.YtnfkndaggcklkaaGreatDoor

namespace Go.CharrefKit
open Go

abbrev Entry := List Nat × Nat × Bool
theorem tab_fact {e : Entry} (h : e ∈ tab) : (∀ b ∈ e.1, isLet b = true) ∧ 2 ≤ e.1.length ∧ e.1.length ≤ 6 := by
  have := List.all_eq_true.1 tab_letters e h
  simp only [Bool.and_eq_true, decide_eq_true_eq, List.all_eq_true] at this
  exact ⟨this.1.1, this.1.2, this.2⟩
theorem tab_same {e e' : Entry} (h : e ∈ tab) (h' : e' ∈ tab) (hn : e.1 = e'.1) : e = e' := by
  have := List.all_eq_true.1 (List.all_eq_true.1 tab_names e h) e' h'
  simp only [Bool.or_eq_true, Bool.not_eq_true', decide_eq_false_iff_not, decide_eq_true_eq] at this
  rcases this with h | h
  · exact absurd hn h
  · exact h
theorem mem_tabC {e : Entry} : e ∈ tabC ↔ e ∈ tab :=
  ⟨fun h => of_decide_eq_true (List.all_eq_true.1 tabC_in e h), fun h => of_decide_eq_true (List.all_eq_true.1 tab_in e h)⟩
theorem isLet_not {b : Nat} (h : isLet b = true) : b ≠ 59 := by
  rintro rfl
  cases h

theorem hit_pos {r : List Nat} {e : Entry} (h : 0 < hit r e) : e.1 <+: r ∧ ((r[e.1.length]? = some 59 ∧ hit r e = e.1.length + 1) ∨ (r[e.1.length]? ≠ some 59 ∧ e.2.2 = true ∧ hit r e = e.1.length)) := by
  unfold hit at h ⊢
  by_cases hp : e.1.isPrefixOf r = true
  · rw [if_pos hp] at h ⊢
    refine ⟨List.isPrefixOf_iff_prefix.1 hp, ?_⟩
    by_cases h1 : r[e.1.length]? = some 59
    · rw [if_pos h1]; exact .inl ⟨h1, rfl⟩
    · rw [if_neg h1] at h ⊢
      by_cases h2 : e.2.2 = true
      · rw [if_pos h2]; exact .inr ⟨h1, h2, rfl⟩
      · rw [if_neg h2] at h; omega
  · rw [if_neg hp] at h; omega
theorem prefix_at {a r : List Nat} (h : a <+: r) {j : Nat} (hj : j < a.length) : r[j]? = a[j]? := by
  obtain ⟨t, rfl⟩ := h
  rw [List.getElem?_append_left hj]
theorem prefix_take {a r : List Nat} (h : a <+: r) : a = r.take a.length := List.prefix_iff_eq_take.1 h
theorem hit_one {r : List Nat} {e e' : Entry} (h : e ∈ tab) (h' : e' ∈ tab) (hp : 0 < hit r e) (he : hit r e = hit r e') : e = e' := by
  have key : ∀ {a b : Entry}, a ∈ tab → b ∈ tab → 0 < hit r a → hit r a = hit r b → ¬ a.1.length < b.1.length := by
    intro a b ha hb hpa hab hlt
    obtain ⟨p1, q1⟩ := hit_pos hpa
    obtain ⟨p2, q2⟩ := hit_pos (hab ▸ hpa)
    rcases q1 with ⟨c, q1⟩ | ⟨_, _, q1⟩
    · have hx : r[a.1.length]? = b.1[a.1.length]? := prefix_at p2 hlt
      have hm : b.1[a.1.length]'hlt ∈ b.1 := List.getElem_mem hlt
      have := isLet_not ((tab_fact hb).1 _ hm)
      rw [c, List.getElem?_eq_getElem hlt] at hx
      exact this (Option.some.inj hx).symm
    · rcases q2 with ⟨_, q2⟩ | ⟨_, _, q2⟩ <;> omega
  have h1 := key h h' hp he
  have h2 := key h' h (he ▸ hp) he.symm
  obtain ⟨p1, _⟩ := hit_pos hp
  obtain ⟨p2, _⟩ := hit_pos (he ▸ hp)
  refine tab_same h h' ?_
  rw [prefix_take p1, prefix_take p2, show e.1.length = e'.1.length by omega]

theorem best_spec (r : List Nat) : ∀ (l : List Entry) (b : Nat × Nat), b.1 ≤ (best r l b).1 ∧ (∀ e ∈ l, hit r e ≤ (best r l b).1) ∧ (best r l b = b ∨ ∃ e ∈ l, best r l b = (hit r e, e.2.1) ∧ 0 < hit r e)
  | [], b => ⟨Nat.le_refl _, fun _ h => by simp at h, .inl rfl⟩
  | x :: l, b => by
    have e0 : best r (x :: l) b = best r l (if b.1 < hit r x then (hit r x, x.2.1) else b) := rfl
    rw [e0]
    obtain ⟨i1, i2, i3⟩ := best_spec r l (if b.1 < hit r x then (hit r x, x.2.1) else b)
    by_cases hx : b.1 < hit r x
    · rw [if_pos hx] at i1 i2 i3 ⊢
      refine ⟨by simp only at i1; omega, fun e he => ?_, ?_⟩
      · rcases List.mem_cons.1 he with rfl | he
        · exact i1
        · exact i2 e he
      · rcases i3 with h | ⟨e, he, h⟩
        · exact .inr ⟨x, List.mem_cons_self .., h, by omega⟩
        · exact .inr ⟨e, List.mem_cons_of_mem _ he, h⟩
    · rw [if_neg hx] at i1 i2 i3 ⊢
      refine ⟨i1, fun e he => ?_, ?_⟩
      · rcases List.mem_cons.1 he with rfl | he
        · omega
        · exact i2 e he
      · rcases i3 with h | ⟨e, he, h⟩
        · exact .inl h
        · exact .inr ⟨e, List.mem_cons_of_mem _ he, h⟩
/-- The longest is the one that is as long as any. -/
theorem best_is {r : List Nat} {e : Entry} (he : e ∈ tab) (hp : 0 < hit r e) (hmax : ∀ e' ∈ tab, hit r e' ≤ hit r e) : best r tab (0, 0) = (hit r e, e.2.1) := by
  obtain ⟨_, h2, h3⟩ := best_spec r tab (0, 0)
  have h2 := h2 e he
  rcases h3 with h | ⟨e', he', h, hp'⟩
  · rw [h] at h2; simp only at h2; omega
  · have : hit r e' = hit r e := by
      have := hmax e' he'
      rw [h] at h2; simp only at h2; omega
    have := hit_one he' he hp' this
    subst this; exact h
theorem best_none {r : List Nat} (h : ∀ e ∈ tab, hit r e = 0) : best r tab (0, 0) = (0, 0) := by
  obtain ⟨_, _, h3⟩ := best_spec r tab (0, 0)
  rcases h3 with h3 | ⟨e, he, _, hp⟩
  · exact h3
  · have := h e he; omega

/-- The program's way: from k letters down. -/
def codeName (attr : Bool) (r : List Nat) : Nat → Ref
  | 0 => noRef
  | k + 1 =>
    match tabC.find? (fun e => decide (e.1 = r.take (k + 1))) with
    | none => codeName attr r k
    | some e =>
      if r[k + 1]? = some 59 then ⟨e.2.1, k + 3, true⟩
      else if e.2.2 = true then (if attr = true ∧ goesOn r[k + 1]? = true then noRef else ⟨e.2.1, k + 2, true⟩)
      else codeName attr r k
theorem codeName_nameL (attr : Bool) (r : List Nat) : ∀ (K : Nat), K ≤ r.length → (∀ e ∈ tab, 0 < hit r e → e.1.length ≤ K) → codeName attr r K = nameL attr r
  | 0, _, h => by
    have hn : best r tab (0, 0) = (0, 0) := best_none (fun e he => by
      by_cases hp : 0 < hit r e
      · have := h e he hp
        have := (tab_fact he).2.1
        omega
      · omega)
    unfold nameL
    rw [hn]; rfl
  | k + 1, hK, h => by
    unfold codeName
    cases hf : tabC.find? (fun e => decide (e.1 = r.take (k + 1))) with
    | none =>
      refine codeName_nameL attr r k (by omega) (fun e he hp => ?_)
      have h1 := h e he hp
      by_cases h2 : e.1.length = k + 1
      · exfalso
        have := List.find?_eq_none.1 hf e (mem_tabC.2 he)
        simp only [decide_eq_true_eq] at this
        apply this
        rw [← h2]
        exact prefix_take (hit_pos hp).1
      · omega
    | some e =>
      have hm : e ∈ tab := mem_tabC.1 (List.mem_of_find?_eq_some hf)
      have hn : e.1 = r.take (k + 1) := by simpa using List.find?_some hf
      have hl : e.1.length = k + 1 := by rw [hn, List.length_take]; omega
      have hpre : e.1.isPrefixOf r = true := List.isPrefixOf_iff_prefix.2 (List.prefix_iff_eq_take.2 (by rw [hl]; exact hn))
      have same : ∀ e' ∈ tab, 0 < hit r e' → e'.1.length = k + 1 → e' = e := fun e' he' hp' hl' => tab_same he' hm (by rw [prefix_take (hit_pos hp').1, hl', hn])
      have hk : r[k]? = e.1[k]? := prefix_at (List.isPrefixOf_iff_prefix.1 hpre) (by omega)
      have hk59 : r[k]? ≠ some 59 := by
        rw [hk, List.getElem?_eq_getElem (by omega)]
        intro e2
        exact isLet_not ((tab_fact hm).1 _ (List.getElem_mem (by omega))) (Option.some.inj e2)
      simp only
      by_cases h59 : r[k + 1]? = some 59
      · rw [if_pos h59]
        have hh : hit r e = k + 2 := by unfold hit; rw [if_pos hpre, hl, if_pos h59]
        have hb := best_is (r := r) hm (by omega) (fun e' he' => by
          by_cases hp' : 0 < hit r e'
          · have := h e' he' hp'
            rcases (hit_pos hp').2 with ⟨_, q⟩ | ⟨_, _, q⟩ <;> omega
          · omega)
        unfold nameL
        rw [hb, hh]
        simp only
        rw [if_neg (show ¬ k + 2 = 0 by omega), if_neg (by rintro ⟨_, q, _⟩; exact q h59)]
      · rw [if_neg h59]
        by_cases hbare : e.2.2 = true
        · rw [if_pos hbare]
          have hh : hit r e = k + 1 := by unfold hit; rw [if_pos hpre, hl, if_neg h59, if_pos hbare]
          have hb := best_is (r := r) hm (by omega) (fun e' he' => by
            by_cases hp' : 0 < hit r e'
            · have h1 := h e' he' hp'
              by_cases h2 : e'.1.length = k + 1
              · rw [same e' he' hp' h2]; exact Nat.le_refl _
              · rcases (hit_pos hp').2 with ⟨_, q⟩ | ⟨_, _, q⟩ <;> omega
            · omega)
          unfold nameL
          rw [hb, hh]
          simp only [Nat.add_sub_cancel]
          rw [if_neg (show ¬ k + 1 = 0 by omega)]
          by_cases hg : attr = true ∧ goesOn r[k + 1]? = true
          · rw [if_pos hg, if_pos ⟨hg.1, hk59, hg.2⟩]
          · rw [if_neg hg, if_neg (fun q => hg ⟨q.1, q.2.2⟩)]
        · rw [if_neg hbare]
          refine codeName_nameL attr r k (by omega) (fun e' he' hp' => ?_)
          have h1 := h e' he' hp'
          by_cases h2 : e'.1.length = k + 1
          · exfalso
            have := same e' he' hp' h2
            subst this
            rcases (hit_pos hp').2 with ⟨q, _⟩ | ⟨_, q, _⟩
            · rw [hl] at q; exact h59 q
            · exact hbare q
          · omega
/-- How many letters, no more than six. -/
def lettersN (r : List Nat) : Nat := ((r.take 6).takeWhile isLet).length
theorem lettersN_le (r : List Nat) : lettersN r ≤ r.length ∧ lettersN r ≤ 6 := by
  have h1 : ((r.take 6).takeWhile isLet).length ≤ (r.take 6).length := (List.takeWhile_sublist _).length_le
  rw [List.length_take] at h1
  unfold lettersN
  omega
theorem takeWhile_more {p : Nat → Bool} : ∀ {l : List Nat} {k : Nat}, k ≤ l.length → (∀ b ∈ l.take k, p b = true) → k ≤ (l.takeWhile p).length
  | _, 0, _, _ => Nat.zero_le _
  | [], k + 1, h, _ => by simp at h
  | x :: r, k + 1, h, hp => by
    have hx := hp x (by simp)
    rw [List.takeWhile_cons, if_pos hx]
    have := takeWhile_more (p := p) (l := r) (k := k) (by simpa using h) (fun b hb => hp b (by rw [List.take_succ_cons]; exact List.mem_cons_of_mem _ hb))
    simp only [List.length_cons]; omega
theorem letters_hits (r : List Nat) : ∀ e ∈ tab, 0 < hit r e → e.1.length ≤ lettersN r := by
  intro e he hp
  have hf := tab_fact he
  have hpre := (hit_pos hp).1
  have hl := hpre.length_le
  unfold lettersN
  refine takeWhile_more (by rw [List.length_take]; omega) (fun b hb => ?_)
  rw [List.take_take, Nat.min_eq_left hf.2.2, ← prefix_take hpre] at hb
  exact hf.1 b hb
theorem codeName_letters (attr : Bool) (r : List Nat) : codeName attr r (lettersN r) = nameL attr r := codeName_nameL attr r _ (lettersN_le r).1 (letters_hits r)
end Go.CharrefKit

