/-
  References by number, walked: the program's way. Conditions: the text begins with &#.
-/
import Derived.Test.YtkfmfldkllkcbabDoorCNum
namespace Go.CharrefKit
open Go

theorem valueOf_snoc (base : Nat) (ds : List Nat) (d : Nat) : valueOf base (ds ++ [d]) = valueOf base ds * base + digitV d := by simp [valueOf]

/-- The first k of the digits are summed; what is past all characters stays so. -/
structure NumAt (base : Nat) (l : List Nat) (k c : Nat) : Prop where
  all : ∀ b ∈ l.take k, isDig base b = true
  le : k ≤ l.length
  sum : (c ≤ 1114111 ∧ c = valueOf base (l.take k)) ∨ (1114111 < c ∧ c ≤ 17825791 ∧ 1114111 < valueOf base (l.take k))
theorem NumAt.zero (base : Nat) (l : List Nat) : NumAt base l 0 0 := ⟨by simp, Nat.zero_le _, .inl ⟨by omega, by simp [valueOf]⟩⟩
theorem NumAt.small {base : Nat} {l : List Nat} {k c : Nat} (h : NumAt base l k c) : c ≤ 17825791 := by rcases h.sum with h | h <;> omega
theorem take_snoc {l : List Nat} {k b : Nat} (hb : l[k]? = some b) : l.take (k + 1) = l.take k ++ [b] := by rw [List.take_add_one, hb]; rfl
theorem NumAt.next {base : Nat} {l : List Nat} {k c b : Nat} (h : NumAt base l k c) (hbase : 1 ≤ base ∧ base ≤ 16) (hb : l[k]? = some b) (hd : digitV b < base) (hc : c ≤ 1114111) : NumAt base l (k + 1) (c * base + digitV b) := by
  have hlt := (List.getElem?_eq_some_iff.1 hb).1
  have hv : c = valueOf base (l.take k) := by rcases h.sum with h | h <;> omega
  refine ⟨fun x hx => ?_, hlt, ?_⟩
  · rw [take_snoc hb, List.mem_append] at hx
    rcases hx with hx | hx
    · exact h.all x hx
    · simp at hx; subst hx; simpa [isDig] using hd
  · rw [take_snoc hb, valueOf_snoc, ← hv]
    have : c * base ≤ 1114111 * 16 := Nat.mul_le_mul hc hbase.2
    by_cases hh : c * base + digitV b ≤ 1114111
    · exact .inl ⟨hh, rfl⟩
    · exact .inr ⟨by omega, by omega, by omega⟩
theorem NumAt.stay {base : Nat} {l : List Nat} {k c b : Nat} (h : NumAt base l k c) (hbase : 1 ≤ base ∧ base ≤ 16) (hb : l[k]? = some b) (hd : digitV b < base) (hc : 1114111 < c) : NumAt base l (k + 1) c := by
  have hlt := (List.getElem?_eq_some_iff.1 hb).1
  have hv : c ≤ 17825791 ∧ 1114111 < valueOf base (l.take k) := by rcases h.sum with h | h <;> omega
  refine ⟨fun x hx => ?_, hlt, .inr ⟨hc, hv.1, ?_⟩⟩
  · rw [take_snoc hb, List.mem_append] at hx
    rcases hx with hx | hx
    · exact h.all x hx
    · simp at hx; subst hx; simpa [isDig] using hd
  · rw [take_snoc hb, valueOf_snoc]
    have : valueOf base (l.take k) * 1 ≤ valueOf base (l.take k) * base := Nat.mul_le_mul (Nat.le_refl _) hbase.1
    omega
theorem takeWhile_take {α : Type} {p : α → Bool} : ∀ {l : List α} {k : Nat}, (∀ b ∈ l.take k, p b = true) → (∀ b, l[k]? = some b → p b = false) → l.takeWhile p = l.take k
  | [], k, _, _ => by simp
  | x :: r, 0, _, h => by
    have := h x rfl
    simp [List.takeWhile, this]
  | x :: r, k + 1, h1, h2 => by
    have hx := h1 x (by simp)
    rw [List.takeWhile_cons, if_pos hx, List.take_succ_cons, takeWhile_take (fun b (hb : b ∈ r.take k) => h1 b (by rw [List.take_succ_cons]; exact List.mem_cons_of_mem _ hb)) (fun b hb => h2 b (by simpa using hb))]
theorem charOf_big {a b : Nat} (ha : 1114111 < a) (hb : 1114111 < b) : charOf a = charOf b := by
  unfold charOf
  rw [if_neg (by omega), if_pos (by omega), if_neg (by omega), if_pos (by omega)]
theorem NumAt.char {base : Nat} {l : List Nat} {k c : Nat} (h : NumAt base l k c) : charOf c = charOf (valueOf base (l.take k)) := by
  rcases h.sum with h | h
  · rw [← h.2]
  · exact charOf_big h.1 h.2.2
theorem NumAt.done {base : Nat} {l : List Nat} {k c : Nat} (h : NumAt base l k c) (he : ∀ b, l[k]? = some b → ¬ digitV b < base) : digs base l = l.take k ∧ (l.take k).length = k :=
  ⟨takeWhile_take h.all (fun b hb => by simpa [isDig] using he b hb), by rw [List.length_take]; have := h.le; omega⟩
theorem number_none {attr : Bool} {r : List Nat} {c : Nat} (h : NumAt (baseOf r) (r.drop (headOf r)) 0 c) (he : ∀ b, (r.drop (headOf r))[0]? = some b → ¬ digitV b < baseOf r) : findL attr (38 :: 35 :: r) = noRef := by
  have e := (h.done he).1
  have hn : numberL r = noRef := by unfold numberL; rw [e]; simp
  rw [findL_num, hn]; rfl
theorem number_some {attr : Bool} {r : List Nat} {k c : Nat} (h : NumAt (baseOf r) (r.drop (headOf r)) k c) (he : ∀ b, (r.drop (headOf r))[k]? = some b → ¬ digitV b < baseOf r) (hk : 0 < k) :
    findL attr (38 :: 35 :: r) = ⟨charOf c, headOf r + k + (if r[headOf r + k]? = some 59 then 1 else 0) + 2, true⟩ := by
  obtain ⟨e, e2⟩ := h.done he
  have hn : numberL r = ⟨charOf c, headOf r + k + (if r[headOf r + k]? = some 59 then 1 else 0), true⟩ := by
    unfold numberL
    simp only [e, e2]
    rw [if_neg (fun h => by rw [h] at e2; simp at e2; omega), h.char]
  rw [findL_num, hn]; rfl
end Go.CharrefKit
namespace Go.Proofs.YtkfmfldkllkcbabDoor
open Go.RowKit Go.RunKit Go.CharrefKit Go.Lib

def refV (x : Ref) : Value := .tuple #[.int .i32 ((x.char : Nat) : Int), .int .i64 ((x.len : Nat) : Int), .bool x.ok]
theorem semi_at (s : ByteArray) (n : Nat) : hasPre (s.extract n s.size) ⟨#[59]⟩ = decide ((natsOf s)[n]? = some 59) := by
  unfold hasPre
  rw [natsOf_drop]
  have e : natsOf ⟨#[59]⟩ = [59] := rfl
  rw [e]
  have h0 : (natsOf s)[n]? = ((natsOf s).drop n)[0]? := by rw [List.getElem?_drop, Nat.add_zero]
  rw [h0]
  cases (natsOf s).drop n with
  | nil => rfl
  | cons b t =>
    show ((59 == b) && List.isPrefixOf [] t) = decide (some b = some 59)
    by_cases h : b = 59
    · subst h; rfl
    · have h1 : (59 == b) = false := beq_eq_false_iff_ne.2 (fun e => h e.symm)
      rw [h1, decide_eq_false (fun e => h (Option.some.inj e))]
      rfl

set_option maxRecDepth 100000 in
set_option maxHeartbeats 4000000 in
theorem byNumber_empty (attr : Bool) (s : ByteArray) (r : List Nat) (hs : natsOf s = 38 :: 35 :: r) (_hsz : s.size ≤ 1099511627776) (w : World) (hr : r = []) (hx : isHex r = false) :
    Calls Tryd.prog 35 #[.string s] w fun e w' => e = .returned (refV (findL attr (natsOf s))) ∧ Below w.heap.size w w' := by
  have HS := Lib.hid hs
  have hsl := natsOf_length s
  rw [hs] at hsl
  simp only [List.length_cons] at hsl
  have hrl : r.length = 0 := by rw [hr]; rfl
  have hbase : baseOf r = 10 := by unfold baseOf; rw [hx]; rfl
  have hhead : headOf r = 0 := by unfold headOf; rw [hx]; rfl
  have HNUM : ∀ {k c : Nat}, NumAt 10 r k c → NumAt (baseOf r) (r.drop (headOf r)) k c := fun h => by rw [hbase, hhead]; exact h
  have HEND : ∀ {k : Nat}, (∀ b, r[k]? = some b → ¬ digitV b < 10) → ∀ b, (r.drop (headOf r))[k]? = some b → ¬ digitV b < baseOf r := fun h => by rw [hbase, hhead]; exact h
  have HHEAD := hhead
  have HAT : Hid (∀ k, (natsOf s)[k + 2]? = r[k]?) := Lib.hid (fun k => by rw [hs]; rfl)
  have HAT2 : Hid (∀ k, (natsOf s)[k + 2]? = r[headOf r + k]?) := Lib.hid (fun k => by rw [hs, hhead, Nat.zero_add]; rfl)
  have h2 : ¬ (2 : Int) < s.size := by omega
  have hF := eq_false h2
  clear hs
  go_enter Tryd.func35, Tryd.ntmps35
  go_wp2
  go_loopw [6, 7] (fun n c wr => ∃ k c' : Nat, n = .int .i64 ((k : Int) + 2) ∧ c = .int .i32 (c' : Nat) ∧ Hid (NumAt 10 r k c') ∧ k ≤ r.length ∧ c' ≤ 17825791 ∧ Below w.heap.size w wr) (fun n _ _ => s.size - (RowKit.intOf n).toNat)
  case atStart => exact ⟨0, 0, rfl, rfl, Lib.hid (NumAt.zero _ _), Nat.zero_le _, by omega, Below.refl _ _⟩
  case round =>
    obtain ⟨k, c, rfl, rfl, HN, hk, hc, hb⟩ := hrel
    by_cases hlt : k < r.length
    · exact absurd hlt (by omega)
    · have hslI := eq_false (show ¬ (k : Int) + 2 < s.size by omega)
      have HE : Hid (∀ b, r[k]? = some b → ¬ digitV b < 10) := Lib.hid (fun x hx => by rw [List.getElem?_eq_none (by omega)] at hx; cases hx)
      have HDG : True := trivial
      by_cases hk0 : k = 0
      · subst hk0
        have HV : Hid (refV (findL attr (natsOf s)) = .tuple #[.int .i32 0, .int .i64 0, .bool false]) := Lib.hid (by rw [HS.out, number_none (HNUM HN.out) (HEND HE.out)]; rfl)
        clear HN HE
        go_wp2
        go_ret3
        exact ⟨by rw [HV.out]; rfl, hb⟩
      · exact absurd hk0 (by omega)

set_option maxRecDepth 100000 in
set_option maxHeartbeats 4000000 in
theorem byNumber_dec (attr : Bool) (s : ByteArray) (r : List Nat) (hs : natsOf s = 38 :: 35 :: r) (hsz : s.size ≤ 1099511627776) (w : World) (q : Nat) (l : List Nat) (hq : r = q :: l) (hx : isHex r = false) (hq1' : q ≠ 120) (hq2' : q ≠ 88) :
    Calls Tryd.prog 35 #[.string s] w fun e w' => e = .returned (refV (findL attr (natsOf s))) ∧ Below w.heap.size w w' := by
  have HS := Lib.hid hs
  have hsl := natsOf_length s
  rw [hs] at hsl
  simp only [List.length_cons] at hsl
  have hrl : r.length = l.length + 1 := by rw [hq]; rfl
  have hbase : baseOf r = 10 := by unfold baseOf; rw [hx]; rfl
  have hhead : headOf r = 0 := by unfold headOf; rw [hx]; rfl
  have HNUM : ∀ {k c : Nat}, NumAt 10 r k c → NumAt (baseOf r) (r.drop (headOf r)) k c := fun h => by rw [hbase, hhead]; exact h
  have HEND : ∀ {k : Nat}, (∀ b, r[k]? = some b → ¬ digitV b < 10) → ∀ b, (r.drop (headOf r))[k]? = some b → ¬ digitV b < baseOf r := fun h => by rw [hbase, hhead]; exact h
  have HHEAD := hhead
  have HAT : Hid (∀ k, (natsOf s)[k + 2]? = r[k]?) := Lib.hid (fun k => by rw [hs]; rfl)
  have HAT2 : Hid (∀ k, (natsOf s)[k + 2]? = r[headOf r + k]?) := Lib.hid (fun k => by rw [hs, hhead, Nat.zero_add]; rfl)
  have h2 : 2 < s.size := by omega
  have h2I : (2 : Int) < s.size := by omega
  have hc2 : (s[2]'h2).toNat = q := by
    have h1 := natsOf_at s 2 h2
    rw [hs, hq] at h1
    exact (Option.some.inj h1).symm
  have hq1 : ((((s[2]'h2).toNat : Nat) : Int) == 120) = false := beq_eq_false_iff_ne.2 (by rw [hc2]; omega)
  have hq2 : ((((s[2]'h2).toNat : Nat) : Int) == 88) = false := beq_eq_false_iff_ne.2 (by rw [hc2]; omega)
  clear hc2
  clear hs
  go_enter Tryd.func35, Tryd.ntmps35
  go_wp2
  go_loopw [6, 7] (fun n c wr => ∃ k c' : Nat, n = .int .i64 ((k : Int) + 2) ∧ c = .int .i32 (c' : Nat) ∧ Hid (NumAt 10 r k c') ∧ k ≤ r.length ∧ c' ≤ 17825791 ∧ Below w.heap.size w wr) (fun n _ _ => s.size - (RowKit.intOf n).toNat)
  case atStart => exact ⟨0, 0, rfl, rfl, Lib.hid (NumAt.zero _ _), Nat.zero_le _, by omega, Below.refl _ _⟩
  case round =>
    obtain ⟨k, c, rfl, rfl, HN, hk, hc, hb⟩ := hrel
    by_cases hlt : k < r.length
    · obtain ⟨b, hbk⟩ := some_at (l := r) rfl hlt
      have hsl : k + 2 < s.size := by omega
      have hbs : (s[k + 2]'hsl).toNat = b := by
        have h1 := natsOf_at s (k + 2) hsl
        have h2 := HAT.out k
        rw [h1, hbk] at h2
        exact Option.some.inj h2
      have hslI : (k : Int) + 2 < s.size := by omega
      have HDG := Lib.hid (fun w => digit_any (s[k + 2]'hsl).toNat (UInt8.toNat_lt _) w)
      by_cases hd : digitV b < 10
      · have hdI : ((digitV (s[k + 2]'hsl).toNat : Nat) : Int) < 10 := by rw [hbs]; omega
        by_cases hcs : c ≤ 1114111
        · have hcI : (c : Int) ≤ 1114111 := by omega
          have HX := Lib.hid (HN.out.next ⟨by omega, by omega⟩ hbk hd hcs)
          have hcast : ((c * 10 + digitV b : Nat) : Int) = (c : Int) * 10 + ((digitV (s[k + 2]'hsl).toNat : Nat) : Int) := by rw [hbs]; omega
          have hsm := HX.out.small
          have HY := Lib.hid (And.intro hcast hsm)
          have hdr : ((digitV (s[k + 2]'hsl).toNat : Nat) : Int) ≤ 15 := by omega
          clear hbk hcast hsm hbs
          go_wp2_with (go_at_call 46; refine (HDG.out _).mono ?_; rintro e w1 ⟨rfl, rfl⟩)
          exact ⟨⟨k + 1, _, by go_num, by rw [HY.out.1], HX, by omega, HY.out.2, hb⟩, by simp [RowKit.intOf]; omega⟩
        · have hcI := eq_false (show ¬ (c : Int) ≤ 1114111 by omega)
          have HX := Lib.hid (HN.out.stay ⟨by omega, by omega⟩ hbk hd (by omega))
          clear hbk hbs
          go_wp2_with (go_at_call 46; refine (HDG.out _).mono ?_; rintro e w1 ⟨rfl, rfl⟩)
          exact ⟨⟨k + 1, _, by go_num, rfl, HX, by omega, hc, hb⟩, by simp [RowKit.intOf]; omega⟩
      · have hdI := eq_false (show ¬ ((digitV (s[k + 2]'hsl).toNat : Nat) : Int) < 10 by rw [hbs]; omega)
        have HE : Hid (∀ b, r[k]? = some b → ¬ digitV b < 10) := Lib.hid (fun x hx => by rw [hbk] at hx; cases hx; exact hd)
        clear hbk hbs
        by_cases hk0 : k = 0
        · subst hk0
          have HV : Hid (refV (findL attr (natsOf s)) = .tuple #[.int .i32 0, .int .i64 0, .bool false]) := Lib.hid (by rw [HS.out, number_none (HNUM HN.out) (HEND HE.out)]; rfl)
          clear HN HE
          go_wp2_with (go_at_call 46; refine (HDG.out _).mono ?_; rintro e w1 ⟨rfl, rfl⟩)
          go_ret3
          exact ⟨by rw [HV.out]; rfl, hb⟩
        · have hkne : ¬ (k : Int) = 0 := by omega
          have hsn := semi_at s (k + 2)
          have hat : (natsOf s)[k + 2]? = r[headOf r + k]? := HAT2.out k
          rw [hat] at hsn
          have HNB := Lib.hid (fun w => numbered_any c hc w)
          have hV := number_some (attr := attr) (HNUM HN.out) (HEND HE.out) (by omega)
          rw [← HS.out] at hV
          by_cases h59 : r[headOf r + k]? = some 59
          · rw [decide_eq_true h59] at hsn
            rw [if_pos h59] at hV
            have HP := Lib.hid (fun w => hasPrefix_any (s.extract (k + 2) s.size) ⟨#[59]⟩ w)
            rw [hsn] at HP
            have HV : Hid (refV (findL attr (natsOf s)) = .tuple #[.int .i32 ((charOf c : Nat) : Int), .int .i64 ((k : Int) + 2 + 1), .bool true]) := Lib.hid (by
              rw [hV]
              show Value.tuple #[.int .i32 ((charOf c : Nat) : Int), .int .i64 ((headOf r + k + 1 + 2 : Nat) : Int), .bool true] = _
              have e : ((headOf r + k + 1 + 2 : Nat) : Int) = (k : Int) + 2 + 1 := by omega
              rw [e])
            clear HN HE hsn hat h59 hV
            go_wp2_with (first
              | (go_at_call 46; refine (HDG.out _).mono ?_; rintro e w1 ⟨rfl, rfl⟩)
              | (go_at_call 34; refine (HP.out _).mono ?_; rintro e w2 ⟨rfl, rfl⟩)
              | (go_at_call 47; refine (HNB.out _).mono ?_; rintro e w3 ⟨rfl, hb3⟩))
            go_ret3
            exact ⟨by rw [HV.out]; rfl, hb.trans (hb3.mono hb.size)⟩
          · rw [decide_eq_false h59] at hsn
            rw [if_neg h59] at hV
            have HP := Lib.hid (fun w => hasPrefix_any (s.extract (k + 2) s.size) ⟨#[59]⟩ w)
            rw [hsn] at HP
            have HV : Hid (refV (findL attr (natsOf s)) = .tuple #[.int .i32 ((charOf c : Nat) : Int), .int .i64 ((k : Int) + 2), .bool true]) := Lib.hid (by
              rw [hV]
              show Value.tuple #[.int .i32 ((charOf c : Nat) : Int), .int .i64 ((headOf r + k + 0 + 2 : Nat) : Int), .bool true] = _
              have e : ((headOf r + k + 0 + 2 : Nat) : Int) = (k : Int) + 2 := by omega
              rw [e])
            clear HN HE hsn hat h59 hV
            go_wp2_with (first
              | (go_at_call 46; refine (HDG.out _).mono ?_; rintro e w1 ⟨rfl, rfl⟩)
              | (go_at_call 34; refine (HP.out _).mono ?_; rintro e w2 ⟨rfl, rfl⟩)
              | (go_at_call 47; refine (HNB.out _).mono ?_; rintro e w3 ⟨rfl, hb3⟩))
            go_ret3
            exact ⟨by rw [HV.out]; rfl, hb.trans (hb3.mono hb.size)⟩
    · have hslI := eq_false (show ¬ (k : Int) + 2 < s.size by omega)
      have HE : Hid (∀ b, r[k]? = some b → ¬ digitV b < 10) := Lib.hid (fun x hx => by rw [List.getElem?_eq_none (by omega)] at hx; cases hx)
      have HDG : True := trivial
      by_cases hk0 : k = 0
      · subst hk0
        exact absurd hlt (by omega)
      · have hkne : ¬ (k : Int) = 0 := by omega
        have hsn := semi_at s (k + 2)
        have hat : (natsOf s)[k + 2]? = r[headOf r + k]? := HAT2.out k
        rw [hat] at hsn
        have HNB := Lib.hid (fun w => numbered_any c hc w)
        have hV := number_some (attr := attr) (HNUM HN.out) (HEND HE.out) (by omega)
        rw [← HS.out] at hV
        by_cases h59 : r[headOf r + k]? = some 59
        · rw [decide_eq_true h59] at hsn
          rw [if_pos h59] at hV
          have HP := Lib.hid (fun w => hasPrefix_any (s.extract (k + 2) s.size) ⟨#[59]⟩ w)
          rw [hsn] at HP
          have HV : Hid (refV (findL attr (natsOf s)) = .tuple #[.int .i32 ((charOf c : Nat) : Int), .int .i64 ((k : Int) + 2 + 1), .bool true]) := Lib.hid (by
            rw [hV]
            show Value.tuple #[.int .i32 ((charOf c : Nat) : Int), .int .i64 ((headOf r + k + 1 + 2 : Nat) : Int), .bool true] = _
            have e : ((headOf r + k + 1 + 2 : Nat) : Int) = (k : Int) + 2 + 1 := by omega
            rw [e])
          clear HN HE hsn hat h59 hV
          go_wp2_with (first
            | (go_at_call 34; refine (HP.out _).mono ?_; rintro e w2 ⟨rfl, rfl⟩)
            | (go_at_call 47; refine (HNB.out _).mono ?_; rintro e w3 ⟨rfl, hb3⟩))
          go_ret3
          exact ⟨by rw [HV.out]; rfl, hb.trans (hb3.mono hb.size)⟩
        · rw [decide_eq_false h59] at hsn
          rw [if_neg h59] at hV
          have HP := Lib.hid (fun w => hasPrefix_any (s.extract (k + 2) s.size) ⟨#[59]⟩ w)
          rw [hsn] at HP
          have HV : Hid (refV (findL attr (natsOf s)) = .tuple #[.int .i32 ((charOf c : Nat) : Int), .int .i64 ((k : Int) + 2), .bool true]) := Lib.hid (by
            rw [hV]
            show Value.tuple #[.int .i32 ((charOf c : Nat) : Int), .int .i64 ((headOf r + k + 0 + 2 : Nat) : Int), .bool true] = _
            have e : ((headOf r + k + 0 + 2 : Nat) : Int) = (k : Int) + 2 := by omega
            rw [e])
          clear HN HE hsn hat h59 hV
          go_wp2_with (first
            | (go_at_call 34; refine (HP.out _).mono ?_; rintro e w2 ⟨rfl, rfl⟩)
            | (go_at_call 47; refine (HNB.out _).mono ?_; rintro e w3 ⟨rfl, hb3⟩))
          go_ret3
          exact ⟨by rw [HV.out]; rfl, hb.trans (hb3.mono hb.size)⟩

set_option maxRecDepth 100000 in
set_option maxHeartbeats 4000000 in
theorem byNumber_hex (attr : Bool) (s : ByteArray) (r : List Nat) (hs : natsOf s = 38 :: 35 :: r) (hsz : s.size ≤ 1099511627776) (w : World) (hx : isHex r = true) (hq : r.head? = some 120) :
    Calls Tryd.prog 35 #[.string s] w fun e w' => e = .returned (refV (findL attr (natsOf s))) ∧ Below w.heap.size w w' := by
  have HS := Lib.hid hs
  have hsl := natsOf_length s
  rw [hs] at hsl
  simp only [List.length_cons] at hsl
  have hbase : baseOf r = 16 := by unfold baseOf; rw [hx]; rfl
  have hhead : headOf r = 1 := by unfold headOf; rw [hx]; rfl
  obtain ⟨q, l, rfl⟩ : ∃ q l, r = q :: l := by
    cases r with
    | nil => cases hx
    | cons q l => exact ⟨q, l, rfl⟩
  simp only [List.length_cons] at hsl
  simp only [List.head?_cons, Option.some.injEq] at hq
  have HNUM : ∀ {k c : Nat}, NumAt 16 l k c → NumAt (baseOf (q :: l)) ((q :: l).drop (headOf (q :: l))) k c := fun h => by rw [hbase, hhead]; exact h
  have HEND : ∀ {k : Nat}, (∀ b, l[k]? = some b → ¬ digitV b < 16) → ∀ b, ((q :: l).drop (headOf (q :: l)))[k]? = some b → ¬ digitV b < baseOf (q :: l) := fun h => by rw [hbase, hhead]; exact h
  have HHEAD := hhead
  have HAT : Hid (∀ k, (natsOf s)[k + 3]? = l[k]?) := Lib.hid (fun k => by rw [hs]; rfl)
  have HAT2 : Hid (∀ k, (natsOf s)[k + 3]? = (q :: l)[headOf (q :: l) + k]?) := Lib.hid (fun k => by rw [hs, hhead, Nat.add_comm 1 k]; rfl)
  have h2 : 2 < s.size := by omega
  have h2I : (2 : Int) < s.size := by omega
  have hc2 : (s[2]'h2).toNat = q := by
    have h1 := natsOf_at s 2 h2
    rw [hs] at h1
    exact (Option.some.inj h1).symm
  rw [hq] at hc2
  clear hs
  go_enter Tryd.func35, Tryd.ntmps35
  go_wp2
  go_loopw [6, 7] (fun n c wr => ∃ k c' : Nat, n = .int .i64 ((k : Int) + 3) ∧ c = .int .i32 (c' : Nat) ∧ Hid (NumAt 16 l k c') ∧ k ≤ l.length ∧ c' ≤ 17825791 ∧ Below w.heap.size w wr) (fun n _ _ => s.size - (RowKit.intOf n).toNat)
  case atStart => exact ⟨0, 0, rfl, rfl, Lib.hid (NumAt.zero _ _), Nat.zero_le _, by omega, Below.refl _ _⟩
  case round =>
    obtain ⟨k, c, rfl, rfl, HN, hk, hc, hb⟩ := hrel
    by_cases hlt : k < l.length
    · obtain ⟨b, hbk⟩ := some_at (l := l) rfl hlt
      have hsl : k + 3 < s.size := by omega
      have hbs : (s[k + 3]'hsl).toNat = b := by
        have h1 := natsOf_at s (k + 3) hsl
        have h2 := HAT.out k
        rw [h1, hbk] at h2
        exact Option.some.inj h2
      have hslI : (k : Int) + 3 < s.size := by omega
      have HDG := Lib.hid (fun w => digit_any (s[k + 3]'hsl).toNat (UInt8.toNat_lt _) w)
      by_cases hd : digitV b < 16
      · have hdI : ((digitV (s[k + 3]'hsl).toNat : Nat) : Int) < 16 := by rw [hbs]; omega
        by_cases hcs : c ≤ 1114111
        · have hcI : (c : Int) ≤ 1114111 := by omega
          have HX := Lib.hid (HN.out.next ⟨by omega, by omega⟩ hbk hd hcs)
          have hcast : ((c * 16 + digitV b : Nat) : Int) = (c : Int) * 16 + ((digitV (s[k + 3]'hsl).toNat : Nat) : Int) := by rw [hbs]; omega
          have hsm := HX.out.small
          have HY := Lib.hid (And.intro hcast hsm)
          have hdr : ((digitV (s[k + 3]'hsl).toNat : Nat) : Int) ≤ 15 := by omega
          clear hbk hcast hsm hbs
          go_wp2_with (go_at_call 46; refine (HDG.out _).mono ?_; rintro e w1 ⟨rfl, rfl⟩)
          exact ⟨⟨k + 1, _, by go_num, by rw [HY.out.1], HX, by omega, HY.out.2, hb⟩, by simp [RowKit.intOf]; omega⟩
        · have hcI := eq_false (show ¬ (c : Int) ≤ 1114111 by omega)
          have HX := Lib.hid (HN.out.stay ⟨by omega, by omega⟩ hbk hd (by omega))
          clear hbk hbs
          go_wp2_with (go_at_call 46; refine (HDG.out _).mono ?_; rintro e w1 ⟨rfl, rfl⟩)
          exact ⟨⟨k + 1, _, by go_num, rfl, HX, by omega, hc, hb⟩, by simp [RowKit.intOf]; omega⟩
      · have hdI := eq_false (show ¬ ((digitV (s[k + 3]'hsl).toNat : Nat) : Int) < 16 by rw [hbs]; omega)
        have HE : Hid (∀ b, l[k]? = some b → ¬ digitV b < 16) := Lib.hid (fun x hx => by rw [hbk] at hx; cases hx; exact hd)
        clear hbk hbs
        by_cases hk0 : k = 0
        · subst hk0
          have HV : Hid (refV (findL attr (natsOf s)) = .tuple #[.int .i32 0, .int .i64 0, .bool false]) := Lib.hid (by rw [HS.out, number_none (HNUM HN.out) (HEND HE.out)]; rfl)
          clear HN HE
          go_wp2_with (go_at_call 46; refine (HDG.out _).mono ?_; rintro e w1 ⟨rfl, rfl⟩)
          go_ret3
          exact ⟨by rw [HV.out]; rfl, hb⟩
        · have hkne : ¬ (k : Int) = 0 := by omega
          have hsn := semi_at s (k + 3)
          have hat : (natsOf s)[k + 3]? = (q :: l)[headOf (q :: l) + k]? := HAT2.out k
          rw [hat] at hsn
          have HNB := Lib.hid (fun w => numbered_any c hc w)
          have hV := number_some (attr := attr) (HNUM HN.out) (HEND HE.out) (by omega)
          rw [← HS.out] at hV
          by_cases h59 : (q :: l)[headOf (q :: l) + k]? = some 59
          · rw [decide_eq_true h59] at hsn
            rw [if_pos h59] at hV
            have HP := Lib.hid (fun w => hasPrefix_any (s.extract (k + 3) s.size) ⟨#[59]⟩ w)
            rw [hsn] at HP
            have HV : Hid (refV (findL attr (natsOf s)) = .tuple #[.int .i32 ((charOf c : Nat) : Int), .int .i64 ((k : Int) + 3 + 1), .bool true]) := Lib.hid (by
              rw [hV]
              show Value.tuple #[.int .i32 ((charOf c : Nat) : Int), .int .i64 ((headOf (q :: l) + k + 1 + 2 : Nat) : Int), .bool true] = _
              have e : ((headOf (q :: l) + k + 1 + 2 : Nat) : Int) = (k : Int) + 3 + 1 := by omega
              rw [e])
            clear HN HE hsn hat h59 hV
            go_wp2_with (first
              | (go_at_call 46; refine (HDG.out _).mono ?_; rintro e w1 ⟨rfl, rfl⟩)
              | (go_at_call 34; refine (HP.out _).mono ?_; rintro e w2 ⟨rfl, rfl⟩)
              | (go_at_call 47; refine (HNB.out _).mono ?_; rintro e w3 ⟨rfl, hb3⟩))
            go_ret3
            exact ⟨by rw [HV.out]; rfl, hb.trans (hb3.mono hb.size)⟩
          · rw [decide_eq_false h59] at hsn
            rw [if_neg h59] at hV
            have HP := Lib.hid (fun w => hasPrefix_any (s.extract (k + 3) s.size) ⟨#[59]⟩ w)
            rw [hsn] at HP
            have HV : Hid (refV (findL attr (natsOf s)) = .tuple #[.int .i32 ((charOf c : Nat) : Int), .int .i64 ((k : Int) + 3), .bool true]) := Lib.hid (by
              rw [hV]
              show Value.tuple #[.int .i32 ((charOf c : Nat) : Int), .int .i64 ((headOf (q :: l) + k + 0 + 2 : Nat) : Int), .bool true] = _
              have e : ((headOf (q :: l) + k + 0 + 2 : Nat) : Int) = (k : Int) + 3 := by omega
              rw [e])
            clear HN HE hsn hat h59 hV
            go_wp2_with (first
              | (go_at_call 46; refine (HDG.out _).mono ?_; rintro e w1 ⟨rfl, rfl⟩)
              | (go_at_call 34; refine (HP.out _).mono ?_; rintro e w2 ⟨rfl, rfl⟩)
              | (go_at_call 47; refine (HNB.out _).mono ?_; rintro e w3 ⟨rfl, hb3⟩))
            go_ret3
            exact ⟨by rw [HV.out]; rfl, hb.trans (hb3.mono hb.size)⟩
    · have hslI := eq_false (show ¬ (k : Int) + 3 < s.size by omega)
      have HE : Hid (∀ b, l[k]? = some b → ¬ digitV b < 16) := Lib.hid (fun x hx => by rw [List.getElem?_eq_none (by omega)] at hx; cases hx)
      have HDG : True := trivial
      by_cases hk0 : k = 0
      · subst hk0
        have HV : Hid (refV (findL attr (natsOf s)) = .tuple #[.int .i32 0, .int .i64 0, .bool false]) := Lib.hid (by rw [HS.out, number_none (HNUM HN.out) (HEND HE.out)]; rfl)
        clear HN HE
        go_wp2
        go_ret3
        exact ⟨by rw [HV.out]; rfl, hb⟩
      · have hkne : ¬ (k : Int) = 0 := by omega
        have hsn := semi_at s (k + 3)
        have hat : (natsOf s)[k + 3]? = (q :: l)[headOf (q :: l) + k]? := HAT2.out k
        rw [hat] at hsn
        have HNB := Lib.hid (fun w => numbered_any c hc w)
        have hV := number_some (attr := attr) (HNUM HN.out) (HEND HE.out) (by omega)
        rw [← HS.out] at hV
        by_cases h59 : (q :: l)[headOf (q :: l) + k]? = some 59
        · rw [decide_eq_true h59] at hsn
          rw [if_pos h59] at hV
          have HP := Lib.hid (fun w => hasPrefix_any (s.extract (k + 3) s.size) ⟨#[59]⟩ w)
          rw [hsn] at HP
          have HV : Hid (refV (findL attr (natsOf s)) = .tuple #[.int .i32 ((charOf c : Nat) : Int), .int .i64 ((k : Int) + 3 + 1), .bool true]) := Lib.hid (by
            rw [hV]
            show Value.tuple #[.int .i32 ((charOf c : Nat) : Int), .int .i64 ((headOf (q :: l) + k + 1 + 2 : Nat) : Int), .bool true] = _
            have e : ((headOf (q :: l) + k + 1 + 2 : Nat) : Int) = (k : Int) + 3 + 1 := by omega
            rw [e])
          clear HN HE hsn hat h59 hV
          go_wp2_with (first
            | (go_at_call 34; refine (HP.out _).mono ?_; rintro e w2 ⟨rfl, rfl⟩)
            | (go_at_call 47; refine (HNB.out _).mono ?_; rintro e w3 ⟨rfl, hb3⟩))
          go_ret3
          exact ⟨by rw [HV.out]; rfl, hb.trans (hb3.mono hb.size)⟩
        · rw [decide_eq_false h59] at hsn
          rw [if_neg h59] at hV
          have HP := Lib.hid (fun w => hasPrefix_any (s.extract (k + 3) s.size) ⟨#[59]⟩ w)
          rw [hsn] at HP
          have HV : Hid (refV (findL attr (natsOf s)) = .tuple #[.int .i32 ((charOf c : Nat) : Int), .int .i64 ((k : Int) + 3), .bool true]) := Lib.hid (by
            rw [hV]
            show Value.tuple #[.int .i32 ((charOf c : Nat) : Int), .int .i64 ((headOf (q :: l) + k + 0 + 2 : Nat) : Int), .bool true] = _
            have e : ((headOf (q :: l) + k + 0 + 2 : Nat) : Int) = (k : Int) + 3 := by omega
            rw [e])
          clear HN HE hsn hat h59 hV
          go_wp2_with (first
            | (go_at_call 34; refine (HP.out _).mono ?_; rintro e w2 ⟨rfl, rfl⟩)
            | (go_at_call 47; refine (HNB.out _).mono ?_; rintro e w3 ⟨rfl, hb3⟩))
          go_ret3
          exact ⟨by rw [HV.out]; rfl, hb.trans (hb3.mono hb.size)⟩

set_option maxRecDepth 100000 in
set_option maxHeartbeats 4000000 in
theorem byNumber_heX (attr : Bool) (s : ByteArray) (r : List Nat) (hs : natsOf s = 38 :: 35 :: r) (hsz : s.size ≤ 1099511627776) (w : World) (hx : isHex r = true) (hq : r.head? = some 88) :
    Calls Tryd.prog 35 #[.string s] w fun e w' => e = .returned (refV (findL attr (natsOf s))) ∧ Below w.heap.size w w' := by
  have HS := Lib.hid hs
  have hsl := natsOf_length s
  rw [hs] at hsl
  simp only [List.length_cons] at hsl
  have hbase : baseOf r = 16 := by unfold baseOf; rw [hx]; rfl
  have hhead : headOf r = 1 := by unfold headOf; rw [hx]; rfl
  obtain ⟨q, l, rfl⟩ : ∃ q l, r = q :: l := by
    cases r with
    | nil => cases hx
    | cons q l => exact ⟨q, l, rfl⟩
  simp only [List.length_cons] at hsl
  simp only [List.head?_cons, Option.some.injEq] at hq
  have HNUM : ∀ {k c : Nat}, NumAt 16 l k c → NumAt (baseOf (q :: l)) ((q :: l).drop (headOf (q :: l))) k c := fun h => by rw [hbase, hhead]; exact h
  have HEND : ∀ {k : Nat}, (∀ b, l[k]? = some b → ¬ digitV b < 16) → ∀ b, ((q :: l).drop (headOf (q :: l)))[k]? = some b → ¬ digitV b < baseOf (q :: l) := fun h => by rw [hbase, hhead]; exact h
  have HHEAD := hhead
  have HAT : Hid (∀ k, (natsOf s)[k + 3]? = l[k]?) := Lib.hid (fun k => by rw [hs]; rfl)
  have HAT2 : Hid (∀ k, (natsOf s)[k + 3]? = (q :: l)[headOf (q :: l) + k]?) := Lib.hid (fun k => by rw [hs, hhead, Nat.add_comm 1 k]; rfl)
  have h2 : 2 < s.size := by omega
  have h2I : (2 : Int) < s.size := by omega
  have hc2 : (s[2]'h2).toNat = q := by
    have h1 := natsOf_at s 2 h2
    rw [hs] at h1
    exact (Option.some.inj h1).symm
  rw [hq] at hc2
  clear hs
  go_enter Tryd.func35, Tryd.ntmps35
  go_wp2
  go_loopw [6, 7] (fun n c wr => ∃ k c' : Nat, n = .int .i64 ((k : Int) + 3) ∧ c = .int .i32 (c' : Nat) ∧ Hid (NumAt 16 l k c') ∧ k ≤ l.length ∧ c' ≤ 17825791 ∧ Below w.heap.size w wr) (fun n _ _ => s.size - (RowKit.intOf n).toNat)
  case atStart => exact ⟨0, 0, rfl, rfl, Lib.hid (NumAt.zero _ _), Nat.zero_le _, by omega, Below.refl _ _⟩
  case round =>
    obtain ⟨k, c, rfl, rfl, HN, hk, hc, hb⟩ := hrel
    by_cases hlt : k < l.length
    · obtain ⟨b, hbk⟩ := some_at (l := l) rfl hlt
      have hsl : k + 3 < s.size := by omega
      have hbs : (s[k + 3]'hsl).toNat = b := by
        have h1 := natsOf_at s (k + 3) hsl
        have h2 := HAT.out k
        rw [h1, hbk] at h2
        exact Option.some.inj h2
      have hslI : (k : Int) + 3 < s.size := by omega
      have HDG := Lib.hid (fun w => digit_any (s[k + 3]'hsl).toNat (UInt8.toNat_lt _) w)
      by_cases hd : digitV b < 16
      · have hdI : ((digitV (s[k + 3]'hsl).toNat : Nat) : Int) < 16 := by rw [hbs]; omega
        by_cases hcs : c ≤ 1114111
        · have hcI : (c : Int) ≤ 1114111 := by omega
          have HX := Lib.hid (HN.out.next ⟨by omega, by omega⟩ hbk hd hcs)
          have hcast : ((c * 16 + digitV b : Nat) : Int) = (c : Int) * 16 + ((digitV (s[k + 3]'hsl).toNat : Nat) : Int) := by rw [hbs]; omega
          have hsm := HX.out.small
          have HY := Lib.hid (And.intro hcast hsm)
          have hdr : ((digitV (s[k + 3]'hsl).toNat : Nat) : Int) ≤ 15 := by omega
          clear hbk hcast hsm hbs
          go_wp2_with (go_at_call 46; refine (HDG.out _).mono ?_; rintro e w1 ⟨rfl, rfl⟩)
          exact ⟨⟨k + 1, _, by go_num, by rw [HY.out.1], HX, by omega, HY.out.2, hb⟩, by simp [RowKit.intOf]; omega⟩
        · have hcI := eq_false (show ¬ (c : Int) ≤ 1114111 by omega)
          have HX := Lib.hid (HN.out.stay ⟨by omega, by omega⟩ hbk hd (by omega))
          clear hbk hbs
          go_wp2_with (go_at_call 46; refine (HDG.out _).mono ?_; rintro e w1 ⟨rfl, rfl⟩)
          exact ⟨⟨k + 1, _, by go_num, rfl, HX, by omega, hc, hb⟩, by simp [RowKit.intOf]; omega⟩
      · have hdI := eq_false (show ¬ ((digitV (s[k + 3]'hsl).toNat : Nat) : Int) < 16 by rw [hbs]; omega)
        have HE : Hid (∀ b, l[k]? = some b → ¬ digitV b < 16) := Lib.hid (fun x hx => by rw [hbk] at hx; cases hx; exact hd)
        clear hbk hbs
        by_cases hk0 : k = 0
        · subst hk0
          have HV : Hid (refV (findL attr (natsOf s)) = .tuple #[.int .i32 0, .int .i64 0, .bool false]) := Lib.hid (by rw [HS.out, number_none (HNUM HN.out) (HEND HE.out)]; rfl)
          clear HN HE
          go_wp2_with (go_at_call 46; refine (HDG.out _).mono ?_; rintro e w1 ⟨rfl, rfl⟩)
          go_ret3
          exact ⟨by rw [HV.out]; rfl, hb⟩
        · have hkne : ¬ (k : Int) = 0 := by omega
          have hsn := semi_at s (k + 3)
          have hat : (natsOf s)[k + 3]? = (q :: l)[headOf (q :: l) + k]? := HAT2.out k
          rw [hat] at hsn
          have HNB := Lib.hid (fun w => numbered_any c hc w)
          have hV := number_some (attr := attr) (HNUM HN.out) (HEND HE.out) (by omega)
          rw [← HS.out] at hV
          by_cases h59 : (q :: l)[headOf (q :: l) + k]? = some 59
          · rw [decide_eq_true h59] at hsn
            rw [if_pos h59] at hV
            have HP := Lib.hid (fun w => hasPrefix_any (s.extract (k + 3) s.size) ⟨#[59]⟩ w)
            rw [hsn] at HP
            have HV : Hid (refV (findL attr (natsOf s)) = .tuple #[.int .i32 ((charOf c : Nat) : Int), .int .i64 ((k : Int) + 3 + 1), .bool true]) := Lib.hid (by
              rw [hV]
              show Value.tuple #[.int .i32 ((charOf c : Nat) : Int), .int .i64 ((headOf (q :: l) + k + 1 + 2 : Nat) : Int), .bool true] = _
              have e : ((headOf (q :: l) + k + 1 + 2 : Nat) : Int) = (k : Int) + 3 + 1 := by omega
              rw [e])
            clear HN HE hsn hat h59 hV
            go_wp2_with (first
              | (go_at_call 46; refine (HDG.out _).mono ?_; rintro e w1 ⟨rfl, rfl⟩)
              | (go_at_call 34; refine (HP.out _).mono ?_; rintro e w2 ⟨rfl, rfl⟩)
              | (go_at_call 47; refine (HNB.out _).mono ?_; rintro e w3 ⟨rfl, hb3⟩))
            go_ret3
            exact ⟨by rw [HV.out]; rfl, hb.trans (hb3.mono hb.size)⟩
          · rw [decide_eq_false h59] at hsn
            rw [if_neg h59] at hV
            have HP := Lib.hid (fun w => hasPrefix_any (s.extract (k + 3) s.size) ⟨#[59]⟩ w)
            rw [hsn] at HP
            have HV : Hid (refV (findL attr (natsOf s)) = .tuple #[.int .i32 ((charOf c : Nat) : Int), .int .i64 ((k : Int) + 3), .bool true]) := Lib.hid (by
              rw [hV]
              show Value.tuple #[.int .i32 ((charOf c : Nat) : Int), .int .i64 ((headOf (q :: l) + k + 0 + 2 : Nat) : Int), .bool true] = _
              have e : ((headOf (q :: l) + k + 0 + 2 : Nat) : Int) = (k : Int) + 3 := by omega
              rw [e])
            clear HN HE hsn hat h59 hV
            go_wp2_with (first
              | (go_at_call 46; refine (HDG.out _).mono ?_; rintro e w1 ⟨rfl, rfl⟩)
              | (go_at_call 34; refine (HP.out _).mono ?_; rintro e w2 ⟨rfl, rfl⟩)
              | (go_at_call 47; refine (HNB.out _).mono ?_; rintro e w3 ⟨rfl, hb3⟩))
            go_ret3
            exact ⟨by rw [HV.out]; rfl, hb.trans (hb3.mono hb.size)⟩
    · have hslI := eq_false (show ¬ (k : Int) + 3 < s.size by omega)
      have HE : Hid (∀ b, l[k]? = some b → ¬ digitV b < 16) := Lib.hid (fun x hx => by rw [List.getElem?_eq_none (by omega)] at hx; cases hx)
      have HDG : True := trivial
      by_cases hk0 : k = 0
      · subst hk0
        have HV : Hid (refV (findL attr (natsOf s)) = .tuple #[.int .i32 0, .int .i64 0, .bool false]) := Lib.hid (by rw [HS.out, number_none (HNUM HN.out) (HEND HE.out)]; rfl)
        clear HN HE
        go_wp2
        go_ret3
        exact ⟨by rw [HV.out]; rfl, hb⟩
      · have hkne : ¬ (k : Int) = 0 := by omega
        have hsn := semi_at s (k + 3)
        have hat : (natsOf s)[k + 3]? = (q :: l)[headOf (q :: l) + k]? := HAT2.out k
        rw [hat] at hsn
        have HNB := Lib.hid (fun w => numbered_any c hc w)
        have hV := number_some (attr := attr) (HNUM HN.out) (HEND HE.out) (by omega)
        rw [← HS.out] at hV
        by_cases h59 : (q :: l)[headOf (q :: l) + k]? = some 59
        · rw [decide_eq_true h59] at hsn
          rw [if_pos h59] at hV
          have HP := Lib.hid (fun w => hasPrefix_any (s.extract (k + 3) s.size) ⟨#[59]⟩ w)
          rw [hsn] at HP
          have HV : Hid (refV (findL attr (natsOf s)) = .tuple #[.int .i32 ((charOf c : Nat) : Int), .int .i64 ((k : Int) + 3 + 1), .bool true]) := Lib.hid (by
            rw [hV]
            show Value.tuple #[.int .i32 ((charOf c : Nat) : Int), .int .i64 ((headOf (q :: l) + k + 1 + 2 : Nat) : Int), .bool true] = _
            have e : ((headOf (q :: l) + k + 1 + 2 : Nat) : Int) = (k : Int) + 3 + 1 := by omega
            rw [e])
          clear HN HE hsn hat h59 hV
          go_wp2_with (first
            | (go_at_call 34; refine (HP.out _).mono ?_; rintro e w2 ⟨rfl, rfl⟩)
            | (go_at_call 47; refine (HNB.out _).mono ?_; rintro e w3 ⟨rfl, hb3⟩))
          go_ret3
          exact ⟨by rw [HV.out]; rfl, hb.trans (hb3.mono hb.size)⟩
        · rw [decide_eq_false h59] at hsn
          rw [if_neg h59] at hV
          have HP := Lib.hid (fun w => hasPrefix_any (s.extract (k + 3) s.size) ⟨#[59]⟩ w)
          rw [hsn] at HP
          have HV : Hid (refV (findL attr (natsOf s)) = .tuple #[.int .i32 ((charOf c : Nat) : Int), .int .i64 ((k : Int) + 3), .bool true]) := Lib.hid (by
            rw [hV]
            show Value.tuple #[.int .i32 ((charOf c : Nat) : Int), .int .i64 ((headOf (q :: l) + k + 0 + 2 : Nat) : Int), .bool true] = _
            have e : ((headOf (q :: l) + k + 0 + 2 : Nat) : Int) = (k : Int) + 3 := by omega
            rw [e])
          clear HN HE hsn hat h59 hV
          go_wp2_with (first
            | (go_at_call 34; refine (HP.out _).mono ?_; rintro e w2 ⟨rfl, rfl⟩)
            | (go_at_call 47; refine (HNB.out _).mono ?_; rintro e w3 ⟨rfl, hb3⟩))
          go_ret3
          exact ⟨by rw [HV.out]; rfl, hb.trans (hb3.mono hb.size)⟩
end Go.Proofs.YtkfmfldkllkcbabDoor

