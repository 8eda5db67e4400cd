/-
  The document's own reader of package csstok: see, escape, name, number. Conditions: none but on memory.
  The document's own reader of package csstok: name, number, stands. Conditions: signs are of at most 1000 bytes.
  The document's own reader of package csstok: it moves: digits, comments. Conditions: none but on memory.
  The document's own reader of package csstok: an escape is taken. Conditions: none but on memory.
  The document's own reader of package csstok: a name is taken. Conditions: texts of at most 20000 characters.
-/
import Derived.Test.YtmhdocgoeahbdaaGreatDoorQWorks
import Derived.Deep.CutBlock
namespace Go.Proofs.YtmhdocgoeahbdaaGreatDoor
open Go.RowKit Go.RunKit Go.UtfKit Go.Lib Go.CssKit

abbrev TRz : TypeId := 51
/-- The document's reader at b: all characters in block g, and how many are read. -/
structure RZ (w : World) (b g : Nat) (l0 : Chars) (k : Nat) : Prop where
  ex : ∃ ao cap, w.heap[b]? = some (.cells #[.slice ao l0.length cap, .int .i64 ((k : Nat) : Int)] TRz (0, 0)) ∧ l0.length ≤ cap ∧ (ao = none → l0 = []) ∧ ∀ a, ao = some a → a = ⟨g, 0, none⟩ ∧ SeeC w g 0 l0
  ne : g ≠ b
  len : l0.length ≤ 1099511627776
  le : k ≤ l0.length
  lt : b < w.heap.size
  ok : ∀ z, z ∈ l0 → okC z
theorem RZ.below {w w' : World} {b g k : Nat} {l0 : Chars} (h : RZ w b g l0 k) (hb : Below w.heap.size w w') : RZ w' b g l0 k := by
  obtain ⟨ao, cap, h1, h2, h3, h4⟩ := h.ex
  exact ⟨⟨ao, cap, (hb.block b h.lt).trans h1, h2, h3, fun a ha => ⟨(h4 a ha).1, (h4 a ha).2.on hb⟩⟩, h.ne, h.len, h.le, Nat.lt_of_lt_of_le h.lt hb.size, h.ok⟩
theorem RZ.char {w : World} {b g k : Nat} {l0 : Chars} (h : RZ w b g l0 k) {n : Nat} (hn : k + n < l0.length) : okC (at_ (l0.drop k) n) := by
  rw [at_drop, at_some hn]
  exact h.ok _ (List.getElem_mem hn)
theorem RZ.parts {w : World} {b g k : Nat} {l0 : Chars} (h : RZ w b g l0 k) : ∃ ao cap, w.cell? ⟨b, 0, none⟩ = some (.slice ao l0.length cap) ∧ w.cell? ⟨b, 1, none⟩ = some (.int .i64 ((k : Nat) : Int)) ∧ w.frozen? ⟨b, 1, none⟩ = false ∧ (∀ n, k + n < l0.length → ao = some ⟨g, 0, none⟩ ∧ w.cell? ⟨g, k + n, none⟩ = some (.int .i32 (at_ l0 (k + n)))) := by
  obtain ⟨ao, cap, h1, h2, h3, h4⟩ := h.ex
  refine ⟨ao, cap, by simp [World.cell?, h1], by simp [World.cell?, h1], frozen_of_row w b 1 _ _ h1, fun n hn => ?_⟩
  cases ao with
  | none => rw [h3 rfl] at hn; simp at hn
  | some a =>
    obtain ⟨e, hs⟩ := h4 a rfl
    have := hs.at hn
    rw [Nat.zero_add] at this
    exact ⟨by rw [e], this⟩

set_option maxRecDepth 100000 in
set_option maxHeartbeats 4000000 in
theorem see_any (b g k n : Nat) (l0 : Chars) (w : World) (h : RZ w b g l0 k) (hn : n ≤ 1099511627776) :
    Calls Tryz.prog 23 #[.pointer (some ⟨b, 0, none⟩), .int .i64 ((n : Nat) : Int)] w fun e w' => e = .returned (.int .i32 (at_ l0 (k + n))) ∧ Below w.heap.size w w' := by
  obtain ⟨ao, cap, c0, c1, _, hc⟩ := h.parts
  have hlen := h.len
  have hle := h.le
  by_cases hlt : k + n < l0.length
  · obtain ⟨rfl, c2⟩ := hc n hlt
    generalize at_ l0 (k + n) = z at *
    have hI : (k : Int) + n < l0.length := by omega
    have h0 : (0 : Int) ≤ (k : Int) + n := by omega
    clear h hc
    go_enter Tryz.func23, Tryz.ntmps23
    go_big_wp2
    all_goals (try go_quiet (fail))
    go_big_wp2
    all_goals (try go_quiet (fail))
    go_big_wp2
    go_ret
    exact ⟨rfl, (below_drewN (Below.refl _ _) _).trans (below_drewN (Below.refl _ _) _)⟩
  · rw [at_over (show l0.length ≤ k + n by omega)]
    have hI : (l0.length : Int) ≤ (k : Int) + n := by omega
    clear h hc
    go_enter Tryz.func23, Tryz.ntmps23
    go_big_wp2
    all_goals (try go_quiet (fail))
    go_big_wp2
    go_ret
    exact ⟨rfl, below_drewN (Below.refl _ _) _⟩
/-- see, from now on, over what is left. -/
theorem see_all {b g k : Nat} {l0 : Chars} {w : World} (h : RZ w b g l0 k) (n : Nat) (hn : n ≤ 1099511627776) : ∀ w1, Below w.heap.size w w1 →
    Calls Tryz.prog 23 #[.pointer (some ⟨b, 0, none⟩), .int .i64 ((n : Nat) : Int)] w1 fun e w' => e = .returned (.int .i32 (at_ (l0.drop k) n)) ∧ Below w.heap.size w w' := fun w1 hb =>
  (see_any b g k n l0 w1 (h.below hb) hn).mono fun e w' hh => ⟨by rw [at_drop]; exact hh.1, hb.trans (hh.2.mono hb.size)⟩

set_option maxRecDepth 100000 in
set_option maxHeartbeats 1000000 in
theorem escZ_any (b g k n : Nat) (l0 : Chars) (w : World) (h : RZ w b g l0 k) (hn : n ≤ 1000) :
    Calls Tryz.prog 49 #[.pointer (some ⟨b, 0, none⟩), .int .i64 ((n : Nat) : Int)] w fun e w' => e = .returned (.bool (escAt (l0.drop k) n)) ∧ Below w.heap.size w w' := by
  have H0 := Lib.hid (see_all h n (by omega))
  have H1 := see_all h (n + 1) (by omega)
  rw [show ((n + 1 : Nat) : Int) = (n : Int) + 1 by omega] at H1
  have HH1 := Lib.hid H1
  unfold escAt
  generalize at_ (l0.drop k) n = x at *
  generalize at_ (l0.drop k) (n + 1) = y at *
  clear h H1
  by_cases h1 : x = 92 <;> by_cases h2 : y = 10
  all_goals
    have b1 : (x == 92) = decide (x = 92) := by rw [Bool.eq_iff_iff]; simp
    have b2 : (y == 10) = decide (y = 10) := by rw [Bool.eq_iff_iff]; simp
    have b3 : (y != 10) = !decide (y = 10) := by rw [Bool.eq_iff_iff]; simp
    have HB := Lib.hid (Below.refl w.heap.size w)
    rw [b1, b2]
    go_enter Tryz.func49, Tryz.ntmps49
    go_big_wp2_with (first
      | (go_at_call_of 23 (Value.int .i64 ((n : Nat) : Int)); refine (H0.out _ HB.out).mono ?_; clear HB; rintro e w1 ⟨rfl, hb⟩; have HB := Lib.hid hb; clear hb)
      | (go_at_call 23; refine (HH1.out _ HB.out).mono ?_; clear HB; rintro e w2 ⟨rfl, hb⟩; have HB := Lib.hid hb; clear hb))
    go_ret
    refine ⟨ret1_eq (congrArg Value.bool ?_), HB.out⟩
    simp [h1, h2]
end Go.Proofs.YtmhdocgoeahbdaaGreatDoor
namespace Go.Proofs.YtmhdocgoeahbdaaGreatDoor
open Go.RowKit Go.RunKit Go.UtfKit Go.Lib Go.CssKit

theorem esc_all {b g k : Nat} {l0 : Chars} {w : World} (h : RZ w b g l0 k) (n : Nat) (hn : n ≤ 1000) : ∀ w1, Below w.heap.size w w1 →
    Calls Tryz.prog 49 #[.pointer (some ⟨b, 0, none⟩), .int .i64 ((n : Nat) : Int)] w1 fun e w' => e = .returned (.bool (escAt (l0.drop k) n)) ∧ Below w.heap.size w w' := fun w1 hb =>
  (escZ_any b g k n l0 w1 (h.below hb) hn).mono fun _ _ hh => ⟨hh.1, hb.trans (hh.2.mono hb.size)⟩

set_option maxRecDepth 100000 in
set_option maxHeartbeats 2000000 in
theorem nameZ_any (b g k : Nat) (l0 : Chars) (w : World) (h : RZ w b g l0 k) :
    Calls Tryz.prog 50 #[.pointer (some ⟨b, 0, none⟩)] w fun e w' => e = .returned (.bool (nameAt (l0.drop k) 0)) ∧ Below w.heap.size w w' := by
  have H0 := Lib.hid (see_all h 0 (by omega))
  have H1 := Lib.hid (see_all h 1 (by omega))
  have E0 := Lib.hid (esc_all h 0 (by omega))
  have E1 := Lib.hid (esc_all h 1 (by omega))
  generalize l0.drop k = l at *
  have HB0 := Lib.hid (refBegins_any (at_ l 0))
  have HB1 := Lib.hid (refBegins_any (at_ l 1))
  unfold nameAt
  rw [show (0 + 1 : Nat) = 1 from rfl]
  generalize at_ l 0 = x at *
  generalize at_ l 1 = y at *
  generalize escAt l 0 = u at *
  generalize escAt l 1 = v at *
  generalize begC x = p at *
  generalize begC y = q at *
  have HB := Lib.hid (Below.refl w.heap.size w)
  clear h
  by_cases h1 : x = 45
  · subst h1
    rw [if_pos rfl]
    clear HB0 E0
    cases q
    · by_cases h2 : y = 45
      · subst h2
        clear E1
        go_enter Tryz.func50, Tryz.ntmps50
        go_big_wp2_with (first
          | (go_at_call_of 23 (Value.int .i64 0); refine (H0.out _ HB.out).mono ?_; clear HB; rintro e w1 ⟨rfl, hb⟩; have HB := Lib.hid hb; clear hb)
          | (go_at_call 23; refine (H1.out _ HB.out).mono ?_; clear HB; rintro e w1 ⟨rfl, hb⟩; have HB := Lib.hid hb; clear hb)
          | (go_at_call 81; refine (HB1.out _).mono ?_; rintro e w1 ⟨rfl, rfl⟩))
        go_ret
        exact ⟨rfl, HB.out⟩
      · have b2 : (y == 45) = false := by rw [beq_eq_false_iff_ne]; exact h2
        rw [b2]
        cases v
        all_goals
          go_enter Tryz.func50, Tryz.ntmps50
          go_big_wp2_with (first
            | (go_at_call_of 23 (Value.int .i64 0); refine (H0.out _ HB.out).mono ?_; clear HB; rintro e w1 ⟨rfl, hb⟩; have HB := Lib.hid hb; clear hb)
            | (go_at_call 23; refine (H1.out _ HB.out).mono ?_; clear HB; rintro e w1 ⟨rfl, hb⟩; have HB := Lib.hid hb; clear hb)
            | (go_at_call 49; refine (E1.out _ HB.out).mono ?_; clear HB; rintro e w1 ⟨rfl, hb⟩; have HB := Lib.hid hb; clear hb)
            | (go_at_call 81; refine (HB1.out _).mono ?_; rintro e w1 ⟨rfl, rfl⟩))
          go_ret
          exact ⟨rfl, HB.out⟩
    · clear E1
      go_enter Tryz.func50, Tryz.ntmps50
      go_big_wp2_with (first
        | (go_at_call_of 23 (Value.int .i64 0); refine (H0.out _ HB.out).mono ?_; clear HB; rintro e w1 ⟨rfl, hb⟩; have HB := Lib.hid hb; clear hb)
        | (go_at_call 23; refine (H1.out _ HB.out).mono ?_; clear HB; rintro e w1 ⟨rfl, hb⟩; have HB := Lib.hid hb; clear hb)
        | (go_at_call 81; refine (HB1.out _).mono ?_; rintro e w1 ⟨rfl, rfl⟩))
      go_ret
      refine ⟨ret1_eq (congrArg Value.bool ?_), HB.out⟩
      simp
  · have b1 : (x == 45) = false := by rw [beq_eq_false_iff_ne]; exact h1
    rw [if_neg h1]
    clear HB1 E1 H1
    cases p <;> cases u
    all_goals
      go_enter Tryz.func50, Tryz.ntmps50
      go_big_wp2_with (first
        | (go_at_call 23; refine (H0.out _ HB.out).mono ?_; clear HB; rintro e w1 ⟨rfl, hb⟩; have HB := Lib.hid hb; clear hb)
        | (go_at_call 81; refine (HB0.out _).mono ?_; rintro e w1 ⟨rfl, rfl⟩)
        | (go_at_call 49; refine (E0.out _ HB.out).mono ?_; clear HB; rintro e w1 ⟨rfl, hb⟩; have HB := Lib.hid hb; clear hb))
      go_ret
      exact ⟨rfl, HB.out⟩

set_option maxRecDepth 100000 in
set_option maxHeartbeats 2000000 in
theorem numZ_any (b g k : Nat) (l0 : Chars) (w : World) (h : RZ w b g l0 k) :
    Calls Tryz.prog 52 #[.pointer (some ⟨b, 0, none⟩)] w fun e w' => e = .returned (.bool (numAt (l0.drop k))) ∧ Below w.heap.size w w' := by
  have H0 := Lib.hid (see_all h 0 (by omega))
  have H1 := Lib.hid (see_all h 1 (by omega))
  have H2 := Lib.hid (see_all h 2 (by omega))
  generalize l0.drop k = l at *
  have D0 := Lib.hid (refDigit_any (at_ l 0))
  have D1 := Lib.hid (refDigit_any (at_ l 1))
  have D2 := Lib.hid (refDigit_any (at_ l 2))
  unfold numAt dotN signN
  rw [show (0 + 1 : Nat) = 1 from rfl]
  obtain ⟨x, hx⟩ : ∃ x, at_ l 0 = x := ⟨_, rfl⟩
  obtain ⟨y, hy⟩ : ∃ x, at_ l 1 = x := ⟨_, rfl⟩
  obtain ⟨z, hz⟩ : ∃ x, at_ l 2 = x := ⟨_, rfl⟩
  have HB := Lib.hid (Below.refl w.heap.size w)
  by_cases hs : at_ l 0 = 43 ∨ at_ l 0 = 45
  · rw [if_pos hs, hy, show (1 + 1 : Nat) = 2 from rfl]
    rw [hx] at hs H0
    rw [hy] at H1 D1
    rw [hz] at H2 D2
    have hans : isDg (at_ l (if y = 46 then 2 else 1)) = if y = 46 then isDg z else isDg y := by split <;> simp [hy, hz]
    rw [hans]
    generalize isDg y = p at *
    generalize isDg z = q at *
    clear h hx hy hz D0 hans
    by_cases h46 : y = 46
    · rw [if_pos h46]
      subst h46
      clear D1
      rcases hs with rfl | rfl
      all_goals
        go_enter Tryz.func52, Tryz.ntmps52
        go_big_wp2_with (first
          | (go_at_call_of 23 (Value.int .i64 0); refine (H0.out _ HB.out).mono ?_; clear HB; rintro e w1 ⟨rfl, hb⟩; have HB := Lib.hid hb; clear hb)
          | (go_at_call_of 23 (Value.int .i64 1); refine (H1.out _ HB.out).mono ?_; clear HB; rintro e w1 ⟨rfl, hb⟩; have HB := Lib.hid hb; clear hb)
          | (go_at_call_of 23 (Value.int .i64 2); refine (H2.out _ HB.out).mono ?_; clear HB; rintro e w1 ⟨rfl, hb⟩; have HB := Lib.hid hb; clear hb)
          | (go_at_call 82; refine (D2.out _).mono ?_; rintro e w1 ⟨rfl, rfl⟩))
        go_ret
        exact ⟨rfl, HB.out⟩
    · rw [if_neg h46]
      have b46 : (y == 46) = false := by rw [beq_eq_false_iff_ne]; exact h46
      clear D2 H2
      rcases hs with rfl | rfl
      all_goals
        go_enter Tryz.func52, Tryz.ntmps52
        go_big_wp2_with (first
          | (go_at_call_of 23 (Value.int .i64 0); refine (H0.out _ HB.out).mono ?_; clear HB; rintro e w1 ⟨rfl, hb⟩; have HB := Lib.hid hb; clear hb)
          | (go_at_call_of 23 (Value.int .i64 1); refine (H1.out _ HB.out).mono ?_; clear HB; rintro e w1 ⟨rfl, hb⟩; have HB := Lib.hid hb; clear hb)
          | (go_at_call 82; refine (D1.out _).mono ?_; rintro e w1 ⟨rfl, rfl⟩))
        go_ret
        exact ⟨rfl, HB.out⟩
  · rw [if_neg hs, hx]
    rw [hx] at hs H0 D0
    rw [hy] at H1 D1
    have hans : isDg (at_ l (if x = 46 then 1 else 0)) = if x = 46 then isDg y else isDg x := by split <;> simp [hx, hy]
    rw [hans]
    have b43 : (x == 43) = false := by rw [beq_eq_false_iff_ne]; exact fun e => hs (.inl e)
    have b45 : (x == 45) = false := by rw [beq_eq_false_iff_ne]; exact fun e => hs (.inr e)
    generalize isDg x = p at *
    generalize isDg y = q at *
    clear h hx hy hz D2 H2 hans hs
    by_cases h46 : x = 46
    · rw [if_pos h46]
      subst h46
      clear D0 b43 b45
      go_enter Tryz.func52, Tryz.ntmps52
      go_big_wp2_with (first
        | (go_at_call_of 23 (Value.int .i64 0); refine (H0.out _ HB.out).mono ?_; clear HB; rintro e w1 ⟨rfl, hb⟩; have HB := Lib.hid hb; clear hb)
        | (go_at_call_of 23 (Value.int .i64 1); refine (H1.out _ HB.out).mono ?_; clear HB; rintro e w1 ⟨rfl, hb⟩; have HB := Lib.hid hb; clear hb)
        | (go_at_call 82; refine (D1.out _).mono ?_; rintro e w1 ⟨rfl, rfl⟩))
      go_ret
      exact ⟨rfl, HB.out⟩
    · rw [if_neg h46]
      have b46 : (x == 46) = false := by rw [beq_eq_false_iff_ne]; exact h46
      clear D1 H1
      go_enter Tryz.func52, Tryz.ntmps52
      go_big_wp2_with (first
        | (go_at_call 23; refine (H0.out _ HB.out).mono ?_; clear HB; rintro e w1 ⟨rfl, hb⟩; have HB := Lib.hid hb; clear hb)
        | (go_at_call 82; refine (D0.out _).mono ?_; rintro e w1 ⟨rfl, rfl⟩))
      go_ret
      exact ⟨rfl, HB.out⟩

theorem see_over {b g k : Nat} {l0 : Chars} {w : World} (h : RZ w b g l0 k) (p : Over w) (n : Nat) (hn : n ≤ 1099511627776) :
    Calls Tryz.prog 23 #[.pointer (some ⟨b, 0, none⟩), .int .i64 ((n : Nat) : Int)] p.out fun e w' => e = .returned (.int .i32 (at_ (l0.drop k) n)) ∧ Below p.out.heap.size p.out w' :=
  (see_any b g k n l0 p.out (h.below p.below) hn).mono fun _ _ hh => ⟨by rw [at_drop]; exact hh.1, hh.2⟩
set_option maxRecDepth 100000 in
set_option maxHeartbeats 2000000 in
theorem standsZ_any (b g k : Nat) (s : ByteArray) (l0 : Chars) (w : World) (h : RZ w b g l0 k) (hs : s.size ≤ 1000) :
    Calls Tryz.prog 45 #[.pointer (some ⟨b, 0, none⟩), .string s] w fun e w' => e = .returned (.bool (startsC (l0.drop k) s.data.toList 0)) ∧ Below w.heap.size w w' := by
  have HZ := Lib.hid h
  obtain ⟨ans, hans⟩ : ∃ a, startsC (l0.drop k) s.data.toList 0 = a := ⟨_, rfl⟩
  rw [hans]
  have D0 : Hid (startsC (l0.drop k) (s.data.toList.drop 0) 0 = ans) := Lib.hid (by rw [List.drop_zero]; exact hans)
  have HB0 := Lib.hid (Below.refl w.heap.size w)
  clear h hans
  go_enter Tryz.func45, Tryz.ntmps45
  go_big_wp2
  go_loopw [5] (fun v wr => ∃ i : Nat, v = .int .i64 ((i : Nat) : Int) ∧ i ≤ s.size ∧ Hid (Below w.heap.size w wr) ∧ Hid (startsC (l0.drop k) (s.data.toList.drop i) i = ans)) (fun v _ => s.size - (RowKit.intOf v).toNat)
  case atStart => exact ⟨0, rfl, Nat.zero_le _, HB0, D0⟩
  case round =>
    clear D0 HB0
    obtain ⟨i, rfl, hi, HB, HD⟩ := hrel
    by_cases hlt : i < s.size
    · have hltI : (i : Int) < s.size := by omega
      obtain ⟨c, hc⟩ : ∃ c, s[i] = c := ⟨_, rfl⟩
      have hd : s.data.toList.drop i = c :: s.data.toList.drop (i + 1) := by
        rw [List.drop_eq_getElem_cons (by simpa using hlt), ← hc]
        rfl
      have hst := HD.out
      rw [hd, startsC] at hst
      have hZ := HZ.out.below HB.out
      have HSee := Lib.hid (fun p : Over wr => see_over hZ p i (by omega))
      have h256 := c.toNat_lt
      have hwr : wrap32 ((s[i].toNat : Nat) : Int) = ((c.toNat : Nat) : Int) := by rw [hc]; unfold wrap32; omega
      generalize at_ (l0.drop k) i = x at *
      clear hZ hd HD
      by_cases hx : x = ((c.toNat : Nat) : Int)
      · rw [if_pos hx] at hst
        have HS := Lib.hid hst
        have b1 : (x != wrap32 ((s[i].toNat : Nat) : Int)) = false := by rw [hwr, hx]; simp
        clear hwr hx hc h256 hst
        go_big_wp2
        refine wp_region_below (by kernel_rfl) (by kernel_rfl) ?_
        repeat (go_big_quiet_step (first | (go_at_call 23; exact calls_over (HSee.out _))))
        refine wpQuiet_nil ?_
        intro W hw'
        obtain ⟨q, rfl⟩ := hw'
        go_big_wp2
        exact ⟨⟨i + 1, by go_num, by omega, Lib.hid (HB.out.trans (q.below.mono HB.out.size)), HS⟩, by simp [RowKit.intOf]; omega⟩
      · rw [if_neg hx] at hst
        subst hst
        have b1 : (x != wrap32 ((s[i].toNat : Nat) : Int)) = true := by rw [hwr, bne_iff_ne]; exact hx
        clear hwr hx hc h256
        go_big_wp2
        refine wp_region_below (by kernel_rfl) (by kernel_rfl) ?_
        repeat (go_big_quiet_step (first | (go_at_call 23; exact calls_over (HSee.out _))))
        refine wpQuiet_nil ?_
        intro W hw'
        obtain ⟨q, rfl⟩ := hw'
        go_big_wp2
        go_ret
        exact ⟨rfl, HB.out.trans (q.below.mono HB.out.size)⟩
    · obtain rfl : i = s.size := by omega
      have hst := HD.out
      rw [show s.data.toList.drop s.size = [] from List.drop_eq_nil_of_le (Nat.le_of_eq rfl), show startsC (l0.drop k) [] s.size = true by unfold startsC; rfl] at hst
      subst hst
      go_big_wp2
      go_ret
      exact ⟨rfl, HB.out⟩
end Go.Proofs.YtmhdocgoeahbdaaGreatDoor
namespace Go.Proofs.YtmhdocgoeahbdaaGreatDoor
open Go.RowKit Go.RunKit Go.UtfKit Go.Lib Go.CssKit

/-- All is as it was but for the reader and new blocks. -/
structure MZ (w : World) (b g : Nat) (l0 : Chars) (k : Nat) (w' : World) : Prop where
  grown : w.grownBy w' (some b)
  rest : RZ w' b g l0 k
theorem MZ.refl {w : World} {b g k : Nat} {l0 : Chars} (h : RZ w b g l0 k) : MZ w b g l0 k w := ⟨qg_refl _ _, h⟩
theorem MZ.trans {w w1 w2 : World} {b g k1 k2 : Nat} {l0 : Chars} (h : MZ w b g l0 k1 w1) (k : MZ w1 b g l0 k2 w2) : MZ w b g l0 k2 w2 := ⟨qg_trans h.grown k.grown, k.rest⟩
theorem MZ.on {w w1 w2 : World} {b g k : Nat} {l0 : Chars} (h : MZ w b g l0 k w1) (hb : Below w1.heap.size w1 w2) : MZ w b g l0 k w2 := ⟨qg_trans h.grown (qg_below hb _), h.rest.below hb⟩
theorem MZ.out {w0 w w' : World} {b g k : Nat} {l0 : Chars} (h : MZ w b g l0 k w') (hb : Below w0.heap.size w0 w) (hB : w0.heap.size ≤ b) : Below w0.heap.size w0 w' :=
  hb.grown h.grown hb.size (fun i hi => by cases hi; exact hB)
theorem RZ.move {w : World} {b g k j : Nat} {l0 : Chars} (h : RZ w b g l0 k) (hj : j ≤ l0.length) {i : Int} (hi : i = ((j : Nat) : Int)) : MZ w b g l0 j (w.setCell ⟨b, 1, none⟩ (.int .i64 i)) := by
  subst hi
  obtain ⟨ao, cap, h1, h2, h3, h4⟩ := h.ex
  refine ⟨⟨rfl, rfl, rfl, by simp [World.setCell], fun k _ hk => Below.heap_setCell _ _ _ _ (fun e => hk (by rw [e]))⟩, ⟨⟨ao, cap, ?_, h2, h3, fun a ha => ⟨(h4 a ha).1, ⟨fun n z hz => ?_⟩⟩⟩, h.ne, h.len, hj, ?_, h.ok⟩⟩
  · rw [heap_setCell_same w b 1 _ _ (.int .i64 ((j : Nat) : Int)) h1]
    rfl
  · have e := (h4 a ha).2.cell n z hz
    have hh : (w.setCell ⟨b, 1, none⟩ (.int .i64 ((j : Nat) : Int))).heap[g]? = w.heap[g]? := Below.heap_setCell _ _ _ _ h.ne
    unfold World.cell? at e ⊢
    rw [hh]
    exact e
  · have := h.lt
    simpa [World.setCell] using this
/-- How many are read. -/
def posN (b : Nat) (w : World) : Nat := match w.cell? ⟨b, 1, none⟩ with
  | some (.int _ n) => n.toNat
  | _ => 0
theorem RZ.posN {w : World} {b g k : Nat} {l0 : Chars} (h : RZ w b g l0 k) : posN b w = k := by
  obtain ⟨_, _, _, c1, _⟩ := h.parts
  unfold Go.Proofs.YtmhdocgoeahbdaaGreatDoor.posN
  rw [c1]
  simp
theorem lt_of_at {l0 : Chars} {k n : Nat} (h : at_ (l0.drop k) n ≠ -1) : k + n < l0.length := by
  have := at_pos h
  rw [List.length_drop] at this
  omega

set_option maxRecDepth 100000 in
set_option maxHeartbeats 2000000 in
theorem digitsZ_any (b g k : Nat) (l0 : Chars) (w : World) (h : RZ w b g l0 k) :
    Calls Tryz.prog 83 #[.pointer (some ⟨b, 0, none⟩)] w fun e w' => e = .returned (.tuple #[]) ∧ MZ w b g l0 (k + ((l0.drop k).takeWhile isDg).length) w' := by
  obtain ⟨ans, hans⟩ : ∃ x, k + ((l0.drop k).takeWhile isDg).length = x := ⟨_, rfl⟩
  rw [hans]
  have M0 := Lib.hid (MZ.refl h)
  have D0 := Lib.hid hans
  clear h hans
  go_enter Tryz.func83, Tryz.ntmps83
  go_wp2
  go_loopw [] (fun wr => ∃ j : Nat, Hid (j + ((l0.drop j).takeWhile isDg).length = ans) ∧ Hid (MZ w b g l0 j wr)) (fun wr => l0.length - posN b wr)
  case atStart => exact ⟨k, D0, M0⟩
  case round =>
    clear D0 M0
    obtain ⟨j, HD, HM⟩ := hrel
    have HS := Lib.hid (see_all HM.out.rest 0 (by omega) wr (Below.refl _ _))
    have hst := HD.out
    have HDg := Lib.hid (refDigit_any (at_ (l0.drop j) 0))
    obtain ⟨x, hx⟩ : ∃ x, at_ (l0.drop j) 0 = x := ⟨_, rfl⟩
    rw [hx] at HS HDg
    by_cases hd : isDg x = true
    · have hlt := lt_of_at (l0 := l0) (k := j) (n := 0) (by rw [hx]; intro e; rw [e] at hd; exact absurd hd (by decide))
      have hlt : j < l0.length := hlt
      have hdr : l0.drop j = x :: l0.drop (j + 1) := by
        rw [List.drop_eq_getElem_cons hlt]
        rw [List.drop_eq_getElem_cons hlt, at_cons] at hx
        rw [hx]
      rw [hdr, List.takeWhile_cons_of_pos hd, List.length_cons] at hst
      have HE := Lib.hid (show (j + 1) + ((l0.drop (j + 1)).takeWhile isDg).length = ans by omega)
      have HLt := Lib.hid hlt
      have hlen := HM.out.rest.len
      have hj64 : (j : Int) < 1099511627776 := by omega
      rw [hd] at HDg
      clear hst hx hdr hd HD
      go_big_wp2_with (first
        | (go_at_call 23; refine HS.out.mono ?_; clear HS; rintro e w1 ⟨rfl, hb⟩; have HM1 := Lib.hid (HM.out.on hb); obtain ⟨_, _, _, c1, f1, _⟩ := HM1.out.rest.parts; clear hb)
        | (go_at_call 82; refine (HDg.out _).mono ?_; rintro e w1 ⟨rfl, rfl⟩))
      have HM2 := HM1.out.trans (HM1.out.rest.move (j := j + 1) (i := (j : Int) + 1) hlt (by omega))
      exact ⟨⟨j + 1, HE, Lib.hid HM2⟩, by rw [HM2.rest.posN, HM.out.rest.posN]; omega⟩
    · have hnil : (l0.drop j).takeWhile isDg = [] := by
        cases hl : l0.drop j with
        | nil => rfl
        | cons c r =>
          rw [hl, at_cons] at hx
          subst hx
          exact List.takeWhile_cons_of_neg hd
      rw [hnil] at hst
      have hst : j = ans := hst
      subst hst
      have hd2 : isDg x = false := by simpa using hd
      rw [hd2] at HDg
      clear hx hd hd2 hnil
      go_big_wp2_with (first
        | (go_at_call 23; refine HS.out.mono ?_; clear HS; rintro e w1 ⟨rfl, hb⟩; have HM1 := Lib.hid (HM.out.on hb); clear hb)
        | (go_at_call 82; refine (HDg.out _).mono ?_; rintro e w1 ⟨rfl, rfl⟩))
      go_end0
      exact ⟨rfl, HM1.out⟩
theorem starts2 (l : Chars) (c d : UInt8) : startsC l [c, d] 0 = decide (at_ l 0 = ((c.toNat : Nat) : Int) ∧ at_ l 1 = ((d.toNat : Nat) : Int)) := by
  unfold startsC startsC startsC
  by_cases h1 : at_ l 0 = ((c.toNat : Nat) : Int)
  · rw [if_pos h1]
    by_cases h2 : at_ l (0 + 1) = ((d.toNat : Nat) : Int)
    · rw [if_pos h2]; exact (decide_eq_true ⟨h1, h2⟩).symm
    · rw [if_neg h2]; exact (decide_eq_false (fun e => h2 e.2)).symm
  · rw [if_neg h1]; exact (decide_eq_false (fun e => h1 e.1)).symm
theorem openZ {b g k : Nat} {l0 : Chars} {w : World} (h : RZ w b g l0 k) :
    Calls Tryz.prog 45 #[.pointer (some ⟨b, 0, none⟩), .string ⟨#[47, 42]⟩] w fun e w' => e = .returned (.bool (decide (at_ (l0.drop k) 0 = 47 ∧ at_ (l0.drop k) 1 = 42))) ∧ Below w.heap.size w w' := by
  have := standsZ_any b g k ⟨#[47, 42]⟩ l0 w h (by decide)
  rw [show (⟨#[47, 42]⟩ : ByteArray).data.toList = [47, 42] from rfl, starts2] at this
  exact this
theorem shutZ {b g k : Nat} {l0 : Chars} {w : World} (h : RZ w b g l0 k) :
    Calls Tryz.prog 45 #[.pointer (some ⟨b, 0, none⟩), .string ⟨#[42, 47]⟩] w fun e w' => e = .returned (.bool (decide (at_ (l0.drop k) 0 = 42 ∧ at_ (l0.drop k) 1 = 47))) ∧ Below w.heap.size w w' := by
  have := standsZ_any b g k ⟨#[42, 47]⟩ l0 w h (by decide)
  rw [show (⟨#[42, 47]⟩ : ByteArray).data.toList = [42, 47] from rfl, starts2] at this
  exact this

set_option maxRecDepth 100000 in
set_option maxHeartbeats 4000000 in
theorem commentsZ_any (b g k : Nat) (l0 : Chars) (w : World) (h : RZ w b g l0 k) :
    Calls Tryz.prog 22 #[.pointer (some ⟨b, 0, none⟩)] w fun e w' => e = .returned (.tuple #[]) ∧ ∃ j, l0.drop j = comL (l0.drop k) ∧ MZ w b g l0 j w' := by
  obtain ⟨ans, hans⟩ : ∃ x, comL (l0.drop k) = x := ⟨_, rfl⟩
  rw [hans]
  have M0 := Lib.hid (MZ.refl h)
  have D0 := Lib.hid hans
  clear h hans
  go_enter Tryz.func22, Tryz.ntmps22
  go_wp2
  go_loopw [] (fun wr => ∃ j : Nat, Hid (comL (l0.drop j) = ans) ∧ Hid (MZ w b g l0 j wr)) (fun wr => l0.length - posN b wr)
  case atStart => exact ⟨k, D0, M0⟩
  case round =>
    clear D0 M0
    obtain ⟨j, HD, HM⟩ := hrel
    have hst := HD.out
    rw [comL_step] at hst
    have HO := Lib.hid (openZ HM.out.rest)
    have hlen := HM.out.rest.len
    have HPo := Lib.hid HM.out.rest.posN
    by_cases hc : at_ (l0.drop j) 0 = 47 ∧ at_ (l0.drop j) 1 = 42
    · rw [if_pos hc, List.drop_drop] at hst
      have hl2 := lt_of_at (l0 := l0) (k := j) (n := 1) (by rw [hc.2]; decide)
      have hj64 : (j : Int) < 1099511627776 := by omega
      rw [decide_eq_true hc] at HO
      obtain ⟨l2, hl2e⟩ : ∃ x, inC (l0.drop (j + 2)) = x := ⟨_, rfl⟩
      rw [hl2e] at hst
      have HS := Lib.hid hst
      have HI := Lib.hid hl2e
      clear hst hc hl2e HD
      go_big_wp2_with (go_at_call 45; refine HO.out.mono ?_; clear HO; rintro e w1 ⟨rfl, hb⟩; have HM1 := Lib.hid (HM.out.on hb); obtain ⟨_, _, _, c1, f1, _⟩ := HM1.out.rest.parts; clear hb)
      have HM2 := Lib.hid (HM1.out.trans (HM1.out.rest.move (j := j + 2) (i := (j : Int) + 2) (by omega) (by omega)))
      clear HM1
      go_loopw [] (fun wr => ∃ i : Nat, j < i ∧ Hid (inC (l0.drop i) = l2) ∧ Hid (MZ w b g l0 i wr)) (fun wr => l0.length - posN b wr)
      case atStart => exact ⟨j + 2, by omega, HI, HM2⟩
      case round =>
        clear HM2 HI
        obtain ⟨i, hji, HI, HM3⟩ := hrel
        have hle3 := HM3.out.rest.le
        have hi64 : (i : Int) < 1099511627777 := by omega
        have H0 := Lib.hid (see_all HM3.out.rest 0 (by omega) _ (Below.refl _ _))
        have HPi := Lib.hid HM3.out.rest.posN
        by_cases hl : l0.drop i = []
        · have e2 : l2 = [] := by rw [← HI.out, hl]; rfl
          rw [hl, at_nil] at H0
          have hil : i = l0.length := by have := List.drop_eq_nil_iff.1 hl; omega
          have HSee2 := Lib.hid (fun w1 (hb : Below _ _ w1) => see_all HM3.out.rest 0 (by omega) w1 hb)
          rw [hl, at_nil] at HSee2
          have HSn : Hid (comL (l0.drop i) = ans) := Lib.hid (by rw [hl, ← e2]; exact HS.out)
          clear hl e2
          go_big_wp2_with (first
            | (go_at_call 23; refine H0.out.mono ?_; clear H0; rintro e w1 ⟨rfl, hb⟩; have HM4 := Lib.hid (HM3.out.on hb); have H1 := Lib.hid (HSee2.out w1 hb); clear hb)
            | (go_at_call 23; refine H1.out.mono ?_; clear H1; rintro e w2 ⟨rfl, hb⟩; have HM5 := Lib.hid (HM3.out.on hb); clear hb))
          exact ⟨⟨i, HSn, HM5⟩, by rw [HM5.out.rest.posN, HPo.out]; omega⟩
        · have hil : i < l0.length := by have := mt List.drop_eq_nil_iff.2 hl; omega
          have hz : ¬ at_ (l0.drop i) 0 = -1 := by
            have := HM3.out.rest.char (n := 0) hil
            unfold okC at this
            omega
          have HSee2 := Lib.hid (fun w1 (hb : Below _ _ w1) => see_all HM3.out.rest 0 (by omega) w1 hb)
          have HSh := Lib.hid (fun w1 (hb : Below wr.heap.size wr w1) => shutZ (HM3.out.rest.below hb))
          by_cases hc : at_ (l0.drop i) 0 = 42 ∧ at_ (l0.drop i) 1 = 47
          · have he := inC_hit hc
            rw [HI.out, List.drop_drop] at he
            rw [decide_eq_true hc] at HSh
            rw [hc.1] at H0 HSee2
            have hl3 := lt_of_at (l0 := l0) (k := i) (n := 1) (by rw [hc.2]; decide)
            have HSn : Hid (comL (l0.drop (i + 2)) = ans) := Lib.hid (by rw [← he]; exact HS.out)
            clear hc he hl hz
            go_big_wp2_with (first
              | (go_at_call 23; refine H0.out.mono ?_; clear H0; rintro e w1 ⟨rfl, hb⟩; have HB1 := Lib.hid hb; have H1 := Lib.hid (HSh.out w1 hb); clear hb)
              | (go_at_call 45; refine H1.out.mono ?_; clear H1; rintro e w2 ⟨rfl, hb⟩; have HB2 := Lib.hid (HB1.out.trans (hb.mono HB1.out.size)); have H2 := Lib.hid (HSee2.out w2 HB2.out); clear hb)
              | (go_at_call 23; refine H2.out.mono ?_; clear H2; rintro e w3 ⟨rfl, hb⟩; have HM5 := Lib.hid (HM3.out.on hb); obtain ⟨_, _, _, c1, f1, _⟩ := HM5.out.rest.parts; clear hb))
            have HM6 := HM5.out.trans (HM5.out.rest.move (j := i + 2) (i := (i : Int) + 2) (by omega) (by omega))
            exact ⟨⟨i + 2, HSn, Lib.hid HM6⟩, by rw [HM6.rest.posN, HPo.out]; omega⟩
          · have he := inC_miss hc
            rw [HI.out, List.drop_drop] at he
            rw [decide_eq_false hc] at HSh
            have HE := Lib.hid he.symm
            generalize at_ (l0.drop i) 0 = x at *
            have bx : (x != -1) = true := by rw [bne_iff_ne]; exact hz
            clear hc he hl HSee2
            go_big_wp2_with (first
              | (go_at_call 23; refine H0.out.mono ?_; clear H0; rintro e w1 ⟨rfl, hb⟩; have HB1 := Lib.hid hb; have H1 := Lib.hid (HSh.out w1 hb); clear hb)
              | (go_at_call 45; refine H1.out.mono ?_; clear H1; rintro e w2 ⟨rfl, hb⟩; have HM5 := Lib.hid (HM3.out.on (HB1.out.trans (hb.mono HB1.out.size))); obtain ⟨_, _, _, c1, f1, _⟩ := HM5.out.rest.parts; clear hb))
            have HM6 := HM5.out.trans (HM5.out.rest.move (j := i + 1) (i := (i : Int) + 1) (by omega) (by omega))
            exact ⟨⟨i + 1, by omega, HE, Lib.hid HM6⟩, by rw [HM6.rest.posN, HPi.out]; omega⟩
    · rw [if_neg hc] at hst
      rw [decide_eq_false hc] at HO
      have HDj := Lib.hid hst
      clear hc hst HD
      go_big_wp2_with (go_at_call 45; refine HO.out.mono ?_; clear HO; rintro e w1 ⟨rfl, hb⟩; have HM1 := Lib.hid (HM.out.on hb); clear hb)
      go_end0
      exact ⟨rfl, j, HDj.out, HM1.out⟩
end Go.Proofs.YtmhdocgoeahbdaaGreatDoor
namespace Go.Proofs.YtmhdocgoeahbdaaGreatDoor
open Go.RowKit Go.RunKit Go.UtfKit Go.Lib Go.CssKit

set_option maxRecDepth 100000 in
set_option maxHeartbeats 8000000 in
theorem takeEscZ_any (b g k : Nat) (l0 : Chars) (w : World) (h : RZ w b g l0 k) (hk : k < l0.length) :
    Calls Tryz.prog 80 #[.pointer (some ⟨b, 0, none⟩)] w fun e w' => e = .returned (.int .i32 (escL (l0.drop (k + 1))).1) ∧ ∃ j, k < j ∧ l0.drop j = (escL (l0.drop (k + 1))).2 ∧ MZ w b g l0 j w' := by
  obtain ⟨p, hp⟩ : ∃ p, k + 1 = p := ⟨_, rfl⟩
  have hM1 : MZ w b g l0 p (w.setCell ⟨b, 1, none⟩ (.int .i64 ((k : Int) + 1))) := h.move (by omega) (by omega)
  obtain ⟨_, _, _, c1, f1, _⟩ := h.parts
  have hlen := h.len
  have hk64 : (k : Int) < 1099511627776 := by omega
  have HM1 := Lib.hid hM1
  rw [hp]
  obtain ⟨ds, hds⟩ : ∃ x, hexRun 6 (l0.drop p) = x := ⟨_, rfl⟩
  have hdl := hexRun_le 6 (l0.drop p)
  rw [hds] at hdl
  have HDs := Lib.hid hds
  obtain ⟨ec, er, hee⟩ : ∃ c r, escL (l0.drop p) = (c, r) := ⟨_, _, rfl⟩
  rw [hee]
  have HE := Lib.hid hee
  have HKp := Lib.hid hp
  clear h hM1 hds hee hp
  go_enter Tryz.func80, Tryz.ntmps80
  go_big_wp2
  clear c1 f1
  generalize w.setCell ⟨b, 1, none⟩ (.int .i64 ((k : Int) + 1)) = w1 at *
  go_loopw [3, 4] (fun c n wr => ∃ i : Nat, c = .int .i32 (hexVal (ds.take i)) ∧ n = .int .i64 ((i : Nat) : Int) ∧ i ≤ ds.length ∧ Hid (MZ w b g l0 (p + i) wr)) (fun _ n _ => 7 - (RowKit.intOf n).toNat)
  case atStart => exact ⟨0, rfl, rfl, Nat.zero_le _, HM1⟩
  case round =>
    clear HM1
    obtain ⟨i, rfl, rfl, hi, HM⟩ := hrel
    have H0 := Lib.hid (see_all HM.out.rest 0 (by omega))
    rw [at_drop, Nat.add_zero] at H0
    have H1 := Lib.hid (base16_any (at_ l0 (p + i)))
    have hle := HM.out.rest.le
    have hB0 := Lib.hid (Below.refl wr.heap.size wr)
    by_cases hd : i < ds.length
    · have h6 : i < 6 := by omega
      have h6I : (i : Int) < 6 := by omega
      have ha := hexRun_at 6 (l0.drop p) i (by rw [HDs.out]; exact hd)
      have hv := hexVal_take (l := l0.drop p) (f := 6) (k := i) (by rw [HDs.out]; exact hd)
      have hr := hexVal_range 6 (l0.drop p) i (by rw [HDs.out]; omega)
      rw [HDs.out] at hv hr
      rw [at_drop] at ha hv
      have hpos := ha.1
      have hx := hexC_le (at_ l0 (p + i))
      have hlt := lt_of_at (l0 := l0) (k := p + i) (n := 0) (by rw [at_drop, Nat.add_zero]; intro e; rw [e] at hpos; exact absurd hpos (by decide))
      generalize at_ l0 (p + i) = x at *
      generalize hexC x = y at *
      have hr2 : hexVal (ds.take i) < 1048576 := by
        have h5 : 16 ^ i ≤ 16 ^ 5 := Nat.pow_le_pow_right (by decide) (by omega)
        have h6 := hr.2
        generalize 16 ^ i = P at *
        omega
      have HV := Lib.hid hv
      have hr0 := hr.1
      generalize hexVal (ds.take i) = v at *
      have hpi64 : ((p + i : Nat) : Int) < 1099511627776 := by omega
      have HB := hB0
      clear ha hv hr hB0
      go_big_wp2_with (first
        | (go_at_call 23; refine (H0.out _ HB.out).mono ?_; clear HB; rintro e w2 ⟨rfl, hb⟩; have HB := Lib.hid hb; obtain ⟨_, _, _, c1, f1, _⟩ := (HM.out.rest.below hb).parts; clear hb)
        | (go_at_call 100; refine (H1.out _).mono ?_; rintro e w2 ⟨rfl, rfl⟩))
      have HM2 := HM.out.on HB.out
      have HM3 := HM2.trans (HM2.rest.move (j := p + (i + 1)) (i := (p : Int) + i + 1) (by omega) (by omega))
      exact ⟨⟨i + 1, by rw [HV.out], by go_num, by omega, Lib.hid HM3⟩, by simp [RowKit.intOf]; omega⟩
    · have hid : i = ds.length := by omega
      have hexit : (i < 6 ∧ hexC (at_ l0 (p + i)) < 0) ∨ i = 6 := by
        by_cases h6 : i < 6
        · have hs := hexRun_stop 6 (l0.drop p) (by rw [HDs.out]; omega)
          rw [HDs.out, ← hid, at_drop] at hs
          exact .inl ⟨h6, hs⟩
        · exact .inr (by omega)
      have hW := Lib.hid (refWhite_any (at_ l0 (p + i)))
      by_cases h0 : i = 0
      · have hds0 : ds = [] := List.length_eq_zero_iff.1 (by omega)
        have hq := HE.out
        unfold escL at hq
        rw [HDs.out, if_pos hds0] at hq
        have hhx : hexC (at_ l0 (p + i)) < 0 := by rcases hexit with h | h; exact h.2; omega
        subst h0
        rw [Nat.add_zero] at HM H0 H1 hhx
        generalize hexVal (ds.take 0) = v at *
        rw [show ((0 : Nat) : Int) = 0 from rfl]
        clear hexit hd hdl hi hid hW hds0 hle
        by_cases hend : l0.drop p = []
        · rw [hend] at hq
          simp only [Prod.mk.injEq] at hq
          obtain ⟨rfl, rfl⟩ := hq
          have hat : at_ l0 p = -1 := at_over (List.drop_eq_nil_iff.1 hend)
          rw [hat] at H0 H1 hhx
          have HEnd := Lib.hid hend
          have HB := hB0
          generalize hexC (-1) = y at *
          have b0 : decide ((0 : Int) ≤ y) = false := decide_eq_false (by omega)
          have HNeg := Lib.hid hhx
          clear hat hend hB0 hhx
          go_big_wp2_with (first
            | (go_at_call 23; refine (H0.out _ HB.out).mono ?_; clear HB; rintro e w2 ⟨rfl, hb⟩; have HB := Lib.hid hb; clear hb)
            | (go_at_call 100; refine (H1.out _).mono ?_; rintro e w2 ⟨rfl, rfl⟩))
          go_ret
          exact ⟨rfl, p, by have := HKp.out; omega, HEnd.out, HM.out.on HB.out⟩
        · have hpl : p < l0.length := by have := mt List.drop_eq_nil_iff.2 hend; omega
          have hdr : l0.drop p = at_ l0 p :: l0.drop (p + 1) := by rw [List.drop_eq_getElem_cons hpl, at_some hpl]
          rw [hdr] at hq
          simp only [Prod.mk.injEq] at hq
          obtain ⟨hec, rfl⟩ := hq
          have hch := HM.out.rest.ok _ (show at_ l0 p ∈ l0 by rw [at_some hpl]; exact List.getElem_mem hpl)
          rw [hec] at H0 H1 hhx hch
          have hne : (ec == -1) = false := by rw [beq_eq_false_iff_ne]; unfold okC at hch; omega
          have hp64 : (p : Int) < 1099511627776 := by omega
          have HB := hB0
          generalize hexC ec = y at *
          clear hec
          have b0 : decide ((0 : Int) ≤ y) = false := decide_eq_false (by omega)
          have HNeg := Lib.hid hhx
          clear hdr hend hch hB0 hhx
          go_big_wp2_with (first
            | (go_at_call 23; refine (H0.out _ HB.out).mono ?_; clear HB; rintro e w2 ⟨rfl, hb⟩; have HB := Lib.hid hb; obtain ⟨_, _, _, c1, f1, _⟩ := (HM.out.rest.below hb).parts; clear hb)
            | (go_at_call 100; refine (H1.out _).mono ?_; rintro e w2 ⟨rfl, rfl⟩))
          have HM2 := HM.out.on HB.out
          have HM3 := HM2.trans (HM2.rest.move (j := p + 1) (i := (p : Int) + 1) (by omega) (by omega))
          go_ret
          exact ⟨rfl, p + 1, by have := HKp.out; omega, rfl, HM3⟩
      · have hne : ds ≠ [] := fun e => h0 (by rw [hid, e]; rfl)
        have hq := HE.out
        unfold escL at hq
        rw [HDs.out, if_neg hne, ← hid, at_drop, List.drop_drop, List.drop_drop] at hq
        simp only [Prod.mk.injEq] at hq
        obtain ⟨hec, her⟩ := hq
        have htk : ds.take i = ds := by rw [hid]; exact List.take_length
        have hr := hexVal_range 6 (l0.drop p) i (by rw [HDs.out]; omega)
        rw [HDs.out, htk] at hr
        rw [htk]
        have hr2 : hexVal ds < 16777216 := by
          have h5 : 16 ^ i ≤ 16 ^ 6 := Nat.pow_le_pow_right (by decide) (by omega)
          have h6 := hr.2
          generalize 16 ^ i = P at *
          omega
        have hr0 := hr.1
        generalize hexVal ds = v at *
        have hi0 : ((i : Int) == 0) = false := by rw [beq_eq_false_iff_ne]; omega
        have hi0' : ((i : Int) = 0) = False := eq_false (by omega)
        have hi0'' : (i = 0) = False := eq_false h0
        have hw1 : isW (at_ l0 (p + i)) = true → p + i < l0.length := fun hw => by
          have := lt_of_at (l0 := l0) (k := p + i) (n := 0) (by rw [at_drop, Nat.add_zero]; intro e; rw [e] at hw; exact absurd hw (by decide))
          omega
        generalize at_ l0 (p + i) = x at *
        generalize hexC x = y at *
        generalize isW x = ww at *
        have hpi64 : ((p + i : Nat) : Int) ≤ 1099511627776 := by omega
        have HKp2 := HKp.out
        have HW := hW
        have HB := hB0
        have HEr := Lib.hid her
        have HEc := Lib.hid hec
        have HW1 := Lib.hid hw1
        have HV2 : Hid ((v = 0 ∧ cleanC v = 65533) ∨ (0 < v ∧ 1114111 < v ∧ cleanC v = 65533) ∨ (55296 ≤ v ∧ v ≤ 57343 ∧ cleanC v = 65533) ∨ (0 < v ∧ v < 55296 ∧ cleanC v = v) ∨ (57343 < v ∧ v ≤ 1114111 ∧ cleanC v = v)) := Lib.hid (by unfold cleanC; split <;> omega)
        have HExit : Hid ((i < 6 ∧ y < 0) ∨ i = 6) := Lib.hid hexit
        clear hW hB0 her hec hw1 hexit hr hr2 hd hid hne htk hle hdl
        rcases HV2.out with ⟨hv0, hcl⟩ | ⟨hv0, hv1, hcl⟩ | ⟨hv0, hv1, hcl⟩ | ⟨hv0, hv1, hcl⟩ | ⟨hv0, hv1, hcl⟩
        · have HCl := Lib.hid (HEc.out.symm.trans hcl)
          clear HV2 hcl HEc
          subst hv0
          cases ww
          · rcases HExit.out with ⟨h6, hy⟩ | h6
            · have h6I : (i : Int) < 6 := by omega
              have b0 : decide ((0 : Int) ≤ y) = false := decide_eq_false (by omega)
              clear hy HExit h6
              go_big_wp2_with (first
                | (go_at_call 23; refine (H0.out _ HB.out).mono ?_; clear HB; rintro e w2 ⟨rfl, hb⟩; have HB := Lib.hid hb; obtain ⟨_, _, _, c1, f1, _⟩ := (HM.out.rest.below hb).parts; clear hb)
                | (go_at_call 100; refine (H1.out _).mono ?_; rintro e w2 ⟨rfl, rfl⟩)
                | (go_at_call 46; refine (HW.out _).mono ?_; rintro e w2 ⟨rfl, rfl⟩))
              have HM2 := HM.out.on HB.out
              go_ret
              exact ⟨by rw [HCl.out]; rfl, p + i, by omega, HEr.out, HM2⟩
            · subst h6
              clear HExit
              go_big_wp2_with (first
                | (go_at_call 23; refine (H0.out _ HB.out).mono ?_; clear HB; rintro e w2 ⟨rfl, hb⟩; have HB := Lib.hid hb; obtain ⟨_, _, _, c1, f1, _⟩ := (HM.out.rest.below hb).parts; clear hb)
                | (go_at_call 100; refine (H1.out _).mono ?_; rintro e w2 ⟨rfl, rfl⟩)
                | (go_at_call 46; refine (HW.out _).mono ?_; rintro e w2 ⟨rfl, rfl⟩))
              have HM2 := HM.out.on HB.out
              go_ret
              exact ⟨by rw [HCl.out]; rfl, p + 6, by omega, HEr.out, HM2⟩
          · rcases HExit.out with ⟨h6, hy⟩ | h6
            · have h6I : (i : Int) < 6 := by omega
              have b0 : decide ((0 : Int) ≤ y) = false := decide_eq_false (by omega)
              clear hy HExit h6
              go_big_wp2_with (first
                | (go_at_call 23; refine (H0.out _ HB.out).mono ?_; clear HB; rintro e w2 ⟨rfl, hb⟩; have HB := Lib.hid hb; obtain ⟨_, _, _, c1, f1, _⟩ := (HM.out.rest.below hb).parts; clear hb)
                | (go_at_call 100; refine (H1.out _).mono ?_; rintro e w2 ⟨rfl, rfl⟩)
                | (go_at_call 46; refine (HW.out _).mono ?_; rintro e w2 ⟨rfl, rfl⟩))
              have HM2 := HM.out.on HB.out
              have hlt := HW1.out (by trivial)
              have HM3 := HM2.trans (HM2.rest.move (j := p + i + 1) (i := (p : Int) + i + 1) (by omega) (by omega))
              go_ret
              exact ⟨by rw [HCl.out]; rfl, p + i + 1, by omega, HEr.out, HM3⟩
            · subst h6
              clear HExit
              go_big_wp2_with (first
                | (go_at_call 23; refine (H0.out _ HB.out).mono ?_; clear HB; rintro e w2 ⟨rfl, hb⟩; have HB := Lib.hid hb; obtain ⟨_, _, _, c1, f1, _⟩ := (HM.out.rest.below hb).parts; clear hb)
                | (go_at_call 100; refine (H1.out _).mono ?_; rintro e w2 ⟨rfl, rfl⟩)
                | (go_at_call 46; refine (HW.out _).mono ?_; rintro e w2 ⟨rfl, rfl⟩))
              have HM2 := HM.out.on HB.out
              have hlt := HW1.out (by trivial)
              have HM3 := HM2.trans (HM2.rest.move (j := p + 6 + 1) (i := (p : Int) + 6 + 1) (by omega) (by omega))
              go_ret
              exact ⟨by rw [HCl.out]; rfl, p + 6 + 1, by omega, HEr.out, HM3⟩
        · have HCl := Lib.hid (HEc.out.symm.trans hcl)
          clear HV2 hcl HEc
          have z0 : (v == 0) = false := by rw [beq_eq_false_iff_ne]; omega
          have z1 : decide ((1114111 : Int) < v) = true := decide_eq_true hv1
          clear hv0 hv1 hr0
          cases ww
          · rcases HExit.out with ⟨h6, hy⟩ | h6
            · have h6I : (i : Int) < 6 := by omega
              have b0 : decide ((0 : Int) ≤ y) = false := decide_eq_false (by omega)
              clear hy HExit h6
              go_big_wp2_with (first
                | (go_at_call 23; refine (H0.out _ HB.out).mono ?_; clear HB; rintro e w2 ⟨rfl, hb⟩; have HB := Lib.hid hb; obtain ⟨_, _, _, c1, f1, _⟩ := (HM.out.rest.below hb).parts; clear hb)
                | (go_at_call 100; refine (H1.out _).mono ?_; rintro e w2 ⟨rfl, rfl⟩)
                | (go_at_call 46; refine (HW.out _).mono ?_; rintro e w2 ⟨rfl, rfl⟩))
              have HM2 := HM.out.on HB.out
              go_ret
              exact ⟨by rw [HCl.out]; rfl, p + i, by omega, HEr.out, HM2⟩
            · subst h6
              clear HExit
              go_big_wp2_with (first
                | (go_at_call 23; refine (H0.out _ HB.out).mono ?_; clear HB; rintro e w2 ⟨rfl, hb⟩; have HB := Lib.hid hb; obtain ⟨_, _, _, c1, f1, _⟩ := (HM.out.rest.below hb).parts; clear hb)
                | (go_at_call 100; refine (H1.out _).mono ?_; rintro e w2 ⟨rfl, rfl⟩)
                | (go_at_call 46; refine (HW.out _).mono ?_; rintro e w2 ⟨rfl, rfl⟩))
              have HM2 := HM.out.on HB.out
              go_ret
              exact ⟨by rw [HCl.out]; rfl, p + 6, by omega, HEr.out, HM2⟩
          · rcases HExit.out with ⟨h6, hy⟩ | h6
            · have h6I : (i : Int) < 6 := by omega
              have b0 : decide ((0 : Int) ≤ y) = false := decide_eq_false (by omega)
              clear hy HExit h6
              go_big_wp2_with (first
                | (go_at_call 23; refine (H0.out _ HB.out).mono ?_; clear HB; rintro e w2 ⟨rfl, hb⟩; have HB := Lib.hid hb; obtain ⟨_, _, _, c1, f1, _⟩ := (HM.out.rest.below hb).parts; clear hb)
                | (go_at_call 100; refine (H1.out _).mono ?_; rintro e w2 ⟨rfl, rfl⟩)
                | (go_at_call 46; refine (HW.out _).mono ?_; rintro e w2 ⟨rfl, rfl⟩))
              have HM2 := HM.out.on HB.out
              have hlt := HW1.out (by trivial)
              have HM3 := HM2.trans (HM2.rest.move (j := p + i + 1) (i := (p : Int) + i + 1) (by omega) (by omega))
              go_ret
              exact ⟨by rw [HCl.out]; rfl, p + i + 1, by omega, HEr.out, HM3⟩
            · subst h6
              clear HExit
              go_big_wp2_with (first
                | (go_at_call 23; refine (H0.out _ HB.out).mono ?_; clear HB; rintro e w2 ⟨rfl, hb⟩; have HB := Lib.hid hb; obtain ⟨_, _, _, c1, f1, _⟩ := (HM.out.rest.below hb).parts; clear hb)
                | (go_at_call 100; refine (H1.out _).mono ?_; rintro e w2 ⟨rfl, rfl⟩)
                | (go_at_call 46; refine (HW.out _).mono ?_; rintro e w2 ⟨rfl, rfl⟩))
              have HM2 := HM.out.on HB.out
              have hlt := HW1.out (by trivial)
              have HM3 := HM2.trans (HM2.rest.move (j := p + 6 + 1) (i := (p : Int) + 6 + 1) (by omega) (by omega))
              go_ret
              exact ⟨by rw [HCl.out]; rfl, p + 6 + 1, by omega, HEr.out, HM3⟩
        · have HCl := Lib.hid (HEc.out.symm.trans hcl)
          clear HV2 hcl HEc
          have z0 : (v == 0) = false := by rw [beq_eq_false_iff_ne]; omega
          have z1 : decide ((1114111 : Int) < v) = false := decide_eq_false (by omega)
          have z2 : decide ((55296 : Int) ≤ v) = true := decide_eq_true hv0
          have z3 : decide (v ≤ (57343 : Int)) = true := decide_eq_true hv1
          clear hv0 hv1 hr0
          cases ww
          · rcases HExit.out with ⟨h6, hy⟩ | h6
            · have h6I : (i : Int) < 6 := by omega
              have b0 : decide ((0 : Int) ≤ y) = false := decide_eq_false (by omega)
              clear hy HExit h6
              go_big_wp2_with (first
                | (go_at_call 23; refine (H0.out _ HB.out).mono ?_; clear HB; rintro e w2 ⟨rfl, hb⟩; have HB := Lib.hid hb; obtain ⟨_, _, _, c1, f1, _⟩ := (HM.out.rest.below hb).parts; clear hb)
                | (go_at_call 100; refine (H1.out _).mono ?_; rintro e w2 ⟨rfl, rfl⟩)
                | (go_at_call 46; refine (HW.out _).mono ?_; rintro e w2 ⟨rfl, rfl⟩))
              have HM2 := HM.out.on HB.out
              go_ret
              exact ⟨by rw [HCl.out]; rfl, p + i, by omega, HEr.out, HM2⟩
            · subst h6
              clear HExit
              go_big_wp2_with (first
                | (go_at_call 23; refine (H0.out _ HB.out).mono ?_; clear HB; rintro e w2 ⟨rfl, hb⟩; have HB := Lib.hid hb; obtain ⟨_, _, _, c1, f1, _⟩ := (HM.out.rest.below hb).parts; clear hb)
                | (go_at_call 100; refine (H1.out _).mono ?_; rintro e w2 ⟨rfl, rfl⟩)
                | (go_at_call 46; refine (HW.out _).mono ?_; rintro e w2 ⟨rfl, rfl⟩))
              have HM2 := HM.out.on HB.out
              go_ret
              exact ⟨by rw [HCl.out]; rfl, p + 6, by omega, HEr.out, HM2⟩
          · rcases HExit.out with ⟨h6, hy⟩ | h6
            · have h6I : (i : Int) < 6 := by omega
              have b0 : decide ((0 : Int) ≤ y) = false := decide_eq_false (by omega)
              clear hy HExit h6
              go_big_wp2_with (first
                | (go_at_call 23; refine (H0.out _ HB.out).mono ?_; clear HB; rintro e w2 ⟨rfl, hb⟩; have HB := Lib.hid hb; obtain ⟨_, _, _, c1, f1, _⟩ := (HM.out.rest.below hb).parts; clear hb)
                | (go_at_call 100; refine (H1.out _).mono ?_; rintro e w2 ⟨rfl, rfl⟩)
                | (go_at_call 46; refine (HW.out _).mono ?_; rintro e w2 ⟨rfl, rfl⟩))
              have HM2 := HM.out.on HB.out
              have hlt := HW1.out (by trivial)
              have HM3 := HM2.trans (HM2.rest.move (j := p + i + 1) (i := (p : Int) + i + 1) (by omega) (by omega))
              go_ret
              exact ⟨by rw [HCl.out]; rfl, p + i + 1, by omega, HEr.out, HM3⟩
            · subst h6
              clear HExit
              go_big_wp2_with (first
                | (go_at_call 23; refine (H0.out _ HB.out).mono ?_; clear HB; rintro e w2 ⟨rfl, hb⟩; have HB := Lib.hid hb; obtain ⟨_, _, _, c1, f1, _⟩ := (HM.out.rest.below hb).parts; clear hb)
                | (go_at_call 100; refine (H1.out _).mono ?_; rintro e w2 ⟨rfl, rfl⟩)
                | (go_at_call 46; refine (HW.out _).mono ?_; rintro e w2 ⟨rfl, rfl⟩))
              have HM2 := HM.out.on HB.out
              have hlt := HW1.out (by trivial)
              have HM3 := HM2.trans (HM2.rest.move (j := p + 6 + 1) (i := (p : Int) + 6 + 1) (by omega) (by omega))
              go_ret
              exact ⟨by rw [HCl.out]; rfl, p + 6 + 1, by omega, HEr.out, HM3⟩
        · have HCl := Lib.hid (HEc.out.symm.trans hcl)
          clear HV2 hcl HEc
          have z0 : (v == 0) = false := by rw [beq_eq_false_iff_ne]; omega
          have z1 : decide ((1114111 : Int) < v) = false := decide_eq_false (by omega)
          have z2 : decide ((55296 : Int) ≤ v) = false := decide_eq_false (by omega)
          clear hv0 hv1 hr0
          cases ww
          · rcases HExit.out with ⟨h6, hy⟩ | h6
            · have h6I : (i : Int) < 6 := by omega
              have b0 : decide ((0 : Int) ≤ y) = false := decide_eq_false (by omega)
              clear hy HExit h6
              go_big_wp2_with (first
                | (go_at_call 23; refine (H0.out _ HB.out).mono ?_; clear HB; rintro e w2 ⟨rfl, hb⟩; have HB := Lib.hid hb; obtain ⟨_, _, _, c1, f1, _⟩ := (HM.out.rest.below hb).parts; clear hb)
                | (go_at_call 100; refine (H1.out _).mono ?_; rintro e w2 ⟨rfl, rfl⟩)
                | (go_at_call 46; refine (HW.out _).mono ?_; rintro e w2 ⟨rfl, rfl⟩))
              have HM2 := HM.out.on HB.out
              go_ret
              exact ⟨by rw [HCl.out]; rfl, p + i, by omega, HEr.out, HM2⟩
            · subst h6
              clear HExit
              go_big_wp2_with (first
                | (go_at_call 23; refine (H0.out _ HB.out).mono ?_; clear HB; rintro e w2 ⟨rfl, hb⟩; have HB := Lib.hid hb; obtain ⟨_, _, _, c1, f1, _⟩ := (HM.out.rest.below hb).parts; clear hb)
                | (go_at_call 100; refine (H1.out _).mono ?_; rintro e w2 ⟨rfl, rfl⟩)
                | (go_at_call 46; refine (HW.out _).mono ?_; rintro e w2 ⟨rfl, rfl⟩))
              have HM2 := HM.out.on HB.out
              go_ret
              exact ⟨by rw [HCl.out]; rfl, p + 6, by omega, HEr.out, HM2⟩
          · rcases HExit.out with ⟨h6, hy⟩ | h6
            · have h6I : (i : Int) < 6 := by omega
              have b0 : decide ((0 : Int) ≤ y) = false := decide_eq_false (by omega)
              clear hy HExit h6
              go_big_wp2_with (first
                | (go_at_call 23; refine (H0.out _ HB.out).mono ?_; clear HB; rintro e w2 ⟨rfl, hb⟩; have HB := Lib.hid hb; obtain ⟨_, _, _, c1, f1, _⟩ := (HM.out.rest.below hb).parts; clear hb)
                | (go_at_call 100; refine (H1.out _).mono ?_; rintro e w2 ⟨rfl, rfl⟩)
                | (go_at_call 46; refine (HW.out _).mono ?_; rintro e w2 ⟨rfl, rfl⟩))
              have HM2 := HM.out.on HB.out
              have hlt := HW1.out (by trivial)
              have HM3 := HM2.trans (HM2.rest.move (j := p + i + 1) (i := (p : Int) + i + 1) (by omega) (by omega))
              go_ret
              exact ⟨by rw [HCl.out]; rfl, p + i + 1, by omega, HEr.out, HM3⟩
            · subst h6
              clear HExit
              go_big_wp2_with (first
                | (go_at_call 23; refine (H0.out _ HB.out).mono ?_; clear HB; rintro e w2 ⟨rfl, hb⟩; have HB := Lib.hid hb; obtain ⟨_, _, _, c1, f1, _⟩ := (HM.out.rest.below hb).parts; clear hb)
                | (go_at_call 100; refine (H1.out _).mono ?_; rintro e w2 ⟨rfl, rfl⟩)
                | (go_at_call 46; refine (HW.out _).mono ?_; rintro e w2 ⟨rfl, rfl⟩))
              have HM2 := HM.out.on HB.out
              have hlt := HW1.out (by trivial)
              have HM3 := HM2.trans (HM2.rest.move (j := p + 6 + 1) (i := (p : Int) + 6 + 1) (by omega) (by omega))
              go_ret
              exact ⟨by rw [HCl.out]; rfl, p + 6 + 1, by omega, HEr.out, HM3⟩
        · have HCl := Lib.hid (HEc.out.symm.trans hcl)
          clear HV2 hcl HEc
          have z0 : (v == 0) = false := by rw [beq_eq_false_iff_ne]; omega
          have z1 : decide ((1114111 : Int) < v) = false := decide_eq_false (by omega)
          have z2 : decide ((55296 : Int) ≤ v) = true := decide_eq_true (by omega)
          have z3 : decide (v ≤ (57343 : Int)) = false := decide_eq_false (by omega)
          clear hv0 hv1 hr0
          cases ww
          · rcases HExit.out with ⟨h6, hy⟩ | h6
            · have h6I : (i : Int) < 6 := by omega
              have b0 : decide ((0 : Int) ≤ y) = false := decide_eq_false (by omega)
              clear hy HExit h6
              go_big_wp2_with (first
                | (go_at_call 23; refine (H0.out _ HB.out).mono ?_; clear HB; rintro e w2 ⟨rfl, hb⟩; have HB := Lib.hid hb; obtain ⟨_, _, _, c1, f1, _⟩ := (HM.out.rest.below hb).parts; clear hb)
                | (go_at_call 100; refine (H1.out _).mono ?_; rintro e w2 ⟨rfl, rfl⟩)
                | (go_at_call 46; refine (HW.out _).mono ?_; rintro e w2 ⟨rfl, rfl⟩))
              have HM2 := HM.out.on HB.out
              go_ret
              exact ⟨by rw [HCl.out]; rfl, p + i, by omega, HEr.out, HM2⟩
            · subst h6
              clear HExit
              go_big_wp2_with (first
                | (go_at_call 23; refine (H0.out _ HB.out).mono ?_; clear HB; rintro e w2 ⟨rfl, hb⟩; have HB := Lib.hid hb; obtain ⟨_, _, _, c1, f1, _⟩ := (HM.out.rest.below hb).parts; clear hb)
                | (go_at_call 100; refine (H1.out _).mono ?_; rintro e w2 ⟨rfl, rfl⟩)
                | (go_at_call 46; refine (HW.out _).mono ?_; rintro e w2 ⟨rfl, rfl⟩))
              have HM2 := HM.out.on HB.out
              go_ret
              exact ⟨by rw [HCl.out]; rfl, p + 6, by omega, HEr.out, HM2⟩
          · rcases HExit.out with ⟨h6, hy⟩ | h6
            · have h6I : (i : Int) < 6 := by omega
              have b0 : decide ((0 : Int) ≤ y) = false := decide_eq_false (by omega)
              clear hy HExit h6
              go_big_wp2_with (first
                | (go_at_call 23; refine (H0.out _ HB.out).mono ?_; clear HB; rintro e w2 ⟨rfl, hb⟩; have HB := Lib.hid hb; obtain ⟨_, _, _, c1, f1, _⟩ := (HM.out.rest.below hb).parts; clear hb)
                | (go_at_call 100; refine (H1.out _).mono ?_; rintro e w2 ⟨rfl, rfl⟩)
                | (go_at_call 46; refine (HW.out _).mono ?_; rintro e w2 ⟨rfl, rfl⟩))
              have HM2 := HM.out.on HB.out
              have hlt := HW1.out (by trivial)
              have HM3 := HM2.trans (HM2.rest.move (j := p + i + 1) (i := (p : Int) + i + 1) (by omega) (by omega))
              go_ret
              exact ⟨by rw [HCl.out]; rfl, p + i + 1, by omega, HEr.out, HM3⟩
            · subst h6
              clear HExit
              go_big_wp2_with (first
                | (go_at_call 23; refine (H0.out _ HB.out).mono ?_; clear HB; rintro e w2 ⟨rfl, hb⟩; have HB := Lib.hid hb; obtain ⟨_, _, _, c1, f1, _⟩ := (HM.out.rest.below hb).parts; clear hb)
                | (go_at_call 100; refine (H1.out _).mono ?_; rintro e w2 ⟨rfl, rfl⟩)
                | (go_at_call 46; refine (HW.out _).mono ?_; rintro e w2 ⟨rfl, rfl⟩))
              have HM2 := HM.out.on HB.out
              have hlt := HW1.out (by trivial)
              have HM3 := HM2.trans (HM2.rest.move (j := p + 6 + 1) (i := (p : Int) + 6 + 1) (by omega) (by omega))
              go_ret
              exact ⟨by rw [HCl.out]; rfl, p + 6 + 1, by omega, HEr.out, HM3⟩
end Go.Proofs.YtmhdocgoeahbdaaGreatDoor
namespace Go.CssKit
open Go Go.Lib
theorem escL_rng (l : Chars) (h : ∀ z, z ∈ l → 0 ≤ z ∧ z ≤ 1114111) : 0 ≤ (escL l).1 ∧ (escL l).1 ≤ 1114111 ∧ ∀ z, z ∈ (escL l).2 → 0 ≤ z ∧ z ≤ 1114111 := by
  have hr := hexVal_range 6 l (hexRun 6 l).length (Nat.le_refl _)
  rw [List.take_length] at hr
  unfold escL
  split
  · cases l with
    | nil => exact ⟨by decide, by decide, fun z hz => by cases hz⟩
    | cons c r => exact ⟨(h c (by simp)).1, (h c (by simp)).2, fun z hz => h z (by simp [hz])⟩
  · refine ⟨?_, ?_, fun z hz => ?_⟩
    · show 0 ≤ cleanC _
      unfold cleanC
      split <;> omega
    · show cleanC _ ≤ _
      unfold cleanC
      split <;> omega
    · simp only at hz
      split at hz <;> exact h z (List.mem_of_mem_drop hz)
theorem nameF_rng : ∀ (f : Nat) (l : Chars), (∀ z, z ∈ l → 0 ≤ z ∧ z ≤ 1114111) → ∀ z, z ∈ (nameF f l).1 → 0 ≤ z ∧ z ≤ 1114111
  | 0, _, _, z, hz => by cases hz
  | f + 1, l, h, z, hz => by
    unfold nameF at hz
    split at hz
    · rename_i hn
      rcases List.mem_cons.1 hz with rfl | hz
      · have hp := name_pos hn
        rw [at_some hp]
        exact h _ (List.getElem_mem hp)
      · exact nameF_rng f _ (fun z hz => h z (List.mem_of_mem_drop hz)) z hz
    · split at hz
      · have he := escL_rng (l.drop 1) (fun z hz => h z (List.mem_of_mem_drop hz))
        rcases List.mem_cons.1 hz with rfl | hz
        · exact ⟨he.1, he.2.1⟩
        · exact nameF_rng f _ he.2.2 z hz
      · cases hz
end Go.CssKit
namespace Go.Proofs.YtmhdocgoeahbdaaGreatDoor
open Go.RowKit Go.RunKit Go.UtfKit Go.Lib Go.CssKit

theorem RZ.grown {w w' : World} {b g k : Nat} {l0 : Chars} {row : Option Nat} (h : RZ w b g l0 k) (hg : w.grownBy w' row) (hb : row ≠ some b) (hgg : l0 ≠ [] → row ≠ some g) : RZ w' b g l0 k := by
  obtain ⟨ao, cap, h1, h2, h3, h4⟩ := h.ex
  refine ⟨⟨ao, cap, (hg.block b h.lt (fun e => hb e.symm)).trans h1, h2, h3, fun a ha => ⟨(h4 a ha).1, ⟨fun j z hz => hg.cell ((h4 a ha).2.cell j z hz) (fun x => hgg (fun e => by rw [e] at hz; cases hz) x.symm)⟩⟩⟩, h.ne, h.len, h.le, Nat.lt_of_lt_of_le h.lt hg.size, h.ok⟩
theorem MZ.row {w wr wr' : World} {b g k : Nat} {l0 : Chars} {row : Option Nat} (h : MZ w b g l0 k wr) (hg : wr.grownBy wr' row) (hrow : ∀ k, row = some k → w.heap.size ≤ k) (hb : b < w.heap.size) (hgl : l0 ≠ [] → g < w.heap.size) : MZ w b g l0 k wr' :=
  ⟨⟨hg.os.trans h.grown.os, hg.tape.trans h.grown.tape, hg.output.trans h.grown.output, Nat.le_trans h.grown.size hg.size, fun k hk hn => (hg.block k (Nat.lt_of_lt_of_le hk h.grown.size) (fun e => by have := hrow k e.symm; omega)).trans (h.grown.block k hk hn)⟩,
   h.rest.grown hg (fun e => by have := hrow b e; omega) (fun hl e => by have := hrow g e; have := hgl hl; omega)⟩
theorem RZ.glt {w : World} {b g k : Nat} {l0 : Chars} (h : RZ w b g l0 k) (hl : l0 ≠ []) : g < w.heap.size := by
  obtain ⟨ao, cap, h1, h2, h3, h4⟩ := h.ex
  cases ao with
  | none => exact absurd (h3 rfl) hl
  | some a => exact World.block_lt_of_cell? _ _ ((h4 a rfl).2.cell 0 _ (List.getElem?_eq_getElem (List.length_pos_iff.2 hl)))
/-- What is held at a loop's head: the reader has moved on, the characters so far lie in a row of one's own. -/
structure NameZ (w : World) (b g : Nat) (l0 : Chars) (a : Option Addr) (n cap : Nat) (out : Chars) (j : Nat) (wr : World) : Prop where
  moved : MZ w b g l0 j wr
  row : OwnC wr w.heap.size (.slice a n cap) out
  len : n = out.length
  lt : b < w.heap.size
  glt : l0 ≠ [] → g < w.heap.size
theorem NameZ.start {w : World} {b g k : Nat} {l0 : Chars} (h : RZ w b g l0 k) : NameZ w b g l0 none 0 0 [] k w := ⟨MZ.refl h, OwnC.nil _ _, rfl, h.lt, h.glt⟩
/-- One more character is appended, behind what a call has left. -/
theorem NameZ.wrote {w wr W W1 : World} {b g n n' cap cap' j j' : Nat} {l0 : Chars} {a a' : Option Addr} {out : Chars} {z : Int} (h : NameZ w b g l0 a n cap out j wr) (hm : MZ wr b g l0 j' W)
    (hown : W1.ownsRow w.heap.size 21 1 (.slice a' n' cap') (out.length + 1) (intC out ++ [.int .i32 z])) (hn : n' = out.length + 1)
    (hg : (W.alloc (.cells #[.int .i32 z] 21)).grownBy W1 (Value.slice a n cap).ownBlock) : NameZ w b g l0 a' n' cap' (out ++ [z]) j' W1 := by
  have hM := (h.moved.trans hm).on ((Below.refl _ _).alloc (Nat.le_refl _) (.cells #[.int .i32 z] 21))
  refine ⟨hM.row hg (fun k e => (World.ownsRow.lt h.row k e).1) h.lt h.glt, ?_, by simp [hn], h.lt, h.glt⟩
  unfold OwnC
  rw [intC_snoc, List.length_append]
  exact hown
theorem NameZ.pass {w wr wr' : World} {b g n cap j j' : Nat} {l0 : Chars} {a : Option Addr} {out : Chars} (h : NameZ w b g l0 a n cap out j wr) (hm : MZ wr b g l0 j' wr') : NameZ w b g l0 a n cap out j' wr' :=
  ⟨h.moved.trans hm, h.row.moved hm.grown h.lt, h.len, h.lt, h.glt⟩
theorem readsC {w : World} {base : Nat} {a : Option Addr} {cap : Nat} {out : Chars} (h : OwnC w base (.slice a out.length cap) out) : U.Reads w a out := fun j z hz => by
  obtain ⟨a2, cap2, e, hn, hr⟩ := h.slice
  simp only [Value.slice.injEq] at e
  obtain ⟨rfl, _, _⟩ := e
  cases a with
  | none => rw [hn rfl] at hz; cases hz
  | some ad =>
    obtain ⟨g, o, rfl, hc⟩ := hr ad rfl
    exact ⟨_, rfl, by rw [add_off]; exact hc j z hz⟩

set_option maxRecDepth 100000 in
set_option maxHeartbeats 4000000 in
theorem takeNameZ_any (b g k : Nat) (l0 : Chars) (w : World) (h : RZ w b g l0 k) (h20 : l0.length ≤ 20000) :
    Calls Tryz.prog 51 #[.pointer (some ⟨b, 0, none⟩)] w fun e w' => e = .returned (.string ⟨(bytesC (nameL (l0.drop k)).1).toArray⟩) ∧ ∃ j, k ≤ j ∧ l0.drop j = (nameL (l0.drop k)).2 ∧ MZ w b g l0 j w' := by
  obtain ⟨i0, hi, hz0, hz1, hz2⟩ := info_parts U.Tryz.infoInt32
  have hrg := nameF_rng (l0.drop k).length (l0.drop k) (fun z hz => by have := h.ok z (List.mem_of_mem_drop hz); unfold okC at this; omega)
  obtain ⟨an, ar, han⟩ : ∃ c r, nameL (l0.drop k) = (c, r) := ⟨_, _, rfl⟩
  rw [show nameF (l0.drop k).length (l0.drop k) = nameL (l0.drop k) from rfl, han] at hrg
  rw [han]
  have N0 := Lib.hid (NameZ.start h)
  have D0 : Hid ([] ++ (nameL (l0.drop k)).1 = an ∧ (nameL (l0.drop k)).2 = ar) := Lib.hid (by rw [han]; exact ⟨rfl, rfl⟩)
  have HRg := Lib.hid hrg
  clear h han hrg
  go_enter Tryz.func51, Tryz.ntmps51
  go_wp2
  go_loopw [3] (fun v wr => ∃ (a : Option Addr) (n cap j : Nat) (out : Chars), v = .slice a n cap ∧ Hid (NameZ w b g l0 a n cap out j wr) ∧ Hid (out ++ (nameL (l0.drop j)).1 = an ∧ (nameL (l0.drop j)).2 = ar) ∧ n + k ≤ j) (fun _ wr => l0.length - posN b wr)
  case atStart => exact ⟨none, 0, 0, k, [], rfl, N0, D0, by omega⟩
  case round =>
    clear N0 D0
    obtain ⟨a, n, cap, j, out, rfl, HN, HD, hlen⟩ := hrel
    have hle := HN.out.moved.rest.le
    have HPo := Lib.hid HN.out.moved.rest.posN
    have H0 := Lib.hid (fun W (hr : Below wr.heap.size wr W) => see_all HN.out.moved.rest 0 (by omega) W hr)
    have H1 := Lib.hid (refNames_any (at_ (l0.drop j) 0))
    have H2 := Lib.hid (fun W (hr : Below wr.heap.size wr W) => esc_all HN.out.moved.rest 0 (by omega) W hr)
    have HB := Lib.hid (Below.refl wr.heap.size wr)
    have hd := HD.out
    rw [nameL_step] at hd
    cases hnc : nameC (at_ (l0.drop j) 0) with
    | true =>
      rw [if_pos hnc, List.drop_drop] at hd
      rw [hnc] at H1
      have hlp := name_pos hnc
      rw [List.length_drop] at hlp
      have hnn := HN.out.len
      subst hnn
      have HS := Lib.hid (show (out ++ [at_ (l0.drop j) 0]) ++ (nameL (l0.drop (j + 1))).1 = an ∧ (nameL (l0.drop (j + 1))).2 = ar by rw [List.append_assoc]; exact hd)
      generalize at_ (l0.drop j) 0 = z at *
      clear hd hnc H2
      go_wp2_with (first
        | (go_at_call 23; refine (H0.out _ HB.out).mono ?_; (try clear HM HO); clear HB; rintro e w1 ⟨rfl, hb⟩; have HB := Lib.hid hb; have HM := Lib.hid ((MZ.refl HN.out.moved.rest).on hb); have HO := Lib.hid (World.ownsRow.alloc (HN.out.row.moved HM.out.grown HN.out.lt) (.cells #[.int .i32 z] 21)); clear hb)
        | (go_at_call 48; refine (H1.out _).mono ?_; rintro e w2 ⟨rfl, rfl⟩)
        | (at_builtin; refine wpList_append_own _ rfl _ _ 41 rfl w.heap.size 21 i0 _ 1 4 U.Tryz.underRunes hi hz0 hz1 hz2 rfl (by decide) _ out.length (intC out) rfl HO.out ⟨_, 0, none⟩ 1 1 [.int .i32 z] rfl ?c1 ?c2 ?c3 ?c4 ?c5 ?c6 ?_))
      case c1 => rfl
      case c2 =>
        intro j u hu
        cases j with
        | zero => simpa [go_sem] using hu
        | succ j => simp at hu
      case c3 => intro u hu; simp at hu; subst hu; rfl
      case c4 => unfold maxLen; omega
      case c5 => omega
      case c6 => have := HN.out.moved.grown.size; have := HM.out.grown.size; simp; omega
      intro v' W hown' hgrow _
      obtain ⟨a1, cap1, hvs1⟩ := U.slice_of hown'
      subst hvs1
      have HN2 := Lib.hid (NameZ.wrote HN.out HM.out hown' rfl hgrow)
      obtain ⟨_, _, _, c1, f1, _⟩ := HN2.out.moved.rest.parts
      have hlenR := HN2.out.moved.rest.len
      clear hown' hgrow HO H0 H1
      go_wp2
      have HM3 := (MZ.refl HN2.out.moved.rest).trans (HN2.out.moved.rest.move (j := j + 1) (i := (j : Int) + 1) (by omega) (by omega))
      have HN3 := HN2.out.pass HM3
      exact ⟨⟨a1, _, cap1, j + 1, out ++ [z], rfl, Lib.hid HN3, HS, by omega⟩, by rw [HM3.rest.posN, HPo.out]; omega⟩
    | false =>
      rw [if_neg (by rw [hnc]; decide)] at hd
      rw [hnc] at H1
      cases hes : escAt (l0.drop j) 0 with
      | true =>
        rw [if_pos hes, List.drop_drop] at hd
        rw [hes] at H2
        have hlp := esc_pos hes
        rw [List.length_drop] at hlp
        have hnn := HN.out.len
        subst hnn
        have HE := Lib.hid (fun W (hb : Below wr.heap.size wr W) => takeEscZ_any b g j l0 W (HN.out.moved.rest.below hb) (by omega))
        obtain ⟨z, l2, hzl⟩ : ∃ z r, escL (l0.drop (j + 1)) = (z, r) := ⟨_, _, rfl⟩
        rw [hzl] at HE hd
        have HS := Lib.hid (show (out ++ [z]) ++ (nameL l2).1 = an ∧ (nameL l2).2 = ar by rw [List.append_assoc]; exact hd)
        simp only at HE
        generalize at_ (l0.drop j) 0 = y at *
        clear hd hnc hes hzl
        go_wp2_with (first
          | (go_at_call 23; refine (H0.out _ HB.out).mono ?_; clear HB; rintro e w1 ⟨rfl, hb⟩; have HB := Lib.hid hb; clear hb)
          | (go_at_call 48; refine (H1.out _).mono ?_; rintro e w2 ⟨rfl, rfl⟩)
          | (go_at_call 49; refine (H2.out _ HB.out).mono ?_; clear HB; rintro e w1 ⟨rfl, hb⟩; have HB := Lib.hid hb; clear hb)
          | (go_at_call 80; refine (HE.out _ HB.out).mono ?_; rintro e w1 ⟨rfl, j2, hjj, hl2, hm⟩; have HL2 := Lib.hid hl2; have HM := Lib.hid (((MZ.refl HN.out.moved.rest).on HB.out).trans hm); have HO := Lib.hid (World.ownsRow.alloc (HN.out.row.moved HM.out.grown HN.out.lt) (.cells #[.int .i32 z] 21)); clear hm hl2)
          | (at_builtin; refine wpList_append_own _ rfl _ _ 41 rfl w.heap.size 21 i0 _ 1 4 U.Tryz.underRunes hi hz0 hz1 hz2 rfl (by decide) _ out.length (intC out) rfl HO.out ⟨_, 0, none⟩ 1 1 [.int .i32 z] rfl ?c1 ?c2 ?c3 ?c4 ?c5 ?c6 ?_))
        case c1 => rfl
        case c2 =>
          intro j u hu
          cases j with
          | zero => simpa [go_sem] using hu
          | succ j => simp at hu
        case c3 => intro u hu; simp at hu; subst hu; rfl
        case c4 => unfold maxLen; omega
        case c5 => omega
        case c6 => have := HN.out.moved.grown.size; have := HM.out.grown.size; simp; omega
        intro v' W hown' hgrow _
        obtain ⟨a1, cap1, hvs1⟩ := U.slice_of hown'
        subst hvs1
        have HN2 := Lib.hid (NameZ.wrote HN.out HM.out hown' rfl hgrow)
        clear hown' hgrow HO
        go_wp2
        have hle2 := HN2.out.moved.rest.le
        rw [← HL2.out] at HS
        exact ⟨⟨a1, _, cap1, j2, out ++ [z], rfl, HN2, HS, by omega⟩, by rw [HN2.out.moved.rest.posN, HPo.out]; omega⟩
      | false =>
        rw [if_neg (by rw [hes]; decide)] at hd
        rw [hes] at H2
        obtain ⟨hd1, hd2⟩ := hd
        rw [List.append_nil] at hd1
        subst hd1
        have hnn := HN.out.len
        subst hnn
        have HRow := Lib.hid HN.out.row
        have HSt := Lib.hid (fun W (hb : Below wr.heap.size wr W) => U.refString_any a cap out W (fun z hz => by have := HRg.out z hz; omega) ((readsC HRow.out).on hb) (by omega))
        have HD2 := Lib.hid hd2
        generalize at_ (l0.drop j) 0 = y at *
        clear hnc hes hd2
        go_wp2_with (first
          | (go_at_call 23; refine (H0.out _ HB.out).mono ?_; clear HB; rintro e w1 ⟨rfl, hb⟩; have HB := Lib.hid hb; clear hb)
          | (go_at_call 48; refine (H1.out _).mono ?_; rintro e w2 ⟨rfl, rfl⟩)
          | (go_at_call 49; refine (H2.out _ HB.out).mono ?_; clear HB; rintro e w1 ⟨rfl, hb⟩; have HB := Lib.hid hb; clear hb)
          | (go_at_call 54; refine (HSt.out _ HB.out).mono ?_; rintro e w1 ⟨rfl, hb⟩; have HF := Lib.hid (HN.out.moved.on (HB.out.trans (hb.mono HB.out.size))); clear hb))
        go_ret
        exact ⟨rfl, j, by omega, HD2.out, HF.out⟩
end Go.Proofs.YtmhdocgoeahbdaaGreatDoor
