/-
  The law on numbers. No conditions.
-/
import Derived.Test.YtcafejjejcchlaaCDig
namespace Go.Proofs.Ytcafejjejcchlaa
open Go.RowKit Go.RunKit Go.CharrefKit Go.Lib

theorem decode_text {attr : Bool} {s : ByteArray} {l : List UInt8} (hsz : s.size ≤ 1099511627776) (h : decodeL attr (bl s) = l) (w : World) :
    Calls Try.prog 14 #[.string s, .bool attr] w fun e w' => e = .returned (.string ⟨l.toArray⟩) ∧ Below w.heap.size w w' := by
  have := decode_any attr s hsz w
  rwa [h] at this
theorem textOf_one (r : Int) : textOf [r] = encodeRune r := by simp [textOf]
theorem want_one (r : Int) (hr : -2147483648 ≤ r ∧ r ≤ 2147483647) (w : World) : Calls Try.prog 16 #[.slice (some ⟨w.heap.size, 0, none⟩) 1 1] (w.alloc (.cells #[.int .i32 r] 21)) fun e w' => e = .returned (.string ⟨(encodeRune r).toArray⟩) ∧ Below w.heap.size w w' := by
  have hb : Below w.heap.size w (w.alloc (.cells #[.int .i32 r] 21)) := (Below.refl _ _).alloc (Nat.le_refl _) _
  have h := refString_any (some ⟨w.heap.size, 0, none⟩) 1 [r] (w.alloc (.cells #[.int .i32 r] 21)) (fun z hz => by rw [List.mem_singleton.1 hz]; exact hr) (fun j z hz => by
    obtain rfl : j = 0 := by have := (List.getElem?_eq_some_iff.1 hz).1; simp at this; exact this
    refine ⟨_, rfl, ?_⟩
    simp at hz
    simp [go_sem, hz]) (by simp)
  rw [textOf_one] at h
  exact h.mono fun _ _ h => ⟨h.1, hb.trans (h.2.mono hb.size)⟩

set_option maxRecDepth 100000 in
set_option maxHeartbeats 4000000 in
theorem lawNumbers (r : Int) (hr : -2147483648 ≤ r ∧ r ≤ 2147483647) (q : Nat) (hq : q < 256) (w : World) : Calls Try.prog 6 #[.int .i32 r, .int .u8 (q : Nat)] w fun e w' => e = .returned (.bool true) ∧ Below w.heap.size w w' := by
  have HW : Hid (∀ w1, Below w.heap.size w w1 → Calls Try.prog 10 #[] w1 fun e w' => e = .returned (.bool true) ∧ Below w.heap.size w w') := Lib.hid (fun w1 hb => from_base hb (works_any w1))
  have HO := Lib.hid (want_one r hr w)
  by_cases h0 : r ≤ 0
  · clear hr
    generalize (⟨(encodeRune r).toArray⟩ : ByteArray) = want at *
    go_enter Try.func6, Try.ntmps6
    go_wp2_with (first
      | (go_at_call 16; refine HO.out.mono ?_; rintro e w1 ⟨rfl, hb1⟩)
      | (go_at_call 10; refine (HW.out _ hb1).mono ?_; rintro e w' ⟨rfl, hb⟩))
    go_ret
    exact ⟨rfl, hb⟩
  have h0F := eq_false h0
  by_cases h1 : 128 ≤ r ∧ r ≤ 159
  · obtain ⟨h2, h3⟩ := h1
    clear hr
    generalize (⟨(encodeRune r).toArray⟩ : ByteArray) = want at *
    go_enter Try.func6, Try.ntmps6
    go_wp2_with (first
      | (go_at_call 16; refine HO.out.mono ?_; rintro e w1 ⟨rfl, hb1⟩)
      | (go_at_call 10; refine (HW.out _ hb1).mono ?_; rintro e w' ⟨rfl, hb⟩))
    go_ret
    exact ⟨rfl, hb⟩
  obtain ⟨v, rfl⟩ : ∃ v : Nat, r = v := ⟨r.toNat, by omega⟩
  have hvp : 0 < v := by omega
  have hv1 : ¬ (128 ≤ v ∧ v ≤ 159) := by omega
  have hws : (⟨(encodeRune (v : Int)).toArray⟩ : ByteArray).size ≤ 4 := by have := encodeRune_len (v : Int); simpa [ByteArray.size] using this
  have M1 : Hid (∀ (t u : ByteArray), Digits 10 v (natsOf t) → Digits 16 v (natsOf u) → t.size ≤ 45 → u.size ≤ 45 → ∀ w, Calls Try.prog 14 #[.string (⟨#[38, 35]⟩ ++ t ++ ⟨#[59]⟩ ++ (⟨#[38, 35, 120]⟩ ++ u) ++ ⟨#[59]⟩), .bool false] w fun e w' => e = .returned (.string (⟨(encodeRune (v : Int)).toArray⟩ ++ ⟨(encodeRune (v : Int)).toArray⟩)) ∧ Below w.heap.size w w') := Lib.hid (fun t u ht hu hts hus w => by
    have hz : (⟨#[38, 35]⟩ ++ t ++ ⟨#[59]⟩ ++ (⟨#[38, 35, 120]⟩ ++ u) ++ ⟨#[59]⟩ : ByteArray).size ≤ 1099511627776 := by
      simp only [ByteArray.size_append]
      show 2 + t.size + 1 + (3 + u.size) + 1 ≤ _
      omega
    have hd := numbers1 (v := v) (a := bl t) (b := bl u) ht hu hvp hv1
    have e : bl (⟨#[38, 35]⟩ ++ t ++ ⟨#[59]⟩ ++ (⟨#[38, 35, 120]⟩ ++ u) ++ ⟨#[59]⟩) = [38, 35] ++ bl t ++ [59] ++ ([38, 35, 120] ++ bl u) ++ [59] := by simp only [bl_append]; rfl
    rw [← e] at hd
    have := decode_text hz hd w
    have e2 : (⟨(encodeRune (v : Int) ++ encodeRune (v : Int)).toArray⟩ : ByteArray) = ⟨(encodeRune (v : Int)).toArray⟩ ++ ⟨(encodeRune (v : Int)).toArray⟩ := by apply ByteArray.ext; simp
    rwa [e2] at this)
  have M2 : Hid (∀ (t u : ByteArray), Digits 10 v (natsOf t) → Digits 16 v (natsOf u) → t.size ≤ 45 → u.size ≤ 45 → ∀ w, Calls Try.prog 14 #[.string (⟨#[38, 35]⟩ ++ t ++ ⟨#[33]⟩ ++ (⟨#[38, 35, 120]⟩ ++ u) ++ ⟨#[32]⟩ ++ (⟨#[38, 35, 120]⟩ ++ u)), .bool true] w fun e w' => e = .returned (.string (⟨(encodeRune (v : Int)).toArray⟩ ++ ⟨#[33]⟩ ++ ⟨(encodeRune (v : Int)).toArray⟩ ++ ⟨#[32]⟩ ++ ⟨(encodeRune (v : Int)).toArray⟩)) ∧ Below w.heap.size w w') := Lib.hid (fun t u ht hu hts hus w => by
    have hz : (⟨#[38, 35]⟩ ++ t ++ ⟨#[33]⟩ ++ (⟨#[38, 35, 120]⟩ ++ u) ++ ⟨#[32]⟩ ++ (⟨#[38, 35, 120]⟩ ++ u) : ByteArray).size ≤ 1099511627776 := by
      simp only [ByteArray.size_append]
      show 2 + t.size + 1 + (3 + u.size) + 1 + (3 + u.size) ≤ _
      omega
    have hd := numbers2 (v := v) (a := bl t) (b := bl u) ht hu hvp hv1
    have e : bl (⟨#[38, 35]⟩ ++ t ++ ⟨#[33]⟩ ++ (⟨#[38, 35, 120]⟩ ++ u) ++ ⟨#[32]⟩ ++ (⟨#[38, 35, 120]⟩ ++ u)) = [38, 35] ++ bl t ++ [33] ++ ([38, 35, 120] ++ bl u) ++ [32] ++ ([38, 35, 120] ++ bl u) := by simp only [bl_append]; rfl
    rw [← e] at hd
    have := decode_text hz hd w
    have e2 : (⟨(encodeRune (v : Int) ++ [33] ++ encodeRune (v : Int) ++ [32] ++ encodeRune (v : Int)).toArray⟩ : ByteArray) = ⟨(encodeRune (v : Int)).toArray⟩ ++ ⟨#[33]⟩ ++ ⟨(encodeRune (v : Int)).toArray⟩ ++ ⟨#[32]⟩ ++ ⟨(encodeRune (v : Int)).toArray⟩ := by apply ByteArray.ext; simp
    rwa [e2] at this)
  have D10 := Lib.hid (fun w => digits_10 v q (by omega) hq w)
  have D16 := Lib.hid (fun w => digits_16 v q (by omega) hq w)
  generalize (⟨(encodeRune (v : Int)).toArray⟩ : ByteArray) = want at *
  by_cases h2 : (128 : Int) ≤ v
  · have h3F := eq_false (show ¬ (v : Int) ≤ 159 by omega)
    clear hv1 h1
    go_enter Try.func6, Try.ntmps6
    go_wp2_with (first
      | (go_at_call 16; refine HO.out.mono ?_; rintro e w1 ⟨rfl, hb1⟩; have HB1 := Lib.hid hb1; clear hb1 HO)
      | (go_at_call 17; refine (D10.out _).mono ?_; rintro e w2 ⟨t, rfl, hD1, rfl⟩; clear D10; have HT1 := Lib.hid hD1; have hts := hD1.2; clear hD1)
      | (go_at_call 17; refine (D16.out _).mono ?_; rintro e w3 ⟨u, rfl, hD2, rfl⟩; clear D16; have HT2 := Lib.hid hD2; have hus := hD2.2; clear hD2; have H1 := Lib.hid (M1.out t u HT1.out.1 HT2.out.1 HT1.out.2 HT2.out.2); have H2 := Lib.hid (M2.out t u HT1.out.1 HT2.out.1 HT1.out.2 HT2.out.2))
      | (go_at_call 14; refine (H1.out _).mono ?_; rintro e w4 ⟨rfl, hb4⟩; have HB4 := Lib.hid (HB1.out.trans (hb4.mono HB1.out.size)); clear hb4 H1)
      | (go_at_call 14; refine (H2.out _).mono ?_; rintro e w5 ⟨rfl, hb5⟩; have HB5 := Lib.hid (HB4.out.trans (hb5.mono HB4.out.size)); clear hb5 H2)
      | (go_at_call 10; refine (HW.out _ HB5.out).mono ?_; rintro e w' ⟨rfl, hb⟩))
    go_ret
    exact ⟨rfl, hb⟩
  · have h2F := eq_false h2
    clear hv1 h1
    go_enter Try.func6, Try.ntmps6
    go_wp2_with (first
      | (go_at_call 16; refine HO.out.mono ?_; rintro e w1 ⟨rfl, hb1⟩; have HB1 := Lib.hid hb1; clear hb1 HO)
      | (go_at_call 17; refine (D10.out _).mono ?_; rintro e w2 ⟨t, rfl, hD1, rfl⟩; clear D10; have HT1 := Lib.hid hD1; have hts := hD1.2; clear hD1)
      | (go_at_call 17; refine (D16.out _).mono ?_; rintro e w3 ⟨u, rfl, hD2, rfl⟩; clear D16; have HT2 := Lib.hid hD2; have hus := hD2.2; clear hD2; have H1 := Lib.hid (M1.out t u HT1.out.1 HT2.out.1 HT1.out.2 HT2.out.2); have H2 := Lib.hid (M2.out t u HT1.out.1 HT2.out.1 HT1.out.2 HT2.out.2))
      | (go_at_call 14; refine (H1.out _).mono ?_; rintro e w4 ⟨rfl, hb4⟩; have HB4 := Lib.hid (HB1.out.trans (hb4.mono HB1.out.size)); clear hb4 H1)
      | (go_at_call 14; refine (H2.out _).mono ?_; rintro e w5 ⟨rfl, hb5⟩; have HB5 := Lib.hid (HB4.out.trans (hb5.mono HB4.out.size)); clear hb5 H2)
      | (go_at_call 10; refine (HW.out _ HB5.out).mono ?_; rintro e w' ⟨rfl, hb⟩))
    go_ret
    exact ⟨rfl, hb⟩
theorem lawNumbersZ (r q : Int) (hr : (Lit.int .i32 r).wf = true) (hq : (Lit.int .u8 q).wf = true) (w : World) : Calls Try.prog 6 #[.int .i32 r, .int .u8 q] w fun e w' => e = .returned (.bool true) ∧ Below w.heap.size w w' := by
  have e1 : IntKind.u8.min = 0 := by kernel_rfl
  have e2 : IntKind.u8.max = 255 := by kernel_rfl
  have e3 : IntKind.i32.min = -2147483648 := by kernel_rfl
  have e4 : IntKind.i32.max = 2147483647 := by kernel_rfl
  simp [Lit.wf, e1, e2] at hq
  simp [Lit.wf, e3, e4] at hr
  obtain ⟨n, rfl⟩ : ∃ n : Nat, q = n := ⟨q.toNat, by omega⟩
  exact lawNumbers r hr n (by omega) w
end Go.Proofs.Ytcafejjejcchlaa
