/-
  The law on names, walked: it hands back true for every argument. No conditions.
-/
import Derived.BigRegion
import Derived.Deep.DeepCutAuto
import Derived.Deep.RegionHeld3
import Derived.Test.YtcafejjejcchlaaCLaw6
namespace Go.Proofs.Ytcafejjejcchlaa
open Go.RowKit Go.RunKit Go.CharrefKit Go.Lib

theorem below_cell {w w1 : World} (hb : Below w.heap.size w w1) {a : Addr} {v : Value} (h : w.cell? a = some v) : w1.cell? a = some v := by rw [hb.cell (World.block_lt_of_cell? _ _ h)]; exact h
theorem want_at (r : Int) (hr : -2147483648 ≤ r ∧ r ≤ 2147483647) (g : Nat) (w : World) (hc : w.cell? ⟨g, 0, none⟩ = some (.int .i32 r)) : Calls Try.prog 16 #[.slice (some ⟨g, 0, none⟩) 1 1] w fun e w' => e = .returned (.string ⟨(encodeRune r).toArray⟩) ∧ Below w.heap.size w w' := by
  have h := refString_any (some ⟨g, 0, none⟩) 1 [r] w (fun z hz => by rw [List.mem_singleton.1 hz]; exact hr) (fun j z hz => by
    obtain rfl : j = 0 := by have := (List.getElem?_eq_some_iff.1 hz).1; simp at this; exact this
    refine ⟨_, rfl, ?_⟩
    simp at hz
    subst hz
    exact hc) (by simp)
  rw [textOf_one] at h
  exact h
theorem names_text (attr : Bool) (a b : ByteArray) {e : Entry} (he : e ∈ tab) (ha : ∀ c ∈ bl a, c.toNat ≠ 38) (hs1 : a.size ≤ 2000) (hs2 : b.size ≤ 2000) (w : World) :
    Calls Try.prog 14 #[.string (a ++ ⟨#[38]⟩ ++ strOf e.1 ++ ⟨#[59]⟩ ++ b), .bool attr] w fun x w' => x = .returned (.string (a ++ ⟨(encodeRune ((e.2.1 : Nat) : Int)).toArray⟩ ++ ⟨(decodeL attr (bl b)).toArray⟩)) ∧ Below w.heap.size w w' := by
  have e1 : bl (strOf e.1) = bytesOf e.1 := by simp [bl, strOf, bytesOf]
  have hb : bl (a ++ ⟨#[38]⟩ ++ strOf e.1 ++ ⟨#[59]⟩ ++ b) = bl a ++ 38 :: (bytesOf e.1 ++ 59 :: bl b) := by
    rw [bl_append, bl_append, bl_append, bl_append, e1]
    have h1 : bl ⟨#[38]⟩ = [38] := rfl
    have h2 : bl ⟨#[59]⟩ = [59] := rfl
    rw [h1, h2]; simp
  have hsz : (a ++ ⟨#[38]⟩ ++ strOf e.1 ++ ⟨#[59]⟩ ++ b).size ≤ 1099511627776 := by
    have h1 := (name_here (s := ⟨#[38]⟩) (r := []) rfl he).2.2
    have h2 := (tab_fact he).2.2
    simp only [ByteArray.size_append]
    show a.size + 1 + (strOf e.1).size + 1 + b.size ≤ _
    omega
  have := decode_any attr _ hsz w
  rw [hb, decode_named he (bl a) (bl b) ha] at this
  have e2 : (⟨(bl a ++ (encodeRune ((e.2.1 : Nat) : Int) ++ decodeL attr (bl b))).toArray⟩ : ByteArray) = a ++ ⟨(encodeRune ((e.2.1 : Nat) : Int)).toArray⟩ ++ ⟨(decodeL attr (bl b)).toArray⟩ := by
    apply ByteArray.ext
    simp [bl]
  rwa [e2] at this

set_option maxRecDepth 100000 in
set_option maxHeartbeats 8000000 in
theorem lawNames (q : Nat) (hq : q < 256) (a b : ByteArray) (attr : Bool) (w : World) : Calls Try.prog 8 #[.int .u8 (q : Nat), .string a, .string b, .bool attr] w fun e w' => e = .returned (.bool true) ∧ Below w.heap.size w w' := by
  have HW : Hid (∀ w1, Below w.heap.size w w1 → Calls Try.prog 10 #[] w1 fun e w' => e = .returned (.bool true) ∧ Below w.heap.size w w') := Lib.hid (fun w1 hb => from_base hb (works_any w1))
  by_cases hbig : 2000 < a.size
  · have hI : (2000 : Int) < a.size := by omega
    go_enter Try.func8, Try.ntmps8
    go_wp2_with (go_at_call 10; refine (HW.out _ (Below.refl _ _)).mono ?_; rintro e w' ⟨rfl, hb⟩)
    go_ret
    exact ⟨rfl, hb⟩
  have hI := eq_false (show ¬ (2000 : Int) < a.size by omega)
  by_cases hbig2 : 2000 < b.size
  · have hI2 : (2000 : Int) < b.size := by omega
    go_enter Try.func8, Try.ntmps8
    go_wp2_with (go_at_call 10; refine (HW.out _ (Below.refl _ _)).mono ?_; rintro e w' ⟨rfl, hb⟩)
    go_ret
    exact ⟨rfl, hb⟩
  have hI2 := eq_false (show ¬ (2000 : Int) < b.size by omega)
  go_enter Try.func8, Try.ntmps8
  go_wp2
  go_loopw [9] (fun i wr => ∃ k : Nat, k ≤ a.size ∧ i = .int .i64 k ∧ wr = w ∧ Hid (∀ j : Nat, ∀ h : j < a.size, j < k → ¬ (((a[j]'h).toNat : Nat) : Int) = 38)) (fun i _ => a.size - (RowKit.intOf i).toNat)
  case atStart => exact ⟨0, by omega, rfl, rfl, Lib.hid (fun j h hj => by omega)⟩
  case round =>
    obtain ⟨k, hk, rfl, rfl, HP⟩ := hrel
    by_cases hlt : k < a.size
    · have hkI : (k : Int) < a.size := by omega
      by_cases h38 : (((a[k]'hlt).toNat : Nat) : Int) = 38
      · have hxb : ((((a[k]'hlt).toNat : Nat) : Int) == 38) = true := beq_iff_eq.2 h38
        have H38 := Lib.hid h38
        clear h38
        go_wp2_with (go_at_call 10; refine (HW.out _ (Below.refl _ _)).mono ?_; rintro e w' ⟨rfl, hb⟩)
        go_ret
        exact ⟨rfl, hb⟩
      · have hxb : ((((a[k]'hlt).toNat : Nat) : Int) == 38) = false := beq_eq_false_iff_ne.2 h38
        have HP2 : Hid (∀ j : Nat, ∀ h : j < a.size, j < k + 1 → ¬ (((a[j]'h).toNat : Nat) : Int) = 38) := Lib.hid (fun j h hj => by
          rcases Nat.lt_or_ge j k with h1 | h1
          · exact HP.out j h h1
          · obtain rfl : j = k := by omega
            exact h38)
        clear HP
        go_wp2
        exact ⟨⟨k + 1, by omega, by go_num, trivial, HP2⟩, by simp [RowKit.intOf]; omega⟩
    · obtain rfl : k = a.size := by omega
      have hA : ∀ c ∈ bl a, c.toNat ≠ 38 := fun c hc => by
        obtain ⟨j, hj, rfl⟩ := List.getElem_of_mem hc
        have hj2 : j < a.size := by have := hj; rw [bl_length] at this; exact this
        intro e
        have h3 : (a[j]'hj2).toNat = 38 := e
        exact HP.out j hj2 hj2 (by rw [h3]; rfl)
      clear HP
      obtain ⟨e, he⟩ := some_at tab_len (Nat.mod_lt q (by omega : 0 < 59))
      have hem := List.mem_of_getElem? he
      have hb1 : Below wr.heap.size wr (wr.alloc (.cells (nameCells tab).toArray 26)) := (Below.refl _ _).alloc (Nat.le_refl _) _
      obtain ⟨c0, c1, c2⟩ := refNames_block wr _ e he
      have hns : (strOf e.1).size ≤ 6 := by
        have h1 := (name_here (s := ⟨#[38]⟩) (r := []) rfl hem).2.2
        have h2 := (tab_fact hem).2.2
        omega
      have N1 := Lib.hid (fun w => names_text attr a b hem hA (by omega) (by omega) w)
      have hch : e.2.1 ≤ 1114111 := by simpa using List.all_eq_true.1 tab_le e hem
      have HWant := Lib.hid (fun g w hc => want_at ((e.2.1 : Nat) : Int) (by omega) g w hc)
      have HD := Lib.hid (fun w => decode_any attr b (by omega) w)
      have HR := Lib.hid (refNames_run wr)
      have hws : (⟨(encodeRune ((e.2.1 : Nat) : Int)).toArray⟩ : ByteArray).size ≤ 4 := by have := encodeRune_len ((e.2.1 : Nat) : Int); simpa [ByteArray.size] using this
      have hds : (⟨(decodeL attr (bl b)).toArray⟩ : ByteArray).size ≤ 8000 := by
        have := decodeL_len attr (bl b)
        rw [bl_length] at this
        simp [ByteArray.size]; omega
      clear he hem hA
      generalize (⟨(encodeRune ((e.2.1 : Nat) : Int)).toArray⟩ : ByteArray) = want at *
      generalize (⟨(decodeL attr (bl b)).toArray⟩ : ByteArray) = D at *
      generalize strOf e.1 = nm at *
      generalize e.2.1 = ch at *
      generalize e.2.2 = bare at *
      generalize wr.alloc (.cells (nameCells tab).toArray 26) = W at *
      generalize hgn : (⟨wr.heap.size, 0, none⟩ : Addr) = ga at HR
      have HGN := Lib.hid hgn
      have hq59 : q % 59 < 59 := Nat.mod_lt _ (by omega)
      go_wp2_with (go_at_call 11; refine (calls_of_run HR.out).mono ?_; rintro e w' ⟨rfl, rfl⟩; clear HR; cases HGN.out)
      have hb2 : Below wr.heap.size wr (w'.alloc (.cells #[.string nm, .int .i32 ch, .bool bare] 26)) := hb1.alloc hb1.size _
      have d0 : (w'.alloc (.cells #[.string nm, .int .i32 ch, .bool bare] 26)).cell? ⟨w'.heap.size, 0, none⟩ = some (.string nm) := World.cell?_alloc_at _ _ _ _ rfl
      have d1 : (w'.alloc (.cells #[.string nm, .int .i32 ch, .bool bare] 26)).cell? ⟨w'.heap.size, 1, none⟩ = some (.int .i32 ch) := World.cell?_alloc_at _ _ _ _ rfl
      generalize w'.alloc (.cells #[.string nm, .int .i32 ch, .bool bare] 26) = W2 at *
      generalize w'.heap.size = g2 at *
      have HB2 := Lib.hid hb2
      clear c0 c1 c2 hb1 hb2 HGN
      have hdr : Below W2.heap.size W2 W2.drew := (Below.refl _ _).drew
      have z1 := eq_false (show ¬ 9223372036854775807 < a.size + 1 by omega)
      have z2 := eq_false (show ¬ 9223372036854775807 < a.size + 1 + nm.size by omega)
      have z3 := eq_false (show ¬ 9223372036854775807 < a.size + 1 + nm.size + 1 by omega)
      have z4 := eq_false (show ¬ 9223372036854775807 < a.size + 1 + nm.size + 1 + b.size by omega)
      have z5 := eq_false (show ¬ 9223372036854775807 < a.size + want.size by omega)
      have z6 := eq_false (show ¬ 9223372036854775807 < a.size + want.size + D.size by omega)
      have HS : Hid (∀ x, Below W2.heap.size W2 x → x.cell? ⟨g2, 0, none⟩ = some (.string nm) ∧ x.cell? ⟨g2, 1, none⟩ = some (.int .i32 ch)) := Lib.hid (fun x hx => ⟨below_cell hx d0, below_cell hx d1⟩)
      go_region_held3 (fun x => x.cell? ⟨g2, 0, none⟩ = some (.string nm) ∧ x.cell? ⟨g2, 1, none⟩ = some (.int .i32 ch))
        (first
          | exact ⟨d0, d1⟩
          | exact HS.out _ HB6.out
          | exact HS.out _ HB5.out
          | exact HS.out _ HB4.out
          | exact HS.out _ HB3.out
          | exact HS.out _ (HB3.out.alloc HB3.out.size _)
          | exact HS.out _ (hdr.alloc hdr.size _))
        (first
          | (go_at_call 14; refine (N1.out _).mono ?_; rintro e w3 ⟨rfl, hb⟩
             have HB3 : Hid (Below W2.heap.size W2 w3) := Lib.hid (by first | exact hdr.trans (hb.mono hdr.size) | exact (hdr.alloc hdr.size _).trans (hb.mono (hdr.alloc hdr.size _).size))
             have KB := Lib.hid (fun g v => below_cell hb (a := g) (v := v))
             clear hb N1)
          | (go_at_call 16; refine (HWant.out _ _ (by first | exact World.cell?_alloc_at _ _ _ _ rfl | exact KB.out _ _ (World.cell?_alloc_at _ _ _ _ rfl))).mono ?_; rintro e w4 ⟨rfl, hb⟩
             have HB4 : Hid (Below W2.heap.size W2 w4) := Lib.hid (by first | exact HB3.out.trans (hb.mono HB3.out.size) | exact (HB3.out.alloc HB3.out.size _).trans (hb.mono (HB3.out.alloc HB3.out.size _).size))
             clear hb KB)
          | (go_at_call 14; refine (HD.out _).mono ?_; rintro e w5 ⟨rfl, hb⟩
             have HB5 : Hid (Below W2.heap.size W2 w5) := Lib.hid (HB4.out.trans (hb.mono HB4.out.size))
             clear hb)
          | (go_at_call 10; refine (works_any _).mono ?_; rintro e w6 ⟨rfl, hb⟩
             have HB6 : Hid (Below W2.heap.size W2 w6) := Lib.hid (HB5.out.trans (hb.mono HB5.out.size))
             clear hb))
      all_goals
        go_wp2
        go_ret
        exact ⟨rfl, HB2.out.trans (HB6.out.mono HB2.out.size)⟩
theorem lawNamesZ (q : Int) (hq : (Lit.int .u8 q).wf = true) (a b : ByteArray) (attr : Bool) (w : World) : Calls Try.prog 8 #[.int .u8 q, .string a, .string b, .bool attr] w fun e w' => e = .returned (.bool true) ∧ Below w.heap.size w w' := by
  have e1 : IntKind.u8.min = 0 := by kernel_rfl
  have e2 : IntKind.u8.max = 255 := by kernel_rfl
  simp [Lit.wf, e1, e2] at hq
  obtain ⟨n, rfl⟩ : ∃ n : Nat, q = n := ⟨q.toNat, by omega⟩
  exact lawNames n (by omega) a b attr w
end Go.Proofs.Ytcafejjejcchlaa
