/-
  The laws on pieces and on what is escaped. No conditions.
-/
import Derived.Test.YtcafejjejcchlaaCLaw1
import Derived.Test.YtcafejjejcchlaaCPieces
namespace Go.CharrefKit
open Go Go.Lib
theorem decodeF_len : ∀ (f : Nat) (attr : Bool) (l : List UInt8), (decodeF f attr l).length ≤ 4 * l.length
  | 0, _, l => by unfold decodeF; simp
  | f + 1, attr, [] => by simp [decodeF]
  | f + 1, attr, b :: r => by
    unfold decodeF
    split
    · rename_i h
      have hl := findL_len h
      rw [nats_length] at hl
      have h1 := encodeRune_len (((findL attr (nats (b :: r))).char : Nat) : Int)
      have h2 := decodeF_len f attr ((b :: r).drop (findL attr (nats (b :: r))).len)
      rw [List.length_drop] at h2
      rw [List.length_append]
      omega
    · have h2 := decodeF_len f attr r
      simp only [List.length_cons]
      omega
theorem decodeL_len (attr : Bool) (l : List UInt8) : (decodeL attr l).length ≤ 4 * l.length := decodeF_len _ _ _
theorem bl_append (a b : ByteArray) : bl (a ++ b) = bl a ++ bl b := by simp [bl]
end Go.CharrefKit
namespace Go.Proofs.Ytcafejjejcchlaa
open Go.RowKit Go.RunKit Go.CharrefKit Go.Lib

set_option maxRecDepth 100000 in
set_option maxHeartbeats 2000000 in
theorem lawPieces (a b : ByteArray) (attr : Bool) (w : World) : Calls Try.prog 7 #[.string a, .string b, .bool attr] w fun e w' => e = .returned (.bool true) ∧ Below w.heap.size w w' := by
  have HW : Hid (∀ w1, Below w.heap.size w w1 → Calls Try.prog 10 #[] w1 fun e w' => e = .returned (.bool true) ∧ Below w.heap.size w w') := Lib.hid (fun w1 hb => from_base hb (works_any w1))
  by_cases hbig : 2000 < a.size
  · have hI : (2000 : Int) < a.size := by omega
    go_enter Try.func7, Try.ntmps7
    go_wp2_with (go_at_call 10; refine (HW.out _ (Below.refl _ _)).mono ?_; rintro e w' ⟨rfl, hb⟩)
    go_ret
    exact ⟨rfl, hb⟩
  have hI := eq_false (show ¬ (2000 : Int) < a.size by omega)
  by_cases hbig2 : 2000 < b.size
  · have hI2 : (2000 : Int) < b.size := by omega
    go_enter Try.func7, Try.ntmps7
    go_wp2_with (go_at_call 10; refine (HW.out _ (Below.refl _ _)).mono ?_; rintro e w' ⟨rfl, hb⟩)
    go_ret
    exact ⟨rfl, hb⟩
  have hI2 := eq_false (show ¬ (2000 : Int) < b.size by omega)
  have e32 : (⟨#[32]⟩ : ByteArray).size = 1 := rfl
  have h0 := decode_any attr (a ++ ⟨#[32]⟩ ++ b) (by simp only [ByteArray.size_append, e32]; omega) w
  have hd : (⟨(decodeL attr (bl (a ++ ⟨#[32]⟩ ++ b))).toArray⟩ : ByteArray) = ⟨(decodeL attr (bl a)).toArray⟩ ++ ⟨#[32]⟩ ++ ⟨(decodeL attr (bl b)).toArray⟩ := by
    have e : bl (a ++ ⟨#[32]⟩ ++ b) = bl a ++ 32 :: bl b := by rw [bl_append, bl_append]; simp [bl]
    rw [e, decode_blank attr _ _ _ (Nat.le_refl _)]
    apply ByteArray.ext
    simp
  rw [hd] at h0
  have HA := Lib.hid (fun w => decode_any attr a (by omega) w)
  have HB := Lib.hid (fun w => decode_any attr b (by omega) w)
  have hx : (⟨(decodeL attr (bl a)).toArray⟩ : ByteArray).size ≤ 8000 := by
    have := decodeL_len attr (bl a)
    rw [bl_length] at this
    simp [ByteArray.size]; omega
  have hy : (⟨(decodeL attr (bl b)).toArray⟩ : ByteArray).size ≤ 8000 := by
    have := decodeL_len attr (bl b)
    rw [bl_length] at this
    simp [ByteArray.size]; omega
  generalize (⟨(decodeL attr (bl a)).toArray⟩ : ByteArray) = x at *
  generalize (⟨(decodeL attr (bl b)).toArray⟩ : ByteArray) = y at *
  have H0 := Lib.hid h0
  clear h0 hd e32
  go_enter Try.func7, Try.ntmps7
  go_wp2_with (first
    | (go_at_call 14; refine H0.out.mono ?_; rintro e w1 ⟨rfl, hb1⟩; have HB1 := Lib.hid hb1; clear hb1 H0)
    | (go_at_call 14; refine (HA.out _).mono ?_; rintro e w2 ⟨rfl, hb2⟩; have HB2 := Lib.hid (HB1.out.trans (hb2.mono HB1.out.size)); clear hb2 HA HB1)
    | (go_at_call 14; refine (HB.out _).mono ?_; rintro e w3 ⟨rfl, hb3⟩; have HB3 := Lib.hid (HB2.out.trans (hb3.mono HB2.out.size)); clear hb3 HB HB2)
    | (go_at_call 10; refine (HW.out _ HB3.out).mono ?_; rintro e w' ⟨rfl, hb⟩))
  go_ret
  exact ⟨rfl, hb⟩
end Go.Proofs.Ytcafejjejcchlaa
