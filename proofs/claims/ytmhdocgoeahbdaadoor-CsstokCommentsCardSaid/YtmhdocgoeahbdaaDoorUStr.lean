/-
  A row of characters as a text: the model's way and the document's. No conditions.
-/
import Derived.Test.YtmhdocgoeahbdaaDoorUWorks
import Derived.Test.YtmhdocgoeahbdaaDoorUMath2
import Derived.Test.YtmhdocgoeahbdaaDoorRows
import Derived.Test.YtmhdocgoeahbdaaDoorKit
import Derived.Test.YtmhdocgoeahbdaaDoorPure
import Derived.Test.YtmhdocgoeahbdaaDoorUFull
import Derived.Test.YtmhdocgoeahbdaaDoorBelow
import Derived.Laws.BytesArg
import Derived.Laws.BitsLemmas
import Derived.Laws.Bits64
namespace Go.Proofs.YtmhdocgoeahbdaaDoor.U
open Go.RowKit Go.RunKit Go.UtfKit Go.Lib

def textOf (zs : List Int) : List UInt8 := zs.flatMap encodeRune
theorem encode_eq (r : Int) : Utf8.encode r = ⟨(encodeRune r).toArray⟩ := by
  unfold encodeRune
  by_cases c0 : r < 0 ∨ (55296 ≤ r ∧ r ≤ 57343) ∨ 1114111 < r
  · rw [encodeRuneZ_bad c0]
    have hv : Utf8.valid r = false := by
      simp only [Utf8.valid, Bool.or_eq_false_iff, Bool.and_eq_false_iff, decide_eq_false_iff_not]
      omega
    simp only [Utf8.encode, hv, Bool.false_eq_true, if_false, Utf8.runeError]
    decide
  · have hv : Utf8.valid r = true := by
      simp only [Utf8.valid, Bool.or_eq_true, Bool.and_eq_true, decide_eq_true_eq]
      omega
    obtain ⟨n, rfl⟩ : ∃ n : Nat, r = n := ⟨r.toNat, by omega⟩
    simp only [Utf8.encode, hv, if_true, Int.toNat_natCast]
    by_cases c1 : n < 128
    · rw [encodeRuneZ_one (by omega) (by omega), if_pos c1]
      simp
    · rw [if_neg c1]
      by_cases c2 : n < 2048
      · rw [encodeRuneZ_two (by omega) (by omega), if_pos c2]
        have t1 : ((192 : Int) + (n : Int) / 64).toNat = 192 + n / 64 := by omega
        have t2 : ((128 : Int) + (n : Int) % 64).toNat = 128 + n % 64 := by omega
        simp only [List.map_cons, List.map_nil, t1, t2]
      · rw [if_neg c2]
        have t2 : ((128 : Int) + (n : Int) / 64 % 64).toNat = 128 + n / 64 % 64 := by omega
        have t3 : ((128 : Int) + (n : Int) % 64).toNat = 128 + n % 64 := by omega
        by_cases c3 : n < 65536
        · rw [encodeRuneZ_three (by omega), if_pos c3]
          have t1 : ((224 : Int) + (n : Int) / 4096).toNat = 224 + n / 4096 := by omega
          simp only [List.map_cons, List.map_nil, t1, t2, t3]
        · rw [encodeRuneZ_four (by omega) (by omega), if_neg c3]
          have t0 : ((240 : Int) + (n : Int) / 262144).toNat = 240 + n / 262144 := by omega
          have t1 : ((128 : Int) + (n : Int) / 4096 % 64).toNat = 128 + n / 4096 % 64 := by omega
          simp only [List.map_cons, List.map_nil, t0, t1, t2, t3]
theorem runesBytes_eq (zs : List Int) : runesBytes zs = ⟨(textOf zs).toArray⟩ := by
  have h : ∀ (l : List Int) (a : List UInt8), l.foldl (fun r n => r ++ Utf8.encode n) (⟨a.toArray⟩ : ByteArray) = ⟨(a ++ textOf l).toArray⟩ := by
    intro l
    induction l with
    | nil => intro a; simp [textOf]
    | cons z r ih =>
      intro a
      simp only [List.foldl_cons]
      have e : (⟨a.toArray⟩ : ByteArray) ++ Utf8.encode z = ⟨(a ++ encodeRune z).toArray⟩ := by
        rw [encode_eq]
        apply ByteArray.ext
        simp
      rw [e, ih]
      simp [textOf]
  exact h zs []

theorem Tryd.infoByte : (Tryd.prog.info? 5).map (fun i => (i.zero, i.size, i.bytes)) = some (some (.int .u8 0), 1, 1) := by kernel_rfl

end Go.Proofs.YtmhdocgoeahbdaaDoor.U

