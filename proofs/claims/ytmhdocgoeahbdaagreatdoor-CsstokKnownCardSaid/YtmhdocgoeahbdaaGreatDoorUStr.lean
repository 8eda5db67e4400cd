/-
  A row of characters as a text: the model's way and the document's. No conditions.
-/
import Derived.Test.YtmhdocgoeahbdaaGreatDoorUOne
import Derived.Laws.BytesArg
namespace Go.Proofs.YtmhdocgoeahbdaaGreatDoor.U
open Go.RowKit Go.RunKit Go.UtfKit Go.Lib

def textOf (zs : List Int) : List UInt8 := zs.flatMap encodeRune
theorem encode_eq (r : Int) : Utf8.encode r = ⟨(encodeRune r).toArray⟩ := by
  unfold encodeRune
  by_cases c0 : r < 0 ∨ (55296 ≤ r ∧ r ≤ 57343) ∨ 1114111 < r
  · rw [encodeRuneZ_bad c0]
    have hv : Utf8.valid r = false := by
      simp only [Utf8.valid, Bool.or_eq_false_iff, Bool.and_eq_false_iff, decide_eq_false_iff_not]
      omega
    simp only [Utf8.encode, hv, Bool.false_eq_true, if_false, Utf8.runeError]
    decide
  · have hv : Utf8.valid r = true := by
      simp only [Utf8.valid, Bool.or_eq_true, Bool.and_eq_true, decide_eq_true_eq]
      omega
    obtain ⟨n, rfl⟩ : ∃ n : Nat, r = n := ⟨r.toNat, by omega⟩
    simp only [Utf8.encode, hv, if_true, Int.toNat_natCast]
    by_cases c1 : n < 128
    · rw [encodeRuneZ_one (by omega) (by omega), if_pos c1]
      simp
    · rw [if_neg c1]
      by_cases c2 : n < 2048
      · rw [encodeRuneZ_two (by omega) (by omega), if_pos c2]
        have t1 : ((192 : Int) + (n : Int) / 64).toNat = 192 + n / 64 := by omega
        have t2 : ((128 : Int) + (n : Int) % 64).toNat = 128 + n % 64 := by omega
        simp only [List.map_cons, List.map_nil, t1, t2]
      · rw [if_neg c2]
        have t2 : ((128 : Int) + (n : Int) / 64 % 64).toNat = 128 + n / 64 % 64 := by omega
        have t3 : ((128 : Int) + (n : Int) % 64).toNat = 128 + n % 64 := by omega
        by_cases c3 : n < 65536
        · rw [encodeRuneZ_three (by omega), if_pos c3]
          have t1 : ((224 : Int) + (n : Int) / 4096).toNat = 224 + n / 4096 := by omega
          simp only [List.map_cons, List.map_nil, t1, t2, t3]
        · rw [encodeRuneZ_four (by omega) (by omega), if_neg c3]
          have t0 : ((240 : Int) + (n : Int) / 262144).toNat = 240 + n / 262144 := by omega
          have t1 : ((128 : Int) + (n : Int) / 4096 % 64).toNat = 128 + n / 4096 % 64 := by omega
          simp only [List.map_cons, List.map_nil, t0, t1, t2, t3]
theorem runesBytes_eq (zs : List Int) : runesBytes zs = ⟨(textOf zs).toArray⟩ := by
  have h : ∀ (l : List Int) (a : List UInt8), l.foldl (fun r n => r ++ Utf8.encode n) (⟨a.toArray⟩ : ByteArray) = ⟨(a ++ textOf l).toArray⟩ := by
    intro l
    induction l with
    | nil => intro a; simp [textOf]
    | cons z r ih =>
      intro a
      simp only [List.foldl_cons]
      have e : (⟨a.toArray⟩ : ByteArray) ++ Utf8.encode z = ⟨(a ++ encodeRune z).toArray⟩ := by
        rw [encode_eq]
        apply ByteArray.ext
        simp
      rw [e, ih]
      simp [textOf]
  exact h zs []

/-- The cells of the bytes so far. -/
theorem textCells (zs : List Int) : byteCells (textOf zs) = zs.flatMap runeCells := by
  induction zs with
  | nil => rfl
  | cons z r ih =>
    have e : textOf (z :: r) = encodeRune z ++ textOf r := by simp [textOf]
    rw [e, List.flatMap_cons, ← ih, ← byteCells_encodeRune]
    simp [byteCells]
theorem Tryz.infoByte : (Tryz.prog.info? 5).map (fun i => (i.zero, i.size, i.bytes)) = some (some (.int .u8 0), 1, 1) := by kernel_rfl

/-- A slice whose elements are the integers zs. -/
def Reads (w : World) (a : Option Addr) (zs : List Int) : Prop := ∀ j z, zs[j]? = some z → ∃ ad, a = some ad ∧ w.cell? (ad.add j) = some (.int .i32 z)
theorem Reads.on {w w' : World} {a : Option Addr} {zs : List Int} (h : Reads w a zs) (hb : Below w.heap.size w w') : Reads w' a zs := fun j z hz => by
  obtain ⟨ad, e, hc⟩ := h j z hz
  exact ⟨ad, e, by rw [hb.cell (World.block_lt_of_cell? _ _ hc)]; exact hc⟩

set_option maxRecDepth 100000 in
set_option maxHeartbeats 1000000 in
theorem refString_any (a : Option Addr) (cap : Nat) (zs : List Int) (w : World) (hr : ∀ z ∈ zs, -2147483648 ≤ z ∧ z ≤ 2147483647) (hc : Reads w a zs) (hn : zs.length ≤ 20000) :
    Calls Tryz.prog 54 #[.slice a zs.length cap] w fun e w' => e = .returned (.string ⟨(textOf zs).toArray⟩) ∧ Below w.heap.size w w' := by
  obtain ⟨i0, hi, hz0, hz1, hz2⟩ := info_parts Tryz.infoByte
  have HC := Lib.hid hc
  have HR := Lib.hid hr
  clear hc hr
  have D0 : Hid (w.ownsRow w.heap.size 5 1 (.slice none 0 0) (textOf (zs.take 0)).length (byteCells (textOf (zs.take 0))) ∧ Below w.heap.size w w) := Lib.hid ⟨World.ownsRow_nil _ _ _ _, Below.refl _ _⟩
  go_enter Tryz.func54, Tryz.ntmps54
  go_wp2
  go_loopw [3, 4] (fun l i wr => ∃ (k m cap : Nat) (b : Option Addr), l = .slice b m cap ∧ i = .int .i64 k ∧ k ≤ zs.length ∧ m ≤ 4 * k ∧ Hid (wr.ownsRow w.heap.size 5 1 (.slice b m cap) m (byteCells (textOf (zs.take k))) ∧ Below w.heap.size w wr)) (fun _ i _ => zs.length - (RowKit.intOf i).toNat)
  case atStart => exact ⟨0, 0, 0, none, rfl, rfl, Nat.zero_le _, Nat.zero_le _, D0⟩
  case round =>
    clear D0
    obtain ⟨k, m, cap1, b, rfl, rfl, hk, hm, HD⟩ := hrel
    by_cases hlt : k < zs.length
    · obtain ⟨z, hz⟩ := some_at rfl hlt
      obtain ⟨ad, e, hcell⟩ := (HC.out.on HD.out.2) k z hz
      subst e
      have hzr := HR.out z (List.mem_of_getElem? hz)
      have HO := Lib.hid (one_any z hzr)
      have hl4 := runeCells_le z
      have HT : Hid (byteCells (textOf (zs.take (k + 1))) = byteCells (textOf (zs.take k)) ++ runeCells z) := Lib.hid (by
        rw [textCells, textCells, List.take_add_one, hz]
        simp)
      have hkI : (k : Int) < zs.length := by omega
      clear hz hzr
      go_wp2_with (first
        | (go_at_call 84; refine (HO.out _).mono ?_; rintro e w1 ⟨rfl, rfl⟩; have HW := Lib.hid (World.ownsRow.alloc HD.out.1 (.cells (runeCells z).toArray 5)))
        | (at_builtin; refine wpList_append_own _ rfl _ _ 55 rfl w.heap.size 5 i0 _ 1 1 underBytes hi hz0 hz1 hz2 rfl (by decide) _ m (byteCells (textOf (zs.take k))) rfl HW.out ⟨wr.heap.size, 0, none⟩ (runeCells z).length (runeCells z).length (runeCells z) rfl ?c1 ?c2 ?c3 ?c4 ?c5 ?c6 ?_))
      case c1 => omega
      case c2 => intro j u hu; simpa [go_sem] using hu
      case c3 =>
        intro u hu
        obtain ⟨x, _, rfl⟩ := List.mem_map.1 hu
        rfl
      case c4 => unfold maxLen; omega
      case c5 => omega
      case c6 => have := HD.out.2.size; simp; omega
      intro v' W hown' hgrow _
      obtain ⟨a1, cap2, hvs1⟩ := slice_of hown'
      subst hvs1
      have hsz := HD.out.2.size
      have hbW : Below w.heap.size w W := (HD.out.2.alloc hsz _).grown hgrow (by simp; omega) (fun k hk => by have := (World.ownsRow.lt HD.out.1 k hk).1; omega)
      rw [← HT.out] at hown'
      have HX := Lib.hid (And.intro hown' hbW)
      clear hown' hbW hgrow HW
      go_wp2
      exact ⟨⟨k + 1, m + (runeCells z).length, cap2, a1, rfl, by go_num, by omega, by omega, HX⟩, by simp [RowKit.intOf]; omega⟩
    · obtain rfl : k = zs.length := by omega
      have hown := HD.out.1
      rw [List.take_length] at hown
      have hlen : (textOf zs).length = m := by have := hown.1; rw [byteCells_length] at this; omega
      have hcv : (convert 55 9 (.slice b m cap1)).run Tryz.prog wr = .ok (.string ⟨(textOf zs).toArray⟩) wr := by
        rcases hown.2 with ⟨e, e2⟩ | ⟨g, cap3, cur, e, _⟩
        · cases e
          have : textOf zs = [] := List.length_eq_zero_iff.1 (by omega)
          rw [this]
          exact run_convert_bytes_nil (P := Tryz.prog) _ 55 5 underBytes underByte _ _ _ underString
        · cases e
          have := run_convert_bytes_back (P := Tryz.prog) wr 55 9 5 ⟨g, 0, none⟩ cap1 (textOf zs) underBytes underByte underString (fun j hj => hown.cells rfl j _ (by simp [byteCells, hj]))
          rwa [hlen] at this
      have HB := Lib.hid HD.out.2
      clear hown hlen
      go_wp2
      go_ret
      exact ⟨rfl, HB.out⟩
end Go.Proofs.YtmhdocgoeahbdaaGreatDoor.U

