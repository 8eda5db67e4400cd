/-
  The law on Decode, walked: it hands back true. Conditions: the library's two tables hold what its text lays.
-/
import Derived.Test.YtcafejjejcchlaaDoorURefD2
import Derived.Test.YtcafejjejcchlaaDoorULawR
import Derived.Test.YtcafejjejcchlaaDoorUMath3
namespace Go.Proofs.YtcafejjejcchlaaDoor
open Go.RowKit Go.RunKit Go.UtfKit Go.Lib Go.Shelf

/-- A slice reads as the text s. -/
structure BytesAt (w : World) (a : Option Addr) (n cap : Nat) (s : ByteArray) : Prop where
  size : s.size = n
  at' : ∀ j, j < n → ∃ ad, a = some ad ∧ w.cell? (ad.add j) = some (.int .u8 (byteAt s j : Nat))
theorem BytesAt.on {w w' : World} {a : Option Addr} {n cap : Nat} {s : ByteArray} (h : BytesAt w a n cap s) (hb : Below w.heap.size w w') : BytesAt w' a n cap s := ⟨h.size, fun j hj => by
  obtain ⟨ad, e, hc⟩ := h.at' j hj
  exact ⟨ad, e, by rw [hb.cell (World.block_lt_of_cell? _ _ hc)]; exact hc⟩⟩
theorem byteAt_elem (s : ByteArray) (j : Nat) (h : j < s.data.toList.length) : (s.data.toList[j]).toNat = byteAt s j := (byteAt_list s.data.toList j h).symm
theorem BytesAt.conv {w : World} {a : Option Addr} {n cap : Nat} {s : ByteArray} (h : BytesAt w a n cap s) : (convert 22 9 (.slice a n cap)).run Tryd.prog w = .ok (.string s) w := by
  cases a with
  | none =>
    have h0 : n = 0 := by
      by_cases hn : n = 0
      · exact hn
      · obtain ⟨ad, e, _⟩ := h.at' 0 (by omega)
        cases e
    have hs : s = ByteArray.empty := by
      apply ByteArray.ext
      have : s.data.size = 0 := by have := h.size; have e : s.data.size = s.size := rfl; omega
      exact Array.eq_empty_of_size_eq_zero this
    rw [hs]
    exact run_convert_bytes_nil (P := Tryd.prog) _ 22 5 underBytes underByte _ _ _ underString
  | some ad =>
    have := run_convert_bytes_back (P := Tryd.prog) w 22 9 5 ad cap s.data.toList underBytes underByte underString (fun j hj => by
      obtain ⟨ad2, e, hc⟩ := h.at' j (by have := h.size; simpa [← this] using hj)
      cases e
      rw [hc, byteAt_elem s j hj])
    have e : s.data.toList.length = n := by have := h.size; simpa using this
    rw [e] at this
    exact this
theorem BytesAt.conv_over {w : World} {a : Option Addr} {n cap : Nat} {s : ByteArray} (h : BytesAt w a n cap s) : ∀ p : Over w, (convert 22 9 (.slice a n cap)).run Tryd.prog p.out = .ok (.string s) p.out := fun p => (h.on p.below).conv
theorem bytes_made (w : World) (s : ByteArray) : BytesAt (w.drew.alloc (.cells (bytesRow s (grownCap w s.size 0 5)) 5 ((bytesRow s (grownCap w s.size 0 5)).size, (bytesRow s (grownCap w s.size 0 5)).size + 1))) (some ⟨w.heap.size, 0, none⟩) s.size (grownCap w s.size 0 5) s := by
  refine ⟨rfl, fun j hj => ⟨_, rfl, ?_⟩⟩
  have hl : j < s.data.toList.length := by simpa using hj
  have hd : j < s.data.size := by simpa using hl
  have := byteAt_elem s j hl
  rw [add_at, cell_of_row (w.drew.alloc _) w.heap.size j _ _ _ (heap_alloc_new w.drew _)]
  rw [← this]
  unfold bytesRow
  rw [Array.getElem?_append_left (by simpa using hd)]
  rw [Array.getElem?_map, Array.getElem?_eq_getElem hd]
  rfl

def decText (s : ByteArray) : ByteArray := if s.size ≤ 65536 then ⟨(told (parts s)).toArray⟩ else ⟨#[]⟩
def decErr (s : ByteArray) : Int := if s.size ≤ 65536 then 0 else 3

set_option maxRecDepth 100000 in
set_option maxHeartbeats 1000000 in
theorem decode_over (a : Option Addr) (n cap : Nat) (w : World) (hn : 65536 < n) : Calls Tryd.prog 8 #[.slice a n cap] w fun e w' => e = .returned (.tuple #[.string ⟨#[]⟩, .int .i64 3]) ∧ w = w' := by
  have hI : (65536 : Int) < n := by omega
  go_enter Tryd.func8, Tryd.ntmps8
  go_wp2
  go_ret2
  exact ⟨rfl, rfl⟩
set_option maxRecDepth 100000 in
set_option maxHeartbeats 1000000 in
theorem refDecode_over (a : Option Addr) (n cap : Nat) (w : World) (hn : 65536 < n) : Calls Tryd.prog 9 #[.slice a n cap] w fun e w' => e = .returned (.tuple #[.string ⟨#[]⟩, .int .i64 3]) ∧ w = w' := by
  have hI : (65536 : Int) < n := by omega
  go_enter Tryd.func9, Tryd.ntmps9
  go_wp2
  go_ret2
  exact ⟨rfl, rfl⟩

theorem decode_told {w : World} {a : Option Addr} {n cap : Nat} {s : ByteArray} (h : BytesAt w a n cap s) (ht : Tabs w) :
    Calls Tryd.prog 8 #[.slice a n cap] w fun e w' => e = .returned (.tuple #[.string (decText s), .int .i64 (decErr s)]) ∧ Below w.heap.size w w' := by
  have hs := h.size
  by_cases hn : n ≤ 65536
  · have := decode_any a n cap s w ht hn h.size h.conv_over
    unfold decText decErr
    rwa [if_pos (by omega), if_pos (by omega)]
  · unfold decText decErr
    rw [if_neg (by omega), if_neg (by omega)]
    exact (decode_over a n cap w (by omega)).mono fun _ _ h => ⟨h.1, h.2 ▸ Below.refl _ _⟩
theorem refDecode_told {w : World} {a : Option Addr} {n cap : Nat} {s : ByteArray} (h : BytesAt w a n cap s) :
    Calls Tryd.prog 9 #[.slice a n cap] w fun e w' => e = .returned (.tuple #[.string (decText s), .int .i64 (decErr s)]) ∧ Below w.heap.size w w' := by
  have hs := h.size
  by_cases hn : n ≤ 65536
  · obtain rfl := hs
    have := refDecode_any a cap s w hn h.conv
    unfold decText decErr
    rwa [if_pos hn, if_pos hn]
  · unfold decText decErr
    rw [if_neg (by omega), if_neg (by omega)]
    exact (refDecode_over a n cap w (by omega)).mono fun _ _ h => ⟨h.1, h.2 ▸ Below.refl _ _⟩

set_option maxRecDepth 100000 in
set_option maxHeartbeats 2000000 in
theorem lawDecodes (a : Option Addr) (n cap : Nat) (s : ByteArray) (w : World) (ht : Tabs w) (hs : BytesAt w a n cap s) :
    Calls Tryd.prog 3 #[.slice a n cap] w fun e w' => e = .returned (.bool true) ∧ Below w.heap.size w w' := by
  have HW : Hid (∀ w1, Below w.heap.size w w1 → Calls Tryd.prog 7 #[] w1 fun e w' => e = .returned (.bool true) ∧ Below w.heap.size w w') := Lib.hid (fun w1 hb => from_base hb (works_any w1 (ht.on hb)))
  by_cases hbig : 70000 < n
  · have hI : (70000 : Int) < n := by omega
    clear ht hs
    go_enter Tryd.func3, Tryd.ntmps3
    go_wp2_with (go_at_call 7; refine (HW.out _ (Below.refl _ _)).mono ?_; rintro e w' ⟨rfl, hb⟩)
    go_ret
    exact ⟨rfl, hb⟩
  · have hI := eq_false (show ¬ (70000 : Int) < n by omega)
    have hcv := hs.conv
    have hcv2 := run_bytes_of_string (P := Tryd.prog) w 9 22 5 s underString underBytes underByte
    have hmade := bytes_made w s
    have hb1 : Below w.heap.size w (w.drew.alloc (.cells (bytesRow s (grownCap w s.size 0 5)) 5 ((bytesRow s (grownCap w s.size 0 5)).size, (bytesRow s (grownCap w s.size 0 5)).size + 1))) := (below_drewN (Below.refl _ _) 1).alloc (Nat.le_refl _) _
    generalize hcg : grownCap w s.size 0 5 = gc at *
    generalize hwg : w.drew.alloc _ = w1 at *
    clear hwg hcg
    have HD := Lib.hid (decode_told hmade (ht.on hb1))
    have HF : Hid (∀ w2, Below w.heap.size w w2 → Calls Tryd.prog 9 #[.slice a n cap] w2 fun e w' => e = .returned (.tuple #[.string (decText s), .int .i64 (decErr s)]) ∧ Below w2.heap.size w2 w') := Lib.hid (fun w2 hb => refDecode_told (hs.on hb))
    have HV : Hid (∀ p : Over w, (convert 22 9 (.slice a n cap)).run Tryd.prog p.out = .ok (.string s) p.out) := Lib.hid hs.conv_over
    have HV1 : Hid (∀ p : Over w1, (convert 22 9 (.slice (some ⟨w.heap.size, 0, none⟩) s.size gc)).run Tryd.prog p.out = .ok (.string s) p.out) := Lib.hid hmade.conv_over
    have HB1 := Lib.hid hb1
    clear hmade hb1 hs ht
    generalize s.size = m at *
    generalize decText s = t at *
    generalize decErr s = k at *
    go_enter Tryd.func3, Tryd.ntmps3
    go_wp2_with (first
      | (go_at_call 8; refine HD.out.mono ?_; rintro e w2 ⟨rfl, hb2⟩; have HB2 := Lib.hid hb2; clear hb2)
      | (go_at_call 9; refine (HF.out _ (HB1.out.trans (HB2.out.mono HB1.out.size))).mono ?_; rintro e w3 ⟨rfl, hb3⟩; have HB4 := Lib.hid (HB2.out.trans (hb3.mono HB2.out.size)); clear hb3; have HB5 := Lib.hid (HB1.out.trans (HB4.out.mono HB1.out.size)); have hv1 := HV1.out ⟨w3, HB4.out⟩; have hv := HV.out ⟨w3, HB5.out⟩)
      | (go_at_call 7; refine (HW.out _ HB5.out).mono ?_; rintro e w4 ⟨rfl, hb4⟩))
    go_ret
    exact ⟨rfl, hb4⟩
end Go.Proofs.YtcafejjejcchlaaDoor
