/-
  Decode of utf: what it tells of bytes. Conditions: the library's two tables hold what its text lays.
-/
import Derived.Test.YtcafejjejcchlaaDoorUDec
import Derived.Test.YtcafejjejcchlaaDoorBelow
import Derived.Lib.QuoteLoop
namespace Go.Proofs.YtcafejjejcchlaaDoor
open Go.RowKit Go.RunKit Go.UtfKit Go.Lib Go.Shelf

theorem parts_mem (s : ByteArray) : ∀ (f i : Nat) (p : Part), p ∈ partsF s f i → ∃ j, j < s.size ∧ p = cutAt s j
  | 0, _, _, h => by simp [partsF] at h
  | f + 1, i, p, h => by
    unfold partsF at h
    split at h
    · rcases List.mem_cons.1 h with rfl | h
      · exact ⟨i, by assumption, rfl⟩
      · exact parts_mem s f _ p h
    · simp at h
theorem parts_chars (s : ByteArray) : ∀ p ∈ parts s, p.char ≤ 1114111 := by
  intro p hp
  obtain ⟨j, hj, rfl⟩ := parts_mem s _ _ p hp
  have hv := decodeN_valid (s.size - j) (byteAt s j) (byteAt s (j + 1)) (byteAt s (j + 2)) (byteAt s (j + 3)) (byteAt_lt _ _)
  rw [decode_cut _ _ _ _ _ (byteAt_lt _ _) (byteAt_lt _ _) (byteAt_lt _ _) (byteAt_lt _ _)] at hv
  cases ho : (cutAt s j).ok with
  | false =>
    have := cut_char_bad _ _ _ _ _ ho
    change (cutAt s j).char = 65533 at this
    omega
  | true =>
    change (if (cutAt s j).ok = true then ((cutAt s j).char, (cutAt s j).len) else (65533, 1)).1 < 55296 ∨ (57343 < (if (cutAt s j).ok = true then ((cutAt s j).char, (cutAt s j).len) else (65533, 1)).1 ∧ (if (cutAt s j).ok = true then ((cutAt s j).char, (cutAt s j).len) else (65533, 1)).1 ≤ 1114111) at hv
    rw [ho] at hv
    simp only [if_true] at hv
    omega

/-- The bytes told. -/
def takeByte (a : Bool × List UInt8) (p : Part) : Bool × List UInt8 :=
  (decide (p.char = 13), if a.1 = true ∧ p.char = 10 then a.2 else if p.char = 13 then a.2 ++ encodeRune 10 else a.2 ++ encodeRune (p.char : Nat))
def told (d : List Part) : List UInt8 := (d.foldl takeByte (false, [])).2
theorem taken_bytes : ∀ (d : List Part) (m : Bool) (l : List UInt8), d.foldl takePart (m, byteCells l) = ((d.foldl takeByte (m, l)).1, byteCells (d.foldl takeByte (m, l)).2)
  | [], _, _ => rfl
  | p :: r, m, l => by
    simp only [List.foldl_cons]
    have e : takePart (m, byteCells l) p = ((takeByte (m, l) p).1, byteCells (takeByte (m, l) p).2) := by
      unfold takePart takeByte
      simp only
      repeat' split
      all_goals (try rfl)
      all_goals simp [byteCells]
      all_goals exact (byteCells_encodeRune _).symm
    rw [e]
    exact taken_bytes r _ _
theorem taken_told (d : List Part) : (taken d).2 = byteCells (told d) := by
  have := taken_bytes d false []
  unfold taken told
  rw [show (false, ([] : List Value)) = (false, byteCells []) from rfl, this]

set_option maxRecDepth 100000 in
set_option maxHeartbeats 1000000 in
/-- Decode: the bytes of a slice, whatever it is, that reads as the text s. -/
theorem decode_any (a : Option Addr) (n cap : Nat) (s : ByteArray) (w : World) (ht : Tabs w) (hn : n ≤ 65536) (hs : s.size = n) (hconv : ∀ p : Over w, (convert 22 9 (.slice a n cap)).run Tryd.prog p.out = .ok (.string s) p.out) :
    Calls Tryd.prog 8 #[.slice a n cap] w fun e w' => e = .returned (.tuple #[.string ⟨(told (parts s)).toArray⟩, .int .i64 0]) ∧ Below w.heap.size w w' := by
  have b1 : Below w.heap.size w (w.alloc (.cells #[.pointer none, .slice none 0 0] TB)) := (Below.refl _ _).alloc (Nat.le_refl _) _
  have b2 : Below w.heap.size w ((w.alloc (.cells #[.pointer none, .slice none 0 0] TB)).alloc (.cells #[.bool false] 4)) := b1.alloc (by simp) _
  have hcv : (convert 22 9 (.slice a n cap)).run Tryd.prog ((w.alloc (.cells #[.pointer none, .slice none 0 0] TB)).alloc (.cells #[.bool false] 4)) = .ok (.string s) ((w.alloc (.cells #[.pointer none, .slice none 0 0] TB)).alloc (.cells #[.bool false] 4)) := hconv ⟨_, b2⟩
  have h0 : DecInv w [] ((w.alloc (.cells #[.pointer none, .slice none 0 0] TB)).alloc (.cells #[.bool false] 4)) := ⟨b2, by
      have := heap_alloc_new (w.alloc (.cells #[.pointer none, .slice none 0 0] TB)) (.cells #[.bool false] 4)
      simpa [taken] using this, .inl ⟨Nat.le_refl _, .slice none 0 0, by
      rw [Below.heap_alloc _ _ _ (by simp)]; exact heap_alloc_new w _, World.ownsRowF_nil _ _ _ _, by simp [Value.ownBlock]⟩⟩
  have hc := each_any 16 #[.pointer (some ⟨w.heap.size + 1, 0, none⟩), .pointer (some ⟨w.heap.size, 0, none⟩)] s (DecInv w) _ (dec_takes s w ht _ (by simp) (by omega) (parts_chars s)) h0 (by omega)
  have HC := Lib.hid hc
  have hnI : ((n : Nat) : Int) ≤ 65536 := by omega
  have hnF := eq_false (show ¬ (65536 : Int) < (n : Int) by omega)
  clear hc h0 b1 b2 hconv
  go_enter Tryd.func8, Tryd.ntmps8
  go_wp2_with (first
    | (go_at_call 15; refine HC.out.mono ?_; rintro e w1 ⟨rfl, hI⟩; have hbu := hI.built; rw [taken_told] at hbu; have HX := Lib.hid (And.intro hI hbu); clear hI hbu)
    | (go_at_call 18; refine (Tryd.Builder_String_any_f _ _ (told (parts s)) _ HX.out.2 HX.out.1.below.size).mono ?_; rintro e w2 ⟨rfl, _, hb2⟩))
  go_ret2
  exact ⟨rfl, HX.out.1.below.trans hb2⟩
end Go.Proofs.YtcafejjejcchlaaDoor
