/-
  Parse of package tree, by contract; what is read of a tree in memory; Parse at a known answer. Conditions: the library's variable MaxLen holds a number, its two tables what its text lays.
-/
import Derived.Test.YtkfmfldkllkcbaaGreatDoorPKR
import Derived.Test.YtkfmfldkllkcbaaGreatDoorPKU
import Derived.Laws.IdiomStrings
import Derived.Lib.SlBytesConst
namespace Go.Proofs.YtkfmfldkllkcbaaGreatDoor
open Go.RowKit Go.RunKit Go.CharrefKit Go.Lib Go.TokenKit Go.TreeKit

/-- A slice reads as the text s. -/
structure BytesAt (w : World) (a : Option Addr) (n : Nat) (s : ByteArray) : Prop where
  size : s.size = n
  at' : ∀ j, j < n → ∃ ad, a = some ad ∧ w.cell? (ad.add j) = some (.int .u8 (UtfKit.byteAt s j : Nat))
theorem BytesAt.on {w w' : World} {a : Option Addr} {n : Nat} {s : ByteArray} (h : BytesAt w a n s) (hb : Below w.heap.size w w') : BytesAt w' a n s := ⟨h.size, fun j hj => by
  obtain ⟨ad, e, hc⟩ := h.at' j hj
  exact ⟨ad, e, by rw [hb.cell (World.block_lt_of_cell? _ _ hc)]; exact hc⟩⟩
theorem byteAt_elem (s : ByteArray) (j : Nat) (h : j < s.data.toList.length) : (s.data.toList[j]).toNat = UtfKit.byteAt s j := (UtfKit.byteAt_list s.data.toList j h).symm
theorem BytesAt.conv {w : World} {a : Option Addr} {n : Nat} {s : ByteArray} (cap : Nat) (h : BytesAt w a n s) : (convert 42 9 (.slice a n cap)).run Tryz.prog w = .ok (.string s) w := by
  cases a with
  | none =>
    have h0 : n = 0 := by
      by_cases hn : n = 0
      · exact hn
      · obtain ⟨ad, e, _⟩ := h.at' 0 (by omega)
        cases e
    have hs : s = ByteArray.empty := by
      apply ByteArray.ext
      have : s.data.size = 0 := by have := h.size; have e : s.data.size = s.size := rfl; omega
      exact Array.eq_empty_of_size_eq_zero this
    rw [hs]
    exact run_convert_bytes_nil (P := Tryz.prog) _ 42 5 underBytes underByte _ _ _ underString
  | some ad =>
    have := run_convert_bytes_back (P := Tryz.prog) w 42 9 5 ad cap s.data.toList underBytes underByte underString (fun j hj => by
      obtain ⟨ad2, e, hc⟩ := h.at' j (by have := h.size; simpa [← this] using hj)
      cases e
      rw [hc, byteAt_elem s j hj])
    have e : s.data.toList.length = n := by have := h.size; simpa using this
    rw [e] at this
    exact this
theorem BytesAt.conv_over {w : World} {a : Option Addr} {n : Nat} {s : ByteArray} (cap : Nat) (h : BytesAt w a n s) : ∀ p : Over w, (convert 42 9 (.slice a n cap)).run Tryz.prog p.out = .ok (.string s) p.out := fun p => (h.on p.below).conv cap
/-- The bytes of a text, made anew. -/
theorem made_bytes (w : World) (s : ByteArray) (n : Nat) (hn : s.size = n) : ∃ gc w1, (convert 9 42 (.string s)).run Tryz.prog w = .ok (.slice (some ⟨w.heap.size, 0, none⟩) n gc) w1 ∧ Below w.heap.size w w1 ∧ BytesAt w1 (some ⟨w.heap.size, 0, none⟩) n s := by
  subst hn
  refine ⟨_, _, run_bytes_of_string (P := Tryz.prog) w 9 42 5 s underString underBytes underByte, (below_drewN (Below.refl _ _) 1).alloc (Nat.le_refl _) _, rfl, fun j hj => ⟨_, rfl, ?_⟩⟩
  have hl : j < s.data.toList.length := by simpa using hj
  have hd : j < s.data.size := by simpa using hl
  have := byteAt_elem s j hl
  rw [add_at, cell_of_row (w.drew.alloc _) w.heap.size j _ _ _ (heap_alloc_new w.drew _)]
  rw [← this]
  unfold bytesRow
  rw [Array.getElem?_append_left (by simpa using hd)]
  rw [Array.getElem?_map, Array.getElem?_eq_getElem hd]
  rfl

/-- What Decode tells of bytes. -/
def decL (s : ByteArray) : Except Nat Bytes := if s.size ≤ 65536 then .ok (U.told (UtfKit.parts s)) else .error 3
set_option maxRecDepth 100000 in
set_option maxHeartbeats 1000000 in
theorem decode_over (a : Option Addr) (n cap : Nat) (w : World) (hn : 65536 < n) : Calls Tryz.prog 48 #[.slice a n cap] w fun e w' => e = .returned (.tuple #[.string ⟨#[]⟩, .int .i64 3]) ∧ w = w' := by
  have hI : (65536 : Int) < n := by omega
  go_enter Tryz.func48, Tryz.ntmps48
  go_wp2
  go_ret2
  exact ⟨rfl, rfl⟩
theorem decode_toldU {w : World} {a : Option Addr} {n : Nat} (cap : Nat) {s : ByteArray} (h : BytesAt w a n s) (ht : U.Tabs w) : Calls Tryz.prog 48 #[.slice a n cap] w (ToldU (decL s) w) := by
  have hs := h.size
  unfold decL
  by_cases hn : n ≤ 65536
  · rw [if_pos (by omega)]
    exact (U.decode_any a n cap s w ht hn h.size (h.conv_over cap)).mono fun _ _ h => h
  · rw [if_neg (by omega)]
    exact (decode_over a n cap w (by omega)).mono fun _ _ h => ⟨⟨_, h.1⟩, by decide, h.2 ▸ Below.refl _ _⟩

/-- What is read of a tree. -/
structure NdReads (w : World) (ao : Option Addr) (L : List NdV) : Prop where
  at_ : ∀ k x, L[k]? = some x → ∃ g, ao = some ⟨g, 0, none⟩ ∧ w.cell? ⟨g, k * 6, none⟩ = some (.int .u8 ((x.1.kind : Nat) : Int)) ∧ w.cell? ⟨g, k * 6 + 1, none⟩ = some (.string ⟨x.1.name.toArray⟩) ∧
    w.cell? ⟨g, k * 6 + 2, none⟩ = some x.2.1 ∧ w.cell? ⟨g, k * 6 + 3, none⟩ = some (.string ⟨x.1.data.toArray⟩) ∧ w.cell? ⟨g, k * 6 + 4, none⟩ = some (.int .i64 x.1.up) ∧ w.cell? ⟨g, k * 6 + 5, none⟩ = some x.2.2
theorem NdRow.reads {w : World} {base : Nat} {v : Value} {L : List NdV} (h : NdRow w base v L) : ∃ ao cap, v = .slice ao L.length cap ∧ NdReads w ao L := by
  rcases h.row.2 with ⟨rfl, hn⟩ | ⟨g, cap, cur, rfl, _⟩
  · refine ⟨none, 0, by rw [hn], ⟨fun k a ha => ?_⟩⟩
    have := (List.getElem?_eq_some_iff.1 ha).1
    omega
  · refine ⟨_, cap, rfl, ⟨fun k a ha => ⟨g, rfl, ?_⟩⟩⟩
    have hk := (List.getElem?_eq_some_iff.1 ha).1
    have e := fun c (hc : c < 6) => ndCells_at (c := c) ha hc
    refine ⟨?_, ?_, ?_, ?_, ?_, ?_⟩
    · rw [World.ownsRow.cellAt h.row (k * 6) (by omega)]; exact e 0 (by omega)
    · rw [World.ownsRow.cellAt h.row (k * 6 + 1) (by omega)]; exact e 1 (by omega)
    · rw [World.ownsRow.cellAt h.row (k * 6 + 2) (by omega)]; exact e 2 (by omega)
    · rw [World.ownsRow.cellAt h.row (k * 6 + 3) (by omega)]; exact e 3 (by omega)
    · rw [World.ownsRow.cellAt h.row (k * 6 + 4) (by omega)]; exact e 4 (by omega)
    · rw [World.ownsRow.cellAt h.row (k * 6 + 5) (by omega)]; exact e 5 (by omega)
theorem NdReads.on {w w' : World} {ao : Option Addr} {L : List NdV} (h : NdReads w ao L) (hb : Below w.heap.size w w') : NdReads w' ao L := ⟨fun k a ha => by
  obtain ⟨g, e, h1, h2, h3, h4, h5, h6⟩ := h.at_ k a ha
  exact ⟨g, e, by rw [hb.cell (World.block_lt_of_cell? _ _ h1)]; exact h1, by rw [hb.cell (World.block_lt_of_cell? _ _ h2)]; exact h2, by rw [hb.cell (World.block_lt_of_cell? _ _ h3)]; exact h3,
    by rw [hb.cell (World.block_lt_of_cell? _ _ h4)]; exact h4, by rw [hb.cell (World.block_lt_of_cell? _ _ h5)]; exact h5, by rw [hb.cell (World.block_lt_of_cell? _ _ h6)]; exact h6⟩⟩
/-- What is read of a node's children. -/
structure KidsAt (w : World) (v : Value) (l : List Nat) : Prop where
  at_ : ∃ ao cap, v = .slice ao l.length cap ∧ ∀ (j : Nat) (z : Nat), l[j]? = some z → ∃ g, ao = some ⟨g, 0, none⟩ ∧ w.cell? ⟨g, j, none⟩ = some (.int .i64 ((z : Nat) : Int))
theorem NdRow.kidsAt {w : World} {base : Nat} {v : Value} {L : List NdV} (h : NdRow w base v L) {k : Nat} {x : NdV} (hx : L[k]? = some x) : KidsAt w x.2.2 x.1.kids := by
  have ho := h.kids x (List.mem_of_getElem? hx)
  rcases ho.2 with ⟨e, hn⟩ | ⟨g, cap, cur, e, _⟩
  · exact ⟨none, 0, by rw [e, hn], fun j z hz => by
      have := (List.getElem?_eq_some_iff.1 hz).1
      omega⟩
  · refine ⟨_, cap, e, fun j z hz => ⟨g, rfl, ?_⟩⟩
    have hj := (List.getElem?_eq_some_iff.1 hz).1
    rw [e] at ho
    rw [World.ownsRow.cellAt ho j (by omega)]
    unfold intCells
    rw [List.getElem?_map, hz]
    rfl
theorem KidsAt.on {w w' : World} {v : Value} {l : List Nat} (h : KidsAt w v l) (hb : Below w.heap.size w w') : KidsAt w' v l := by
  obtain ⟨ao, cap, e, h⟩ := h.at_
  exact ⟨ao, cap, e, fun j z hz => by
    obtain ⟨g, eg, hc⟩ := h j z hz
    exact ⟨g, eg, by rw [hb.cell (World.block_lt_of_cell? _ _ hc)]; exact hc⟩⟩

/-- P5.3: Parse. -/
theorem parse_any {w : World} {a : Option Addr} {n : Nat} (cap : Nat) {s : ByteArray} (h : BytesAt w a n s) (ht : U.Tabs w) (hM : Maxed w w.heap.size) :
    Calls Tryz.prog 20 #[.slice a n cap] w fun e w' => ∃ ao cap' L er pl, e = .returned (.tuple #[.slice ao L.length cap', .int .i64 ((er : Nat) : Int), .int .i64 ((pl : Nat) : Int)]) ∧ Below w.heap.size w w' ∧ NdRow w' w.heap.size (.slice ao L.length cap') L ∧ NdReads w' ao L ∧ (L.map (·.1), er, pl) = parseL (decL s) := by
  refine (parse_of (decL s) a cap n w hM (decode_toldU cap h ht)).mono ?_
  rintro e w' ⟨v, L, er, pl, rfl, hb, hr, he⟩
  obtain ⟨ao, cap', rfl, hrd⟩ := hr.reads
  exact ⟨ao, cap', L, er, pl, rfl, hb, hr, hrd, he⟩
/-- Parse at a known answer. -/
theorem parse_at {s : ByteArray} {T : List Nd} {er pl m : Nat} (hp : parseL (decL s) = (T, er, pl)) (hm : T.length = m) {w : World} {a : Option Addr} {n : Nat} (cap : Nat) (h : BytesAt w a n s) (ht : U.Tabs w) (hM : Maxed w w.heap.size) :
    Calls Tryz.prog 20 #[.slice a n cap] w fun e w' => ∃ ao cap' L, e = .returned (.tuple #[.slice ao m cap', .int .i64 ((er : Nat) : Int), .int .i64 ((pl : Nat) : Int)]) ∧ Below w.heap.size w w' ∧ NdRow w' w.heap.size (.slice ao m cap') L ∧ NdReads w' ao L ∧ L.map (·.1) = T := by
  refine (parse_any cap h ht hM).mono ?_
  rintro e w' ⟨ao, cap', L, er', pl', rfl, hb, hr, hrd, he⟩
  rw [hp] at he
  simp only [Prod.mk.injEq] at he
  obtain ⟨h1, h2, h3⟩ := he
  subst h2; subst h3
  have hl : L.length = m := by rw [← hm, ← h1, List.length_map]
  rw [hl] at hr ⊢
  exact ⟨ao, cap', L, rfl, hb, hr, hrd, h1⟩
theorem map_at {L : List NdV} {T : List Nd} (h : L.map (·.1) = T) {k : Nat} {n : Nd} (hk : T[k]? = some n) : ∃ u v, L[k]? = some (n, u, v) := by
  rw [← h, List.getElem?_map, Option.map_eq_some_iff] at hk
  obtain ⟨⟨n', u, v⟩, hx, rfl⟩ := hk
  exact ⟨u, v, hx⟩
end Go.Proofs.YtkfmfldkllkcbaaGreatDoor
