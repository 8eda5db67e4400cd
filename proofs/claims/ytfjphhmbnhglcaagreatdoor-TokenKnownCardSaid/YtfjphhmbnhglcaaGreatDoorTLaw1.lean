/-
  Tokens at a known answer; the chapter's second example; has. Conditions: the library's variable MaxLen holds a number.
-/
import Derived.Test.YtfjphhmbnhglcaaGreatDoorTToks
namespace Go.TokenKit
open Go Go.Lib Go.CharrefKit
def ex1 : Bytes := [60, 98, 114, 47, 62, 60, 33, 45, 45, 32, 120, 32, 45, 45, 62, 97]
def ex2 : Bytes := [60, 98, 114, 47, 62, 60, 33, 45, 45, 32, 120, 32, 45, 45, 62, 97, 60, 98]
def ex1T : List Tok := [⟨1, [98, 114], [], true, []⟩, ⟨4, [], [], false, [32, 120, 32]⟩, ⟨3, [], [], false, [97]⟩]
theorem ex1_told : answerL ex1 = (ex1T, 0, 0) := by kernel_rfl
theorem ex2_told : answerL ex2 = ([], 40, 16) := by kernel_rfl
/-- Has a text one of some bytes? -/
def hasL (s m : Bytes) : Bool := s.any fun b => m.any fun c => b == c
end Go.TokenKit
namespace Go.Proofs.YtfjphhmbnhglcaaGreatDoor
open Go.RowKit Go.RunKit Go.CharrefKit Go.Lib Go.TokenKit

/-- What is read of tokens. -/
structure TkReads (w : World) (ao : Option Addr) (L : List (Tok × Value)) : Prop where
  at_ : ∀ k x, L[k]? = some x → ∃ g, ao = some ⟨g, 0, none⟩ ∧ w.cell? ⟨g, k * 5, none⟩ = some (.int .u8 ((x.1.kind : Nat) : Int)) ∧ w.cell? ⟨g, k * 5 + 1, none⟩ = some (.string ⟨x.1.name.toArray⟩) ∧
    w.cell? ⟨g, k * 5 + 2, none⟩ = some x.2 ∧ w.cell? ⟨g, k * 5 + 3, none⟩ = some (.bool x.1.self) ∧ w.cell? ⟨g, k * 5 + 4, none⟩ = some (.string ⟨x.1.data.toArray⟩)
theorem TkRow.reads {T : TypeId} {w : World} {base : Nat} {v : Value} {L : List (Tok × Value)} (h : TkRow T w base v L) : ∃ ao cap, v = .slice ao L.length cap ∧ TkReads w ao L := by
  rcases h.row.2 with ⟨rfl, hn⟩ | ⟨g, cap, cur, rfl, _⟩
  · refine ⟨none, 0, by rw [hn], ⟨fun k a ha => ?_⟩⟩
    have := (List.getElem?_eq_some_iff.1 ha).1
    omega
  · refine ⟨_, cap, rfl, ⟨fun k a ha => ⟨g, rfl, ?_⟩⟩⟩
    have hk := (List.getElem?_eq_some_iff.1 ha).1
    obtain ⟨h1, h2, h3, h4, h5⟩ := tkCells_at ha
    exact ⟨by rw [World.ownsRow.cellAt h.row (k * 5) (by omega)]; exact h1, by rw [World.ownsRow.cellAt h.row (k * 5 + 1) (by omega)]; exact h2, by rw [World.ownsRow.cellAt h.row (k * 5 + 2) (by omega)]; exact h3,
      by rw [World.ownsRow.cellAt h.row (k * 5 + 3) (by omega)]; exact h4, by rw [World.ownsRow.cellAt h.row (k * 5 + 4) (by omega)]; exact h5⟩
theorem TkReads.on {w w' : World} {ao : Option Addr} {L : List (Tok × Value)} (h : TkReads w ao L) (hb : Below w.heap.size w w') : TkReads w' ao L := ⟨fun k a ha => by
  obtain ⟨g, e, h1, h2, h3, h4, h5⟩ := h.at_ k a ha
  exact ⟨g, e, by rw [hb.cell (World.block_lt_of_cell? _ _ h1)]; exact h1, by rw [hb.cell (World.block_lt_of_cell? _ _ h2)]; exact h2, by rw [hb.cell (World.block_lt_of_cell? _ _ h3)]; exact h3,
    by rw [hb.cell (World.block_lt_of_cell? _ _ h4)]; exact h4, by rw [hb.cell (World.block_lt_of_cell? _ _ h5)]; exact h5⟩⟩
/-- Tokens at a known answer. -/
theorem tokens_at {s : ByteArray} {ts : List Tok} {er pl n : Nat} (h : answerL (bl s) = (ts, er, pl)) (hn : ts.length = n) (w : World) (hM : Maxed w w.heap.size) :
    Calls Tryz.prog 14 #[.string s] w fun e w' => ∃ ao cap L, e = .returned (.tuple #[.slice ao n cap, .int .i64 ((er : Nat) : Int), .int .i64 ((pl : Nat) : Int)]) ∧ Below w.heap.size w w' ∧ TkRow TTk w' w.heap.size (.slice ao n cap) L ∧ TkReads w' ao L ∧ L.map (·.1) = ts := by
  refine (tokens_any s w hM).mono ?_
  rintro e w' ⟨v, L, er', pl', rfl, hb, hr, ha⟩
  rw [h] at ha
  simp only [Prod.mk.injEq] at ha
  obtain ⟨h1, h2, h3⟩ := ha
  subst h2; subst h3
  obtain ⟨ao, cap, hv, hrd⟩ := hr.reads
  have hl : L.length = n := by rw [← hn, ← h1, List.length_map]
  subst hv
  rw [hl] at hr ⊢
  exact ⟨ao, cap, L, rfl, hb, hr, hrd, h1⟩
theorem maxed_on {w w' : World} (h : Maxed w w.heap.size) (hb : Below w.heap.size w w') : Maxed w' w'.heap.size := h.at_ hb hb.size
/-- Three tokens: each one's place. -/
theorem map_three {L : List (Tok × Value)} {a b c : Tok} (h : L.map (·.1) = [a, b, c]) : ∃ u v x, L = [(a, u), (b, v), (c, x)] := by
  match L, h with
  | [(a', u), (b', v), (c', x)], h =>
    simp only [List.map_cons, List.map_nil, List.cons.injEq, and_true] at h
    obtain ⟨rfl, rfl, rfl⟩ := h
    exact ⟨u, v, x, rfl⟩
theorem map_one {L : List (Tok × Value)} {a : Tok} (h : L.map (·.1) = [a]) : ∃ u, L = [(a, u)] := by
  match L, h with
  | [(a', u)], h =>
    simp only [List.map_cons, List.map_nil, List.cons.injEq, and_true] at h
    subst h
    exact ⟨u, rfl⟩

set_option maxRecDepth 100000 in
set_option maxHeartbeats 1000000 in
theorem works_any (w : World) (hM : Maxed w w.heap.size) : Calls Tryz.prog 13 #[] w fun e w' => e = .returned (.bool true) ∧ Below w.heap.size w w' := by
  have H1 := Lib.hid (tokens_at (s := ⟨#[60, 98, 114, 47, 62, 60, 33, 45, 45, 32, 120, 32, 45, 45, 62, 97]⟩) ex1_told (n := 3) rfl w hM)
  have H2 := Lib.hid fun w1 (hb : Below w.heap.size w w1) => tokens_at (s := ⟨#[60, 98, 114, 47, 62, 60, 33, 45, 45, 32, 120, 32, 45, 45, 62, 97, 60, 98]⟩) ex2_told (n := 0) rfl w1 (maxed_on hM hb)
  clear hM
  go_enter Tryz.func13, Tryz.ntmps13
  go_big_wp2_with (first
    | (go_at_call 14; refine H1.out.mono ?_; clear H1; rintro e w1 ⟨ao, cap, L, rfl, hb1, _, hr1, hL⟩; have HB1 := Lib.hid hb1; clear hb1)
    | (go_at_call 14; refine (H2.out _ HB1.out).mono ?_; rintro e w2 ⟨ao2, cap2, L2, rfl, hb2, _, _, _⟩; have HB2 := Lib.hid hb2; obtain ⟨u, v, x, rfl⟩ := map_three hL; obtain ⟨g, rfl, a0, a1, a2, a3, a4⟩ := (hr1.on hb2).at_ 0 _ rfl; obtain ⟨g', hg', b0, b1, b2, b3, b4⟩ := (hr1.on hb2).at_ 1 _ rfl; cases hg'; obtain ⟨g', hg', c0, c1, c2, c3, c4⟩ := (hr1.on hb2).at_ 2 _ rfl; cases hg'; clear hb2 hr1 hL))
  go_ret
  exact ⟨rfl, HB1.out.trans (HB2.out.mono HB1.out.size)⟩
end Go.Proofs.YtfjphhmbnhglcaaGreatDoor
