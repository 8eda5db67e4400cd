/-
  The printer of package csstok: strings.Builder at its head. Conditions: texts are no longer than 2^46 bytes.
-/
import Derived.Test.YtmhdocgoeahbdaaGreatDoorQToks2
import Derived.Lib.OthersKept
import Derived.Lib.FrozenHead2
import Derived.Shelf.Strings.BuilderF
import Derived.Shelf.Strings.BuilderK
namespace Go.Proofs.YtmhdocgoeahbdaaGreatDoor
open Go.RowKit Go.RunKit Go.UtfKit Go.Lib Go.CssKit

abbrev TQ8 : TypeId := 5
abbrev TQs : TypeId := 57
abbrev TPr : TypeId := 59
theorem qUnderPtrB : Tryz.prog.underlying 54 = some (.pointer TQs) := by kernel_rfl
theorem qUnderUnsafe : Tryz.prog.underlying 92 = some .unsafePointer := by kernel_rfl
theorem qSizeB : (Tryz.prog.info? TQs).map (·.size) = some 2 := by kernel_rfl
theorem qLies : liesAt Tryz.prog Tryz.prog.depth TPr (6 / Tryz.prog.cellsOf TPr) 0 TQs 1 = true := by kernel_rfl
theorem qUnderPtr8 : Tryz.prog.underlying 80 = some (.pointer TQ8) := by kernel_rfl
theorem qCells8 : Tryz.prog.cellsOf TQ8 = 1 := by kernel_rfl
theorem q_none {w w' : World} (hg : w.grownBy w' none) : Below w.heap.size w w' := ⟨hg.os, hg.tape, hg.output, hg.size, fun k hk => hg.block k hk (by simp)⟩
theorem q_ne {w : World} {base k size n : Nat} {e T : TypeId} {v : Value} {xs : List Value} {cs : Array Value} {fr : Nat × Nat} (h : w.ownsRowF base e size v n xs) (hk : w.heap[k]? = some (.cells cs T fr)) (hT : T ≠ e) : v.ownBlock ≠ some k := by
  intro ee
  rcases h.2 with ⟨rfl, _⟩ | ⟨g, cap, cur, fz, rfl, _, hg, _⟩
  · simp [Value.ownBlock] at ee
  · simp only [Value.ownBlock, Option.some.injEq] at ee
    subst ee
    rw [hk] at hg
    simp only [Option.some.injEq, Obj.cells.injEq] at hg
    exact hT hg.2.1
theorem q_fset {w : World} {base b n : Nat} {cs : Array Value} {T : TypeId} {v u : Value} {xs : List Value} {i : Nat} {fr : Nat × Nat} (h : w.ownsRowF base TQ8 1 u n xs) (hb : w.heap[b]? = some (.cells cs T fr)) (hT : T ≠ TQ8) : (w.setCell ⟨b, i, none⟩ v).ownsRowF base TQ8 1 u n xs :=
  World.ownsRowF.kept h (grown_cell _ _ _ _) (.inr (q_ne h hb hT))
theorem q_fother (w : World) (g n k : Nat) (h : k ≠ g) : (w.freeze ⟨g, 0, none⟩ n).heap[k]? = w.heap[k]? := by
  unfold World.freeze
  split
  · rfl
  · simp only [Array.getElem?_modify]
    rw [if_neg (fun e => h e.symm)]
theorem q_freeze (w : World) (g n : Nat) : w.grownBy (w.freeze ⟨g, 0, none⟩ n) (some g) := by
  have hb := Lib.below_freeze (B := 0) (Below.refl 0 w) (p := ⟨g, 0, none⟩) (Nat.zero_le _) n
  exact ⟨hb.os, hb.tape, hb.output, hb.size, fun k _ hk => q_fother w g n k (fun e => hk (by rw [e]))⟩
/-- The cells of the printer's last token. -/
def lastC (t : CT) : List Value := tokC t
/-- The printer's block. -/
def prCells (pa bv : Value) (t : CT) : Array Value := #[pa, bv, .int .u8 ((t.kind : Nat) : Int), .string ⟨t.value.toArray⟩, .string ⟨t.unit.toArray⟩, .bool t.id]
structure PrB (w0 : World) (b : Nat) (pa bv : Value) (t : CT) (W : World) : Prop where
  below : Below w0.heap.size w0 W
  le : w0.heap.size ≤ b
  blk : W.heap[b]? = some (.cells #[pa, bv, .int .u8 ((t.kind : Nat) : Int), .string ⟨t.value.toArray⟩, .string ⟨t.unit.toArray⟩, .bool t.id] TPr (0, 0))
def TextP (w0 : World) (b : Nat) (pa bv : Value) (s : List UInt8) (W : World) : Prop :=
  (pa = .pointer none ∧ bv = .slice none 0 0 ∧ s = []) ∨ (pa = .pointer (some ⟨b, 0, none⟩) ∧ W.ownsRowF w0.heap.size TQ8 1 bv s.length (byteCells s) ∧ (s = [] → bv = .slice none 0 0))
/-- The printer: what it has written, and the token ahead. -/
structure PrAt (w0 : World) (b : Nat) (s : List UInt8) (t : CT) (W : World) : Prop where
  ex : ∃ pa bv, PrB w0 b pa bv t W ∧ TextP w0 b pa bv s W
theorem PrB.on {w0 W W' : World} {b : Nat} {pa bv : Value} {t : CT} (h : PrB w0 b pa bv t W) (hb : Below W.heap.size W W') : PrB w0 b pa bv t W' :=
  ⟨h.below.trans (hb.mono h.below.size), h.le, by rw [hb.block _ (Array.getElem?_eq_some_iff.1 h.blk).1]; exact h.blk⟩
theorem TextP.on {w0 W W' : World} {b : Nat} {pa bv : Value} {s : List UInt8} (h : TextP w0 b pa bv s W) (hb : Below W.heap.size W W') : TextP w0 b pa bv s W' := by
  rcases h with h | ⟨h1, h3⟩
  · exact .inl h
  · exact .inr ⟨h1, World.ownsRowF.kept h3.1 (qg_below hb none) (by cases bv.ownBlock <;> simp), h3.2⟩
theorem PrAt.on {w0 W W' : World} {b : Nat} {s : List UInt8} {t : CT} (h : PrAt w0 b s t W) (hb : Below W.heap.size W W') : PrAt w0 b s t W' := by
  obtain ⟨pa, bv, h1, h2⟩ := h.ex
  exact ⟨pa, bv, h1.on hb, h2.on hb⟩
theorem PrAt.below {w0 W : World} {b : Nat} {s : List UInt8} {t : CT} (h : PrAt w0 b s t W) : Below w0.heap.size w0 W := by
  obtain ⟨_, _, h1, _⟩ := h.ex
  exact h1.below
abbrev KeepP (b : Nat) (W W' : World) : Prop := Lib.OthersKept TQ8 (some b) W W'
theorem pr6 {W : World} {g : Nat} {a0 a1 a2 a3 a4 a5 : Value} {T : TypeId} (h : W.heap[g]? = some (.cells #[a0, a1, a2, a3, a4, a5] T (0, 0))) :
    (W.cell? ⟨g, 0, none⟩ = some a0 ∧ W.cell? ⟨g, 1, none⟩ = some a1 ∧ W.cell? ⟨g, 2, none⟩ = some a2 ∧ W.cell? ⟨g, 3, none⟩ = some a3 ∧ W.cell? ⟨g, 4, none⟩ = some a4 ∧ W.cell? ⟨g, 5, none⟩ = some a5) ∧ (∀ i, W.frozen? ⟨g, i, none⟩ = false) :=
  ⟨⟨by simp [World.cell?, h], by simp [World.cell?, h], by simp [World.cell?, h], by simp [World.cell?, h], by simp [World.cell?, h], by simp [World.cell?, h]⟩, fun i => frozen_of_row W g i _ _ h⟩
theorem p_slice {w0 : World} {b : Nat} {pa bv : Value} {s : List UInt8} {W : World} (h : TextP w0 b pa bv s W) : ∃ ao cap, bv = .slice ao s.length cap := by
  rcases h with ⟨_, rfl, rfl⟩ | ⟨_, h3, _⟩
  · exact ⟨none, 0, rfl⟩
  · rcases h3.2 with ⟨hv, h0⟩ | ⟨g, cap, cur, fz, hv, _⟩
    · exact ⟨none, 0, by rw [hv, h0]⟩
    · exact ⟨_, _, hv⟩
theorem p_nil {w0 : World} {b : Nat} {pa bv : Value} {s : List UInt8} {W : World} (h : TextP w0 b pa bv s W) : s = [] → bv = .slice none 0 0 := by
  rcases h with ⟨_, h, _⟩ | ⟨_, _, h⟩
  · exact fun _ => h
  · exact h
theorem PrB.set1 {w0 W : World} {b : Nat} {pa bv bv' : Value} {t : CT} (h : PrB w0 b pa bv t W) : PrB w0 b pa bv' t (W.setCell ⟨b, 1, none⟩ bv') :=
  ⟨h.below.setCell h.le _, h.le, by rw [heap_setCell_same W b 1 _ _ bv' h.blk]; rfl⟩
theorem PrB.set0 {w0 W : World} {b : Nat} {pa bv pa' : Value} {t : CT} (h : PrB w0 b pa bv t W) : PrB w0 b pa' bv t (W.setCell ⟨b, 0, none⟩ pa') :=
  ⟨h.below.setCell h.le _, h.le, by rw [heap_setCell_same W b 0 _ _ pa' h.blk]; rfl⟩
theorem PrB.bytes {w0 W W' : World} {b g : Nat} {pa bv : Value} {t : CT} {cs : Array Value} {fr : Nat × Nat} (h : PrB w0 b pa bv t W) (hg : W.heap[g]? = some (.cells cs TQ8 fr)) (hge : w0.heap.size ≤ g) (hgr : W.grownBy W' (some g)) : PrB w0 b pa bv t W' :=
  ⟨h.below.grown hgr h.below.size (fun k hk => by cases hk; exact hge), h.le, by
    rw [hgr.block b (Array.getElem?_eq_some_iff.1 h.blk).1 (fun e => by
      cases e
      rw [h.blk] at hg
      simp only [Option.some.injEq, Obj.cells.injEq] at hg
      exact absurd hg.2.1 (by decide))]
    exact h.blk⟩
theorem PrB.grownF {w0 W W' : World} {b n : Nat} {pa bv v2 : Value} {t : CT} {xs : List Value} (h : PrB w0 b pa bv t W) (h2 : W.ownsRowF w0.heap.size TQ8 1 v2 n xs) (hg : W.grownBy W' v2.ownBlock) : PrB w0 b pa bv t W' := by
  rcases h2.2 with ⟨rfl, _⟩ | ⟨g, cap, cur, fz, rfl, hge, hgg, _⟩
  · exact h.on (q_none hg)
  · exact h.bytes hgg hge hg

set_option maxRecDepth 100000 in
set_option maxHeartbeats 1000000 in
theorem pcheck_any (w0 : World) (b : Nat) (pa bv : Value) (s : List UInt8) (t : CT) (W : World) (hB : PrB w0 b pa bv t W) (hT : TextP w0 b pa bv s W) :
    Calls Tryz.prog 56 #[.pointer (some ⟨b, 0, none⟩)] W fun e w' => e = .returned (.tuple #[]) ∧ PrB w0 b (.pointer (some ⟨b, 0, none⟩)) bv t w' ∧ w'.ownsRowF w0.heap.size TQ8 1 bv s.length (byteCells s) ∧ KeepP b W w' := by
  obtain ⟨j, hj, hjs⟩ := Option.map_eq_some_iff.1 qSizeB
  obtain ⟨⟨x0, x1, x2, x3, x4, x5⟩, y⟩ := pr6 hB.blk
  have y0 := y 0
  have hsh : W.shape? b = some (TPr, 6) := by simp [World.shape?, hB.blk]
  have HB := Lib.hid hB
  rcases hT with ⟨h1, h2, h3⟩ | ⟨h1, h3⟩
  · subst h1; subst h2
    have HF : Hid (PrB w0 b (.pointer (some ⟨b, 0, none⟩)) (.slice none 0 0) t (W.setCell ⟨b, 0, none⟩ (.pointer (some ⟨b, 0, none⟩))) ∧ (W.setCell ⟨b, 0, none⟩ (.pointer (some ⟨b, 0, none⟩))).ownsRowF w0.heap.size TQ8 1 (.slice none 0 0) s.length (byteCells s) ∧ KeepP b W (W.setCell ⟨b, 0, none⟩ (.pointer (some ⟨b, 0, none⟩)))) :=
      Lib.hid ⟨hB.set0, by rw [h3]; exact World.ownsRowF_nil _ _ _ _, (Lib.OthersKept.refl TQ8 (some b) W).setCell ⟨b, 0, none⟩ rfl _⟩
    clear hB h3 y
    go_enter Tryz.func56, Tryz.ntmps56
    go_big_wp2
    rw [Lib.run_to_unsafe W ⟨b, 0, none⟩ qUnderPtrB qUnderUnsafe hj (by rw [hjs]; decide) hsh (show 0 < 6 by decide)]
    simp only [Result.andThen]
    rw [Oper.upon_value]
    go_big_wp2
    rw [run_callFunc_extern Tryz.func85 (by kernel_rfl) (by kernel_rfl) (by kernel_rfl) (e := Extern.AbiNoEscape.same) (by kernel_rfl)]
    rw [Lib.run_noEscape]
    simp only [Result.andThen]
    rw [Oper.upon_value]
    go_big_wp2
    rw [Lib.run_from_unsafe W ⟨b, 0, none⟩ qUnderUnsafe qUnderPtrB hj hsh qLies]
    simp only [Result.andThen]
    rw [Oper.upon_value]
    go_big_wp2
    go_end0
    exact ⟨rfl, HF.out⟩
  · subst h1
    have H3 := Lib.hid h3.1
    clear hB h3 y
    go_enter Tryz.func56, Tryz.ntmps56
    go_big_wp2
    rw [Lib.run_neq_ptr_same W _ qUnderPtrB hj]
    go_big_wp2
    go_end0
    exact ⟨rfl, HB.out, H3.out, Lib.OthersKept.refl _ _ _⟩
theorem q_two (a : List UInt8) (d : ByteArray) : byteCells (a ++ d.data.toList) = byteCells a ++ Lib.strCells d := by unfold byteCells Lib.strCells; rw [List.map_append]
set_option maxRecDepth 100000 in
set_option maxHeartbeats 4000000 in
theorem pwrite_any (w0 : World) (b : Nat) (d : ByteArray) (s : List UInt8) (t : CT) (W : World) (hlen : s.length + d.size ≤ 70368744177664) (h : PrAt w0 b s t W) :
    Calls Tryz.prog 26 #[.pointer (some ⟨b, 0, none⟩), .string d] W fun e w' => e = .returned (.tuple #[.int .i64 ((d.size : Nat) : Int), .nilIface]) ∧ PrAt w0 b (s ++ d.data.toList) t w' ∧ KeepP b W w' := by
  obtain ⟨pa, bv, hB, hT⟩ := h.ex
  obtain ⟨i0, hi, hz0, hz1, hz2⟩ := info_parts U.Tryz.infoByte
  have HCk := Lib.hid (pcheck_any w0 b pa bv s t W hB hT)
  have HNil := Lib.hid (p_nil hT)
  obtain ⟨ao0, cap0, hbv⟩ := p_slice hT
  subst hbv
  clear h hB hT
  go_enter Tryz.func26, Tryz.ntmps26
  go_big_wp2_with (first
    | (go_at_call 56; refine HCk.out.mono ?_; rintro e w1 ⟨rfl, hB1, hown, hk1⟩; obtain ⟨⟨x0, x1, x2, x3, x4, x5⟩, y⟩ := pr6 hB1.blk; have y0 := y 0; have y1 := y 1; have HB1 := Lib.hid hB1; have HOwn := Lib.hid hown; have HK1 := Lib.hid hk1; clear hB1 hown hk1 y)
    | (at_builtin; refine Lib.wpList_append_own_stringF _ rfl _ _ 55 9 rfl w0.heap.size TQ8 i0 U.underBytes U.underString hi hz0 hz1 hz2 _ _ _ rfl HOwn.out d rfl ?c3 ?c4 ?c5 ?_))
  case c3 => unfold maxLen; omega
  case c4 => omega
  case c5 => exact HB1.out.below.size
  intro v' w2 hown' hgrow hnl
  have hB2 := HB1.out.grownF HOwn.out hgrow
  have hK2 : KeepP b W w2 := HK1.out.grown hgrow (Lib.ownsRowF_kind HOwn.out)
  obtain ⟨ao', cap', rfl⟩ : ∃ ao' cap', v' = .slice ao' (s.length + d.size) cap' := by
    rcases hown'.2 with ⟨hv, h0⟩ | ⟨g, cap, cur, fz, hv, _⟩
    · exact ⟨none, 0, by rw [hv, h0]⟩
    · exact ⟨_, _, hv⟩
  clear x0 x1 x2 x3 x4 x5 y0 y1
  obtain ⟨⟨x0, x1, x2, x3, x4, x5⟩, y⟩ := pr6 hB2.blk
  have y1 := y 1
  have HK2 := Lib.hid (hK2.setCell ⟨b, 1, none⟩ rfl (.slice ao' (s.length + d.size) cap'))
  have HOw2 := Lib.hid (q_fset (i := 1) (v := .slice ao' (s.length + d.size) cap') hown' hB2.blk (by decide))
  have HF := Lib.hid (hB2.set1 (bv' := .slice ao' (s.length + d.size) cap'))
  have HNl := Lib.hid hnl
  clear hown' hgrow hB2 hK2 y hnl
  go_big_wp2
  go_ret2
  refine ⟨rfl, ⟨.pointer (some ⟨b, 0, none⟩), .slice ao' (s.length + d.size) cap', HF.out, .inr ⟨rfl, ?_, fun e => ?_⟩⟩, HK2.out⟩
  · rw [List.length_append, q_two, show d.data.toList.length = d.size by simp]
    exact HOw2.out
  · obtain ⟨e1, e2⟩ := List.append_eq_nil_iff.1 e
    have hz := HNil.out e1
    simp only [Value.slice.injEq] at hz
    exact HNl.out.2 ⟨⟨hz.1, e1, hz.2.2⟩, by apply ByteArray.ext; apply Array.ext'; exact e2⟩
set_option maxRecDepth 100000 in
set_option maxHeartbeats 4000000 in
theorem pbyte_any (w0 : World) (b : Nat) (c : UInt8) (s : List UInt8) (t : CT) (W : World) (hlen : s.length + 1 ≤ 70368744177664) (h : PrAt w0 b s t W) :
    Calls Tryz.prog 60 #[.pointer (some ⟨b, 0, none⟩), .int .u8 ((c.toNat : Nat) : Int)] W fun e w' => e = .returned .nilIface ∧ PrAt w0 b (s ++ [c]) t w' ∧ KeepP b W w' := by
  obtain ⟨pa, bv, hB, hT⟩ := h.ex
  obtain ⟨i0, hi, hz0, hz1, hz2⟩ := info_parts U.Tryz.infoByte
  have HCk := Lib.hid (pcheck_any w0 b pa bv s t W hB hT)
  obtain ⟨ao0, cap0, hbv⟩ := p_slice hT
  subst hbv
  clear h hB hT
  go_enter Tryz.func60, Tryz.ntmps60
  go_big_wp2_with (first
    | (go_at_call 56; refine HCk.out.mono ?_; rintro e w1 ⟨rfl, hB1, hown, hk1⟩; obtain ⟨⟨x0, x1, x2, x3, x4, x5⟩, y⟩ := pr6 hB1.blk; have y0 := y 0; have y1 := y 1; have HB1 := Lib.hid hB1; have HOwn := Lib.hid hown; have HK1 := Lib.hid hk1; clear hB1 hown hk1 y)
    | (at_builtin; refine wpList_append_ownF _ rfl _ _ 55 rfl w0.heap.size TQ8 i0 (.int .u8 0) 1 1 U.underBytes hi hz0 hz1 hz2 rfl (by decide) _ _ _ rfl (HOwn.out.alloc _) ⟨w1.heap.size, 0, none⟩ 1 1 [.int .u8 ((c.toNat : Nat) : Int)] rfl rfl ?c1 ?c2 ?c3 ?c4 ?c5 ?_))
  case c1 =>
    intro j u hj
    match j, hj with
    | 0, hj => simp at hj; subst hj; simp [Addr.add]
  case c2 => intro u hu; simp at hu; subst hu; rfl
  case c3 => unfold maxLen; omega
  case c4 => omega
  case c5 => have := HB1.out.below.size; simp; omega
  intro v' w2 hown' hgrow _
  have hB2 := (HB1.out.on ((Below.refl _ _).alloc (Nat.le_refl _) _)).grownF (HOwn.out.alloc _) hgrow
  have hK2 : KeepP b W w2 := (HK1.out.alloc _).grown hgrow (Lib.ownsRowF_kind (HOwn.out.alloc _))
  obtain ⟨ao', cap', rfl⟩ : ∃ ao' cap', v' = .slice ao' (s.length + 1) cap' := by
    rcases hown'.2 with ⟨hv, h0⟩ | ⟨g, cap, cur, fz, hv, _⟩
    · exact ⟨none, 0, by rw [hv, h0]⟩
    · exact ⟨_, _, hv⟩
  clear x0 x1 x2 x3 x4 x5 y0 y1
  obtain ⟨⟨x0, x1, x2, x3, x4, x5⟩, y⟩ := pr6 hB2.blk
  have y1 := y 1
  have HK2 := Lib.hid (hK2.setCell ⟨b, 1, none⟩ rfl (.slice ao' (s.length + 1) cap'))
  have HOw2 := Lib.hid (q_fset (i := 1) (v := .slice ao' (s.length + 1) cap') hown' hB2.blk (by decide))
  have HF := Lib.hid (hB2.set1 (bv' := .slice ao' (s.length + 1) cap'))
  clear hown' hgrow hB2 hK2 y
  go_big_wp2
  go_ret
  refine ⟨rfl, ⟨.pointer (some ⟨b, 0, none⟩), .slice ao' (s.length + 1) cap', HF.out, .inr ⟨rfl, ?_, fun e => by simp at e⟩⟩, HK2.out⟩
  rw [List.length_append]
  have e : byteCells (s ++ [c]) = byteCells s ++ [.int .u8 ((c.toNat : Nat) : Int)] := by simp [byteCells]
  rw [e]
  exact HOw2.out
set_option maxRecDepth 100000 in
set_option maxHeartbeats 4000000 in
theorem prune_any (w0 : World) (b : Nat) (r : Int) (hr0 : -2147483648 ≤ r) (hr1 : r ≤ 2147483647) (s : List UInt8) (t : CT) (W : World) (hlen : s.length + 4 ≤ 70368744177664) (h : PrAt w0 b s t W) :
    Calls Tryz.prog 87 #[.pointer (some ⟨b, 0, none⟩), .int .i32 r] W fun e w' => (∃ n, e = .returned (.tuple #[.int .i64 n, .nilIface])) ∧ PrAt w0 b (s ++ encodeRune r) t w' ∧ KeepP b W w' := by
  obtain ⟨pa, bv, hB, hT⟩ := h.ex
  have HCk := Lib.hid (pcheck_any w0 b pa bv s t W hB hT)
  obtain ⟨ao0, cap0, hbv⟩ := p_slice hT
  subst hbv
  clear h hB hT
  go_enter Tryz.func87, Tryz.ntmps87
  go_big_wp2_with (first
    | (go_at_call 56
       go_loud (
         refine HCk.out.mono ?_
         rintro e w1 ⟨rfl, hB1, hown, hk1⟩
         obtain ⟨⟨x0, x1, x2, x3, x4, x5⟩, y⟩ := pr6 hB1.blk
         have y0 := y 0
         have y1 := y 1
         have HA := Lib.hid (Tryz.utf8_AppendRune_row w0.heap.size _ _ _ r hr0 hr1 w1 hown (by omega) hB1.below.size)
         have HB1 := Lib.hid hB1
         have HOwn := Lib.hid hown
         have HK1 := Lib.hid hk1
         clear hB1 hown hk1 y))
    | (go_at_call 103
       go_loud (
         refine HA.out.mono ?_
         clear HA
         rintro e w2 ⟨v', rfl, hown', o, hgrow⟩
         have hB2 := (HB1.out.on ((Below.refl _ _).alloc (Nat.le_refl _) o)).grownF (HOwn.out.alloc _) hgrow
         have hK2 : KeepP b W w2 := (HK1.out.alloc _).grown hgrow (Lib.ownsRowF_kind (HOwn.out.alloc _))
         obtain ⟨ao', cap', rfl⟩ : ∃ ao' cap', v' = .slice ao' (s.length + (Lib.runeCells r).length) cap' := (by
           rcases hown'.2 with ⟨hv, h0⟩ | ⟨g, cap, cur, fz, hv, _⟩
           · exact ⟨none, 0, by rw [hv, h0]⟩
           · exact ⟨_, _, hv⟩)
         clear x0 x1 x2 x3 x4 x5 y0 y1
         obtain ⟨⟨x0, x1, x2, x3, x4, x5⟩, y⟩ := pr6 hB2.blk
         have y1 := y 1
         have HK2 := Lib.hid (hK2.setCell ⟨b, 1, none⟩ rfl (.slice ao' (s.length + (Lib.runeCells r).length) cap'))
         have HOw2 := Lib.hid (q_fset (i := 1) (v := .slice ao' (s.length + (Lib.runeCells r).length) cap') hown' hB2.blk (by decide))
         have HF := Lib.hid (hB2.set1 (bv' := .slice ao' (s.length + (Lib.runeCells r).length) cap'))
         clear hown' hgrow hB2 hK2 y)))
  go_ret2
  have hrl : (Lib.runeCells r).length = (encodeRune r).length := by rw [← byteCells_encodeRune]; simp [byteCells]
  refine ⟨⟨_, rfl⟩, ⟨.pointer (some ⟨b, 0, none⟩), .slice ao' (s.length + (Lib.runeCells r).length) cap', HF.out, .inr ⟨rfl, ?_, fun e => ?_⟩⟩, HK2.out⟩
  · have e : byteCells (s ++ encodeRune r) = byteCells s ++ Lib.runeCells r := by rw [← byteCells_encodeRune]; simp [byteCells]
    rw [List.length_append, ← hrl, e]
    exact HOw2.out
  · have h1 := (encodeRuneZ_length r).1
    have h2 : (encodeRune r).length = (encodeRuneZ r).length := by simp [encodeRune]
    have := (List.append_eq_nil_iff.1 e).2
    rw [this] at h2
    simp only [List.length_nil] at h2
    omega
set_option maxRecDepth 100000 in
set_option maxHeartbeats 4000000 in
theorem pstring_any (w0 : World) (b : Nat) (s : List UInt8) (t : CT) (W : World) (h : PrAt w0 b s t W) :
    Calls Tryz.prog 28 #[.pointer (some ⟨b, 0, none⟩)] W fun e w' => e = .returned (.string ⟨s.toArray⟩) ∧ Below w0.heap.size w0 w' := by
  obtain ⟨pa, bv, hB, hT⟩ := h.ex
  have hbk := hB.blk
  by_cases hs : s = []
  · obtain rfl := p_nil hT hs
    subst hs
    have hSD := fun W => Lib.run_unsafeSliceData_nil (P := Tryz.prog) (w := W) #[55] 80 0 0
    have hUS := fun W => Lib.run_unsafeString_none (P := Tryz.prog) (w := W) 80 3 9 none
    have c2 : W.cell? ⟨b, 1, none⟩ = some (.slice none 0 0) := (pr6 hbk).1.2.1
    have c1 : W.drew.cell? ⟨b, 1, none⟩ = some (.slice none 0 0) := (pr6 (W := W.drew) hbk).1.2.1
    have HB1 := Lib.hid (hB.on (Below.refl _ _).drew).below
    clear h hB hbk hT
    go_enter Tryz.func28, Tryz.ntmps28
    go_big_wp2
    go_region
    all_goals (go_big_wp2; go_ret; exact ⟨rfl, HB1.out⟩)
  · obtain ⟨_, hown⟩ : pa = .pointer (some ⟨b, 0, none⟩) ∧ W.ownsRowF w0.heap.size TQ8 1 bv s.length (byteCells s) := by
      rcases hT with ⟨_, _, h3⟩ | ⟨h1, h2, _⟩
      · exact absurd h3 hs
      · exact ⟨h1, h2⟩
    have hl0 : s.length ≠ 0 := by simpa using hs
    obtain ⟨g, cap, cur, fz, rfl, hbg, hg, hfz, hnc, hcm, hcs, htake⟩ : ∃ g cap cur fz, bv = .slice (some ⟨g, 0, none⟩) s.length cap ∧ w0.heap.size ≤ g ∧ W.heap[g]? = some (.cells cur TQ8 fz) ∧ fz.2 ≤ s.length * 1 ∧ s.length ≤ cap ∧ cap ≤ maxLen ∧ cur.size = cap * 1 ∧ cur.toList.take (s.length * 1) = byteCells s := by
      rcases hown.2 with ⟨_, hz⟩ | ⟨g, cap, cur, fz, hv, r⟩
      · exact absurd hz hl0
      · exact ⟨g, cap, cur, fz, hv, r⟩
    have c1 : W.drew.cell? ⟨b, 1, none⟩ = some (.slice (some ⟨g, 0, none⟩) s.length cap) := (pr6 (W := W.drew) hbk).1.2.1
    have c2 : W.cell? ⟨b, 1, none⟩ = some (.slice (some ⟨g, 0, none⟩) s.length cap) := (pr6 hbk).1.2.1
    have hSD : (Builtin.unsafeSliceData_ #[55] 80 #[.slice (some ⟨g, 0, none⟩) s.length cap]).run Tryz.prog W.drew = .ok (.pointer (some ⟨g, 0, none⟩)) W.drew :=
      Lib.run_unsafeSliceData_row _ _ _ _ _ _ (by omega)
    have hUS : (Builtin.unsafeString_ #[80, 3] 9 #[.pointer (some ⟨g, 0, none⟩), .int .i64 s.length]).run Tryz.prog W.drew = .ok (.string ⟨s.toArray⟩) (W.drew.freeze ⟨g, 0, none⟩ s.length) := by
      refine Lib.run_unsafeString_row W.drew 80 3 9 TQ8 qUnderPtr8 qCells8 g cur.size (by have hg' : W.drew.heap[g]? = some (.cells cur TQ8 fz) := hg; simp [World.shape?, hg']) s hs (by omega) (by unfold maxLen at hcm; omega) ?_
      intro j x hx
      have := hown.cells (g := g) rfl j (.int .u8 x.toNat) (by simp [Lib.byteCells, hx])
      exact this
    have hB1 := (hB.on (Below.refl _ _).drew).bytes (W' := W.drew.freeze ⟨g, 0, none⟩ s.length) hg hbg (q_freeze _ _ _)
    have HB1 := Lib.hid hB1.below
    clear h hB hbk hown hg hfz hcs htake hB1 hT
    go_enter Tryz.func28, Tryz.ntmps28
    go_big_wp2
    go_region
    all_goals (go_big_wp2; go_ret; exact ⟨rfl, HB1.out⟩)
end Go.Proofs.YtmhdocgoeahbdaaGreatDoor
