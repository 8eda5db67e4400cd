/-
  eachPart of utf hands on the character of each part of a text, whatever the closure that takes them. Conditions: what the closure keeps is not turned by what lies beside it; the library's two tables hold what its text lays.
  strings.Builder in this program: copyCheck and WriteRune at a builder that the call itself has made. Conditions: the bytes are no more than 2^47.
  Runes of utf hands back the characters of the parts. Conditions: the library's two tables hold what its text lays; the text is no longer than 2^40 bytes.
  Decode of utf: the closure that takes the parts, and what is told. Conditions: the library's two tables hold what its text lays.
  A region that draws its order, whose callees lay blocks of their own and leave all else: walked once, in the order of the text. No conditions.
  Decode of utf: what it tells of bytes. Conditions: the library's two tables hold what its text lays.
  The bytes of a well-formed part are those of its character. No conditions.
-/
import Derived.Test.YtnfkndaggcklkaaGreatDoorPA0
import Derived.Deep.LoopGhost
import Derived.Shelf.Abstract
import Derived.Lib.OthersKept
import Derived.Test.YtnfkndaggcklkaaGreatDoorShelf
import Derived.Shelf.Strings.BuilderRune
import Derived.KernelRfl
import Derived.Lib.QuoteLoop
namespace Go.Proofs.YtnfkndaggcklkaaGreatDoor.U
open Go.RowKit Go.RunKit Go.UtfKit Go.Lib Go.Shelf

/-- A world in which iterators may have gone on, and blocks have been laid: all below n0, and all cells, are as they were. -/
structure Beside (n0 : Nat) (w w' : World) : Prop where
  os : w'.os = w.os
  tape : w'.tape = w.tape
  output : w'.output = w.output
  size : w.heap.size ≤ w'.heap.size
  low : ∀ k : Nat, k < n0 → w'.heap[k]? = w.heap[k]?
  cells : ∀ (k : Nat) (c : Array Value) (t : TypeId) (fr : Nat × Nat), w.heap[k]? = some (Obj.cells c t fr) → w'.heap[k]? = some (Obj.cells c t fr)
theorem Beside.of_below {n0 : Nat} {w w' : World} (h : Below w.heap.size w w') (hn : n0 ≤ w.heap.size) : Beside n0 w w' :=
  ⟨h.os, h.tape, h.output, h.size, fun k hk => h.block k (by omega), fun k c t fr hk => by
    have hlt : k < w.heap.size := (Array.getElem?_eq_some_iff.1 hk).1
    rw [h.block k hlt]; exact hk⟩
theorem Beside.iterAt {n0 : Nat} {w : World} {k pos pos' : Nat} {s : ByteArray} (hk : w.heap[k]? = some (Obj.stringIter s pos)) (hn : n0 ≤ k) : Beside n0 w (w.iterAt k s pos') :=
  ⟨rfl, rfl, rfl, by rw [iterAt_size]; exact Nat.le_refl _, fun j hj => iterAt_other w k j s pos' (by omega), fun j c t fr hj => by
    by_cases e : j = k
    · subst e; rw [hk] at hj; cases hj
    · rw [iterAt_other w k j s pos' e]; exact hj⟩

/-- What a closure that takes the characters of s keeps: 'Inv d w': behind the parts d it stands so. -/
structure Takes (P : Program) (g : FuncId) (cb : Array Value) (s : ByteArray) (n0 : Nat) (Inv : List Part → World → Prop) : Prop where
  enters : ∀ args w, (callFunc g args).run P w = .ok (.enter g args) w
  tabs : ∀ d w, Inv d w → Tabs w
  beside : ∀ d w w', Inv d w → Beside n0 w w' → Inv d w'
  step : ∀ d p r w, d ++ p :: r = parts s → Inv d w → Calls P g (#[.int .i32 (p.char : Nat)] ++ cb) w fun e w' => e = .returned (.tuple #[]) ∧ Inv (d ++ [p]) w' ∧ w.heap.size ≤ w'.heap.size ∧ ∀ (k : Nat) (t : ByteArray) (pos : Nat), w.heap[k]? = some (Obj.stringIter t pos) → w'.heap[k]? = some (Obj.stringIter t pos)

theorem byteAt_drop (s : ByteArray) (pos i : Nat) : byteAt (s.extract pos s.size) i = byteAt s (pos + i) := by
  by_cases h : pos + i < s.size
  · have h1 : i < (s.extract pos s.size).size := by simp; omega
    rw [byteAt_get _ _ h1, byteAt_get s _ h]
    congr 1
    simp [ByteArray.getElem_extract]
  · have h1 : ¬ i < (s.extract pos s.size).size := by simp; omega
    have e : ∀ (t : ByteArray) (j : Nat), ¬ j < t.size → byteAt t j = 0 := fun t j hj => by
      unfold byteAt
      have : t.data[j]! = default := getElem!_neg _ _ hj
      show (t.data[j]!).toNat = 0
      rw [this]; rfl
    rw [e _ _ h1, e _ _ h]
theorem begAt_drop (s : ByteArray) (pos : Nat) : begN (s.extract pos s.size).size (byteAt (s.extract pos s.size) 0) (byteAt (s.extract pos s.size) 1) (byteAt (s.extract pos s.size) 2) = begAt s pos := by
  rw [byteAt_drop, byteAt_drop, byteAt_drop]
  have : (s.extract pos s.size).size = s.size - pos := by simp
  rw [this]; rfl

set_option maxRecDepth 100000 in
set_option maxHeartbeats 2000000 in
theorem each_any (g : FuncId) (cb : Array Value) (s : ByteArray) (Inv : List Part → World → Prop) (w : World) (H : Takes Tryz.prog g cb s w.heap.size Inv) (h0 : Inv [] w) (hsz : s.size < 4611686018427387904) :
    Calls Tryz.prog 73 #[.string s, .func (.func g) #[] cb] w fun e w' => e = .returned (.tuple #[]) ∧ Inv (parts s) w' := by
  have eg := H.enters
  have HH := Lib.hid H
  have HI := Lib.hid h0
  clear H h0
  go_enter Tryz.func73, Tryz.ntmps73
  go_wp2
  have hB : Below w.heap.size w (w.iter s 0) := (Below.refl _ _).alloc (Nat.le_refl _) _
  have hk : (w.iter s 0).heap[w.heap.size]? = some (Obj.stringIter s 0) := World.iter_heap _ _ _
  have hsz0 : w.heap.size < (w.iter s 0).heap.size := (Array.getElem?_eq_some_iff.1 hk).1
  have HJ := Lib.hid (HH.out.beside [] w _ HI.out (Beside.of_below hB (Nat.le_refl _)))
  generalize w.iter s 0 = W at *
  clear hB HI
  generalize w.heap.size = kI at *
  have D0 : Hid (([] : List Part) ++ partsFrom s (max 0 0) = parts s ∧ Ahead s 0 0) := Lib.hid ⟨rfl, ahead_zero s⟩
  go_loopw [4] (fun b wr => ∃ (pos broken : Nat) (d : List Part), b = .int .i64 broken ∧ pos ≤ s.size ∧ wr.heap[kI]? = some (Obj.stringIter s pos) ∧ Hid (Inv d wr) ∧ Hid (d ++ partsFrom s (max pos broken) = parts s ∧ Ahead s pos broken) ∧ kI < wr.heap.size) (fun _ wr => s.size - wr.iterPos kI)
  case atStart => exact ⟨0, 0, [], rfl, Nat.zero_le _, hk, HJ, D0, hsz0⟩
  case round =>
    clear hk HJ D0 hsz0
    obtain ⟨pos, broken, d, rfl, hpos, hk, HJ, HD, hsz0⟩ := hrel
    by_cases hlt : pos < s.size
    · have hnext := fun ty => run_next_any_at (P := Tryz.prog) wr kI s pos ty hk hlt
      by_cases hbr : pos < broken
      · have HA := Lib.hid (ahead_skip HD.out.2 hbr)
        go_wp2
        have e := HA.out.1
        have hb := Beside.iterAt (n0 := kI) (pos' := pos + 1) hk (Nat.le_refl _)
        rw [e]
        exact ⟨⟨pos + 1, broken, d, rfl, by omega, iterAt_heap wr kI s pos _ hk, Lib.hid (HH.out.beside d _ _ HJ.out hb), Lib.hid ⟨by rw [← HD.out.1]; congr 2; omega, HA.out.2⟩, by rw [iterAt_size]; exact hsz0⟩,
          by unfold World.iterPos; rw [iterAt_heap wr kI s pos _ hk, hk]; simp only []; omega⟩
      · have hmax : max pos broken = pos := by omega
        have HP := Lib.hid (ahead_part hlt)
        have HL := Lib.hid (cutAt_len s pos hlt)
        have HE : Hid (d ++ cutAt s pos :: partsFrom s (pos + (cutAt s pos).len) = parts s) := Lib.hid (by rw [← partsFrom_step s pos hlt, ← HD.out.1, hmax])
        have hbr' : ¬ (pos : Int) < broken := by omega
        by_cases hr : (Utf8.decode s pos).1 = 65533
        · have HQ := Lib.hid (HP.out.2.1 hr)
          have hb := Beside.iterAt (n0 := kI) (pos' := pos + (Utf8.decode s pos).2) hk (Nat.le_refl _)
          have HK := Lib.hid (HH.out.beside d _ _ HJ.out hb)
          have HB := Lib.hid (beg_any (s.extract pos s.size) (wr.iterAt kI s (pos + (Utf8.decode s pos).2)) (HH.out.tabs _ _ HK.out) (by simp; omega))
          rw [begAt_drop] at HB
          clear hb
          have hbl : pos + begAt s pos ≤ s.size := by
            have h1 := HQ.out.1.inside
            exact h1
          have HS : Hid (∀ w, Inv d w → Calls Tryz.prog g (#[.int .i32 65533] ++ cb) w fun e w' => e = .returned (.tuple #[]) ∧ Inv (d ++ [cutAt s pos]) w' ∧ w.heap.size ≤ w'.heap.size ∧ ∀ (k : Nat) (t : ByteArray) (pos : Nat), w.heap[k]? = some (Obj.stringIter t pos) → w'.heap[k]? = some (Obj.stringIter t pos)) := Lib.hid fun w hw => by
            have := HH.out.step d (cutAt s pos) _ w HE.out hw
            rwa [← HP.out.1, hr] at this
          have hw64 : wrap64 ((pos : Int) + (begAt s pos : Int)) = ((pos + begAt s pos : Nat) : Int) := by rw [IntWalk.wrap64_in _ ⟨by omega, by omega⟩]; omega
          have hz1 : kI < (wr.iterAt kI s (pos + (Utf8.decode s pos).2)).heap.size := by rw [iterAt_size]; exact hsz0
          have hk1 := iterAt_heap wr kI s pos (pos + (Utf8.decode s pos).2) hk
          have HX := Lib.hid (And.intro hz1 hk1)
          clear hz1 hk1
          go_wp2_with (first
            | (go_at_call 100; refine HB.out.mono ?_; rintro e w1 ⟨rfl, hb⟩)
            | (go_at_fn g; refine (HS.out _ (HH.out.beside d _ _ HK.out (Beside.of_below hb (Nat.le_of_lt HX.out.1)))).mono ?_; rintro e w2 ⟨rfl, hinv, hs2, hit⟩))
          have h2 : w2.heap[kI]? = some (Obj.stringIter s (pos + (Utf8.decode s pos).2)) := hit kI s _ (by rw [hb.block kI HX.out.1]; exact HX.out.2)
          have hl := HL.out
          have hm := HQ.out.2
          have hw := decode_width_pos s pos hlt
          refine ⟨⟨pos + (Utf8.decode s pos).2, pos + begAt s pos, d ++ [cutAt s pos], by go_num, by omega, h2, Lib.hid hinv, Lib.hid ⟨by rw [hm, List.append_assoc]; exact HE.out, HQ.out.1⟩, (Array.getElem?_eq_some_iff.1 h2).1⟩, ?_⟩
          unfold World.iterPos
          rw [h2, hk]; simp only []; omega
        · have hch : Hid ((Utf8.decode s pos).2 = (cutAt s pos).len) := Lib.hid (HP.out.2.2 hr)
          have hb := Beside.iterAt (n0 := kI) (pos' := pos + (Utf8.decode s pos).2) hk (Nat.le_refl _)
          have HK := Lib.hid (HH.out.beside d _ _ HJ.out hb)
          have HS : Hid (∀ w, Inv d w → Calls Tryz.prog g (#[.int .i32 ((Utf8.decode s pos).1 : Nat)] ++ cb) w fun e w' => e = .returned (.tuple #[]) ∧ Inv (d ++ [cutAt s pos]) w' ∧ w.heap.size ≤ w'.heap.size ∧ ∀ (k : Nat) (t : ByteArray) (pos : Nat), w.heap[k]? = some (Obj.stringIter t pos) → w'.heap[k]? = some (Obj.stringIter t pos)) := Lib.hid fun w hw => by
            have := HH.out.step d (cutAt s pos) _ w HE.out hw
            rwa [← HP.out.1] at this
          clear hb
          have HX := Lib.hid (iterAt_heap wr kI s pos (pos + (Utf8.decode s pos).2) hk)
          have hr' : ¬ ((Utf8.decode s pos).1 : Int) = 65533 := by omega
          go_wp2_with (first
            | (go_at_fn g; refine (HS.out _ HK.out).mono ?_; rintro e w2 ⟨rfl, hinv, hs2, hit⟩))
          have h2 : w2.heap[kI]? = some (Obj.stringIter s (pos + (Utf8.decode s pos).2)) := hit kI s _ HX.out
          have hl := HL.out
          have hw := decode_width_pos s pos hlt
          have hc := hch.out
          refine ⟨⟨pos + (Utf8.decode s pos).2, broken, d ++ [cutAt s pos], rfl, by omega, h2, Lib.hid hinv, Lib.hid ⟨by rw [hc, show max (pos + (cutAt s pos).len) broken = pos + (cutAt s pos).len by omega, List.append_assoc]; exact HE.out, ⟨HD.out.2.inside, fun p h1 h2 => by omega⟩⟩, (Array.getElem?_eq_some_iff.1 h2).1⟩, ?_⟩
          unfold World.iterPos
          rw [h2, hk]; simp only []; omega
    · have hnext := fun ty => run_next_end_at (P := Tryz.prog) wr kI s pos ty hk hlt
      have he : d = parts s := by
        have := HD.out.1
        rw [partsFrom_end s _ (by omega), List.append_nil] at this
        exact this
      subst he
      go_wp2
      go_end0
      exact ⟨rfl, HJ.out⟩
end Go.Proofs.YtnfkndaggcklkaaGreatDoor.U

namespace Go.Proofs.YtnfkndaggcklkaaGreatDoor.U
open Go.RowKit Go.RunKit Go.Lib Go.Shelf

theorem sizeBuilder : (Tryz.prog.info? 62).map (·.size) = some 2 := by kernel_rfl
theorem liesBuilder : liesAt Tryz.prog Tryz.prog.depth 62 (2 / Tryz.prog.cellsOf 62) 0 62 1 = true := by kernel_rfl
theorem underPtr : Tryz.prog.underlying 60 = some (.pointer 62) := by kernel_rfl
theorem underUnsafe : Tryz.prog.underlying 142 = some .unsafePointer := by kernel_rfl

set_option maxRecDepth 100000 in
set_option maxHeartbeats 1000000 in
theorem check_fresh (b : Nat) (w : World) (h0 : w.cell? ⟨b, 0, none⟩ = some (.pointer none)) (hsh : w.shape? b = some (62, 2)) (hfz : w.frozen? ⟨b, 0, none⟩ = false) :
    Calls Tryz.prog 101 #[.pointer (some ⟨b, 0, none⟩)] w fun e w' => e = .returned (.tuple #[]) ∧ w' = w.setCell ⟨b, 0, none⟩ (.pointer (some ⟨b, 0, none⟩)) := by
  obtain ⟨j, hj, hjs⟩ := Option.map_eq_some_iff.1 sizeBuilder
  go_enter Tryz.func101, Tryz.ntmps101
  go_wp2
  rw [Lib.run_to_unsafe w ⟨b, 0, none⟩ underPtr underUnsafe hj (by rw [hjs]; decide) hsh (Nat.zero_lt_succ 1)]
  simp only [Result.andThen]
  rw [Oper.upon_value]
  go_wp2
  rw [run_callFunc_extern Tryz.func134 (by kernel_rfl) (by kernel_rfl) (by kernel_rfl) (e := Extern.AbiNoEscape.same) (by kernel_rfl)]
  rw [Lib.run_noEscape]
  simp only [Result.andThen]
  rw [Oper.upon_value]
  go_wp2
  rw [Lib.run_from_unsafe w ⟨b, 0, none⟩ underUnsafe underPtr hj hsh liesBuilder]
  simp only [Result.andThen]
  rw [Oper.upon_value]
  go_wp2
  go_end0
  exact ⟨rfl, rfl⟩

set_option maxRecDepth 100000 in
set_option maxHeartbeats 1000000 in
theorem check_used (b : Nat) (w : World) (h0 : w.cell? ⟨b, 0, none⟩ = some (.pointer (some ⟨b, 0, none⟩))) :
    Calls Tryz.prog 101 #[.pointer (some ⟨b, 0, none⟩)] w fun e w' => e = .returned (.tuple #[]) ∧ w' = w := by
  obtain ⟨j, hj, _⟩ := Option.map_eq_some_iff.1 sizeBuilder
  go_enter Tryz.func101, Tryz.ntmps101
  go_wp2
  rw [Lib.run_neq_ptr_same w _ underPtr hj]
  go_wp2
  go_end0
  exact ⟨rfl, rfl⟩

abbrev TB : TypeId := 62
theorem check_any (B b : Nat) (bs : List Value) (w : World) (h : Lib.IsBuilderF TB 5 B b bs w) :
    Calls Tryz.prog 101 #[.pointer (some ⟨b, 0, none⟩)] w fun e w' => e = .returned (.tuple #[]) ∧ (Lib.BuilderAtF TB 5 B b (.pointer (some ⟨b, 0, none⟩)) bs w' ∧ Below B w w' ∧ Lib.OthersKept 5 (some b) w w') := by
  rcases h with h | h
  · refine (check_fresh b w h.cell0 h.shape h.frozen0).mono ?_
    rintro e w' ⟨rfl, rfl⟩
    exact ⟨rfl, h.used _, (Below.refl B w).setCell (p := ⟨b, 0, none⟩) h.1 _, (Lib.OthersKept.refl _ _ w).setCell ⟨b, 0, none⟩ rfl _⟩
  · refine (check_used b w h.cell0).mono ?_
    rintro e w' ⟨rfl, rfl⟩
    exact ⟨rfl, h, Below.refl B _, Lib.OthersKept.refl _ _ _⟩

set_option maxRecDepth 100000 in
set_option maxHeartbeats 1000000 in
/-- WriteRune: the character's bytes go in behind. -/
theorem writeRune_any (B b : Nat) (bs : List Value) (r : Int) (hr0 : -2147483648 ≤ r) (hr1 : r ≤ 2147483647) (w : World) (h : Lib.IsBuilderF TB 5 B b bs w) (hlen : bs.length + 4 ≤ 140737488355328) (hBw : B ≤ w.heap.size) :
    Calls Tryz.prog 75 #[.pointer (some ⟨b, 0, none⟩), .int .i32 r] w fun e w' => e = .returned (.tuple #[.int .i64 (Lib.runeCells r).length, .nilIface]) ∧
      (Lib.BuilderAtF TB 5 B b (.pointer (some ⟨b, 0, none⟩)) (bs ++ Lib.runeCells r) w' ∧ Below B w w' ∧ Lib.OthersKept 5 (some b) w w') := by
  have hk4 := Lib.runeCells_le r
  go_enter Tryz.func75, Tryz.ntmps75
  go_wp2_with (go_at_call 101; refine (check_any B b bs _ h).mono ?_)
  rintro e w1 ⟨rfl, h1, hb1, hk1⟩
  obtain ⟨hB, v, hbk, hown, hne⟩ := h1
  obtain ⟨ao, cap, rfl⟩ : ∃ ao cap, v = .slice ao bs.length cap := by
    rcases hown.2 with ⟨hv, h0⟩ | ⟨g, cap, cur, fz, hv, _⟩
    · exact ⟨none, 0, by rw [hv, h0]⟩
    · exact ⟨_, _, hv⟩
  have c0 : w1.cell? ⟨b, 0, none⟩ = some (.pointer (some ⟨b, 0, none⟩)) := by rw [Lib.cell_of_heap hbk]; rfl
  have c1 : w1.cell? ⟨b, 1, none⟩ = some (.slice ao bs.length cap) := by rw [Lib.cell_of_heap hbk]; rfl
  go_wp2_with (go_at_call 102; refine (Tryz.utf8_AppendRune_row B _ bs.length bs r hr0 hr1 _ hown hlen (by have := hb1.size; omega)).mono ?_)
  rintro e w2 ⟨v', rfl, hown', o, hgrow⟩
  have hlt : b < w1.heap.size := by
    rcases Nat.lt_or_ge b w1.heap.size with h' | h'
    · exact h'
    · simp [Array.getElem?_eq_none h'] at hbk
  have hb2 : w2.heap[b]? = some (.cells #[.pointer (some ⟨b, 0, none⟩), .slice ao bs.length cap] TB (0, 0)) := by
    rw [hgrow.block b (by simp; omega) (fun e => hne e.symm), Lib.alloc_old w1 _ b hlt]
    exact hbk
  have d0 : w2.cell? ⟨b, 0, none⟩ = some (.pointer (some ⟨b, 0, none⟩)) := by rw [Lib.cell_of_heap hb2]; rfl
  have d1 : w2.cell? ⟨b, 1, none⟩ = some (.slice ao bs.length cap) := by rw [Lib.cell_of_heap hb2]; rfl
  have f1 : w2.frozen? ⟨b, 1, none⟩ = false := Lib.frozen_of_heap hb2 1
  obtain ⟨g, cap', rfl⟩ : ∃ g cap', v' = .slice (some ⟨g, 0, none⟩) (bs.length + (Lib.runeCells r).length) cap' := by
    rcases hown'.2 with ⟨_, h0⟩ | ⟨g, cap', cur, fz, hv, _⟩
    · omega
    · exact ⟨g, cap', hv⟩
  go_wp2
  go_ret2
  refine ⟨?_, ?_, ?_, ((hk1.alloc _).grown hgrow (Lib.ownsRowF_kind (hown.alloc _))).setCell ⟨b, 1, none⟩ rfl _⟩
  · have e : ((bs.length : Int) + ((Lib.runeCells r).length : Int) - (bs.length : Int)) = ((Lib.runeCells r).length : Int) := by omega
    simp [e]
  · exact Lib.BuilderAtF.put (T := TB) (e := 5) hB hb2 (bs' := bs ++ Lib.runeCells r) (by simpa using hown') (by decide)
  · exact ((hb1.alloc (by have := hb1.size; omega) _).grown hgrow (by have := hb1.size; simp; omega) (fun k hk => (hown.lt k hk).1)).setCell (p := ⟨b, 1, none⟩) hB _
end Go.Proofs.YtnfkndaggcklkaaGreatDoor.U

namespace Go.Proofs.YtnfkndaggcklkaaGreatDoor.U
open Go.RowKit Go.RunKit Go.UtfKit Go.Lib

theorem Tryz.underRunes : Tryz.prog.underlying 163 = some (.slice 21) := by kernel_rfl

theorem cell_one {w : World} {b : Nat} {v : Value} {t : TypeId} (h : w.heap[b]? = some (Obj.cells #[v] t (0, 0))) : w.cell? ⟨b, 0, none⟩ = some v := by rw [cell_of_row _ _ _ _ _ _ h]; rfl
theorem heap_setCell_one (w : World) (b : Nat) (v v' : Value) (t : TypeId) (h : w.heap[b]? = some (Obj.cells #[v] t (0, 0))) : (w.setCell ⟨b, 0, none⟩ v').heap[b]? = some (Obj.cells #[v'] t (0, 0)) := by
  simp [World.setCell, Array.getElem?_modify, h]
theorem heap_setCell_other (w : World) (b k : Nat) (v' : Value) (h : k ≠ b) : (w.setCell ⟨b, 0, none⟩ v').heap[k]? = w.heap[k]? := Below.heap_setCell _ _ _ _ h

theorem parts_len (s : ByteArray) : ∀ (f i : Nat), (partsF s f i).length ≤ f
  | 0, _ => Nat.le_refl _
  | f + 1, i => by
    unfold partsF
    split
    · have := parts_len s f (i + (cutAt s i).len)
      simp; omega
    · simp

end Go.Proofs.YtnfkndaggcklkaaGreatDoor.U

namespace Go.Proofs.YtnfkndaggcklkaaGreatDoor.U
open Go.RowKit Go.RunKit Go.UtfKit Go.Lib Go.Shelf

/-- What the closure of Decode makes of a part: whether it was a carriage return; the bytes told so far. -/
def takePart (a : Bool × List Value) (p : Part) : Bool × List Value :=
  (decide (p.char = 13), if a.1 = true ∧ p.char = 10 then a.2 else if p.char = 13 then a.2 ++ runeCells 10 else a.2 ++ runeCells (p.char : Nat))
def taken (d : List Part) : Bool × List Value := d.foldl takePart (false, [])
theorem taken_snoc (d : List Part) (p : Part) : taken (d ++ [p]) = takePart (taken d) p := by simp [taken]
theorem takePart_len (a : Bool × List Value) (p : Part) : (takePart a p).2.length ≤ a.2.length + 4 := by
  unfold takePart
  have h1 := runeCells_le 10
  have h2 := runeCells_le (p.char : Nat)
  simp only
  repeat' split
  all_goals simp
  all_goals omega
theorem foldl_len : ∀ (d : List Part) (a : Bool × List Value), (d.foldl takePart a).2.length ≤ a.2.length + 4 * d.length
  | [], a => by simp
  | p :: r, a => by
    have h1 := foldl_len r (takePart a p)
    have h2 := takePart_len a p
    simp only [List.foldl_cons, List.length_cons]
    omega
theorem taken_len (d : List Part) : (taken d).2.length ≤ 4 * d.length := by simpa [taken] using foldl_len d (false, [])

/-- What the closure of Decode keeps: the builder in the first block behind w0's, the mark in the second. -/
structure DecInv (w0 : World) (d : List Part) (w : World) : Prop where
  below : Below w0.heap.size w0 w
  mark : w.heap[w0.heap.size + 1]? = some (Obj.cells #[.bool (taken d).1] 4 (0, 0))
  built : IsBuilderF TB 5 w0.heap.size w0.heap.size (taken d).2 w

theorem builderAt_blocks {T e : TypeId} {B b : Nat} {p : Value} {bs : List Value} {w w' : World} (h : BuilderAtF T e B b p bs w) (hk : ∀ (k : Nat) (c : Array Value) (t : TypeId) (fr : Nat × Nat), (k = b ∨ t = e) → w.heap[k]? = some (Obj.cells c t fr) → w'.heap[k]? = some (Obj.cells c t fr)) : BuilderAtF T e B b p bs w' := by
  obtain ⟨hB, v, hb, hown, hne⟩ := h
  refine ⟨hB, v, hk _ _ _ _ (.inl rfl) hb, ⟨hown.1, ?_⟩, hne⟩
  rcases hown.2 with h | ⟨g, cap, cur, fz, e1, e2, e3, e4⟩
  · exact .inl h
  · exact .inr ⟨g, cap, cur, fz, e1, e2, hk _ _ _ _ (.inr rfl) e3, e4⟩
theorem isBuilder_blocks {T e : TypeId} {B b : Nat} {bs : List Value} {w w' : World} (h : IsBuilderF T e B b bs w) (hk : ∀ (k : Nat) (c : Array Value) (t : TypeId) (fr : Nat × Nat), (k = b ∨ t = e) → w.heap[k]? = some (Obj.cells c t fr) → w'.heap[k]? = some (Obj.cells c t fr)) : IsBuilderF T e B b bs w' :=
  h.imp (fun h => builderAt_blocks h hk) (fun h => builderAt_blocks h hk)

set_option maxRecDepth 100000 in
set_option maxHeartbeats 2000000 in
theorem decode1_any (w0 : World) (d : List Part) (p : Part) (w : World) (h : DecInv w0 d w) (hp : p.char ≤ 1114111) (hlen : d.length + 1 ≤ 1099511627776) :
    Calls Tryz.prog 74 (#[.int .i32 (p.char : Nat)] ++ #[.pointer (some ⟨w0.heap.size + 1, 0, none⟩), .pointer (some ⟨w0.heap.size, 0, none⟩)]) w fun e w' => e = .returned (.tuple #[]) ∧ DecInv w0 (d ++ [p]) w' ∧ w.heap.size ≤ w'.heap.size ∧
      ∀ (k : Nat) (t : ByteArray) (pos : Nat), w.heap[k]? = some (Obj.stringIter t pos) → w'.heap[k]? = some (Obj.stringIter t pos) := by
  obtain ⟨hb, hm, hbu⟩ := h
  have hl := taken_len d
  have hsn := taken_snoc d p
  generalize ht : taken d = t0 at *
  obtain ⟨ret, out⟩ := t0
  simp only at hm hbu hl
  -- the world behind the mark's store
  have hm2 : ∀ v', (w.setCell ⟨w0.heap.size + 1, 0, none⟩ v').heap[w0.heap.size + 1]? = some (Obj.cells #[v'] 4 (0, 0)) := fun v' => heap_setCell_one _ _ _ _ _ hm
  have hbs : ∀ v', IsBuilderF TB 5 w0.heap.size w0.heap.size out (w.setCell ⟨w0.heap.size + 1, 0, none⟩ v') := fun v' => isBuilder_blocks hbu fun k c t fr hk hc => by
    rw [heap_setCell_other _ _ _ _ ?_]
    · exact hc
    · rintro rfl
      rcases hk with hk | hk
      · omega
      · rw [hm] at hc; cases hc; revert hk; decide
  have hbb : ∀ v', Below w0.heap.size w0 (w.setCell ⟨w0.heap.size + 1, 0, none⟩ v') := fun v' => hb.setCell (by simp) v'
  have hit : ∀ v' (k : Nat) (t : ByteArray) (pos : Nat), w.heap[k]? = some (Obj.stringIter t pos) → (w.setCell ⟨w0.heap.size + 1, 0, none⟩ v').heap[k]? = some (Obj.stringIter t pos) := fun v' k t pos hk => by
    rw [heap_setCell_other _ _ _ _ ?_]
    · exact hk
    · rintro rfl; rw [hm] at hk; cases hk
  have hcell : w.cell? ⟨w0.heap.size + 1, 0, none⟩ = some (.bool ret) := cell_one hm
  have hfr : w.frozen? ⟨w0.heap.size + 1, 0, none⟩ = false := frozen_of_row _ _ _ _ _ hm
  have hc2 : ∀ v', (w.setCell ⟨w0.heap.size + 1, 0, none⟩ v').cell? ⟨w0.heap.size + 1, 0, none⟩ = some v' := fun v' => cell_one (hm2 v')
  have HX := Lib.hid (And.intro hm2 (And.intro hbs (And.intro hbb hit)))
  have HS := Lib.hid hsn
  have HT := Lib.hid ht
  clear hm2 hbs hbb hit hm hbu hb hsn ht
  have FIN : Hid (∀ (m : Bool) (out2 : List Value) (w2 : World), takePart (ret, out) p = (m, out2) → IsBuilderF TB 5 w0.heap.size w0.heap.size out2 w2 → Below w0.heap.size (w.setCell ⟨w0.heap.size + 1, 0, none⟩ (.bool m)) w2 →
      OthersKept 5 (some w0.heap.size) (w.setCell ⟨w0.heap.size + 1, 0, none⟩ (.bool m)) w2 → DecInv w0 (d ++ [p]) w2 ∧ w.heap.size ≤ w2.heap.size ∧ ∀ (k : Nat) (t : ByteArray) (pos : Nat), w.heap[k]? = some (Obj.stringIter t pos) → w2.heap[k]? = some (Obj.stringIter t pos)) := Lib.hid (by
    intro m out2 w2 htp hbu2 hb2 hk2
    have e := HS.out
    rw [htp] at e
    have hbl : ∃ c t fr, (w.setCell ⟨w0.heap.size + 1, 0, none⟩ (.bool m)).heap[w0.heap.size]? = some (Obj.cells c t fr) := by
      rcases HX.out.2.1 (.bool m) with ⟨_, v, hv, _⟩ | ⟨_, v, hv, _⟩
      · exact ⟨_, _, _, hv⟩
      · exact ⟨_, _, _, hv⟩
    refine ⟨⟨(HX.out.2.2.1 _).trans hb2, ?_, ?_⟩, ?_, ?_⟩
    · rw [e]
      exact hk2 _ _ (HX.out.1 _) (by simp) (fun c fz e => by cases e)
    · rw [e]; exact hbu2
    · have := hb2.size
      simpa [World.setCell] using this
    · intro k t pos hk
      refine hk2 _ _ (HX.out.2.2.2 _ _ _ _ hk) ?_ (fun c fz e => by cases e)
      intro ek
      obtain ⟨c, t', fr, hv⟩ := hbl
      cases ek
      rw [HX.out.2.2.2 _ _ _ _ hk] at hv
      cases hv)
  have HB : Hid (∀ (m : Bool) (r : Int), -2147483648 ≤ r → r ≤ 2147483647 → Calls Tryz.prog 75 #[.pointer (some ⟨w0.heap.size, 0, none⟩), .int .i32 r] (w.setCell ⟨w0.heap.size + 1, 0, none⟩ (.bool m)) fun e w' => e = .returned (.tuple #[.int .i64 (Lib.runeCells r).length, .nilIface]) ∧
      (Lib.BuilderAtF TB 5 w0.heap.size w0.heap.size (.pointer (some ⟨w0.heap.size, 0, none⟩)) (out ++ Lib.runeCells r) w' ∧ Below w0.heap.size (w.setCell ⟨w0.heap.size + 1, 0, none⟩ (.bool m)) w' ∧ Lib.OthersKept 5 (some w0.heap.size) (w.setCell ⟨w0.heap.size + 1, 0, none⟩ (.bool m)) w')) := Lib.hid (fun m r h1 h2 =>
    writeRune_any _ _ out r h1 h2 _ (HX.out.2.1 _) (by omega) (HX.out.2.2.1 _).size)
  by_cases c13 : p.char = 13
  · have d13 : (p.char : Int) = 13 := by omega
    have T : Hid (takePart (ret, out) p = (true, out ++ runeCells 10)) := Lib.hid (by simp [takePart, c13])
    cases ret
    all_goals
      go_enter Tryz.func74, Tryz.ntmps74
      go_wp2_with (go_at_call 75; refine (HB.out true 10 (by omega) (by omega)).mono ?_; rintro e w2 ⟨rfl, hbu2, hb2, hk2⟩)
      go_end0
      exact ⟨rfl, FIN.out _ _ _ T.out (.inr hbu2) hb2 hk2⟩
  · have d13 := eq_false (show ¬ (p.char : Int) = 13 by omega)
    by_cases c10 : p.char = 10
    · have d10 : (p.char : Int) = 10 := by omega
      cases ret with
      | true =>
        have T : Hid (takePart (true, out) p = (false, out)) := Lib.hid (by simp [takePart, c10])
        go_enter Tryz.func74, Tryz.ntmps74
        go_wp2
        go_end0
        exact ⟨rfl, FIN.out _ _ _ T.out (HX.out.2.1 _) (Below.refl _ _) (OthersKept.refl _ _ _)⟩
      | false =>
        have T : Hid (takePart (false, out) p = (false, out ++ runeCells 10)) := Lib.hid (by simp [takePart, c10])
        go_enter Tryz.func74, Tryz.ntmps74
        go_wp2_with (go_at_call 75; refine (HB.out false 10 (by omega) (by omega)).mono ?_; rintro e w2 ⟨rfl, hbu2, hb2, hk2⟩)
        go_end0
        exact ⟨rfl, FIN.out _ _ _ T.out (.inr hbu2) hb2 hk2⟩
    · have d10 := eq_false (show ¬ (p.char : Int) = 10 by omega)
      have T : Hid (takePart (ret, out) p = (false, out ++ runeCells (p.char : Nat))) := Lib.hid (by simp [takePart, c10, c13])
      cases ret
      all_goals
        go_enter Tryz.func74, Tryz.ntmps74
        go_wp2_with (go_at_call 75; refine (HB.out false (p.char : Nat) (by omega) (by omega)).mono ?_; rintro e w2 ⟨rfl, hbu2, hb2, hk2⟩)
        go_end0
        exact ⟨rfl, FIN.out _ _ _ T.out (.inr hbu2) hb2 hk2⟩

theorem dec_takes (s : ByteArray) (w0 : World) (ht : Tabs w0) (n0 : Nat) (hn : w0.heap.size + 1 < n0) (hsz : s.size + 1 ≤ 1099511627776) (hch : ∀ p ∈ parts s, p.char ≤ 1114111) :
    Takes Tryz.prog 74 #[.pointer (some ⟨w0.heap.size + 1, 0, none⟩), .pointer (some ⟨w0.heap.size, 0, none⟩)] s n0 (DecInv w0) where
  enters := enters_of Tryz.func74 (by kernel_rfl) rfl
  tabs := fun _ _ h => ht.on h.below
  beside := fun d w w' h hb => ⟨⟨hb.os.trans h.below.os, hb.tape.trans h.below.tape, hb.output.trans h.below.output, Nat.le_trans h.below.size hb.size, fun k hk => by rw [hb.low k (by omega)]; exact h.below.block k hk⟩,
    hb.cells _ _ _ _ h.mark, isBuilder_blocks h.built fun k c t fr _ hc => hb.cells _ _ _ _ hc⟩
  step := fun d p r w hd h => decode1_any w0 d p w h (hch p (by rw [← hd]; simp)) (by
    have h1 := parts_len s (s.size - 0) 0
    change (parts s).length ≤ _ at h1
    rw [← hd] at h1
    simp at h1; omega)
end Go.Proofs.YtnfkndaggcklkaaGreatDoor.U

namespace Go.RunKit
open Go Go.RowKit

/-- A world that is as w below w's own blocks. -/
structure Over (w : World) where
  out : World
  below : Below w.heap.size w out

def Over.same (w : World) : Over w := ⟨w, Below.refl _ _⟩
instance (w : World) : Inhabited (Over w) := ⟨Over.same w⟩
def Over.drew {w : World} (p : Over w) : Over w := ⟨p.out.drew, p.below.drew⟩
def Over.on {w w' : World} (p : Over w) (h : Below p.out.heap.size p.out w') : Over w := ⟨w', p.below.trans (h.mono p.below.size)⟩

theorem wp_region_below {P : Program} {id : Nat} {Q : Exit → Act → World → Prop} {a : Act} {w : World} {l : List Oper} (hm : P.follows .mixedOrders = true) (hB : Region.lexB .any l.toArray = true)
    (h : wpQuiet P l.toArray (fun w' => ∃ p : Over w, w' = p.out) (fun a' => ∀ w', (∃ p : Over w, w' = p.out) → Q .normal a' w') l a) : (Code.region id l.toArray true).wp P Q a w :=
  wp_region_quiet (C := fun w' => ∃ p : Over w, w' = p.out) hm hB ⟨(Over.same w).drew, rfl⟩ (by simpa using h)

theorem Over.cell {w : World} (p : Over w) {a : Addr} {v : Value} (h : w.cell? a = some v) : p.out.cell? a = some v := by
  have hb := World.block_lt_of_cell? _ _ h
  rw [p.below.cell hb]; exact h

/-- A callee's contract in a world of the class. -/
theorem calls_over {P : Program} {f : FuncId} {args : Array Value} {w : World} {p : Over w} {v : Value} (h : Calls P f args p.out fun e w' => e = .returned v ∧ Below p.out.heap.size p.out w') :
    Calls P f args p.out fun e w'' => e = .returned v ∧ ∃ q : Over w, w'' = q.out := h.mono fun _ _ ⟨he, hb⟩ => ⟨he, p.on hb, rfl⟩
end Go.RunKit

namespace Go.Proofs.YtnfkndaggcklkaaGreatDoor.U
open Go.RowKit Go.RunKit Go.UtfKit Go.Lib Go.Shelf

theorem parts_mem (s : ByteArray) : ∀ (f i : Nat) (p : Part), p ∈ partsF s f i → ∃ j, j < s.size ∧ p = cutAt s j
  | 0, _, _, h => by simp [partsF] at h
  | f + 1, i, p, h => by
    unfold partsF at h
    split at h
    · rcases List.mem_cons.1 h with rfl | h
      · exact ⟨i, by assumption, rfl⟩
      · exact parts_mem s f _ p h
    · simp at h
theorem parts_chars (s : ByteArray) : ∀ p ∈ parts s, p.char ≤ 1114111 := by
  intro p hp
  obtain ⟨j, hj, rfl⟩ := parts_mem s _ _ p hp
  have hv := decodeN_valid (s.size - j) (byteAt s j) (byteAt s (j + 1)) (byteAt s (j + 2)) (byteAt s (j + 3)) (byteAt_lt _ _)
  rw [decode_cut _ _ _ _ _ (byteAt_lt _ _) (byteAt_lt _ _) (byteAt_lt _ _) (byteAt_lt _ _)] at hv
  cases ho : (cutAt s j).ok with
  | false =>
    have := cut_char_bad _ _ _ _ _ ho
    change (cutAt s j).char = 65533 at this
    omega
  | true =>
    change (if (cutAt s j).ok = true then ((cutAt s j).char, (cutAt s j).len) else (65533, 1)).1 < 55296 ∨ (57343 < (if (cutAt s j).ok = true then ((cutAt s j).char, (cutAt s j).len) else (65533, 1)).1 ∧ (if (cutAt s j).ok = true then ((cutAt s j).char, (cutAt s j).len) else (65533, 1)).1 ≤ 1114111) at hv
    rw [ho] at hv
    simp only [if_true] at hv
    omega

/-- The bytes told. -/
def takeByte (a : Bool × List UInt8) (p : Part) : Bool × List UInt8 :=
  (decide (p.char = 13), if a.1 = true ∧ p.char = 10 then a.2 else if p.char = 13 then a.2 ++ encodeRune 10 else a.2 ++ encodeRune (p.char : Nat))
def told (d : List Part) : List UInt8 := (d.foldl takeByte (false, [])).2
theorem taken_bytes : ∀ (d : List Part) (m : Bool) (l : List UInt8), d.foldl takePart (m, byteCells l) = ((d.foldl takeByte (m, l)).1, byteCells (d.foldl takeByte (m, l)).2)
  | [], _, _ => rfl
  | p :: r, m, l => by
    simp only [List.foldl_cons]
    have e : takePart (m, byteCells l) p = ((takeByte (m, l) p).1, byteCells (takeByte (m, l) p).2) := by
      unfold takePart takeByte
      simp only
      repeat' split
      all_goals (try rfl)
      all_goals simp [byteCells]
      all_goals exact (byteCells_encodeRune _).symm
    rw [e]
    exact taken_bytes r _ _
theorem taken_told (d : List Part) : (taken d).2 = byteCells (told d) := by
  have := taken_bytes d false []
  unfold taken told
  rw [show (false, ([] : List Value)) = (false, byteCells []) from rfl, this]

set_option maxRecDepth 100000 in
set_option maxHeartbeats 1000000 in
/-- Decode: the bytes of a slice, whatever it is, that reads as the text s. -/
theorem decode_any (a : Option Addr) (n cap : Nat) (s : ByteArray) (w : World) (ht : Tabs w) (hn : n ≤ 65536) (hs : s.size = n) (hconv : ∀ p : Over w, (convert 42 9 (.slice a n cap)).run Tryz.prog p.out = .ok (.string s) p.out) :
    Calls Tryz.prog 41 #[.slice a n cap] w fun e w' => e = .returned (.tuple #[.string ⟨(told (parts s)).toArray⟩, .int .i64 0]) ∧ Below w.heap.size w w' := by
  have b1 : Below w.heap.size w (w.alloc (.cells #[.pointer none, .slice none 0 0] TB)) := (Below.refl _ _).alloc (Nat.le_refl _) _
  have b2 : Below w.heap.size w ((w.alloc (.cells #[.pointer none, .slice none 0 0] TB)).alloc (.cells #[.bool false] 4)) := b1.alloc (by simp) _
  have hcv : (convert 42 9 (.slice a n cap)).run Tryz.prog ((w.alloc (.cells #[.pointer none, .slice none 0 0] TB)).alloc (.cells #[.bool false] 4)) = .ok (.string s) ((w.alloc (.cells #[.pointer none, .slice none 0 0] TB)).alloc (.cells #[.bool false] 4)) := hconv ⟨_, b2⟩
  have h0 : DecInv w [] ((w.alloc (.cells #[.pointer none, .slice none 0 0] TB)).alloc (.cells #[.bool false] 4)) := ⟨b2, by
      have := heap_alloc_new (w.alloc (.cells #[.pointer none, .slice none 0 0] TB)) (.cells #[.bool false] 4)
      simpa [taken] using this, .inl ⟨Nat.le_refl _, .slice none 0 0, by
      rw [Below.heap_alloc _ _ _ (by simp)]; exact heap_alloc_new w _, World.ownsRowF_nil _ _ _ _, by simp [Value.ownBlock]⟩⟩
  have hc := each_any 74 #[.pointer (some ⟨w.heap.size + 1, 0, none⟩), .pointer (some ⟨w.heap.size, 0, none⟩)] s (DecInv w) _ (dec_takes s w ht _ (by simp) (by omega) (parts_chars s)) h0 (by omega)
  have HC := Lib.hid hc
  have hnI : ((n : Nat) : Int) ≤ 65536 := by omega
  have hnF := eq_false (show ¬ (65536 : Int) < (n : Int) by omega)
  clear hc h0 b1 b2 hconv
  go_enter Tryz.func41, Tryz.ntmps41
  go_wp2_with (first
    | (go_at_call 73; refine HC.out.mono ?_; rintro e w1 ⟨rfl, hI⟩; have hbu := hI.built; rw [taken_told] at hbu; have HX := Lib.hid (And.intro hI hbu); clear hI hbu)
    | (go_at_call 56; refine (Tryz.Builder_String_any_f _ _ (told (parts s)) _ HX.out.2 HX.out.1.below.size).mono ?_; rintro e w2 ⟨rfl, _, hb2⟩))
  go_ret2
  exact ⟨rfl, HX.out.1.below.trans hb2⟩
end Go.Proofs.YtnfkndaggcklkaaGreatDoor.U

namespace Go.Proofs.YtnfkndaggcklkaaGreatDoor.U
open Go.RowKit Go.RunKit Go.UtfKit Go.Lib

theorem sec_cases {a b : Nat} (h : sec a b = true) : 128 ≤ b ∧ b ≤ 191 ∧ (a = 224 → 160 ≤ b) ∧ (a = 237 → b ≤ 159) ∧ (a = 240 → 144 ≤ b) ∧ (a = 244 → b ≤ 143) := by
  unfold sec at h
  repeat' split at h
  all_goals simp at h
  all_goals omega
theorem tailB_cases {b : Nat} (h : tailB b = true) : 128 ≤ b ∧ b ≤ 191 := by simpa [tailB] using h

theorem encode_part (n b0 b1 b2 b3 : Nat) (h : (cutN n b0 b1 b2 b3).ok = true) :
    encodeRuneZ ((cutN n b0 b1 b2 b3).char : Nat) = [(b0 : Int), b1, b2, b3].take (cutN n b0 b1 b2 b3).len := by
  by_cases c1 : b0 < 128
  · have e : cutN n b0 b1 b2 b3 = ⟨b0, 1, true⟩ := by unfold cutN; rw [if_pos c1]
    rw [e]
    exact encodeRuneZ_one (by simp) (by simp only; omega)
  by_cases c2 : b0 < 194
  · have e : cutN n b0 b1 b2 b3 = ⟨65533, 1, false⟩ := by unfold cutN; rw [if_neg c1, if_pos c2]
    rw [e] at h; cases h
  by_cases c3 : b0 < 224
  · by_cases h1 : 1 < n ∧ sec b0 b1 = true
    · have e : cutN n b0 b1 b2 b3 = ⟨b0 % 32 * 64 + b1 % 64, 2, true⟩ := by unfold cutN; rw [if_neg c1, if_neg c2, if_pos c3, if_pos h1]
      have hs := sec_cases h1.2
      rw [e]
      simp only
      rw [encodeRuneZ_two (by omega) (by omega)]
      simp only [List.take_succ_cons, List.take_zero]
      congr 1
      · omega
      · congr 1; omega
    · have e : cutN n b0 b1 b2 b3 = ⟨65533, 1, false⟩ := by unfold cutN; rw [if_neg c1, if_neg c2, if_pos c3, if_neg h1]
      rw [e] at h; cases h
  by_cases c4 : b0 < 240
  · by_cases h1 : 1 < n ∧ sec b0 b1 = true
    · by_cases h2 : 2 < n ∧ tailB b2 = true
      · have e : cutN n b0 b1 b2 b3 = ⟨b0 % 16 * 4096 + b1 % 64 * 64 + b2 % 64, 3, true⟩ := by unfold cutN; rw [if_neg c1, if_neg c2, if_neg c3, if_pos c4, if_pos h1, if_pos h2]
        have hs := sec_cases h1.2
        have ht := tailB_cases h2.2
        rw [e]
        simp only
        rw [encodeRuneZ_three (by omega)]
        simp only [List.take_succ_cons, List.take_zero]
        congr 1
        · omega
        · congr 1
          · omega
          · congr 1; omega
      · have e : cutN n b0 b1 b2 b3 = ⟨65533, 2, false⟩ := by unfold cutN; rw [if_neg c1, if_neg c2, if_neg c3, if_pos c4, if_pos h1, if_neg h2]
        rw [e] at h; cases h
    · have e : cutN n b0 b1 b2 b3 = ⟨65533, 1, false⟩ := by unfold cutN; rw [if_neg c1, if_neg c2, if_neg c3, if_pos c4, if_neg h1]
      rw [e] at h; cases h
  by_cases c5 : b0 < 245
  · by_cases h1 : 1 < n ∧ sec b0 b1 = true
    · by_cases h2 : 2 < n ∧ tailB b2 = true
      · by_cases h3 : 3 < n ∧ tailB b3 = true
        · have e : cutN n b0 b1 b2 b3 = ⟨b0 % 8 * 262144 + b1 % 64 * 4096 + b2 % 64 * 64 + b3 % 64, 4, true⟩ := by unfold cutN; rw [if_neg c1, if_neg c2, if_neg c3, if_neg c4, if_pos c5, if_pos h1, if_pos h2, if_pos h3]
          have hs := sec_cases h1.2
          have ht := tailB_cases h2.2
          have hu := tailB_cases h3.2
          rw [e]
          simp only
          rw [encodeRuneZ_four (by omega) (by omega)]
          simp only [List.take_succ_cons, List.take_zero]
          congr 1
          · omega
          · congr 1
            · omega
            · congr 1
              · omega
              · congr 1; omega
        · have e : cutN n b0 b1 b2 b3 = ⟨65533, 3, false⟩ := by unfold cutN; rw [if_neg c1, if_neg c2, if_neg c3, if_neg c4, if_pos c5, if_pos h1, if_pos h2, if_neg h3]
          rw [e] at h; cases h
      · have e : cutN n b0 b1 b2 b3 = ⟨65533, 2, false⟩ := by unfold cutN; rw [if_neg c1, if_neg c2, if_neg c3, if_neg c4, if_pos c5, if_pos h1, if_neg h2]
        rw [e] at h; cases h
    · have e : cutN n b0 b1 b2 b3 = ⟨65533, 1, false⟩ := by unfold cutN; rw [if_neg c1, if_neg c2, if_neg c3, if_neg c4, if_pos c5, if_neg h1]
      rw [e] at h; cases h
  · have e : cutN n b0 b1 b2 b3 = ⟨65533, 1, false⟩ := by unfold cutN; rw [if_neg c1, if_neg c2, if_neg c3, if_neg c4, if_neg c5]
    rw [e] at h; cases h

/-- The bytes of a well-formed part, as they stand in the text. -/
theorem encode_at (s : ByteArray) (i : Nat) (hi : i < s.size) (h : (cutAt s i).ok = true) : encodeRune ((cutAt s i).char : Nat) = (s.extract i (i + (cutAt s i).len)).data.toList := by
  have hl := cutAt_len s i hi
  have h1 := encode_part _ _ _ _ _ h
  change encodeRuneZ ((cutAt s i).char : Nat) = _ at h1
  have hlen : (cutAt s i).len ≤ 4 := by
    have := (encodeRuneZ_length ((cutAt s i).char : Nat)).2
    rcases cut_cases (s.size - i) (byteAt s i) (byteAt s (i + 1)) (byteAt s (i + 2)) (byteAt s (i + 3)) with ⟨_, e⟩ | ⟨_, ⟨_, _, e⟩ | ⟨_, _, e⟩⟩ | ⟨_, ⟨_, _, _, e⟩ | ⟨_, _, _, e⟩ | ⟨_, _, e⟩⟩ | ⟨_, ⟨_, _, _, _, e⟩ | ⟨_, _, _, _, e⟩ | ⟨_, _, _, e⟩ | ⟨_, _, e⟩⟩
    all_goals (change (cutAt s i).len = _ at e; omega)
  change encodeRuneZ ((cutAt s i).char : Nat) = [(byteAt s i : Int), byteAt s (i + 1), byteAt s (i + 2), byteAt s (i + 3)].take (cutAt s i).len at h1
  unfold encodeRune
  rw [h1]
  generalize (cutAt s i).len = n at *
  have hb : ∀ k, k < s.size → s.data.toList[k]? = some ((byteAt s k : Int).toNat.toUInt8) := fun k hk => by
    have hk' : k < s.data.toList.length := by simpa using hk
    rw [List.getElem?_eq_getElem hk', byteAt_get s k hk]
    simp
    rfl
  apply List.ext_getElem?
  intro j
  have er : (s.extract i (i + n)).data.toList[j]? = if j < n then s.data.toList[i + j]? else none := by
    simp [List.getElem?_take, List.getElem?_drop]
  rw [er]
  by_cases hj : j < n
  · rw [if_pos hj, hb (i + j) (by omega), List.getElem?_map, List.getElem?_take, if_pos hj]
    rcases (by omega : j = 0 ∨ j = 1 ∨ j = 2 ∨ j = 3) with rfl | rfl | rfl | rfl <;> rfl
  · rw [if_neg hj, List.getElem?_map, List.getElem?_take, if_neg hj]
    rfl
end Go.Proofs.YtnfkndaggcklkaaGreatDoor.U

