/-
  eachPart of utf hands on the character of each part of a text, whatever the closure that takes them. Conditions: what the closure keeps is not turned by what lies beside it; the library's two tables hold what its text lays.
-/
import Derived.Test.YtmhdocgoeahbdaaGreatDoorUBeg
import Derived.Deep.LoopGhost
import Derived.Shelf.Abstract
import Derived.Lib.OthersKept
namespace Go.Proofs.YtmhdocgoeahbdaaGreatDoor.U
open Go.RowKit Go.RunKit Go.UtfKit Go.Lib Go.Shelf

/-- A world in which iterators may have gone on, and blocks have been laid: all below n0, and all cells, are as they were. -/
structure Beside (n0 : Nat) (w w' : World) : Prop where
  os : w'.os = w.os
  tape : w'.tape = w.tape
  output : w'.output = w.output
  size : w.heap.size ≤ w'.heap.size
  low : ∀ k : Nat, k < n0 → w'.heap[k]? = w.heap[k]?
  cells : ∀ (k : Nat) (c : Array Value) (t : TypeId) (fr : Nat × Nat), w.heap[k]? = some (Obj.cells c t fr) → w'.heap[k]? = some (Obj.cells c t fr)
theorem Beside.of_below {n0 : Nat} {w w' : World} (h : Below w.heap.size w w') (hn : n0 ≤ w.heap.size) : Beside n0 w w' :=
  ⟨h.os, h.tape, h.output, h.size, fun k hk => h.block k (by omega), fun k c t fr hk => by
    have hlt : k < w.heap.size := (Array.getElem?_eq_some_iff.1 hk).1
    rw [h.block k hlt]; exact hk⟩
theorem Beside.iterAt {n0 : Nat} {w : World} {k pos pos' : Nat} {s : ByteArray} (hk : w.heap[k]? = some (Obj.stringIter s pos)) (hn : n0 ≤ k) : Beside n0 w (w.iterAt k s pos') :=
  ⟨rfl, rfl, rfl, by rw [iterAt_size]; exact Nat.le_refl _, fun j hj => iterAt_other w k j s pos' (by omega), fun j c t fr hj => by
    by_cases e : j = k
    · subst e; rw [hk] at hj; cases hj
    · rw [iterAt_other w k j s pos' e]; exact hj⟩

/-- What a closure that takes the characters of s keeps: 'Inv d w': behind the parts d it stands so. -/
structure Takes (P : Program) (g : FuncId) (cb : Array Value) (s : ByteArray) (n0 : Nat) (Inv : List Part → World → Prop) : Prop where
  enters : ∀ args w, (callFunc g args).run P w = .ok (.enter g args) w
  tabs : ∀ d w, Inv d w → Tabs w
  beside : ∀ d w w', Inv d w → Beside n0 w w' → Inv d w'
  step : ∀ d p r w, d ++ p :: r = parts s → Inv d w → Calls P g (#[.int .i32 (p.char : Nat)] ++ cb) w fun e w' => e = .returned (.tuple #[]) ∧ Inv (d ++ [p]) w' ∧ w.heap.size ≤ w'.heap.size ∧ ∀ (k : Nat) (t : ByteArray) (pos : Nat), w.heap[k]? = some (Obj.stringIter t pos) → w'.heap[k]? = some (Obj.stringIter t pos)

theorem byteAt_drop (s : ByteArray) (pos i : Nat) : byteAt (s.extract pos s.size) i = byteAt s (pos + i) := by
  by_cases h : pos + i < s.size
  · have h1 : i < (s.extract pos s.size).size := by simp; omega
    rw [byteAt_get _ _ h1, byteAt_get s _ h]
    congr 1
    simp [ByteArray.getElem_extract]
  · have h1 : ¬ i < (s.extract pos s.size).size := by simp; omega
    have e : ∀ (t : ByteArray) (j : Nat), ¬ j < t.size → byteAt t j = 0 := fun t j hj => by
      unfold byteAt
      have : t.data[j]! = default := getElem!_neg _ _ hj
      show (t.data[j]!).toNat = 0
      rw [this]; rfl
    rw [e _ _ h1, e _ _ h]
theorem begAt_drop (s : ByteArray) (pos : Nat) : begN (s.extract pos s.size).size (byteAt (s.extract pos s.size) 0) (byteAt (s.extract pos s.size) 1) (byteAt (s.extract pos s.size) 2) = begAt s pos := by
  rw [byteAt_drop, byteAt_drop, byteAt_drop]
  have : (s.extract pos s.size).size = s.size - pos := by simp
  rw [this]; rfl

set_option maxRecDepth 100000 in
set_option maxHeartbeats 2000000 in
theorem each_any (g : FuncId) (cb : Array Value) (s : ByteArray) (Inv : List Part → World → Prop) (w : World) (H : Takes Tryz.prog g cb s w.heap.size Inv) (h0 : Inv [] w) (hsz : s.size < 4611686018427387904) :
    Calls Tryz.prog 67 #[.string s, .func (.func g) #[] cb] w fun e w' => e = .returned (.tuple #[]) ∧ Inv (parts s) w' := by
  have eg := H.enters
  have HH := Lib.hid H
  have HI := Lib.hid h0
  clear H h0
  go_enter Tryz.func67, Tryz.ntmps67
  go_wp2
  have hB : Below w.heap.size w (w.iter s 0) := (Below.refl _ _).alloc (Nat.le_refl _) _
  have hk : (w.iter s 0).heap[w.heap.size]? = some (Obj.stringIter s 0) := World.iter_heap _ _ _
  have hsz0 : w.heap.size < (w.iter s 0).heap.size := (Array.getElem?_eq_some_iff.1 hk).1
  have HJ := Lib.hid (HH.out.beside [] w _ HI.out (Beside.of_below hB (Nat.le_refl _)))
  generalize w.iter s 0 = W at *
  clear hB HI
  generalize w.heap.size = kI at *
  have D0 : Hid (([] : List Part) ++ partsFrom s (max 0 0) = parts s ∧ Ahead s 0 0) := Lib.hid ⟨rfl, ahead_zero s⟩
  go_loopw [4] (fun b wr => ∃ (pos broken : Nat) (d : List Part), b = .int .i64 broken ∧ pos ≤ s.size ∧ wr.heap[kI]? = some (Obj.stringIter s pos) ∧ Hid (Inv d wr) ∧ Hid (d ++ partsFrom s (max pos broken) = parts s ∧ Ahead s pos broken) ∧ kI < wr.heap.size) (fun _ wr => s.size - wr.iterPos kI)
  case atStart => exact ⟨0, 0, [], rfl, Nat.zero_le _, hk, HJ, D0, hsz0⟩
  case round =>
    clear hk HJ D0 hsz0
    obtain ⟨pos, broken, d, rfl, hpos, hk, HJ, HD, hsz0⟩ := hrel
    by_cases hlt : pos < s.size
    · have hnext := fun ty => run_next_any_at (P := Tryz.prog) wr kI s pos ty hk hlt
      by_cases hbr : pos < broken
      · have HA := Lib.hid (ahead_skip HD.out.2 hbr)
        go_wp2
        have e := HA.out.1
        have hb := Beside.iterAt (n0 := kI) (pos' := pos + 1) hk (Nat.le_refl _)
        rw [e]
        exact ⟨⟨pos + 1, broken, d, rfl, by omega, iterAt_heap wr kI s pos _ hk, Lib.hid (HH.out.beside d _ _ HJ.out hb), Lib.hid ⟨by rw [← HD.out.1]; congr 2; omega, HA.out.2⟩, by rw [iterAt_size]; exact hsz0⟩,
          by unfold World.iterPos; rw [iterAt_heap wr kI s pos _ hk, hk]; simp only []; omega⟩
      · have hmax : max pos broken = pos := by omega
        have HP := Lib.hid (ahead_part hlt)
        have HL := Lib.hid (cutAt_len s pos hlt)
        have HE : Hid (d ++ cutAt s pos :: partsFrom s (pos + (cutAt s pos).len) = parts s) := Lib.hid (by rw [← partsFrom_step s pos hlt, ← HD.out.1, hmax])
        have hbr' : ¬ (pos : Int) < broken := by omega
        by_cases hr : (Utf8.decode s pos).1 = 65533
        · have HQ := Lib.hid (HP.out.2.1 hr)
          have hb := Beside.iterAt (n0 := kI) (pos' := pos + (Utf8.decode s pos).2) hk (Nat.le_refl _)
          have HK := Lib.hid (HH.out.beside d _ _ HJ.out hb)
          have HB := Lib.hid (beg_any (s.extract pos s.size) (wr.iterAt kI s (pos + (Utf8.decode s pos).2)) (HH.out.tabs _ _ HK.out) (by simp; omega))
          rw [begAt_drop] at HB
          clear hb
          have hbl : pos + begAt s pos ≤ s.size := by
            have h1 := HQ.out.1.inside
            exact h1
          have HS : Hid (∀ w, Inv d w → Calls Tryz.prog g (#[.int .i32 65533] ++ cb) w fun e w' => e = .returned (.tuple #[]) ∧ Inv (d ++ [cutAt s pos]) w' ∧ w.heap.size ≤ w'.heap.size ∧ ∀ (k : Nat) (t : ByteArray) (pos : Nat), w.heap[k]? = some (Obj.stringIter t pos) → w'.heap[k]? = some (Obj.stringIter t pos)) := Lib.hid fun w hw => by
            have := HH.out.step d (cutAt s pos) _ w HE.out hw
            rwa [← HP.out.1, hr] at this
          have hw64 : wrap64 ((pos : Int) + (begAt s pos : Int)) = ((pos + begAt s pos : Nat) : Int) := by rw [IntWalk.wrap64_in _ ⟨by omega, by omega⟩]; omega
          have hz1 : kI < (wr.iterAt kI s (pos + (Utf8.decode s pos).2)).heap.size := by rw [iterAt_size]; exact hsz0
          have hk1 := iterAt_heap wr kI s pos (pos + (Utf8.decode s pos).2) hk
          have HX := Lib.hid (And.intro hz1 hk1)
          clear hz1 hk1
          go_wp2_with (first
            | (go_at_call 93; refine HB.out.mono ?_; rintro e w1 ⟨rfl, hb⟩)
            | (go_at_fn g; refine (HS.out _ (HH.out.beside d _ _ HK.out (Beside.of_below hb (Nat.le_of_lt HX.out.1)))).mono ?_; rintro e w2 ⟨rfl, hinv, hs2, hit⟩))
          have h2 : w2.heap[kI]? = some (Obj.stringIter s (pos + (Utf8.decode s pos).2)) := hit kI s _ (by rw [hb.block kI HX.out.1]; exact HX.out.2)
          have hl := HL.out
          have hm := HQ.out.2
          have hw := decode_width_pos s pos hlt
          refine ⟨⟨pos + (Utf8.decode s pos).2, pos + begAt s pos, d ++ [cutAt s pos], by go_num, by omega, h2, Lib.hid hinv, Lib.hid ⟨by rw [hm, List.append_assoc]; exact HE.out, HQ.out.1⟩, (Array.getElem?_eq_some_iff.1 h2).1⟩, ?_⟩
          unfold World.iterPos
          rw [h2, hk]; simp only []; omega
        · have hch : Hid ((Utf8.decode s pos).2 = (cutAt s pos).len) := Lib.hid (HP.out.2.2 hr)
          have hb := Beside.iterAt (n0 := kI) (pos' := pos + (Utf8.decode s pos).2) hk (Nat.le_refl _)
          have HK := Lib.hid (HH.out.beside d _ _ HJ.out hb)
          have HS : Hid (∀ w, Inv d w → Calls Tryz.prog g (#[.int .i32 ((Utf8.decode s pos).1 : Nat)] ++ cb) w fun e w' => e = .returned (.tuple #[]) ∧ Inv (d ++ [cutAt s pos]) w' ∧ w.heap.size ≤ w'.heap.size ∧ ∀ (k : Nat) (t : ByteArray) (pos : Nat), w.heap[k]? = some (Obj.stringIter t pos) → w'.heap[k]? = some (Obj.stringIter t pos)) := Lib.hid fun w hw => by
            have := HH.out.step d (cutAt s pos) _ w HE.out hw
            rwa [← HP.out.1] at this
          clear hb
          have HX := Lib.hid (iterAt_heap wr kI s pos (pos + (Utf8.decode s pos).2) hk)
          have hr' : ¬ ((Utf8.decode s pos).1 : Int) = 65533 := by omega
          go_wp2_with (first
            | (go_at_fn g; refine (HS.out _ HK.out).mono ?_; rintro e w2 ⟨rfl, hinv, hs2, hit⟩))
          have h2 : w2.heap[kI]? = some (Obj.stringIter s (pos + (Utf8.decode s pos).2)) := hit kI s _ HX.out
          have hl := HL.out
          have hw := decode_width_pos s pos hlt
          have hc := hch.out
          refine ⟨⟨pos + (Utf8.decode s pos).2, broken, d ++ [cutAt s pos], rfl, by omega, h2, Lib.hid hinv, Lib.hid ⟨by rw [hc, show max (pos + (cutAt s pos).len) broken = pos + (cutAt s pos).len by omega, List.append_assoc]; exact HE.out, ⟨HD.out.2.inside, fun p h1 h2 => by omega⟩⟩, (Array.getElem?_eq_some_iff.1 h2).1⟩, ?_⟩
          unfold World.iterPos
          rw [h2, hk]; simp only []; omega
    · have hnext := fun ty => run_next_end_at (P := Tryz.prog) wr kI s pos ty hk hlt
      have he : d = parts s := by
        have := HD.out.1
        rw [partsFrom_end s _ (by omega), List.append_nil] at this
        exact this
      subst he
      go_wp2
      go_end0
      exact ⟨rfl, HJ.out⟩
end Go.Proofs.YtmhdocgoeahbdaaGreatDoor.U

