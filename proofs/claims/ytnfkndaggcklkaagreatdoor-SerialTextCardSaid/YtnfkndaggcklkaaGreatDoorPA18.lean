/-
  Escape, EscapeAttr of package serial: what they tell is what the document says. Conditions: the text is no longer than 2^20 bytes.
  The document under way of package serial: strings.Builder at its head; put, putEscaped. Conditions: texts are no longer than 2^20 bytes.
-/
import Derived.Test.YtnfkndaggcklkaaGreatDoorPA17
namespace Go.Proofs.YtnfkndaggcklkaaGreatDoor
open Go.RowKit Go.RunKit Go.UtfKit Go.CharrefKit Go.Lib Go.TokenKit Go.TreeKit Go.SerialKit

theorem cells_two (a : List UInt8) (d : ByteArray) : byteCells (a ++ bl d) = byteCells a ++ Lib.strCells d := by unfold byteCells Lib.strCells; rw [List.map_append]; rfl
theorem ext_le (s : ByteArray) (a b : Nat) : (s.extract a b).size ≤ b - a := by rw [ByteArray.size_extract]; omega
/-- What is held at the loop's head: what lies in the builder; what is pending. -/
structure EscAt (w0 : World) (attr : Bool) (s : ByteArray) (ans : Bytes) (dn pos : Nat) (out : Bytes) (wr : World) : Prop where
  built : Lib.IsBuilderF TB 5 w0.heap.size w0.heap.size (byteCells out) wr
  below : Below w0.heap.size w0 wr
  spec : out ++ ((bl s).drop dn).take (pos - dn) ++ escR attr ((bl s).drop pos) = ans
  room : out.length ≤ 6 * dn
theorem EscAt.moved {w0 wr : World} {attr : Bool} {s : ByteArray} {ans : Bytes} {dn pos kI p : Nat} {out : Bytes} (h : EscAt w0 attr s ans dn pos out wr) (hk : wr.heap[kI]? = some (Obj.stringIter s p)) (hkI : w0.heap.size < kI) (p' : Nat) : EscAt w0 attr s ans dn pos out (wr.iterAt kI s p') := by
  have hb := U.Beside.iterAt (n0 := w0.heap.size) (pos' := p') hk (by omega)
  exact ⟨U.isBuilder_blocks h.built fun k c t fr _ hc => hb.cells _ _ _ _ hc, ⟨hb.os.trans h.below.os, hb.tape.trans h.below.tape, hb.output.trans h.below.output, Nat.le_trans h.below.size hb.size, fun k hk => by rw [hb.low k hk]; exact h.below.block k hk⟩, h.spec, h.room⟩
theorem EscAt.plain {w0 wr : World} {attr : Bool} {s : ByteArray} {ans : Bytes} {dn pos wd : Nat} {out : Bytes} (h : EscAt w0 attr s ans dn pos out wr) (hd : dn ≤ pos) (hs : escR attr ((bl s).drop pos) = ((bl s).drop pos).take wd ++ escR attr ((bl s).drop (pos + wd))) : EscAt w0 attr s ans dn (pos + wd) out wr := by
  refine ⟨h.built, h.below, ?_, h.room⟩
  rw [← h.spec, hs, ← List.append_assoc]
  congr 1
  rw [List.append_assoc]
  congr 1
  have e : (bl s).drop pos = ((bl s).drop dn).drop (pos - dn) := by rw [List.drop_drop]; congr 1; omega
  rw [e, show pos + wd - dn = (pos - dn) + wd by omega, List.take_add]
theorem EscAt.wrote {w0 wr w2 : World} {attr : Bool} {s : ByteArray} {ans : Bytes} {dn pos wd : Nat} {out ref : Bytes} (h : EscAt w0 attr s ans dn pos out wr) (hd : dn ≤ pos) (_hp : pos ≤ s.size) (hwd : 1 ≤ wd) (hr : ref.length ≤ 6) (hs : escR attr ((bl s).drop pos) = ref ++ escR attr ((bl s).drop (pos + wd)))
    (hb : Lib.IsBuilderF TB 5 w0.heap.size w0.heap.size (byteCells (out ++ bl (s.extract dn pos) ++ ref)) w2) (hbe : Below w0.heap.size w0 w2) : EscAt w0 attr s ans (pos + wd) (pos + wd) (out ++ bl (s.extract dn pos) ++ ref) w2 := by
  have e : bl (s.extract dn pos) = ((bl s).drop dn).take (pos - dn) := by simp [bl, List.extract]
  refine ⟨hb, hbe, ?_, ?_⟩
  · rw [← h.spec, hs, e, Nat.sub_self, List.take_zero, List.append_nil]
    simp
  · rw [List.length_append, List.length_append, bl_length]
    have := ext_le s dn pos
    have := h.room
    omega

theorem refOf_len (attr : Bool) (r : Int) : (refOf attr r).length ≤ 6 := by
  unfold refOf
  cases attr
  all_goals
    simp only [Bool.false_eq_true, if_false, if_true]
    repeat' split
    all_goals decide

set_option maxRecDepth 100000 in
set_option maxHeartbeats 4000000 in
theorem escape_of (attr : Bool) (g : FuncId) (eg : ∀ args w, (callFunc g args).run Tryz.prog w = .ok (.enter g args) w) (HR : Hid (∀ (r : Int) (w : World), Calls Tryz.prog g #[.int .i32 r] w fun e w' => e = .returned (.string ⟨(refOf attr r).toArray⟩) ∧ w = w'))
    (s : ByteArray) (hsz : s.size ≤ 1048576) (w : World) :
    Calls Tryz.prog 59 #[.string s, .func (.func g) #[] #[]] w fun e w' => e = .returned (.string ⟨(escR attr (bl s)).toArray⟩) ∧ Below w.heap.size w w' := by
  have hb1 : Below w.heap.size w (w.alloc (.cells #[.pointer none, .slice none 0 0] TB)) := (Below.refl _ _).alloc (Nat.le_refl _) _
  have hl1 := heap_alloc_new w (.cells #[.pointer none, .slice none 0 0] TB)
  have hs1 : w.heap.size < (w.alloc (.cells #[.pointer none, .slice none 0 0] TB)).heap.size := by simp
  obtain ⟨ans, hans⟩ : ∃ a, escR attr (bl s) = a := ⟨_, rfl⟩
  have h0 : EscAt w attr s ans 0 0 [] (w.alloc (.cells #[.pointer none, .slice none 0 0] TB)) := ⟨.inl ⟨Nat.le_refl _, .slice none 0 0, hl1, World.ownsRowF_nil _ _ _ _, by simp [Value.ownBlock]⟩, hb1, by simpa using hans, by simp⟩
  rw [hans]
  obtain ⟨W1, hW1⟩ : ∃ W1, w.alloc (.cells #[.pointer none, .slice none 0 0] TB) = W1 := ⟨_, rfl⟩
  rw [hW1] at h0 hs1
  have hbI : Below W1.heap.size W1 (W1.iter s 0) := (Below.refl _ _).alloc (Nat.le_refl _) _
  have H0 : Hid (EscAt w attr s ans 0 0 [] (W1.iter s 0)) := Lib.hid ⟨builder_on h0.built hbI, h0.below.trans (hbI.mono h0.below.size), h0.spec, h0.room⟩
  have hk : (W1.iter s 0).heap[W1.heap.size]? = some (Obj.stringIter s 0) := World.iter_heap _ _ _
  have HS1 := Lib.hid hs1
  clear hb1 hl1 h0 hans hbI hs1
  go_enter Tryz.func59, Tryz.ntmps59
  go_wp2
  generalize W1.iter s 0 = W at *
  generalize W1.heap.size = kI at *
  clear hW1
  go_loopw [6] (fun a wr => ∃ (dn pos : Nat) (out : Bytes), a = .int .i64 ((dn : Nat) : Int) ∧ dn ≤ pos ∧ pos ≤ s.size ∧ wr.heap[kI]? = some (Obj.stringIter s pos) ∧ Hid (EscAt w attr s ans dn pos out wr)) (fun _ wr => s.size - wr.iterPos kI)
  case atStart => exact ⟨0, 0, [], rfl, Nat.le_refl _, Nat.zero_le _, hk, H0⟩
  case round =>
    clear hk H0
    obtain ⟨dn, pos, out, rfl, hd, hp, hk, HE⟩ := hrel
    by_cases hlt : pos < s.size
    · have hnext := fun ty => run_next_any_at (P := Tryz.prog) wr kI s pos ty hk hlt
      have hst := esc_step attr s pos hlt
      obtain ⟨r, hr⟩ : ∃ r, (Utf8.decode s pos).1 = r := ⟨_, rfl⟩
      obtain ⟨wd, hwd⟩ : ∃ wd, (Utf8.decode s pos).2 = wd := ⟨_, rfl⟩
      rw [hr, hwd] at hst
      rw [hr, hwd] at hnext
      have hRc := HR.out ((r : Nat) : Int)
      have hrl := refOf_len attr ((r : Nat) : Int)
      obtain ⟨ref, href⟩ : ∃ l, refOf attr ((r : Nat) : Int) = l := ⟨_, rfl⟩
      rw [href] at hst hRc hrl
      have HRc := Lib.hid hRc
      have HSt := Lib.hid hst
      have HM := Lib.hid (HE.out.moved hk HS1.out (pos + wd))
      have hk2 := iterAt_heap wr kI s pos (pos + wd) hk
      have HK := Lib.hid hk
      have HK2 := Lib.hid hk2
      clear hst hRc href hr hwd
      by_cases h0 : ref = []
      · obtain ⟨q1, q2, q3⟩ := toList_nil h0
        subst h0
        clear hk2
        go_big_wp2_with (go_at_fn g; refine (HRc.out _).mono ?_; rintro e w1 ⟨rfl, rfl⟩)
        refine ⟨⟨dn, pos + wd, out, rfl, by omega, HSt.out.2.2.2, HK2.out, Lib.hid (HM.out.plain hd (HSt.out.1 (by trivial)))⟩, ?_⟩
        unfold World.iterPos
        rw [HK2.out, HK.out]
        have := HSt.out.2.2
        simp only []
        omega
      · obtain ⟨q1, q2, q3⟩ := toList_ne h0
        obtain ⟨hs2, hrn⟩ := HSt.out.2.1 h0
        have hW := HSt.out.2.2
        have HL := Lib.hid fun W => Tryz.utf8_RuneLen ((r : Nat) : Int) W
        rw [hrn] at HL
        change Hid (∀ W, Calls Tryz.prog 94 #[.int .i32 ((r : Nat) : Int)] W fun e w' => e = .returned (.int .i64 ((wd : Nat) : Int)) ∧ w' = W) at HL
        obtain ⟨rs, hrs⟩ : ∃ rs : ByteArray, ⟨ref.toArray⟩ = rs := ⟨_, rfl⟩
        have hbr : bl rs = ref := by rw [← hrs]; exact bl_of ref
        have hrz : rs.size = ref.length := by rw [← hbr, bl_length]
        rw [hrs] at HRc q1 q2 q3
        have hroom := HE.out.room
        have hdI : (dn : Int) ≤ (pos : Int) := by omega
        have hpI : (pos : Int) ≤ (s.size : Int) := by omega
        have HW1 := Lib.hid (writeStringK w.heap.size w.heap.size (byteCells out) (s.extract dn pos) (wr.iterAt kI s (pos + wd)) HM.out.built (by rw [byteCells_length]; have := ext_le s dn pos; omega) HM.out.below.size)
        have HW2 := Lib.hid fun (w3 : World) (h3 : Lib.IsBuilderF TB 5 w.heap.size w.heap.size (byteCells (out ++ bl (s.extract dn pos))) w3) (hb3 : w.heap.size ≤ w3.heap.size) => writeStringK w.heap.size w.heap.size (byteCells (out ++ bl (s.extract dn pos))) rs w3 h3 (by
          rw [byteCells_length, List.length_append, bl_length, hrz]
          have := ext_le s dn pos
          omega) hb3
        have HX := Lib.hid (And.intro hs2 (And.intro hbr hrl))
        have hsum : wrap64 ((pos : Int) + (wd : Int)) = ((pos + wd : Nat) : Int) := by rw [IntWalk.wrap64_in _ ⟨by omega, by omega⟩]; omega
        clear hrs hbr hrz hs2 hrn h0
        go_big_wp2_with (first
          | (go_at_fn g; refine (HRc.out _).mono ?_; rintro e w1 ⟨rfl, rfl⟩)
          | (go_at_call 93
             go_loud (
               refine HW1.out.mono ?_
               clear HW1
               rintro e w2 ⟨rfl, hb2, hbe2, hok2⟩
               have hI2 : Lib.IsBuilderF TB 5 w.heap.size w.heap.size (byteCells (out ++ bl (s.extract dn pos))) w2 := .inr (by rw [cells_two]; exact hb2)
               have HI2 := Lib.hid (And.intro hI2 (And.intro (HM.out.below.trans hbe2) (hok2.iter HK2.out (by have := HS1.out; omega))))
               clear hb2 hbe2 hok2 hI2))
          | (go_at_call 93
             go_loud (
               refine (HW2.out _ HI2.out.1 HI2.out.2.1.size).mono ?_
               clear HW2
               rintro e w3 ⟨rfl, hb3, hbe3, hok3⟩
               have hI3 : Lib.IsBuilderF TB 5 w.heap.size w.heap.size (byteCells (out ++ bl (s.extract dn pos) ++ ref)) w3 := .inr (by rw [← HX.out.2.1, cells_two]; exact hb3)
               have HI3 := Lib.hid (And.intro hI3 (And.intro (HI2.out.2.1.trans hbe3) (hok3.iter HI2.out.2.2 (by have := HS1.out; omega))))
               clear hb3 hbe3 hok3 hI3))
          | (go_at_call 94; refine (HL.out _).mono ?_; rintro e w4 ⟨rfl, rfl⟩))
        refine ⟨⟨pos + wd, pos + wd, _, by go_num, Nat.le_refl _, hW.2, HI3.out.2.2, Lib.hid (HE.out.wrote hd hp hW.1 HX.out.2.2 HX.out.1 HI3.out.1 HI3.out.2.1)⟩, ?_⟩
        unfold World.iterPos
        rw [HI3.out.2.2, HK.out]
        simp only []
        omega
    · have hnext := fun ty => run_next_end_at (P := Tryz.prog) wr kI s pos ty hk hlt
      have hps : pos = s.size := by omega
      have hspec := HE.out.spec
      have hd0 : (bl s).drop pos = [] := List.drop_eq_nil_of_le (by rw [bl_length]; omega)
      rw [hd0, show escR attr [] = [] from rfl, List.append_nil, List.take_of_length_le (by rw [List.length_drop, bl_length]; omega)] at hspec
      have hroom := HE.out.room
      have hlast : bl (s.extract dn s.size) = (bl s).drop dn := by rw [bl_drop]
      have hans : out ++ bl (s.extract dn s.size) = ans := by rw [hlast]; exact hspec
      have hdI : (dn : Int) ≤ (s.size : Int) := by omega
      have HW1 := Lib.hid (writeStringK w.heap.size w.heap.size (byteCells out) (s.extract dn s.size) wr HE.out.built (by rw [byteCells_length]; have := ext_le s dn s.size; omega) HE.out.below.size)
      have HA := Lib.hid hans
      have HB := Lib.hid HE.out.below
      clear hspec hlast hans hps
      go_big_wp2_with (first
        | (go_at_call 93
           go_loud (
             refine HW1.out.mono ?_
             rintro e w2 ⟨rfl, hb2, hbe2, hok2⟩
             have hI2 : Lib.IsBuilderF TB 5 w.heap.size w.heap.size (byteCells ans) w2 := .inr (by rw [← HA.out, cells_two]; exact hb2)
             have HI2 := Lib.hid (And.intro hI2 (HB.out.trans hbe2))
             clear hb2 hbe2 hok2 hI2))
        | (go_at_call 56; refine (Tryz.Builder_String_any_f _ _ ans _ HI2.out.1 HI2.out.2.size).mono ?_; rintro e w3 ⟨rfl, _, hb3⟩))
      go_ret
      exact ⟨rfl, HI2.out.2.trans hb3⟩
set_option maxRecDepth 100000 in
set_option maxHeartbeats 1000000 in
theorem escText_any (s : ByteArray) (hsz : s.size ≤ 1048576) (w : World) : Calls Tryz.prog 32 #[.string s] w fun e w' => e = .returned (.string ⟨(escR false (bl s)).toArray⟩) ∧ Below w.heap.size w w' := by
  have HE := Lib.hid (escape_of false 60 (enters_of Tryz.func60 (by kernel_rfl) rfl) (Lib.hid inText_any) s hsz w)
  go_enter Tryz.func32, Tryz.ntmps32
  go_big_wp2_with (go_at_call 59; refine HE.out.mono ?_; rintro e w1 ⟨rfl, hb1⟩)
  go_ret
  exact ⟨rfl, hb1⟩
set_option maxRecDepth 100000 in
set_option maxHeartbeats 1000000 in
theorem escAttr_any (s : ByteArray) (hsz : s.size ≤ 1048576) (w : World) : Calls Tryz.prog 33 #[.string s] w fun e w' => e = .returned (.string ⟨(escR true (bl s)).toArray⟩) ∧ Below w.heap.size w w' := by
  have HE := Lib.hid (escape_of true 61 (enters_of Tryz.func61 (by kernel_rfl) rfl) (Lib.hid inValue_any) s hsz w)
  go_enter Tryz.func33, Tryz.ntmps33
  go_big_wp2_with (go_at_call 59; refine HE.out.mono ?_; rintro e w1 ⟨rfl, hb1⟩)
  go_ret
  exact ⟨rfl, hb1⟩
end Go.Proofs.YtnfkndaggcklkaaGreatDoor

namespace Go.SerialKit
open Go Go.Lib Go.TokenKit
/-- A text put behind; too long is told. -/
def putT (d : Bytes × Bool) (s : Bytes) : Bytes × Bool := if (65536 : Int) - (d.1.length : Int) < (s.length : Int) then (d.1, true) else (d.1 ++ s, d.2)
/-- A text put behind, escaped. -/
def putE (attr : Bool) (d : Bytes × Bool) (s : Bytes) : Bytes × Bool := if 65536 < s.length then (d.1, true) else putT d (escR attr s)
end Go.SerialKit
namespace Go.Proofs.YtnfkndaggcklkaaGreatDoor
open Go.RowKit Go.RunKit Go.UtfKit Go.CharrefKit Go.Lib Go.TokenKit Go.TreeKit Go.SerialKit

abbrev TDc : TypeId := 84
theorem liesBuilderD : liesAt Tryz.prog Tryz.prog.depth TDc (3 / Tryz.prog.cellsOf TDc) 0 TSb 1 = true := by kernel_rfl
theorem doc3 {W : World} {g : Nat} {a0 a1 a2 : Value} {T : TypeId} (h : W.heap[g]? = some (.cells #[a0, a1, a2] T (0, 0))) :
    (W.cell? ⟨g, 0, none⟩ = some a0 ∧ W.cell? ⟨g, 1, none⟩ = some a1 ∧ W.cell? ⟨g, 2, none⟩ = some a2) ∧ (W.frozen? ⟨g, 0, none⟩ = false ∧ W.frozen? ⟨g, 1, none⟩ = false ∧ W.frozen? ⟨g, 2, none⟩ = false) :=
  ⟨⟨by simp [World.cell?, h], by simp [World.cell?, h], by simp [World.cell?, h]⟩, frozen_of_row W g 0 _ _ h, frozen_of_row W g 1 _ _ h, frozen_of_row W g 2 _ _ h⟩
/-- The document but for its text. -/
structure DocB (w0 : World) (b : Nat) (pa bv : Value) (lg : Bool) (W : World) : Prop where
  below : Below w0.heap.size w0 W
  le : w0.heap.size ≤ b
  blk : W.heap[b]? = some (.cells #[pa, bv, .bool lg] TDc (0, 0))
def TextD (w0 : World) (b : Nat) (pa bv : Value) (t : Bytes) (W : World) : Prop :=
  (pa = .pointer none ∧ bv = .slice none 0 0 ∧ t = []) ∨ (pa = .pointer (some ⟨b, 0, none⟩) ∧ t ≠ [] ∧ W.ownsRowF w0.heap.size TU8 1 bv t.length (byteCells t))
/-- The document. -/
structure DocAt (w0 : World) (b : Nat) (d : Bytes × Bool) (W : World) : Prop where
  ex : ∃ pa bv, DocB w0 b pa bv d.2 W ∧ TextD w0 b pa bv d.1 W
theorem DocB.on {w0 W W' : World} {b : Nat} {pa bv : Value} {lg : Bool} (h : DocB w0 b pa bv lg W) (hb : Below W.heap.size W W') : DocB w0 b pa bv lg W' :=
  ⟨h.below.trans (hb.mono h.below.size), h.le, by rw [hb.block _ (Array.getElem?_eq_some_iff.1 h.blk).1]; exact h.blk⟩
theorem TextD.on {w0 W W' : World} {b : Nat} {pa bv : Value} {t : Bytes} (h : TextD w0 b pa bv t W) (hb : Below W.heap.size W W') : TextD w0 b pa bv t W' := by
  rcases h with h | ⟨h1, h2, h3⟩
  · exact .inl h
  · exact .inr ⟨h1, h2, World.ownsRowF.kept h3 (grown_below hb none) (by cases bv.ownBlock <;> simp)⟩
theorem DocAt.on {w0 W W' : World} {b : Nat} {d : Bytes × Bool} (h : DocAt w0 b d W) (hb : Below W.heap.size W W') : DocAt w0 b d W' := by
  obtain ⟨pa, bv, h1, h2⟩ := h.ex
  exact ⟨pa, bv, h1.on hb, h2.on hb⟩
theorem DocAt.below {w0 W : World} {b : Nat} {d : Bytes × Bool} (h : DocAt w0 b d W) : Below w0.heap.size w0 W := by
  obtain ⟨_, _, h1, _⟩ := h.ex
  exact h1.below
/-- What is neither the document nor a row of bytes stays. -/
abbrev KeepD (b : Nat) (W W' : World) : Prop := Lib.OthersKept TU8 (some b) W W'
theorem KeepD.of_below {b : Nat} {W W' : World} (hb : Below W.heap.size W W') : KeepD b W W' := fun k o hk _ _ => by rw [hb.block k (Array.getElem?_eq_some_iff.1 hk).1]; exact hk
theorem text_slice {w0 : World} {b : Nat} {pa bv : Value} {t : Bytes} {W : World} (h : TextD w0 b pa bv t W) : ∃ ao cap, bv = .slice ao t.length cap := by
  rcases h with ⟨_, rfl, rfl⟩ | ⟨_, _, h3⟩
  · exact ⟨none, 0, rfl⟩
  · rcases h3.2 with ⟨hv, h0⟩ | ⟨g, cap, cur, fz, hv, _⟩
    · exact ⟨none, 0, by rw [hv, h0]⟩
    · exact ⟨_, _, hv⟩

set_option maxRecDepth 100000 in
set_option maxHeartbeats 1000000 in
theorem dlen_any (b n cap : Nat) (ao : Option Addr) (pa : Value) (lg : Bool) (W : World) (hblk : W.heap[b]? = some (.cells #[pa, .slice ao n cap, .bool lg] TDc (0, 0))) :
    Calls Tryz.prog 65 #[.pointer (some ⟨b, 0, none⟩)] W fun e w' => e = .returned (.int .i64 ((n : Nat) : Int)) ∧ W = w' := by
  obtain ⟨⟨x0, x1, x2⟩, y0, y1, y2⟩ := doc3 hblk
  go_enter Tryz.func65, Tryz.ntmps65
  go_big_wp2
  go_ret
  exact ⟨rfl, rfl⟩
set_option maxRecDepth 100000 in
set_option maxHeartbeats 1000000 in
theorem dcheck_fresh (b : Nat) (bv : Value) (lg : Bool) (w : World) (hblk : w.heap[b]? = some (.cells #[.pointer none, bv, .bool lg] TDc (0, 0))) :
    Calls Tryz.prog 101 #[.pointer (some ⟨b, 0, none⟩)] w fun e w' => e = .returned (.tuple #[]) ∧ w' = w.setCell ⟨b, 0, none⟩ (.pointer (some ⟨b, 0, none⟩)) := by
  obtain ⟨j, hj, hjs⟩ := Option.map_eq_some_iff.1 sizeBuilderB
  obtain ⟨⟨x0, x1, x2⟩, y0, y1, y2⟩ := doc3 hblk
  have hsh : w.shape? b = some (TDc, 3) := by simp [World.shape?, hblk]
  go_enter Tryz.func101, Tryz.ntmps101
  go_big_wp2
  rw [Lib.run_to_unsafe w ⟨b, 0, none⟩ underPtrB underUnsafeB hj (by rw [hjs]; decide) hsh (show 0 < 3 by decide)]
  simp only [Result.andThen]
  rw [Oper.upon_value]
  go_big_wp2
  rw [run_callFunc_extern Tryz.func134 (by kernel_rfl) (by kernel_rfl) (by kernel_rfl) (e := Extern.AbiNoEscape.same) (by kernel_rfl)]
  rw [Lib.run_noEscape]
  simp only [Result.andThen]
  rw [Oper.upon_value]
  go_big_wp2
  rw [Lib.run_from_unsafe w ⟨b, 0, none⟩ underUnsafeB underPtrB hj hsh liesBuilderD]
  simp only [Result.andThen]
  rw [Oper.upon_value]
  go_big_wp2
  go_end0
  exact ⟨rfl, rfl⟩
set_option maxRecDepth 100000 in
set_option maxHeartbeats 1000000 in
theorem dcheck_used (b : Nat) (bv : Value) (lg : Bool) (w : World) (hblk : w.heap[b]? = some (.cells #[.pointer (some ⟨b, 0, none⟩), bv, .bool lg] TDc (0, 0))) :
    Calls Tryz.prog 101 #[.pointer (some ⟨b, 0, none⟩)] w fun e w' => e = .returned (.tuple #[]) ∧ w' = w := by
  obtain ⟨j, hj, _⟩ := Option.map_eq_some_iff.1 sizeBuilderB
  obtain ⟨⟨x0, x1, x2⟩, y0, y1, y2⟩ := doc3 hblk
  go_enter Tryz.func101, Tryz.ntmps101
  go_big_wp2
  rw [Lib.run_neq_ptr_same w _ underPtrB hj]
  go_big_wp2
  go_end0
  exact ⟨rfl, rfl⟩
theorem DocB.set {w0 W : World} {b i : Nat} {pa bv pa' bv' v : Value} {lg lg' : Bool} (h : DocB w0 b pa bv lg W) (he : #[pa, bv, .bool lg].setIfInBounds i v = #[pa', bv', .bool lg']) : DocB w0 b pa' bv' lg' (W.setCell ⟨b, i, none⟩ v) :=
  ⟨h.below.setCell h.le _, h.le, by rw [heap_setCell_same W b i _ _ v h.blk, he]⟩
theorem DocB.bytes {w0 W W' : World} {b g : Nat} {pa bv : Value} {lg : Bool} {cs : Array Value} {fr : Nat × Nat} (h : DocB w0 b pa bv lg W) (hg : W.heap[g]? = some (.cells cs TU8 fr)) (hge : w0.heap.size ≤ g) (hgr : W.grownBy W' (some g)) : DocB w0 b pa bv lg W' :=
  ⟨h.below.grown hgr h.below.size (fun k hk => by cases hk; exact hge), h.le, by
    rw [hgr.block b (Array.getElem?_eq_some_iff.1 h.blk).1 (fun e => by
      cases e
      rw [h.blk] at hg
      simp only [Option.some.injEq, Obj.cells.injEq] at hg
      exact absurd hg.2.1 (by decide))]
    exact h.blk⟩
theorem DocB.grownF {w0 W W' : World} {b n : Nat} {pa bv v2 : Value} {lg : Bool} {xs : List Value} (h : DocB w0 b pa bv lg W) (h2 : W.ownsRowF w0.heap.size TU8 1 v2 n xs) (hg : W.grownBy W' v2.ownBlock) : DocB w0 b pa bv lg W' := by
  rcases h2.2 with ⟨rfl, _⟩ | ⟨g, cap, cur, fz, rfl, hge, hgg, _⟩
  · exact h.on (below_none hg)
  · exact h.bytes hgg hge hg

set_option maxRecDepth 100000 in
set_option maxHeartbeats 4000000 in
theorem dwrite_any (w0 : World) (b : Nat) (s : ByteArray) (t : Bytes) (lg : Bool) (W : World) (hd : t ≠ [] ∨ bl s ≠ []) (hlen : t.length + s.size ≤ 70368744177664) (h : DocAt w0 b (t, lg) W) :
    Calls Tryz.prog 93 #[.pointer (some ⟨b, 0, none⟩), .string s] W fun e w' => e = .returned (.tuple #[.int .i64 ((s.size : Nat) : Int), .nilIface]) ∧ DocAt w0 b (t ++ bl s, lg) w' ∧ KeepD b W w' := by
  obtain ⟨pa, bv, hB, hT⟩ := h.ex
  obtain ⟨i0, hi, hz0, hz1, hz2⟩ := info_parts Tryz.infoByte
  have hck : Calls Tryz.prog 101 #[.pointer (some ⟨b, 0, none⟩)] W fun e w' => e = .returned (.tuple #[]) ∧ DocB w0 b (.pointer (some ⟨b, 0, none⟩)) bv lg w' ∧ w'.ownsRowF w0.heap.size TU8 1 bv t.length (byteCells t) ∧ KeepD b W w' := by
    rcases hT with ⟨h1, h2, h3⟩ | ⟨h1, h2, h3⟩
    · subst h1; subst h2
      refine (dcheck_fresh b (.slice none 0 0) lg W hB.blk).mono ?_
      rintro e w' ⟨rfl, rfl⟩
      exact ⟨rfl, hB.set rfl, by rw [show t = [] from h3]; exact World.ownsRowF_nil _ _ _ _, (Lib.OthersKept.refl TU8 (some b) W).setCell ⟨b, 0, none⟩ rfl _⟩
    · subst h1
      refine (dcheck_used b bv lg W hB.blk).mono ?_
      rintro e w' ⟨rfl, rfl⟩
      exact ⟨rfl, hB, h3, Lib.OthersKept.refl _ _ _⟩
  have HCk := Lib.hid hck
  have HD := Lib.hid hd
  have hds := bl_length s
  obtain ⟨ao0, cap0, hbv⟩ := text_slice hT
  subst hbv
  have HDs := Lib.hid hds
  clear hck h hd hds hB hT
  go_enter Tryz.func93, Tryz.ntmps93
  go_big_wp2_with (first
    | (go_at_call 101; refine HCk.out.mono ?_; rintro e w1 ⟨rfl, hB1, hown, hk1⟩; obtain ⟨⟨x0, x1, x2⟩, y0, y1, y2⟩ := doc3 hB1.blk; have HB1 := Lib.hid hB1; have HOwn := Lib.hid hown; have HK1 := Lib.hid hk1; clear hB1 hown hk1)
    | (at_builtin; refine Lib.wpList_append_own_stringF _ rfl _ _ 42 9 rfl w0.heap.size TU8 i0 underBytes underString hi hz0 hz1 hz2 _ _ _ rfl HOwn.out s rfl ?c3 ?c4 ?c5 ?_))
  case c3 => unfold maxLen; omega
  case c4 => omega
  case c5 => exact HB1.out.below.size
  intro v' w2 hown' hgrow _
  have hB2 := HB1.out.grownF HOwn.out hgrow
  have hK2 : KeepD b W w2 := HK1.out.grown hgrow (Lib.ownsRowF_kind HOwn.out)
  obtain ⟨ao', cap', rfl⟩ : ∃ ao' cap', v' = .slice ao' (t.length + s.size) cap' := by
    rcases hown'.2 with ⟨hv, h0⟩ | ⟨g, cap, cur, fz, hv, _⟩
    · exact ⟨none, 0, by rw [hv, h0]⟩
    · exact ⟨_, _, hv⟩
  clear x0 x1 x2 y0 y1 y2
  obtain ⟨⟨x0, x1, x2⟩, y0, y1, y2⟩ := doc3 hB2.blk
  have HB2 := Lib.hid hB2
  have HK2 := Lib.hid (hK2.setCell ⟨b, 1, none⟩ rfl (.slice ao' (t.length + s.size) cap'))
  have HOw2 := Lib.hid (own_fset (i := 1) (v := .slice ao' (t.length + s.size) cap') hown' hB2.blk (by decide))
  clear hown' hgrow hB2 hK2
  go_big_wp2
  go_ret2
  have hf := HB2.out.set (i := 1) (v := .slice ao' (t.length + s.size) cap') (pa' := .pointer (some ⟨b, 0, none⟩)) (bv' := .slice ao' (t.length + s.size) cap') (lg' := lg) rfl
  refine ⟨rfl, ⟨.pointer (some ⟨b, 0, none⟩), .slice ao' (t.length + s.size) cap', hf, .inr ⟨rfl, ?_, ?_⟩⟩, HK2.out⟩
  · intro e
    have e := List.append_eq_nil_iff.1 e
    rcases HD.out with h | h
    · exact h e.1
    · exact h e.2
  · show World.ownsRowF _ _ _ _ _ (t ++ bl s).length (byteCells (t ++ bl s))
    rw [List.length_append, HDs.out, cells_two]
    exact HOw2.out

set_option maxRecDepth 100000 in
set_option maxHeartbeats 4000000 in
theorem dstring_any (w0 : World) (b : Nat) (t : Bytes) (lg : Bool) (W : World) (hs : t ≠ []) (h : DocAt w0 b (t, lg) W) :
    Calls Tryz.prog 56 #[.pointer (some ⟨b, 0, none⟩)] W fun e w' => e = .returned (.string ⟨t.toArray⟩) ∧ Below w0.heap.size w0 w' := by
  obtain ⟨pa, bv, hB, hT⟩ := h.ex
  obtain ⟨_, _, hown⟩ : pa = .pointer (some ⟨b, 0, none⟩) ∧ t ≠ [] ∧ W.ownsRowF w0.heap.size TU8 1 bv t.length (byteCells t) := by
    rcases hT with ⟨_, _, h3⟩ | h3
    · exact absurd h3 hs
    · exact h3
  have hbk := hB.blk
  have hl0 : t.length ≠ 0 := by simpa using hs
  obtain ⟨g, cap, cur, fz, rfl, hbg, hg, hfz, hnc, hcm, hcs, htake⟩ : ∃ g cap cur fz, bv = .slice (some ⟨g, 0, none⟩) t.length cap ∧ w0.heap.size ≤ g ∧ W.heap[g]? = some (.cells cur TU8 fz) ∧ fz.2 ≤ t.length * 1 ∧ t.length ≤ cap ∧ cap ≤ maxLen ∧ cur.size = cap * 1 ∧ cur.toList.take (t.length * 1) = byteCells t := by
    rcases hown.2 with ⟨_, hz⟩ | ⟨g, cap, cur, fz, hv, r⟩
    · exact absurd hz hl0
    · exact ⟨g, cap, cur, fz, hv, r⟩
  have c1 : W.drew.cell? ⟨b, 1, none⟩ = some (.slice (some ⟨g, 0, none⟩) t.length cap) := (doc3 (W := W.drew) hbk).1.2.1
  have c2 : W.cell? ⟨b, 1, none⟩ = some (.slice (some ⟨g, 0, none⟩) t.length cap) := (doc3 hbk).1.2.1
  have hSD : (Builtin.unsafeSliceData_ #[42] 122 #[.slice (some ⟨g, 0, none⟩) t.length cap]).run Tryz.prog W.drew = .ok (.pointer (some ⟨g, 0, none⟩)) W.drew :=
    Lib.run_unsafeSliceData_row _ _ _ _ _ _ (by omega)
  have hUS : (Builtin.unsafeString_ #[122, 3] 9 #[.pointer (some ⟨g, 0, none⟩), .int .i64 t.length]).run Tryz.prog W.drew = .ok (.string ⟨t.toArray⟩) (W.drew.freeze ⟨g, 0, none⟩ t.length) := by
    refine Lib.run_unsafeString_row W.drew 122 3 9 TU8 underPtrU8 cellsU8 g cur.size (by have hg' : W.drew.heap[g]? = some (.cells cur TU8 fz) := hg; simp [World.shape?, hg']) t hs (by omega) (by unfold maxLen at hcm; omega) ?_
    intro j x hx
    have := hown.cells (g := g) rfl j (.int .u8 x.toNat) (by simp [Lib.byteCells, hx])
    exact this
  have hB1 := (hB.on (Below.refl _ _).drew).bytes (W' := W.drew.freeze ⟨g, 0, none⟩ t.length) hg hbg (freeze_grown _ _ _)
  have HB1 := Lib.hid hB1.below
  clear h hB hbk hown hg hfz hcs htake hB1 hT
  go_enter Tryz.func56, Tryz.ntmps56
  go_big_wp2
  go_region
  all_goals (go_big_wp2; go_ret; exact ⟨rfl, HB1.out⟩)

theorem oneE_ne (attr : Bool) (b : UInt8) : oneE attr b ≠ [] := by
  unfold oneE
  repeat' split
  all_goals simp [ampB, crB, ltB, gtB, quotB]
theorem escR_ne (attr : Bool) : ∀ {l : Bytes}, l ≠ [] → escR attr l ≠ []
  | [], h => absurd rfl h
  | [b], _ => oneE_ne attr b
  | b :: c :: r, _ => by
    rw [escR]
    split
    · simp [nbspB]
    · intro e
      exact oneE_ne attr b (List.append_eq_nil_iff.1 e).1
theorem oneE_len (attr : Bool) (b : UInt8) : (oneE attr b).length ≤ 6 := by
  unfold oneE
  repeat' split
  all_goals simp [ampB, crB, ltB, gtB, quotB]
theorem escR_len (attr : Bool) : ∀ (l : Bytes), (escR attr l).length ≤ 6 * l.length
  | [] => Nat.le_refl _
  | [b] => by have := oneE_len attr b; simpa [escR] using this
  | b :: c :: r => by
    rw [escR]
    split
    · have := escR_len attr r
      rw [List.length_append]
      simp only [List.length_cons, nbspB, List.length_nil]
      omega
    · have h1 := oneE_len attr b
      have h2 := escR_len attr (c :: r)
      rw [List.length_append]
      simp only [List.length_cons] at h2 ⊢
      omega

set_option maxRecDepth 100000 in
set_option maxHeartbeats 2000000 in
theorem put_any (w0 : World) (b : Nat) (s : ByteArray) (d : Bytes × Bool) (W : World) (hd : d.1 ≠ [] ∨ bl s ≠ []) (hl : d.1.length ≤ 65536) (_hlen : s.size ≤ 1073741824) (h : DocAt w0 b d W) :
    Calls Tryz.prog 89 #[.pointer (some ⟨b, 0, none⟩), .string s] W fun e w' => e = .returned (.tuple #[]) ∧ DocAt w0 b (putT d (bl s)) w' ∧ KeepD b W w' := by
  obtain ⟨t, lg⟩ := d
  simp only at hd hl
  have hls := bl_length s
  obtain ⟨pa, bv, hB, hT⟩ := h.ex
  obtain ⟨ao, cap, hbv⟩ := text_slice hT
  subst hbv
  have HL := Lib.hid (dlen_any b t.length cap ao pa lg W hB.blk)
  obtain ⟨⟨x0, x1, x2⟩, y0, y1, y2⟩ := doc3 hB.blk
  have hsub : wrap64 (65536 - (t.length : Int)) = 65536 - (t.length : Int) := IntWalk.wrap64_in _ ⟨by omega, by omega⟩
  by_cases hbig : (65536 : Int) - (t.length : Int) < (s.size : Int)
  · have e : putT (t, lg) (bl s) = (t, true) := by unfold putT; rw [hls, if_pos hbig]
    rw [e]
    have hset := hB.set (i := 2) (v := .bool true) (pa' := pa) (bv' := .slice ao t.length cap) (lg' := true) rfl
    have hD : DocAt w0 b (t, true) (W.setCell ⟨b, 2, none⟩ (.bool true)) := ⟨pa, .slice ao t.length cap, hset, by
      rcases hT with h | ⟨h1, h2, h3⟩
      · exact .inl h
      · exact .inr ⟨h1, h2, own_fset h3 hB.blk (by decide)⟩⟩
    have HD := Lib.hid hD
    clear e hset hD h hB hT hd
    go_enter Tryz.func89, Tryz.ntmps89
    go_big_wp2_with (go_at_call 65; refine HL.out.mono ?_; rintro e w1 ⟨rfl, rfl⟩)
    refine bodyPost_ret (results_none rfl _ _ _) rfl ?_
    exact ⟨rfl, HD.out, (Lib.OthersKept.refl TU8 (some b) W).setCell ⟨b, 2, none⟩ rfl _⟩
  · have e : putT (t, lg) (bl s) = (t ++ bl s, lg) := by unfold putT; rw [hls, if_neg hbig]
    rw [e]
    have HW := Lib.hid (dwrite_any w0 b s t lg W hd (by omega) h)
    clear e h hB hT hd
    go_enter Tryz.func89, Tryz.ntmps89
    go_big_wp2_with (first
      | (go_at_call 65; refine HL.out.mono ?_; rintro e w1 ⟨rfl, rfl⟩)
      | (go_at_call 93; refine HW.out.mono ?_; rintro e w2 ⟨rfl, hD2, hK2⟩; have HD2 := Lib.hid (And.intro hD2 hK2); clear hD2 hK2))
    go_end0
    exact ⟨rfl, HD2.out.1, HD2.out.2⟩
set_option maxRecDepth 100000 in
set_option maxHeartbeats 2000000 in
theorem putEscaped_any (w0 : World) (b : Nat) (attr : Bool) (g : FuncId) (eg : ∀ args w, (callFunc g args).run Tryz.prog w = .ok (.enter g args) w)
    (HG : Hid (∀ (s : ByteArray), s.size ≤ 1048576 → ∀ w : World, Calls Tryz.prog g #[.string s] w fun e w' => e = .returned (.string ⟨(escR attr (bl s)).toArray⟩) ∧ Below w.heap.size w w'))
    (s : ByteArray) (d : Bytes × Bool) (W : World) (hd : d.1 ≠ [] ∨ bl s ≠ []) (hl : d.1.length ≤ 65536) (h : DocAt w0 b d W) :
    Calls Tryz.prog 88 #[.pointer (some ⟨b, 0, none⟩), .string s, .func (.func g) #[] #[]] W fun e w' => e = .returned (.tuple #[]) ∧ DocAt w0 b (putE attr d (bl s)) w' ∧ KeepD b W w' := by
  have hls := bl_length s
  obtain ⟨t, lg⟩ := d
  simp only at hd hl
  by_cases hbig : 65536 < s.size
  · have hI : (65536 : Int) < (s.size : Int) := by omega
    have e : putE attr (t, lg) (bl s) = (t, true) := by unfold putE; rw [hls, if_pos hbig]
    rw [e]
    obtain ⟨pa, bv, hB, hT⟩ := h.ex
    obtain ⟨⟨x0, x1, x2⟩, y0, y1, y2⟩ := doc3 hB.blk
    have hset := hB.set (i := 2) (v := .bool true) (pa' := pa) (bv' := bv) (lg' := true) rfl
    have hD : DocAt w0 b (t, true) (W.setCell ⟨b, 2, none⟩ (.bool true)) := ⟨pa, bv, hset, by
      rcases hT with h | ⟨h1, h2, h3⟩
      · exact .inl h
      · exact .inr ⟨h1, h2, own_fset h3 hB.blk (by decide)⟩⟩
    have HD := Lib.hid hD
    clear e hset hD h hB hT hd
    go_enter Tryz.func88, Tryz.ntmps88
    go_big_wp2
    refine bodyPost_ret (results_none rfl _ _ _) rfl ?_
    exact ⟨rfl, HD.out, (Lib.OthersKept.refl TU8 (some b) W).setCell ⟨b, 2, none⟩ rfl _⟩
  · have hI : ¬ (65536 : Int) < (s.size : Int) := by omega
    have e : putE attr (t, lg) (bl s) = putT (t, lg) (escR attr (bl s)) := by unfold putE; rw [hls, if_neg hbig]
    rw [e]
    have HE := Lib.hid (HG.out s (by omega) W)
    have hel := escR_len attr (bl s)
    rw [hls] at hel
    have hne : t ≠ [] ∨ bl (⟨(escR attr (bl s)).toArray⟩ : ByteArray) ≠ [] := by
      rcases hd with hd | hd
      · exact .inl hd
      · exact .inr (escR_ne attr hd)
    have HPt := Lib.hid fun (W1 : World) (hb : Below W.heap.size W W1) => put_any w0 b ⟨(escR attr (bl s)).toArray⟩ (t, lg) W1 hne hl (by show (escR attr (bl s)).toArray.size ≤ _; simp; omega) (h.on hb)
    rw [bl_of (escR attr (bl s))] at HPt
    clear e h hd hne hel
    go_enter Tryz.func88, Tryz.ntmps88
    go_big_wp2_with (first
      | (go_at_fn g; refine HE.out.mono ?_; rintro e w1 ⟨rfl, hb1⟩; have HB1 := Lib.hid hb1; clear hb1)
      | (go_at_call 89; refine (HPt.out _ HB1.out).mono ?_; rintro e w2 ⟨rfl, hD2, hK2⟩; have HD2 := Lib.hid (And.intro hD2 ((KeepD.of_below HB1.out).trans hK2)); clear hD2 hK2))
    go_end0
    exact ⟨rfl, HD2.out.1, HD2.out.2⟩
end Go.Proofs.YtnfkndaggcklkaaGreatDoor

