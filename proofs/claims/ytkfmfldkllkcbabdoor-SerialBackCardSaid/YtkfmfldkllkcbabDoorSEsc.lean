/-
  Escape, EscapeAttr of package serial: what they tell is what the document says. Conditions: the text is no longer than 2^20 bytes.
-/
import Derived.Test.YtkfmfldkllkcbabDoorSRef
import Derived.Test.YtkfmfldkllkcbabDoorRNode
namespace Go.Proofs.YtkfmfldkllkcbabDoor
open Go.RowKit Go.RunKit Go.UtfKit Go.CharrefKit Go.Lib Go.TokenKit Go.TreeKit Go.SerialKit

theorem cells_two (a : List UInt8) (d : ByteArray) : byteCells (a ++ bl d) = byteCells a ++ Lib.strCells d := by unfold byteCells Lib.strCells; rw [List.map_append]; rfl
theorem ext_le (s : ByteArray) (a b : Nat) : (s.extract a b).size ≤ b - a := by rw [ByteArray.size_extract]; omega
/-- What is held at the loop's head: what lies in the builder; what is pending. -/
structure EscAt (w0 : World) (attr : Bool) (s : ByteArray) (ans : Bytes) (dn pos : Nat) (out : Bytes) (wr : World) : Prop where
  built : Lib.IsBuilderF TB 5 w0.heap.size w0.heap.size (byteCells out) wr
  below : Below w0.heap.size w0 wr
  spec : out ++ ((bl s).drop dn).take (pos - dn) ++ escR attr ((bl s).drop pos) = ans
  room : out.length ≤ 6 * dn
theorem EscAt.moved {w0 wr : World} {attr : Bool} {s : ByteArray} {ans : Bytes} {dn pos kI p : Nat} {out : Bytes} (h : EscAt w0 attr s ans dn pos out wr) (hk : wr.heap[kI]? = some (Obj.stringIter s p)) (hkI : w0.heap.size < kI) (p' : Nat) : EscAt w0 attr s ans dn pos out (wr.iterAt kI s p') := by
  have hb := U.Beside.iterAt (n0 := w0.heap.size) (pos' := p') hk (by omega)
  exact ⟨U.isBuilder_blocks h.built fun k c t fr _ hc => hb.cells _ _ _ _ hc, ⟨hb.os.trans h.below.os, hb.tape.trans h.below.tape, hb.output.trans h.below.output, Nat.le_trans h.below.size hb.size, fun k hk => by rw [hb.low k hk]; exact h.below.block k hk⟩, h.spec, h.room⟩
theorem EscAt.plain {w0 wr : World} {attr : Bool} {s : ByteArray} {ans : Bytes} {dn pos wd : Nat} {out : Bytes} (h : EscAt w0 attr s ans dn pos out wr) (hd : dn ≤ pos) (hs : escR attr ((bl s).drop pos) = ((bl s).drop pos).take wd ++ escR attr ((bl s).drop (pos + wd))) : EscAt w0 attr s ans dn (pos + wd) out wr := by
  refine ⟨h.built, h.below, ?_, h.room⟩
  rw [← h.spec, hs, ← List.append_assoc]
  congr 1
  rw [List.append_assoc]
  congr 1
  have e : (bl s).drop pos = ((bl s).drop dn).drop (pos - dn) := by rw [List.drop_drop]; congr 1; omega
  rw [e, show pos + wd - dn = (pos - dn) + wd by omega, List.take_add]
theorem EscAt.wrote {w0 wr w2 : World} {attr : Bool} {s : ByteArray} {ans : Bytes} {dn pos wd : Nat} {out ref : Bytes} (h : EscAt w0 attr s ans dn pos out wr) (hd : dn ≤ pos) (_hp : pos ≤ s.size) (hwd : 1 ≤ wd) (hr : ref.length ≤ 6) (hs : escR attr ((bl s).drop pos) = ref ++ escR attr ((bl s).drop (pos + wd)))
    (hb : Lib.IsBuilderF TB 5 w0.heap.size w0.heap.size (byteCells (out ++ bl (s.extract dn pos) ++ ref)) w2) (hbe : Below w0.heap.size w0 w2) : EscAt w0 attr s ans (pos + wd) (pos + wd) (out ++ bl (s.extract dn pos) ++ ref) w2 := by
  have e : bl (s.extract dn pos) = ((bl s).drop dn).take (pos - dn) := by simp [bl, List.extract]
  refine ⟨hb, hbe, ?_, ?_⟩
  · rw [← h.spec, hs, e, Nat.sub_self, List.take_zero, List.append_nil]
    simp
  · rw [List.length_append, List.length_append, bl_length]
    have := ext_le s dn pos
    have := h.room
    omega

theorem refOf_len (attr : Bool) (r : Int) : (refOf attr r).length ≤ 6 := by
  unfold refOf
  cases attr
  all_goals
    simp only [Bool.false_eq_true, if_false, if_true]
    repeat' split
    all_goals decide

set_option maxRecDepth 100000 in
set_option maxHeartbeats 4000000 in
theorem escape_of (attr : Bool) (g : FuncId) (eg : ∀ args w, (callFunc g args).run Tryd.prog w = .ok (.enter g args) w) (HR : Hid (∀ (r : Int) (w : World), Calls Tryd.prog g #[.int .i32 r] w fun e w' => e = .returned (.string ⟨(refOf attr r).toArray⟩) ∧ w = w'))
    (s : ByteArray) (hsz : s.size ≤ 1048576) (w : World) :
    Calls Tryd.prog 14 #[.string s, .func (.func g) #[] #[]] w fun e w' => e = .returned (.string ⟨(escR attr (bl s)).toArray⟩) ∧ Below w.heap.size w w' := by
  have hb1 : Below w.heap.size w (w.alloc (.cells #[.pointer none, .slice none 0 0] TB)) := (Below.refl _ _).alloc (Nat.le_refl _) _
  have hl1 := heap_alloc_new w (.cells #[.pointer none, .slice none 0 0] TB)
  have hs1 : w.heap.size < (w.alloc (.cells #[.pointer none, .slice none 0 0] TB)).heap.size := by simp
  obtain ⟨ans, hans⟩ : ∃ a, escR attr (bl s) = a := ⟨_, rfl⟩
  have h0 : EscAt w attr s ans 0 0 [] (w.alloc (.cells #[.pointer none, .slice none 0 0] TB)) := ⟨.inl ⟨Nat.le_refl _, .slice none 0 0, hl1, World.ownsRowF_nil _ _ _ _, by simp [Value.ownBlock]⟩, hb1, by simpa using hans, by simp⟩
  rw [hans]
  obtain ⟨W1, hW1⟩ : ∃ W1, w.alloc (.cells #[.pointer none, .slice none 0 0] TB) = W1 := ⟨_, rfl⟩
  rw [hW1] at h0 hs1
  have hbI : Below W1.heap.size W1 (W1.iter s 0) := (Below.refl _ _).alloc (Nat.le_refl _) _
  have H0 : Hid (EscAt w attr s ans 0 0 [] (W1.iter s 0)) := Lib.hid ⟨builder_on h0.built hbI, h0.below.trans (hbI.mono h0.below.size), h0.spec, h0.room⟩
  have hk : (W1.iter s 0).heap[W1.heap.size]? = some (Obj.stringIter s 0) := World.iter_heap _ _ _
  have HS1 := Lib.hid hs1
  clear hb1 hl1 h0 hans hbI hs1
  go_enter Tryd.func14, Tryd.ntmps14
  go_wp2
  generalize W1.iter s 0 = W at *
  generalize W1.heap.size = kI at *
  clear hW1
  go_loopw [6] (fun a wr => ∃ (dn pos : Nat) (out : Bytes), a = .int .i64 ((dn : Nat) : Int) ∧ dn ≤ pos ∧ pos ≤ s.size ∧ wr.heap[kI]? = some (Obj.stringIter s pos) ∧ Hid (EscAt w attr s ans dn pos out wr)) (fun _ wr => s.size - wr.iterPos kI)
  case atStart => exact ⟨0, 0, [], rfl, Nat.le_refl _, Nat.zero_le _, hk, H0⟩
  case round =>
    clear hk H0
    obtain ⟨dn, pos, out, rfl, hd, hp, hk, HE⟩ := hrel
    by_cases hlt : pos < s.size
    · have hnext := fun ty => run_next_any_at (P := Tryd.prog) wr kI s pos ty hk hlt
      have hst := esc_step attr s pos hlt
      obtain ⟨r, hr⟩ : ∃ r, (Utf8.decode s pos).1 = r := ⟨_, rfl⟩
      obtain ⟨wd, hwd⟩ : ∃ wd, (Utf8.decode s pos).2 = wd := ⟨_, rfl⟩
      rw [hr, hwd] at hst
      rw [hr, hwd] at hnext
      have hRc := HR.out ((r : Nat) : Int)
      have hrl := refOf_len attr ((r : Nat) : Int)
      obtain ⟨ref, href⟩ : ∃ l, refOf attr ((r : Nat) : Int) = l := ⟨_, rfl⟩
      rw [href] at hst hRc hrl
      have HRc := Lib.hid hRc
      have HSt := Lib.hid hst
      have HM := Lib.hid (HE.out.moved hk HS1.out (pos + wd))
      have hk2 := iterAt_heap wr kI s pos (pos + wd) hk
      have HK := Lib.hid hk
      have HK2 := Lib.hid hk2
      clear hst hRc href hr hwd
      by_cases h0 : ref = []
      · obtain ⟨q1, q2, q3⟩ := toList_nil h0
        subst h0
        clear hk2
        go_big_wp2_with (go_at_fn g; refine (HRc.out _).mono ?_; rintro e w1 ⟨rfl, rfl⟩)
        refine ⟨⟨dn, pos + wd, out, rfl, by omega, HSt.out.2.2.2, HK2.out, Lib.hid (HM.out.plain hd (HSt.out.1 (by trivial)))⟩, ?_⟩
        unfold World.iterPos
        rw [HK2.out, HK.out]
        have := HSt.out.2.2
        simp only []
        omega
      · obtain ⟨q1, q2, q3⟩ := toList_ne h0
        obtain ⟨hs2, hrn⟩ := HSt.out.2.1 h0
        have hW := HSt.out.2.2
        have HL := Lib.hid fun W => Tryd.utf8_RuneLen ((r : Nat) : Int) W
        rw [hrn] at HL
        change Hid (∀ W, Calls Tryd.prog 24 #[.int .i32 ((r : Nat) : Int)] W fun e w' => e = .returned (.int .i64 ((wd : Nat) : Int)) ∧ w' = W) at HL
        obtain ⟨rs, hrs⟩ : ∃ rs : ByteArray, ⟨ref.toArray⟩ = rs := ⟨_, rfl⟩
        have hbr : bl rs = ref := by rw [← hrs]; exact bl_of ref
        have hrz : rs.size = ref.length := by rw [← hbr, bl_length]
        rw [hrs] at HRc q1 q2 q3
        have hroom := HE.out.room
        have hdI : (dn : Int) ≤ (pos : Int) := by omega
        have hpI : (pos : Int) ≤ (s.size : Int) := by omega
        have HW1 := Lib.hid (writeStringK w.heap.size w.heap.size (byteCells out) (s.extract dn pos) (wr.iterAt kI s (pos + wd)) HM.out.built (by rw [byteCells_length]; have := ext_le s dn pos; omega) HM.out.below.size)
        have HW2 := Lib.hid fun (w3 : World) (h3 : Lib.IsBuilderF TB 5 w.heap.size w.heap.size (byteCells (out ++ bl (s.extract dn pos))) w3) (hb3 : w.heap.size ≤ w3.heap.size) => writeStringK w.heap.size w.heap.size (byteCells (out ++ bl (s.extract dn pos))) rs w3 h3 (by
          rw [byteCells_length, List.length_append, bl_length, hrz]
          have := ext_le s dn pos
          omega) hb3
        have HX := Lib.hid (And.intro hs2 (And.intro hbr hrl))
        have hsum : wrap64 ((pos : Int) + (wd : Int)) = ((pos + wd : Nat) : Int) := by rw [IntWalk.wrap64_in _ ⟨by omega, by omega⟩]; omega
        clear hrs hbr hrz hs2 hrn h0
        go_big_wp2_with (first
          | (go_at_fn g; refine (HRc.out _).mono ?_; rintro e w1 ⟨rfl, rfl⟩)
          | (go_at_call 20
             go_loud (
               refine HW1.out.mono ?_
               clear HW1
               rintro e w2 ⟨rfl, hb2, hbe2, hok2⟩
               have hI2 : Lib.IsBuilderF TB 5 w.heap.size w.heap.size (byteCells (out ++ bl (s.extract dn pos))) w2 := .inr (by rw [cells_two]; exact hb2)
               have HI2 := Lib.hid (And.intro hI2 (And.intro (HM.out.below.trans hbe2) (hok2.iter HK2.out (by have := HS1.out; omega))))
               clear hb2 hbe2 hok2 hI2))
          | (go_at_call 20
             go_loud (
               refine (HW2.out _ HI2.out.1 HI2.out.2.1.size).mono ?_
               clear HW2
               rintro e w3 ⟨rfl, hb3, hbe3, hok3⟩
               have hI3 : Lib.IsBuilderF TB 5 w.heap.size w.heap.size (byteCells (out ++ bl (s.extract dn pos) ++ ref)) w3 := .inr (by rw [← HX.out.2.1, cells_two]; exact hb3)
               have HI3 := Lib.hid (And.intro hI3 (And.intro (HI2.out.2.1.trans hbe3) (hok3.iter HI2.out.2.2 (by have := HS1.out; omega))))
               clear hb3 hbe3 hok3 hI3))
          | (go_at_call 24; refine (HL.out _).mono ?_; rintro e w4 ⟨rfl, rfl⟩))
        refine ⟨⟨pos + wd, pos + wd, _, by go_num, Nat.le_refl _, hW.2, HI3.out.2.2, Lib.hid (HE.out.wrote hd hp hW.1 HX.out.2.2 HX.out.1 HI3.out.1 HI3.out.2.1)⟩, ?_⟩
        unfold World.iterPos
        rw [HI3.out.2.2, HK.out]
        simp only []
        omega
    · have hnext := fun ty => run_next_end_at (P := Tryd.prog) wr kI s pos ty hk hlt
      have hps : pos = s.size := by omega
      have hspec := HE.out.spec
      have hd0 : (bl s).drop pos = [] := List.drop_eq_nil_of_le (by rw [bl_length]; omega)
      rw [hd0, show escR attr [] = [] from rfl, List.append_nil, List.take_of_length_le (by rw [List.length_drop, bl_length]; omega)] at hspec
      have hroom := HE.out.room
      have hlast : bl (s.extract dn s.size) = (bl s).drop dn := by rw [bl_drop]
      have hans : out ++ bl (s.extract dn s.size) = ans := by rw [hlast]; exact hspec
      have hdI : (dn : Int) ≤ (s.size : Int) := by omega
      have HW1 := Lib.hid (writeStringK w.heap.size w.heap.size (byteCells out) (s.extract dn s.size) wr HE.out.built (by rw [byteCells_length]; have := ext_le s dn s.size; omega) HE.out.below.size)
      have HA := Lib.hid hans
      have HB := Lib.hid HE.out.below
      clear hspec hlast hans hps
      go_big_wp2_with (first
        | (go_at_call 20
           go_loud (
             refine HW1.out.mono ?_
             rintro e w2 ⟨rfl, hb2, hbe2, hok2⟩
             have hI2 : Lib.IsBuilderF TB 5 w.heap.size w.heap.size (byteCells ans) w2 := .inr (by rw [← HA.out, cells_two]; exact hb2)
             have HI2 := Lib.hid (And.intro hI2 (HB.out.trans hbe2))
             clear hb2 hbe2 hok2 hI2))
        | (go_at_call 21; refine (Tryd.Builder_String_any_f _ _ ans _ HI2.out.1 HI2.out.2.size).mono ?_; rintro e w3 ⟨rfl, _, hb3⟩))
      go_ret
      exact ⟨rfl, HI2.out.2.trans hb3⟩
set_option maxRecDepth 100000 in
set_option maxHeartbeats 1000000 in
theorem escText_any (s : ByteArray) (hsz : s.size ≤ 1048576) (w : World) : Calls Tryd.prog 7 #[.string s] w fun e w' => e = .returned (.string ⟨(escR false (bl s)).toArray⟩) ∧ Below w.heap.size w w' := by
  have HE := Lib.hid (escape_of false 15 (enters_of Tryd.func15 (by kernel_rfl) rfl) (Lib.hid inText_any) s hsz w)
  go_enter Tryd.func7, Tryd.ntmps7
  go_big_wp2_with (go_at_call 14; refine HE.out.mono ?_; rintro e w1 ⟨rfl, hb1⟩)
  go_ret
  exact ⟨rfl, hb1⟩
set_option maxRecDepth 100000 in
set_option maxHeartbeats 1000000 in
theorem escAttr_any (s : ByteArray) (hsz : s.size ≤ 1048576) (w : World) : Calls Tryd.prog 9 #[.string s] w fun e w' => e = .returned (.string ⟨(escR true (bl s)).toArray⟩) ∧ Below w.heap.size w w' := by
  have HE := Lib.hid (escape_of true 16 (enters_of Tryd.func16 (by kernel_rfl) rfl) (Lib.hid inValue_any) s hsz w)
  go_enter Tryd.func9, Tryd.ntmps9
  go_big_wp2_with (go_at_call 14; refine HE.out.mono ?_; rintro e w1 ⟨rfl, hb1⟩)
  go_ret
  exact ⟨rfl, hb1⟩
end Go.Proofs.YtkfmfldkllkcbabDoor

