/-
  Functions of one byte; the beginning of a text. No conditions.
  A function that hands a literal of an array back by value, through a variable of its own: a run of the parts by the kernel, the store and the last load by the laws on whole rows. No conditions.
  References by number: the program's way. No conditions.
-/
import Derived.Test.YtnfkndaggcklkaaGreatDoorCMath
import Derived.Test.YtnfkndaggcklkaaGreatDoorPA1
import Derived.Test.YtnfkndaggcklkaaGreatDoorShelf
import Derived.Laws.Strings
import Derived.Laws.Cover1
import Derived.Test.YtnfkndaggcklkaaGreatDoorPA0
import Derived.Deep.WholeRow
import Derived.Deep.CutBlock
namespace Go.Proofs.YtnfkndaggcklkaaGreatDoor
open Go.RowKit Go.RunKit Go.CharrefKit Go.Lib

set_option maxRecDepth 100000 in
set_option maxHeartbeats 1000000 in
theorem isLetter_any (b : Nat) (hb : b < 256) (w : World) :
    Calls Tryz.prog 219 #[.int .u8 (b : Nat)] w fun e w' => e = .returned (.bool (isLet b)) ∧ w = w' := by
  by_cases h1 : (97 : Int) ≤ b <;> by_cases h2 : (b : Int) ≤ 122 <;> by_cases h3 : (65 : Int) ≤ b <;> by_cases h4 : (b : Int) ≤ 90
  all_goals (try (exfalso; omega))
  all_goals
    go_enter Tryz.func219, Tryz.ntmps219
    go_wp2
    go_ret
    refine ⟨ret1_eq (congrArg Value.bool ?_), rfl⟩
    unfold isLet
    try simp
    try omega
def refDigV (b : Nat) : Int := if digitV b < 16 then ((digitV b : Nat) : Int) else -1
theorem digitV_cases (b : Nat) : (48 ≤ b ∧ b ≤ 57 ∧ digitV b = b - 48) ∨ (97 ≤ b ∧ b ≤ 102 ∧ digitV b = b - 97 + 10) ∨ (65 ≤ b ∧ b ≤ 70 ∧ digitV b = b - 65 + 10) ∨ (¬ (48 ≤ b ∧ b ≤ 57) ∧ ¬ (97 ≤ b ∧ b ≤ 102) ∧ ¬ (65 ≤ b ∧ b ≤ 70) ∧ digitV b = 16) := by
  unfold digitV
  repeat' split
  all_goals omega
set_option maxRecDepth 100000 in
set_option maxHeartbeats 1000000 in
theorem digit_any (b : Nat) (hb : b < 256) (w : World) :
    Calls Tryz.prog 201 #[.int .u8 (b : Nat)] w fun e w' => e = .returned (.int .i32 (((digitV b : Nat) : Int))) ∧ w = w' := by
  by_cases h1 : (48 : Int) ≤ b <;> by_cases h2 : (b : Int) ≤ 57 <;> by_cases h3 : (97 : Int) ≤ b <;> by_cases h4 : (b : Int) ≤ 102 <;> by_cases h5 : (65 : Int) ≤ b <;> by_cases h6 : (b : Int) ≤ 70
  all_goals (try (exfalso; omega))
  all_goals
    go_enter Tryz.func201, Tryz.ntmps201
    go_wp2
    go_ret
    refine ⟨ret1_eq (congrArg (Value.int IntKind.i32) ?_), rfl⟩
    have hd := digitV_cases b
    try unfold refDigV
    (try split) <;> omega
/-! Texts as lists. -/
def natsOf (s : ByteArray) : List Nat := nats s.data.toList
theorem natsOf_length (s : ByteArray) : (natsOf s).length = s.size := by simp [natsOf, nats]
theorem natsOf_extract (s : ByteArray) (i j : Nat) : natsOf (s.extract i j) = ((natsOf s).drop i).take (j - i) := by
  simp [natsOf, nats, List.extract]
theorem natsOf_drop (s : ByteArray) (i : Nat) : natsOf (s.extract i s.size) = (natsOf s).drop i := by
  rw [natsOf_extract s i _, List.take_of_length_le]
  simp [natsOf_length]
theorem nats_inj : ∀ {a b : List UInt8}, nats a = nats b → a = b
  | [], [], _ => rfl
  | [], _ :: _, h => by cases h
  | _ :: _, [], h => by cases h
  | x :: a, y :: b, h => by
    simp only [nats, List.map_cons, List.cons.injEq] at h
    rw [UInt8.toNat_inj.1 h.1, nats_inj (a := a) (b := b) h.2]
theorem toList_eq_nats (a b : ByteArray) : (a.toList == b.toList) = decide (natsOf a = natsOf b) := by
  rw [Bool.eq_iff_iff, beq_iff_eq, decide_eq_true_eq, ByteArray.toList_eq, ByteArray.toList_eq]
  exact ⟨fun h => by unfold natsOf; rw [h], fun h => nats_inj h⟩
/-- Does a text begin with another one? -/
def hasPre (s p : ByteArray) : Bool := (natsOf p).isPrefixOf (natsOf s)
theorem hasPre_yes (s p : ByteArray) : ((s.extract 0 p.size).toList == p.toList) = hasPre s p := by
  have h2 := natsOf_length p
  have e : natsOf (s.extract 0 p.size) = (natsOf s).take p.size := by rw [natsOf_extract s 0 _]; simp
  unfold hasPre
  rw [toList_eq_nats, Bool.eq_iff_iff, List.isPrefixOf_iff_prefix, decide_eq_true_eq, List.prefix_iff_eq_take, h2, ← e]
  exact ⟨fun h => h.symm, fun h => h.symm⟩
theorem hasPre_no {s p : ByteArray} (h : ¬ p.size ≤ s.size) : hasPre s p = false := by
  have h1 := natsOf_length s
  have h2 := natsOf_length p
  unfold hasPre
  rw [Bool.eq_false_iff]
  intro hp
  have := (List.isPrefixOf_iff_prefix.1 hp).length_le
  omega
theorem natsOf_at (s : ByteArray) (i : Nat) (h : i < s.size) : (natsOf s)[i]? = some (s[i]'h).toNat := by
  have h2 : i < s.data.toList.length := by simpa using h
  simp only [natsOf, nats, List.getElem?_map, List.getElem?_eq_getElem h2, Option.map_some]
  rfl

set_option maxRecDepth 100000 in
set_option maxHeartbeats 1000000 in
theorem hasPrefix1_any (s p : ByteArray) (w : World) :
    Calls Tryz.prog 140 #[.string s, .string p] w fun e w' => e = .returned (.bool (hasPre s p)) ∧ w = w' := by
  by_cases h : (p.size : Int) ≤ s.size
  · go_enter Tryz.func140, Tryz.ntmps140
    go_wp2
    go_ret
    exact ⟨ret1_eq (congrArg Value.bool (hasPre_yes s p)), rfl⟩
  · have hF := eq_false h
    go_enter Tryz.func140, Tryz.ntmps140
    go_wp2
    go_ret
    exact ⟨ret1_eq (congrArg Value.bool (hasPre_no (by omega)).symm), rfl⟩
set_option maxRecDepth 100000 in
set_option maxHeartbeats 1000000 in
theorem hasPrefix_any (s p : ByteArray) (w : World) :
    Calls Tryz.prog 109 #[.string s, .string p] w fun e w' => e = .returned (.bool (hasPre s p)) ∧ w = w' := by
  have H := Lib.hid (hasPrefix1_any s p w)
  go_enter Tryz.func109, Tryz.ntmps109
  go_wp2_with (go_at_call 140; refine H.out.mono ?_; rintro e w1 ⟨rfl, rfl⟩)
  go_ret
  exact ⟨rfl, rfl⟩
end Go.Proofs.YtnfkndaggcklkaaGreatDoor

namespace Go.RunKit
open Go Go.RowKit
variable {P : Program}

theorem runOps_then {call : Callee} (hc : ∀ f args w v w', call f args w = some (v, w') → Calls P f args w fun e w'' => e = .returned v ∧ w'' = w') (ops : Array Oper) :
    ∀ (l : List Oper) (rest : List Oper) (a : Act) (w : World) (a' : Act) (w' : World), runOps P call l ops a w = some (a', w') → ∀ Q : Exit → Act → World → Prop, wpList P ops Q rest a' w' → wpList P ops Q (l ++ rest) a w := by
  intro l
  induction l with
  | nil => intro rest a w a' w' h Q hQ; simp only [runOps, Option.some.injEq, Prod.mk.injEq] at h; obtain ⟨rfl, rfl⟩ := h; exact hQ
  | cons o l ih =>
    intro rest a w a' w' h Q hQ
    unfold runOps at h
    rw [List.cons_append]
    unfold wpList
    split at h
    · rename_i hw
      rw [if_pos hw]
      refine .inl ?_
      unfold Oper.wp
      split at h
      · rename_i v w1 hr; rw [hr, Oper.upon_value]; exact ih _ _ _ _ _ h Q hQ
      · rename_i w1 hr; rw [hr, Oper.upon_skip]; exact ih _ _ _ _ _ h Q hQ
      · rename_i f args w1 hr
        rw [hr, Oper.upon_enter]
        split at h
        · rename_i v w2 hv
          refine (hc _ _ _ _ _ hv).mono ?_
          rintro e w3 ⟨rfl, rfl⟩
          exact ih _ _ _ _ _ h Q hQ
        · cases h
      · cases h
    · rename_i hw
      rw [if_neg (by rw [hw]; decide)]
      exact ih _ _ _ _ _ h Q hQ

/-- A call in a list of operations: by its contract. -/
theorem wpList_calls {ops : Array Oper} {Q : Exit → Act → World → Prop} {rest : List Oper} {o : Oper} {a : Act} {w w0 : World} {f : FuncId} {args : Array Value} {R : Ending → World → Prop} (hg : o.guard = none)
    (hex : (execOp a.eval o).run P w = .ok (.enter f args) w0) (hc : Calls P f args w0 R) (h : ∀ e w', R e w' → ∃ v, e = .returned v ∧ wpList P ops Q rest (a.put o.dst v) w') : wpList P ops Q (o :: rest) a w := by
  refine wpList_plain hg fun K hK => ?_
  unfold Oper.wp
  rw [hex, Oper.upon_enter]
  refine hc.mono ?_
  intro e w' hr
  obtain ⟨v, rfl, hw⟩ := h e w' hr
  exact hK _ _ hw

/-- A variable of its own: the block that is made. -/
theorem wpList_alloc_row {ops : Array Oper} {Q : Exit → Act → World → Prop} {rest : List Oper} {o : Oper} {a : Act} {w : World} {T : TypeId} {v : Value} {n : Nat} (hg : o.guard = none) (ho : o.op = .alloc T)
    (hi : (P.info? T).map (fun i => (i.zero, i.size)) = some (some v, n)) (h : wpList P ops Q rest (a.put o.dst (.pointer (some ⟨w.heap.size, 0, none⟩))) (w.alloc (.cells v.cells T))) : wpList P ops Q (o :: rest) a w := by
  refine wpList_plain hg fun K hK => ?_
  have hz := (zero_of_info hi).1 w
  have hr : (execOp a.eval o).run P w = .ok (.value (.pointer (some ⟨w.heap.size, 0, none⟩))) (w.alloc (.cells v.cells T)) := by
    unfold execOp
    simp only [ho, Instr.alloc]
    simp only [Sem.run_bind, hz, Result.andThen_ok, Sem.run_pure, newVar, newRow]
    rfl
  unfold Oper.wp
  rw [hr, Oper.upon_value]
  exact hK _ _ h

def noCall : Callee := fun _ _ _ => none
theorem noCall_sound : ∀ f args w v w', noCall f args w = some (v, w') → Calls P f args w fun e w'' => e = .returned v ∧ w'' = w' := by intro f args w v w' h; cases h

/-- What the kernel runs: the variable is made; the parts are built; ahead of the store: the pointer, the literal, the world. -/
def litOf (P : Program) (f : FuncId) (w : World) : Option (TypeId × Value × Value × World) :=
  match P.funcs[f]? with
  | some fn =>
    match fn.results, fn.body with
    | ⟨[.cell t0 T]⟩, some (.seq (.region _ ops0 false) (.seq (.region _ ops false) .ret)) =>
      match runOps P noCall ops0.toList ops0 { tmps := #[] ++ Array.replicate (fn.ntmps - 0) undef, defers := [] } w with
      | some (a1, w1) =>
        match runOps P noCall ops.toList.dropLast ops a1 w1 with
        | some (a2, w2) =>
          match ops.toList.getLast? with
          | some ⟨none, .store T' (.tmp t1) x, _, _, _, none⟩ =>
            match decide (T' = T), decide (t1 = t0), a2.defers with
            | true, true, [] => some (T, a2.eval (.tmp t0), a2.eval x, w2)
            | _, _, _ => none
          | _ => none
        | none => none
      | none => none
    | _, _ => none
  | none => none

theorem split_last {α : Type} : ∀ {l : List α} {x : α}, l.getLast? = some x → l = l.dropLast ++ [x]
  | [], _, h => by simp at h
  | [y], x, h => by simp at h; subst h; rfl
  | y :: z :: r, x, h => by
    have h2 : (z :: r).getLast? = some x := by simpa [List.getLast?_cons_cons] using h
    have := split_last h2
    simp only [List.dropLast_cons_cons, List.cons_append]
    rw [← this]

theorem calls_of_lit {f : FuncId} {w : World} {T t : TypeId} {old cs : Array Value} {d : TypeDesc} (h : litOf P f w = some (T, .pointer (some ⟨w.heap.size, 0, none⟩), .agg cs, w.alloc (.cells old t)))
    (hu : P.underlying T = some d) (hd : (match d with | .struct _ | .array _ _ => true | _ => false) = true) (hi : (P.info? T).map (·.size) = some cs.size) (hold : old.size = cs.size)
    (h1 : cs.all (·.oneCell') = true) : Calls P f #[] w fun e w' => e = .returned (.agg cs) ∧ w' = w.alloc (.cells cs t) := by
  unfold litOf at h
  split at h <;> try (cases h; done)
  rename_i fn hf
  split at h <;> try (cases h; done)
  rename_i t0 T0 x0 ops0 x1 ops hres hbody
  split at h <;> try (cases h; done)
  rename_i a1 w1 hr1
  split at h <;> try (cases h; done)
  rename_i a2 w2 hr2
  split at h <;> try (cases h; done)
  rename_i T' t1 x y1 y2 y3 hlast
  split at h <;> try (cases h; done)
  rename_i hT ht hdef
  have hT := of_decide_eq_true hT
  have ht := of_decide_eq_true ht
  subst hT; subst ht
  simp only [Option.some.injEq, Prod.mk.injEq] at h
  obtain ⟨rfl, hp, hv, rfl⟩ := h
  refine calls_of_wp hf hbody ?_
  refine wp_seq (wp_region_list (runOps_sound noCall_sound ops0 _ _ _ _ _ hr1 _ ?_))
  refine wp_seq (wp_region_list ?_)
  rw [split_last hlast]
  refine runOps_then noCall_sound ops _ _ _ _ _ _ hr2 _ ?_
  refine wpList_store_row rfl _ _ _ rfl w.heap.size cs hp hv t old (heap_alloc_last w _) hi hold h1 ?_
  rw [World.setRow_alloc_new]
  refine wpList_nil (wp_ret ?_)
  refine ⟨by simpa [Act.put] using hdef, .agg cs, ?_, rfl, rfl⟩
  refine results_cell_row hres _ _ w.heap.size t cs (0, 0) d ?_ (heap_alloc_last w _) hu hd hi
  simpa [Act.put, Act.eval] using hp

end Go.RunKit

namespace Go.RunKit
open Go Go.RowKit
variable {P : Program}
/-- An operation that hands back a value, run by the kernel. -/
theorem wpList_value {ops : Array Oper} {Q : Exit → Act → World → Prop} {rest : List Oper} {o : Oper} {a : Act} {w : World} {v : Value} (hg : o.guard = none)
    (hr : (execOp a.eval o).run P w = .ok (.value v) w) (h : wpList P ops Q rest (a.put o.dst v) w) : wpList P ops Q (o :: rest) a w := by
  refine wpList_plain hg fun K hK => ?_
  unfold Oper.wp
  rw [hr, Oper.upon_value]
  exact hK _ _ h
end Go.RunKit
namespace Go.Proofs.YtnfkndaggcklkaaGreatDoor
open Go.RowKit Go.RunKit Go.CharrefKit Go.Lib

def winCells : List Value := winTab.map fun x : Nat => .int .i32 ((x : Nat) : Int)
theorem info32 : (Tryz.prog.info? 206).map (fun i => (i.zero, i.size)) = some (some (.agg (Array.replicate 32 (.int .i32 0))), 32) := by kernel_rfl
theorem size32 : (Tryz.prog.info? 206).map (·.size) = some winCells.toArray.size := by kernel_rfl
theorem win_one : winCells.toArray.all (·.oneCell') = true := by kernel_rfl
theorem win_at (k : Nat) (hk : k < 32) : winCells.toArray[k]? = some (.int .i32 ((winTab.getD k 0 : Nat) : Int)) := by
  have h : k < winTab.length := hk
  simp only [winCells, List.getElem?_toArray, List.getElem?_map, List.getElem?_eq_getElem h, Option.map_some, List.getD_eq_getElem?_getD, Option.getD_some]

set_option maxRecDepth 100000 in
set_option maxHeartbeats 1000000 in
theorem windows_any (k : Nat) (hk : k < 32) (w : World) :
    Calls Tryz.prog 218 #[.int .i32 ((k : Int) + 128)] w fun e w' => e = .returned (.int .i32 ((winTab.getD k 0 : Nat) : Int)) ∧ Below w.heap.size w w' := by
  have hkI : (k : Int) < 32 := by omega
  have HC := Lib.hid (win_at k hk)
  have HS := Lib.hid size32
  have HO := Lib.hid win_one
  go_enter Tryz.func218, Tryz.ntmps218
  go_upto_region 1 with (fail)
  rename_i Q' K hK
  refine wp_region_list ?_
  refine wpList_value (v := .agg winCells.toArray) rfl (by kernel_rfl) ?_
  refine wpList_alloc_row rfl rfl info32 ?_
  refine wpList_store_row rfl _ _ _ rfl w.heap.size winCells.toArray (by rfl) (by rfl) 206 _ (heap_alloc_last w _) HS.out (by kernel_rfl) HO.out ?_
  rw [World.setRow_alloc_new]
  refine wpList_nil ?_
  refine hK _ _ ?_
  go_frame
  have hb : Below w.heap.size w (w.alloc (.cells winCells.toArray 206)) := (Below.refl _ _).alloc (Nat.le_refl _) _
  have hc : (w.alloc (.cells winCells.toArray 206)).cell? ⟨w.heap.size, k, none⟩ = some (.int .i32 ((winTab.getD k 0 : Nat) : Int)) := by
    rw [World.cell?_alloc_at _ _ _ _ rfl]; exact HC.out
  generalize winCells.toArray = cs at *
  generalize w.alloc (.cells cs 206) = W at *
  clear HC HS HO
  go_wp2
  go_ret
  exact ⟨rfl, hb⟩

set_option maxRecDepth 100000 in
set_option maxHeartbeats 1000000 in
theorem numbered_any (v : Nat) (hv : v ≤ 17825791) (w : World) :
    Calls Tryz.prog 202 #[.int .i32 (v : Nat)] w fun e w' => e = .returned (.int .i32 ((charOf v : Nat) : Int)) ∧ Below w.heap.size w w' := by
  by_cases h0 : 128 ≤ v ∧ v ≤ 159
  · obtain ⟨h1, h2⟩ := h0
    have H := windows_any (v - 128) (by omega) w
    have e : (((v - 128 : Nat) : Int) + 128) = v := by omega
    rw [e] at H
    have H := Lib.hid H
    have hc : charOf v = winTab.getD (v - 128) 0 := by unfold charOf; rw [if_pos ⟨h1, h2⟩]
    rw [← hc] at H
    have i1 : (128 : Int) ≤ v := by omega
    have i2 : (v : Int) ≤ 159 := by omega
    clear hc e
    go_enter Tryz.func202, Tryz.ntmps202
    go_wp2_with (go_at_call 218; refine H.out.mono ?_; rintro e w1 ⟨rfl, hb⟩)
    go_ret
    exact ⟨rfl, hb⟩
  by_cases h1 : v = 0 ∨ 1114111 < v ∨ (55296 ≤ v ∧ v ≤ 57343)
  · have hc : charOf v = 65533 := by unfold charOf; rw [if_neg h0, if_pos h1]
    rw [hc]
    by_cases a1 : (128 : Int) ≤ v <;> by_cases a2 : (v : Int) ≤ 159 <;> by_cases a3 : (v : Int) = 0 <;> by_cases a4 : (1114111 : Int) < v <;> by_cases a5 : (55296 : Int) ≤ v <;> by_cases a6 : (v : Int) ≤ 57343
    all_goals (try (exfalso; omega))
    all_goals
      clear hc h0 h1
      go_enter Tryz.func202, Tryz.ntmps202
      go_wp2
      go_ret
      exact ⟨rfl, Below.refl _ _⟩
  · have hc : charOf v = v := by unfold charOf; rw [if_neg h0, if_neg h1]
    rw [hc]
    by_cases a1 : (128 : Int) ≤ v <;> by_cases a2 : (v : Int) ≤ 159 <;> by_cases a3 : (v : Int) = 0 <;> by_cases a4 : (1114111 : Int) < v <;> by_cases a5 : (55296 : Int) ≤ v <;> by_cases a6 : (v : Int) ≤ 57343
    all_goals (try (exfalso; omega))
    all_goals
      clear hc h0 h1
      go_enter Tryz.func202, Tryz.ntmps202
      go_wp2
      go_ret
      exact ⟨rfl, Below.refl _ _⟩
end Go.Proofs.YtnfkndaggcklkaaGreatDoor

