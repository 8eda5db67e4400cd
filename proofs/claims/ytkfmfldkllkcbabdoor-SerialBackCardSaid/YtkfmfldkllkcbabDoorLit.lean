/-
  A function that hands a literal of an array back by value, through a variable of its own: a run of the parts by the kernel, the store and the last load by the laws on whole rows. No conditions.
-/
import Derived.Test.YtkfmfldkllkcbabDoorKit
import Derived.Deep.WholeRow
namespace Go.RunKit
open Go Go.RowKit
variable {P : Program}

theorem runOps_then {call : Callee} (hc : ∀ f args w v w', call f args w = some (v, w') → Calls P f args w fun e w'' => e = .returned v ∧ w'' = w') (ops : Array Oper) :
    ∀ (l : List Oper) (rest : List Oper) (a : Act) (w : World) (a' : Act) (w' : World), runOps P call l ops a w = some (a', w') → ∀ Q : Exit → Act → World → Prop, wpList P ops Q rest a' w' → wpList P ops Q (l ++ rest) a w := by
  intro l
  induction l with
  | nil => intro rest a w a' w' h Q hQ; simp only [runOps, Option.some.injEq, Prod.mk.injEq] at h; obtain ⟨rfl, rfl⟩ := h; exact hQ
  | cons o l ih =>
    intro rest a w a' w' h Q hQ
    unfold runOps at h
    rw [List.cons_append]
    unfold wpList
    split at h
    · rename_i hw
      rw [if_pos hw]
      refine .inl ?_
      unfold Oper.wp
      split at h
      · rename_i v w1 hr; rw [hr, Oper.upon_value]; exact ih _ _ _ _ _ h Q hQ
      · rename_i w1 hr; rw [hr, Oper.upon_skip]; exact ih _ _ _ _ _ h Q hQ
      · rename_i f args w1 hr
        rw [hr, Oper.upon_enter]
        split at h
        · rename_i v w2 hv
          refine (hc _ _ _ _ _ hv).mono ?_
          rintro e w3 ⟨rfl, rfl⟩
          exact ih _ _ _ _ _ h Q hQ
        · cases h
      · cases h
    · rename_i hw
      rw [if_neg (by rw [hw]; decide)]
      exact ih _ _ _ _ _ h Q hQ

/-- A call in a list of operations: by its contract. -/
theorem wpList_calls {ops : Array Oper} {Q : Exit → Act → World → Prop} {rest : List Oper} {o : Oper} {a : Act} {w w0 : World} {f : FuncId} {args : Array Value} {R : Ending → World → Prop} (hg : o.guard = none)
    (hex : (execOp a.eval o).run P w = .ok (.enter f args) w0) (hc : Calls P f args w0 R) (h : ∀ e w', R e w' → ∃ v, e = .returned v ∧ wpList P ops Q rest (a.put o.dst v) w') : wpList P ops Q (o :: rest) a w := by
  refine wpList_plain hg fun K hK => ?_
  unfold Oper.wp
  rw [hex, Oper.upon_enter]
  refine hc.mono ?_
  intro e w' hr
  obtain ⟨v, rfl, hw⟩ := h e w' hr
  exact hK _ _ hw

/-- A variable of its own: the block that is made. -/
theorem wpList_alloc_row {ops : Array Oper} {Q : Exit → Act → World → Prop} {rest : List Oper} {o : Oper} {a : Act} {w : World} {T : TypeId} {v : Value} {n : Nat} (hg : o.guard = none) (ho : o.op = .alloc T)
    (hi : (P.info? T).map (fun i => (i.zero, i.size)) = some (some v, n)) (h : wpList P ops Q rest (a.put o.dst (.pointer (some ⟨w.heap.size, 0, none⟩))) (w.alloc (.cells v.cells T))) : wpList P ops Q (o :: rest) a w := by
  refine wpList_plain hg fun K hK => ?_
  have hz := (zero_of_info hi).1 w
  have hr : (execOp a.eval o).run P w = .ok (.value (.pointer (some ⟨w.heap.size, 0, none⟩))) (w.alloc (.cells v.cells T)) := by
    unfold execOp
    simp only [ho, Instr.alloc]
    simp only [Sem.run_bind, hz, Result.andThen_ok, Sem.run_pure, newVar, newRow]
    rfl
  unfold Oper.wp
  rw [hr, Oper.upon_value]
  exact hK _ _ h

def noCall : Callee := fun _ _ _ => none
theorem noCall_sound : ∀ f args w v w', noCall f args w = some (v, w') → Calls P f args w fun e w'' => e = .returned v ∧ w'' = w' := by intro f args w v w' h; cases h

/-- What the kernel runs: the variable is made; the parts are built; ahead of the store: the pointer, the literal, the world. -/
def litOf (P : Program) (f : FuncId) (w : World) : Option (TypeId × Value × Value × World) :=
  match P.funcs[f]? with
  | some fn =>
    match fn.results, fn.body with
    | ⟨[.cell t0 T]⟩, some (.seq (.region _ ops0 false) (.seq (.region _ ops false) .ret)) =>
      match runOps P noCall ops0.toList ops0 { tmps := #[] ++ Array.replicate (fn.ntmps - 0) undef, defers := [] } w with
      | some (a1, w1) =>
        match runOps P noCall ops.toList.dropLast ops a1 w1 with
        | some (a2, w2) =>
          match ops.toList.getLast? with
          | some ⟨none, .store T' (.tmp t1) x, _, _, _, none⟩ =>
            match decide (T' = T), decide (t1 = t0), a2.defers with
            | true, true, [] => some (T, a2.eval (.tmp t0), a2.eval x, w2)
            | _, _, _ => none
          | _ => none
        | none => none
      | none => none
    | _, _ => none
  | none => none

theorem split_last {α : Type} : ∀ {l : List α} {x : α}, l.getLast? = some x → l = l.dropLast ++ [x]
  | [], _, h => by simp at h
  | [y], x, h => by simp at h; subst h; rfl
  | y :: z :: r, x, h => by
    have h2 : (z :: r).getLast? = some x := by simpa [List.getLast?_cons_cons] using h
    have := split_last h2
    simp only [List.dropLast_cons_cons, List.cons_append]
    rw [← this]

theorem calls_of_lit {f : FuncId} {w : World} {T t : TypeId} {old cs : Array Value} {d : TypeDesc} (h : litOf P f w = some (T, .pointer (some ⟨w.heap.size, 0, none⟩), .agg cs, w.alloc (.cells old t)))
    (hu : P.underlying T = some d) (hd : (match d with | .struct _ | .array _ _ => true | _ => false) = true) (hi : (P.info? T).map (·.size) = some cs.size) (hold : old.size = cs.size)
    (h1 : cs.all (·.oneCell') = true) : Calls P f #[] w fun e w' => e = .returned (.agg cs) ∧ w' = w.alloc (.cells cs t) := by
  unfold litOf at h
  split at h <;> try (cases h; done)
  rename_i fn hf
  split at h <;> try (cases h; done)
  rename_i t0 T0 x0 ops0 x1 ops hres hbody
  split at h <;> try (cases h; done)
  rename_i a1 w1 hr1
  split at h <;> try (cases h; done)
  rename_i a2 w2 hr2
  split at h <;> try (cases h; done)
  rename_i T' t1 x y1 y2 y3 hlast
  split at h <;> try (cases h; done)
  rename_i hT ht hdef
  have hT := of_decide_eq_true hT
  have ht := of_decide_eq_true ht
  subst hT; subst ht
  simp only [Option.some.injEq, Prod.mk.injEq] at h
  obtain ⟨rfl, hp, hv, rfl⟩ := h
  refine calls_of_wp hf hbody ?_
  refine wp_seq (wp_region_list (runOps_sound noCall_sound ops0 _ _ _ _ _ hr1 _ ?_))
  refine wp_seq (wp_region_list ?_)
  rw [split_last hlast]
  refine runOps_then noCall_sound ops _ _ _ _ _ _ hr2 _ ?_
  refine wpList_store_row rfl _ _ _ rfl w.heap.size cs hp hv t old (heap_alloc_last w _) hi hold h1 ?_
  rw [World.setRow_alloc_new]
  refine wpList_nil (wp_ret ?_)
  refine ⟨by simpa [Act.put] using hdef, .agg cs, ?_, rfl, rfl⟩
  refine results_cell_row hres _ _ w.heap.size t cs (0, 0) d ?_ (heap_alloc_last w _) hu hd hi
  simpa [Act.put, Act.eval] using hp

end Go.RunKit

