/-
  A run of a function by the kernel, over a world that stays a variable: 'runCode' goes through the code step by step; what it comes to holds of 'Calls'. No conditions.
-/
import Derived.WalkKit
namespace Go.RunKit
open Go

abbrev Callee := FuncId → Array Value → World → Option (Value × World)

def runOps (P : Program) (call : Callee) : List Oper → Array Oper → Act → World → Option (Act × World)
  | [], _, a, w => some (a, w)
  | o :: rest, ops, a, w =>
    match Region.wanted o (yielded ops a.tmps) with
    | true =>
      match (execOp a.eval o).run P w with
      | .ok (.value v) w' => runOps P call rest ops (a.put o.dst v) w'
      | .ok .skip w' => runOps P call rest ops (a.put o.dst undef) w'
      | .ok (.enter f args) w' =>
        match call f args w' with
        | some (v, w'') => runOps P call rest ops (a.put o.dst v) w''
        | none => none
      | _ => none
    | false => runOps P call rest ops (a.put o.dst undef) w

variable {P : Program}

theorem runOps_sound {call : Callee} (hc : ∀ f args w v w', call f args w = some (v, w') → Calls P f args w fun e w'' => e = .returned v ∧ w'' = w') (ops : Array Oper) :
    ∀ (l : List Oper) (a : Act) (w : World) (a' : Act) (w' : World), runOps P call l ops a w = some (a', w') → ∀ Q : Exit → Act → World → Prop, Q .normal a' w' → wpList P ops Q l a w := by
  intro l
  induction l with
  | nil => intro a w a' w' h Q hQ; simp only [runOps, Option.some.injEq, Prod.mk.injEq] at h; obtain ⟨rfl, rfl⟩ := h; exact hQ
  | cons o rest ih =>
    intro a w a' w' h Q hQ
    unfold runOps at h
    unfold wpList
    split at h
    · rename_i hw
      rw [if_pos hw]
      refine .inl ?_
      unfold Oper.wp
      split at h
      · rename_i v w1 hr; rw [hr, Oper.upon_value]; exact ih _ _ _ _ h Q hQ
      · rename_i w1 hr; rw [hr, Oper.upon_skip]; exact ih _ _ _ _ h Q hQ
      · rename_i f args w1 hr
        rw [hr, Oper.upon_enter]
        split at h
        · rename_i v w2 hv
          refine (hc _ _ _ _ _ hv).mono ?_
          rintro e w3 ⟨rfl, rfl⟩
          exact ih _ _ _ _ h Q hQ
        · cases h
      · cases h
    · rename_i hw
      rw [if_neg (by rw [hw]; decide)]
      exact ih _ _ _ _ h Q hQ

end Go.RunKit

