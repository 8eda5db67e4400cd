/-
  A run of a function by the kernel, over a world that stays a variable: 'runCode' goes through the code step by step; what it comes to holds of 'Calls'. No conditions.
-/
import Derived.WalkKit
namespace Go.RunKit
open Go

/-- What a function hands back whose results lie in slots. -/
def slots (fn : Func) (tmps : Array Value) : Option Value :=
  match fn.results with
  | ⟨[]⟩ => some (.tuple #[])
  | ⟨[.tmp t]⟩ => some (tmps.getD t undef)
  | ⟨[.tmp t, .tmp u]⟩ => some (.tuple #[tmps.getD t undef, tmps.getD u undef])
  | ⟨[.tmp t, .tmp u, .tmp v]⟩ => some (.tuple #[tmps.getD t undef, tmps.getD u undef, tmps.getD v undef])
  | _ => none

theorem slots_sound {fn : Func} {tmps : Array Value} {v : Value} (h : slots fn tmps = some v) (P : Program) (w : World) : (results fn tmps).run P w = .ok v w := by
  unfold slots at h
  split at h
  · rename_i hr; cases h; exact results_none hr _ _ _
  · rename_i hr; cases h; exact results_tmp hr _ _ _
  · rename_i hr; cases h; exact results_tmp2 hr _ _ _
  · rename_i hr; cases h; exact results_tmp3 hr _ _ _
  · cases h

abbrev Callee := FuncId → Array Value → World → Option (Value × World)

def runOps (P : Program) (call : Callee) : List Oper → Array Oper → Act → World → Option (Act × World)
  | [], _, a, w => some (a, w)
  | o :: rest, ops, a, w =>
    match Region.wanted o (yielded ops a.tmps) with
    | true =>
      match (execOp a.eval o).run P w with
      | .ok (.value v) w' => runOps P call rest ops (a.put o.dst v) w'
      | .ok .skip w' => runOps P call rest ops (a.put o.dst undef) w'
      | .ok (.enter f args) w' =>
        match call f args w' with
        | some (v, w'') => runOps P call rest ops (a.put o.dst v) w''
        | none => none
      | _ => none
    | false => runOps P call rest ops (a.put o.dst undef) w

def callBy (P : Program) (rc : Code → Act → World → Option (Exit × Act × World)) : Callee := fun f args w =>
  match P.funcs[f]? with
  | some fn =>
    match fn.body with
    | some c =>
      match rc c { tmps := args ++ Array.replicate (fn.ntmps - args.size) undef, defers := [] } w with
      | some (.ret, a', w') =>
        match a'.defers with
        | [] => match slots fn a'.tmps with
          | some v => some (v, w')
          | none => none
        | _ => none
      | some (.normal, a', w') =>
        match a'.defers with
        | [] => match slots fn a'.tmps with
          | some v => some (v, w')
          | none => none
        | _ => none
      | _ => none
    | none => none
  | none => none

def runCode (P : Program) : Nat → Code → Act → World → Option (Exit × Act × World)
  | 0, _, _, _ => none
  | n + 1, c, a, w =>
    match c with
    | .skip => some (.normal, a, w)
    | .label _ => some (.normal, a, w)
    | .region _ ops false =>
      match runOps P (callBy P (runCode P n)) ops.toList ops a w with
      | some (a', w') => some (.normal, a', w')
      | none => none
    | .seq x y =>
      match runCode P n x a w with
      | some (.normal, a', w') => runCode P n y a' w'
      | r => r
    | .cond c x y =>
      match a.eval c with
      | .bool true => runCode P n x a w
      | .bool false => runCode P n y a w
      | _ => none
    | .block id b =>
      match runCode P n b a w with
      | some (.exit id', a', w') => if id' = id then some (.normal, a', w') else some (.exit id', a', w')
      | r => r
    | .loop b =>
      match runCode P n b a w with
      | some (.normal, a', w') => runCode P n (.loop b) a' w'
      | r => r
    | .exit id => some (.exit id, a, w)
    | .ret => some (.ret, a, w)
    | _ => none

/-- THE RUN OF A CALL. -/
def runFun (P : Program) (n : Nat) : Callee := callBy P (runCode P n)

variable {P : Program}

theorem runOps_sound {call : Callee} (hc : ∀ f args w v w', call f args w = some (v, w') → Calls P f args w fun e w'' => e = .returned v ∧ w'' = w') (ops : Array Oper) :
    ∀ (l : List Oper) (a : Act) (w : World) (a' : Act) (w' : World), runOps P call l ops a w = some (a', w') → ∀ Q : Exit → Act → World → Prop, Q .normal a' w' → wpList P ops Q l a w := by
  intro l
  induction l with
  | nil => intro a w a' w' h Q hQ; simp only [runOps, Option.some.injEq, Prod.mk.injEq] at h; obtain ⟨rfl, rfl⟩ := h; exact hQ
  | cons o rest ih =>
    intro a w a' w' h Q hQ
    unfold runOps at h
    unfold wpList
    split at h
    · rename_i hw
      rw [if_pos hw]
      refine .inl ?_
      unfold Oper.wp
      split at h
      · rename_i v w1 hr; rw [hr, Oper.upon_value]; exact ih _ _ _ _ h Q hQ
      · rename_i w1 hr; rw [hr, Oper.upon_skip]; exact ih _ _ _ _ h Q hQ
      · rename_i f args w1 hr
        rw [hr, Oper.upon_enter]
        split at h
        · rename_i v w2 hv
          refine (hc _ _ _ _ _ hv).mono ?_
          rintro e w3 ⟨rfl, rfl⟩
          exact ih _ _ _ _ h Q hQ
        · cases h
      · cases h
    · rename_i hw
      rw [if_neg (by rw [hw]; decide)]
      exact ih _ _ _ _ h Q hQ

theorem callBy_sound {rc : Code → Act → World → Option (Exit × Act × World)} (hrc : ∀ c a w e a' w', rc c a w = some (e, a', w') → ∀ Q : Exit → Act → World → Prop, Q e a' w' → c.wp P Q a w)
    (f : FuncId) (args : Array Value) (w : World) (v : Value) (w' : World) (h : callBy P rc f args w = some (v, w')) : Calls P f args w fun e w'' => e = .returned v ∧ w'' = w' := by
  unfold callBy at h
  split at h
  · rename_i fn hf
    split at h
    · rename_i c hb
      split at h
      · rename_i a1 w1 hr
        split at h
        · rename_i hd
          split at h
          · rename_i v1 hs
            simp only [Option.some.injEq, Prod.mk.injEq] at h
            obtain ⟨rfl, rfl⟩ := h
            exact calls_of_wp hf hb (hrc _ _ _ _ _ _ hr _ ⟨hd, v1, slots_sound hs P _, rfl, rfl⟩)
          · cases h
        · cases h
      · rename_i a1 w1 hr
        split at h
        · rename_i hd
          split at h
          · rename_i v1 hs
            simp only [Option.some.injEq, Prod.mk.injEq] at h
            obtain ⟨rfl, rfl⟩ := h
            exact calls_of_wp hf hb (hrc _ _ _ _ _ _ hr _ ⟨hd, v1, slots_sound hs P _, rfl, rfl⟩)
          · cases h
        · cases h
      · cases h
    · cases h
  · cases h

/-- A loop, from behind its head. -/
def wpL (P : Program) (c : Code) (Q : Exit → Act → World → Prop) (a : Act) (w : World) : Prop :=
  ∀ (b : Frame) (k : List Item) (cs : List Frame), ∃ e a' w', Q e a' w' ∧ Arrives P (lone (b.at a (.code c :: .inLoop c :: k)) cs w) b k cs e a' w'

theorem wp_of_wpL {c : Code} {Q : Exit → Act → World → Prop} {a : Act} {w : World} (h : wpL P c Q a w) : (Code.loop c).wp P Q a w :=
  fun b k cs => let ⟨e, a', w', q, r⟩ := h b k cs; ⟨e, a', w', q, .of_steps (.one step_loop) r⟩

theorem wpL_of {c : Code} {Q : Exit → Act → World → Prop} {a : Act} {w : World} (h : c.wp P (Exit.then (wpL P c Q) Q) a w) : wpL P c Q a w := by
  intro b k cs
  obtain ⟨e, a₁, w₁, hq, harr⟩ := h b (.inLoop c :: k) cs
  cases e with
  | normal =>
    obtain ⟨e₂, a₂, w₂, hq₂, harr₂⟩ := hq b k cs
    exact ⟨e₂, a₂, w₂, hq₂, .of_steps (Steps.trans harr (.one step_inLoop)) harr₂⟩
  | exit id => exact ⟨_, a₁, w₁, hq, .pass (x := .inLoop c) rfl (fun _ _ => .inl (by simp)) harr⟩
  | goto l => exact ⟨_, a₁, w₁, hq, .pass (x := .inLoop c) rfl (fun _ _ => .inl (by simp)) harr⟩
  | ret => exact ⟨_, a₁, w₁, hq, .pass (x := .inLoop c) rfl (fun _ _ => .inl (by simp)) harr⟩
  | panic ch => exact ⟨_, a₁, w₁, hq, .pass (x := .inLoop c) rfl (fun _ _ => .inl (by simp)) harr⟩
  | outgrown => exact ⟨_, a₁, w₁, hq, .pass (x := .inLoop c) rfl (fun _ _ => .inl (by simp)) harr⟩

theorem then_of {Q : Exit → Act → World → Prop} {K : Act → World → Prop} {e : Exit} {a : Act} {w : World} (hn : e ≠ .normal) (h : Q e a w) : Exit.then K Q e a w := by
  cases e <;> first | exact h | exact absurd rfl hn

theorem runCode_sound : ∀ (n : Nat), (∀ (c : Code) (a : Act) (w : World) (e : Exit) (a' : Act) (w' : World), runCode P n c a w = some (e, a', w') → ∀ Q : Exit → Act → World → Prop, Q e a' w' → c.wp P Q a w) ∧
    (∀ (c : Code) (a : Act) (w : World) (e : Exit) (a' : Act) (w' : World), runCode P n (.loop c) a w = some (e, a', w') → ∀ Q : Exit → Act → World → Prop, Q e a' w' → wpL P c Q a w) := by
  intro n
  induction n with
  | zero => exact ⟨fun _ _ _ _ _ _ h => by simp [runCode] at h, fun _ _ _ _ _ _ h => by simp [runCode] at h⟩
  | succ n ih =>
    have hloop : ∀ (c : Code) (a : Act) (w : World) (e : Exit) (a' : Act) (w' : World), runCode P (n + 1) (.loop c) a w = some (e, a', w') → ∀ Q : Exit → Act → World → Prop, Q e a' w' → wpL P c Q a w := by
      intro c a w e a' w' h Q hQ
      simp only [runCode] at h
      split at h
      · rename_i a1 w1 h1
        exact wpL_of (ih.1 _ _ _ _ _ _ h1 _ (ih.2 _ _ _ _ _ _ h Q hQ))
      · rename_i hne
        refine wpL_of (ih.1 _ _ _ _ _ _ h _ (then_of ?_ hQ))
        rintro rfl
        exact hne _ _ h
    refine ⟨?_, hloop⟩
    intro c a w e a' w' h Q hQ
    cases c with
    | skip => simp only [runCode, Option.some.injEq, Prod.mk.injEq] at h; obtain ⟨rfl, rfl, rfl⟩ := h; exact wp_skip hQ
    | label l => simp only [runCode, Option.some.injEq, Prod.mk.injEq] at h; obtain ⟨rfl, rfl, rfl⟩ := h; exact wp_label hQ
    | exit id => simp only [runCode, Option.some.injEq, Prod.mk.injEq] at h; obtain ⟨rfl, rfl, rfl⟩ := h; exact wp_exit hQ
    | ret => simp only [runCode, Option.some.injEq, Prod.mk.injEq] at h; obtain ⟨rfl, rfl, rfl⟩ := h; exact wp_ret hQ
    | region id ops draw =>
      cases draw with
      | true => simp [runCode] at h
      | false =>
        simp only [runCode] at h
        split at h
        · rename_i a1 w1 h1
          simp only [Option.some.injEq, Prod.mk.injEq] at h
          obtain ⟨rfl, rfl, rfl⟩ := h
          exact wp_region_list (runOps_sound (callBy_sound ih.1) ops _ _ _ _ _ h1 Q hQ)
        · cases h
    | seq x y =>
      simp only [runCode] at h
      split at h
      · rename_i a1 w1 h1
        exact wp_seq (ih.1 _ _ _ _ _ _ h1 _ (ih.1 _ _ _ _ _ _ h Q hQ))
      · rename_i hne
        refine wp_seq (ih.1 _ _ _ _ _ _ h _ (then_of ?_ hQ))
        rintro rfl
        exact hne _ _ h
    | cond c x y =>
      simp only [runCode] at h
      split at h
      · rename_i hc; exact wp_cond_true hc (ih.1 _ _ _ _ _ _ h Q hQ)
      · rename_i hc; exact wp_cond_false hc (ih.1 _ _ _ _ _ _ h Q hQ)
      · cases h
    | block id b =>
      simp only [runCode] at h
      split at h
      · rename_i id' a1 w1 h1
        refine wp_block (ih.1 _ _ _ _ _ _ h1 _ ?_)
        by_cases hid : id' = id
        · rw [if_pos hid] at h
          simp only [Option.some.injEq, Prod.mk.injEq] at h
          obtain ⟨rfl, rfl, rfl⟩ := h
          simp only [Exit.inBlock, hid, if_true]; exact hQ
        · rw [if_neg hid] at h
          simp only [Option.some.injEq, Prod.mk.injEq] at h
          obtain ⟨rfl, rfl, rfl⟩ := h
          simp only [Exit.inBlock, hid, if_false]; exact hQ
      · rename_i hne
        refine wp_block (ih.1 _ _ _ _ _ _ h _ ?_)
        cases e <;> first | exact hQ | exact absurd h (hne _ _ _)
    | loop b => exact wp_of_wpL (hloop _ _ _ _ _ _ h Q hQ)
    | rangeFunc => simp [runCode] at h
    | scope => simp [runCode] at h
    | goto => simp [runCode] at h
    | refuse => simp [runCode] at h

/-- WHAT THE RUN COMES TO HOLDS OF THE CALL. -/
theorem calls_of_run {n : Nat} {f : FuncId} {args : Array Value} {w : World} {v : Value} {w' : World} (h : runFun P n f args w = some (v, w')) : Calls P f args w fun e w'' => e = .returned v ∧ w'' = w' :=
  callBy_sound (runCode_sound n).1 f args w v w' h
end Go.RunKit
