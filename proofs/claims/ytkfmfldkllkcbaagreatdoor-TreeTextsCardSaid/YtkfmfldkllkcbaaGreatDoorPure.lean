/-
  A run by the kernel of a function that touches no memory, its callees taken by a table of their answers; the callees may lay blocks of their own. No conditions.
-/
import Derived.Test.YtkfmfldkllkcbaaGreatDoorBelow
namespace Go.RunKit
open Go Go.RowKit

def evalPure {α : Type} (P : Program) : Sem α → Option α
  | .pure a => some a
  | .program k => evalPure P (k P)
  | .mark _ k => evalPure P k
  | _ => none

theorem evalPure_sound {α : Type} {P : Program} : ∀ {s : Sem α} {x : α}, evalPure P s = some x → ∀ w, s.run P w = .ok x w
  | .pure a, x, h, w => by simp only [evalPure, Option.some.injEq] at h; subst h; rfl
  | .program k, x, h, w => by simp only [evalPure] at h; exact evalPure_sound (s := k P) h w
  | .mark _ k, x, h, w => by simp only [evalPure] at h; exact evalPure_sound (s := k) h w

/-- The answers of the callees. -/
abbrev Table := FuncId → Array Value → Option Value
def Table.Holds (P : Program) (T : Table) : Prop := ∀ f args v, T f args = some v → ∀ w, Calls P f args w fun e w' => e = .returned v ∧ Below w.heap.size w w'

/-- What lies in the slots: the newest write ahead. -/
abbrev Env := List (Nat × Value)
def look : Env → Nat → Value
  | [], _ => undef
  | (k, v) :: r, t => match Nat.beq k t with
    | true => v
    | false => look r t
def evalL (ρ : Env) : Operand → Value
  | .tmp t => look ρ t
  | x => Act.eval { tmps := #[], defers := [] } x
def yieldedL (ops : List Oper) (ρ : Env) (j : Nat) : Option Bool :=
  match ops[j]? with
  | some o => match o.dst with
    | some d => match look ρ d with
      | .bool b => some b
      | _ => none
    | none => none
  | none => none
/-- The slots of an activation are what the list says. -/
structure Fits (a : Act) (n : Nat) (ρ : Env) : Prop where
  size : a.tmps.size = n
  at' : ∀ t, a.tmps.getD t undef = look ρ t
  defers : a.defers = []

theorem Fits.eval {a : Act} {n : Nat} {ρ : Env} (h : Fits a n ρ) : a.eval = evalL ρ := by
  funext x
  cases x with
  | tmp t => exact h.at' t
  | _ => rfl

theorem Fits.put {a : Act} {n d : Nat} {ρ : Env} {v : Value} (h : Fits a n ρ) (hd : d < n) : Fits (a.put (some d) v) n ((d, v) :: ρ) := by
  refine ⟨by simpa [Act.put] using h.size, fun t => ?_, by simpa [Act.put] using h.defers⟩
  have hs := h.size
  show (a.tmps.setIfInBounds d v).getD t undef = _
  unfold look
  cases hb : Nat.beq d t with
  | true =>
    obtain rfl : d = t := Nat.eq_of_beq_eq_true hb
    simp [Array.getD_eq_getD_getElem?, hs, hd]
  | false =>
    have hne : d ≠ t := Nat.ne_of_beq_eq_false hb
    have := h.at' t
    rw [Array.getD_eq_getD_getElem?] at this
    simp [Array.getD_eq_getD_getElem?, hne, this]

theorem Fits.yielded {a : Act} {n : Nat} {ρ : Env} {ops : Array Oper} (h : Fits a n ρ) (hall : ∀ o ∈ ops.toList, ∀ d, o.dst = some d → d < n) : yielded ops a.tmps = yieldedL ops.toList ρ := by
  funext j
  unfold Go.yielded yieldedL
  rw [← Array.getElem?_toList]
  cases ho : ops.toList[j]? with
  | none => rfl
  | some o =>
    have hm : o ∈ ops.toList := List.mem_of_getElem? ho
    cases hd : o.dst with
    | none => simp [hd]
    | some d =>
      have hlt : d < a.tmps.size := by rw [h.size]; exact hall o hm d hd
      have := h.at' d
      rw [Array.getD_eq_getD_getElem?] at this
      simp only [Option.bind_some, hd]
      rw [Array.getElem?_eq_getElem hlt] at this ⊢
      simp only [Option.getD_some] at this
      rw [this]
      cases look ρ d <;> rfl

def putL (n : Nat) (ρ : Env) : Option Tmp → Value → Option Env
  | none, _ => some ρ
  | some d, v => match Nat.blt d n with
    | true => some ((d, v) :: ρ)
    | false => none
theorem putL_sound {a : Act} {n : Nat} {ρ ρ' : Env} {dst : Option Tmp} {v : Value} (h : Fits a n ρ) (hp : putL n ρ dst v = some ρ') : Fits (a.put dst v) n ρ' := by
  cases dst with
  | none => simp only [putL, Option.some.injEq] at hp; subst hp; exact h
  | some d =>
    simp only [putL] at hp
    split at hp
    · rename_i hb
      simp only [Option.some.injEq] at hp; subst hp
      exact h.put (Nat.le_of_ble_eq_true hb)
    · cases hp

def inside (n : Nat) : List Oper → Bool
  | [] => true
  | o :: r => (match o.dst with
    | some d => Nat.blt d n
    | none => true) && inside n r
theorem inside_all {n : Nat} : ∀ {l : List Oper}, inside n l = true → ∀ o ∈ l, ∀ d, o.dst = some d → d < n := by
  intro l
  induction l with
  | nil => intro _ o ho; simp at ho
  | cons x r ih =>
    intro h o ho d hd
    simp only [inside, Bool.and_eq_true] at h
    rcases List.mem_cons.1 ho with rfl | ho
    · have := h.1
      rw [hd] at this
      exact Nat.le_of_ble_eq_true this
    · exact ih h.2 o ho d hd

def runOpsQ (P : Program) (T : Table) (n : Nat) (ops : List Oper) : List Oper → Env → Option Env
  | [], ρ => some ρ
  | o :: rest, ρ =>
    match Region.wanted o (yieldedL ops ρ) with
    | true =>
      match evalPure P (execOp (evalL ρ) o) with
      | some (.value v) => match putL n ρ o.dst v with
        | some ρ' => runOpsQ P T n ops rest ρ'
        | none => none
      | some .skip => match putL n ρ o.dst undef with
        | some ρ' => runOpsQ P T n ops rest ρ'
        | none => none
      | some (.enter f args) =>
        match T f args with
        | some v => match putL n ρ o.dst v with
          | some ρ' => runOpsQ P T n ops rest ρ'
          | none => none
        | none => none
      | _ => none
    | false => match putL n ρ o.dst undef with
      | some ρ' => runOpsQ P T n ops rest ρ'
      | none => none

def runRegionQ (P : Program) (T : Table) (n : Nat) (ops : List Oper) (ρ : Env) : Option Env :=
  match inside n ops with
  | true => runOpsQ P T n ops ops ρ
  | false => none

def runCodeQ (P : Program) (T : Table) (m : Nat) : Nat → Code → Env → Option (Exit × Env)
  | 0, _, _ => none
  | n + 1, c, a =>
    match c with
    | .skip => some (.normal, a)
    | .label _ => some (.normal, a)
    | .region _ ops draw =>
      match draw with
      | false => match runRegionQ P T m ops.toList a with
        | some a' => some (.normal, a')
        | none => none
      | true =>
        match P.follows .mixedOrders, Region.lexB .any ops with
        | true, true => match runRegionQ P T m ops.toList a with
          | some a' => some (.normal, a')
          | none => none
        | _, _ => none
    | .seq x y =>
      match runCodeQ P T m n x a with
      | some (.normal, a') => runCodeQ P T m n y a'
      | r => r
    | .cond c x y =>
      match evalL a c with
      | .bool true => runCodeQ P T m n x a
      | .bool false => runCodeQ P T m n y a
      | _ => none
    | .block id b =>
      match runCodeQ P T m n b a with
      | some (.exit id', a') => if id' = id then some (.normal, a') else some (.exit id', a')
      | r => r
    | .loop b =>
      match runCodeQ P T m n b a with
      | some (.normal, a') => runCodeQ P T m n (.loop b) a'
      | r => r
    | .exit id => some (.exit id, a)
    | .ret => some (.ret, a)
    | _ => none

def env0 : List Value → Nat → Env
  | [], _ => []
  | v :: r, k => (k, v) :: env0 r (k + 1)
theorem look_env0 : ∀ (l : List Value) (k t : Nat), look (env0 l k) t = if t < k then undef else l.getD (t - k) undef
  | [], k, t => by simp [env0, look]
  | v :: r, k, t => by
    unfold env0 look
    cases hb : Nat.beq k t with
    | true =>
      obtain rfl : k = t := Nat.eq_of_beq_eq_true hb
      simp
    | false =>
      have hne : k ≠ t := Nat.ne_of_beq_eq_false hb
      rw [look_env0 r (k + 1) t]
      by_cases h : t < k
      · simp [h, show t < k + 1 by omega]
      · have h1 : ¬ t < k + 1 := by omega
        have h2 : t - k = (t - (k + 1)) + 1 := by omega
        simp [h, h1, h2]
theorem fits0 (args : Array Value) (n : Nat) : Fits { tmps := args ++ Array.replicate (n - args.size) undef, defers := [] } (args.size + (n - args.size)) (env0 args.toList 0) := by
  refine ⟨by simp, fun t => ?_, rfl⟩
  rw [look_env0]
  simp only [Nat.not_lt_zero, if_false, Nat.sub_zero]
  rw [Array.getD_eq_getD_getElem?, Array.getElem?_append]
  by_cases h : t < args.size
  · simp [h]
  · simp [h]
    by_cases h2 : t - args.size < n - args.size
    · simp [h2]
    · simp [h2]

def slotsL (fn : Func) (ρ : Env) : Option Value :=
  match fn.results with
  | ⟨[]⟩ => some (.tuple #[])
  | ⟨[.tmp t]⟩ => some (look ρ t)
  | ⟨[.tmp t, .tmp u]⟩ => some (.tuple #[look ρ t, look ρ u])
  | ⟨[.tmp t, .tmp u, .tmp v]⟩ => some (.tuple #[look ρ t, look ρ u, look ρ v])
  | _ => none
theorem slotsL_eq {fn : Func} {a : Act} {n : Nat} {ρ : Env} (h : Fits a n ρ) : slotsL fn ρ = slots fn a.tmps := by
  unfold slotsL slots
  simp only [h.at']
  rfl

def runFunQ (P : Program) (T : Table) (n : Nat) (f : FuncId) (args : Array Value) : Option Value :=
  match P.funcs[f]? with
  | some fn =>
    match fn.body with
    | some c =>
      match runCodeQ P T (args.size + (fn.ntmps - args.size)) n c (env0 args.toList 0) with
      | some (.ret, ρ) => slotsL fn ρ
      | some (.normal, ρ) => slotsL fn ρ
      | _ => none
    | none => none
  | none => none

variable {P : Program} {T : Table}

theorem runOpsQ_sound (hT : T.Holds P) (ops : Array Oper) (n : Nat) (hin : inside n ops.toList = true) : ∀ (l : List Oper) (ρ ρ' : Env), runOpsQ P T n ops.toList l ρ = some ρ' → ∀ (a : Act), Fits a n ρ → ∀ (B : Nat) (w0 w : World) (Q : Exit → Act → World → Prop), Below B w0 w → B ≤ w.heap.size →
    (∀ a' w', Fits a' n ρ' → Below B w0 w' → B ≤ w'.heap.size → Q .normal a' w') → wpList P ops Q l a w := by
  intro l
  induction l with
  | nil => intro ρ ρ' h a ha B w0 w Q hb hB hQ; simp only [runOpsQ, Option.some.injEq] at h; subst h; exact hQ _ _ ha hb hB
  | cons o rest ih =>
    intro ρ ρ' h a ha B w0 w Q hb hB hQ
    unfold runOpsQ at h
    unfold wpList
    rw [ha.yielded (inside_all hin)]
    split at h
    · rename_i hw
      rw [if_pos hw]
      refine .inl ?_
      unfold Oper.wp
      rw [ha.eval]
      split at h
      · rename_i v hr
        rw [evalPure_sound hr w, Oper.upon_value]
        split at h
        · rename_i ρ1 hp; exact ih _ _ h _ (putL_sound ha hp) B w0 w Q hb hB hQ
        · cases h
      · rename_i hr
        rw [evalPure_sound hr w, Oper.upon_skip]
        split at h
        · rename_i ρ1 hp; exact ih _ _ h _ (putL_sound ha hp) B w0 w Q hb hB hQ
        · cases h
      · rename_i f args hr
        rw [evalPure_sound hr w, Oper.upon_enter]
        split at h
        · rename_i v hv
          split at h
          · rename_i ρ1 hp
            refine (hT _ _ _ hv w).mono ?_
            rintro e w3 ⟨rfl, hb3⟩
            exact ih _ _ h _ (putL_sound ha hp) B w0 w3 Q (hb.trans (hb3.mono hB)) (Nat.le_trans hB hb3.size) hQ
          · cases h
        · cases h
      · cases h
    · rename_i hw
      rw [if_neg (by rw [hw]; decide)]
      split at h
      · rename_i ρ1 hp; exact ih _ _ h _ (putL_sound ha hp) B w0 w Q hb hB hQ
      · cases h

theorem runOpsQ_quiet (hT : T.Holds P) (ops : Array Oper) (n : Nat) (hin : inside n ops.toList = true) (B : Nat) (w0 : World) : ∀ (l : List Oper) (ρ ρ' : Env), runOpsQ P T n ops.toList l ρ = some ρ' → ∀ (a : Act), Fits a n ρ → ∀ (Q : Act → Prop), (∀ a', Fits a' n ρ' → Q a') →
    wpQuiet P ops (fun w' => Below B w0 w' ∧ B ≤ w'.heap.size) Q l a := by
  intro l
  induction l with
  | nil => intro ρ ρ' h a ha Q hQ; simp only [runOpsQ, Option.some.injEq] at h; subst h; exact hQ _ ha
  | cons o rest ih =>
    intro ρ ρ' h a ha Q hQ
    unfold runOpsQ at h
    unfold wpQuiet
    rw [ha.yielded (inside_all hin)]
    split at h
    · rename_i hw
      rw [if_pos hw]
      unfold Oper.quiet
      split at h
      · rename_i v hr
        split at h
        · rename_i ρ1 hp
          exact ⟨v, fun w _ => by unfold Oper.quietAt; rw [ha.eval, evalPure_sound hr w]; exact ⟨rfl, rfl⟩, ih _ _ h _ (putL_sound ha hp) Q hQ⟩
        · cases h
      · rename_i hr
        split at h
        · rename_i ρ1 hp
          exact ⟨undef, fun w _ => by unfold Oper.quietAt; rw [ha.eval, evalPure_sound hr w]; exact ⟨rfl, rfl⟩, ih _ _ h _ (putL_sound ha hp) Q hQ⟩
        · cases h
      · rename_i f args hr
        split at h
        · rename_i v hv
          split at h
          · rename_i ρ1 hp
            refine ⟨v, fun w hw => ?_, ih _ _ h _ (putL_sound ha hp) Q hQ⟩
            unfold Oper.quietAt
            rw [ha.eval, evalPure_sound hr w]
            refine ⟨rfl, (hT _ _ _ hv w).mono ?_⟩
            rintro e w3 ⟨rfl, hb3⟩
            exact ⟨rfl, hw.1.trans (hb3.mono hw.2), Nat.le_trans hw.2 hb3.size⟩
          · cases h
        · cases h
      · cases h
    · rename_i hw
      rw [if_neg (by rw [hw]; decide)]
      split at h
      · rename_i ρ1 hp; exact ih _ _ h _ (putL_sound ha hp) Q hQ
      · cases h

theorem runCodeQ_sound (hT : T.Holds P) (m : Nat) (B : Nat) (w0 : World) : ∀ (n : Nat), (∀ (c : Code) (ρ : Env) (e : Exit) (ρ' : Env), runCodeQ P T m n c ρ = some (e, ρ') → ∀ (a : Act), Fits a m ρ → ∀ (w : World) (Q : Exit → Act → World → Prop), Below B w0 w → B ≤ w.heap.size →
      (∀ a' w', Fits a' m ρ' → Below B w0 w' → B ≤ w'.heap.size → Q e a' w') → c.wp P Q a w) ∧
    (∀ (c : Code) (ρ : Env) (e : Exit) (ρ' : Env), runCodeQ P T m n (.loop c) ρ = some (e, ρ') → ∀ (a : Act), Fits a m ρ → ∀ (w : World) (Q : Exit → Act → World → Prop), Below B w0 w → B ≤ w.heap.size →
      (∀ a' w', Fits a' m ρ' → Below B w0 w' → B ≤ w'.heap.size → Q e a' w') → wpL P c Q a w) := by
  intro n
  induction n with
  | zero => exact ⟨fun _ _ _ _ h => by simp [runCodeQ] at h, fun _ _ _ _ h => by simp [runCodeQ] at h⟩
  | succ n ih =>
    have hloop : ∀ (c : Code) (ρ : Env) (e : Exit) (ρ' : Env), runCodeQ P T m (n + 1) (.loop c) ρ = some (e, ρ') → ∀ (a : Act), Fits a m ρ → ∀ (w : World) (Q : Exit → Act → World → Prop), Below B w0 w → B ≤ w.heap.size →
        (∀ a' w', Fits a' m ρ' → Below B w0 w' → B ≤ w'.heap.size → Q e a' w') → wpL P c Q a w := by
      intro c ρ e ρ' h a ha w Q hb hB hQ
      simp only [runCodeQ] at h
      split at h
      · rename_i a1 h1
        exact wpL_of (ih.1 _ _ _ _ h1 a ha w _ hb hB fun a1 w1 ha1 hb1 hB1 => ih.2 _ _ _ _ h a1 ha1 w1 Q hb1 hB1 hQ)
      · rename_i hne
        refine wpL_of (ih.1 _ _ _ _ h a ha w _ hb hB fun a1 w1 ha1 hb1 hB1 => then_of ?_ (hQ a1 w1 ha1 hb1 hB1))
        rintro rfl
        exact hne _ h
    refine ⟨?_, hloop⟩
    intro c ρ e ρ' h a ha w Q hb hB hQ
    cases c with
    | skip => simp only [runCodeQ, Option.some.injEq, Prod.mk.injEq] at h; obtain ⟨rfl, rfl⟩ := h; exact wp_skip (hQ _ _ ha hb hB)
    | label l => simp only [runCodeQ, Option.some.injEq, Prod.mk.injEq] at h; obtain ⟨rfl, rfl⟩ := h; exact wp_label (hQ _ _ ha hb hB)
    | exit id => simp only [runCodeQ, Option.some.injEq, Prod.mk.injEq] at h; obtain ⟨rfl, rfl⟩ := h; exact wp_exit (hQ _ _ ha hb hB)
    | ret => simp only [runCodeQ, Option.some.injEq, Prod.mk.injEq] at h; obtain ⟨rfl, rfl⟩ := h; exact wp_ret (hQ _ _ ha hb hB)
    | region id ops draw =>
      simp only [runCodeQ] at h
      split at h
      · split at h
        · rename_i a1 h1
          simp only [Option.some.injEq, Prod.mk.injEq] at h
          obtain ⟨rfl, rfl⟩ := h
          unfold runRegionQ at h1
          split at h1
          · rename_i hin
            exact wp_region_list (runOpsQ_sound hT ops m hin _ _ _ h1 a ha B w0 w Q hb hB hQ)
          · cases h1
        · cases h
      · split at h
        · rename_i hm hl
          split at h
          · rename_i a1 h1
            simp only [Option.some.injEq, Prod.mk.injEq] at h
            obtain ⟨rfl, rfl⟩ := h
            unfold runRegionQ at h1
            split at h1
            · rename_i hin
              exact wp_region_quiet (C := fun w' => Below B w0 w' ∧ B ≤ w'.heap.size) hm hl ⟨hb.drew, hB⟩ (runOpsQ_quiet hT ops m hin B w0 _ _ _ h1 a ha _ fun a' ha' w' hw' => hQ a' w' ha' hw'.1 hw'.2)
            · cases h1
          · cases h
        · cases h
    | seq x y =>
      simp only [runCodeQ] at h
      split at h
      · rename_i a1 h1
        exact wp_seq (ih.1 _ _ _ _ h1 a ha w _ hb hB fun a1 w1 ha1 hb1 hB1 => ih.1 _ _ _ _ h a1 ha1 w1 Q hb1 hB1 hQ)
      · rename_i hne
        refine wp_seq (ih.1 _ _ _ _ h a ha w _ hb hB fun a1 w1 ha1 hb1 hB1 => then_of ?_ (hQ a1 w1 ha1 hb1 hB1))
        rintro rfl
        exact hne _ h
    | cond c x y =>
      simp only [runCodeQ] at h
      rw [← ha.eval] at h
      split at h
      · rename_i hc; exact wp_cond_true hc (ih.1 _ _ _ _ h a ha w Q hb hB hQ)
      · rename_i hc; exact wp_cond_false hc (ih.1 _ _ _ _ h a ha w Q hb hB hQ)
      · cases h
    | block id b =>
      simp only [runCodeQ] at h
      split at h
      · rename_i id' a1 h1
        refine wp_block (ih.1 _ _ _ _ h1 a ha w _ hb hB fun a1 w1 ha1 hb1 hB1 => ?_)
        by_cases hid : id' = id
        · rw [if_pos hid] at h
          simp only [Option.some.injEq, Prod.mk.injEq] at h
          obtain ⟨rfl, rfl⟩ := h
          simp only [Exit.inBlock, hid, if_true]; exact hQ a1 w1 ha1 hb1 hB1
        · rw [if_neg hid] at h
          simp only [Option.some.injEq, Prod.mk.injEq] at h
          obtain ⟨rfl, rfl⟩ := h
          simp only [Exit.inBlock, hid, if_false]; exact hQ a1 w1 ha1 hb1 hB1
      · rename_i hne
        refine wp_block (ih.1 _ _ _ _ h a ha w _ hb hB fun a1 w1 ha1 hb1 hB1 => ?_)
        cases e <;> first | exact hQ a1 w1 ha1 hb1 hB1 | exact absurd h (hne _ _)
    | loop b => exact wp_of_wpL (hloop _ _ _ _ h a ha w Q hb hB hQ)
    | rangeFunc => simp [runCodeQ] at h
    | scope => simp [runCodeQ] at h
    | goto => simp [runCodeQ] at h
    | refuse => simp [runCodeQ] at h

/-- WHAT THE RUN COMES TO HOLDS OF THE CALL. -/
theorem calls_of_runQ (hT : T.Holds P) {n : Nat} {f : FuncId} {args : Array Value} {v : Value} (h : runFunQ P T n f args = some v) (w : World) : Calls P f args w fun e w' => e = .returned v ∧ Below w.heap.size w w' := by
  unfold runFunQ at h
  split at h
  · rename_i fn hf
    split at h
    · rename_i c hb
      split at h
      · rename_i ρ hr
        exact calls_of_wp hf hb ((runCodeQ_sound hT _ w.heap.size w n).1 _ _ _ _ hr _ (fits0 _ _) w _ (Below.refl _ _) (Nat.le_refl _) fun a' w' ha' hw' _ => ⟨ha'.defers, v, slots_sound ((slotsL_eq ha').symm.trans h) P _, rfl, hw'⟩)
      · rename_i ρ hr
        exact calls_of_wp hf hb ((runCodeQ_sound hT _ w.heap.size w n).1 _ _ _ _ hr _ (fits0 _ _) w _ (Below.refl _ _) (Nat.le_refl _) fun a' w' ha' hw' _ => ⟨ha'.defers, v, slots_sound ((slotsL_eq ha').symm.trans h) P _, rfl, hw'⟩)
      · cases h
    · cases h
  · cases h
end Go.RunKit
