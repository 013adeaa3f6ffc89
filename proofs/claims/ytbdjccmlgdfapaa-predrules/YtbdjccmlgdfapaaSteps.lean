/-
  The operations of a region whose order is open, one law a kind: what each owes its sentence.
-/
import Derived.Test.YtbdjccmlgdfapaaRegion
namespace Go.Proofs.Ytbdjccmlgdfapaa.Rg
open Go Go.RowKit

/-- What the guard of an operation says, by the sentences. -/
def guardV (ops : Array Oper) (specs : List Spec) (a0 : Act) (o : Oper) : Option Bool :=
  match o.guard with
  | none => some true
  | some (g, want) =>
    match (ops[g]?).bind (·.dst) with
    | none => none
    | some d =>
      match slotS ops specs a0 d with
      | .inl (.bool b) => some (b == want)
      | .inl _ => some false
      | .inr _ => none
/-- What is so of an operand. -/
def argS (ops : Array Oper) (specs : List Spec) (a0 : Act) : Operand → Spec
  | .tmp t => slotS ops specs a0 t
  | .const v => .inl v
  | .global g => .inl (.pointer (some ⟨g, 0, none⟩))
  | .func f => .inl (.func (.func f) #[] #[])

section
variable {P : Program} {ops : Array Oper} {specs : List Spec} {a0 : Act} {C : World → Prop} {E : World → World → Prop} {o : Oper} {s : Spec}

theorem wanted_of {a : Act} {w : World} {b : Bool} (h : guardV ops specs a0 o = some b) (hs : ∀ t ∈ o.looksAt ops, (slotS ops specs a0 t).ok (a.eval (.tmp t)) w) : Region.wanted o (yielded ops a.tmps) = b := by
  unfold guardV at h
  unfold Region.wanted
  cases hg : o.guard with
  | none => rw [hg] at h; simpa using h
  | some gw =>
    obtain ⟨g, want⟩ := gw
    rw [hg] at h
    simp only at h ⊢
    cases hd : (ops[g]?).bind (·.dst) with
    | none => rw [hd] at h; simp at h
    | some d =>
      rw [hd] at h
      simp only at h
      have hok := hs d (by unfold Oper.looksAt; rw [hg]; simp only [hd]; simp)
      cases hsl : slotS ops specs a0 d with
      | inr p => rw [hsl] at h; simp at h
      | inl x =>
        rw [hsl] at h hok
        simp only [Spec.ok, Act.eval] at hok
        have hsome : ∀ u, a.tmps[d]? = some u → u = x := by
          intro u hu
          rw [Array.getD_eq_getD_getElem?, hu] at hok
          simpa using hok
        unfold yielded
        rw [hd]
        simp only [Option.bind_some]
        cases x with
        | bool c =>
          simp at h
          subst h
          have hsome' : a.tmps[d]? = some (.bool c) := by
            rw [Array.getD_eq_getD_getElem?] at hok
            cases hx : a.tmps[d]? with
            | none => rw [hx] at hok; simp [undef] at hok
            | some u => rw [hx] at hok; simp at hok; rw [hok]
          simp [hsome']
        | _ =>
          simp at h
          subst h
          cases hx : a.tmps[d]? with
          | none => simp
          | some u => rw [hsome u hx]; simp

theorem arg_ok {a : Act} {w : World} {x : Operand} (hx : x ∈ o.op.operands) (hs : ∀ t ∈ o.looksAt ops, (slotS ops specs a0 t).ok (a.eval (.tmp t)) w) : (argS ops specs a0 x).ok (a.eval x) w := by
  cases x with
  | tmp t => exact hs t (by unfold Oper.looksAt; exact List.mem_append_left _ (List.mem_filterMap.2 ⟨.tmp t, by simpa using hx, rfl⟩))
  | const v => rfl
  | global g => rfl
  | func f => rfl

theorem run_enter {f : FuncId} {fn : Func} {c : Code} (hf : P.funcs[f]? = some fn) (hname : (fn.name == "runtime.NumGoroutine") = false) (hb : fn.body = some c) (args : Array Value) (w : World) :
    (callFunc f args).run P w = .ok (.enter f args) w := by
  have h1 : fn.name ≠ "runtime.NumGoroutine" := by simpa using hname
  simp [callFunc, hf, h1, hb]
theorem good_of (hg : guardV ops specs a0 o = some true)
    (h : ∀ (Q : Exit → Act → World → Prop) (a : Act) (w : World), C w → (∀ x ∈ o.op.operands, (argS ops specs a0 x).ok (a.eval x) w) → o.wp P a w (fun a' w' => ∃ v, a' = a.put o.dst v ∧ s.ok v w' ∧ E w w' ∧ C w') Q) : GoodOp P ops specs a0 C E o s :=
  fun Q a w hC hs => ⟨fun _ => h Q a w hC (fun x hx => arg_ok hx hs), fun hw => by rw [wanted_of hg hs] at hw; cases hw⟩
theorem good_skip (hg : guardV ops specs a0 o = some false) : GoodOp P ops specs a0 C E o (.inl undef) :=
  fun Q a w hC hs => ⟨fun hw => (by rw [wanted_of hg hs] at hw; cases hw), fun _ => rfl⟩
theorem good_val (hrefl : ∀ w, E w w) (hg : guardV ops specs a0 o = some true)
    (h : ∀ (a : Act) (w : World), C w → (∀ x ∈ o.op.operands, (argS ops specs a0 x).ok (a.eval x) w) → ∃ v, (execOp a.eval o).run P w = .ok (.value v) w ∧ s.ok v w) : GoodOp P ops specs a0 C E o s :=
  good_of hg fun Q a w hC hs => by
    obtain ⟨v, hr, hv⟩ := h a w hC hs
    unfold Oper.wp
    rw [hr]
    exact ⟨v, rfl, hv, hrefl w, hC⟩
/-- An operation of which all that it looks at is known. -/
theorem good_known (hrefl : ∀ w, E w w) (hg : guardV ops specs a0 o = some true) (ρ : Operand → Value) (v : Value) (hsel : ∀ cs b, o.op ≠ .select cs b)
    (hρ : ∀ x ∈ o.op.operands, argS ops specs a0 x = .inl (ρ x)) (h : ∀ w, C w → (execOp ρ o).run P w = .ok (.value v) w) : GoodOp P ops specs a0 C E o (.inl v) :=
  good_val hrefl hg fun a w hC hs => by
    have e : execOp a.eval o = execOp ρ o := execOp_congr o hsel fun x hx => by
      have := hs x hx
      rw [hρ x hx] at this
      exact this
    rw [e]
    exact ⟨v, h w hC, rfl⟩

theorem good_move {x : Operand} (hrefl : ∀ w, E w w) (ho : o.op = .move x) (hg : guardV ops specs a0 o = some true) (hs : argS ops specs a0 x = s) : GoodOp P ops specs a0 C E o s :=
  good_val hrefl hg fun a w hC h => by
    have hx := h x (by rw [ho]; simp [Op.operands])
    rw [hs] at hx
    exact ⟨a.eval x, by unfold execOp; rw [ho]; rfl, hx⟩
theorem good_assign {x : Operand} (hrefl : ∀ w, E w w) (ho : o.op = .assign x) (hg : guardV ops specs a0 o = some true) (hs : argS ops specs a0 x = s) : GoodOp P ops specs a0 C E o s :=
  good_val hrefl hg fun a w hC h => by
    have hx := h x (by rw [ho]; simp [Op.operands])
    rw [hs] at hx
    exact ⟨a.eval x, by unfold execOp; rw [ho]; rfl, hx⟩
theorem good_pick {c x y : Operand} (b : Bool) (hrefl : ∀ w, E w w) (ho : o.op = .pick c x y) (hg : guardV ops specs a0 o = some true) (hc : argS ops specs a0 c = .inl (.bool b))
    (hs : (if b then argS ops specs a0 x else argS ops specs a0 y) = s) : GoodOp P ops specs a0 C E o s :=
  good_val hrefl hg fun a w hC h => by
    have h1 := h c (by rw [ho]; simp [Op.operands])
    have h2 := h x (by rw [ho]; simp [Op.operands])
    have h3 := h y (by rw [ho]; simp [Op.operands])
    rw [hc] at h1
    simp only [Spec.ok] at h1
    refine ⟨if b then a.eval x else a.eval y, by unfold execOp; rw [ho]; simp only [h1]; rfl, ?_⟩
    rw [← hs]
    cases b <;> simp <;> assumption
theorem good_bin {op : BinOp} {ty r : TypeId} {x y : Operand} {vx vy v : Value} (hrefl : ∀ w, E w w) (ho : o.op = .binOp op ty x y r) (hg : guardV ops specs a0 o = some true)
    (hx : argS ops specs a0 x = .inl vx) (hy : argS ops specs a0 y = .inl vy) (he : ∀ w, (eqGuard op ty x y vx vy).run P w = .ok () w) (h : ∀ w, (binOp op ty vx vy).run P w = .ok v w) : GoodOp P ops specs a0 C E o (.inl v) :=
  good_val hrefl hg fun a w hC hh => by
    have h1 := hh x (by rw [ho]; simp [Op.operands])
    have h2 := hh y (by rw [ho]; simp [Op.operands])
    rw [hx] at h1
    rw [hy] at h2
    simp only [Spec.ok] at h1 h2
    refine ⟨v, ?_, rfl⟩
    unfold execOp
    rw [ho]
    simp only [h1, h2, Sem.run_bind, he w, Result.andThen, h w, Sem.run_pure]
theorem good_un {op : UnOp} {ty : TypeId} {x : Operand} {vx v : Value} (hrefl : ∀ w, E w w) (ho : o.op = .unOp op ty x) (hg : guardV ops specs a0 o = some true)
    (hx : argS ops specs a0 x = .inl vx) (h : ∀ w, (Op.unary op vx).run P w = .ok v w) : GoodOp P ops specs a0 C E o (.inl v) :=
  good_val hrefl hg fun a w hC hh => by
    have h1 := hh x (by rw [ho]; simp [Op.operands])
    rw [hx] at h1
    simp only [Spec.ok] at h1
    refine ⟨v, ?_, rfl⟩
    unfold execOp
    rw [ho]
    simp only [h1, Sem.run_bind, Result.andThen, h w, Sem.run_pure]
theorem good_conv {src dst : TypeId} {x : Operand} {v : Value} (hrefl : ∀ w, E w w) (ho : o.op = .convert src dst x) (hg : guardV ops specs a0 o = some true)
    (h : ∀ u w, C w → (argS ops specs a0 x).ok u w → (convert src dst u).run P w = .ok v w) : GoodOp P ops specs a0 C E o (.inl v) :=
  good_val hrefl hg fun a w hC hh => by
    have h1 := h _ w hC (hh x (by rw [ho]; simp [Op.operands]))
    refine ⟨v, ?_, rfl⟩
    unfold execOp
    rw [ho]
    simp only [Sem.run_bind, Result.andThen, h1, Sem.run_pure]
theorem good_len {x : Operand} {ats : Array TypeId} {v : Value} (hrefl : ∀ w, E w w) (ho : o.op = .call { callee := .builtin .len, args := #[x], argTypes := ats }) (hg : guardV ops specs a0 o = some true)
    (h : ∀ u w, C w → (argS ops specs a0 x).ok u w → (Builtin.len_ ats o.type #[u]).run P w = .ok v w) : GoodOp P ops specs a0 C E o (.inl v) :=
  good_val hrefl hg fun a w hC hh => by
    have h1 := h _ w hC (hh x (by rw [ho]; simp [Op.operands, Call.operands]))
    refine ⟨v, ?_, rfl⟩
    unfold execOp
    rw [ho]
    simp only [resolve, invoke, builtin, Sem.run_bind, Sem.run_pure, Result.andThen, List.map_toArray, List.map_cons, List.map_nil, h1]
theorem good_slice2 {t : TypeId} {x hi : Operand} {vh : Value} (hrefl : ∀ w, E w w) (ho : o.op = .slice t x none (some hi) none) (hg : guardV ops specs a0 o = some true) (hh : argS ops specs a0 hi = .inl vh)
    (h : ∀ u w, C w → (argS ops specs a0 x).ok u w → ∃ v, (Instr.sliceAt t u none (some vh) none).run P w = .ok v w ∧ s.ok v w) : GoodOp P ops specs a0 C E o s :=
  good_val hrefl hg fun a w hC hs => by
    obtain ⟨v, h1, h2⟩ := h _ w hC (hs x (by rw [ho]; simp [Op.operands]))
    have h3 := hs hi (by rw [ho]; simp [Op.operands])
    rw [hh] at h3
    simp only [Spec.ok] at h3
    refine ⟨v, ?_, h2⟩
    unfold execOp
    rw [ho]
    simp only [Option.map_some, Option.map_none, h3, Sem.run_bind, Result.andThen, h1, Sem.run_pure]

/-- A call of a function of the program's own. -/
theorem good_call {f : FuncId} {xs : Array Operand} {ats : Array TypeId} {fn : Func} {cd : Code} (hf : P.funcs[f]? = some fn) (hname : (fn.name == "runtime.NumGoroutine") = false) (hb : fn.body = some cd)
    (ho : o.op = .call { callee := .value (.func f), args := xs, argTypes := ats }) (hg : guardV ops specs a0 o = some true)
    (h : ∀ (a : Act) (w : World), C w → (∀ x ∈ xs, (argS ops specs a0 x).ok (a.eval x) w) → Calls P f (xs.map a.eval) w (fun e w' => ∃ v, e = .returned v ∧ s.ok v w' ∧ E w w' ∧ C w')) : GoodOp P ops specs a0 C E o s :=
  good_of hg fun Q a w hC hs => by
    have hc := h a w hC (fun x hx => hs x (by rw [ho]; simp [Op.operands, Call.operands, hx]))
    have hr : (execOp a.eval o).run P w = .ok (.enter f (xs.map a.eval)) w := by
      have e : execOp a.eval o = callFunc f (#[] ++ xs.map a.eval ++ #[]) := by unfold execOp; rw [ho]; rfl
      rw [e, run_enter hf hname hb]
      simp
    unfold Oper.wp
    rw [hr]
    refine Calls.mono hc fun e w' ⟨v, he, hv⟩ => ?_
    subst he
    exact ⟨v, rfl, hv⟩
theorem good_call0 {f : FuncId} {ats : Array TypeId} {fn : Func} {cd : Code} (hf : P.funcs[f]? = some fn) (hname : (fn.name == "runtime.NumGoroutine") = false) (hb : fn.body = some cd)
    (ho : o.op = .call { callee := .value (.func f), args := #[], argTypes := ats }) (hg : guardV ops specs a0 o = some true)
    (h : ∀ (w : World), C w → Calls P f #[] w (fun e w' => ∃ v, e = .returned v ∧ s.ok v w' ∧ E w w' ∧ C w')) : GoodOp P ops specs a0 C E o s :=
  good_call hf hname hb ho hg fun a w hC _ => by simpa using h w hC
theorem good_call1 {f : FuncId} {x : Operand} {ats : Array TypeId} {fn : Func} {cd : Code} (hf : P.funcs[f]? = some fn) (hname : (fn.name == "runtime.NumGoroutine") = false) (hb : fn.body = some cd)
    (ho : o.op = .call { callee := .value (.func f), args := #[x], argTypes := ats }) (hg : guardV ops specs a0 o = some true)
    (h : ∀ (u : Value) (w : World), C w → (argS ops specs a0 x).ok u w → Calls P f #[u] w (fun e w' => ∃ v, e = .returned v ∧ s.ok v w' ∧ E w w' ∧ C w')) : GoodOp P ops specs a0 C E o s :=
  good_call hf hname hb ho hg fun a w hC hs => by simpa using h _ w hC (hs x (by simp))
theorem good_call2 {f : FuncId} {x y : Operand} {ats : Array TypeId} {fn : Func} {cd : Code} (hf : P.funcs[f]? = some fn) (hname : (fn.name == "runtime.NumGoroutine") = false) (hb : fn.body = some cd)
    (ho : o.op = .call { callee := .value (.func f), args := #[x, y], argTypes := ats }) (hg : guardV ops specs a0 o = some true)
    (h : ∀ (u u2 : Value) (w : World), C w → (argS ops specs a0 x).ok u w → (argS ops specs a0 y).ok u2 w → Calls P f #[u, u2] w (fun e w' => ∃ v, e = .returned v ∧ s.ok v w' ∧ E w w' ∧ C w')) : GoodOp P ops specs a0 C E o s :=
  good_call hf hname hb ho hg fun a w hC hs => by simpa using h _ _ w hC (hs x (by simp)) (hs y (by simp))
theorem good_call3 {f : FuncId} {x y z : Operand} {ats : Array TypeId} {fn : Func} {cd : Code} (hf : P.funcs[f]? = some fn) (hname : (fn.name == "runtime.NumGoroutine") = false) (hb : fn.body = some cd)
    (ho : o.op = .call { callee := .value (.func f), args := #[x, y, z], argTypes := ats }) (hg : guardV ops specs a0 o = some true)
    (h : ∀ (u u2 u3 : Value) (w : World), C w → (argS ops specs a0 x).ok u w → (argS ops specs a0 y).ok u2 w → (argS ops specs a0 z).ok u3 w → Calls P f #[u, u2, u3] w (fun e w' => ∃ v, e = .returned v ∧ s.ok v w' ∧ E w w' ∧ C w')) : GoodOp P ops specs a0 C E o s :=
  good_call hf hname hb ho hg fun a w hC hs => by simpa using h _ _ _ w hC (hs x (by simp)) (hs y (by simp)) (hs z (by simp))
end
end Go.Proofs.Ytbdjccmlgdfapaa.Rg
