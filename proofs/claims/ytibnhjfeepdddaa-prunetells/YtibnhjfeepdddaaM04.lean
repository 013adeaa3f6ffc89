/-
  The operations of a region whose order is open, one law a kind: what each owes its sentence. What a slice of bytes holds, what a call owns, what later worlds keep: the words in which the contracts are said. No function of the program here.
-/
import Derived.Test.YtibnhjfeepdddaaM03
import Derived.Test.YtibnhjfeepdddaaRows
import Derived.Test.YtibnhjfeepdddaaM02
import Derived.Test.YtibnhjfeepdddaaM01
import Derived.WalkKit
import Derived.WalkLawsBesides
import Derived.WalkSpells
import Derived.Outline
import Derived.Laws.CopyOwn
import Derived.Laws.IdiomStrings
import Derived.Lib.Strings
import Derived.Lib.AppendStr
import Derived.Laws.AppendOwnNone
import Derived.Deep.QuietTactic
import Derived.BigQuiet
namespace Go.Proofs.Ytibnhjfeepdddaa.Rg
open Go Go.RowKit

/-- What the guard of an operation says, by the sentences. -/
def guardV (ops : Array Oper) (specs : List Spec) (a0 : Act) (o : Oper) : Option Bool :=
  match o.guard with
  | none => some true
  | some (g, want) =>
    match (ops[g]?).bind (·.dst) with
    | none => none
    | some d =>
      match slotS ops specs a0 d with
      | .inl (.bool b) => some (b == want)
      | .inl _ => some false
      | .inr _ => none
/-- What is so of an operand. -/
def argS (ops : Array Oper) (specs : List Spec) (a0 : Act) : Operand → Spec
  | .tmp t => slotS ops specs a0 t
  | .const v => .inl v
  | .global g => .inl (.pointer (some ⟨g, 0, none⟩))
  | .func f => .inl (.func (.func f) #[] #[])

section
variable {P : Program} {ops : Array Oper} {specs : List Spec} {a0 : Act} {C : World → Prop} {E : World → World → Prop} {o : Oper} {s : Spec}

theorem wanted_of {a : Act} {w : World} {b : Bool} (h : guardV ops specs a0 o = some b) (hs : ∀ t ∈ o.looksAt ops, (slotS ops specs a0 t).ok (a.eval (.tmp t)) w) : Region.wanted o (yielded ops a.tmps) = b := by
  unfold guardV at h
  unfold Region.wanted
  cases hg : o.guard with
  | none => rw [hg] at h; simpa using h
  | some gw =>
    obtain ⟨g, want⟩ := gw
    rw [hg] at h
    simp only at h ⊢
    cases hd : (ops[g]?).bind (·.dst) with
    | none => rw [hd] at h; simp at h
    | some d =>
      rw [hd] at h
      simp only at h
      have hok := hs d (by unfold Oper.looksAt; rw [hg]; simp only [hd]; simp)
      cases hsl : slotS ops specs a0 d with
      | inr p => rw [hsl] at h; simp at h
      | inl x =>
        rw [hsl] at h hok
        simp only [Spec.ok, Act.eval] at hok
        have hsome : ∀ u, a.tmps[d]? = some u → u = x := by
          intro u hu
          rw [Array.getD_eq_getD_getElem?, hu] at hok
          simpa using hok
        unfold yielded
        rw [hd]
        simp only [Option.bind_some]
        cases x with
        | bool c =>
          simp at h
          subst h
          have hsome' : a.tmps[d]? = some (.bool c) := by
            rw [Array.getD_eq_getD_getElem?] at hok
            cases hx : a.tmps[d]? with
            | none => rw [hx] at hok; simp [undef] at hok
            | some u => rw [hx] at hok; simp at hok; rw [hok]
          simp [hsome']
        | _ =>
          simp at h
          subst h
          cases hx : a.tmps[d]? with
          | none => simp
          | some u => rw [hsome u hx]; simp

theorem arg_ok {a : Act} {w : World} {x : Operand} (hx : x ∈ o.op.operands) (hs : ∀ t ∈ o.looksAt ops, (slotS ops specs a0 t).ok (a.eval (.tmp t)) w) : (argS ops specs a0 x).ok (a.eval x) w := by
  cases x with
  | tmp t => exact hs t (by unfold Oper.looksAt; exact List.mem_append_left _ (List.mem_filterMap.2 ⟨.tmp t, by simpa using hx, rfl⟩))
  | const v => rfl
  | global g => rfl
  | func f => rfl

theorem run_enter {f : FuncId} {fn : Func} {c : Code} (hf : P.funcs[f]? = some fn) (hname : (fn.name == "runtime.NumGoroutine") = false) (hb : fn.body = some c) (args : Array Value) (w : World) :
    (callFunc f args).run P w = .ok (.enter f args) w := by
  have h1 : fn.name ≠ "runtime.NumGoroutine" := by simpa using hname
  simp [callFunc, hf, h1, hb]
theorem good_of (hg : guardV ops specs a0 o = some true)
    (h : ∀ (Q : Exit → Act → World → Prop) (a : Act) (w : World), C w → (∀ x ∈ o.op.operands, (argS ops specs a0 x).ok (a.eval x) w) → o.wp P a w (fun a' w' => ∃ v, a' = a.put o.dst v ∧ s.ok v w' ∧ E w w' ∧ C w') Q) : GoodOp P ops specs a0 C E o s :=
  fun Q a w hC hs => ⟨fun _ => h Q a w hC (fun x hx => arg_ok hx hs), fun hw => by rw [wanted_of hg hs] at hw; cases hw⟩
theorem good_skip (hg : guardV ops specs a0 o = some false) : GoodOp P ops specs a0 C E o (.inl undef) :=
  fun Q a w hC hs => ⟨fun hw => (by rw [wanted_of hg hs] at hw; cases hw), fun _ => rfl⟩
theorem good_val (hrefl : ∀ w, E w w) (hg : guardV ops specs a0 o = some true)
    (h : ∀ (a : Act) (w : World), C w → (∀ x ∈ o.op.operands, (argS ops specs a0 x).ok (a.eval x) w) → ∃ v, (execOp a.eval o).run P w = .ok (.value v) w ∧ s.ok v w) : GoodOp P ops specs a0 C E o s :=
  good_of hg fun Q a w hC hs => by
    obtain ⟨v, hr, hv⟩ := h a w hC hs
    unfold Oper.wp
    rw [hr]
    exact ⟨v, rfl, hv, hrefl w, hC⟩
/-- An operation of which all that it looks at is known. -/
theorem good_known (hrefl : ∀ w, E w w) (hg : guardV ops specs a0 o = some true) (ρ : Operand → Value) (v : Value) (hsel : ∀ cs b, o.op ≠ .select cs b)
    (hρ : ∀ x ∈ o.op.operands, argS ops specs a0 x = .inl (ρ x)) (h : ∀ w, C w → (execOp ρ o).run P w = .ok (.value v) w) : GoodOp P ops specs a0 C E o (.inl v) :=
  good_val hrefl hg fun a w hC hs => by
    have e : execOp a.eval o = execOp ρ o := execOp_congr o hsel fun x hx => by
      have := hs x hx
      rw [hρ x hx] at this
      exact this
    rw [e]
    exact ⟨v, h w hC, rfl⟩

theorem good_move {x : Operand} (hrefl : ∀ w, E w w) (ho : o.op = .move x) (hg : guardV ops specs a0 o = some true) (hs : argS ops specs a0 x = s) : GoodOp P ops specs a0 C E o s :=
  good_val hrefl hg fun a w hC h => by
    have hx := h x (by rw [ho]; simp [Op.operands])
    rw [hs] at hx
    exact ⟨a.eval x, by unfold execOp; rw [ho]; rfl, hx⟩
theorem good_assign {x : Operand} (hrefl : ∀ w, E w w) (ho : o.op = .assign x) (hg : guardV ops specs a0 o = some true) (hs : argS ops specs a0 x = s) : GoodOp P ops specs a0 C E o s :=
  good_val hrefl hg fun a w hC h => by
    have hx := h x (by rw [ho]; simp [Op.operands])
    rw [hs] at hx
    exact ⟨a.eval x, by unfold execOp; rw [ho]; rfl, hx⟩
theorem good_pick {c x y : Operand} (b : Bool) (hrefl : ∀ w, E w w) (ho : o.op = .pick c x y) (hg : guardV ops specs a0 o = some true) (hc : argS ops specs a0 c = .inl (.bool b))
    (hs : (if b then argS ops specs a0 x else argS ops specs a0 y) = s) : GoodOp P ops specs a0 C E o s :=
  good_val hrefl hg fun a w hC h => by
    have h1 := h c (by rw [ho]; simp [Op.operands])
    have h2 := h x (by rw [ho]; simp [Op.operands])
    have h3 := h y (by rw [ho]; simp [Op.operands])
    rw [hc] at h1
    simp only [Spec.ok] at h1
    refine ⟨if b then a.eval x else a.eval y, by unfold execOp; rw [ho]; simp only [h1]; rfl, ?_⟩
    rw [← hs]
    cases b <;> simp <;> assumption
theorem good_bin {op : BinOp} {ty r : TypeId} {x y : Operand} {vx vy v : Value} (hrefl : ∀ w, E w w) (ho : o.op = .binOp op ty x y r) (hg : guardV ops specs a0 o = some true)
    (hx : argS ops specs a0 x = .inl vx) (hy : argS ops specs a0 y = .inl vy) (he : ∀ w, (eqGuard op ty x y vx vy).run P w = .ok () w) (h : ∀ w, (binOp op ty vx vy).run P w = .ok v w) : GoodOp P ops specs a0 C E o (.inl v) :=
  good_val hrefl hg fun a w hC hh => by
    have h1 := hh x (by rw [ho]; simp [Op.operands])
    have h2 := hh y (by rw [ho]; simp [Op.operands])
    rw [hx] at h1
    rw [hy] at h2
    simp only [Spec.ok] at h1 h2
    refine ⟨v, ?_, rfl⟩
    unfold execOp
    rw [ho]
    simp only [h1, h2, Sem.run_bind, he w, Result.andThen, h w, Sem.run_pure]
theorem good_un {op : UnOp} {ty : TypeId} {x : Operand} {vx v : Value} (hrefl : ∀ w, E w w) (ho : o.op = .unOp op ty x) (hg : guardV ops specs a0 o = some true)
    (hx : argS ops specs a0 x = .inl vx) (h : ∀ w, (Op.unary op vx).run P w = .ok v w) : GoodOp P ops specs a0 C E o (.inl v) :=
  good_val hrefl hg fun a w hC hh => by
    have h1 := hh x (by rw [ho]; simp [Op.operands])
    rw [hx] at h1
    simp only [Spec.ok] at h1
    refine ⟨v, ?_, rfl⟩
    unfold execOp
    rw [ho]
    simp only [h1, Sem.run_bind, Result.andThen, h w, Sem.run_pure]
theorem good_conv {src dst : TypeId} {x : Operand} {v : Value} (hrefl : ∀ w, E w w) (ho : o.op = .convert src dst x) (hg : guardV ops specs a0 o = some true)
    (h : ∀ u w, C w → (argS ops specs a0 x).ok u w → (convert src dst u).run P w = .ok v w) : GoodOp P ops specs a0 C E o (.inl v) :=
  good_val hrefl hg fun a w hC hh => by
    have h1 := h _ w hC (hh x (by rw [ho]; simp [Op.operands]))
    refine ⟨v, ?_, rfl⟩
    unfold execOp
    rw [ho]
    simp only [Sem.run_bind, Result.andThen, h1, Sem.run_pure]
theorem good_len {x : Operand} {ats : Array TypeId} {v : Value} (hrefl : ∀ w, E w w) (ho : o.op = .call { callee := .builtin .len, args := #[x], argTypes := ats }) (hg : guardV ops specs a0 o = some true)
    (h : ∀ u w, C w → (argS ops specs a0 x).ok u w → (Builtin.len_ ats o.type #[u]).run P w = .ok v w) : GoodOp P ops specs a0 C E o (.inl v) :=
  good_val hrefl hg fun a w hC hh => by
    have h1 := h _ w hC (hh x (by rw [ho]; simp [Op.operands, Call.operands]))
    refine ⟨v, ?_, rfl⟩
    unfold execOp
    rw [ho]
    simp only [resolve, invoke, builtin, Sem.run_bind, Sem.run_pure, Result.andThen, List.map_toArray, List.map_cons, List.map_nil, h1]
theorem good_slice2 {t : TypeId} {x hi : Operand} {vh : Value} (hrefl : ∀ w, E w w) (ho : o.op = .slice t x none (some hi) none) (hg : guardV ops specs a0 o = some true) (hh : argS ops specs a0 hi = .inl vh)
    (h : ∀ u w, C w → (argS ops specs a0 x).ok u w → ∃ v, (Instr.sliceAt t u none (some vh) none).run P w = .ok v w ∧ s.ok v w) : GoodOp P ops specs a0 C E o s :=
  good_val hrefl hg fun a w hC hs => by
    obtain ⟨v, h1, h2⟩ := h _ w hC (hs x (by rw [ho]; simp [Op.operands]))
    have h3 := hs hi (by rw [ho]; simp [Op.operands])
    rw [hh] at h3
    simp only [Spec.ok] at h3
    refine ⟨v, ?_, h2⟩
    unfold execOp
    rw [ho]
    simp only [Option.map_some, Option.map_none, h3, Sem.run_bind, Result.andThen, h1, Sem.run_pure]

/-- A call of a function of the program's own. -/
theorem good_call {f : FuncId} {xs : Array Operand} {ats : Array TypeId} {fn : Func} {cd : Code} (hf : P.funcs[f]? = some fn) (hname : (fn.name == "runtime.NumGoroutine") = false) (hb : fn.body = some cd)
    (ho : o.op = .call { callee := .value (.func f), args := xs, argTypes := ats }) (hg : guardV ops specs a0 o = some true)
    (h : ∀ (a : Act) (w : World), C w → (∀ x ∈ xs, (argS ops specs a0 x).ok (a.eval x) w) → Calls P f (xs.map a.eval) w (fun e w' => ∃ v, e = .returned v ∧ s.ok v w' ∧ E w w' ∧ C w')) : GoodOp P ops specs a0 C E o s :=
  good_of hg fun Q a w hC hs => by
    have hc := h a w hC (fun x hx => hs x (by rw [ho]; simp [Op.operands, Call.operands, hx]))
    have hr : (execOp a.eval o).run P w = .ok (.enter f (xs.map a.eval)) w := by
      have e : execOp a.eval o = callFunc f (#[] ++ xs.map a.eval ++ #[]) := by unfold execOp; rw [ho]; rfl
      rw [e, run_enter hf hname hb]
      simp
    unfold Oper.wp
    rw [hr]
    refine Calls.mono hc fun e w' ⟨v, he, hv⟩ => ?_
    subst he
    exact ⟨v, rfl, hv⟩
theorem good_call0 {f : FuncId} {ats : Array TypeId} {fn : Func} {cd : Code} (hf : P.funcs[f]? = some fn) (hname : (fn.name == "runtime.NumGoroutine") = false) (hb : fn.body = some cd)
    (ho : o.op = .call { callee := .value (.func f), args := #[], argTypes := ats }) (hg : guardV ops specs a0 o = some true)
    (h : ∀ (w : World), C w → Calls P f #[] w (fun e w' => ∃ v, e = .returned v ∧ s.ok v w' ∧ E w w' ∧ C w')) : GoodOp P ops specs a0 C E o s :=
  good_call hf hname hb ho hg fun a w hC _ => by simpa using h w hC
theorem good_call1 {f : FuncId} {x : Operand} {ats : Array TypeId} {fn : Func} {cd : Code} (hf : P.funcs[f]? = some fn) (hname : (fn.name == "runtime.NumGoroutine") = false) (hb : fn.body = some cd)
    (ho : o.op = .call { callee := .value (.func f), args := #[x], argTypes := ats }) (hg : guardV ops specs a0 o = some true)
    (h : ∀ (u : Value) (w : World), C w → (argS ops specs a0 x).ok u w → Calls P f #[u] w (fun e w' => ∃ v, e = .returned v ∧ s.ok v w' ∧ E w w' ∧ C w')) : GoodOp P ops specs a0 C E o s :=
  good_call hf hname hb ho hg fun a w hC hs => by simpa using h _ w hC (hs x (by simp))
theorem good_call2 {f : FuncId} {x y : Operand} {ats : Array TypeId} {fn : Func} {cd : Code} (hf : P.funcs[f]? = some fn) (hname : (fn.name == "runtime.NumGoroutine") = false) (hb : fn.body = some cd)
    (ho : o.op = .call { callee := .value (.func f), args := #[x, y], argTypes := ats }) (hg : guardV ops specs a0 o = some true)
    (h : ∀ (u u2 : Value) (w : World), C w → (argS ops specs a0 x).ok u w → (argS ops specs a0 y).ok u2 w → Calls P f #[u, u2] w (fun e w' => ∃ v, e = .returned v ∧ s.ok v w' ∧ E w w' ∧ C w')) : GoodOp P ops specs a0 C E o s :=
  good_call hf hname hb ho hg fun a w hC hs => by simpa using h _ _ w hC (hs x (by simp)) (hs y (by simp))
theorem good_call3 {f : FuncId} {x y z : Operand} {ats : Array TypeId} {fn : Func} {cd : Code} (hf : P.funcs[f]? = some fn) (hname : (fn.name == "runtime.NumGoroutine") = false) (hb : fn.body = some cd)
    (ho : o.op = .call { callee := .value (.func f), args := #[x, y, z], argTypes := ats }) (hg : guardV ops specs a0 o = some true)
    (h : ∀ (u u2 u3 : Value) (w : World), C w → (argS ops specs a0 x).ok u w → (argS ops specs a0 y).ok u2 w → (argS ops specs a0 z).ok u3 w → Calls P f #[u, u2, u3] w (fun e w' => ∃ v, e = .returned v ∧ s.ok v w' ∧ E w w' ∧ C w')) : GoodOp P ops specs a0 C E o s :=
  good_call hf hname hb ho hg fun a w hC hs => by simpa using h _ _ _ w hC (hs x (by simp)) (hs y (by simp)) (hs z (by simp))
end
end Go.Proofs.Ytibnhjfeepdddaa.Rg
namespace Go.Proofs.Ytibnhjfeepdddaa
open Go.RowKit
set_option linter.unusedVariables false
/-- What a slice of bytes that is read holds: the bytes l. -/
def Byt (w : World) (a : Option Addr) (cap : Nat) (l : List UInt8) : Prop :=
  l.length ≤ cap ∧ cap ≤ maxLen ∧ (a = none → cap = 0) ∧ ∀ i, i < l.length → ∃ b off, a = some ⟨b, off, none⟩ ∧ w.cell? ⟨b, off + i, none⟩ = some (.int .u8 (M.bAt l i))
theorem ret3 {a b c a' b' c' : Value} (h1 : a = a') (h2 : b = b') (h3 : c = c') : Ending.returned (.tuple #[a, b, c]) = .returned (.tuple #[a', b', c']) := by rw [h1, h2, h3]
theorem Try.info5 : (Try.prog.info? 5).map (fun i => (i.zero, i.size, i.bytes)) = some (some (.int .u8 0), 1, 1) := by kernel_rfl
theorem Try.size5 : (Try.prog.info? 5).map (·.size) = some 1 := by kernel_rfl
/-- Bytes as cells. -/
def cs (l : List UInt8) : List Value := l.map fun b => .int .u8 (b.toNat : Int)
theorem cs_len (l : List UInt8) : (cs l).length = l.length := by simp [cs]
theorem cs_append (l m : List UInt8) : cs (l ++ m) = cs l ++ cs m := by simp [cs]
theorem cs_one (l : List UInt8) : ∀ u ∈ cs l, u.oneCell' = true := by
  intro u hu
  simp [cs] at hu
  obtain ⟨b, _, rfl⟩ := hu
  rfl
theorem cs_get {l : List UInt8} {j : Nat} {u : Value} (h : (cs l)[j]? = some u) : j < l.length ∧ u = .int .u8 (M.bAt l j) := by
  have hj : j < l.length := by
    have := (List.getElem?_eq_some_iff.1 h).1
    simpa [cs] using this
  refine ⟨hj, ?_⟩
  simp [cs, List.getElem?_eq_getElem hj] at h
  rw [← h]
  simp [M.bAt, hj]
/-- A slice value owns the bytes l. -/
def Own (w : World) (base : Nat) (v : Value) (l : List UInt8) : Prop := w.ownsRow base 5 1 v l.length (cs l)
theorem add_none (b o j : Nat) : (⟨b, o, none⟩ : Addr).add j = ⟨b, o + j, none⟩ := by unfold Addr.add; split <;> simp_all
theorem Own.byt {w : World} {base : Nat} {v : Value} {l : List UInt8} (h : Own w base v l) : ∃ a cap, v = .slice a l.length cap ∧ Byt w a cap l := by
  obtain ⟨h1, h2⟩ := h
  rcases h2 with ⟨rfl, h0⟩ | ⟨g, cap, cur, rfl, hb, hg, hlc, hcm, hsz, htake⟩
  · refine ⟨none, 0, by rw [h0], by omega, by simp [maxLen], fun _ => rfl, fun i hi => by omega⟩
  · refine ⟨some ⟨g, 0, none⟩, cap, rfl, hlc, hcm, by simp, fun i hi => ⟨g, 0, rfl, ?_⟩⟩
    have hc := World.ownsRow.cells (w := w) (base := base) (e := 5) (size := 1) (v := .slice (some ⟨g, 0, none⟩) l.length cap) (n := l.length) (xs := cs l)
      ⟨h1, .inr ⟨g, cap, cur, rfl, hb, hg, hlc, hcm, hsz, htake⟩⟩ (g := g) rfl i (.int .u8 (M.bAt l i)) (by simp [cs, M.bAt, hi])
    rw [add_none] at hc
    exact hc
/-- What is read below stays as it was. -/
theorem Byt.below {w w' : World} {a : Option Addr} {cap : Nat} {l : List UInt8} (h : Byt w a cap l) (hb : Below w.heap.size w w') : Byt w' a cap l := by
  obtain ⟨h1, h2, h3, h4⟩ := h
  refine ⟨h1, h2, h3, fun i hi => ?_⟩
  obtain ⟨b, off, rfl, hc⟩ := h4 i hi
  refine ⟨b, off, rfl, ?_⟩
  rw [hb.cell (p := ⟨b, off + i, none⟩) (World.block_lt_of_cell? w _ hc)]
  exact hc
/-- 'make([]T, n, c)'. -/
theorem wpList_make_some {P : Program} (w : World) {ops : Array Oper} {rest : List Oper} {o : Oper} {a : Act} {Q : Exit → Act → World → Prop}
    (hg : o.guard = none) (l c : Operand) (t : TypeId) (hop : o.op = Op.makeSlice t l c)
    (e : TypeId) (i : TypeInfo) (z : Value) (h1 : P.underlying t = some (.slice e)) (h2 : P.info? e = some i) (h3 : i.zero = some z) (h4 : i.size = 1) (h5 : i.bytes = 1)
    (kl kc : IntKind) (L C : Int) (n m : Nat) (hl : a.eval l = .int kl L) (hc : a.eval c = .int kc C) (hL : L = (n : Int)) (hC : C = (m : Int)) (b1 : n ≤ m) (b2 : m ≤ 281474976710656)
    (hK : ∀ (w' : World) (cur : List Value), cur.length = m → w'.heap[w.heap.size]? = some (.cells cur.toArray e (0, 0)) → Below w.heap.size w w' → wpList P ops Q rest (a.put o.dst (.slice (some ⟨w.heap.size, 0, none⟩) n m)) w') :
    wpList P ops Q (o :: rest) a w := by
  refine wpList_plain hg fun K hK' => ?_
  subst hL
  subst hC
  have hrun := run_make (P := P) w t e i z h1 h2 h3 kl kc (n : Int) (m : Int) (by omega) (by omega) (by rw [h5]; omega) (by omega)
  simp only [Int.toNat_natCast] at hrun
  unfold Oper.wp
  simp [execOp, hop, hl, hc, hrun, Result.andThen]
  exact hK' _ _ (hK _ (madeCells z.cells (m * i.size)).toList (by simp [size_madeCells, h4]) (by simpa using heap_alloc_new w _) ((Below.refl _ _).alloc (Nat.le_refl _) _))
theorem own_push {w : World} {base : Nat} {v : Value} {l : List UInt8} {c : UInt8} {k : Nat} {X : Int} (h : w.ownsRow base 5 1 v k (cs l ++ [.int .u8 X])) (hk : k = l.length + 1) (hX : X = c.toNat) : Own w base v (l ++ [c]) := by
  subst hX; subst hk
  show w.ownsRow base 5 1 v (l ++ [c]).length (cs (l ++ [c]))
  rw [cs_append, List.length_append]
  exact h
theorem step_below {base : Nat} {w wr w1 : World} {v : Value} {l : List UInt8} {o : Obj} (hbel : Below base w wr) (hsz : base ≤ wr.heap.size) (hown : Own wr base v l) (hg : (wr.alloc o).grownBy w1 v.ownBlock) : Below base w w1 :=
  (hbel.alloc hsz o).grown hg (by simp; omega) (fun k hk => (World.ownsRow.lt hown k hk).1)
theorem one_cell (w : World) (X : Value) (j : Nat) (u : Value) (h : [X][j]? = some u) : (w.alloc (.cells #[X] 5)).cell? ((⟨w.heap.size, 0, none⟩ : Addr).add j) = some u := by
  match j, h with
  | 0, h => simp at h; subst h; simp [Addr.add]
theorem Own.mono {w : World} {base base' : Nat} {v : Value} {l : List UInt8} (h : Own w base v l) (hb : base' ≤ base) : Own w base' v l := by
  obtain ⟨h1, h2⟩ := h
  refine ⟨h1, ?_⟩
  rcases h2 with h2 | ⟨g, cap, cur, hv, hg, r⟩
  · exact .inl h2
  · exact .inr ⟨g, cap, cur, hv, Nat.le_trans hb hg, r⟩
/-- Bytes as a string. -/
def str (l : List UInt8) : ByteArray := ⟨l.toArray⟩
theorem str_toList (l : List UInt8) : (str l).toList = l := by rw [Lib.toList_data]; simp [str]
theorem run_str {w : World} {a : Option Addr} {n cap : Nat} {l : List UInt8} (h : Byt w a cap l) (hn : n = l.length) : (convert 30 9 (.slice a n cap)).run Try.prog w = .ok (.string (str l)) w := by
  subst hn
  obtain ⟨h1, h2, h3, h4⟩ := h
  cases a with
  | none =>
    have hl : l = [] := List.eq_nil_of_length_eq_zero (by have := h3 rfl; omega)
    subst hl
    rw [run_convert_bytes_string w 30 9 5 none _ cap Try.underlying30 Try.underlying5 Try.underlying9]
    rfl
  | some x =>
    refine run_convert_bytes_back w 30 9 5 x cap l Try.underlying30 Try.underlying5 Try.underlying9 (fun j hj => ?_)
    obtain ⟨b, off, hx, hc⟩ := h4 j hj
    simp at hx
    subst hx
    rw [add_none, hc]
    simp [M.bAt, hj]
/-- A nil slice holds no bytes. -/
theorem Byt.nil (w : World) : Byt w none 0 [] := ⟨by simp, by simp [maxLen], fun _ => rfl, fun i hi => by simp at hi⟩
/-- A slice that is laid out in a new block. -/
theorem Byt.laid (w : World) (l : List UInt8) (hl : l.length ≤ 1000) : Byt (w.alloc (.cells (cs l).toArray 5)) (some ⟨w.heap.size, 0, none⟩) l.length l := by
  refine ⟨Nat.le_refl _, by simp [maxLen]; omega, by simp, fun i hi => ⟨w.heap.size, 0, rfl, ?_⟩⟩
  rw [cell_of_row _ w.heap.size (0 + i) (cs l).toArray 5 (0, 0) (heap_alloc_new w _)]
  simp [cs, M.bAt, hi]
theorem str_of (a : ByteArray) : ∃ s : List UInt8, a = str s := ⟨a.data.toList, by cases a; simp [str]⟩
theorem str_size (l : List UInt8) : (str l).size = l.length := by show (str l).data.size = _; simp [str]
/-- The elements of a row of bytes. -/
def rowBytes (zs : List Int) (n : Nat) : List UInt8 := (zs.take n).map fun z => UInt8.ofNat z.toNat
theorem rowBytes_len {zs : List Int} {n cap : Nat} (hl : n ≤ cap) (hz : zs.length = cap) : (rowBytes zs n).length = n := by simp [rowBytes]; omega
theorem byt_row {w : World} {x : Addr} {n cap : Nat} {zs : List Int} (hl : n ≤ cap) (hm : cap ≤ maxLen) (hz : zs.length = cap)
    (hcell : ∀ i, i < zs.length → w.cell? (x.add i) = some (.int .u8 (zs.getD i 0))) (hwz : ∀ z ∈ zs, (Lit.int .u8 z).wf = true) : Byt w (some x) cap (rowBytes zs n) := by
  have hlen := rowBytes_len hl hz
  refine ⟨by omega, hm, by simp, fun i hi => ?_⟩
  rw [hlen] at hi
  have hc := hcell i (by omega)
  obtain ⟨b, off, spot⟩ := x
  have hspot : spot = none := by
    have := World.cell?_spot (hcell 0 (by omega))
    simpa [Addr.add] using this
  subst hspot
  rw [add_none] at hc
  refine ⟨b, off, rfl, ?_⟩
  rw [hc]
  have hi' : i < zs.length := by omega
  have hwf := hwz zs[i] (List.getElem_mem hi')
  have h1 : IntKind.u8.min = 0 := rfl
  have h2 : IntKind.u8.max = 255 := rfl
  simp only [Lit.wf, Bool.and_eq_true, decide_eq_true_eq] at hwf
  have e : (M.bAt (rowBytes zs n) i : Int) = zs[i] := by
    simp only [M.bAt, rowBytes, List.getD_eq_getElem?_getD, List.getElem?_map, List.getElem?_take, if_pos hi, List.getElem?_eq_getElem hi', Option.map_some, Option.getD_some, UInt8.toNat_ofNat']
    omega
  rw [e]
  simp [hi']
/-- A part of the bytes. -/
theorem Byt.sub {w : World} {a : Option Addr} {cap : Nat} {l : List UInt8} (h : Byt w a cap l) (k n : Nat) (hk : k + n ≤ l.length) : Byt w (Option.map (fun x => x.add k) a) (cap - k) ((l.drop k).take n) := by
  obtain ⟨h1, h2, h3, h4⟩ := h
  have hlen : ((l.drop k).take n).length = n := by simp; omega
  refine ⟨by omega, by omega, fun ha => ?_, fun i hi => ?_⟩
  · have := h3 (by simpa using ha); omega
  · rw [hlen] at hi
    obtain ⟨b, off, rfl, hc⟩ := h4 (k + i) (by omega)
    refine ⟨b, off + k, by rw [Option.map_some, add_none], ?_⟩
    rw [show off + k + i = off + (k + i) from by omega, hc]
    have : k + i < l.length := by omega
    simp [M.bAt, hi]
theorem Byt.empty {w : World} {a : Option Addr} {cap : Nat} {l : List UInt8} (h : Byt w a cap l) : Byt w a cap [] := ⟨by simp, h.2.1, h.2.2.1, fun i hi => by simp at hi⟩
theorem Byt.none_ {w : World} (a : Option Addr) : Byt w a 0 [] := ⟨by simp, by simp [maxLen], fun _ => rfl, fun i hi => by simp at hi⟩
theorem own_text {w : World} {base : Nat} {v : Value} {l s : List UInt8} {k : Nat} (h : w.ownsRow base 5 1 v k (cs l ++ Lib.strCells (str s))) (hk : k = l.length + s.length) : Own w base v (l ++ s) := by
  subst hk
  show w.ownsRow base 5 1 v (l ++ s).length (cs (l ++ s))
  have e : Lib.strCells (str s) = cs s := by simp [Lib.strCells, cs, str]
  rw [e] at h
  rw [cs_append, List.length_append]
  exact h
theorem step_below0 {base : Nat} {w wr w1 : World} {v : Value} {l : List UInt8} (hbel : Below base w wr) (hsz : base ≤ wr.heap.size) (hown : Own wr base v l) (hg : wr.grownBy w1 v.ownBlock) : Below base w w1 :=
  hbel.grown hg hsz (fun k hk => (World.ownsRow.lt hown k hk).1)
/-- A later world: nothing that was there has turned. -/
def Ex (w w' : World) : Prop := Below w.heap.size w w'
theorem Ex.refl (w : World) : Ex w w := Below.refl _ _
theorem Ex.trans {a b c : World} (h : Ex a b) (k : Ex b c) : Ex a c := Below.trans h (Below.mono k h.size)
theorem Ex.drew (w : World) : Ex w w.drew := (Below.refl _ _).drew
/-- A value is a slice of the bytes l. -/
def IsByt (l : List UInt8) (v : Value) (w : World) : Prop := ∃ a cap, v = .slice a l.length cap ∧ Byt w a cap l
theorem IsByt.stands (l : List UInt8) : ∀ v w w', IsByt l v w → Ex w w' → IsByt l v w' := by
  rintro v w w' ⟨a, cap, rfl, h⟩ hb
  exact ⟨a, cap, rfl, h.below hb⟩
theorem Own.isByt {w : World} {base : Nat} {v : Value} {l : List UInt8} (h : Own w base v l) : IsByt l v w := h.byt
theorem conv_row {l : List UInt8} {v : Value} {w : World} (h : IsByt l v w) : (convert 30 9 v).run Try.prog w = .ok (.string (str l)) w := by
  obtain ⟨a, cap, rfl, hb⟩ := h
  exact run_str hb rfl
theorem len_row {l : List UInt8} {v : Value} {w : World} (h : IsByt l v w) : (Builtin.len_ #[30] 3 #[v]).run Try.prog w = .ok (.int .i64 l.length) w := by
  obtain ⟨a, cap, rfl, hb⟩ := h
  simp [Builtin.len_, run_underlying Try.underlying30]
  rfl
theorem Byt.take {w : World} {a : Option Addr} {cap : Nat} {l : List UInt8} (h : Byt w a cap l) {k : Nat} (hk : k ≤ l.length) : Byt w a cap (l.take k) := by
  obtain ⟨h1, h2, h3, h4⟩ := h
  refine ⟨by simp; omega, h2, h3, fun i hi => ?_⟩
  have hi' : i < k := by simp at hi; omega
  obtain ⟨b, off, ha, hc⟩ := h4 i (by omega)
  refine ⟨b, off, ha, ?_⟩
  rw [hc]
  simp [M.bAt, hi']
theorem slice_row (a : Option Addr) (n cap k : Nat) (w : World) (hk : k ≤ cap) (hc : cap ≤ maxLen) : (Instr.sliceAt 30 (.slice a n cap) none (some (.int .i64 k)) none).run Try.prog w = .ok (.slice a k cap) w := by
  unfold maxLen at hc
  have h1 : (k : Int) ≤ (cap : Int) := by omega
  have h2 : (0 : Int) ≤ (k : Int) := by omega
  have h3 : (k : Int) ≤ 9223372036854775807 := by omega
  go_simp
/-- A text that is cut. -/
theorem str_cut (s : List UInt8) (k : Nat) : (str s).extract 0 k = str (s.take k) := by
  rw [Lib.extract_eq]
  simp [str]
/-- 'append(out, b...)', out the call's own, b whatever bytes that can be read, nil or not. -/
theorem wpList_append_byt {w : World} {ops : Array Oper} {rest : List Oper} {o : Oper} {a : Act} {Q : Exit → Act → World → Prop} (hgd : o.guard = none) (s x : Operand)
    (ho : o.op = .call { callee := .builtin .append, args := #[s, x], argTypes := #[30, 30] }) (base : Nat)
    (v : Value) (xs : List UInt8) (hs : a.eval s = v) (hown : Own w base v xs) (p : Option Addr) (n c : Nat) (l : List UInt8) (hx : a.eval x = .slice p n c) (hn : n = l.length) (hB : Byt w p c l)
    (h63 : xs.length + l.length ≤ 140737488355328) (hbase : base ≤ w.heap.size)
    (h : ∀ v' w', Own w' base v' (xs ++ l) → w.grownBy w' v.ownBlock → wpList Try.prog ops Q rest (a.put o.dst v') w') : wpList Try.prog ops Q (o :: rest) a w := by
  subst hn
  obtain ⟨i0, hi, hz0, hz1, hz2⟩ := info_parts Try.info5
  cases p with
  | none =>
    have hc := hB.2.2.1 rfl
    have hl : l = [] := List.eq_nil_of_length_eq_zero (by have := hB.1; omega)
    subst hl
    subst hc
    refine wpList_append_own_none hgd s x 30 ho base 5 i0 1 Try.underlying30 hi v xs.length (cs xs) hs hown hx ?_
    exact h v w (by simpa using hown) (World.grownBy.refl w _)
  | some ad =>
    refine wpList_append_own _ hgd s x 30 ho base 5 i0 (.int .u8 0) 1 1 Try.underlying30 hi hz0 hz1 hz2 rfl (by decide) v xs.length (cs xs) hs hown ad l.length c (cs l) hx (by simp [cs]) ?_ (cs_one l) (by unfold maxLen; omega) (by omega) hbase ?_
    · intro j u hu
      obtain ⟨hj, rfl⟩ := cs_get hu
      obtain ⟨b, off, hbo, hc⟩ := hB.2.2.2 j hj
      simp at hbo
      subst hbo
      rw [add_none]
      exact hc
    · intro v' w' ho' hg' _
      refine h v' w' ?_ hg'
      show w'.ownsRow base 5 1 v' (xs ++ l).length (cs (xs ++ l))
      rw [cs_append, List.length_append]
      exact ho'
/-- '[]byte{}'. -/
theorem own_empty (w : World) (base : Nat) (hb : base ≤ w.heap.size) : Own (w.alloc (.cells #[] 5)) base (.slice (some ⟨w.heap.size, 0, none⟩) 0 0) [] :=
  World.ownsRow_made w #[] 0 hb (by simp [maxLen]) (by simp)
theorem Ex.drewN (w : World) : ∀ q, Ex w (w.drewN q)
  | 0 => Ex.refl w
  | q + 1 => (Ex.drewN w q).trans (Ex.drew _)
theorem made_zero (m : Nat) : (madeCells #[Value.int .u8 0] m).toList = List.replicate m (.int .u8 0) := by
  unfold madeCells
  rw [Array.toList_map]
  apply List.ext_getElem
  · simp
  · intro i h1 h2
    simp
    rw [Nat.mod_one]
    rfl
theorem cs_zero (m : Nat) : cs (List.replicate m 0) = List.replicate m (.int .u8 0) := by simp [cs]
/-- 'make([]byte, m)': m noughts. -/
theorem wpList_make_zero {w : World} {ops : Array Oper} {rest : List Oper} {o : Oper} {a : Act} {Q : Exit → Act → World → Prop}
    (hg : o.guard = none) (l c : Operand) (hop : o.op = Op.makeSlice 30 l c) (L C : Int) (m : Nat) (hl : a.eval l = .int .i64 L) (hc : a.eval c = .int .i64 C) (hL : L = (m : Int)) (hC : C = (m : Int)) (b2 : m ≤ 281474976710656)
    (hK : ∀ (w' : World), w'.heap[w.heap.size]? = some (.cells (cs (List.replicate m 0)).toArray 5 (0, 0)) → Below w.heap.size w w' → wpList Try.prog ops Q rest (a.put o.dst (.slice (some ⟨w.heap.size, 0, none⟩) m m)) w') :
    wpList Try.prog ops Q (o :: rest) a w := by
  obtain ⟨i0, hi, hz0, hz1, hz2⟩ := info_parts Try.info5
  refine wpList_plain hg fun K hK' => ?_
  subst hL
  subst hC
  have hrun := run_make (P := Try.prog) w 30 5 i0 (.int .u8 0) Try.underlying30 hi hz0 .i64 .i64 (m : Int) (m : Int) (by omega) (by omega) (by rw [hz2]; omega) (by omega)
  simp only [Int.toNat_natCast] at hrun
  unfold Oper.wp
  simp [execOp, hop, hl, hc, hrun, Result.andThen]
  refine hK' _ _ (hK _ ?_ ((Below.refl _ _).alloc (Nat.le_refl _) _))
  rw [hz1, heap_alloc_new, Nat.mul_one]
  have e : (madeCells (Value.int .u8 0).cells m).toList = cs (List.replicate m 0) := by rw [cs_zero]; exact made_zero m
  rw [← e]
theorem Ex.size {w w' : World} (h : Ex w w') : w.heap.size ≤ w'.heap.size := Below.size h
theorem Own.later {w w' : World} {base : Nat} {v : Value} {l : List UInt8} (h : Own w base v l) (hx : Ex w w') : Own w' base v l := by
  obtain ⟨h1, h2⟩ := h
  refine ⟨h1, ?_⟩
  rcases h2 with h2 | ⟨g, cap, cur, hv, hb, hg, r⟩
  · exact .inl h2
  · exact .inr ⟨g, cap, cur, hv, hb, by rw [hx.block g (Array.getElem?_eq_some_iff.1 hg).1]; exact hg, r⟩
theorem Own.bytS {w : World} {base n cap : Nat} {a : Option Addr} {l : List UInt8} (h : Own w base (.slice a n cap) l) : Byt w a cap l := by
  obtain ⟨a', cap', hv, hb⟩ := h.byt
  simp only [Value.slice.injEq] at hv
  obtain ⟨rfl, _, rfl⟩ := hv
  exact hb
/-- A slice that is written out. -/
theorem wpList_build_own {w : World} {ops : Array Oper} {rest : List Oper} {o : Oper} {a : Act} {Q : Exit → Act → World → Prop} (hgd : o.guard = none) (d : Tmp) (hd : o.dst = some d) (n : Nat) (L : List UInt8) (hn : n = L.length) (hm : n ≤ 1000)
    (hrun : ∀ w, (execOp a.eval o).run Try.prog w = .ok (.value (.slice (some ⟨w.heap.size, 0, none⟩) n n)) (w.alloc (.cells (cs L).toArray 5))) (base : Nat) (hbase : base ≤ w.heap.size)
    (hK : ∀ g w', Own w' base (.slice (some ⟨g, 0, none⟩) n n) L → Ex w w' → wpList Try.prog ops Q rest (a.put (some d) (.slice (some ⟨g, 0, none⟩) n n)) w') : wpList Try.prog ops Q (o :: rest) a w := by
  refine wpList_plain hgd fun K hK' => ?_
  unfold Oper.wp
  rw [hrun w]
  show K (a.put o.dst _) _
  rw [hd]
  refine hK' _ _ (hK w.heap.size _ ?_ ((Below.refl _ _).alloc (Nat.le_refl _) _))
  show World.ownsRow _ _ _ _ _ _ _
  rw [← hn]
  refine ⟨by rw [cs_len, hn]; omega, .inr ⟨w.heap.size, n, _, rfl, hbase, heap_alloc_new w _, Nat.le_refl _, ?_, by simp [cs_len, hn], ?_⟩⟩
  · unfold maxLen; omega
  · rw [Nat.mul_one, List.take_of_length_le (by simp [cs_len, hn])]
end Go.Proofs.Ytibnhjfeepdddaa
