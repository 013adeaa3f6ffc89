/-
  The operations of a region whose order is open, one law a kind: what each owes its sentence. What a slice of bytes holds, what a call owns, what later worlds keep: the words in which the contracts are said. No function of the program here.
-/
import Derived.Test.YtibnhjfeepdddaaM03
import Derived.Test.YtibnhjfeepdddaaRows
import Derived.Test.YtibnhjfeepdddaaM02
import Derived.Test.YtibnhjfeepdddaaM01
import Derived.WalkKit
import Derived.WalkLawsBesides
import Derived.WalkSpells
import Derived.Outline
import Derived.Laws.CopyOwn
import Derived.Laws.IdiomStrings
import Derived.Lib.Strings
import Derived.Lib.AppendStr
import Derived.Laws.AppendOwnNone
import Derived.Deep.QuietTactic
import Derived.BigQuiet
namespace Go.Proofs.Ytibnhjfeepdddaa.Rg
open Go Go.RowKit

/-- What the guard of an operation says, by the sentences. -/
def guardV (ops : Array Oper) (specs : List Spec) (a0 : Act) (o : Oper) : Option Bool :=
 match o.guard with
 | none => some true
 | some (g, want) =>
  match (ops[g]?).bind (·.dst) with
  | none => none
  | some d =>
   match slotS ops specs a0 d with
   | .inl (.bool b) => some (b == want)
   | .inl _ => some false
   | .inr _ => none
/-- What is so of an operand. -/
def argS (ops : Array Oper) (specs : List Spec) (a0 : Act) : Operand → Spec
 | .tmp t => slotS ops specs a0 t
 | .const v => .inl v
 | .global g => .inl (.pointer (some ⟨g, 0, none⟩))
 | .func f => .inl (.func (.func f) #[] #[])

section
variable {P : Program} {ops : Array Oper} {specs : List Spec} {a0 : Act} {C : World → Prop} {E : World → World → Prop} {o : Oper} {s : Spec}

theorem wanted_of {a : Act} {w : World} {b : Bool} (h : guardV ops specs a0 o = some b) (hs : ∀ t ∈ o.looksAt ops, (slotS ops specs a0 t).ok (a.eval (.tmp t)) w) : Region.wanted o (yielded ops a.tmps) = b := by
 unfold guardV at h
 unfold Region.wanted
 cases hg : o.guard with
 | none => rw [hg] at h; simpa using h
 | some gw =>
  obtain ⟨g, want⟩ := gw
  rw [hg] at h
  simp only at h ⊢
  cases hd : (ops[g]?).bind (·.dst) with
  | none => rw [hd] at h; simp at h
  | some d =>
   rw [hd] at h
   simp only at h
   have hok := hs d (by unfold Oper.looksAt; rw [hg]; simp only [hd]; simp)
   cases hsl : slotS ops specs a0 d with
   | inr p => rw [hsl] at h; simp at h
   | inl x =>
    rw [hsl] at h hok
    simp only [Spec.ok, Act.eval] at hok
    have hsome : ∀ u, a.tmps[d]? = some u → u = x := by
     intro u hu
     rw [Array.getD_eq_getD_getElem?, hu] at hok
     simpa using hok
    unfold yielded
    rw [hd]
    simp only [Option.bind_some]
    cases x with
    | bool c =>
     simp at h
     subst h
     have hsome' : a.tmps[d]? = some (.bool c) := by
      rw [Array.getD_eq_getD_getElem?] at hok
      cases hx : a.tmps[d]? with
      | none => rw [hx] at hok; simp [undef] at hok
      | some u => rw [hx] at hok; simp at hok; rw [hok]
     simp [hsome']
    | _ =>
     simp at h
     subst h
     cases hx : a.tmps[d]? with
     | none => simp
     | some u => rw [hsome u hx]; simp

theorem arg_ok {a : Act} {w : World} {x : Operand} (hx : x ∈ o.op.operands) (hs : ∀ t ∈ o.looksAt ops, (slotS ops specs a0 t).ok (a.eval (.tmp t)) w) : (argS ops specs a0 x).ok (a.eval x) w := by
 cases x with
 | tmp t => exact hs t (by unfold Oper.looksAt; exact List.mem_append_left _ (List.mem_filterMap.2 ⟨.tmp t, by simpa using hx, rfl⟩))
 | const v => rfl
 | global g => rfl
 | func f => rfl

theorem run_enter {f : FuncId} {fn : Func} {c : Code} (hf : P.funcs[f]? = some fn) (hname : (fn.name == "runtime.NumGoroutine") = false) (hb : fn.body = some c) (args : Array Value) (w : World) :
  (callFunc f args).run P w = .ok (.enter f args) w := by
 have h1 : fn.name ≠ "runtime.NumGoroutine" := by simpa using hname
 simp [callFunc, hf, h1, hb]
theorem good_of (hg : guardV ops specs a0 o = some true)
  (h : ∀ (Q : Exit → Act → World → Prop) (a : Act) (w : World), C w → (∀ x ∈ o.op.operands, (argS ops specs a0 x).ok (a.eval x) w) → o.wp P a w (fun a' w' => ∃ v, a' = a.put o.dst v ∧ s.ok v w' ∧ E w w' ∧ C w') Q) : GoodOp P ops specs a0 C E o s :=
 fun Q a w hC hs => ⟨fun _ => h Q a w hC (fun x hx => arg_ok hx hs), fun hw => by rw [wanted_of hg hs] at hw; cases hw⟩
theorem good_val (hrefl : ∀ w, E w w) (hg : guardV ops specs a0 o = some true)
  (h : ∀ (a : Act) (w : World), C w → (∀ x ∈ o.op.operands, (argS ops specs a0 x).ok (a.eval x) w) → ∃ v, (execOp a.eval o).run P w = .ok (.value v) w ∧ s.ok v w) : GoodOp P ops specs a0 C E o s :=
 good_of hg fun Q a w hC hs => by
  obtain ⟨v, hr, hv⟩ := h a w hC hs
  unfold Oper.wp
  rw [hr]
  exact ⟨v, rfl, hv, hrefl w, hC⟩
theorem good_move {x : Operand} (hrefl : ∀ w, E w w) (ho : o.op = .move x) (hg : guardV ops specs a0 o = some true) (hs : argS ops specs a0 x = s) : GoodOp P ops specs a0 C E o s :=
 good_val hrefl hg fun a w hC h => by
  have hx := h x (by rw [ho]; simp [Op.operands])
  rw [hs] at hx
  exact ⟨a.eval x, by unfold execOp; rw [ho]; rfl, hx⟩
theorem good_assign {x : Operand} (hrefl : ∀ w, E w w) (ho : o.op = .assign x) (hg : guardV ops specs a0 o = some true) (hs : argS ops specs a0 x = s) : GoodOp P ops specs a0 C E o s :=
 good_val hrefl hg fun a w hC h => by
  have hx := h x (by rw [ho]; simp [Op.operands])
  rw [hs] at hx
  exact ⟨a.eval x, by unfold execOp; rw [ho]; rfl, hx⟩
theorem good_pick {c x y : Operand} (b : Bool) (hrefl : ∀ w, E w w) (ho : o.op = .pick c x y) (hg : guardV ops specs a0 o = some true) (hc : argS ops specs a0 c = .inl (.bool b))
  (hs : (if b then argS ops specs a0 x else argS ops specs a0 y) = s) : GoodOp P ops specs a0 C E o s :=
 good_val hrefl hg fun a w hC h => by
  have h1 := h c (by rw [ho]; simp [Op.operands])
  have h2 := h x (by rw [ho]; simp [Op.operands])
  have h3 := h y (by rw [ho]; simp [Op.operands])
  rw [hc] at h1
  simp only [Spec.ok] at h1
  refine ⟨if b then a.eval x else a.eval y, by unfold execOp; rw [ho]; simp only [h1]; rfl, ?_⟩
  rw [← hs]
  cases b <;> simp <;> assumption
theorem good_bin {op : BinOp} {ty r : TypeId} {x y : Operand} {vx vy v : Value} (hrefl : ∀ w, E w w) (ho : o.op = .binOp op ty x y r) (hg : guardV ops specs a0 o = some true)
  (hx : argS ops specs a0 x = .inl vx) (hy : argS ops specs a0 y = .inl vy) (he : ∀ w, (eqGuard op ty x y vx vy).run P w = .ok () w) (h : ∀ w, (binOp op ty vx vy).run P w = .ok v w) : GoodOp P ops specs a0 C E o (.inl v) :=
 good_val hrefl hg fun a w hC hh => by
  have h1 := hh x (by rw [ho]; simp [Op.operands])
  have h2 := hh y (by rw [ho]; simp [Op.operands])
  rw [hx] at h1
  rw [hy] at h2
  simp only [Spec.ok] at h1 h2
  refine ⟨v, ?_, rfl⟩
  unfold execOp
  rw [ho]
  simp only [h1, h2, Sem.run_bind, he w, Result.andThen, h w, Sem.run_pure]
theorem good_un {op : UnOp} {ty : TypeId} {x : Operand} {vx v : Value} (hrefl : ∀ w, E w w) (ho : o.op = .unOp op ty x) (hg : guardV ops specs a0 o = some true)
  (hx : argS ops specs a0 x = .inl vx) (h : ∀ w, (Op.unary op vx).run P w = .ok v w) : GoodOp P ops specs a0 C E o (.inl v) :=
 good_val hrefl hg fun a w hC hh => by
  have h1 := hh x (by rw [ho]; simp [Op.operands])
  rw [hx] at h1
  simp only [Spec.ok] at h1
  refine ⟨v, ?_, rfl⟩
  unfold execOp
  rw [ho]
  simp only [h1, Sem.run_bind, Result.andThen, h w, Sem.run_pure]
theorem good_conv {src dst : TypeId} {x : Operand} {v : Value} (hrefl : ∀ w, E w w) (ho : o.op = .convert src dst x) (hg : guardV ops specs a0 o = some true)
  (h : ∀ u w, C w → (argS ops specs a0 x).ok u w → (convert src dst u).run P w = .ok v w) : GoodOp P ops specs a0 C E o (.inl v) :=
 good_val hrefl hg fun a w hC hh => by
  have h1 := h _ w hC (hh x (by rw [ho]; simp [Op.operands]))
  refine ⟨v, ?_, rfl⟩
  unfold execOp
  rw [ho]
  simp only [Sem.run_bind, Result.andThen, h1, Sem.run_pure]
theorem good_len {x : Operand} {ats : Array TypeId} {v : Value} (hrefl : ∀ w, E w w) (ho : o.op = .call { callee := .builtin .len, args := #[x], argTypes := ats }) (hg : guardV ops specs a0 o = some true)
  (h : ∀ u w, C w → (argS ops specs a0 x).ok u w → (Builtin.len_ ats o.type #[u]).run P w = .ok v w) : GoodOp P ops specs a0 C E o (.inl v) :=
 good_val hrefl hg fun a w hC hh => by
  have h1 := h _ w hC (hh x (by rw [ho]; simp [Op.operands, Call.operands]))
  refine ⟨v, ?_, rfl⟩
  unfold execOp
  rw [ho]
  simp only [resolve, invoke, builtin, Sem.run_bind, Sem.run_pure, Result.andThen, List.map_toArray, List.map_cons, List.map_nil, h1]
/-- A call of a function of the program's own. -/
theorem good_call {f : FuncId} {xs : Array Operand} {ats : Array TypeId} {fn : Func} {cd : Code} (hf : P.funcs[f]? = some fn) (hname : (fn.name == "runtime.NumGoroutine") = false) (hb : fn.body = some cd)
  (ho : o.op = .call { callee := .value (.func f), args := xs, argTypes := ats }) (hg : guardV ops specs a0 o = some true)
  (h : ∀ (a : Act) (w : World), C w → (∀ x ∈ xs, (argS ops specs a0 x).ok (a.eval x) w) → Calls P f (xs.map a.eval) w (fun e w' => ∃ v, e = .returned v ∧ s.ok v w' ∧ E w w' ∧ C w')) : GoodOp P ops specs a0 C E o s :=
 good_of hg fun Q a w hC hs => by
  have hc := h a w hC (fun x hx => hs x (by rw [ho]; simp [Op.operands, Call.operands, hx]))
  have hr : (execOp a.eval o).run P w = .ok (.enter f (xs.map a.eval)) w := by
   have e : execOp a.eval o = callFunc f (#[] ++ xs.map a.eval ++ #[]) := by unfold execOp; rw [ho]; rfl
   rw [e, run_enter hf hname hb]
   simp
  unfold Oper.wp
  rw [hr]
  refine Calls.mono hc fun e w' ⟨v, he, hv⟩ => ?_
  subst he
  exact ⟨v, rfl, hv⟩
theorem good_call0 {f : FuncId} {ats : Array TypeId} {fn : Func} {cd : Code} (hf : P.funcs[f]? = some fn) (hname : (fn.name == "runtime.NumGoroutine") = false) (hb : fn.body = some cd)
  (ho : o.op = .call { callee := .value (.func f), args := #[], argTypes := ats }) (hg : guardV ops specs a0 o = some true)
  (h : ∀ (w : World), C w → Calls P f #[] w (fun e w' => ∃ v, e = .returned v ∧ s.ok v w' ∧ E w w' ∧ C w')) : GoodOp P ops specs a0 C E o s :=
 good_call hf hname hb ho hg fun a w hC _ => by simpa using h w hC
theorem good_call1 {f : FuncId} {x : Operand} {ats : Array TypeId} {fn : Func} {cd : Code} (hf : P.funcs[f]? = some fn) (hname : (fn.name == "runtime.NumGoroutine") = false) (hb : fn.body = some cd)
  (ho : o.op = .call { callee := .value (.func f), args := #[x], argTypes := ats }) (hg : guardV ops specs a0 o = some true)
  (h : ∀ (u : Value) (w : World), C w → (argS ops specs a0 x).ok u w → Calls P f #[u] w (fun e w' => ∃ v, e = .returned v ∧ s.ok v w' ∧ E w w' ∧ C w')) : GoodOp P ops specs a0 C E o s :=
 good_call hf hname hb ho hg fun a w hC hs => by simpa using h _ w hC (hs x (by simp))
theorem good_call2 {f : FuncId} {x y : Operand} {ats : Array TypeId} {fn : Func} {cd : Code} (hf : P.funcs[f]? = some fn) (hname : (fn.name == "runtime.NumGoroutine") = false) (hb : fn.body = some cd)
  (ho : o.op = .call { callee := .value (.func f), args := #[x, y], argTypes := ats }) (hg : guardV ops specs a0 o = some true)
  (h : ∀ (u u2 : Value) (w : World), C w → (argS ops specs a0 x).ok u w → (argS ops specs a0 y).ok u2 w → Calls P f #[u, u2] w (fun e w' => ∃ v, e = .returned v ∧ s.ok v w' ∧ E w w' ∧ C w')) : GoodOp P ops specs a0 C E o s :=
 good_call hf hname hb ho hg fun a w hC hs => by simpa using h _ _ w hC (hs x (by simp)) (hs y (by simp))
theorem good_call3 {f : FuncId} {x y z : Operand} {ats : Array TypeId} {fn : Func} {cd : Code} (hf : P.funcs[f]? = some fn) (hname : (fn.name == "runtime.NumGoroutine") = false) (hb : fn.body = some cd)
  (ho : o.op = .call { callee := .value (.func f), args := #[x, y, z], argTypes := ats }) (hg : guardV ops specs a0 o = some true)
  (h : ∀ (u u2 u3 : Value) (w : World), C w → (argS ops specs a0 x).ok u w → (argS ops specs a0 y).ok u2 w → (argS ops specs a0 z).ok u3 w → Calls P f #[u, u2, u3] w (fun e w' => ∃ v, e = .returned v ∧ s.ok v w' ∧ E w w' ∧ C w')) : GoodOp P ops specs a0 C E o s :=
 good_call hf hname hb ho hg fun a w hC hs => by simpa using h _ _ _ w hC (hs x (by simp)) (hs y (by simp)) (hs z (by simp))
end
end Go.Proofs.Ytibnhjfeepdddaa.Rg
namespace Go.Proofs.Ytibnhjfeepdddaa
open Go.RowKit
set_option linter.unusedVariables false
/-- What a slice of bytes that is read holds: the bytes l. -/
def Byt (w : World) (a : Option Addr) (cap : Nat) (l : List UInt8) : Prop :=
 l.length ≤ cap ∧ cap ≤ maxLen ∧ (a = none → cap = 0) ∧ ∀ i, i < l.length → ∃ b off, a = some ⟨b, off, none⟩ ∧ w.cell? ⟨b, off + i, none⟩ = some (.int .u8 (M.bAt l i))
theorem Try.info5 : (Try.prog.info? 5).map (fun i => (i.zero, i.size, i.bytes)) = some (some (.int .u8 0), 1, 1) := by kernel_rfl
/-- Bytes as cells. -/
def cs (l : List UInt8) : List Value := l.map fun b => .int .u8 (b.toNat : Int)
theorem cs_len (l : List UInt8) : (cs l).length = l.length := by simp [cs]
/-- A slice value owns the bytes l. -/
def Own (w : World) (base : Nat) (v : Value) (l : List UInt8) : Prop := w.ownsRow base 5 1 v l.length (cs l)
theorem add_none (b o j : Nat) : (⟨b, o, none⟩ : Addr).add j = ⟨b, o + j, none⟩ := by unfold Addr.add; split <;> simp_all
theorem Own.byt {w : World} {base : Nat} {v : Value} {l : List UInt8} (h : Own w base v l) : ∃ a cap, v = .slice a l.length cap ∧ Byt w a cap l := by
 obtain ⟨h1, h2⟩ := h
 rcases h2 with ⟨rfl, h0⟩ | ⟨g, cap, cur, rfl, hb, hg, hlc, hcm, hsz, htake⟩
 ·refine ⟨none, 0, by rw [h0], by omega, by simp [maxLen], fun _ => rfl, fun i hi => by omega⟩
 ·refine ⟨some ⟨g, 0, none⟩, cap, rfl, hlc, hcm, by simp, fun i hi => ⟨g, 0, rfl, ?_⟩⟩
  have hc := World.ownsRow.cells (w := w) (base := base) (e := 5) (size := 1) (v := .slice (some ⟨g, 0, none⟩) l.length cap) (n := l.length) (xs := cs l)
   ⟨h1, .inr ⟨g, cap, cur, rfl, hb, hg, hlc, hcm, hsz, htake⟩⟩ (g := g) rfl i (.int .u8 (M.bAt l i)) (by simp [cs, M.bAt, hi])
  rw [add_none] at hc
  exact hc
/-- What is read below stays as it was. -/
theorem Byt.below {w w' : World} {a : Option Addr} {cap : Nat} {l : List UInt8} (h : Byt w a cap l) (hb : Below w.heap.size w w') : Byt w' a cap l := by
 obtain ⟨h1, h2, h3, h4⟩ := h
 refine ⟨h1, h2, h3, fun i hi => ?_⟩
 obtain ⟨b, off, rfl, hc⟩ := h4 i hi
 refine ⟨b, off, rfl, ?_⟩
 rw [hb.cell (p := ⟨b, off + i, none⟩) (World.block_lt_of_cell? w _ hc)]
 exact hc
theorem Own.mono {w : World} {base base' : Nat} {v : Value} {l : List UInt8} (h : Own w base v l) (hb : base' ≤ base) : Own w base' v l := by
 obtain ⟨h1, h2⟩ := h
 refine ⟨h1, ?_⟩
 rcases h2 with h2 | ⟨g, cap, cur, hv, hg, r⟩
 ·exact .inl h2
 ·exact .inr ⟨g, cap, cur, hv, Nat.le_trans hb hg, r⟩
/-- Bytes as a string. -/
def str (l : List UInt8) : ByteArray := ⟨l.toArray⟩
theorem str_toList (l : List UInt8) : (str l).toList = l := by rw [Lib.toList_data]; simp [str]
/-- A nil slice holds no bytes. -/
theorem Byt.nil (w : World) : Byt w none 0 [] := ⟨by simp, by simp [maxLen], fun _ => rfl, fun i hi => by simp at hi⟩
/-- A slice that is laid out in a new block. -/
theorem Byt.laid (w : World) (l : List UInt8) (hl : l.length ≤ 1000) : Byt (w.alloc (.cells (cs l).toArray 5)) (some ⟨w.heap.size, 0, none⟩) l.length l := by
 refine ⟨Nat.le_refl _, by simp [maxLen]; omega, by simp, fun i hi => ⟨w.heap.size, 0, rfl, ?_⟩⟩
 rw [cell_of_row _ w.heap.size (0 + i) (cs l).toArray 5 (0, 0) (heap_alloc_new w _)]
 simp [cs, M.bAt, hi]
theorem str_size (l : List UInt8) : (str l).size = l.length := by show (str l).data.size = _; simp [str]
theorem Byt.empty {w : World} {a : Option Addr} {cap : Nat} {l : List UInt8} (h : Byt w a cap l) : Byt w a cap [] := ⟨by simp, h.2.1, h.2.2.1, fun i hi => by simp at hi⟩
theorem Byt.none_ {w : World} (a : Option Addr) : Byt w a 0 [] := ⟨by simp, by simp [maxLen], fun _ => rfl, fun i hi => by simp at hi⟩
/-- A later world: nothing that was there has turned. -/
def Ex (w w' : World) : Prop := Below w.heap.size w w'
theorem Ex.refl (w : World) : Ex w w := Below.refl _ _
theorem Ex.trans {a b c : World} (h : Ex a b) (k : Ex b c) : Ex a c := Below.trans h (Below.mono k h.size)
theorem Ex.drew (w : World) : Ex w w.drew := (Below.refl _ _).drew
/-- A value is a slice of the bytes l. -/
def IsByt (l : List UInt8) (v : Value) (w : World) : Prop := ∃ a cap, v = .slice a l.length cap ∧ Byt w a cap l
theorem IsByt.stands (l : List UInt8) : ∀ v w w', IsByt l v w → Ex w w' → IsByt l v w' := by
 rintro v w w' ⟨a, cap, rfl, h⟩ hb
 exact ⟨a, cap, rfl, h.below hb⟩
theorem Byt.take {w : World} {a : Option Addr} {cap : Nat} {l : List UInt8} (h : Byt w a cap l) {k : Nat} (hk : k ≤ l.length) : Byt w a cap (l.take k) := by
 obtain ⟨h1, h2, h3, h4⟩ := h
 refine ⟨by simp; omega, h2, h3, fun i hi => ?_⟩
 have hi' : i < k := by simp at hi; omega
 obtain ⟨b, off, ha, hc⟩ := h4 i (by omega)
 refine ⟨b, off, ha, ?_⟩
 rw [hc]
 simp [M.bAt, hi']
/-- A text that is cut. -/
theorem str_cut (s : List UInt8) (k : Nat) : (str s).extract 0 k = str (s.take k) := by
 rw [Lib.extract_eq]
 simp [str]
theorem Ex.drewN (w : World) : ∀ q, Ex w (w.drewN q)
 | 0 => Ex.refl w
 | q + 1 => (Ex.drewN w q).trans (Ex.drew _)
theorem made_zero (m : Nat) : (madeCells #[Value.int .u8 0] m).toList = List.replicate m (.int .u8 0) := by
 unfold madeCells
 rw [Array.toList_map]
 apply List.ext_getElem
 ·simp
 ·intro i h1 h2
  simp
  rw [Nat.mod_one]
  rfl
theorem cs_zero (m : Nat) : cs (List.replicate m 0) = List.replicate m (.int .u8 0) := by simp [cs]
/-- 'make([]byte, m)': m noughts. -/
theorem wpList_make_zero {w : World} {ops : Array Oper} {rest : List Oper} {o : Oper} {a : Act} {Q : Exit → Act → World → Prop}
  (hg : o.guard = none) (l c : Operand) (hop : o.op = Op.makeSlice 30 l c) (L C : Int) (m : Nat) (hl : a.eval l = .int .i64 L) (hc : a.eval c = .int .i64 C) (hL : L = (m : Int)) (hC : C = (m : Int)) (b2 : m ≤ 281474976710656)
  (hK : ∀ (w' : World), w'.heap[w.heap.size]? = some (.cells (cs (List.replicate m 0)).toArray 5 (0, 0)) → Below w.heap.size w w' → wpList Try.prog ops Q rest (a.put o.dst (.slice (some ⟨w.heap.size, 0, none⟩) m m)) w') :
  wpList Try.prog ops Q (o :: rest) a w := by
 obtain ⟨i0, hi, hz0, hz1, hz2⟩ := info_parts Try.info5
 refine wpList_plain hg fun K hK' => ?_
 subst hL
 subst hC
 have hrun := run_make (P := Try.prog) w 30 5 i0 (.int .u8 0) Try.underlying30 hi hz0 .i64 .i64 (m : Int) (m : Int) (by omega) (by omega) (by rw [hz2]; omega) (by omega)
 simp only [Int.toNat_natCast] at hrun
 unfold Oper.wp
 simp [execOp, hop, hl, hc, hrun, Result.andThen]
 refine hK' _ _ (hK _ ?_ ((Below.refl _ _).alloc (Nat.le_refl _) _))
 rw [hz1, heap_alloc_new, Nat.mul_one]
 have e : (madeCells (Value.int .u8 0).cells m).toList = cs (List.replicate m 0) := by rw [cs_zero]; exact made_zero m
 rw [← e]
theorem Ex.size {w w' : World} (h : Ex w w') : w.heap.size ≤ w'.heap.size := Below.size h
theorem Own.later {w w' : World} {base : Nat} {v : Value} {l : List UInt8} (h : Own w base v l) (hx : Ex w w') : Own w' base v l := by
 obtain ⟨h1, h2⟩ := h
 refine ⟨h1, ?_⟩
 rcases h2 with h2 | ⟨g, cap, cur, hv, hb, hg, r⟩
 ·exact .inl h2
 ·exact .inr ⟨g, cap, cur, hv, hb, by rw [hx.block g (Array.getElem?_eq_some_iff.1 hg).1]; exact hg, r⟩
end Go.Proofs.Ytibnhjfeepdddaa
