/-
  The operations of a region whose order is open, one law a kind: what each owes its sentence. A region whose order is open up to a tail that comes last, one operation behind the other (a store): the head by the sentences of its operations (text Region), the tail as the walk takes it. And: an index, a load.
-/
import Derived.Test.YtnmonoafjijfhaaGreatM01
import Derived.StillTail
namespace Go.Proofs.YtnmonoafjijfhaaGreat.Rg
open Go Go.RowKit

/-- What the guard of an operation says, by the sentences. -/
def guardV (ops : Array Oper) (specs : List Spec) (a0 : Act) (o : Oper) : Option Bool :=
  match o.guard with
  | none => some true
  | some (g, want) =>
    match (ops[g]?).bind (·.dst) with
    | none => none
    | some d =>
      match slotS ops specs a0 d with
      | .inl (.bool b) => some (b == want)
      | .inl _ => some false
      | .inr _ => none
/-- What is so of an operand. -/
def argS (ops : Array Oper) (specs : List Spec) (a0 : Act) : Operand → Spec
  | .tmp t => slotS ops specs a0 t
  | .const v => .inl v
  | .global g => .inl (.pointer (some ⟨g, 0, none⟩))
  | .func f => .inl (.func (.func f) #[] #[])

section
variable {P : Program} {ops : Array Oper} {specs : List Spec} {a0 : Act} {C : World → Prop} {E : World → World → Prop} {o : Oper} {s : Spec}

theorem wanted_of {a : Act} {w : World} {b : Bool} (h : guardV ops specs a0 o = some b) (hs : ∀ t ∈ o.looksAt ops, (slotS ops specs a0 t).ok (a.eval (.tmp t)) w) : Region.wanted o (yielded ops a.tmps) = b := by
  unfold guardV at h
  unfold Region.wanted
  cases hg : o.guard with
  | none => rw [hg] at h; simpa using h
  | some gw =>
    obtain ⟨g, want⟩ := gw
    rw [hg] at h
    simp only at h ⊢
    cases hd : (ops[g]?).bind (·.dst) with
    | none => rw [hd] at h; simp at h
    | some d =>
      rw [hd] at h
      simp only at h
      have hok := hs d (by unfold Oper.looksAt; rw [hg]; simp only [hd]; simp)
      cases hsl : slotS ops specs a0 d with
      | inr p => rw [hsl] at h; simp at h
      | inl x =>
        rw [hsl] at h hok
        simp only [Spec.ok, Act.eval] at hok
        have hsome : ∀ u, a.tmps[d]? = some u → u = x := by
          intro u hu
          rw [Array.getD_eq_getD_getElem?, hu] at hok
          simpa using hok
        unfold yielded
        rw [hd]
        simp only [Option.bind_some]
        cases x with
        | bool c =>
          simp at h
          subst h
          have hsome' : a.tmps[d]? = some (.bool c) := by
            rw [Array.getD_eq_getD_getElem?] at hok
            cases hx : a.tmps[d]? with
            | none => rw [hx] at hok; simp [undef] at hok
            | some u => rw [hx] at hok; simp at hok; rw [hok]
          simp [hsome']
        | _ =>
          simp at h
          subst h
          cases hx : a.tmps[d]? with
          | none => simp
          | some u => rw [hsome u hx]; simp

theorem arg_ok {a : Act} {w : World} {x : Operand} (hx : x ∈ o.op.operands) (hs : ∀ t ∈ o.looksAt ops, (slotS ops specs a0 t).ok (a.eval (.tmp t)) w) : (argS ops specs a0 x).ok (a.eval x) w := by
  cases x with
  | tmp t => exact hs t (by unfold Oper.looksAt; exact List.mem_append_left _ (List.mem_filterMap.2 ⟨.tmp t, by simpa using hx, rfl⟩))
  | const v => rfl
  | global g => rfl
  | func f => rfl

theorem run_enter {f : FuncId} {fn : Func} {c : Code} (hf : P.funcs[f]? = some fn) (hname : (fn.name == "runtime.NumGoroutine") = false) (hb : fn.body = some c) (args : Array Value) (w : World) :
    (callFunc f args).run P w = .ok (.enter f args) w := by
  have h1 : fn.name ≠ "runtime.NumGoroutine" := by simpa using hname
  simp [callFunc, hf, h1, hb]
theorem good_of (hg : guardV ops specs a0 o = some true)
    (h : ∀ (Q : Exit → Act → World → Prop) (a : Act) (w : World), C w → (∀ x ∈ o.op.operands, (argS ops specs a0 x).ok (a.eval x) w) → o.wp P a w (fun a' w' => ∃ v, a' = a.put o.dst v ∧ s.ok v w' ∧ E w w' ∧ C w') Q) : GoodOp P ops specs a0 C E o s :=
  fun Q a w hC hs => ⟨fun _ => h Q a w hC (fun x hx => arg_ok hx hs), fun hw => by rw [wanted_of hg hs] at hw; cases hw⟩
theorem good_skip (hg : guardV ops specs a0 o = some false) : GoodOp P ops specs a0 C E o (.inl undef) :=
  fun Q a w hC hs => ⟨fun hw => (by rw [wanted_of hg hs] at hw; cases hw), fun _ => rfl⟩
theorem good_val (hrefl : ∀ w, E w w) (hg : guardV ops specs a0 o = some true)
    (h : ∀ (a : Act) (w : World), C w → (∀ x ∈ o.op.operands, (argS ops specs a0 x).ok (a.eval x) w) → ∃ v, (execOp a.eval o).run P w = .ok (.value v) w ∧ s.ok v w) : GoodOp P ops specs a0 C E o s :=
  good_of hg fun Q a w hC hs => by
    obtain ⟨v, hr, hv⟩ := h a w hC hs
    unfold Oper.wp
    rw [hr]
    exact ⟨v, rfl, hv, hrefl w, hC⟩
theorem good_move {x : Operand} (hrefl : ∀ w, E w w) (ho : o.op = .move x) (hg : guardV ops specs a0 o = some true) (hs : argS ops specs a0 x = s) : GoodOp P ops specs a0 C E o s :=
  good_val hrefl hg fun a w hC h => by
    have hx := h x (by rw [ho]; simp [Op.operands])
    rw [hs] at hx
    exact ⟨a.eval x, by unfold execOp; rw [ho]; rfl, hx⟩
theorem good_assign {x : Operand} (hrefl : ∀ w, E w w) (ho : o.op = .assign x) (hg : guardV ops specs a0 o = some true) (hs : argS ops specs a0 x = s) : GoodOp P ops specs a0 C E o s :=
  good_val hrefl hg fun a w hC h => by
    have hx := h x (by rw [ho]; simp [Op.operands])
    rw [hs] at hx
    exact ⟨a.eval x, by unfold execOp; rw [ho]; rfl, hx⟩
theorem good_pick {c x y : Operand} (b : Bool) (hrefl : ∀ w, E w w) (ho : o.op = .pick c x y) (hg : guardV ops specs a0 o = some true) (hc : argS ops specs a0 c = .inl (.bool b))
    (hs : (if b then argS ops specs a0 x else argS ops specs a0 y) = s) : GoodOp P ops specs a0 C E o s :=
  good_val hrefl hg fun a w hC h => by
    have h1 := h c (by rw [ho]; simp [Op.operands])
    have h2 := h x (by rw [ho]; simp [Op.operands])
    have h3 := h y (by rw [ho]; simp [Op.operands])
    rw [hc] at h1
    simp only [Spec.ok] at h1
    refine ⟨if b then a.eval x else a.eval y, by unfold execOp; rw [ho]; simp only [h1]; rfl, ?_⟩
    rw [← hs]
    cases b <;> simp <;> assumption
theorem good_bin {op : BinOp} {ty r : TypeId} {x y : Operand} {vx vy v : Value} (hrefl : ∀ w, E w w) (ho : o.op = .binOp op ty x y r) (hg : guardV ops specs a0 o = some true)
    (hx : argS ops specs a0 x = .inl vx) (hy : argS ops specs a0 y = .inl vy) (he : ∀ w, (eqGuard op ty x y vx vy).run P w = .ok () w) (h : ∀ w, (binOp op ty vx vy).run P w = .ok v w) : GoodOp P ops specs a0 C E o (.inl v) :=
  good_val hrefl hg fun a w hC hh => by
    have h1 := hh x (by rw [ho]; simp [Op.operands])
    have h2 := hh y (by rw [ho]; simp [Op.operands])
    rw [hx] at h1
    rw [hy] at h2
    simp only [Spec.ok] at h1 h2
    refine ⟨v, ?_, rfl⟩
    unfold execOp
    rw [ho]
    simp only [h1, h2, Sem.run_bind, he w, Result.andThen, h w, Sem.run_pure]
theorem good_un {op : UnOp} {ty : TypeId} {x : Operand} {vx v : Value} (hrefl : ∀ w, E w w) (ho : o.op = .unOp op ty x) (hg : guardV ops specs a0 o = some true)
    (hx : argS ops specs a0 x = .inl vx) (h : ∀ w, (Op.unary op vx).run P w = .ok v w) : GoodOp P ops specs a0 C E o (.inl v) :=
  good_val hrefl hg fun a w hC hh => by
    have h1 := hh x (by rw [ho]; simp [Op.operands])
    rw [hx] at h1
    simp only [Spec.ok] at h1
    refine ⟨v, ?_, rfl⟩
    unfold execOp
    rw [ho]
    simp only [h1, Sem.run_bind, Result.andThen, h w, Sem.run_pure]
theorem good_conv {src dst : TypeId} {x : Operand} {v : Value} (hrefl : ∀ w, E w w) (ho : o.op = .convert src dst x) (hg : guardV ops specs a0 o = some true)
    (h : ∀ u w, C w → (argS ops specs a0 x).ok u w → (convert src dst u).run P w = .ok v w) : GoodOp P ops specs a0 C E o (.inl v) :=
  good_val hrefl hg fun a w hC hh => by
    have h1 := h _ w hC (hh x (by rw [ho]; simp [Op.operands]))
    refine ⟨v, ?_, rfl⟩
    unfold execOp
    rw [ho]
    simp only [Sem.run_bind, Result.andThen, h1, Sem.run_pure]
theorem good_len {x : Operand} {ats : Array TypeId} {v : Value} (hrefl : ∀ w, E w w) (ho : o.op = .call { callee := .builtin .len, args := #[x], argTypes := ats }) (hg : guardV ops specs a0 o = some true)
    (h : ∀ u w, C w → (argS ops specs a0 x).ok u w → (Builtin.len_ ats o.type #[u]).run P w = .ok v w) : GoodOp P ops specs a0 C E o (.inl v) :=
  good_val hrefl hg fun a w hC hh => by
    have h1 := h _ w hC (hh x (by rw [ho]; simp [Op.operands, Call.operands]))
    refine ⟨v, ?_, rfl⟩
    unfold execOp
    rw [ho]
    simp only [resolve, invoke, builtin, Sem.run_bind, Sem.run_pure, Result.andThen, List.map_toArray, List.map_cons, List.map_nil, h1]
/-- A call of a function of the program's own. -/
theorem good_call {f : FuncId} {xs : Array Operand} {ats : Array TypeId} {fn : Func} {cd : Code} (hf : P.funcs[f]? = some fn) (hname : (fn.name == "runtime.NumGoroutine") = false) (hb : fn.body = some cd)
    (ho : o.op = .call { callee := .value (.func f), args := xs, argTypes := ats }) (hg : guardV ops specs a0 o = some true)
    (h : ∀ (a : Act) (w : World), C w → (∀ x ∈ xs, (argS ops specs a0 x).ok (a.eval x) w) → Calls P f (xs.map a.eval) w (fun e w' => ∃ v, e = .returned v ∧ s.ok v w' ∧ E w w' ∧ C w')) : GoodOp P ops specs a0 C E o s :=
  good_of hg fun Q a w hC hs => by
    have hc := h a w hC (fun x hx => hs x (by rw [ho]; simp [Op.operands, Call.operands, hx]))
    have hr : (execOp a.eval o).run P w = .ok (.enter f (xs.map a.eval)) w := by
      have e : execOp a.eval o = callFunc f (#[] ++ xs.map a.eval ++ #[]) := by unfold execOp; rw [ho]; rfl
      rw [e, run_enter hf hname hb]
      simp
    unfold Oper.wp
    rw [hr]
    refine Calls.mono hc fun e w' ⟨v, he, hv⟩ => ?_
    subst he
    exact ⟨v, rfl, hv⟩
theorem good_call2 {f : FuncId} {x y : Operand} {ats : Array TypeId} {fn : Func} {cd : Code} (hf : P.funcs[f]? = some fn) (hname : (fn.name == "runtime.NumGoroutine") = false) (hb : fn.body = some cd)
    (ho : o.op = .call { callee := .value (.func f), args := #[x, y], argTypes := ats }) (hg : guardV ops specs a0 o = some true)
    (h : ∀ (u u2 : Value) (w : World), C w → (argS ops specs a0 x).ok u w → (argS ops specs a0 y).ok u2 w → Calls P f #[u, u2] w (fun e w' => ∃ v, e = .returned v ∧ s.ok v w' ∧ E w w' ∧ C w')) : GoodOp P ops specs a0 C E o s :=
  good_call hf hname hb ho hg fun a w hC hs => by simpa using h _ _ w hC (hs x (by simp)) (hs y (by simp))
end
end Go.Proofs.YtnmonoafjijfhaaGreat.Rg
namespace Go.Proofs.YtnmonoafjijfhaaGreat.Rg
open Go Go.RowKit

/-- What is listed when the head is done. -/
def headDone (m n : Nat) : Array Bool := ((List.range m).map fun j => decide (j < n)).toArray

theorem cnt_none : ∀ n, cnt n (fun _ => false) = 0
  | 0 => rfl
  | n + 1 => by simp only [cnt]; rw [cnt_none n]; rfl

section
variable {P : Program} {ops : Array Oper} {specs : List Spec} {a0 : Act} {C : World → Prop} {E : World → World → Prop}

theorem headDone_of {listed : Array Bool} {n : Nat} (hsz : listed.size = ops.size) (h1 : ∀ j, j < n → listed.getD j true = true) (h2 : ∀ t, n ≤ t → t < ops.size → listed.getD t true = false) : listed = headDone ops.size n := by
  unfold headDone
  apply Array.ext
  · simp [hsz]
  · intro i hi hi'
    have hi2 : i < ops.size := by omega
    simp only [List.getElem_toArray, List.getElem_map, List.getElem_range]
    by_cases h : i < n
    · have := h1 i h
      simp [hi] at this
      simp [this, h]
    · have := h2 i (by omega) hi2
      simp [hi] at this
      simp [this, h]

/-- The guards of the head's operations stand in the head. -/
def guardsIn (l : List Oper) : Bool := l.all fun o => match o.guard with | none => true | some (g, _) => decide (g < l.length)
theorem wanted_same {hops : Array Oper} {o : Oper} {n : Nat} (tmps : Array Value) (hg : ∀ g b, o.guard = some (g, b) → g < n) (hsub : ∀ i, i < n → hops[i]? = ops[i]?) : Region.wanted o (yielded ops tmps) = Region.wanted o (yielded hops tmps) := by
  unfold Region.wanted
  split
  · rfl
  · rename_i j want h
    have := hsub j (hg j want h)
    unfold yielded
    rw [this]
theorem Inv.sees' {hops : Array Oper} {listed : Array Bool} {a : Act} {w : World} {n i : Nat} {o : Oper} (h : Inv hops specs a0 C listed a w) (hs : sound hops n = true) (ho : hops[i]? = some o) (hall : ∀ e ∈ o.after, Region.binds .any e = true → listed.getD e.on false = true) :
    ∀ t ∈ o.looksAt hops, (slotS hops specs a0 t).ok (a.eval (.tmp t)) w := by
  intro t ht
  unfold slotS
  cases hw : writer hops t with
  | none =>
    simp only [Spec.ok, Act.eval]
    have := h.slot t (by simp [hw])
    simp [Array.getD_eq_getD_getElem?, this]
  | some j =>
    obtain ⟨e, he, hb, hj⟩ := (sound_at hs ho).2.1 t ht j hw
    have hl := hall e he hb
    rw [hj] at hl
    obtain ⟨v, hv, hk⟩ := h.done t j hw hl
    simp only [Act.eval, Array.getD_eq_getD_getElem?, hv]
    exact hk
theorem head_listed {hops : Array Oper} {listed : Array Bool} {m n : Nat} (hs : sound hops m = true) (hsub : ∀ i, i < n → hops[i]? = ops[i]?) (hn : n ≤ ops.size) (hr : Region.ready .any ops listed = []) (hsz : listed.size = ops.size) : ∀ j, j < n → listed.getD j false = true := by
  intro j
  induction j using Nat.strongRecOn with
  | _ j ih =>
    intro hj
    have hj2 : j < ops.size := by omega
    cases hl : listed.getD j false with
    | true => rfl
    | false =>
      have ho : ops[j]? = some ops[j] := Array.getElem?_eq_getElem hj2
      have : j ∈ Region.ready .any ops listed := by
        rw [mem_ready]
        refine ⟨?_, ops[j], ho, fun e he hb => ?_⟩
        · have hj' : j < listed.size := by omega
          simp [hj'] at hl ⊢
          exact hl
        · have := (sound_at hs (i := j) (o := ops[j]) (by rw [hsub j hj]; exact ho)).1 e he hb
          exact ih e.on this (by omega)
      rw [hr] at this
      cases this

theorem rows_tail {Q : Exit → Act → World → Prop} {n : Nat} {t : List Oper} {hops : Array Oper} (hs : sound hops a0.tmps.size = true) (hsub : ∀ i, i < n → hops[i]? = ops[i]?) (hgi : ∀ i o g b, i < n → ops[i]? = some o → o.guard = some (g, b) → g < n)
    (hst : ∀ (j : Nat) (v : Value) (w w' : World), ((specs[j]?).getD (.inl undef)).ok v w → E w w' → ((specs[j]?).getD (.inl undef)).ok v w') (hrefl : ∀ w, E w w)
    (hsink : Region.sinkB .any ops n = true) (hchain : Region.chainB .any ops n = true) (hn : n < ops.size)
    (ht : ∀ j, t[j]? = ops[n + j]?) (hseq : Region.seqB .any ops t.length n (headDone ops.size n) = true)
    (hG : ∀ (i : Nat) (o : Oper), i < n → ops[i]? = some o → GoodOp P hops specs a0 C E o ((specs[i]?).getD (.inl undef)))
    (hF : ∀ (listed : Array Bool) (a : Act) (w : World), Inv hops specs a0 C listed a w → (∀ j, j < n → listed.getD j false = true) → wpList P ops Q t a w) :
    ∀ (fuel : Nat) (listed : Array Bool) (a : Act) (w : World), Inv hops specs a0 C listed a w → HeadInv .any ops n listed → cnt n (fun j => !listed.getD j true) = fuel → wpAny P .any ops Q (fuel + t.length) listed a w
  | 0, listed, a, w, h, hh, hc => by
    rw [Nat.zero_add]
    have h1 : ∀ j, j < n → listed.getD j true = true := fun j hj => by
      have := cnt_zero _ _ hc j hj
      simpa using this
    have h1' : ∀ j, j < n → listed.getD j false = true := fun j hj => by
      have := h1 j hj
      have hj' : j < listed.size := by rw [hh.size]; omega
      simp [hj'] at this ⊢
      exact this
    have he := headDone_of hh.size h1 hh.tail
    exact wpAny_of_seq t n listed a w ht (by rw [he]; exact hseq) (hF listed a w h h1')
  | fuel + 1, listed, a, w, h, hh, hc => by
    have hex : ∃ i, i < n ∧ listed.getD i true = false := by
      refine Classical.byContradiction fun hno => ?_
      have : cnt n (fun j => !listed.getD j true) = 0 := by
        rw [cnt_same n _ (fun _ => false) (fun j hj => ?_)]
        · exact cnt_none n
        · cases hl : listed.getD j true with
          | true => rfl
          | false => exact absurd ⟨j, hj, hl⟩ hno
      omega
    obtain ⟨i0, hi0, hun⟩ := hex
    rw [show fuel + 1 + t.length = (fuel + t.length) + 1 by omega]
    refine ⟨fun hr => ?_, fun i hi => ?_⟩
    · have := head_listed hs hsub (Nat.le_of_lt hn) hr hh.size i0 hi0
      rw [getD_both hun] at this
      cases this
    · have hin : i < n := by
        rcases Nat.lt_or_ge i n with h' | h'
        · exact h'
        · exact absurd hi (tail_waits hsink hchain hn hh _ i0 rfl hi0 hun i h')
      obtain ⟨h0, o, ho, hall⟩ := mem_ready.1 hi
      have hi2 : i < listed.size := by rw [hh.size]; omega
      have hho : hops[i]? = some o := by rw [hsub i hin]; exact ho
      have hnext : ∀ (v : Value) (w' : World), ((specs[i]?).getD (.inl undef)).ok v w' → E w w' → C w' → wpAny P .any ops Q (fuel + t.length) (listed.setIfInBounds i true) (a.put o.dst v) w' := by
        intro v w' hv hE hC
        refine rows_tail hs hsub hgi hst hrefl hsink hchain hn ht hseq hG hF fuel _ _ _ (h.step hs hho hi2 hst hE hC hv) (hh.set hi hin) ?_
        have hstep := cnt_step n (fun j => !listed.getD j true) (fun j => !(listed.setIfInBounds i true).getD j true) i hin (by simp [h0]) (by simp [hi2]) (fun j hj => by rw [getD_set_ne true (Ne.symm hj)])
        omega
      have hg := hG i o hin ho Q a w h.cls (h.sees' hs hho hall)
      rw [← wanted_same (ops := ops) (hops := hops) (n := n) a.tmps (fun g b => hgi i o g b hin ho) hsub] at hg
      unfold wpOp
      simp only [ho]
      split
      · rename_i hw
        refine .inl (Oper.wp_mono (fun a' w' hk => ?_) (hg.1 hw))
        obtain ⟨v, rfl, hv, hE, hC⟩ := hk
        exact hnext v w' hv hE hC
      · rename_i hw
        exact hnext undef w (hg.2 (by simpa using hw)) (hrefl w) h.cls

/-- **A REGION WHOSE ORDER IS OPEN UP TO ITS TAIL: THE HEAD BY ITS SENTENCES, THE TAIL IN ITS ORDER.** (The tail may write what the head reads.) -/
theorem wp_rows_tail {id : Nat} {Q : Exit → Act → World → Prop} {w : World} (l t : List Oper) {lt : List Oper} (hlt : lt = l ++ t) (specs : List Spec) (C : World → Prop) (E : World → World → Prop) (n : Nat) (hm : P.follows .mixedOrders = true)
    (hn : a0.tmps.size = n) (hsg : (sound l.toArray n && guardsIn l) = true) (hsink : Region.sinkB .any lt.toArray l.length = true) (hchain : Region.chainB .any lt.toArray l.length = true)
    (hpos : 0 < t.length) (hseq : Region.seqB .any lt.toArray t.length l.length (headDone lt.toArray.size l.length) = true) (hst : Stands E specs) (hrefl : ∀ w, E w w) (hC : C w.drew)
    (hG : Goods P l.toArray specs a0 C E l specs) (hF : ∀ w', C w' → later w' (fun a' => wpList P lt.toArray Q t a' w') l specs a0) : (Code.region id lt.toArray true).wp P Q a0 w := by
  subst hn
  simp only [Bool.and_eq_true] at hsg
  obtain ⟨hs, hgs⟩ := hsg
  have hsize : lt.toArray.size = l.length + t.length := by simp [hlt]
  have hat : ∀ i, i < l.length → lt.toArray[i]? = l[i]? := fun i hi => by simp [hlt, List.getElem?_append_left hi]
  refine wp_region_any hm ?_
  have hcnt : cnt l.length (fun j => !(Array.replicate lt.toArray.size false).getD j true) = l.length := cnt_all _ _ (fun j hj => by
    have : j < lt.toArray.size := by omega
    simp at this
    simp [this])
  have hinv : HeadInv .any lt.toArray l.length (Array.replicate lt.toArray.size false) := by
    refine ⟨by simp, fun j oj _ hl => ?_, fun t' h1 h2 => ?_⟩
    · rw [getD_replicate_false] at hl; cases hl
    · simp at h2; simp [h2]
  have := rows_tail (P := P) (ops := lt.toArray) (hops := l.toArray) (specs := specs) (a0 := a0) (C := C) (E := E) (Q := Q) (n := l.length) (t := t) hs (fun i hi => by rw [hat i hi]; simp) ?hgi (fun j v w w' => stands_at specs hst j v w w') hrefl hsink hchain (by omega)
    (fun j => by rw [hlt]; simp [List.getElem?_append_right]) hseq ?hgood ?hfin l.length (Array.replicate lt.toArray.size false) a0 w.drew ?hst0 hinv hcnt
  case hgi =>
    intro i o g b hi ho hgd
    rw [hat i hi] at ho
    have := List.all_eq_true.1 hgs o (List.mem_of_getElem? ho)
    rw [hgd] at this
    simpa using this
  case hgood =>
    intro i o hi ho
    rw [hat i hi] at ho
    obtain ⟨s, h1, h2⟩ := goods_at l specs hG i o ho
    rw [h1]
    exact h2
  case hfin =>
    intro listed a w' hI hall
    have hwr : ∀ o ∈ l, ∀ d, o.dst = some d → ∃ j, j < l.length ∧ writer l.toArray d = some j := fun o ho d hd => by
      obtain ⟨j, hj⟩ := List.getElem?_of_mem ho
      have hjl := (List.getElem?_eq_some_iff.1 hj).1
      exact ⟨j, hjl, ((sound_at hs (i := j) (o := o) (by simpa using hj)).2.2 d hd).2⟩
    have hfill : fill (fun t => a.tmps.getD t undef) l a0 = a := by
      have hz := fill_size (fun t => a.tmps.getD t undef) l a0
      refine act_ext (hz.2.trans hI.defers.symm) (hz.1.trans hI.size.symm) fun d hd => ?_
      rw [hz.1] at hd
      by_cases hw : ∃ o ∈ l, o.dst = some d
      · rw [fill_same _ l a0 d hd hw]
        obtain ⟨o, ho, hod⟩ := hw
        obtain ⟨j, hj, hwj⟩ := hwr o ho d hod
        obtain ⟨v, hv, _⟩ := hI.done d j hwj (hall j hj)
        simp [hv, Array.getD_eq_getD_getElem?]
      · rw [fill_other _ l a0 d (fun o ho hod => hw ⟨o, ho, hod⟩)]
        refine (hI.slot d fun j hj => ?_).symm
        obtain ⟨o, ho, hod⟩ := writer_some hj
        exact absurd ⟨o, List.mem_of_getElem? (by simpa using ho), hod⟩ hw
    have h := later_fill (w := w') (K := fun a' => wpList P lt.toArray Q t a' w') (fun t => a.tmps.getD t undef) l specs a0 (hF w' hI.cls) (fun j o d s ho hd hss => by
      have hjl := (List.getElem?_eq_some_iff.1 ho).1
      have hw := ((sound_at hs (i := j) (o := o) (by simpa using ho)).2.2 d hd).2
      obtain ⟨v, hv, hk⟩ := hI.done d j hw (hall j hjl)
      rw [hss] at hk
      simpa [hv, Array.getD_eq_getD_getElem?] using hk)
    rwa [hfill] at h
  case hst0 => exact ⟨hC, rfl, rfl, fun t _ => rfl, fun t j _ hl => by rw [getD_replicate_false] at hl; cases hl⟩
  rw [hsize] at this ⊢
  exact this

variable {o : Oper} {s : Spec}
theorem good_index {t : TypeId} {x i : Operand} {vx vi v : Value} (hrefl : ∀ w, E w w) (ho : o.op = .indexAddr t x i) (hg : guardV ops specs a0 o = some true)
    (hx : argS ops specs a0 x = .inl vx) (hi : argS ops specs a0 i = .inl vi) (h : ∀ w, C w → (Instr.indexAt t vx vi).run P w = .ok v w) : GoodOp P ops specs a0 C E o (.inl v) :=
  good_val hrefl hg fun a w hC hh => by
    have h1 := hh x (by rw [ho]; simp [Op.operands])
    have h2 := hh i (by rw [ho]; simp [Op.operands])
    rw [hx] at h1
    rw [hi] at h2
    simp only [Spec.ok] at h1 h2
    refine ⟨v, ?_, rfl⟩
    unfold execOp
    rw [ho]
    simp only [h1, h2, Sem.run_bind, Result.andThen, h w hC, Sem.run_pure]
theorem good_load {t : TypeId} {x : Operand} {vx v : Value} (hrefl : ∀ w, E w w) (ho : o.op = .load t x) (hg : guardV ops specs a0 o = some true)
    (hx : argS ops specs a0 x = .inl vx) (h : ∀ w, C w → (Instr.loadAt t vx).run P w = .ok v w) : GoodOp P ops specs a0 C E o (.inl v) :=
  good_val hrefl hg fun a w hC hh => by
    have h1 := hh x (by rw [ho]; simp [Op.operands])
    rw [hx] at h1
    simp only [Spec.ok] at h1
    refine ⟨v, ?_, rfl⟩
    unfold execOp
    rw [ho]
    simp only [h1, Sem.run_bind, Result.andThen, h w hC, Sem.run_pure]
end
end Go.Proofs.YtnmonoafjijfhaaGreat.Rg
