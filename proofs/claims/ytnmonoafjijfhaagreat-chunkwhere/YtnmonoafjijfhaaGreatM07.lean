/-
  A region whose order is open, that calls once and stores twice, the second store behind the first and both behind the call, where what reads the memory stands ahead of the call ('x, r.at, r.why = f(r.b, r.at)'): the call may make memory. And small laws: nil checks, parts of several results, worlds in which one block has turned.
-/
import Derived.Test.YtnmonoafjijfhaaGreatM06
import Derived.Deep.AppendLies
namespace Go.Proofs.YtnmonoafjijfhaaGreat
open Go.RowKit
set_option linter.unusedVariables false
set_option linter.unusedSimpArgs false
/-- A block that is written is the one that has grown. -/
theorem grown_set1 (w : World) (b i : Nat) (v : Value) : w.grownBy (w.setCell ⟨b, i, none⟩ v) (some b) :=
  ⟨rfl, rfl, rfl, by simp, fun k _ hne => Below.heap_setCell w _ v k (by intro e; exact hne (by rw [e]))⟩
theorem grown_tr {a b c : World} {row : Option Nat} (h : a.grownBy b row) (k : b.grownBy c row) : a.grownBy c row :=
  ⟨k.os.trans h.os, k.tape.trans h.tape, k.output.trans h.output, Nat.le_trans h.size k.size, fun j hj hn => by rw [k.block j (Nat.lt_of_lt_of_le hj h.size) hn]; exact h.block j hj hn⟩
theorem Ex.grownBy {a b : World} (h : Ex a b) (row : Option Nat) : a.grownBy b row := ⟨h.os, h.tape, h.output, h.size, fun k hk _ => h.block k hk⟩
/-- A block that is new to the first world may be written. -/
theorem grown_trN {a b c : World} {row row' : Option Nat} (h : a.grownBy b row) (k : b.grownBy c row') (hr : ∀ j, row' = some j → row = some j ∨ a.heap.size ≤ j) : a.grownBy c row :=
  ⟨k.os.trans h.os, k.tape.trans h.tape, k.output.trans h.output, Nat.le_trans h.size k.size, fun j hj hn => by
    rw [k.block j (Nat.lt_of_lt_of_le hj h.size) (fun e => by rcases hr j e.symm with h1 | h1; exact hn h1.symm; omega)]; exact h.block j hj hn⟩
/-- Bytes far from a block that has grown. -/
theorem byt_far {w w' : World} {a : Option Addr} {cap : Nat} {l : List UInt8} {row : Option Nat} (h : Byt w a cap l) (hg : w.grownBy w' row) (ha : 0 < l.length → ∀ b off, a = some ⟨b, off, none⟩ → row ≠ some b) : Byt w' a cap l := by
  refine ⟨h.1, h.2.1, h.2.2.1, fun i hi => ?_⟩
  obtain ⟨b, off, e, hc⟩ := h.2.2.2 i hi
  refine ⟨b, off, e, ?_⟩
  rw [hg.cell_far ⟨b, off + i, none⟩ (World.block_lt_of_cell? w _ hc) (Ne.symm (ha (by omega) b off e))]
  exact hc
theorem Rg.good_nil {P : Program} {ops : Array Oper} {specs : List Rg.Spec} {a0 : Act} {C : World → Prop} {E : World → World → Prop} {o : Oper} {x : Operand} {q : Addr} (hrefl : ∀ w, E w w) (ho : o.op = .nilCheck x) (hg : Rg.guardV ops specs a0 o = some true)
    (hx : Rg.argS ops specs a0 x = .inl (.pointer (some q))) : Rg.GoodOp P ops specs a0 C E o (.inl (.pointer (some q))) :=
  Rg.good_val hrefl hg fun a w hC hh => by
    have h1 := hh x (by rw [ho]; simp [Op.operands])
    rw [hx] at h1
    simp only [Rg.Spec.ok] at h1
    refine ⟨.pointer (some q), ?_, rfl⟩
    unfold execOp
    rw [ho]
    simp only [h1]
    rfl
theorem Rg.good_extract {P : Program} {ops : Array Oper} {specs : List Rg.Spec} {a0 : Act} {C : World → Prop} {E : World → World → Prop} {o : Oper} {x : Operand} {k : Nat} {vs : Array Value} {v : Value} (hrefl : ∀ w, E w w) (ho : o.op = .extract x k) (hg : Rg.guardV ops specs a0 o = some true)
    (hx : Rg.argS ops specs a0 x = .inl (.tuple vs)) (hv : vs[k]? = some v) : Rg.GoodOp P ops specs a0 C E o (.inl v) :=
  Rg.good_val hrefl hg fun a w hC hh => by
    have h1 := hh x (by rw [ho]; simp [Op.operands])
    rw [hx] at h1
    simp only [Rg.Spec.ok] at h1
    refine ⟨v, ?_, rfl⟩
    unfold execOp
    rw [ho]
    simp only [h1, Instr.extract, hv]
    rfl
namespace Rg.Fr
section
variable {P : Program} {ops : Array Oper} {specs : List Spec} {a0 : Act} {C : World → Prop} {V : (Nat → Bool) → Act → World → Prop} {E : World → World → Prop}
theorem rows_moreE {Q : Exit → Act → World → Prop} (hs : sound ops a0.tmps.size = true)
    (hst : ∀ (j : Nat) (v : Value) (w w' : World), ((specs[j]?).getD (.inl undef)).ok v w → E w w' → ((specs[j]?).getD (.inl undef)).ok v w')
    (hng : ∀ (i : Nat) (o : Oper), ops[i]? = some o → o.guard = none)
    (hG : ∀ (i : Nat) (o : Oper) (L : Nat → Bool) (a : Act) (w : World), ops[i]? = some o → L i = false → (∀ e ∈ o.after, Region.binds .any e = true → L e.on = true) → a.tmps.size = a0.tmps.size → C w → (∀ x ∈ o.op.operands, (argS ops specs a0 x).ok (a.eval x) w) → V L a w →
      o.wp P a w (fun a' w' => ∃ v, a' = a.put o.dst v ∧ ((specs[i]?).getD (.inl undef)).ok v w' ∧ E w w' ∧ C w' ∧ V (upd i L) (a.put o.dst v) w') Q)
    (hF : ∀ (listed : Array Bool) (a : Act) (w : World), Inv ops specs a0 C listed a w → V (lst listed) a w → (∀ j, j < ops.size → listed.getD j false = true) → Q .normal a w) :
    ∀ (fuel : Nat) (listed : Array Bool) (a : Act) (w : World), Inv ops specs a0 C listed a w → V (lst listed) a w → listed.size = ops.size → cnt ops.size (fun j => !listed.getD j true) = fuel → wpAny P .any ops Q fuel listed a w
  | 0, listed, a, w, h, hv, hsz, hc => by
    have hall : ∀ j, j < ops.size → listed.getD j false = true := fun j hj => by
      have := cnt_zero _ _ hc j hj
      have hj' : j < listed.size := by omega
      simp [hj'] at this ⊢
      exact this
    refine ⟨?_, hF listed a w h hv hall⟩
    cases hr : Region.ready .any ops listed with
    | nil => rfl
    | cons x xs =>
      have hx : x ∈ Region.ready .any ops listed := by rw [hr]; simp
      obtain ⟨h0, o, ho, _⟩ := mem_ready.1 hx
      have hx' : x < ops.size := (Array.getElem?_eq_some_iff.1 ho).1
      have h1 := hall x hx'
      have hx2 : x < listed.size := by omega
      simp [hx2] at h0 h1
      rw [h0] at h1
      cases h1
  | fuel + 1, listed, a, w, h, hv, hsz, hc => by
    refine ⟨fun hr => hF listed a w h hv (all_listed hs hr hsz), fun i hi => ?_⟩
    have hi0 := hi
    obtain ⟨h0, o, ho, hall⟩ := mem_ready.1 hi
    have hi' : i < ops.size := (Array.getElem?_eq_some_iff.1 ho).1
    have hi2 : i < listed.size := by omega
    have hnl : lst listed i = false := by unfold lst; simp [hi2] at h0 ⊢; exact h0
    have hsees := h.sees hs ho hi
    have hw : Region.wanted o (yielded ops a.tmps) = true := by simp [Region.wanted, hng i o ho]
    unfold wpOp
    simp only [ho]
    rw [if_pos hw]
    refine .inl (Oper.wp_mono (fun a' w' hk => ?_) (hG i o (lst listed) a w ho hnl hall h.size h.cls (fun x hx => arg_ok hx hsees) hv))
    obtain ⟨v, rfl, hok, hE, hC, hV⟩ := hk
    refine rows_moreE hs hst hng hG hF fuel _ _ _ (h.step (E := E) hs ho hi2 hst hE hC hok) (by rw [lst_set hi2]; exact hV) (by simp; exact hsz) ?_
    have hstep := cnt_step ops.size (fun j => !listed.getD j true) (fun j => !(listed.setIfInBounds i true).getD j true) i hi' (by simp [h0]) (by simp [hi2]) (fun j hj => by rw [getD_set_ne true (Ne.symm hj)])
    omega
end
theorem wp_rows_freeE {id : Nat} {Q : Exit → Act → World → Prop} {w : World} {l : List Oper} {a0 : Act} (V : (Nat → Bool) → Act → World → Prop) (C : World → Prop) (E : World → World → Prop) (specs : List Spec) (n : Nat) (hm : Tryz.prog.follows .mixedOrders = true)
    (hn : a0.tmps.size = n) (hs : sound l.toArray n = true) (hst : Stands E specs) (hng : l.all (fun o => o.guard.isNone) = true)
    (hC : C w.drew) (hV : V (fun _ => false) a0 w.drew)
    (hG : ∀ (i : Nat) (o : Oper) (L : Nat → Bool) (a : Act) (w' : World), l[i]? = some o → L i = false → (∀ e ∈ o.after, Region.binds .any e = true → L e.on = true) → a.tmps.size = n → C w' → (∀ x ∈ o.op.operands, (argS l.toArray specs a0 x).ok (a.eval x) w') → V L a w' →
      o.wp Tryz.prog a w' (fun a' w2 => ∃ v, a' = a.put o.dst v ∧ ((specs[i]?).getD (.inl undef)).ok v w2 ∧ E w' w2 ∧ C w2 ∧ V (upd i L) (a.put o.dst v) w2) Q)
    (hF : ∀ (w' : World), C w' → later w' (fun a' => (∃ L, (∀ j, j < l.length → L j = true) ∧ V L a' w') → Q .normal a' w') l specs a0) : (Code.region id l.toArray true).wp Tryz.prog Q a0 w := by
  subst hn
  refine wp_region_any hm (rows_moreE (specs := specs) (a0 := a0) (C := C) (V := V) (E := E) hs (fun j v w w' h hE => stands_at specs hst j v w w' h hE) (fun i o ho => ?_) (fun i o L a w' ho => hG i o L a w' (by simpa using ho)) ?_ _ _ _ _ ?_ ?_ (by simp) ?_)
  · have := List.all_eq_true.1 hng o (List.mem_of_getElem? (by simpa using ho))
    simpa using this
  · intro listed a w' hI hV hall
    have hfill : fill (fun t => a.tmps.getD t undef) l a0 = a := by
      have hz := fill_size (fun t => a.tmps.getD t undef) l a0
      refine act_ext (hz.2.trans hI.defers.symm) (hz.1.trans hI.size.symm) fun t ht => ?_
      rw [hz.1] at ht
      cases hw : writer l.toArray t with
      | none =>
        rw [fill_other _ l a0 t (fun o ho => by
          obtain ⟨j, hj⟩ := List.getElem?_of_mem ho
          exact writer_none hw j o (by simpa using hj))]
        exact (hI.slot t (by simp [hw])).symm
      | some j =>
        obtain ⟨o, ho, hd⟩ := writer_some hw
        have hmem : o ∈ l := List.mem_of_getElem? (by simpa using ho)
        rw [fill_same _ l a0 t ht ⟨o, hmem, hd⟩]
        obtain ⟨v, hv, _⟩ := hI.done t j hw (hall j (Array.getElem?_eq_some_iff.1 ho).1)
        simp [hv, Array.getD_eq_getD_getElem?]
    have h := later_fill (w := w') (K := fun a' => (∃ L, (∀ j, j < l.length → L j = true) ∧ V L a' w') → Q .normal a' w') (fun t => a.tmps.getD t undef) l specs a0 (hF w' hI.cls) (fun j o d s ho hd hss => by
      have hw := ((sound_at hs (i := j) (o := o) (by simpa using ho)).2.2 d hd).2
      obtain ⟨v, hv, hk⟩ := hI.done d j hw (hall j (by simpa using (List.getElem?_eq_some_iff.1 ho).1))
      rw [hss] at hk
      simpa [hv, Array.getD_eq_getD_getElem?] using hk)
    rw [hfill] at h
    exact h ⟨lst listed, fun j hj => hall j (by simpa using hj), hV⟩
  · refine ⟨hC, rfl, rfl, fun t _ => rfl, fun t j _ hl => ?_⟩
    have : (Array.replicate l.toArray.size false).getD j false = false := by
      rw [Array.getD_eq_getD_getElem?, Array.getElem?_replicate]
      split <;> rfl
    rw [this] at hl
    cases hl
  · have hr : lst (Array.replicate l.toArray.size false) = fun _ => false := by
      funext j
      unfold lst
      rw [Array.getD_eq_getD_getElem?, Array.getElem?_replicate]
      split <;> rfl
    rw [hr]
    exact hV
  · exact cnt_all _ _ (fun j hj => by simp at hj; simp [hj])
/-- Each operation but those at c, x and y has its sentence; those of R in the first world alone. -/
def GoodsCall (ops : Array Oper) (specs : List Spec) (a0 : Act) (C : World → Prop) (c x y : Nat) (R : List Nat) : Nat → List Oper → List Spec → Prop
  | _, [], [] => True
  | k, o :: os, s :: ss => (k ≠ c → k ≠ x → k ≠ y → GoodOp Tryz.prog ops specs a0 (fun w => k ∈ R → C w) (fun w w' => w' = w) o s) ∧ GoodsCall ops specs a0 C c x y R (k + 1) os ss
  | _, _, _ => False
theorem gcall_at {ops : Array Oper} {specs : List Spec} {a0 : Act} {C : World → Prop} {c x y : Nat} {R : List Nat} : ∀ (os : List Oper) (ss : List Spec) (k : Nat), GoodsCall ops specs a0 C c x y R k os ss → ∀ (i : Nat) (o : Oper), os[i]? = some o → k + i ≠ c → k + i ≠ x → k + i ≠ y →
    ∃ s, ss[i]? = some s ∧ GoodOp Tryz.prog ops specs a0 (fun w => (k + i) ∈ R → C w) (fun w w' => w' = w) o s
  | [], _, _, _, i, o, h, _, _, _ => by simp at h
  | _ :: _, [], _, h, _, _, _, _, _, _ => h.elim
  | o :: os, s :: ss, k, h, 0, o', ho, hk, hk2, hk3 => by simp at ho; subst ho; exact ⟨s, rfl, h.1 (by omega) (by omega) (by omega)⟩
  | o :: os, s :: ss, k, h, i + 1, o', ho, hk, hk2, hk3 => by
    obtain ⟨s', h1, h2⟩ := gcall_at os ss (k + 1) h.2 i o' (by simpa using ho) (by omega) (by omega) (by omega)
    rw [show k + (i + 1) = k + 1 + i by omega]
    exact ⟨s', by simpa using h1, h2⟩
theorem gcall_len {ops : Array Oper} {specs : List Spec} {a0 : Act} {C : World → Prop} {c x y : Nat} {R : List Nat} : ∀ (os : List Oper) (ss : List Spec) (k : Nat), GoodsCall ops specs a0 C c x y R k os ss → os.length ≤ ss.length
  | [], _, _, _ => by simp
  | _ :: _, [], _, h => h.elim
  | o :: os, s :: ss, k, h => by have := gcall_len os ss (k + 1) h.2; simp; omega
theorem wp_call2 {id : Nat} {Q : Exit → Act → World → Prop} {w : World} {l : List Oper} {a0 : Act} (c x y : Nat) (hcx : c ≠ x) (hcy : c ≠ y) (hxy : x ≠ y) (E : World → World → Prop) (P1 P2 P3 : World → Prop) (R : List Nat) (specs : List Spec) (n : Nat) (hm : Tryz.prog.follows .mixedOrders = true) (hn : a0.tmps.size = n) (hs : sound l.toArray n = true) (hng : l.all (fun o => o.guard.isNone) = true)
    (hst : Stands E specs) (hrefl : ∀ w, E w w) (oc ox oy : Oper) (lc : l[c]? = some oc) (lx : l[x]? = some ox) (ly : l[y]? = some oy) (hd : oy.after.any (fun e => Region.binds .any e && e.on == x) = true) (hdc : ox.after.any (fun e => Region.binds .any e && e.on == c) = true) (hR : R.all (fun i => oc.after.any (fun e => Region.binds .any e && e.on == i)) = true)
    (tx : (specs[x]?).getD (.inl undef) = .inl undef) (ty : (specs[y]?).getD (.inl undef) = .inl undef)
    (f : FuncId) (fn : Func) (cd : Code) (xs : Array Operand) (ats : Array TypeId) (hf : Tryz.prog.funcs[f]? = some fn) (hname : (fn.name == "runtime.NumGoroutine") = false) (hb : fn.body = some cd) (hoc : oc.op = .call { callee := .value (.func f), args := xs, argTypes := ats })
    (rc : ∀ (ρ : Operand → Value), (∀ z ∈ xs, (argS l.toArray specs a0 z).ok (ρ z) w.drew) → Calls Tryz.prog f (xs.map ρ) w.drew (fun e w' => ∃ v, e = .returned v ∧ ((specs[c]?).getD (.inl undef)).ok v w' ∧ E w.drew w' ∧ P1 w'))
    (rx : ∀ (ρ : Operand → Value) (w' : World), P1 w' → (∀ z ∈ ox.op.operands, (argS l.toArray specs a0 z).ok (ρ z) w') → ∃ w2, (execOp ρ ox).run Tryz.prog w' = .ok .skip w2 ∧ E w' w2 ∧ P2 w2)
    (ry : ∀ (ρ : Operand → Value) (w' : World), P2 w' → (∀ z ∈ oy.op.operands, (argS l.toArray specs a0 z).ok (ρ z) w') → ∃ w2, (execOp ρ oy).run Tryz.prog w' = .ok .skip w2 ∧ E w' w2 ∧ P3 w2)
    (hG : GoodsCall l.toArray specs a0 (fun w' => w' = w.drew) c x y R 0 l specs)
    (hF : ∀ w', P3 w' → later w' (fun a' => Q .normal a' w') l specs a0) : (Code.region id l.toArray true).wp Tryz.prog Q a0 w := by
  refine wp_rows_freeE (fun L _ w' => (L y = true → L x = true) ∧ (L x = true → L c = true) ∧ (L c = true → ∀ i ∈ R, L i = true) ∧ (L c = false → w' = w.drew) ∧ (L c = true → L x = false → P1 w') ∧ (L x = true → L y = false → P2 w') ∧ (L y = true → P3 w')) (fun _ => True) E specs n hm hn hs hst hng trivial ⟨fun h => (by cases h), fun h => (by cases h), fun h => (by cases h), fun _ => rfl, fun h => (by cases h), fun h => (by cases h), fun h => (by cases h)⟩ ?_ ?_
  · intro i o L a w' ho hL hdep hsz _ hargs hV
    obtain ⟨v1, v2, v3, v4, v5, v6, v7⟩ := hV
    by_cases hic : i = c
    · subst hic
      rw [lc] at ho
      cases ho
      have hw := v4 hL
      subst hw
      have hx0 : L x = false := by
        cases e : L x with
        | false => rfl
        | true => rw [v2 e] at hL; cases hL
      have hy0 : L y = false := by
        cases e : L y with
        | false => rfl
        | true => rw [v1 e] at hx0; cases hx0
      have hc := rc a.eval (fun z hz => hargs z (by rw [hoc]; simp [Op.operands, Call.operands, hz]))
      have hr : (execOp a.eval oc).run Tryz.prog w.drew = .ok (.enter f (xs.map a.eval)) w.drew := by
        have e : execOp a.eval oc = callFunc f (#[] ++ xs.map a.eval ++ #[]) := by unfold execOp; rw [hoc]; rfl
        rw [e, run_enter hf hname hb]
        simp
      unfold Oper.wp
      rw [hr]
      refine Calls.mono hc fun e w2 ⟨v, he, hv, hE, hP⟩ => ?_
      subst he
      refine ⟨v, rfl, hv, hE, trivial, fun h => ?_, fun h => ?_, fun _ j hj => ?_, fun h => (by rw [upd_self'] at h; cases h), fun _ _ => hP, fun h => ?_, fun h => ?_⟩
      · rw [upd_ne' hcy, hy0] at h; cases h
      · exact upd_self' _ _
      · have h1 := dep_of (List.all_eq_true.1 hR j hj) hdep
        unfold upd
        split
        · rfl
        · exact h1
      · rw [upd_ne' hcx, hx0] at h; cases h
      · rw [upd_ne' hcy, hy0] at h; cases h
    by_cases hix : i = x
    · subst hix
      rw [lx] at ho
      cases ho
      have hc1 := dep_of hdc hdep
      have hy0 : L y = false := by
        cases e : L y with
        | false => rfl
        | true => rw [v1 e] at hL; cases hL
      obtain ⟨w2, hr, hE, hP⟩ := rx a.eval w' (v5 hc1 hL) hargs
      refine wp_skip hr ⟨undef, rfl, by rw [tx]; rfl, hE, trivial, fun _ => upd_self' _ _, fun _ => ?_, fun _ j hj => ?_, fun h => ?_, fun _ h => (by rw [upd_self'] at h; cases h), fun _ _ => hP, fun h => ?_⟩
      · rw [upd_ne' (Ne.symm hcx)]; exact hc1
      · unfold upd
        split
        · rfl
        · exact v3 hc1 j hj
      · rw [upd_ne' (Ne.symm hcx), hc1] at h; cases h
      · rw [upd_ne' hxy, hy0] at h; cases h
    by_cases hiy : i = y
    · subst hiy
      rw [ly] at ho
      cases ho
      have hx1 := dep_of hd hdep
      have hc1 := v2 hx1
      obtain ⟨w2, hr, hE, hP⟩ := ry a.eval w' (v6 hx1 hL) hargs
      refine wp_skip hr ⟨undef, rfl, by rw [ty]; rfl, hE, trivial, fun _ => ?_, fun _ => ?_, fun _ j hj => ?_, fun h => ?_, fun _ h => ?_, fun _ h => (by rw [upd_self'] at h; cases h), fun _ => hP⟩
      · rw [upd_ne' (Ne.symm hxy)]; exact hx1
      · rw [upd_ne' (Ne.symm hcy)]; exact hc1
      · unfold upd
        split
        · rfl
        · exact v3 hc1 j hj
      · rw [upd_ne' (Ne.symm hcy), hc1] at h; cases h
      · rw [upd_ne' (Ne.symm hxy), hx1] at h; cases h
    obtain ⟨s, hss, hg⟩ := gcall_at l specs 0 hG i o ho (by omega) (by omega) (by omega)
    have hgn : o.guard = none := by
      have := List.all_eq_true.1 hng o (List.mem_of_getElem? ho)
      simpa using this
    have hlk : ∀ t ∈ o.looksAt l.toArray, (slotS l.toArray specs a0 t).ok (a.eval (.tmp t)) w' := by
      intro t ht
      unfold Oper.looksAt at ht
      rw [hgn] at ht
      simp only [List.append_nil, List.mem_filterMap] at ht
      obtain ⟨y', hy, he⟩ := ht
      cases y' with
      | tmp t' =>
        simp only [Option.some.injEq] at he
        subst he
        exact hargs (.tmp t') (by simpa using hy)
      | const _ => simp at he
      | global _ => simp at he
      | func _ => simp at he
    have hwant : Region.wanted o (yielded l.toArray a.tmps) = true := by unfold Region.wanted; rw [hgn]
    have hC : 0 + i ∈ R → w' = w.drew := fun hi => v4 (by
      cases e : L c with
      | false => rfl
      | true => rw [Nat.zero_add] at hi; rw [v3 e i hi] at hL; cases hL)
    refine Oper.wp_mono (fun a' w3 hk => ?_) ((hg Q a w' hC hlk).1 hwant)
    obtain ⟨v, h1, h2, h3, h4⟩ := hk
    subst h3
    refine ⟨v, h1, by rw [hss]; exact h2, hrefl _, trivial, ?_⟩
    rw [upd_ne' hic, upd_ne' hix, upd_ne' hiy]
    refine ⟨v1, v2, fun hc j hj => ?_, v4, v5, v6, v7⟩
    unfold upd
    split
    · rfl
    · exact v3 hc j hj
  · intro w' _
    by_cases e : P3 w'
    · exact later_mono (fun a h _ => h) _ _ _ (hF w' e)
    · refine later_all ?_ _ _ _ (gcall_len l specs 0 hG)
      rintro a ⟨L, hall, h1, h2, h3, h4, h5, h6, h7⟩
      exact absurd (h7 (hall y (List.getElem?_eq_some_iff.1 ly).1)) e
end Rg.Fr
end Go.Proofs.YtnmonoafjijfhaaGreat
