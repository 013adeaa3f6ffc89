/-
  A region whose order is open, by what is so of each listing: beside each operation's own sentence one more sentence, over what is listed.
-/
import Derived.Test.YtaehchaimlklnaaTail
import Derived.Test.YtaehchaimlklnaaBytes

namespace Go.Proofs.Ytaehchaimlklnaa
open Go.RowKit
set_option linter.unusedVariables false
set_option linter.unusedSimpArgs false
namespace Rg
theorem getD_set {l : Array Bool} {i j : Nat} (hi : i < l.size) : (l.setIfInBounds i true).getD j false = if i = j then true else l.getD j false := by
  by_cases h : i = j
  · subst h; simp [hi]
  · rw [if_neg h, getD_set_ne false h]
abbrev upd (i : Nat) (L : Nat → Bool) : Nat → Bool := fun j => if i = j then true else L j
def lst (listed : Array Bool) : Nat → Bool := fun j => listed.getD j false
theorem lst_set {l : Array Bool} {i : Nat} (hi : i < l.size) : lst (l.setIfInBounds i true) = upd i (lst l) := by
  funext j
  exact getD_set hi
section
variable {P : Program} {ops : Array Oper} {specs : List Spec} {a0 : Act} {C : World → Prop} {V : (Nat → Bool) → Act → World → Prop}
theorem rows_more {Q : Exit → Act → World → Prop} (hs : sound ops a0.tmps.size = true)
    (hst : ∀ (j : Nat) (v : Value) (w w' : World), ((specs[j]?).getD (.inl undef)).ok v w → ((specs[j]?).getD (.inl undef)).ok v w')
    (hng : ∀ (i : Nat) (o : Oper), ops[i]? = some o → o.guard = none)
    (hG : ∀ (i : Nat) (o : Oper) (L : Nat → Bool) (a : Act) (w : World), ops[i]? = some o → L i = false → (∀ e ∈ o.after, Region.binds .any e = true → L e.on = true) → a.tmps.size = a0.tmps.size → C w → (∀ x ∈ o.op.operands, (argS ops specs a0 x).ok (a.eval x) w) → V L a w →
      o.wp P a w (fun a' w' => ∃ v, a' = a.put o.dst v ∧ ((specs[i]?).getD (.inl undef)).ok v w' ∧ C w' ∧ V (upd i L) (a.put o.dst v) w') Q)
    (hF : ∀ (listed : Array Bool) (a : Act) (w : World), Inv ops specs a0 C listed a w → V (lst listed) a w → (∀ j, j < ops.size → listed.getD j false = true) → Q .normal a w) :
    ∀ (fuel : Nat) (listed : Array Bool) (a : Act) (w : World), Inv ops specs a0 C listed a w → V (lst listed) a w → listed.size = ops.size → cnt ops.size (fun j => !listed.getD j true) = fuel → wpAny P .any ops Q fuel listed a w
  | 0, listed, a, w, h, hv, hsz, hc => by
    have hall : ∀ j, j < ops.size → listed.getD j false = true := fun j hj => by
      have := cnt_zero _ _ hc j hj
      have hj' : j < listed.size := by omega
      simp [hj'] at this ⊢
      exact this
    refine ⟨?_, hF listed a w h hv hall⟩
    cases hr : Region.ready .any ops listed with
    | nil => rfl
    | cons x xs =>
      have hx : x ∈ Region.ready .any ops listed := by rw [hr]; simp
      obtain ⟨h0, o, ho, _⟩ := mem_ready.1 hx
      have hx' : x < ops.size := (Array.getElem?_eq_some_iff.1 ho).1
      have h1 := hall x hx'
      have hx2 : x < listed.size := by omega
      simp [hx2] at h0 h1
      rw [h0] at h1
      cases h1
  | fuel + 1, listed, a, w, h, hv, hsz, hc => by
    refine ⟨fun hr => hF listed a w h hv (all_listed hs hr hsz), fun i hi => ?_⟩
    have hi0 := hi
    obtain ⟨h0, o, ho, hall⟩ := mem_ready.1 hi
    have hi' : i < ops.size := (Array.getElem?_eq_some_iff.1 ho).1
    have hi2 : i < listed.size := by omega
    have hnl : lst listed i = false := by unfold lst; simp [hi2] at h0 ⊢; exact h0
    have hsees := h.sees hs ho hi
    have hw : Region.wanted o (yielded ops a.tmps) = true := by simp [Region.wanted, hng i o ho]
    unfold wpOp
    simp only [ho]
    rw [if_pos hw]
    refine .inl (Oper.wp_mono (fun a' w' hk => ?_) (hG i o (lst listed) a w ho hnl hall h.size h.cls (fun x hx => arg_ok hx hsees) hv))
    obtain ⟨v, rfl, hok, hC, hV⟩ := hk
    refine rows_more hs hst hng hG hF fuel _ _ _ (h.step (E := fun _ _ => True) hs ho hi2 (fun j v w w' h1 _ => hst j v w w' h1) trivial hC hok) (by rw [lst_set hi2]; exact hV) (by simp; exact hsz) ?_
    have hstep := cnt_step ops.size (fun j => !listed.getD j true) (fun j => !(listed.setIfInBounds i true).getD j true) i hi' (by simp [h0]) (by simp [hi2]) (fun j hj => by rw [getD_set_ne true (Ne.symm hj)])
    omega
end
theorem wp_rows_free {id : Nat} {Q : Exit → Act → World → Prop} {w : World} {l : List Oper} {a0 : Act} (V : (Nat → Bool) → Act → World → Prop) (C : World → Prop) (specs : List Spec) (n : Nat) (hm : Try.prog.follows .mixedOrders = true)
    (hn : a0.tmps.size = n) (hs : sound l.toArray n = true) (hst : Stands (fun _ _ => True) specs) (hng : l.all (fun o => o.guard.isNone) = true)
    (hC : C w.drew) (hV : V (fun _ => false) a0 w.drew)
    (hG : ∀ (i : Nat) (o : Oper) (L : Nat → Bool) (a : Act) (w' : World), l[i]? = some o → L i = false → (∀ e ∈ o.after, Region.binds .any e = true → L e.on = true) → a.tmps.size = n → C w' → (∀ x ∈ o.op.operands, (argS l.toArray specs a0 x).ok (a.eval x) w') → V L a w' →
      o.wp Try.prog a w' (fun a' w2 => ∃ v, a' = a.put o.dst v ∧ ((specs[i]?).getD (.inl undef)).ok v w2 ∧ C w2 ∧ V (upd i L) (a.put o.dst v) w2) Q)
    (hF : ∀ (w' : World), C w' → later w' (fun a' => (∃ L, (∀ j, j < l.length → L j = true) ∧ V L a' w') → Q .normal a' w') l specs a0) : (Code.region id l.toArray true).wp Try.prog Q a0 w := by
  subst hn
  refine wp_region_any hm (rows_more (specs := specs) (a0 := a0) (C := C) (V := V) hs (fun j v w w' h => stands_at specs hst j v w w' h trivial) (fun i o ho => ?_) (fun i o L a w' ho => hG i o L a w' (by simpa using ho)) ?_ _ _ _ _ ?_ ?_ (by simp) ?_)
  · have := List.all_eq_true.1 hng o (List.mem_of_getElem? (by simpa using ho))
    simpa using this
  · intro listed a w' hI hV hall
    have hfill : fill (fun t => a.tmps.getD t undef) l a0 = a := by
      have hz := fill_size (fun t => a.tmps.getD t undef) l a0
      refine act_ext (hz.2.trans hI.defers.symm) (hz.1.trans hI.size.symm) fun t ht => ?_
      rw [hz.1] at ht
      cases hw : writer l.toArray t with
      | none =>
        rw [fill_other _ l a0 t (fun o ho => by
          obtain ⟨j, hj⟩ := List.getElem?_of_mem ho
          exact writer_none hw j o (by simpa using hj))]
        exact (hI.slot t (by simp [hw])).symm
      | some j =>
        obtain ⟨o, ho, hd⟩ := writer_some hw
        have hmem : o ∈ l := List.mem_of_getElem? (by simpa using ho)
        rw [fill_same _ l a0 t ht ⟨o, hmem, hd⟩]
        obtain ⟨v, hv, _⟩ := hI.done t j hw (hall j (Array.getElem?_eq_some_iff.1 ho).1)
        simp [hv, Array.getD_eq_getD_getElem?]
    have h := later_fill (w := w') (K := fun a' => (∃ L, (∀ j, j < l.length → L j = true) ∧ V L a' w') → Q .normal a' w') (fun t => a.tmps.getD t undef) l specs a0 (hF w' hI.cls) (fun j o d s ho hd hss => by
      have hw := ((sound_at hs (i := j) (o := o) (by simpa using ho)).2.2 d hd).2
      obtain ⟨v, hv, hk⟩ := hI.done d j hw (hall j (by simpa using (List.getElem?_eq_some_iff.1 ho).1))
      rw [hss] at hk
      simpa [hv, Array.getD_eq_getD_getElem?] using hk)
    rw [hfill] at h
    exact h ⟨lst listed, fun j hj => hall j (by simpa using hj), hV⟩
  · refine ⟨hC, rfl, rfl, fun t _ => rfl, fun t j _ hl => ?_⟩
    have : (Array.replicate l.toArray.size false).getD j false = false := by
      rw [Array.getD_eq_getD_getElem?, Array.getElem?_replicate]
      split <;> rfl
    rw [this] at hl
    cases hl
  · have hr : lst (Array.replicate l.toArray.size false) = fun _ => false := by
      funext j
      unfold lst
      rw [Array.getD_eq_getD_getElem?, Array.getElem?_replicate]
      split <;> rfl
    rw [hr]
    exact hV
  · exact cnt_all _ _ (fun j hj => by simp at hj; simp [hj])
theorem blk_lt {w : World} {g : Nat} {o : Obj} (h : w.heap[g]? = some o) : g < w.heap.size := (Array.getElem?_eq_some_iff.1 h).1
theorem blk_below {w w' : World} {g : Nat} {o : Obj} (h : w.heap[g]? = some o) (hx : Ex w w') : w'.heap[g]? = some o := by rw [hx.block g (blk_lt h)]; exact h
theorem eval_tmp {a : Act} {t : Tmp} {v : Value} (h : a.tmps[t]? = some v) : a.eval (.tmp t) = v := by simp [Act.eval, Array.getD_eq_getD_getElem?, h]
theorem later_mono {w : World} {K K' : Act → Prop} (hK : ∀ a, K a → K' a) : ∀ (os : List Oper) (ss : List Spec) (a : Act), later w K os ss a → later w K' os ss a
  | [], [], a, h => hK a h
  | o :: os, s :: ss, a, h => by
    unfold later at h ⊢
    cases hd : o.dst with
    | none => rw [hd] at h; exact later_mono hK os ss a h
    | some d =>
      rw [hd] at h
      cases s with
      | inl x => exact later_mono hK os ss _ h
      | inr p => exact fun v hv => later_mono hK os ss _ (h v hv)
  | [], _ :: _, a, h => hK a h
  | _ :: _, [], a, h => by unfold later at h; exact h.elim
theorem wp_val {o : Oper} {a : Act} {w w1 : World} {v : Value} {K : Act → World → Prop} {Q : Exit → Act → World → Prop} (hr : (execOp a.eval o).run Try.prog w = .ok (.value v) w1) (h : K (a.put o.dst v) w1) : o.wp Try.prog a w K Q := by
  unfold Oper.wp; rw [hr]; exact h
theorem wp_skip {o : Oper} {a : Act} {w w1 : World} {K : Act → World → Prop} {Q : Exit → Act → World → Prop} (hr : (execOp a.eval o).run Try.prog w = .ok .skip w1) (h : K (a.put o.dst undef) w1) : o.wp Try.prog a w K Q := by
  unfold Oper.wp; rw [hr]; exact h
theorem run_move {o : Oper} {x : Operand} (ρ : Operand → Value) (w : World) (h : o.op = .move x) : (execOp ρ o).run Try.prog w = .ok (.value (ρ x)) w := by
  unfold execOp; rw [h]; rfl
theorem dep_of {o : Oper} {L : Nat → Bool} {k : Nat} (h : o.after.any (fun e => Region.binds .any e && e.on == k) = true) (hd : ∀ e ∈ o.after, Region.binds .any e = true → L e.on = true) : L k = true := by
  obtain ⟨e, he, h2⟩ := Array.any_eq_true'.1 h
  simp only [Bool.and_eq_true, beq_iff_eq] at h2
  have := hd e he h2.1
  rw [h2.2] at this
  exact this
end Rg
end Go.Proofs.Ytaehchaimlklnaa
