/-
  A region whose order is open, in which a variable for a zone is made and a zone is stored into it.
-/
import Derived.Test.YtnfbmffafclaaaaZreg
import Derived.Test.YtnfbmffafclaaaaZdec
namespace Go.Proofs.Ytnfbmffafclaaaa
open Go.RowKit
set_option linter.unusedVariables false
set_option linter.unusedSimpArgs false
/-- What a variable for a zone does: it is made, and stored into. -/
structure ZVar (t : TypeId) : Prop where
  made : ∀ (ρ : Operand → Value) (o : Oper) (w : World), o.op = .alloc t → (execOp ρ o).run Try.prog w = .ok (.value (.pointer (some ⟨w.heap.size, 0, none⟩))) (w.alloc (zb Z.zero t))
  put : ∀ (ρ : Operand → Value) (o : Oper) (w : World) (p x : Operand) (g : Nat) (z0 z : Zn), o.op = .store t p x → ρ p = .pointer (some ⟨g, 0, none⟩) → ρ x = zv z → ZAt w g z0 t → (execOp ρ o).run Try.prog w = .ok .skip (zset w g z)
set_option maxHeartbeats 4000000 in
theorem zvar31 : ZVar 31 where
  made := fun ρ o w h => by simp [execOp, h, go_sem]; rfl
  put := fun ρ o w p x g z0 z h hp hx hz => by
    obtain ⟨c0, c1, c2, c3, c4, c5, c6⟩ := hz.all
    obtain ⟨f0, f1, f2, f3, f4, f5, f6⟩ := hz.fro
    simp [execOp, h, hp, hx, zv, go_sem, c0, c1, c2, c3, c4, c5, c6, f0, f1, f2, f3, f4, f5, f6]
set_option maxHeartbeats 4000000 in
theorem zvar23 : ZVar 23 where
  made := fun ρ o w h => by simp [execOp, h, go_sem]; rfl
  put := fun ρ o w p x g z0 z h hp hx hz => by
    obtain ⟨c0, c1, c2, c3, c4, c5, c6⟩ := hz.all
    obtain ⟨f0, f1, f2, f3, f4, f5, f6⟩ := hz.fro
    simp [execOp, h, hp, hx, zv, go_sem, c0, c1, c2, c3, c4, c5, c6, f0, f1, f2, f3, f4, f5, f6]
namespace Rg
section
variable {ops : Array Oper} {specs : List Spec} {a0 : Act} {base : Nat} {w0 : World} {t : TypeId} {iA iS : Nat} {dA : Tmp} {J : Zn}
/-- What is so of the variable: not there yet; made; stored into. -/
def Var (base : Nat) (t : TypeId) (iA iS : Nat) (dA : Tmp) (J : Zn) (listed : Array Bool) (a : Act) (w : World) : Prop :=
  (listed.getD iA false = false → listed.getD iS false = false) ∧ (listed.getD iA false = true → ∃ g, a.tmps[dA]? = some (.pointer (some ⟨g, 0, none⟩)) ∧ base ≤ g ∧ (listed.getD iS false = true → ZAt w g J t) ∧ (listed.getD iS false = false → ZAt w g Z.zero t))
theorem getD_set {l : Array Bool} {i j : Nat} (hi : i < l.size) : (l.setIfInBounds i true).getD j false = if i = j then true else l.getD j false := by
  by_cases h : i = j
  · subst h; simp [hi]
  · rw [if_neg h, getD_set_ne false h]
theorem rows_var {Q : Exit → Act → World → Prop} (hs : sound ops a0.tmps.size = true) (hz : ZVar t)
    (hst : ∀ (j : Nat) (v : Value) (w w' : World), ((specs[j]?).getD (.inl undef)).ok v w → ((specs[j]?).getD (.inl undef)).ok v w')
    (oA oS : Oper) (x : Operand) (hA : ops[iA]? = some oA) (hS : ops[iS]? = some oS) (hAo : oA.op = .alloc t) (hAd : oA.dst = some dA) (hAg : oA.guard = none) (hSo : oS.op = .store t (.tmp dA) x) (hSd : oS.dst = none) (hSg : oS.guard = none)
    (hdep : oS.after.any (fun e => Region.binds .any e && e.on == iA) = true) (hAs : (specs[iA]?).getD (.inl undef) = .inr (fun _ _ => True)) (hSs : (specs[iS]?).getD (.inl undef) = .inr (fun _ _ => True)) (hxs : argS ops specs a0 x = .inl (zv J)) (hbase : base = w0.heap.size)
    (hG : ∀ (i : Nat) (o : Oper), i ≠ iA → i ≠ iS → ops[i]? = some o → GoodOp Try.prog ops specs a0 (Ex w0) Ex o ((specs[i]?).getD (.inl undef)))
    (hF : ∀ (listed : Array Bool) (a : Act) (w : World), Inv ops specs a0 (Ex w0) listed a w → Var base t iA iS dA J listed a w → (∀ j, j < ops.size → listed.getD j false = true) → Q .normal a w) :
    ∀ (fuel : Nat) (listed : Array Bool) (a : Act) (w : World), Inv ops specs a0 (Ex w0) listed a w → Var base t iA iS dA J listed a w → listed.size = ops.size → cnt ops.size (fun j => !listed.getD j true) = fuel → wpAny Try.prog .any ops Q fuel listed a w
  | 0, listed, a, w, h, hv, hsz, hc => by
    have hall : ∀ j, j < ops.size → listed.getD j false = true := fun j hj => by
      have := cnt_zero _ _ hc j hj
      have hj' : j < listed.size := by omega
      simp [hj'] at this ⊢
      exact this
    refine ⟨?_, hF listed a w h hv hall⟩
    cases hr : Region.ready .any ops listed with
    | nil => rfl
    | cons x xs =>
      have hx : x ∈ Region.ready .any ops listed := by rw [hr]; simp
      obtain ⟨h0, o, ho, _⟩ := mem_ready.1 hx
      have hx' : x < ops.size := (Array.getElem?_eq_some_iff.1 ho).1
      have h1 := hall x hx'
      have hx2 : x < listed.size := by omega
      simp [hx2] at h0 h1
      rw [h0] at h1
      cases h1
  | fuel + 1, listed, a, w, h, hv, hsz, hc => by
    refine ⟨fun hr => hF listed a w h hv (all_listed hs hr hsz), fun i hi => ?_⟩
    have hi0 := hi
    obtain ⟨h0, o, ho, hall⟩ := mem_ready.1 hi
    have hi' : i < ops.size := (Array.getElem?_eq_some_iff.1 ho).1
    have hi2 : i < listed.size := by omega
    have hnl : listed.getD i false = false := by simp [hi2] at h0 ⊢; exact h0
    have hnext : ∀ (v : Value) (w' : World), ((specs[i]?).getD (.inl undef)).ok v w' → Ex w0 w' → Var base t iA iS dA J (listed.setIfInBounds i true) (a.put o.dst v) w' → wpAny Try.prog .any ops Q fuel (listed.setIfInBounds i true) (a.put o.dst v) w' := by
      intro v w' hok hC hv'
      refine rows_var hs hz hst oA oS x hA hS hAo hAd hAg hSo hSd hSg hdep hAs hSs hxs hbase hG hF fuel _ _ _ (h.step (E := fun _ _ => True) hs ho hi2 (fun j v w w' h1 _ => hst j v w w' h1) trivial hC hok) hv' (by simp; exact hsz) ?_
      have hstep := cnt_step ops.size (fun j => !listed.getD j true) (fun j => !(listed.setIfInBounds i true).getD j true) i hi' (by simp [h0]) (by simp [hi2]) (fun j hj => by rw [getD_set_ne true (Ne.symm hj)])
      omega
    have hsees := h.sees hs ho hi
    have hAS : iA ≠ iS := fun e => by
      rw [e, hS] at hA
      simp at hA
      rw [hA, hAo] at hSo
      cases hSo
    by_cases hiA : i = iA
    · subst hiA
      rw [hA] at ho
      simp at ho
      subst ho
      have hw : Region.wanted oA (yielded ops a.tmps) = true := by simp [Region.wanted, hAg]
      unfold wpOp
      simp only [hA]
      rw [if_pos hw]
      refine .inl ?_
      unfold Oper.wp
      rw [hz.made a.eval oA w hAo]
      have hsd := (sound_at hs hA).2.2 dA hAd
      refine hnext _ _ (by rw [hAs]; trivial) (h.cls.trans ((Below.refl _ _).alloc (Nat.le_refl _) _)) ⟨fun h1 => ?_, fun _ => ⟨w.heap.size, ?_, ?_, fun h1 => ?_, fun _ => ZAt.new w Z.zero t⟩⟩
      · rw [getD_set hi2, if_pos rfl] at h1; cases h1
      · rw [hAd]; exact put_same a _ (by rw [h.size]; exact hsd.1)
      · rw [hbase]; exact h.cls.size
      · rw [getD_set hi2, if_neg hAS, hv.1 hnl] at h1; cases h1
    · by_cases hiS : i = iS
      · subst hiS
        rw [hS] at ho
        simp at ho
        subst ho
        have hw : Region.wanted oS (yielded ops a.tmps) = true := by simp [Region.wanted, hSg]
        obtain ⟨e, he, h2⟩ := Array.any_eq_true'.1 hdep
        simp only [Bool.and_eq_true, beq_iff_eq] at h2
        have hlA : listed.getD iA false = true := by have := hall e he h2.1; rw [h2.2] at this; exact this
        obtain ⟨g, hg1, hg2, hg3, hg4⟩ := hv.2 hlA
        have hz0 := hg4 hnl
        have hxv : a.eval x = zv J := by
          have := arg_ok (o := oS) (x := x) (by rw [hSo]; simp [Op.operands]) hsees
          rw [hxs] at this
          exact this
        have hpv : a.eval (.tmp dA) = .pointer (some ⟨g, 0, none⟩) := by simp [Act.eval, Array.getD_eq_getD_getElem?, hg1]
        have hu := hz.put a.eval oS w (.tmp dA) x g Z.zero J hSo hpv hxv hz0
        unfold wpOp
        simp only [hS]
        rw [if_pos hw]
        refine .inl ?_
        unfold Oper.wp
        rw [hu]
        have hgo := hnext undef (zset w g J) (by rw [hSs]; trivial) (Below.zset h.cls (by rw [← hbase]; exact hg2) J) ?_
        · rw [hSd] at hgo
          unfold Oper.upon
          simp only [hSd]
          exact hgo
        refine ⟨fun h1 => ?_, fun _ => ⟨g, ?_, hg2, fun _ => hz0.store J, fun h1 => ?_⟩⟩
        · rw [getD_set hi2, if_neg (Ne.symm hAS), hlA] at h1; cases h1
        · rw [hSd]; exact hg1
        · rw [getD_set hi2, if_pos rfl] at h1; cases h1
      · have hg := hG i o hiA hiS ho Q a w h.cls hsees
        have hne : o.dst ≠ some dA := fun hd => by
          have h1 := ((sound_at hs ho).2.2 dA hd).2
          have h2 := ((sound_at hs hA).2.2 dA hAd).2
          rw [h1] at h2
          simp at h2
          exact hiA h2
        have hvar : ∀ (v : Value) (w' : World), Ex w w' → Var base t iA iS dA J (listed.setIfInBounds i true) (a.put o.dst v) w' := fun v w' hx => by
          have e1 : (listed.setIfInBounds i true).getD iA false = listed.getD iA false := by rw [getD_set hi2, if_neg hiA]
          have e2 : (listed.setIfInBounds i true).getD iS false = listed.getD iS false := by rw [getD_set hi2, if_neg hiS]
          refine ⟨fun h1 => by rw [e2]; exact hv.1 (by rw [← e1]; exact h1), fun h1 => ?_⟩
          obtain ⟨g, g1, g2, g3, g4⟩ := hv.2 (by rw [← e1]; exact h1)
          exact ⟨g, by rw [put_other a v hne]; exact g1, g2, fun h3 => (g3 (by rw [← e2]; exact h3)).below hx, fun h3 => (g4 (by rw [← e2]; exact h3)).below hx⟩
        unfold wpOp
        simp only [ho]
        split
        · rename_i hw
          refine .inl (Oper.wp_mono (fun a' w' hk => ?_) (hg.1 hw))
          obtain ⟨v, rfl, hok, hE, hC⟩ := hk
          exact hnext v w' hok hC (hvar v w' hE)
        · rename_i hw
          exact hnext undef w (hg.2 (by simpa using hw)) h.cls (hvar undef w (Ex.refl w))
end
/-- **A REGION WHOSE ORDER IS OPEN, THAT MAKES A VARIABLE FOR A ZONE AND STORES INTO IT.** -/
theorem wp_rows_var {id : Nat} {Q : Exit → Act → World → Prop} {w : World} {l : List Oper} {a0 : Act} {t : TypeId} (specs : List Spec) (iA iS : Nat) (dA : Tmp) (J : Zn) (n : Nat) (hm : Try.prog.follows .mixedOrders = true) (hz : ZVar t)
    (hn : a0.tmps.size = n) (hs : sound l.toArray n = true) (oA oS : Oper) (x : Operand) (hA : l[iA]? = some oA) (hS : l[iS]? = some oS) (hAo : oA.op = .alloc t) (hAd : oA.dst = some dA) (hAg : oA.guard = none) (hSo : oS.op = .store t (.tmp dA) x) (hSd : oS.dst = none) (hSg : oS.guard = none)
    (hdep : oS.after.any (fun e => Region.binds .any e && e.on == iA) = true) (hAs : (specs[iA]?).getD (.inl undef) = .inr (fun _ _ => True)) (hSs : (specs[iS]?).getD (.inl undef) = .inr (fun _ _ => True)) (hxs : argS l.toArray specs a0 x = .inl (zv J))
    (hst : Stands (fun _ _ => True) specs)
    (hG : ∀ (i : Nat) (o : Oper), i ≠ iA → i ≠ iS → l[i]? = some o → GoodOp Try.prog l.toArray specs a0 (Ex w) Ex o ((specs[i]?).getD (.inl undef)))
    (hF : ∀ (w' : World) (g : Nat), Ex w w' → ZAt w' g J t → later w' (fun a' => a'.tmps[dA]? = some (.pointer (some ⟨g, 0, none⟩)) → Q .normal a' w') l specs a0) : (Code.region id l.toArray true).wp Try.prog Q a0 w := by
  subst hn
  refine wp_region_any hm (rows_var (specs := specs) (a0 := a0) (base := w.heap.size) (w0 := w) (t := t) (iA := iA) (iS := iS) (dA := dA) (J := J) hs hz (fun j v w w' h => stands_at specs hst j v w w' h trivial) oA oS x (by simpa using hA) (by simpa using hS) hAo hAd hAg hSo hSd hSg hdep hAs hSs hxs rfl (fun i o h1 h2 ho => hG i o h1 h2 (by simpa using ho)) ?_ _ _ _ _ ?_ ?_ (by simp) ?_)
  · intro listed a w' hI hV hall
    have hlen : ∀ i (o : Oper), l[i]? = some o → i < l.toArray.size := fun i o ho => by simpa using (List.getElem?_eq_some_iff.1 ho).1
    obtain ⟨g, g1, _, g3, _⟩ := hV.2 (hall iA (hlen iA oA hA))
    have hzJ := g3 (hall iS (hlen iS oS hS))
    have hfill : fill (fun t => a.tmps.getD t undef) l a0 = a := by
      have hz := fill_size (fun t => a.tmps.getD t undef) l a0
      refine act_ext (hz.2.trans hI.defers.symm) (hz.1.trans hI.size.symm) fun t ht => ?_
      rw [hz.1] at ht
      cases hw : writer l.toArray t with
      | none =>
        rw [fill_other _ l a0 t (fun o ho => by
          obtain ⟨j, hj⟩ := List.getElem?_of_mem ho
          exact writer_none hw j o (by simpa using hj))]
        exact (hI.slot t (by simp [hw])).symm
      | some j =>
        obtain ⟨o, ho, hd⟩ := writer_some hw
        have hmem : o ∈ l := List.mem_of_getElem? (by simpa using ho)
        rw [fill_same _ l a0 t ht ⟨o, hmem, hd⟩]
        obtain ⟨v, hv, _⟩ := hI.done t j hw (hall j (Array.getElem?_eq_some_iff.1 ho).1)
        simp [hv, Array.getD_eq_getD_getElem?]
    have h := later_fill (w := w') (K := fun a' => a'.tmps[dA]? = some (.pointer (some ⟨g, 0, none⟩)) → Q .normal a' w') (fun t => a.tmps.getD t undef) l specs a0 (hF w' g hI.cls hzJ) (fun j o d s ho hd hss => by
      have hw := ((sound_at hs (i := j) (o := o) (by simpa using ho)).2.2 d hd).2
      obtain ⟨v, hv, hk⟩ := hI.done d j hw (hall j (by simpa using (List.getElem?_eq_some_iff.1 ho).1))
      rw [hss] at hk
      simpa [hv, Array.getD_eq_getD_getElem?] using hk)
    rw [hfill] at h
    exact h g1
  · refine ⟨Ex.drew w, rfl, rfl, fun t _ => rfl, fun t j _ hl => ?_⟩
    have : (Array.replicate l.toArray.size false).getD j false = false := by
      rw [Array.getD_eq_getD_getElem?, Array.getElem?_replicate]
      split <;> rfl
    rw [this] at hl
    cases hl
  · have hr : ∀ j, (Array.replicate l.toArray.size false).getD j false = false := fun j => by
      rw [Array.getD_eq_getD_getElem?, Array.getElem?_replicate]
      split <;> rfl
    refine ⟨fun _ => hr iS, fun h1 => ?_⟩
    rw [hr iA] at h1
    cases h1
  · exact cnt_all _ _ (fun j hj => by simp at hj; simp [hj])
def isVar (o : Oper) : Bool := match o.op with | .alloc _ => true | .store .. => true | _ => false
/-- Each operation but those of the variable owes its own. -/
def GoodsB (P : Program) (ops : Array Oper) (specs : List Spec) (a0 : Act) (C : World → Prop) (E : World → World → Prop) : List Oper → List Spec → Prop
  | [], [] => True
  | o :: os, s :: ss => (isVar o = true ∨ GoodOp P ops specs a0 C E o s) ∧ GoodsB P ops specs a0 C E os ss
  | _, _ => False
theorem goodsB_nil {P : Program} {ops : Array Oper} {specs : List Spec} {a0 : Act} {C : World → Prop} {E : World → World → Prop} : GoodsB P ops specs a0 C E [] [] := trivial
theorem goodsB_cons {P : Program} {ops : Array Oper} {specs : List Spec} {a0 : Act} {C : World → Prop} {E : World → World → Prop} {o : Oper} {os : List Oper} {s : Spec} {ss : List Spec} (h : isVar o = true ∨ GoodOp P ops specs a0 C E o s) (h2 : GoodsB P ops specs a0 C E os ss) : GoodsB P ops specs a0 C E (o :: os) (s :: ss) := ⟨h, h2⟩
theorem goodsB_at {P : Program} {ops : Array Oper} {specs : List Spec} {a0 : Act} {C : World → Prop} {E : World → World → Prop} : ∀ (os : List Oper) (ss : List Spec), GoodsB P ops specs a0 C E os ss → ∀ (i : Nat) (o : Oper), os[i]? = some o → isVar o = false → ∃ s, ss[i]? = some s ∧ GoodOp P ops specs a0 C E o s
  | [], _, _, i, o, h, _ => by simp at h
  | _ :: _, [], h, _, _, _, _ => h.elim
  | o :: os, s :: ss, h, 0, o', ho, hv => by
    simp at ho
    subst ho
    rcases h.1 with h1 | h1
    · rw [hv] at h1; cases h1
    · exact ⟨s, rfl, h1⟩
  | o :: os, s :: ss, h, i + 1, o', ho, hv => by
    obtain ⟨s', h1, h2⟩ := goodsB_at os ss h.2 i o' (by simpa using ho) hv
    exact ⟨s', by simpa using h1, h2⟩
theorem wp_rows_zone {id : Nat} {Q : Exit → Act → World → Prop} {w : World} {l : List Oper} {a0 : Act} {t : TypeId} (specs : List Spec) (iA iS : Nat) (dA : Tmp) (J : Zn) (n : Nat) (hm : Try.prog.follows .mixedOrders = true) (hz : ZVar t)
    (hn : a0.tmps.size = n) (hs : sound l.toArray n = true) (oA oS : Oper) (x : Operand) (hA : l[iA]? = some oA) (hS : l[iS]? = some oS) (hAo : oA.op = .alloc t) (hAd : oA.dst = some dA) (hAg : oA.guard = none) (hSo : oS.op = .store t (.tmp dA) x) (hSd : oS.dst = none) (hSg : oS.guard = none)
    (hdep : oS.after.any (fun e => Region.binds .any e && e.on == iA) = true) (hAs : (specs[iA]?).getD (.inl undef) = .inr (fun _ _ => True)) (hSs : (specs[iS]?).getD (.inl undef) = .inr (fun _ _ => True)) (hxs : argS l.toArray specs a0 x = .inl (zv J))
    (hst : Stands (fun _ _ => True) specs) (honly : (List.range l.length).all (fun i => i == iA || i == iS || (l[i]?).all (fun o => !isVar o)) = true)
    (hG : GoodsB Try.prog l.toArray specs a0 (Ex w) Ex l specs)
    (hF : ∀ (w' : World) (g : Nat), Ex w w' → ZAt w' g J t → later w' (fun a' => a'.tmps[dA]? = some (.pointer (some ⟨g, 0, none⟩)) → Q .normal a' w') l specs a0) : (Code.region id l.toArray true).wp Try.prog Q a0 w := by
  refine wp_rows_var specs iA iS dA J n hm hz hn hs oA oS x hA hS hAo hAd hAg hSo hSd hSg hdep hAs hSs hxs hst (fun i o h1 h2 ho => ?_) hF
  have hi := List.all_eq_true.1 honly i (by simpa using (List.getElem?_eq_some_iff.1 ho).1)
  have hv : isVar o = false := by simpa [h1, h2, ho] using hi
  obtain ⟨s, hs1, hs2⟩ := goodsB_at l specs hG i o ho hv
  rw [hs1]
  exact hs2
end Rg
end Go.Proofs.Ytnfbmffafclaaaa
