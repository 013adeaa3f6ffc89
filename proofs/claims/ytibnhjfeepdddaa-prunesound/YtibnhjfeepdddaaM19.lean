/-
  The landed rightParts and Right. Steps of a region whose order is open: the address of a field; a callee's answer as a sentence. A region whose order is open, by what is so of each listing: beside each operation's own sentence one more sentence, over what is listed. A region whose order is open, of quiet operations and two stores, the second behind the first ('a, b = x[0], x[1]', each in a block of its own): what is read is the same behind either store. A region whose order is open, of operations that turn nothing and one store: what is read is the same ahead of it and behind it.
-/
import Derived.Test.YtibnhjfeepdddaaM18
import Derived.Test.YtibnhjfeepdddaaM13
import Derived.Test.YtibnhjfeepdddaaM04
namespace Go.Proofs.Ytibnhjfeepdddaa
open Go.RowKit
set_option linter.unusedVariables false
set_option linter.unusedSimpArgs false
namespace Pd
/-- Each part is one that the callees bear. -/
def Fine : Pr → Prop := rec' fun h l a => HdFit h ∧ l.length ≤ 1000 ∧ ∀ x ∈ a, x
theorem fine_mk (h : Hd) (l : List Pr) : Fine (Pr.mk' h l) ↔ HdFit h ∧ l.length ≤ 1000 ∧ ∀ x ∈ l, Fine x := by
 rw [Fine, rec_mk]
 constructor
 ·rintro ⟨h1, h0, h2⟩
  exact ⟨h1, h0, fun x hx => h2 _ (List.mem_map.2 ⟨x, hx, rfl⟩)⟩
 ·rintro ⟨h1, h0, h2⟩
  refine ⟨h1, h0, fun x hx => ?_⟩
  obtain ⟨y, hy, rfl⟩ := List.mem_map.1 hx
  exact h2 y hy
theorem form_kids {h : Hd} {l : List Pr} (hp : part h l.length = true) (ha : ∀ k ∈ l, form k = true) : form (Pr.mk' h l) = true := by
 rw [form_mk, hp, Bool.true_and, List.all_eq_true]; exact ha
theorem form_kid {h : Hd} {l : List Pr} {k : Pr} (hk : k ∈ l) (hf : form k = false) : form (Pr.mk' h l) = false := by
 rw [form_mk]
 have : l.all form = false := by rw [List.all_eq_false]; exact ⟨k, hk, by rw [hf]; simp⟩
 rw [this, Bool.and_false]
end Pd
set_option maxHeartbeats 4000000 in
set_option maxRecDepth 100000 in
theorem rparts_is : ∀ (p : Pr) (v : PV) (w : World) (o : Bool), Pd.Lay (fun _ => True) p w v → Pd.Fine p → Pd.form p = o →
  Calls Try.prog 34 #[pvv v] w fun e w' => e = .returned (.bool o) ∧ Ex w w' := by
 refine Pd.tree ?_
 intro h l ih v w o hL hFi ho
 rw [Pd.fine_mk] at hFi
 obtain ⟨hF, _, hFk⟩ := hFi
 obtain ⟨hHd, hkn, hkB, hkc, hkm, hk0⟩ := hL.head
 obtain ⟨vk, vcol, vn, vm, vs, vset, ⟨p, n, cap⟩⟩ := v
 simp only at hkn hkB hkc hkm hk0
 subst hkn
 have HIH : Hid (∀ k ∈ l, ∀ (v : PV) (w : World) (o : Bool), Pd.Lay (fun _ => True) k w v → Pd.Fine k → Pd.form k = o → Calls Try.prog 34 #[pvv v] w fun e w' => e = .returned (.bool o) ∧ Ex w w') := ih
 have HFK : Hid (∀ k ∈ l, Pd.Fine k) := hFk
 have HO : Hid (Pd.form (Pr.mk' h l) = o) := ho
 have HLw : Hid (Pd.Lay (fun _ => True) (Pr.mk' h l) w ⟨vk, vcol, vn, vm, vs, vset, p, l.length, cap⟩) := hL
 obtain ⟨W, hW⟩ : ∃ W, w.alloc (pb ⟨vk, vcol, vn, vm, vs, vset, p, l.length, cap⟩) = W := ⟨_, rfl⟩
 have hXW : Ex w W := by rw [← hW]; exact (Below.refl _ _).alloc (Nat.le_refl _) _
 have HXW : Hid (Ex w W) := hXW
 have HP : Hid (PAt W w.heap.size ⟨vk, vcol, vn, vm, vs, vset, p, l.length, cap⟩) := (by rw [← hW]; exact PAt.new w _ : PAt W w.heap.size _)
 obtain ⟨pt, hpt⟩ : ∃ x, Pd.part h l.length = x := ⟨_, rfl⟩
 have HPT : Hid (Pd.part h l.length = pt) := hpt
 have HC : Hid (Calls Try.prog 58 #[pvv ⟨vk, vcol, vn, vm, vs, vset, p, l.length, cap⟩] W fun e w' => e = .returned (.bool pt) ∧ Ex W w') :=
  rpart_is h l.length _ W (hHd.below hXW) hF rfl (by omega) pt hpt
 obtain ⟨p0, p1, p2, p3, p4, p5, p6⟩ := HP.out.all
 simp only at p0 p1 p2 p3 p4 p5 p6
 unfold maxLen at hkm
 clear hL hHd hkB ho ih hXW hpt hF hFk
 unfold pvv
 simp only [sv]
 go_enter Try.func34, Try.ntmps34
 go_wp2_with fail
 go_at_call 58
 refine Calls.mono HC.out ?_
 rintro e w2 ⟨rfl, hx⟩
 have HX2 : Hid (Ex w w2) := (HXW.out.trans hx : Ex w w2)
 have q6 := (HP.out.below hx).all.2.2.2.2.2.2
 simp only at q6
 clear hx HC p0 p1 p2 p3 p4 p5 p6
 cases pt with
 | false =>
  have HF : Hid (o = false) := (by rw [← HO.out, Pd.form_mk, HPT.out, Bool.false_and] : o = false)
  go_wp2_with fail
  go_ret
  exact ⟨by rw [HF.out]; rfl, HX2.out⟩
 | true =>
  go_wp2_with fail
  go_loopw [11, 4] (fun iv kv wr => ∃ i : Nat, i ≤ l.length ∧ iv = .int .i64 i ∧ Hid (∀ k ∈ l.take i, Pd.form k = true) ∧ Hid (Ex w wr)) (fun iv kv wr => l.length - (intOf iv).toNat)
  case atStart => exact ⟨0, by omega, rfl, (by simp : ∀ k ∈ l.take 0, Pd.form k = true), HX2⟩
  case round =>
   obtain ⟨i, hi, rfl, HA, HXr⟩ := hrel
   by_cases hlt : i < l.length
   ·have hti : (i : Int) < (l.length : Int) := by omega
    have hLr := Pd.Lay.below _ HLw.out HXr.out
    obtain ⟨b, off, u, hpp, hbg, hLk, e0, e1, e2, e3, e4, e5, e6⟩ := hLr.kid hlt
    simp only at hpp
    obtain ⟨k, hk⟩ : ∃ k, l[i] = k := ⟨_, rfl⟩
    rw [hk] at hLk
    have HK : Hid (k ∈ l) := (by rw [← hk]; exact List.getElem_mem hlt : k ∈ l)
    have HNX : Hid (l.take (i + 1) = l.take i ++ [k]) := (by rw [List.take_add_one, List.getElem?_eq_getElem hlt, hk]; rfl : l.take (i + 1) = l.take i ++ [k])
    obtain ⟨w1, hw1⟩ : ∃ w1, wr.alloc (pb u) = w1 := ⟨_, rfl⟩
    have hX1 : Ex wr w1 := by rw [← hw1]; exact (Below.refl _ _).alloc (Nat.le_refl _) _
    have HX1 : Hid (Ex w w1) := (HXr.out.trans hX1 : Ex w w1)
    obtain ⟨x, hx⟩ : ∃ x, Pd.form k = x := ⟨_, rfl⟩
    have HFX : Hid (Pd.form k = x) := hx
    have HC : Hid (Calls Try.prog 34 #[pvv u] w1 fun e w' => e = .returned (.bool x) ∧ Ex w1 w') := HIH.out k HK.out u w1 x (Pd.Lay.below _ hLk hX1) (HFK.out k HK.out) hx
    have HP1 : Hid (PAt w1 wr.heap.size u) := (by rw [← hw1]; exact PAt.new wr u : PAt w1 wr.heap.size u)
    obtain ⟨q0, q1, q2, q3, q4, q5, q6⟩ := HP1.out.all
    subst hpp
    clear hLr hLk hk hX1 hbg hx
    go_wp2_with fail
    go_at_call 34
    refine Calls.mono HC.out ?_
    rintro e w3 ⟨rfl, hx⟩
    have HX3 : Hid (Ex w w3) := (HX1.out.trans hx : Ex w w3)
    clear hx HC
    cases x with
    | true =>
     have HA2 : Hid (∀ c ∈ l.take (i + 1), Pd.form c = true) := (by
      intro c hc
      rw [HNX.out] at hc
      rcases List.mem_append.1 hc with hc | hc
      ·exact HA.out c hc
      ·rw [List.mem_singleton] at hc; subst hc; exact HFX.out : ∀ c ∈ l.take (i + 1), Pd.form c = true)
     go_wp2_with fail
     go_roundw
     case rel => exact ⟨i + 1, by omega, by go_num, HA2, HX3⟩
     case measure => simp [intOf]; omega
    | false =>
     have HF : Hid (o = false) := (by rw [← HO.out]; exact Pd.form_kid HK.out HFX.out : o = false)
     go_wp2_with fail
     go_ret
     exact ⟨by rw [HF.out]; rfl, HX3.out⟩
   ·have hti : ¬ (i : Int) < (l.length : Int) := by omega
    have hil : l.take i = l := List.take_of_length_le (by omega)
    have HT : Hid (o = true) := (by rw [← HO.out]; exact Pd.form_kids HPT.out (by have := HA.out; rwa [hil] at this) : o = true)
    clear hil
    go_wp2_with fail
    go_ret
    exact ⟨by rw [HT.out]; rfl, HXr.out⟩
set_option maxHeartbeats 1000000 in
set_option maxRecDepth 100000 in
theorem right_is (p : Pr) (v : PV) (w : World) (h : Pd.Lay (fun _ => True) p w v) (hF : Pd.Fine p) (o : Bool) (ho : Pd.right p = o) : Calls Try.prog 18 #[pvv v] w fun e w' => e = .returned (.bool o) ∧ Ex w w' := by
 obtain ⟨vk, vcol, vn, vm, vs, vset, vkids⟩ := v
 obtain ⟨W, hW⟩ : ∃ W, (w.alloc (pb ⟨vk, vcol, vn, vm, vs, vset, vkids⟩)).alloc (.cells #[.int .i64 40] 3) = W := ⟨_, rfl⟩
 have hX1 : Ex w (w.alloc (pb ⟨vk, vcol, vn, vm, vs, vset, vkids⟩)) := (Below.refl _ _).alloc (Nat.le_refl _) _
 have hXW : Ex w W := by rw [← hW]; exact Below.alloc hX1 (by simp) _
 have hsz : (w.alloc (pb ⟨vk, vcol, vn, vm, vs, vset, vkids⟩)).heap.size = w.heap.size + 1 := by simp
 have HIW : Hid (IAt W (w.heap.size + 1) 40) := (by rw [← hW, ← hsz]; exact IAt.new _ _ : IAt W (w.heap.size + 1) 40)
 have HXW : Hid (Ex w W) := hXW
 have HP : Hid (PAt W w.heap.size ⟨vk, vcol, vn, vm, vs, vset, vkids⟩) := (by rw [← hW]; exact (PAt.new w _).alloc _ : PAt W w.heap.size _)
 have HC : Hid (Calls Try.prog 33 #[pvv ⟨vk, vcol, vn, vm, vs, vset, vkids⟩, .int .i64 (6 : Nat), .pointer (some ⟨w.heap.size + 1, 0, none⟩)] W fun e w' => e = .returned (.bool (Pd.fit p 6 40)) ∧ FitsR p 6 40 (w.heap.size + 1) W w') :=
  fits_is p _ 6 40 (w.heap.size + 1) W (Pd.Lay.mono (fun b hb => by have := hb.2; omega) _ (Pd.Lay.below _ h.lt hXW)) HIW.out (by omega) (by omega)
 obtain ⟨p0, p1, p2, p3, p4, p5, p6⟩ := HP.out.all
 have i0 := HIW.out.cell
 have i1 := HIW.out.frozen
 obtain ⟨x, hx⟩ : ∃ x, Pd.fit p 6 40 = x := ⟨_, rfl⟩
 have HFX : Hid (Pd.fit p 6 40 = x) := hx
 have HL : Hid (Pd.Lay (fun _ => True) p w ⟨vk, vcol, vn, vm, vs, vset, vkids⟩) := h
 have HF : Hid (Pd.Fine p) := hF
 have HO : Hid ((x && Pd.form p) = o) := (by rw [← ho, ← hx]; rfl : (x && Pd.form p) = o)
 clear h hX1 hXW hsz hx hF ho
 unfold pvv
 simp only [sv]
 go_enter Try.func18, Try.ntmps18
 go_wp2_with fail
 go_at_call 33
 refine Calls.mono HC.out ?_
 rintro e w2 ⟨rfl, M, hIM, hM, hG⟩
 rw [HFX.out]
 have hX2 : Ex w w2 := Below.grown HXW.out hG HXW.out.size (fun k hk => by simp at hk; omega)
 have HX2 : Hid (Ex w w2) := hX2
 have hP2 : PAt w2 w.heap.size ⟨vk, vcol, vn, vm, vs, vset, vkids⟩ := HP.out.far hG (by simp)
 cases x with
 | false =>
  have HS : Hid (o = false) := (by rw [← HO.out, Bool.false_and] : o = false)
  clear hIM hM hG HC hX2 hP2
  go_wp2_with fail
  go_ret
  exact ⟨by rw [HS.out]; rfl, HX2.out⟩
 | true =>
  have HC2 : Hid (Calls Try.prog 34 #[pvv ⟨vk, vcol, vn, vm, vs, vset, vkids⟩] w2 fun e w' => e = .returned (.bool o) ∧ Ex w2 w') := rparts_is p _ w2 o (Pd.Lay.below _ HL.out hX2) HF.out (by have := HO.out; rwa [Bool.true_and] at this)
  obtain ⟨q0, q1, q2, q3, q4, q5, q6⟩ := hP2.all
  clear hIM hM hG HC hX2 hP2 p0 p1 p2 p3 p4 p5 p6 i0 i1
  go_wp2_with fail
  go_at_call 34
  refine Calls.mono HC2.out ?_
  rintro e w3 ⟨rfl, hx⟩
  have HX3 : Hid (Ex w w3) := (HX2.out.trans hx : Ex w w3)
  clear hx HC2
  go_wp2_with fail
  go_ret
  exact ⟨rfl, HX3.out⟩
end Go.Proofs.Ytibnhjfeepdddaa
namespace Go.Proofs.Ytibnhjfeepdddaa
open Go.RowKit
set_option linter.unusedVariables false
theorem val_row {f : FuncId} {args : Array Value} {wx w1 : World} {v : Value} (h : Calls Try.prog f args wx fun e w' => e = .returned v ∧ w' = wx) (hC : Ex w1 wx) :
  Calls Try.prog f args wx (fun e w' => ∃ u, e = .returned u ∧ Rg.Spec.ok (.inl v) u w' ∧ Ex wx w' ∧ Ex w1 w') :=
 h.mono fun e w' ⟨h1, h2⟩ => ⟨v, h1, rfl, by rw [h2]; exact Ex.refl _, by rw [h2]; exact hC⟩
namespace Rg
theorem good_field {P : Program} {ops : Array Oper} {specs : List Spec} {a0 : Act} {C : World → Prop} {E : World → World → Prop} {o : Oper} {t : TypeId} {x : Operand} {k : Nat} {vx v : Value} (hrefl : ∀ w, E w w) (ho : o.op = .fieldAddr t x k) (hg : guardV ops specs a0 o = some true)
  (hx : argS ops specs a0 x = .inl vx) (h : ∀ w, C w → (Instr.fieldAt t vx k).run P w = .ok v w) : GoodOp P ops specs a0 C E o (.inl v) :=
 good_val hrefl hg fun a w hC hh => by
  have h1 := hh x (by rw [ho]; simp [Op.operands])
  rw [hx] at h1
  simp only [Spec.ok] at h1
  refine ⟨v, ?_, rfl⟩
  unfold execOp
  rw [ho]
  simp only [h1, Sem.run_bind, Result.andThen, h w hC, Sem.run_pure]
end Rg
end Go.Proofs.Ytibnhjfeepdddaa
namespace Go.Proofs.Ytibnhjfeepdddaa
open Go.RowKit
set_option linter.unusedVariables false
set_option linter.unusedSimpArgs false
namespace Rg.Fr
theorem getD_set {l : Array Bool} {i j : Nat} (hi : i < l.size) : (l.setIfInBounds i true).getD j false = if i = j then true else l.getD j false := by
 by_cases h : i = j
 ·subst h; simp [hi]
 ·rw [if_neg h, getD_set_ne false h]
abbrev upd (i : Nat) (L : Nat → Bool) : Nat → Bool := fun j => if i = j then true else L j
def lst (listed : Array Bool) : Nat → Bool := fun j => listed.getD j false
theorem lst_set {l : Array Bool} {i : Nat} (hi : i < l.size) : lst (l.setIfInBounds i true) = upd i (lst l) := by
 funext j
 exact getD_set hi
section
variable {P : Program} {ops : Array Oper} {specs : List Spec} {a0 : Act} {C : World → Prop} {V : (Nat → Bool) → Act → World → Prop}
theorem rows_more {Q : Exit → Act → World → Prop} (hs : sound ops a0.tmps.size = true)
  (hst : ∀ (j : Nat) (v : Value) (w w' : World), ((specs[j]?).getD (.inl undef)).ok v w → ((specs[j]?).getD (.inl undef)).ok v w')
  (hng : ∀ (i : Nat) (o : Oper), ops[i]? = some o → o.guard = none)
  (hG : ∀ (i : Nat) (o : Oper) (L : Nat → Bool) (a : Act) (w : World), ops[i]? = some o → L i = false → (∀ e ∈ o.after, Region.binds .any e = true → L e.on = true) → a.tmps.size = a0.tmps.size → C w → (∀ x ∈ o.op.operands, (argS ops specs a0 x).ok (a.eval x) w) → V L a w →
   o.wp P a w (fun a' w' => ∃ v, a' = a.put o.dst v ∧ ((specs[i]?).getD (.inl undef)).ok v w' ∧ C w' ∧ V (upd i L) (a.put o.dst v) w') Q)
  (hF : ∀ (listed : Array Bool) (a : Act) (w : World), Inv ops specs a0 C listed a w → V (lst listed) a w → (∀ j, j < ops.size → listed.getD j false = true) → Q .normal a w) :
  ∀ (fuel : Nat) (listed : Array Bool) (a : Act) (w : World), Inv ops specs a0 C listed a w → V (lst listed) a w → listed.size = ops.size → cnt ops.size (fun j => !listed.getD j true) = fuel → wpAny P .any ops Q fuel listed a w
 | 0, listed, a, w, h, hv, hsz, hc => by
  have hall : ∀ j, j < ops.size → listed.getD j false = true := fun j hj => by
   have := cnt_zero _ _ hc j hj
   have hj' : j < listed.size := by omega
   simp [hj'] at this ⊢
   exact this
  refine ⟨?_, hF listed a w h hv hall⟩
  cases hr : Region.ready .any ops listed with
  | nil => rfl
  | cons x xs =>
   have hx : x ∈ Region.ready .any ops listed := by rw [hr]; simp
   obtain ⟨h0, o, ho, _⟩ := mem_ready.1 hx
   have hx' : x < ops.size := (Array.getElem?_eq_some_iff.1 ho).1
   have h1 := hall x hx'
   have hx2 : x < listed.size := by omega
   simp [hx2] at h0 h1
   rw [h0] at h1
   cases h1
 | fuel + 1, listed, a, w, h, hv, hsz, hc => by
  refine ⟨fun hr => hF listed a w h hv (all_listed hs hr hsz), fun i hi => ?_⟩
  have hi0 := hi
  obtain ⟨h0, o, ho, hall⟩ := mem_ready.1 hi
  have hi' : i < ops.size := (Array.getElem?_eq_some_iff.1 ho).1
  have hi2 : i < listed.size := by omega
  have hnl : lst listed i = false := by unfold lst; simp [hi2] at h0 ⊢; exact h0
  have hsees := h.sees hs ho hi
  have hw : Region.wanted o (yielded ops a.tmps) = true := by simp [Region.wanted, hng i o ho]
  unfold wpOp
  simp only [ho]
  rw [if_pos hw]
  refine .inl (Oper.wp_mono (fun a' w' hk => ?_) (hG i o (lst listed) a w ho hnl hall h.size h.cls (fun x hx => arg_ok hx hsees) hv))
  obtain ⟨v, rfl, hok, hC, hV⟩ := hk
  refine rows_more hs hst hng hG hF fuel _ _ _ (h.step (E := fun _ _ => True) hs ho hi2 (fun j v w w' h1 _ => hst j v w w' h1) trivial hC hok) (by rw [lst_set hi2]; exact hV) (by simp; exact hsz) ?_
  have hstep := cnt_step ops.size (fun j => !listed.getD j true) (fun j => !(listed.setIfInBounds i true).getD j true) i hi' (by simp [h0]) (by simp [hi2]) (fun j hj => by rw [getD_set_ne true (Ne.symm hj)])
  omega
end
theorem wp_rows_free {id : Nat} {Q : Exit → Act → World → Prop} {w : World} {l : List Oper} {a0 : Act} (V : (Nat → Bool) → Act → World → Prop) (C : World → Prop) (specs : List Spec) (n : Nat) (hm : Try.prog.follows .mixedOrders = true)
  (hn : a0.tmps.size = n) (hs : sound l.toArray n = true) (hst : Stands (fun _ _ => True) specs) (hng : l.all (fun o => o.guard.isNone) = true)
  (hC : C w.drew) (hV : V (fun _ => false) a0 w.drew)
  (hG : ∀ (i : Nat) (o : Oper) (L : Nat → Bool) (a : Act) (w' : World), l[i]? = some o → L i = false → (∀ e ∈ o.after, Region.binds .any e = true → L e.on = true) → a.tmps.size = n → C w' → (∀ x ∈ o.op.operands, (argS l.toArray specs a0 x).ok (a.eval x) w') → V L a w' →
   o.wp Try.prog a w' (fun a' w2 => ∃ v, a' = a.put o.dst v ∧ ((specs[i]?).getD (.inl undef)).ok v w2 ∧ C w2 ∧ V (upd i L) (a.put o.dst v) w2) Q)
  (hF : ∀ (w' : World), C w' → later w' (fun a' => (∃ L, (∀ j, j < l.length → L j = true) ∧ V L a' w') → Q .normal a' w') l specs a0) : (Code.region id l.toArray true).wp Try.prog Q a0 w := by
 subst hn
 refine wp_region_any hm (rows_more (specs := specs) (a0 := a0) (C := C) (V := V) hs (fun j v w w' h => stands_at specs hst j v w w' h trivial) (fun i o ho => ?_) (fun i o L a w' ho => hG i o L a w' (by simpa using ho)) ?_ _ _ _ _ ?_ ?_ (by simp) ?_)
 ·have := List.all_eq_true.1 hng o (List.mem_of_getElem? (by simpa using ho))
  simpa using this
 ·intro listed a w' hI hV hall
  have hfill : fill (fun t => a.tmps.getD t undef) l a0 = a := by
   have hz := fill_size (fun t => a.tmps.getD t undef) l a0
   refine act_ext (hz.2.trans hI.defers.symm) (hz.1.trans hI.size.symm) fun t ht => ?_
   rw [hz.1] at ht
   cases hw : writer l.toArray t with
   | none =>
    rw [fill_other _ l a0 t (fun o ho => by
     obtain ⟨j, hj⟩ := List.getElem?_of_mem ho
     exact writer_none hw j o (by simpa using hj))]
    exact (hI.slot t (by simp [hw])).symm
   | some j =>
    obtain ⟨o, ho, hd⟩ := writer_some hw
    have hmem : o ∈ l := List.mem_of_getElem? (by simpa using ho)
    rw [fill_same _ l a0 t ht ⟨o, hmem, hd⟩]
    obtain ⟨v, hv, _⟩ := hI.done t j hw (hall j (Array.getElem?_eq_some_iff.1 ho).1)
    simp [hv, Array.getD_eq_getD_getElem?]
  have h := later_fill (w := w') (K := fun a' => (∃ L, (∀ j, j < l.length → L j = true) ∧ V L a' w') → Q .normal a' w') (fun t => a.tmps.getD t undef) l specs a0 (hF w' hI.cls) (fun j o d s ho hd hss => by
   have hw := ((sound_at hs (i := j) (o := o) (by simpa using ho)).2.2 d hd).2
   obtain ⟨v, hv, hk⟩ := hI.done d j hw (hall j (by simpa using (List.getElem?_eq_some_iff.1 ho).1))
   rw [hss] at hk
   simpa [hv, Array.getD_eq_getD_getElem?] using hk)
  rw [hfill] at h
  exact h ⟨lst listed, fun j hj => hall j (by simpa using hj), hV⟩
 ·refine ⟨hC, rfl, rfl, fun t _ => rfl, fun t j _ hl => ?_⟩
  have : (Array.replicate l.toArray.size false).getD j false = false := by
   rw [Array.getD_eq_getD_getElem?, Array.getElem?_replicate]
   split <;> rfl
  rw [this] at hl
  cases hl
 ·have hr : lst (Array.replicate l.toArray.size false) = fun _ => false := by
   funext j
   unfold lst
   rw [Array.getD_eq_getD_getElem?, Array.getElem?_replicate]
   split <;> rfl
  rw [hr]
  exact hV
 ·exact cnt_all _ _ (fun j hj => by simp at hj; simp [hj])
theorem eval_tmp {a : Act} {t : Tmp} {v : Value} (h : a.tmps[t]? = some v) : a.eval (.tmp t) = v := by simp [Act.eval, Array.getD_eq_getD_getElem?, h]
theorem later_mono {w : World} {K K' : Act → Prop} (hK : ∀ a, K a → K' a) : ∀ (os : List Oper) (ss : List Spec) (a : Act), later w K os ss a → later w K' os ss a
 | [], [], a, h => hK a h
 | o :: os, s :: ss, a, h => by
  unfold later at h ⊢
  cases hd : o.dst with
  | none => rw [hd] at h; exact later_mono hK os ss a h
  | some d =>
   rw [hd] at h
   cases s with
   | inl x => exact later_mono hK os ss _ h
   | inr p => exact fun v hv => later_mono hK os ss _ (h v hv)
 | [], _ :: _, a, h => hK a h
 | _ :: _, [], a, h => by unfold later at h; exact h.elim
theorem wp_val {o : Oper} {a : Act} {w w1 : World} {v : Value} {K : Act → World → Prop} {Q : Exit → Act → World → Prop} (hr : (execOp a.eval o).run Try.prog w = .ok (.value v) w1) (h : K (a.put o.dst v) w1) : o.wp Try.prog a w K Q := by
 unfold Oper.wp; rw [hr]; exact h
theorem dep_of {o : Oper} {L : Nat → Bool} {k : Nat} (h : o.after.any (fun e => Region.binds .any e && e.on == k) = true) (hd : ∀ e ∈ o.after, Region.binds .any e = true → L e.on = true) : L k = true := by
 obtain ⟨e, he, h2⟩ := Array.any_eq_true'.1 h
 simp only [Bool.and_eq_true, beq_iff_eq] at h2
 have := hd e he h2.1
 rw [h2.2] at this
 exact this
end Rg.Fr
end Go.Proofs.Ytibnhjfeepdddaa
namespace Go.Proofs.Ytibnhjfeepdddaa
open Go.RowKit
set_option linter.unusedVariables false
namespace Rg.Fr
end Rg.Fr
end Go.Proofs.Ytibnhjfeepdddaa
namespace Go.Proofs.Ytibnhjfeepdddaa
open Go.RowKit
set_option linter.unusedVariables false
namespace Rg.Fr
end Rg.Fr
end Go.Proofs.Ytibnhjfeepdddaa
