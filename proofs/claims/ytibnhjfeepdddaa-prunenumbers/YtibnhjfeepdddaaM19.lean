/-
  The landed rightParts and Right. Steps of a region whose order is open: the address of a field; a callee's answer as a sentence. A region whose order is open, by what is so of each listing: beside each operation's own sentence one more sentence, over what is listed. A region whose order is open, of quiet operations and two stores, the second behind the first ('a, b = x[0], x[1]', each in a block of its own): what is read is the same behind either store. A region whose order is open, of operations that turn nothing and one store: what is read is the same ahead of it and behind it.
-/
import Derived.Test.YtibnhjfeepdddaaM18
import Derived.Test.YtibnhjfeepdddaaM13
import Derived.Test.YtibnhjfeepdddaaM04
namespace Go.Proofs.Ytibnhjfeepdddaa
open Go.RowKit
set_option linter.unusedVariables false
set_option linter.unusedSimpArgs false
namespace Pd
/-- Each part is one that the callees bear. -/
def Fine : Pr → Prop := rec' fun h l a => HdFit h ∧ l.length ≤ 1000 ∧ ∀ x ∈ a, x
theorem fine_mk (h : Hd) (l : List Pr) : Fine (Pr.mk' h l) ↔ HdFit h ∧ l.length ≤ 1000 ∧ ∀ x ∈ l, Fine x := by
 rw [Fine, rec_mk]
 constructor
 ·rintro ⟨h1, h0, h2⟩
  exact ⟨h1, h0, fun x hx => h2 _ (List.mem_map.2 ⟨x, hx, rfl⟩)⟩
 ·rintro ⟨h1, h0, h2⟩
  refine ⟨h1, h0, fun x hx => ?_⟩
  obtain ⟨y, hy, rfl⟩ := List.mem_map.1 hx
  exact h2 y hy
theorem form_kids {h : Hd} {l : List Pr} (hp : part h l.length = true) (ha : ∀ k ∈ l, form k = true) : form (Pr.mk' h l) = true := by
 rw [form_mk, hp, Bool.true_and, List.all_eq_true]; exact ha
theorem form_kid {h : Hd} {l : List Pr} {k : Pr} (hk : k ∈ l) (hf : form k = false) : form (Pr.mk' h l) = false := by
 rw [form_mk]
 have : l.all form = false := by rw [List.all_eq_false]; exact ⟨k, hk, by rw [hf]; simp⟩
 rw [this, Bool.and_false]
end Pd
set_option maxHeartbeats 4000000 in
set_option maxRecDepth 100000 in
theorem rparts_is : ∀ (p : Pr) (v : PV) (w : World) (o : Bool), Pd.Lay (fun _ => True) p w v → Pd.Fine p → Pd.form p = o →
  Calls Try.prog 34 #[pvv v] w fun e w' => e = .returned (.bool o) ∧ Ex w w' := by
 refine Pd.tree ?_
 intro h l ih v w o hL hFi ho
 rw [Pd.fine_mk] at hFi
 obtain ⟨hF, _, hFk⟩ := hFi
 obtain ⟨hHd, hkn, hkB, hkc, hkm, hk0⟩ := hL.head
 obtain ⟨vk, vcol, vn, vm, vs, vset, ⟨p, n, cap⟩⟩ := v
 simp only at hkn hkB hkc hkm hk0
 subst hkn
 have HIH : Hid (∀ k ∈ l, ∀ (v : PV) (w : World) (o : Bool), Pd.Lay (fun _ => True) k w v → Pd.Fine k → Pd.form k = o → Calls Try.prog 34 #[pvv v] w fun e w' => e = .returned (.bool o) ∧ Ex w w') := ih
 have HFK : Hid (∀ k ∈ l, Pd.Fine k) := hFk
 have HO : Hid (Pd.form (Pr.mk' h l) = o) := ho
 have HLw : Hid (Pd.Lay (fun _ => True) (Pr.mk' h l) w ⟨vk, vcol, vn, vm, vs, vset, p, l.length, cap⟩) := hL
 obtain ⟨W, hW⟩ : ∃ W, w.alloc (pb ⟨vk, vcol, vn, vm, vs, vset, p, l.length, cap⟩) = W := ⟨_, rfl⟩
 have hXW : Ex w W := by rw [← hW]; exact (Below.refl _ _).alloc (Nat.le_refl _) _
 have HXW : Hid (Ex w W) := hXW
 have HP : Hid (PAt W w.heap.size ⟨vk, vcol, vn, vm, vs, vset, p, l.length, cap⟩) := (by rw [← hW]; exact PAt.new w _ : PAt W w.heap.size _)
 obtain ⟨pt, hpt⟩ : ∃ x, Pd.part h l.length = x := ⟨_, rfl⟩
 have HPT : Hid (Pd.part h l.length = pt) := hpt
 have HC : Hid (Calls Try.prog 58 #[pvv ⟨vk, vcol, vn, vm, vs, vset, p, l.length, cap⟩] W fun e w' => e = .returned (.bool pt) ∧ Ex W w') :=
  rpart_is h l.length _ W (hHd.below hXW) hF rfl (by omega) pt hpt
 obtain ⟨p0, p1, p2, p3, p4, p5, p6⟩ := HP.out.all
 simp only at p0 p1 p2 p3 p4 p5 p6
 unfold maxLen at hkm
 clear hL hHd hkB ho ih hXW hpt hF hFk
 unfold pvv
 simp only [sv]
 go_enter Try.func34, Try.ntmps34
 go_wp2_with fail
 go_at_call 58
 refine Calls.mono HC.out ?_
 rintro e w2 ⟨rfl, hx⟩
 have HX2 : Hid (Ex w w2) := (HXW.out.trans hx : Ex w w2)
 have q6 := (HP.out.below hx).all.2.2.2.2.2.2
 simp only at q6
 clear hx HC p0 p1 p2 p3 p4 p5 p6
 cases pt with
 | false =>
  have HF : Hid (o = false) := (by rw [← HO.out, Pd.form_mk, HPT.out, Bool.false_and] : o = false)
  go_wp2_with fail
  go_ret
  exact ⟨by rw [HF.out]; rfl, HX2.out⟩
 | true =>
  go_wp2_with fail
  go_loopw [11, 4] (fun iv kv wr => ∃ i : Nat, i ≤ l.length ∧ iv = .int .i64 i ∧ Hid (∀ k ∈ l.take i, Pd.form k = true) ∧ Hid (Ex w wr)) (fun iv kv wr => l.length - (intOf iv).toNat)
  case atStart => exact ⟨0, by omega, rfl, (by simp : ∀ k ∈ l.take 0, Pd.form k = true), HX2⟩
  case round =>
   obtain ⟨i, hi, rfl, HA, HXr⟩ := hrel
   by_cases hlt : i < l.length
   ·have hti : (i : Int) < (l.length : Int) := by omega
    have hLr := Pd.Lay.below _ HLw.out HXr.out
    obtain ⟨b, off, u, hpp, hbg, hLk, e0, e1, e2, e3, e4, e5, e6⟩ := hLr.kid hlt
    simp only at hpp
    obtain ⟨k, hk⟩ : ∃ k, l[i] = k := ⟨_, rfl⟩
    rw [hk] at hLk
    have HK : Hid (k ∈ l) := (by rw [← hk]; exact List.getElem_mem hlt : k ∈ l)
    have HNX : Hid (l.take (i + 1) = l.take i ++ [k]) := (by rw [List.take_add_one, List.getElem?_eq_getElem hlt, hk]; rfl : l.take (i + 1) = l.take i ++ [k])
    obtain ⟨w1, hw1⟩ : ∃ w1, wr.alloc (pb u) = w1 := ⟨_, rfl⟩
    have hX1 : Ex wr w1 := by rw [← hw1]; exact (Below.refl _ _).alloc (Nat.le_refl _) _
    have HX1 : Hid (Ex w w1) := (HXr.out.trans hX1 : Ex w w1)
    obtain ⟨x, hx⟩ : ∃ x, Pd.form k = x := ⟨_, rfl⟩
    have HFX : Hid (Pd.form k = x) := hx
    have HC : Hid (Calls Try.prog 34 #[pvv u] w1 fun e w' => e = .returned (.bool x) ∧ Ex w1 w') := HIH.out k HK.out u w1 x (Pd.Lay.below _ hLk hX1) (HFK.out k HK.out) hx
    have HP1 : Hid (PAt w1 wr.heap.size u) := (by rw [← hw1]; exact PAt.new wr u : PAt w1 wr.heap.size u)
    obtain ⟨q0, q1, q2, q3, q4, q5, q6⟩ := HP1.out.all
    subst hpp
    clear hLr hLk hk hX1 hbg hx
    go_wp2_with fail
    go_at_call 34
    refine Calls.mono HC.out ?_
    rintro e w3 ⟨rfl, hx⟩
    have HX3 : Hid (Ex w w3) := (HX1.out.trans hx : Ex w w3)
    clear hx HC
    cases x with
    | true =>
     have HA2 : Hid (∀ c ∈ l.take (i + 1), Pd.form c = true) := (by
      intro c hc
      rw [HNX.out] at hc
      rcases List.mem_append.1 hc with hc | hc
      ·exact HA.out c hc
      ·rw [List.mem_singleton] at hc; subst hc; exact HFX.out : ∀ c ∈ l.take (i + 1), Pd.form c = true)
     go_wp2_with fail
     go_roundw
     case rel => exact ⟨i + 1, by omega, by go_num, HA2, HX3⟩
     case measure => simp [intOf]; omega
    | false =>
     have HF : Hid (o = false) := (by rw [← HO.out]; exact Pd.form_kid HK.out HFX.out : o = false)
     go_wp2_with fail
     go_ret
     exact ⟨by rw [HF.out]; rfl, HX3.out⟩
   ·have hti : ¬ (i : Int) < (l.length : Int) := by omega
    have hil : l.take i = l := List.take_of_length_le (by omega)
    have HT : Hid (o = true) := (by rw [← HO.out]; exact Pd.form_kids HPT.out (by have := HA.out; rwa [hil] at this) : o = true)
    clear hil
    go_wp2_with fail
    go_ret
    exact ⟨by rw [HT.out]; rfl, HXr.out⟩
set_option maxHeartbeats 1000000 in
set_option maxRecDepth 100000 in
theorem right_is (p : Pr) (v : PV) (w : World) (h : Pd.Lay (fun _ => True) p w v) (hF : Pd.Fine p) (o : Bool) (ho : Pd.right p = o) : Calls Try.prog 18 #[pvv v] w fun e w' => e = .returned (.bool o) ∧ Ex w w' := by
 obtain ⟨vk, vcol, vn, vm, vs, vset, vkids⟩ := v
 obtain ⟨W, hW⟩ : ∃ W, (w.alloc (pb ⟨vk, vcol, vn, vm, vs, vset, vkids⟩)).alloc (.cells #[.int .i64 40] 3) = W := ⟨_, rfl⟩
 have hX1 : Ex w (w.alloc (pb ⟨vk, vcol, vn, vm, vs, vset, vkids⟩)) := (Below.refl _ _).alloc (Nat.le_refl _) _
 have hXW : Ex w W := by rw [← hW]; exact Below.alloc hX1 (by simp) _
 have hsz : (w.alloc (pb ⟨vk, vcol, vn, vm, vs, vset, vkids⟩)).heap.size = w.heap.size + 1 := by simp
 have HIW : Hid (IAt W (w.heap.size + 1) 40) := (by rw [← hW, ← hsz]; exact IAt.new _ _ : IAt W (w.heap.size + 1) 40)
 have HXW : Hid (Ex w W) := hXW
 have HP : Hid (PAt W w.heap.size ⟨vk, vcol, vn, vm, vs, vset, vkids⟩) := (by rw [← hW]; exact (PAt.new w _).alloc _ : PAt W w.heap.size _)
 have HC : Hid (Calls Try.prog 33 #[pvv ⟨vk, vcol, vn, vm, vs, vset, vkids⟩, .int .i64 (6 : Nat), .pointer (some ⟨w.heap.size + 1, 0, none⟩)] W fun e w' => e = .returned (.bool (Pd.fit p 6 40)) ∧ FitsR p 6 40 (w.heap.size + 1) W w') :=
  fits_is p _ 6 40 (w.heap.size + 1) W (Pd.Lay.mono (fun b hb => by have := hb.2; omega) _ (Pd.Lay.below _ h.lt hXW)) HIW.out (by omega) (by omega)
 obtain ⟨p0, p1, p2, p3, p4, p5, p6⟩ := HP.out.all
 have i0 := HIW.out.cell
 have i1 := HIW.out.frozen
 obtain ⟨x, hx⟩ : ∃ x, Pd.fit p 6 40 = x := ⟨_, rfl⟩
 have HFX : Hid (Pd.fit p 6 40 = x) := hx
 have HL : Hid (Pd.Lay (fun _ => True) p w ⟨vk, vcol, vn, vm, vs, vset, vkids⟩) := h
 have HF : Hid (Pd.Fine p) := hF
 have HO : Hid ((x && Pd.form p) = o) := (by rw [← ho, ← hx]; rfl : (x && Pd.form p) = o)
 clear h hX1 hXW hsz hx hF ho
 unfold pvv
 simp only [sv]
 go_enter Try.func18, Try.ntmps18
 go_wp2_with fail
 go_at_call 33
 refine Calls.mono HC.out ?_
 rintro e w2 ⟨rfl, M, hIM, hM, hG⟩
 rw [HFX.out]
 have hX2 : Ex w w2 := Below.grown HXW.out hG HXW.out.size (fun k hk => by simp at hk; omega)
 have HX2 : Hid (Ex w w2) := hX2
 have hP2 : PAt w2 w.heap.size ⟨vk, vcol, vn, vm, vs, vset, vkids⟩ := HP.out.far hG (by simp)
 cases x with
 | false =>
  have HS : Hid (o = false) := (by rw [← HO.out, Bool.false_and] : o = false)
  clear hIM hM hG HC hX2 hP2
  go_wp2_with fail
  go_ret
  exact ⟨by rw [HS.out]; rfl, HX2.out⟩
 | true =>
  have HC2 : Hid (Calls Try.prog 34 #[pvv ⟨vk, vcol, vn, vm, vs, vset, vkids⟩] w2 fun e w' => e = .returned (.bool o) ∧ Ex w2 w') := rparts_is p _ w2 o (Pd.Lay.below _ HL.out hX2) HF.out (by have := HO.out; rwa [Bool.true_and] at this)
  obtain ⟨q0, q1, q2, q3, q4, q5, q6⟩ := hP2.all
  clear hIM hM hG HC hX2 hP2 p0 p1 p2 p3 p4 p5 p6 i0 i1
  go_wp2_with fail
  go_at_call 34
  refine Calls.mono HC2.out ?_
  rintro e w3 ⟨rfl, hx⟩
  have HX3 : Hid (Ex w w3) := (HX2.out.trans hx : Ex w w3)
  clear hx HC2
  go_wp2_with fail
  go_ret
  exact ⟨rfl, HX3.out⟩
end Go.Proofs.Ytibnhjfeepdddaa
namespace Go.Proofs.Ytibnhjfeepdddaa
open Go.RowKit
set_option linter.unusedVariables false
theorem val_row {f : FuncId} {args : Array Value} {wx w1 : World} {v : Value} (h : Calls Try.prog f args wx fun e w' => e = .returned v ∧ w' = wx) (hC : Ex w1 wx) :
  Calls Try.prog f args wx (fun e w' => ∃ u, e = .returned u ∧ Rg.Spec.ok (.inl v) u w' ∧ Ex wx w' ∧ Ex w1 w') :=
 h.mono fun e w' ⟨h1, h2⟩ => ⟨v, h1, rfl, by rw [h2]; exact Ex.refl _, by rw [h2]; exact hC⟩
namespace Rg
theorem good_field {P : Program} {ops : Array Oper} {specs : List Spec} {a0 : Act} {C : World → Prop} {E : World → World → Prop} {o : Oper} {t : TypeId} {x : Operand} {k : Nat} {vx v : Value} (hrefl : ∀ w, E w w) (ho : o.op = .fieldAddr t x k) (hg : guardV ops specs a0 o = some true)
  (hx : argS ops specs a0 x = .inl vx) (h : ∀ w, C w → (Instr.fieldAt t vx k).run P w = .ok v w) : GoodOp P ops specs a0 C E o (.inl v) :=
 good_val hrefl hg fun a w hC hh => by
  have h1 := hh x (by rw [ho]; simp [Op.operands])
  rw [hx] at h1
  simp only [Spec.ok] at h1
  refine ⟨v, ?_, rfl⟩
  unfold execOp
  rw [ho]
  simp only [h1, Sem.run_bind, Result.andThen, h w hC, Sem.run_pure]
end Rg
end Go.Proofs.Ytibnhjfeepdddaa
namespace Go.Proofs.Ytibnhjfeepdddaa
open Go.RowKit
set_option linter.unusedVariables false
set_option linter.unusedSimpArgs false
namespace Rg.Fr
section
variable {P : Program} {ops : Array Oper} {specs : List Spec} {a0 : Act} {C : World → Prop} {V : (Nat → Bool) → Act → World → Prop}
end
theorem wp_val {o : Oper} {a : Act} {w w1 : World} {v : Value} {K : Act → World → Prop} {Q : Exit → Act → World → Prop} (hr : (execOp a.eval o).run Try.prog w = .ok (.value v) w1) (h : K (a.put o.dst v) w1) : o.wp Try.prog a w K Q := by
 unfold Oper.wp; rw [hr]; exact h
end Rg.Fr
end Go.Proofs.Ytibnhjfeepdddaa
namespace Go.Proofs.Ytibnhjfeepdddaa
open Go.RowKit
set_option linter.unusedVariables false
namespace Rg.Fr
end Rg.Fr
end Go.Proofs.Ytibnhjfeepdddaa
namespace Go.Proofs.Ytibnhjfeepdddaa
open Go.RowKit
set_option linter.unusedVariables false
namespace Rg.Fr
end Rg.Fr
end Go.Proofs.Ytibnhjfeepdddaa
