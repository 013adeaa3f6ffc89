/-
  The document's own normal and Normal. The document's own Judge.
-/
import Derived.Test.YtibnhjfeepdddaaM44
import Derived.Test.YtibnhjfeepdddaaM45
import Derived.Test.YtibnhjfeepdddaaM46
import Derived.Test.YtibnhjfeepdddaaM47
import Derived.Test.YtibnhjfeepdddaaM43
import Derived.Test.YtibnhjfeepdddaaM40
namespace Go.Proofs.Ytibnhjfeepdddaa
open Go.RowKit
set_option linter.unusedVariables false
set_option linter.unusedSimpArgs false
/-- normal, whatever it is given. -/
theorem rnorm_is : ∀ q, NormC q := by
 intro q
 refine Pd.tree (fun h l ih => ?_) q
 intro b B v w hL hB hF hs
 have hp : Pd.part h l.length = true := by
  have := hF
  rw [Pd.form_mk, Bool.and_eq_true] at this
  exact this.1
 have hk := Pd.part_kind hp
 by_cases h1 : h.k = 1
 ·cases b with
  | false => exact rnorm_1f h l ih h1 B v w hL hB hF hs
  | true => exact rnorm_1t h l ih h1 B v w hL hB hF hs
 by_cases h2 : h.k = 2
 ·cases b with
  | false => exact rnorm_2f h l ih h2 B v w hL hB hF hs
  | true => exact rnorm_2t h l ih h2 B v w hL hB hF hs
 by_cases h3 : h.k = 3
 ·exact rnorm_not h l b ih h3 B v w hL hB hF hs
 exact rnorm_test h l b ih (by omega) B v w hL hB hF hs
set_option maxHeartbeats 4000000 in
set_option maxRecDepth 100000 in
/-- Normal: what it answers may share the memory of what came in. -/
theorem rNormal_is (q : Pr) (B : Nat → Prop) (v : PV) (w : World) (hL : Pd.Lay B q w v) (hB : ∀ x, B x → x < w.heap.size) (hF : Pd.Fine q) (hs : Pd.size q ≤ 1000000000) : Calls Try.prog 32 #[pvv v] w fun e w' => ∃ u, e = .returned (pvv u) ∧ Pd.Lay (fun x => B x ∨ w.heap.size ≤ x) (Pd.normal q) w' u ∧ Ex w w' := by
 obtain ⟨W, hW⟩ : ∃ W, (w.alloc (pb v)).alloc pb0 = W := ⟨_, rfl⟩
 have hX1 : Ex w (w.alloc (pb v)) := (Below.refl _ _).alloc (Nat.le_refl _) _
 have hXW : Ex w W := by rw [← hW]; exact Below.alloc hX1 (by simp) _
 have HXW : Hid (Ex w W) := hXW
 have HSZ : Hid (W.heap.size = w.heap.size + 2) := (by rw [← hW]; simp : W.heap.size = w.heap.size + 2)
 have HP : Hid (PAt W w.heap.size v) := (by rw [← hW]; exact (PAt.new w _).alloc _ : PAt W w.heap.size _)
 have HZ : Hid (PAt W (w.heap.size + 1) PV.zero) := (by
  rw [← hW]
  exact PAt.newat (w.alloc (pb v)) (w.heap.size + 1) PV.zero (by simp) : PAt W (w.heap.size + 1) PV.zero)
 have HLW : Hid (Pd.Lay B q W v) := (Pd.Lay.below _ hL hXW : Pd.Lay _ _ W _)
 have HBL : Hid (∀ x, B x → x < w.heap.size) := hB
 have HF : Hid (Pd.Fine q) := hF
 obtain ⟨p0, p1, p2, p3, p4, p5, p6⟩ := HP.out.all
 obtain ⟨r, hr⟩ : ∃ r, Pd.right q = r := ⟨_, rfl⟩
 have HR : Hid (Pd.right q = r) := hr
 have HC : Hid (Calls Try.prog 30 #[pvv v] W fun e w' => e = .returned (.bool r) ∧ Ex W w') := rRight_is q _ W (Pd.Lay.mono (fun _ _ => trivial) _ HLW.out) hF hs r hr
 clear hL hF hX1 hXW hr hB hs
 unfold pvv
 simp only [sv]
 go_enter Try.func32, Try.ntmps32
 go_wp2_with fail
 go_at_call 30
 refine Calls.mono HC.out ?_
 rintro e w2 ⟨rfl, hx2⟩
 have HX2 : Hid (Ex w w2) := (HXW.out.trans hx2 : Ex w w2)
 have HXW2 : Hid (Ex W w2) := hx2
 have hP2 := HP.out.below hx2
 obtain ⟨q0, q1, q2, q3, q4, q5, q6⟩ := hP2.all
 clear HC hx2 hP2 p0 p1 p2 p3 p4 p5 p6 hW
 cases r with
 | true =>
  have HC : Hid (Calls Try.prog 57 #[pvv v, .bool false] w2 fun e w' => ∃ u, e = .returned (pvv u) ∧ Pd.Lay (fun x => B x ∨ w2.heap.size ≤ x) (Pd.nrm q false) w' u ∧ Ex w2 w') := rnorm_is q false B _ w2 (Pd.Lay.below _ HLW.out HXW2.out) (fun x hx => Nat.lt_of_lt_of_le (HBL.out x hx) HX2.out.size) (Pd.form_fit HR.out).1 (Pd.form_fit HR.out).2.1
  have HN : Hid (Pd.normal q = Pd.nrm q false) := (by unfold Pd.normal; rw [if_pos HR.out] : Pd.normal q = Pd.nrm q false)
  go_wp2_with fail
  go_at_call 57
  refine Calls.mono HC.out ?_
  rintro e w3 ⟨u2, rfl, hL3, hx3⟩
  have HL3 : Hid (Pd.Lay (fun x => B x ∨ w2.heap.size ≤ x) (Pd.nrm q false) w3 u2) := hL3
  have HX3 : Hid (Ex w w3) := (HX2.out.trans hx3 : Ex w w3)
  have HZ3 : Hid (PAt w3 (w.heap.size + 1) PV.zero) := (HZ.out.below HXW2.out).below hx3
  obtain ⟨z0, z1, z2, z3, z4, z5, z6⟩ := HZ3.out.fro
  obtain ⟨y0, y1, y2, y3, y4, y5, y6⟩ := HZ3.out.all
  clear hL3 hx3 HC q0 q1 q2 q3 q4 q5 q6
  simp only [pvv, sv]
  go_wp2_with fail
  have hP9 := HZ3.out.store u2
  have hX9 := Below.pset HX3.out (Nat.le_succ _) u2
  refine bodyPost_ret (v := pvv u2) (res_pred Try.results32 rfl hP9) rfl ⟨_, rfl, ?_, hX9⟩
  rw [HN.out]
  have h1 := HSZ.out
  have h2 := HXW2.out.size
  exact Pd.Lay.mono (fun x hx => hx.imp id fun h => by omega) _ (Pd.Lay.far (row := some (w.heap.size + 1)) (fun x hx e => by simp at e; rcases hx with hx | hx; (have := HBL.out x hx; omega); omega) _ HL3.out (grown_pset _ _ _))
 | false =>
  have HN : Hid (Pd.normal q = q) := (by unfold Pd.normal; rw [if_neg (by rw [HR.out]; simp)] : Pd.normal q = q)
  have HZ2 : Hid (PAt w2 (w.heap.size + 1) PV.zero) := HZ.out.below HXW2.out
  obtain ⟨z0, z1, z2, z3, z4, z5, z6⟩ := HZ2.out.fro
  obtain ⟨y0, y1, y2, y3, y4, y5, y6⟩ := HZ2.out.all
  go_wp2_with fail
  have hP9 := HZ2.out.store v
  have hX9 := Below.pset HX2.out (Nat.le_succ _) v
  refine bodyPost_ret (v := pvv v) (res_pred Try.results32 rfl hP9) rfl ⟨_, rfl, ?_, hX9⟩
  rw [HN.out]
  exact Pd.Lay.mono (fun x hx => .inl hx) _ (Pd.Lay.far (row := some (w.heap.size + 1)) (fun x hx e => by simp at e; have := HBL.out x hx; omega) _ (Pd.Lay.below _ HLW.out HXW2.out) (grown_pset _ _ _))
end Go.Proofs.Ytibnhjfeepdddaa
namespace Go.Proofs.Ytibnhjfeepdddaa
open Go.RowKit
set_option linter.unusedVariables false
set_option linter.unusedSimpArgs false
set_option maxHeartbeats 8000000 in
set_option maxRecDepth 100000 in
theorem rJudge_is (s : St) (hF : StFine s) (p : Pr) (hFi : Pd.Fine p) (hs : Pd.size p ≤ 1000000000) (v : PV) (tv : TV) (fl : Int) (w : World) (hL : Pd.Lay (fun _ => True) p w v) (hS : StOk w tv s) (o : Nat) (ho : Pu.judge s (Pu.fg fl) p = o) :
  Calls Try.prog 11 #[pvv v, tvv tv, .int .i64 fl] w fun e w' => e = .returned (.int .i64 (o : Int)) ∧ Ex w w' := by
 obtain ⟨vk, vcol, vn, vm, vs, ⟨sa, sn, sc⟩, ⟨ka, kn, kc⟩⟩ := v
 obtain ⟨tr, tl, th, ⟨za, zn, zc⟩, ⟨ba, bn, bc'⟩⟩ := tv
 obtain ⟨W, hW⟩ : ∃ W, (w.alloc (pb ⟨vk, vcol, vn, vm, vs, (sa, sn, sc), (ka, kn, kc)⟩)).alloc (tb ⟨tr, tl, th, (za, zn, zc), (ba, bn, bc')⟩ 46) = W := ⟨_, rfl⟩
 have hX1 : Ex w (w.alloc (pb ⟨vk, vcol, vn, vm, vs, (sa, sn, sc), (ka, kn, kc)⟩)) := (Below.refl _ _).alloc (Nat.le_refl _) _
 have hXW : Ex w W := by rw [← hW]; exact Below.alloc hX1 (by simp) _
 have HXW : Hid (Ex w W) := hXW
 have HP : Hid (PAt W w.heap.size ⟨vk, vcol, vn, vm, vs, (sa, sn, sc), (ka, kn, kc)⟩) := (by rw [← hW]; exact (PAt.new w _).alloc _ : PAt W w.heap.size _)
 have HT : Hid (TAt W (w.heap.size + 1) ⟨tr, tl, th, (za, zn, zc), (ba, bn, bc')⟩ 46) := (by
  have h := TAt.new (w.alloc (pb ⟨vk, vcol, vn, vm, vs, (sa, sn, sc), (ka, kn, kc)⟩)) ⟨tr, tl, th, (za, zn, zc), (ba, bn, bc')⟩ 46
  have hs : (w.alloc (pb ⟨vk, vcol, vn, vm, vs, (sa, sn, sc), (ka, kn, kc)⟩)).heap.size = w.heap.size + 1 := by simp
  rw [hs] at h
  rw [← hW]; exact h : TAt W (w.heap.size + 1) _ 46)
 have HS : Hid (StOk W ⟨tr, tl, th, (za, zn, zc), (ba, bn, bc')⟩ s) := hS.below hXW
 have HL : Hid (Pd.Lay (fun _ => True) p W ⟨vk, vcol, vn, vm, vs, (sa, sn, sc), (ka, kn, kc)⟩) := Pd.Lay.below _ hL hXW
 have hsr : tr = s.rows := hS.1.1
 obtain ⟨r, hr⟩ : ∃ r, Pd.right p = r := ⟨_, rfl⟩
 have HR : Hid (Pd.right p = r) := hr
 have HFi : Hid (Pd.Fine p) := hFi
 have HSF : Hid (StFine s) := hF
 have HSZ : Hid (Pd.size p ≤ 1000000000) := hs
 have HC1 : Hid (Calls Try.prog 30 #[pvv ⟨vk, vcol, vn, vm, vs, (sa, sn, sc), (ka, kn, kc)⟩] W fun e w' => e = .returned (.bool r) ∧ Ex W w') := rRight_is p _ W HL.out hFi hs r hr
 have HO : Hid ((if r = true then (if tr = 0 then 1 else Pu.jd s (Pu.fg fl) (Pd.nrm p false)) else 2) = o) := (by rw [← ho, Pu.judge, hr, hsr] : (if r = true then (if tr = 0 then 1 else Pu.jd s (Pu.fg fl) (Pd.nrm p false)) else 2) = o)
 obtain ⟨p0, p1, p2, p3, p4, p5, p6⟩ := HP.out.all
 obtain ⟨t0, t1, t2, t3, t4⟩ := HT.out.all
 simp only at p0 p1 p2 p3 p4 p5 p6 t0 t1 t2 t3 t4
 simp only [tb, sv] at hW
 clear hL hXW hX1 hS ho hr hFi hF hsr
 unfold pvv tvv
 simp only [sv]
 go_enter Try.func11, Try.ntmps11
 go_wp2_with fail
 go_at_call 30
 refine Calls.mono HC1.out ?_
 rintro e w2 ⟨rfl, hx2⟩
 have HX2 : Hid (Ex W w2) := hx2
 clear hx2 HC1 p0 p1 p2 p3 p4 p5 p6 t0 t1 t2 t3 t4 hW
 obtain ⟨t0, t1, t2, t3, t4⟩ := (HT.out.below HX2.out).all
 simp only at t0 t1 t2 t3 t4
 cases r with
 | false =>
  go_wp2_with fail
  go_ret
  exact ⟨by rw [← HO.out]; rfl, HXW.out.trans HX2.out⟩
 | true =>
  by_cases h0 : tr = 0
  ·have HZ : Hid (o = 1) := (by rw [← HO.out, if_pos rfl, if_pos h0] : o = 1)
   have hb : (tr == 0) = true := by simp [h0]
   clear h0
   go_wp2_with fail
   go_ret
   exact ⟨by rw [HZ.out]; rfl, HXW.out.trans HX2.out⟩
  ·have HZ : Hid (Pu.jd s (Pu.fg fl) (Pd.nrm p false) = o) := (by rw [← HO.out, if_pos rfl, if_neg h0] : Pu.jd s (Pu.fg fl) (Pd.nrm p false) = o)
   have hb : (tr == 0) = false := beq_eq_false_iff_ne.2 h0
   have HFN : Hid (Pd.form (Pd.nrm p false) = true) := (Pd.form_nrm p (Pu.right_form HR.out) false : Pd.form (Pd.nrm p false) = true)
   have HP2 : Hid (PAt w2 w.heap.size ⟨vk, vcol, vn, vm, vs, (sa, sn, sc), (ka, kn, kc)⟩) := HP.out.below HX2.out
   have HT2 : Hid (TAt w2 (w.heap.size + 1) ⟨tr, tl, th, (za, zn, zc), (ba, bn, bc')⟩ 46) := HT.out.below HX2.out
   have HS2 : Hid (StOk w2 ⟨tr, tl, th, (za, zn, zc), (ba, bn, bc')⟩ s) := HS.out.below HX2.out
   have HL2 : Hid (Pd.Lay (fun _ => True) p w2 ⟨vk, vcol, vn, vm, vs, (sa, sn, sc), (ka, kn, kc)⟩) := Pd.Lay.below _ HL.out HX2.out
   clear h0 HO
   go_wp2_with fail
   have hre := Ex.refl
   refine Rg.wp_rows [.inl (pvv ⟨vk, vcol, vn, vm, vs, (sa, sn, sc), (ka, kn, kc)⟩), .inr (Pd.IsP (fun _ => True) (Pd.nrm p false)), .inl (tvv ⟨tr, tl, th, (za, zn, zc), (ba, bn, bc')⟩), .inl (.int .i64 fl), .inl (.int .i64 (o : Int)), .inl (.int .i64 (o : Int))] (Ex w2) Ex 18 (by kernel_rfl) rfl (by kernel_rfl) ?st hre (Ex.drew _) ?goods ?fin
   case st => exact ⟨Pd.IsP.stands _ _, trivial⟩
   case goods =>
    refine Rg.goods_cons (Rg.good_load hre rfl rfl rfl (fun wx hC => (HP2.out.below hC).loadI)) ?_
    refine Rg.goods_cons (Rg.good_call1 Try.func32 (by kernel_rfl) rfl rfl rfl (by
     rintro v0 wx hC rfl
     refine (rNormal_is p (fun b => True ∧ b < wx.heap.size) _ wx (Pd.Lay.lt _ (Pd.Lay.below _ HL2.out hC)) (fun x hx => hx.2) HFi.out HSZ.out).mono ?_
     rintro e w' ⟨u, rfl, hu, hx⟩
     exact ⟨_, rfl, ⟨u, rfl, Pd.Lay.mono (fun _ _ => trivial) _ (by have h := hu; rw [Pd.normal, if_pos HR.out] at h; exact h)⟩, hx, hC.trans hx⟩)) ?_
    refine Rg.goods_cons (Rg.good_load hre rfl rfl rfl (fun wx hC => loadI_stats46 (HT2.out.below hC))) ?_
    refine Rg.goods_cons (Rg.good_move hre rfl rfl rfl) ?_
    refine Rg.goods_cons (Rg.good_call3 Try.func31 (by kernel_rfl) rfl rfl rfl (by
     rintro v0 v1 v2 wx hC ⟨u, rfl, hu⟩ rfl rfl
     exact ex_rowP (rjd_is s HSF.out fl _ HFN.out u _ wx o hu (HS2.out.below hC) HZ.out) hC)) ?_
    refine Rg.goods_cons (Rg.good_assign hre rfl rfl rfl) ?_
    exact Rg.goods_nil
   case fin =>
    intro wx hx
    simp only [Rg.later, Act.put, List.setIfInBounds_toArray, List.set_cons_succ, List.set_cons_zero]
    have HX9 : Hid (Ex w wx) := ((HXW.out.trans HX2.out).trans hx : Ex w wx)
    clear hx
    intro vin hin
    go_wp2_with fail
    go_ret
    exact ⟨rfl, HX9.out⟩
end Go.Proofs.Ytibnhjfeepdddaa
