/-
  The landed prune: Judge.
-/
import Derived.Test.YtibnhjfeepdddaaM31
namespace Go.Proofs.Ytibnhjfeepdddaa
open Go.RowKit
set_option linter.unusedVariables false
set_option linter.unusedSimpArgs false
set_option maxHeartbeats 8000000 in
set_option maxRecDepth 100000 in
theorem pJudge_is (s : St) (hF : StFine s) (p : Pr) (hFi : Pd.Fine p) (v : PV) (tv : TV) (fl : Int) (w : World) (hL : Pd.Lay (fun _ => True) p w v) (hS : StOk w tv s) (o : Nat) (ho : Pu.judge s (Pu.fg fl) p = o) :
  Calls Try.prog 10 #[pvv v, tvv tv, .int .i64 fl] w fun e w' => e = .returned (.int .i64 (o : Int)) ∧ Ex w w' := by
 obtain ⟨vk, vcol, vn, vm, vs, ⟨sa, sn, sc⟩, ⟨ka, kn, kc⟩⟩ := v
 obtain ⟨tr, tl, th, ⟨za, zn, zc⟩, ⟨ba, bn, bc'⟩⟩ := tv
 obtain ⟨W, hW⟩ : ∃ W, (w.alloc (pb ⟨vk, vcol, vn, vm, vs, (sa, sn, sc), (ka, kn, kc)⟩)).alloc (tb ⟨tr, tl, th, (za, zn, zc), (ba, bn, bc')⟩ 38) = W := ⟨_, rfl⟩
 have hX1 : Ex w (w.alloc (pb ⟨vk, vcol, vn, vm, vs, (sa, sn, sc), (ka, kn, kc)⟩)) := (Below.refl _ _).alloc (Nat.le_refl _) _
 have hXW : Ex w W := by rw [← hW]; exact Below.alloc hX1 (by simp) _
 have HXW : Hid (Ex w W) := hXW
 have HP : Hid (PAt W w.heap.size ⟨vk, vcol, vn, vm, vs, (sa, sn, sc), (ka, kn, kc)⟩) := (by rw [← hW]; exact (PAt.new w _).alloc _ : PAt W w.heap.size _)
 have HT : Hid (TAt W (w.heap.size + 1) ⟨tr, tl, th, (za, zn, zc), (ba, bn, bc')⟩ 38) := (by
  have h := TAt.new (w.alloc (pb ⟨vk, vcol, vn, vm, vs, (sa, sn, sc), (ka, kn, kc)⟩)) ⟨tr, tl, th, (za, zn, zc), (ba, bn, bc')⟩ 38
  have hs : (w.alloc (pb ⟨vk, vcol, vn, vm, vs, (sa, sn, sc), (ka, kn, kc)⟩)).heap.size = w.heap.size + 1 := by simp
  rw [hs] at h
  rw [← hW]; exact h : TAt W (w.heap.size + 1) _ 38)
 have HS : Hid (StOk W ⟨tr, tl, th, (za, zn, zc), (ba, bn, bc')⟩ s) := hS.below hXW
 have HL : Hid (Pd.Lay (fun _ => True) p W ⟨vk, vcol, vn, vm, vs, (sa, sn, sc), (ka, kn, kc)⟩) := Pd.Lay.below _ hL hXW
 have hsr : tr = s.rows := hS.1.1
 obtain ⟨r, hr⟩ : ∃ r, Pd.right p = r := ⟨_, rfl⟩
 have HR : Hid (Pd.right p = r) := hr
 have HFi : Hid (Pd.Fine p) := hFi
 have HSF : Hid (StFine s) := hF
 have HC1 : Hid (Calls Try.prog 18 #[pvv ⟨vk, vcol, vn, vm, vs, (sa, sn, sc), (ka, kn, kc)⟩] W fun e w' => e = .returned (.bool r) ∧ Ex W w') := right_is p _ W HL.out hFi r hr
 have HO : Hid ((if r = true then (if tr = 0 then 1 else Pu.jd s (Pu.fg fl) (Pd.nrm p false)) else 2) = o) := (by rw [← ho, Pu.judge, hr, hsr] : (if r = true then (if tr = 0 then 1 else Pu.jd s (Pu.fg fl) (Pd.nrm p false)) else 2) = o)
 obtain ⟨p0, p1, p2, p3, p4, p5, p6⟩ := HP.out.all
 obtain ⟨t0, t1, t2, t3, t4⟩ := HT.out.all
 simp only at p0 p1 p2 p3 p4 p5 p6 t0 t1 t2 t3 t4
 simp only [tb, sv] at hW
 clear hL hXW hX1 hS ho hr hFi hF hsr
 unfold pvv tvv
 simp only [sv]
 go_enter Try.func10, Try.ntmps10
 go_wp2_with fail
 go_at_call 18
 refine Calls.mono HC1.out ?_
 rintro e w2 ⟨rfl, hx2⟩
 have HX2 : Hid (Ex W w2) := hx2
 clear hx2 HC1 p0 p1 p2 p3 p4 p5 p6 t0 t1 t2 t3 t4 hW
 obtain ⟨t0, t1, t2, t3, t4⟩ := (HT.out.below HX2.out).all
 simp only at t0 t1 t2 t3 t4
 cases r with
 | false =>
  go_wp2_with fail
  go_ret
  exact ⟨by rw [← HO.out]; rfl, HXW.out.trans HX2.out⟩
 | true =>
  by_cases h0 : tr = 0
  ·have HZ : Hid (o = 1) := (by rw [← HO.out, if_pos rfl, if_pos h0] : o = 1)
   have hb : (tr == 0) = true := by simp [h0]
   clear h0
   go_wp2_with fail
   go_ret
   exact ⟨by rw [HZ.out]; rfl, HXW.out.trans HX2.out⟩
  ·have HZ : Hid (Pu.jd s (Pu.fg fl) (Pd.nrm p false) = o) := (by rw [← HO.out, if_pos rfl, if_neg h0] : Pu.jd s (Pu.fg fl) (Pd.nrm p false) = o)
   have hb : (tr == 0) = false := beq_eq_false_iff_ne.2 h0
   have HFN : Hid (Pd.form (Pd.nrm p false) = true) := (Pd.form_nrm p (Pu.right_form HR.out) false : Pd.form (Pd.nrm p false) = true)
   have HP2 : Hid (PAt w2 w.heap.size ⟨vk, vcol, vn, vm, vs, (sa, sn, sc), (ka, kn, kc)⟩) := HP.out.below HX2.out
   have HT2 : Hid (TAt w2 (w.heap.size + 1) ⟨tr, tl, th, (za, zn, zc), (ba, bn, bc')⟩ 38) := HT.out.below HX2.out
   have HS2 : Hid (StOk w2 ⟨tr, tl, th, (za, zn, zc), (ba, bn, bc')⟩ s) := HS.out.below HX2.out
   have HL2 : Hid (Pd.Lay (fun _ => True) p w2 ⟨vk, vcol, vn, vm, vs, (sa, sn, sc), (ka, kn, kc)⟩) := Pd.Lay.below _ HL.out HX2.out
   clear h0 HO
   go_wp2_with fail
   have hre := Ex.refl
   refine Rg.wp_rows [.inl (pvv ⟨vk, vcol, vn, vm, vs, (sa, sn, sc), (ka, kn, kc)⟩), .inr (Pd.IsP (fun _ => True) (Pd.nrm p false)), .inl (tvv ⟨tr, tl, th, (za, zn, zc), (ba, bn, bc')⟩), .inl (.int .i64 fl), .inl (.int .i64 (o : Int)), .inl (.int .i64 (o : Int))] (Ex w2) Ex 20 (by kernel_rfl) rfl (by kernel_rfl) ?st hre (Ex.drew _) ?goods ?fin
   case st => exact ⟨Pd.IsP.stands _ _, trivial⟩
   case goods =>
    refine Rg.goods_cons (Rg.good_load hre rfl rfl rfl (fun wx hC => (HP2.out.below hC).loadI)) ?_
    refine Rg.goods_cons (Rg.good_call1 Try.func29 (by kernel_rfl) rfl rfl rfl (by
     rintro v0 wx hC rfl
     refine (normalN_is p _ wx (Pd.Lay.below _ HL2.out hC) HFi.out).mono ?_
     rintro e w' ⟨u, rfl, hu, hx⟩
     exact ⟨_, rfl, ⟨u, rfl, Pd.Lay.mono (fun _ _ => trivial) _ (by have h := hu; rw [Pd.normalB, if_pos HR.out] at h; exact h)⟩, hx, hC.trans hx⟩)) ?_
    refine Rg.goods_cons (Rg.good_load hre rfl rfl rfl (fun wx hC => loadI_stats38 (HT2.out.below hC))) ?_
    refine Rg.goods_cons (Rg.good_move hre rfl rfl rfl) ?_
    refine Rg.goods_cons (Rg.good_call3 Try.func28 (by kernel_rfl) rfl rfl rfl (by
     rintro v0 v1 v2 wx hC ⟨u, rfl, hu⟩ rfl rfl
     exact ex_rowP (pjd_is s HSF.out fl _ HFN.out u _ wx o hu (HS2.out.below hC) HZ.out) hC)) ?_
    refine Rg.goods_cons (Rg.good_assign hre rfl rfl rfl) ?_
    exact Rg.goods_nil
   case fin =>
    intro wx hx
    simp only [Rg.later, Act.put, List.setIfInBounds_toArray, List.set_cons_succ, List.set_cons_zero]
    have HX9 : Hid (Ex w wx) := ((HXW.out.trans HX2.out).trans hx : Ex w wx)
    clear hx
    intro vin hin
    go_wp2_with fail
    go_ret
    exact ⟨rfl, HX9.out⟩
end Go.Proofs.Ytibnhjfeepdddaa
