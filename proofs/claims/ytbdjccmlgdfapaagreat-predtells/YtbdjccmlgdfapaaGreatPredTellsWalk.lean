/-
  The walk of PredTells.
-/
import Derived.Test.YtbdjccmlgdfapaaGreatGcmp
import Derived.Test.YtbdjccmlgdfapaaGreatKcut
namespace Go.Proofs.YtbdjccmlgdfapaaGreat.predTells
open Go.RowKit
set_option linter.unusedVariables false
set_option linter.unusedSimpArgs false
set_option maxHeartbeats 16000000 in
set_option maxRecDepth 100000 in
theorem walk (v0 : PV) (p0 : Pr) (p1 : Option Addr) (c1 : Nat) (l1 : List Rw) (p2 : Option Addr) (c2 : Nat) (l2 : List UInt8) (a3 : Int) (w : World) (b0 : Pd.Lay (fun _ => True) p0 w v0) (m0 : Pd.Raw p0) (b1 : RdR w p1 c1 l1) (m1 : ∀ r ∈ l1, RowOk r ∧ r.c.length ≤ 2932031007402) (b2 : Byt w p2 c2 l2) (zz2 : l2.length ≤ 140737488351232) (zz3 : -9223372036854775808 ≤ a3 ∧ a3 ≤ 9223372036854775807) :
  Calls Tryz.prog 4 #[pvv v0, .slice p1 l1.length c1, .slice p2 l2.length c2, .int .i64 a3] w fun e w' => e = .returned (.bool true) ∧ Below w.heap.size w w' := by
 obtain ⟨vk, vcol, vn, vm, vs, vset, vkids⟩ := v0
 obtain ⟨W, hW⟩ : ∃ W, w.alloc (pb ⟨vk, vcol, vn, vm, vs, vset, vkids⟩) = W := ⟨_, rfl⟩
 have hXW : Ex w W := by rw [← hW]; exact (Below.refl _ _).alloc (Nat.le_refl _) _
 have HXW : Hid (Ex w W) := hXW
 have HSW : Hid (W.heap.size = w.heap.size + 1) := (by rw [← hW]; simp : W.heap.size = w.heap.size + 1)
 have HP : Hid (PAt W w.heap.size ⟨vk, vcol, vn, vm, vs, vset, vkids⟩) := (by rw [← hW]; exact PAt.new w _ : PAt W w.heap.size _)
 have HB1 : Hid (RdR w p1 c1 l1) := b1
 have HM1 : Hid (∀ r ∈ l1, RowOk r ∧ r.c.length ≤ 2932031007402) := m1
 have HB2 : Hid (Byt w p2 c2 l2) := b2
 have y1 := b2.1
 have y2 := b2.2.1
 unfold maxLen at y2
 have HF : Hid (Pd.Fine (Pd.cut p0 7)) := Pd.cut_fine p0 m0 7
 have HDS : Hid (Pd.deep (Pd.cut p0 7) ≤ 8 ∧ Pd.size (Pd.cut p0 7) ≤ 21845) := (⟨Pd.cut_deep p0 7, Pd.cut_size p0 7⟩ : Pd.deep (Pd.cut p0 7) ≤ 8 ∧ Pd.size (Pd.cut p0 7) ≤ 21845)
 have HC0 : Hid (Calls Tryz.prog 24 #[pvv ⟨vk, vcol, vn, vm, vs, vset, vkids⟩, .int .i64 (7 : Nat)] W fun e w' => ∃ u, e = .returned (pvv u) ∧ Pd.Lay (fun b => W.heap.size ≤ b) (Pd.cut p0 7) w' u ∧ Ex W w') := cut_is p0 _ W 7 (Pd.Lay.below _ b0 hXW) m0 (by omega)
 obtain ⟨P, hP⟩ : ∃ P, Pd.cut p0 7 = P := ⟨_, rfl⟩
 rw [hP] at HF HDS HC0
 have HSZ : Hid (Pd.size P ≤ 1000000000) := (by have := HDS.out.2; omega : Pd.size P ≤ 1000000000)
 obtain ⟨n, hn⟩ : ∃ n, Pd.size P = n := ⟨_, rfl⟩
 have HNN : Hid (Pd.size P = n) := hn
 have hnb : 0 ≤ (n : Int) ∧ (n : Int) ≤ 21845 := by have := HDS.out.2; omega
 obtain ⟨p0', p1', p2', p3', p4', p5', p6'⟩ := HP.out.all
 simp only at p0' p1' p2' p3' p4' p5' p6'
 clear b0 m0 b1 m1 b2 hXW hP hn
 unfold pvv
 simp only [sv]
 go_enter Tryz.func4, Tryz.ntmps4
 go_wp2_with fail
 go_at_call 24
 refine Calls.mono HC0.out ?_
 rintro e w1 ⟨xP, rfl, hL1, hx1⟩
 have hP1 := HP.out.below hx1
 obtain ⟨w2, hw2⟩ : ∃ w2, pset w1 w.heap.size xP = w2 := ⟨_, rfl⟩
 have hg2 : w1.grownBy w2 (some w.heap.size) := by rw [← hw2]; exact grown_pset _ _ _
 have hX2 : Ex w w2 := Below.grown (HXW.out.trans hx1) hg2 (HXW.out.trans hx1).size (fun g hg => by simp at hg; omega)
 have HX2 : Hid (Ex w w2) := hX2
 have HP2 : Hid (PAt w2 w.heap.size xP) := (by rw [← hw2]; exact hP1.store xP : PAt w2 _ _)
 have HL2 : Hid (Pd.Lay (fun _ => True) P w2 xP) := (Pd.Lay.mono (fun _ _ => trivial) _ (Pd.Lay.far (row := some w.heap.size) (fun b hb e => by simp at e; have := HSW.out; omega) _ hL1 hg2) : Pd.Lay _ _ w2 xP)
 have HCS : Hid (Calls Tryz.prog 15 #[pvv xP] w2 fun e w' => e = .returned (.int .i64 (n : Int)) ∧ Ex w2 w') := rsize_row P xP w2 n HL2.out HSZ.out HNN.out
 obtain ⟨f0, f1, f2, f3, f4, f5, f6⟩ := hP1.fro
 obtain ⟨c0, c1', c2', c3, c4, c5, c6⟩ := hP1.all
 obtain ⟨q0, q1, q2, q3, q4, q5, q6⟩ := HP2.out.all
 simp only at c0 c1' c2' c3 c4 c5 c6
 clear hP1 hg2 hX2 hL1 hx1 HC0 p0' p1' p2' p3' p4' p5' p6' hW
 simp only [pvv, sv]
 go_wp2_with fail
 go_at_call 15
 refine Calls.mono HCS.out ?_
 rintro e w3 ⟨rfl, hx3⟩
 have HX3 : Hid (Ex w w3) := (HX2.out.trans hx3 : Ex w w3)
 have HP3 : Hid (PAt w3 w.heap.size xP) := (HP2.out.below hx3 : PAt w3 _ _)
 have HL3 : Hid (Pd.Lay (fun _ => True) P w3 xP) := (Pd.Lay.below _ HL2.out hx3 : Pd.Lay _ _ w3 xP)
 obtain ⟨r0, r1, r2, r3, r4, r5, r6⟩ := HP3.out.all
 clear hx3 HCS c0 c1' c2' c3 c4 c5 c6 q0 q1 q2 q3 q4 q5 q6 f0 f1 f2 f3 f4 f5 f6 hw2
 by_cases hbig : 300 < n
 ·have tb : (300 : Int) < (n : Int) := by omega
  go_wp2_with fail
  go_at_call 23
  refine (known_any _).mono ?_
  rintro e wf ⟨rfl, hxf⟩
  have HXf : Hid (Ex w wf) := (HX3.out.trans hxf : Ex w wf)
  clear hxf
  go_wp2_with fail
  go_ret
  exact ⟨rfl, HXf.out⟩
 ·have tb : ¬ (300 : Int) < (n : Int) := by omega
  have HFP : Hid (Pd.fit P 50 5000 = true) := (Pd.fit_of (by have := HDS.out.1; omega) (by have := HNN.out; omega) : Pd.fit P 50 5000 = true)
  have HCC : Hid (Pd.size P ≤ 400) := (by have := HNN.out; omega : Pd.size P ≤ 400)
  obtain ⟨⟨R, e0⟩, hE⟩ : ∃ x, Pd.encE P = x := ⟨_, rfl⟩
  have HE : Hid (Pd.encE P = (R, e0)) := hE
  have hRl : R.length ≤ 20000 := encE_len hE
  obtain ⟨o, ho⟩ : ∃ o, Pd.right P = o := ⟨_, rfl⟩
  have HO : Hid (Pd.right P = o) := ho
  obtain ⟨NP, hNP⟩ : ∃ NP, Pd.normal P = NP := ⟨_, rfl⟩
  have HNB : Hid (Pd.normal P = NP) := hNP
  have HN : Hid (Pd.normalB P = NP) := (by rw [normB HFP.out, hNP] : Pd.normalB P = NP)
  obtain ⟨CL, hCL⟩ : ∃ CL, Pd.cols P = CL := ⟨_, rfl⟩
  have HCL : Hid (Pd.cols P = CL) := hCL
  have HCE : Hid (Calls Tryz.prog 7 #[pvv xP] w3 fun e w' => ∃ p c, e = .returned (.tuple #[.slice p R.length c, .int .i64 e0]) ∧ Byt w' p c R ∧ Ex w3 w') := encode_is P xP w3 HL3.out HF.out R e0 HE.out
  clear hE ho hNP hCL
  go_wp2_with fail
  go_at_call 7
  refine Calls.mono HCE.out ?_
  rintro e w4 ⟨p5, c5, rfl, hb5, hx4⟩
  have HX4 : Hid (Ex w w4) := (HX3.out.trans hx4 : Ex w w4)
  have HP4 : Hid (PAt w4 w.heap.size xP) := (HP3.out.below hx4 : PAt w4 _ _)
  have HL4 : Hid (Pd.Lay (fun _ => True) P w4 xP) := (Pd.Lay.below _ HL3.out hx4 : Pd.Lay _ _ w4 xP)
  have HB5 : Hid (Byt w4 p5 c5 R) := hb5
  have HCF : Hid (Calls Tryz.prog 8 #[pvv xP] w4 fun e w' => ∃ p c, e = .returned (.tuple #[.slice p R.length c, .int .i64 e0]) ∧ Byt w' p c R ∧ Ex w4 w') := rEncode_is P xP w4 HL4.out HF.out HSZ.out R e0 HE.out
  obtain ⟨s0, s1, s2, s3, s4, s5, s6⟩ := HP4.out.all
  clear hb5 hx4 HCE r0 r1 r2 r3 r4 r5 r6
  go_wp2_with fail
  go_at_call 8
  refine Calls.mono HCF.out ?_
  rintro e w5 ⟨p6, c6, rfl, hb6, hx5⟩
  have HX5 : Hid (Ex w w5) := (HX4.out.trans hx5 : Ex w w5)
  have HP5 : Hid (PAt w5 w.heap.size xP) := (HP4.out.below hx5 : PAt w5 _ _)
  have HL5 : Hid (Pd.Lay (fun _ => True) P w5 xP) := (Pd.Lay.below _ HL4.out hx5 : Pd.Lay _ _ w5 xP)
  have HB55 : Hid (Byt w5 p5 c5 R) := (HB5.out.below hx5 : Byt w5 p5 c5 R)
  have HB65 : Hid (Byt w5 p6 c6 R) := hb6
  clear hb6 hx5 HCF s0 s1 s2 s3 s4 s5 s6
  go_wp2_with fail
  have hre := Ex.refl
  refine Rg.wp_rows [.inl (pvv xP), .inl (.bool o), .inl (pvv xP), .inl (.bool o), .inl (.bool false), .inl (.bool false), .inl (pvv xP), .inr (Pd.IsP (fun _ => True) NP), .inl (pvv xP), .inr (Pd.IsP (fun _ => True) NP), .inl (.bool true), .inl (.bool false), .inl (.bool false), .inl (.bool false), .inl (pvv xP), .inl (.int .i64 (n : Int)), .inl (pvv xP), .inl (.int .i64 (n : Int)), .inl (.bool false), .inl (.bool false), .inl (.bool false), .inl (pvv xP), .inr (IsRd st CL), .inl (pvv xP), .inr (IsRd st CL), .inl (.bool true), .inl (.bool false), .inl (.bool false), .inl (.bool false), .inl (Value.slice p5 R.length c5), .inl (.string (str R)), .inl (Value.slice p6 R.length c6), .inl (.string (str R)), .inl (.bool false), .inl (.bool false), .inl (.bool false), .inl (Value.int .i64 e0), .inl (Value.int .i64 e0), .inl (.bool false), .inl (.bool false)] (Ex w5) Ex 148 (by kernel_rfl) rfl (by kernel_rfl) ?st hre (Ex.drew _) ?goods ?fin
  case st => exact ⟨Pd.IsP.stands _ _, Pd.IsP.stands _ _, IsRd.stands _, IsRd.stands _, trivial⟩
  case goods =>
   refine Rg.goods_cons (Rg.good_load hre rfl rfl rfl (fun wx hC => (HP5.out.below hC).loadI)) ?_
   refine Rg.goods_cons (Rg.good_call1 Tryz.func9 (by kernel_rfl) rfl rfl rfl (by rintro y0 wx hC rfl; exact ex_rowP (right_is P xP wx (Pd.Lay.below _ HL5.out hC) HF.out o HO.out) hC)) ?_
   refine Rg.goods_cons (Rg.good_load hre rfl rfl rfl (fun wx hC => (HP5.out.below hC).loadI)) ?_
   refine Rg.goods_cons (Rg.good_call1 Tryz.func10 (by kernel_rfl) rfl rfl rfl (by rintro y0 wx hC rfl; exact ex_rowP (rRight_is P xP wx (Pd.Lay.below _ HL5.out hC) HF.out HSZ.out o HO.out) hC)) ?_
   refine Rg.goods_cons (Rg.good_bin hre rfl rfl rfl rfl (fun _ => rfl) (fun w => by cases o <;> simp [go_sem])) ?_
   refine Rg.goods_cons (Rg.good_move hre rfl rfl rfl) ?_
   refine Rg.goods_cons (Rg.good_load hre rfl rfl rfl (fun wx hC => (HP5.out.below hC).loadI)) ?_
   refine Rg.goods_cons (Rg.good_call1 Tryz.func12 (by kernel_rfl) rfl rfl rfl (by rintro y0 wx hC rfl; exact norm_row P NP xP wx (Pd.Lay.below _ HL5.out hC) HF.out HN.out hC)) ?_
   refine Rg.goods_cons (Rg.good_load hre rfl rfl rfl (fun wx hC => (HP5.out.below hC).loadI)) ?_
   refine Rg.goods_cons (Rg.good_call1 Tryz.func13 (by kernel_rfl) rfl rfl rfl (by rintro y0 wx hC rfl; exact rnorm_row P NP xP wx (Pd.Lay.below _ HL5.out hC) HF.out HSZ.out HNB.out hC)) ?_
   refine Rg.goods_cons (Rg.good_call2 Tryz.func11 (by kernel_rfl) rfl rfl rfl (by rintro y0 y1 wx hC ⟨u, rfl, hu⟩ ⟨z, rfl, hz⟩; exact ex_rowP (kpred_is NP NP u z wx true hu hz (by simp)) hC)) ?_
   refine Rg.goods_cons (Rg.good_un hre rfl rfl rfl (fun w => by go_simp)) ?_
   refine Rg.goods_cons (Rg.good_pick false hre rfl rfl rfl rfl) ?_
   refine Rg.goods_cons (Rg.good_move hre rfl rfl rfl) ?_
   refine Rg.goods_cons (Rg.good_load hre rfl rfl rfl (fun wx hC => (HP5.out.below hC).loadI)) ?_
   refine Rg.goods_cons (Rg.good_call1 Tryz.func14 (by kernel_rfl) rfl rfl rfl (by rintro y0 wx hC rfl; exact ex_rowP (size_row P xP wx n (Pd.Lay.below _ HL5.out hC) HFP.out HNN.out) hC)) ?_
   refine Rg.goods_cons (Rg.good_load hre rfl rfl rfl (fun wx hC => (HP5.out.below hC).loadI)) ?_
   refine Rg.goods_cons (Rg.good_call1 Tryz.func15 (by kernel_rfl) rfl rfl rfl (by rintro y0 wx hC rfl; exact ex_rowP (rsize_row P xP wx n (Pd.Lay.below _ HL5.out hC) HSZ.out HNN.out) hC)) ?_
   refine Rg.goods_cons (Rg.good_bin hre rfl rfl rfl rfl (fun _ => rfl) (fun w => by go_simp)) ?_
   refine Rg.goods_cons (Rg.good_pick false hre rfl rfl rfl rfl) ?_
   refine Rg.goods_cons (Rg.good_move hre rfl rfl rfl) ?_
   refine Rg.goods_cons (Rg.good_load hre rfl rfl rfl (fun wx hC => (HP5.out.below hC).loadI)) ?_
   refine Rg.goods_cons (Rg.good_call1 Tryz.func17 (by kernel_rfl) rfl rfl rfl (by rintro y0 wx hC rfl; exact isrd_row (cols_row P CL xP wx (Pd.Lay.below _ HL5.out hC) HFP.out HCL.out) hC)) ?_
   refine Rg.goods_cons (Rg.good_load hre rfl rfl rfl (fun wx hC => (HP5.out.below hC).loadI)) ?_
   refine Rg.goods_cons (Rg.good_call1 Tryz.func18 (by kernel_rfl) rfl rfl rfl (by rintro y0 wx hC rfl; exact isrd_row (rcols_row P CL xP wx (Pd.Lay.below _ HL5.out hC) HCC.out HCL.out) hC)) ?_
   refine Rg.goods_cons (Rg.good_call2 Tryz.func16 (by kernel_rfl) rfl rfl rfl (by rintro y0 y1 wx hC ⟨a1, k1, rfl, h1⟩ ⟨a2, k2, rfl, h2⟩; exact ex_rowP (ktexts_is a1 a2 _ _ k1 k2 CL CL wx rfl rfl h1 h2 true (by simp)) hC)) ?_
   refine Rg.goods_cons (Rg.good_un hre rfl rfl rfl (fun w => by go_simp)) ?_
   refine Rg.goods_cons (Rg.good_pick false hre rfl rfl rfl rfl) ?_
   refine Rg.goods_cons (Rg.good_move hre rfl rfl rfl) ?_
   refine Rg.goods_cons (Rg.good_move hre rfl rfl rfl) ?_
   refine Rg.goods_cons (Rg.good_conv hre rfl rfl (by rintro u wx hC rfl; exact run_str (HB55.out.below hC) rfl)) ?_
   refine Rg.goods_cons (Rg.good_move hre rfl rfl rfl) ?_
   refine Rg.goods_cons (Rg.good_conv hre rfl rfl (by rintro u wx hC rfl; exact run_str (HB65.out.below hC) rfl)) ?_
   refine Rg.goods_cons (Rg.good_bin hre rfl rfl rfl rfl (fun _ => rfl) (fun w => by go_simp)) ?_
   refine Rg.goods_cons (Rg.good_pick false hre rfl rfl rfl rfl) ?_
   refine Rg.goods_cons (Rg.good_move hre rfl rfl rfl) ?_
   refine Rg.goods_cons (Rg.good_move hre rfl rfl rfl) ?_
   refine Rg.goods_cons (Rg.good_move hre rfl rfl rfl) ?_
   refine Rg.goods_cons (Rg.good_bin hre rfl rfl rfl rfl (fun _ => rfl) (fun w => by go_simp)) ?_
   refine Rg.goods_cons (Rg.good_pick false hre rfl rfl rfl rfl) ?_
   exact Rg.goods_nil
  case fin =>
   intro wx hx
   simp only [Rg.later, Act.put, List.setIfInBounds_toArray, List.set_cons_succ, List.set_cons_zero]
   intro _ _ _ _ _ _ _ _
   have HX6 : Hid (Ex w wx) := (HX5.out.trans hx : Ex w wx)
   have HP6 : Hid (PAt wx w.heap.size xP) := (HP5.out.below hx : PAt wx _ _)
   have HL6 : Hid (Pd.Lay (fun _ => True) P wx xP) := (Pd.Lay.below _ HL5.out hx : Pd.Lay _ _ wx xP)
   have HB66 : Hid (Byt wx p6 c6 R) := (HB65.out.below hx : Byt wx p6 c6 R)
   have HCK : Hid (Calls Tryz.prog 25 #[.slice p1 l1.length c1, .int .i64 10] wx fun e w' => ∃ v, e = .returned v ∧ OwnL w' wx.heap.size v (Rw.short l1 10) ∧ Ex wx w') := kshort_is p1 _ c1 l1 10 wx rfl (HB1.out.below HX6.out) ⟨by omega, by omega⟩ (fun r hr => (HM1.out r hr).2)
   clear hx
   go_wp2_with fail
   go_at_call 25
   refine Calls.mono HCK.out ?_
   rintro e w12 ⟨sv12, rfl, hO12, hx12⟩
   obtain ⟨sa, scp, rfl, hRS⟩ := hO12.rd
   obtain ⟨S, hS⟩ : ∃ S, Rw.short l1 10 = S := ⟨_, rfl⟩
   have HSOK : Hid (∀ r ∈ S, RwOk r) := (by
    rw [← hS]
    intro r hr
    simp only [Rw.short, List.mem_map] at hr
    obtain ⟨q, hq, rfl⟩ := hr
    exact shr_ok (HM1.out q (List.mem_of_mem_take hq)).1 : ∀ r ∈ S, RwOk r)
   rw [hS] at hRS ⊢
   have hSl : S.length ≤ 10 := by rw [← hS]; simp [Rw.short]; omega
   have hbo := hRS.bounds
   have hcm : scp ≤ 9223372036854775807 := by have := hbo.2.1; unfold maxLen at this; omega
   have hcl : S.length ≤ scp := hbo.1
   have HRS : Hid (RdR w12 sa scp S) := hRS
   have HX12 : Hid (Ex wx w12) := (hx12 : Ex wx w12)
   have HXw12 : Hid (Ex w w12) := (HX6.out.trans hx12 : Ex w w12)
   clear hO12 hx12 HCK hS hbo hRS
   go_wp2_with fail
   go_loopw [13, 14] (fun iv tv wr => ∃ i : Nat, i ≤ S.length ∧ iv = .int .i64 i ∧ Hid (Ex w12 wr)) (fun iv tv wr => S.length - (intOf iv).toNat)
   case atStart => exact ⟨0, by omega, rfl, Ex.refl w12⟩
   case round =>
    obtain ⟨i, hi, rfl, HXr⟩ := hrel
    have HX6r : Hid (Ex wx wr) := (HX12.out.trans HXr.out : Ex wx wr)
    have HXwr : Hid (Ex w wr) := (HXw12.out.trans HXr.out : Ex w wr)
    by_cases hlt : i < S.length
    ·have hti : (i : Int) < (S.length : Int) := by omega
     obtain ⟨b, off, ta, tc, hpp, t0, t1, t2, hTr⟩ := (HRS.out.below HXr.out).at hlt
     obtain ⟨x, hx⟩ : ∃ x, S[i] = x := ⟨_, rfl⟩
     rw [hx] at t0 t1 t2 hTr
     have HXO : Hid (RwOk x) := HSOK.out x (by rw [← hx]; exact List.getElem_mem hlt)
     have HC13 : Hid (Calls Tryz.prog 26 #[rvv ⟨x.t, x.q, ta, x.c.length, tc⟩, .int .i64 i] wr fun e w' => ∃ u : RV, e = .returned (rvv u) ∧ RvOk w' u (Rw.tame x i) ∧ Ex wr w') := tame_is ⟨x.t, x.q, ta, x.c.length, tc⟩ x i wr ⟨rfl, rfl, rfl, hTr⟩ HXO.out
     have HRX : Hid (RvOk wr ⟨x.t, x.q, ta, x.c.length, tc⟩ x) := (⟨rfl, rfl, rfl, hTr⟩ : RvOk _ _ _)
     have HXS : Hid (∀ c ∈ x.c, c.s.length ≤ maxLen) := (fun c hc => (HXO.out.2.2 c hc).2.1 : ∀ c ∈ x.c, c.s.length ≤ maxLen)
     obtain ⟨xl, hxl⟩ : ∃ xl, x.c.length = xl := ⟨_, rfl⟩
     rw [hxl] at HC13 t2 HRX
     have HT0 : Hid (wr.cell? ⟨b, off + i * 3, none⟩ = some (.int .i64 x.t) ∧ wr.cell? ⟨b, off + i * 3 + 1, none⟩ = some (.int .i64 x.q) ∧ wr.cell? ⟨b, off + i * 3 + 2, none⟩ = some (.slice ta xl tc)) := (⟨t0, t1, t2⟩ : _ ∧ _)
     have HBL : Hid (b < wr.heap.size) := (World.block_lt_of_cell? wr _ t0 : b < wr.heap.size)
     subst hpp
     clear hx hTr hxl
     go_wp2_with fail
     go_at_call 26
     refine Calls.mono HC13.out ?_
     rintro e w14 ⟨⟨tt, tq, tb', tn, tcp⟩, rfl, hT14, hx14⟩
     obtain ⟨T, hT⟩ : ∃ T, Rw.tame x i = T := ⟨_, rfl⟩
     have HTS : Hid (∀ c ∈ T.c, c.s.length ≤ maxLen) := (by rw [← hT]; exact tame_short x i : ∀ c ∈ T.c, c.s.length ≤ maxLen)
     rw [hT] at hT14
     obtain ⟨w15, hw15⟩ : ∃ w15, w14.alloc (rb ⟨tt, tq, tb', tn, tcp⟩) = w15 := ⟨_, rfl⟩
     have hX1415 : Ex w14 w15 := by rw [← hw15]; exact (Below.refl _ _).alloc (Nat.le_refl _) _
     have HXr15 : Hid (Ex wr w15) := (hx14.trans hX1415 : Ex wr w15)
     have HX15 : Hid (Ex wx w15) := (HX6r.out.trans HXr15.out : Ex wx w15)
     have HX1215 : Hid (Ex w12 w15) := (HXr.out.trans HXr15.out : Ex w12 w15)
     have HT15 : Hid (LAt w15 w14.heap.size ⟨tt, tq, tb', tn, tcp⟩) := (by rw [← hw15]; exact LAt.new w14 _ : LAt w15 _ _)
     have HRT : Hid (RvOk w15 ⟨tt, tq, tb', tn, tcp⟩ T) := (hT14.below hX1415 : RvOk w15 _ T)
     have HP15 : Hid (PAt w15 w.heap.size xP) := (HP6.out.below HX15.out : PAt w15 _ _)
     have HL15 : Hid (Pd.Lay (fun _ => True) P w15 xP) := (Pd.Lay.below _ HL6.out HX15.out : Pd.Lay _ _ w15 xP)
     have HRX15 : Hid (RvOk w15 ⟨x.t, x.q, ta, xl, tc⟩ x) := (HRX.out.below HXr15.out : RvOk w15 _ x)
     have HT0' : Hid (∀ wy, Ex w15 wy → (Instr.loadAt 44 (.pointer (some ⟨b, off + i * 3, none⟩))).run Tryz.prog wy = .ok (rvv ⟨x.t, x.q, ta, xl, tc⟩) wy) := (fun wy hy => by
      have hc := Below.cell (HXr15.out.trans hy) (p := ⟨b, off + i * 3, none⟩) HBL.out
      have hc1 := Below.cell (HXr15.out.trans hy) (p := ⟨b, off + i * 3 + 1, none⟩) HBL.out
      have hc2 := Below.cell (HXr15.out.trans hy) (p := ⟨b, off + i * 3 + 2, none⟩) HBL.out
      exact loadI_row (hc.trans HT0.out.1) (hc1.trans HT0.out.2.1) (hc2.trans HT0.out.2.2) : ∀ wy, Ex w15 wy → _)
     obtain ⟨z, hz⟩ : ∃ z, Pd.ev T P = z := ⟨_, rfl⟩
     have HZ : Hid (Pd.ev T P = z) := hz
     obtain ⟨y, hy⟩ : ∃ y, Pd.ev x P = y := ⟨_, rfl⟩
     have HY : Hid (Pd.ev x P = y) := hy
     clear hz hy hT hT14 hx14 hX1415 HC13 t0 t1 t2
     simp only [rvv, sv]
     go_wp2_with fail
     have hre := Ex.refl
     refine Rg.wp_rows [.inl (pvv xP), .inl (Value.slice (some ⟨b, off, none⟩) S.length scp), .inl (Value.int .i64 (i : Int)), .inl (Value.pointer (some ⟨b, off + i * 3, none⟩)), .inl (rvv ⟨x.t, x.q, ta, xl, tc⟩), .inl (.bool y), .inl (pvv xP), .inl (Value.slice (some ⟨b, off, none⟩) S.length scp), .inl (Value.int .i64 (i : Int)), .inl (Value.pointer (some ⟨b, off + i * 3, none⟩)), .inl (rvv ⟨x.t, x.q, ta, xl, tc⟩), .inl (.bool y), .inl (.bool false), .inl (.bool false), .inl (pvv xP), .inl (rvv ⟨tt, tq, tb', tn, tcp⟩), .inl (.bool z), .inl (pvv xP), .inl (rvv ⟨tt, tq, tb', tn, tcp⟩), .inl (.bool z), .inl (.bool false), .inl (.bool false)] (Ex w15) Ex 148 (by kernel_rfl) rfl (by kernel_rfl) ?st hre (Ex.drew _) ?goods ?fin
     case st => exact trivial
     case goods =>
      refine Rg.goods_cons (Rg.good_load hre rfl rfl rfl (fun wx hC => (HP15.out.below hC).loadI)) ?_
      refine Rg.goods_cons (Rg.good_move hre rfl rfl rfl) ?_
      refine Rg.goods_cons (Rg.good_move hre rfl rfl rfl) ?_
      refine Rg.goods_cons (Rg.good_index hre rfl rfl rfl rfl (fun wx hC => by go_simp)) ?_
      refine Rg.goods_cons (Rg.good_load hre rfl rfl rfl (fun wx hC => HT0'.out wx hC)) ?_
      refine Rg.goods_cons (Rg.good_call2 Tryz.func19 (by kernel_rfl) rfl rfl rfl (by rintro y0 y1 wx hC rfl rfl; exact ex_rowP (ev_is P x xP _ wx (Pd.Lay.below _ HL15.out hC) HF.out (HRX15.out.below hC) HXS.out HFP.out y HY.out) hC)) ?_
      refine Rg.goods_cons (Rg.good_load hre rfl rfl rfl (fun wx hC => (HP15.out.below hC).loadI)) ?_
      refine Rg.goods_cons (Rg.good_move hre rfl rfl rfl) ?_
      refine Rg.goods_cons (Rg.good_move hre rfl rfl rfl) ?_
      refine Rg.goods_cons (Rg.good_index hre rfl rfl rfl rfl (fun wx hC => by go_simp)) ?_
      refine Rg.goods_cons (Rg.good_load hre rfl rfl rfl (fun wx hC => HT0'.out wx hC)) ?_
      refine Rg.goods_cons (Rg.good_call2 Tryz.func20 (by kernel_rfl) rfl rfl rfl (by rintro y0 y1 wx hC rfl rfl; exact ex_rowP (reval_is x HXS.out P HF.out xP _ wx y (Pd.Lay.below _ HL15.out hC) (HRX15.out.below hC) HY.out) hC)) ?_
      refine Rg.goods_cons (Rg.good_bin hre rfl rfl rfl rfl (fun _ => rfl) (fun w => by cases y <;> simp [go_sem])) ?_
      refine Rg.goods_cons (Rg.good_move hre rfl rfl rfl) ?_
      refine Rg.goods_cons (Rg.good_load hre rfl rfl rfl (fun wx hC => (HP15.out.below hC).loadI)) ?_
      refine Rg.goods_cons (Rg.good_load hre rfl rfl rfl (fun wx hC => rload (HT15.out.below hC))) ?_
      refine Rg.goods_cons (Rg.good_call2 Tryz.func19 (by kernel_rfl) rfl rfl rfl (by rintro y0 y1 wx hC rfl rfl; exact ex_rowP (ev_is P T xP _ wx (Pd.Lay.below _ HL15.out hC) HF.out (HRT.out.below hC) HTS.out HFP.out z HZ.out) hC)) ?_
      refine Rg.goods_cons (Rg.good_load hre rfl rfl rfl (fun wx hC => (HP15.out.below hC).loadI)) ?_
      refine Rg.goods_cons (Rg.good_load hre rfl rfl rfl (fun wx hC => rload (HT15.out.below hC))) ?_
      refine Rg.goods_cons (Rg.good_call2 Tryz.func20 (by kernel_rfl) rfl rfl rfl (by rintro y0 y1 wx hC rfl rfl; exact ex_rowP (reval_is T HTS.out P HF.out xP _ wx z (Pd.Lay.below _ HL15.out hC) (HRT.out.below hC) HZ.out) hC)) ?_
      refine Rg.goods_cons (Rg.good_bin hre rfl rfl rfl rfl (fun _ => rfl) (fun w => by cases z <;> simp [go_sem])) ?_
      refine Rg.goods_cons (Rg.good_pick false hre rfl rfl rfl rfl) ?_
      exact Rg.goods_nil
     case fin =>
      intro wx' hx
      simp only [Rg.later, Act.put, List.setIfInBounds_toArray, List.set_cons_succ, List.set_cons_zero]
      have HX16 : Hid (Ex w12 wx') := (HX1215.out.trans hx : Ex w12 wx')
      clear hx
      go_wp2_with fail
      go_roundw
      case rel => exact ⟨i + 1, by omega, by go_num, HX16⟩
      case measure => simp [intOf]; omega
    ·have hti : ¬ (i : Int) < (S.length : Int) := by omega
     obtain ⟨Db, hDb⟩ : ∃ Db, l2 ++ R = Db := ⟨_, rfl⟩
     have HDb : Hid (l2 ++ R = Db) := hDb
     obtain ⟨⟨Q, k2, e2⟩, hdec⟩ : ∃ x, Pd.dec Db a3 = x := ⟨_, rfl⟩
     have HDC : Hid (Pd.dec Db a3 = (Q, k2, e2)) := hdec
     have HB2r : Hid (Byt wr p2 c2 l2) := (HB2.out.below HXwr.out : Byt wr p2 c2 l2)
     have HB6r : Hid (Byt wr p6 c6 R) := (HB66.out.below HX6r.out : Byt wr p6 c6 R)
     have hszr : ∃ q, q = wr := ⟨_, rfl⟩
     clear hDb hdec hszr
     go_wp2_with (first
      | (refine wpList_build_own rfl 113 rfl 0 [] rfl (by decide) (fun _ => by kernel_rfl) wr.heap.size (Nat.le_refl _) ?_; intro g45 w45 ho45 hx45)
      | (at_builtin; refine wpList_append_big rfl (.tmp 113) (.tmp 114) rfl wr.heap.size _ [] rfl ho45 _ _ _ l2 rfl rfl (HB2r.out.below hx45) (by simp; omega) (Ex.size hx45) ?_; intro v47 w47 ho47 hg47; have X47 : Ex wr w47 := step_below0 hx45 (Ex.size hx45) ho45 hg47; clear hg47; rw [List.nil_append] at ho47)
      | (at_builtin; refine wpList_append_big rfl (.tmp 115) (.tmp 116) rfl wr.heap.size _ l2 rfl ho47 _ _ _ R rfl rfl (HB6r.out.below X47) (by omega) (Ex.size X47) ?_; intro v49 w49 ho49 hg49; have X49 : Ex wr w49 := step_below0 X47 (Ex.size X47) ho47 hg49; clear hg49; rw [HDb.out] at ho49; obtain ⟨ad, cd, hvd, hbd'⟩ := ho49.byt; subst hvd))
     have HX49 : Hid (Ex w w49) := (HXwr.out.trans X49 : Ex w w49)
     have HBd : Hid (Byt w49 ad cd Db) := hbd'
     have HCD : Hid (Calls Tryz.prog 21 #[.slice ad Db.length cd, .int .i64 a3] w49 fun x w' => ∃ u, x = .returned (.tuple #[pvv u, .int .i64 (k2 : Int), .int .i64 (e2 : Int)]) ∧ Pd.Lay (fun g => w49.heap.size ≤ g) Q w' u ∧ Ex w49 w') := decode_is ad _ cd Db a3 w49 HBd.out rfl Q k2 e2 HDC.out
     have hcd := hbd'.1
     have hcd2 := hbd'.2.1
     unfold maxLen at hcd2
     clear hbd' ho49 ho47 ho45 hx45 X47 X49
     go_at_call 21
     refine Calls.mono HCD.out ?_
     rintro e w7 ⟨xD, rfl, hL7, hx7⟩
     obtain ⟨w8, hw8⟩ : ∃ w8, w7.alloc (pb xD) = w8 := ⟨_, rfl⟩
     have hx8 : Ex w7 w8 := by rw [← hw8]; exact (Below.refl _ _).alloc (Nat.le_refl _) _
     have HX8 : Hid (Ex w w8) := (HX49.out.trans (hx7.trans hx8) : Ex w w8)
     have HPD : Hid (PAt w8 w7.heap.size xD) := (by rw [← hw8]; exact PAt.new w7 xD : PAt w8 _ _)
     have HLD : Hid (Pd.Lay (fun _ => True) Q w8 xD) := (Pd.Lay.mono (fun _ _ => trivial) _ (Pd.Lay.below _ hL7 hx8) : Pd.Lay _ _ w8 xD)
     have HCD2 : Hid (Calls Tryz.prog 22 #[.slice ad Db.length cd, .int .i64 a3] w8 fun x w' => ∃ u, x = .returned (.tuple #[pvv u, .int .i64 (k2 : Int), .int .i64 (e2 : Int)]) ∧ Pd.Lay (fun g => w8.heap.size ≤ g) Q w' u ∧ Ex w8 w') := rdecode_is ad _ cd Db a3 w8 (HBd.out.below (hx7.trans hx8)) rfl Q k2 e2 HDC.out
     clear hL7 hx7 hx8 HCD
     simp only [pvv, sv]
     go_wp2_with fail
     go_at_call 22
     refine Calls.mono HCD2.out ?_
     rintro e w9 ⟨xE, rfl, hL9, hx9⟩
     obtain ⟨w10, hw10⟩ : ∃ w10, w9.alloc (pb xE) = w10 := ⟨_, rfl⟩
     have hx10 : Ex w9 w10 := by rw [← hw10]; exact (Below.refl _ _).alloc (Nat.le_refl _) _
     have HX10 : Hid (Ex w w10) := (HX8.out.trans (hx9.trans hx10) : Ex w w10)
     have HPD10 : Hid (PAt w10 w7.heap.size xD) := (HPD.out.below (hx9.trans hx10) : PAt w10 _ _)
     have HPE : Hid (PAt w10 w9.heap.size xE) := (by rw [← hw10]; exact PAt.new w9 xE : PAt w10 _ _)
     have HCK2 : Hid (Calls Tryz.prog 11 #[pvv xD, pvv xE] w10 fun e w' => e = .returned (.bool true) ∧ Ex w10 w') := kpred_is Q Q xD xE w10 true (Pd.Lay.below _ HLD.out (hx9.trans hx10)) (Pd.Lay.mono (fun _ _ => trivial) _ (Pd.Lay.below _ hL9 hx10)) (by simp)
     obtain ⟨g0, g1, g2, g3, g4, g5, g6⟩ := HPD10.out.all
     obtain ⟨u0, u1, u2, u3, u4, u5, u6⟩ := HPE.out.all
     clear hL9 hx9 hx10 HCD2 hw8
     simp only [pvv, sv]
     go_wp2_with fail
     go_at_call 11
     refine Calls.mono HCK2.out ?_
     rintro e w11 ⟨rfl, hx11⟩
     have HX11 : Hid (Ex w w11) := (HX10.out.trans hx11 : Ex w w11)
     clear hx11 HCK2 g0 g1 g2 g3 g4 g5 g6 u0 u1 u2 u3 u4 u5 u6 hw10
     go_wp2_with fail
     go_at_call 23
     refine (known_any _).mono ?_
     rintro e wf ⟨rfl, hxf⟩
     have HXf : Hid (Ex w wf) := (HX11.out.trans hxf : Ex w wf)
     clear hxf
     go_wp2_with fail
     go_ret
     exact ⟨rfl, HXf.out⟩
end Go.Proofs.YtbdjccmlgdfapaaGreat.predTells
