/-
  The walk of PredBack.
-/
import Derived.Test.YtbdjccmlgdfapaaLdec
import Derived.Test.YtbdjccmlgdfapaaLput
import Derived.Test.YtbdjccmlgdfapaaKcut
import Derived.Test.YtbdjccmlgdfapaaBig
namespace Go.Proofs.Ytbdjccmlgdfapaa.predBack
open Go.RowKit
set_option linter.unusedVariables false
set_option linter.unusedSimpArgs false
theorem dec_fine (b : List UInt8) (p : Int) : Pd.Fine (Pd.dec b p).1 := by
  have h := congrArg Prod.fst (Pd.ldec_is b p)
  simp only at h
  rw [← h]
  unfold Pd.ldec
  simp only
  split
  · split
    · exact Pd.fine_zero
    · exact Pd.lpart_fine 6 _
  · split
    · exact Pd.fine_zero
    · exact Pd.lpart_fine 6 _
theorem enc_len {p : Pr} (h : Pd.right p = true) : (Pd.enc p).length ≤ 20000 := by
  unfold Pd.right at h
  simp only [Bool.and_eq_true, decide_eq_true_eq] at h
  have h1 := Pd.enc_len p h.2
  omega
set_option maxHeartbeats 16000000 in
set_option maxRecDepth 100000 in
theorem walk (v0 : PV) (p0 : Pr) (p1 : Option Addr) (c1 : Nat) (l1 : List UInt8) (p2 : Option Addr) (c2 : Nat) (l2 : List UInt8) (w : World) (b0 : Pd.Lay (fun _ => True) p0 w v0) (m0 : Pd.Raw p0) (b1 : Byt w p1 c1 l1) (z1 : l1.length ≤ 140737488351232) (b2 : Byt w p2 c2 l2) (z2 : l2.length ≤ 140737488351232) :
    Calls Try.prog 4 #[pvv v0, .slice p1 l1.length c1, .slice p2 l2.length c2] w fun e w' => e = .returned (.bool true) ∧ Below w.heap.size w w' := by
  obtain ⟨vk, vcol, vn, vm, vs, vset, vkids⟩ := v0
  obtain ⟨W, hW⟩ : ∃ W, w.alloc (pb ⟨vk, vcol, vn, vm, vs, vset, vkids⟩) = W := ⟨_, rfl⟩
  have hXW : Ex w W := by rw [← hW]; exact (Below.refl _ _).alloc (Nat.le_refl _) _
  have HXW : Hid (Ex w W) := hXW
  have HSZ : Hid (W.heap.size = w.heap.size + 1) := (by rw [← hW]; simp : W.heap.size = w.heap.size + 1)
  have HP : Hid (PAt W w.heap.size ⟨vk, vcol, vn, vm, vs, vset, vkids⟩) := (by rw [← hW]; exact PAt.new w _ : PAt W w.heap.size _)
  have HB1 : Hid (Byt w p1 c1 l1) := b1
  have HB2 : Hid (Byt w p2 c2 l2) := b2
  have y1 := b1.1
  have y2 := b1.2.1
  have y3 := b2.1
  have y4 := b2.2.1
  unfold maxLen at y2 y4
  have HF : Hid (Pd.Fine (Pd.cut p0 6)) := Pd.cut_fine p0 m0 6
  have HC0 : Hid (Calls Try.prog 7 #[pvv ⟨vk, vcol, vn, vm, vs, vset, vkids⟩, .int .i64 (6 : Nat)] W fun e w' => ∃ u, e = .returned (pvv u) ∧ Pd.Lay (fun b => W.heap.size ≤ b) (Pd.cut p0 6) w' u ∧ Ex W w') := cut_is p0 _ W 6 (Pd.Lay.below _ b0 hXW) m0 (by omega)
  obtain ⟨P, hP⟩ : ∃ P, Pd.cut p0 6 = P := ⟨_, rfl⟩
  rw [hP] at HF HC0
  obtain ⟨⟨R, e0⟩, hE⟩ : ∃ x, Pd.encE P = x := ⟨_, rfl⟩
  have HE : Hid (Pd.encE P = (R, e0)) := hE
  obtain ⟨o, ho⟩ : ∃ o, Pd.right P = o := ⟨_, rfl⟩
  have HO : Hid (Pd.right P = o) := ho
  obtain ⟨p0', p1', p2', p3', p4', p5', p6'⟩ := HP.out.all
  simp only at p0' p1' p2' p3' p4' p5' p6'
  clear b0 m0 b1 b2 hXW hP hE ho
  unfold pvv
  simp only [sv]
  go_enter Try.func4, Try.ntmps4
  go_wp2_with fail
  go_at_call 7
  refine Calls.mono HC0.out ?_
  rintro e w1 ⟨xP, rfl, hL1, hx1⟩
  have hP1 := HP.out.below hx1
  obtain ⟨w2, hw2⟩ : ∃ w2, pset w1 w.heap.size xP = w2 := ⟨_, rfl⟩
  have hg2 : w1.grownBy w2 (some w.heap.size) := by rw [← hw2]; exact grown_pset _ _ _
  have hX2 : Ex w w2 := Below.grown (HXW.out.trans hx1) hg2 (HXW.out.trans hx1).size (fun g hg => by simp at hg; omega)
  have HX2 : Hid (Ex w w2) := hX2
  have HP2 : Hid (PAt w2 w.heap.size xP) := (by rw [← hw2]; exact hP1.store xP : PAt w2 _ _)
  have HL2 : Hid (Pd.Lay (fun _ => True) P w2 xP) := (Pd.Lay.mono (fun _ _ => trivial) _ (Pd.Lay.far (row := some w.heap.size) (fun b hb e => by simp at e; have := HSZ.out; omega) _ hL1 hg2) : Pd.Lay _ _ w2 xP)
  have HCE : Hid (Calls Try.prog 16 #[pvv xP] w2 fun e w' => ∃ p c, e = .returned (.tuple #[.slice p R.length c, .int .i64 e0]) ∧ Byt w' p c R ∧ Ex w2 w') := encode_is P xP w2 HL2.out HF.out R e0 HE.out
  obtain ⟨f0, f1, f2, f3, f4, f5, f6⟩ := hP1.fro
  obtain ⟨c0, c1', c2', c3, c4, c5, c6⟩ := hP1.all
  obtain ⟨q0, q1, q2, q3, q4, q5, q6⟩ := HP2.out.all
  simp only at c0 c1' c2' c3 c4 c5 c6 q0 q1 q2 q3 q4 q5 q6
  clear hP1 hg2 hX2 hL1 hx1 HC0 p0' p1' p2' p3' p4' p5' p6' hW
  simp only [pvv, sv]
  go_wp2_with fail
  go_at_call 16
  refine Calls.mono HCE.out ?_
  rintro e w3 ⟨p5, c5', rfl, hb5, hx3⟩
  have HX3 : Hid (Ex w w3) := (HX2.out.trans hx3 : Ex w w3)
  have HP3 : Hid (PAt w3 w.heap.size xP) := (HP2.out.below hx3 : PAt w3 _ _)
  have HL3 : Hid (Pd.Lay (fun _ => True) P w3 xP) := (Pd.Lay.below _ HL2.out hx3 : Pd.Lay _ _ w3 xP)
  have HB5 : Hid (Byt w3 p5 c5' R) := hb5
  have HCR : Hid (Calls Try.prog 8 #[pvv xP] w3 fun e w' => e = .returned (.bool o) ∧ Ex w3 w') := right_is P xP w3 HL3.out HF.out o HO.out
  obtain ⟨r0, r1, r2, r3, r4, r5, r6⟩ := HP3.out.all
  have y5 := hb5.1
  have y6 := hb5.2.1
  unfold maxLen at y6
  clear hb5 hx3 HCE c0 c1' c2' c3 c4 c5 c6 q0 q1 q2 q3 q4 q5 q6 f0 f1 f2 f3 f4 f5 f6 hw2
  cases o with
  | false =>
    have he0 : e0 = 12 := by have h := HE.out; unfold Pd.encE at h; rw [HO.out] at h; simp at h; exact h.2.symm
    subst he0
    go_wp2_with fail
    go_at_call 8
    refine Calls.mono HCR.out ?_
    rintro e w4 ⟨rfl, hx4⟩
    have HX4 : Hid (Ex w w4) := (HX3.out.trans hx4 : Ex w w4)
    clear hx4 HCR r0 r1 r2 r3 r4 r5 r6 HE
    obtain ⟨⟨Q, k2, e2⟩, hdec⟩ : ∃ x, Pd.dec l2 0 = x := ⟨_, rfl⟩
    have HFQ : Hid (Pd.Fine Q) := (by have h := dec_fine l2 0; rw [hdec] at h; exact h : Pd.Fine Q)
    have HCD : Hid (Calls Try.prog 17 #[.slice p2 l2.length c2, .int .i64 0] w4 fun x w' => ∃ u, x = .returned (.tuple #[pvv u, .int .i64 (k2 : Int), .int .i64 (e2 : Int)]) ∧ Pd.Lay (fun g => w4.heap.size ≤ g) Q w' u ∧ Ex w4 w') := decode_is p2 _ c2 l2 0 w4 (HB2.out.below HX4.out) rfl Q k2 e2 hdec
    go_wp2_with fail
    go_at_call 17
    refine Calls.mono HCD.out ?_
    rintro e wB ⟨xQ, rfl, hLB, hxB⟩
    obtain ⟨wC, hwC⟩ : ∃ wC, wB.alloc (pb xQ) = wC := ⟨_, rfl⟩
    have hXC : Ex wB wC := by rw [← hwC]; exact (Below.refl _ _).alloc (Nat.le_refl _) _
    have HXC : Hid (Ex w wC) := (HX4.out.trans (hxB.trans hXC) : Ex w wC)
    have HPC : Hid (PAt wC wB.heap.size xQ) := (by rw [← hwC]; exact PAt.new wB xQ : PAt wC _ _)
    have HLC : Hid (Pd.Lay (fun _ => True) Q wC xQ) := (Pd.Lay.mono (fun _ _ => trivial) _ (Pd.Lay.below _ hLB hXC) : Pd.Lay _ _ wC xQ)
    obtain ⟨d0, d1, d2, d3, d4, d5, d6⟩ := HPC.out.all
    clear hLB hxB hXC HCD
    simp only [pvv, sv]
    by_cases he : e2 = 0
    · subst he
      obtain ⟨hR2, _, hk2, hT2, hN2⟩ := Pd.dec_ok (k := 0) hdec
      have HR2 : Hid (Pd.right Q = true) := hR2
      obtain ⟨Tb, hTb⟩ : ∃ Tb, l2.take k2 = Tb := ⟨_, rfl⟩
      have HE2 : Hid (Pd.encE Q = (Tb, 0)) := (by
        unfold Pd.encE
        rw [if_pos hR2, ← hTb, hT2]
        simp : Pd.encE Q = (Tb, 0))
      have HTb : Hid (l2.take k2 = Tb) := hTb
      clear hR2 hT2 hTb hN2 hdec
      go_wp2_with fail
      go_at_call 16
      refine (encode_is Q xQ wC HLC.out HFQ.out Tb 0 HE2.out).mono ?_
      rintro e wf ⟨pf, cf, rfl, hbf, hxf⟩
      have HXf : Hid (Ex w wf) := (HXC.out.trans hxf : Ex w wf)
      have HPf : Hid (PAt wf wB.heap.size xQ) := (HPC.out.below hxf : PAt wf _ _)
      have HLf : Hid (Pd.Lay (fun _ => True) Q wf xQ) := (Pd.Lay.below _ HLC.out hxf : Pd.Lay _ _ wf xQ)
      have HBf : Hid (Byt wf pf cf Tb) := hbf
      have HB3f : Hid (Byt wf p2 c2 Tb) := (by rw [← HTb.out]; exact (HB2.out.below HXf.out).take hk2 : Byt wf p2 c2 Tb)
      have HTl : Hid (k2 = Tb.length) := (by rw [← HTb.out]; simp; omega : k2 = Tb.length)
      clear hbf hxf d0 d1 d2 d3 d4 d5 d6
      go_wp2_with fail
      have hre := Ex.refl
      refine Rg.wp_rows [.inl (Value.int .i64 0), .inl (.bool false), .inl (.bool false), .inl (pvv xQ), .inl (.bool true), .inl (.bool false), .inl (.bool false), .inl (.bool false), .inl (Value.int .i64 k2), .inl (Value.slice p2 l2.length c2), .inl (Value.int .i64 l2.length), .inl (.bool false), .inl (.bool false), .inl (.bool false), .inl (Value.slice pf Tb.length cf), .inl (.string (str Tb)), .inl (Value.slice p2 l2.length c2), .inl (Value.int .i64 k2), .inl (Value.slice p2 k2 c2), .inl (.string (str Tb)), .inl (.bool false), .inl (.bool false)] (Ex wf) Ex 95 (by kernel_rfl) rfl (by kernel_rfl) ?st hre (Ex.drew _) ?goods ?fin
      case st => exact trivial
      case goods =>
        refine Rg.goods_cons (Rg.good_move hre rfl rfl rfl) ?_
        refine Rg.goods_cons (Rg.good_bin hre rfl rfl rfl rfl (fun _ => rfl) (fun w => by go_simp)) ?_
        refine Rg.goods_cons (Rg.good_move hre rfl rfl rfl) ?_
        refine Rg.goods_cons (Rg.good_load hre rfl rfl rfl (fun wx hC => (HPf.out.below hC).loadI)) ?_
        refine Rg.goods_cons (Rg.good_call1 Try.func8 (by kernel_rfl) rfl rfl rfl (by rintro u wx hC rfl; exact ex_row (right_is Q xQ wx (Pd.Lay.below _ HLf.out hC) HFQ.out true HR2.out) hC)) ?_
        refine Rg.goods_cons (Rg.good_un hre rfl rfl rfl (fun w => by go_simp)) ?_
        refine Rg.goods_cons (Rg.good_pick false hre rfl rfl rfl rfl) ?_
        refine Rg.goods_cons (Rg.good_move hre rfl rfl rfl) ?_
        refine Rg.goods_cons (Rg.good_move hre rfl rfl rfl) ?_
        refine Rg.goods_cons (Rg.good_move hre rfl rfl rfl) ?_
        refine Rg.goods_cons (Rg.good_len hre rfl rfl (by rintro u wx hC rfl; go_simp)) ?_
        refine Rg.goods_cons (Rg.good_bin hre rfl rfl rfl rfl (fun _ => rfl) (fun w => by go_simp)) ?_
        refine Rg.goods_cons (Rg.good_pick false hre rfl rfl rfl rfl) ?_
        refine Rg.goods_cons (Rg.good_move hre rfl rfl rfl) ?_
        refine Rg.goods_cons (Rg.good_move hre rfl rfl rfl) ?_
        refine Rg.goods_cons (Rg.good_conv hre rfl rfl (by rintro u wx hC rfl; exact run_str (HBf.out.below hC) rfl)) ?_
        refine Rg.goods_cons (Rg.good_move hre rfl rfl rfl) ?_
        refine Rg.goods_cons (Rg.good_move hre rfl rfl rfl) ?_
        refine Rg.goods_cons (Rg.good_slice2 hre rfl rfl rfl (by rintro u wx hC rfl; exact ⟨_, slice_row p2 _ c2 k2 wx (by omega) (by unfold maxLen; omega), rfl⟩)) ?_
        refine Rg.goods_cons (Rg.good_conv hre rfl rfl (by rintro u wx hC rfl; exact run_str (HB3f.out.below hC) HTl.out)) ?_
        refine Rg.goods_cons (Rg.good_bin hre rfl rfl rfl rfl (fun _ => rfl) (fun w => by go_simp)) ?_
        refine Rg.goods_cons (Rg.good_pick false hre rfl rfl rfl rfl) ?_
        exact Rg.goods_nil
      case fin =>
        intro wx hx
        simp only [Rg.later, Act.put, List.setIfInBounds_toArray, List.set_cons_succ, List.set_cons_zero]
        have HXg : Hid (Ex w wx) := (HXf.out.trans hx : Ex w wx)
        clear hx
        go_wp2_with fail
        go_at_call 11
        refine (known_any _).mono ?_
        rintro e wg ⟨rfl, hxg⟩
        have HXh : Hid (Ex w wg) := (HXg.out.trans hxg : Ex w wg)
        clear hxg
        go_wp2_with fail
        go_ret
        exact ⟨rfl, HXh.out⟩
    · have tne : ((e2 : Int) == 0) = false := beq_eq_false_iff_ne.2 (by omega)
      clear hdec
      go_wp2_with fail
      go_at_call 11
      refine (known_any _).mono ?_
      rintro e wf ⟨rfl, hxf⟩
      have HXf : Hid (Ex w wf) := (HXC.out.trans hxf : Ex w wf)
      clear hxf
      go_wp2_with fail
      go_ret
      exact ⟨rfl, HXf.out⟩
  | true =>
    have hRe : R = Pd.enc P ∧ e0 = 0 := by have h := HE.out; unfold Pd.encE at h; rw [if_pos HO.out] at h; simp only [Prod.mk.injEq] at h; exact ⟨h.1.symm, h.2.symm⟩
    obtain ⟨hRe, he0⟩ := hRe
    subst he0
    have hRl : R.length ≤ 20000 := by rw [hRe]; exact enc_len HO.out
    have HDc : Hid (Pd.dec (l1 ++ R) (l1.length : Int) = (P, l1.length + R.length, 0)) := (by
      rw [hRe]
      exact Pd.dec_enc HO.out (Pd.fine_num _ HF.out) ⟨l1, [], by simp, rfl⟩ : Pd.dec (l1 ++ R) (l1.length : Int) = (P, l1.length + R.length, 0))
    clear hRe HE
    go_wp2_with fail
    go_at_call 8
    refine Calls.mono HCR.out ?_
    rintro e w6 ⟨rfl, hx4⟩
    have HX6 : Hid (Ex w w6) := (HX3.out.trans hx4 : Ex w w6)
    have HP6 : Hid (PAt w6 w.heap.size xP) := (HP3.out.below hx4 : PAt w6 _ _)
    have HL6 : Hid (Pd.Lay (fun _ => True) P w6 xP) := (Pd.Lay.below _ HL3.out hx4 : Pd.Lay _ _ w6 xP)
    have HB6 : Hid (Byt w6 p5 c5' R) := (HB5.out.below hx4 : Byt w6 p5 c5' R)
    have HB16 : Hid (Byt w6 p1 c1 l1) := (HB1.out.below HX6.out : Byt w6 p1 c1 l1)
    clear hx4 HCR r0 r1 r2 r3 r4 r5 r6
    obtain ⟨Db, hDb⟩ : ∃ Db, l1 ++ R = Db := ⟨_, rfl⟩
    have HDb : Hid (l1 ++ R = Db) := hDb
    have HDl : Hid (Db.length = l1.length + R.length) := (by rw [← hDb]; simp : Db.length = l1.length + R.length)
    rw [hDb] at HDc
    clear hDb
    go_wp2_with (first
      | (refine wpList_build_own rfl 32 rfl 0 [] rfl (by decide) (fun _ => by kernel_rfl) w6.heap.size (Nat.le_refl _) ?_; intro g45 w45 ho45 hx45)
      | (at_builtin; refine wpList_append_big rfl (.tmp 32) (.tmp 33) rfl w6.heap.size _ [] rfl ho45 _ _ _ l1 rfl rfl (HB16.out.below hx45) (by simp; omega) (Ex.size hx45) ?_; intro v47 w47 ho47 hg47; have X47 : Ex w6 w47 := step_below0 hx45 (Ex.size hx45) ho45 hg47; clear hg47; rw [List.nil_append] at ho47)
      | (at_builtin; refine wpList_append_big rfl (.tmp 34) (.tmp 35) rfl w6.heap.size _ l1 rfl ho47 _ _ _ R rfl rfl (HB6.out.below X47) (by omega) (Ex.size X47) ?_; intro v49 w49 ho49 hg49; have X49 : Ex w6 w49 := step_below0 X47 (Ex.size X47) ho47 hg49; clear hg49; rw [HDb.out] at ho49; obtain ⟨ad, cd, hvd, hbd'⟩ := ho49.byt; subst hvd))
    have HX49 : Hid (Ex w6 w49) := (X49 : Ex w6 w49)
    have HBd : Hid (Byt w49 ad cd Db) := hbd'
    have HCD1 : Hid (Calls Try.prog 17 #[.slice ad Db.length cd, .int .i64 (l1.length : Int)] w49 fun x w' => ∃ u, x = .returned (.tuple #[pvv u, .int .i64 ((l1.length + R.length : Nat) : Int), .int .i64 ((0 : Nat) : Int)]) ∧ Pd.Lay (fun g => w49.heap.size ≤ g) P w' u ∧ Ex w49 w') := decode_is ad _ cd Db (l1.length : Int) w49 HBd.out rfl P (l1.length + R.length) 0 HDc.out
    have hcd := hbd'.1
    have hcd2 := hbd'.2.1
    unfold maxLen at hcd2
    rw [← HDl.out] at HCD1
    clear hbd' ho49 ho47 ho45 hx45 X47 X49
    go_at_call 17
    refine Calls.mono HCD1.out ?_
    rintro e w7 ⟨xD, rfl, hL7, hx7⟩
    rw [show ((0 : Nat) : Int) = 0 from rfl]
    obtain ⟨w8, hw8⟩ : ∃ w8, w7.alloc (pb xD) = w8 := ⟨_, rfl⟩
    have hx8 : Ex w7 w8 := by rw [← hw8]; exact (Below.refl _ _).alloc (Nat.le_refl _) _
    have HX68 : Hid (Ex w6 w8) := (HX49.out.trans (hx7.trans hx8) : Ex w6 w8)
    have HX8 : Hid (Ex w w8) := (HX6.out.trans HX68.out : Ex w w8)
    have HPD : Hid (PAt w8 w7.heap.size xD) := (by rw [← hw8]; exact PAt.new w7 xD : PAt w8 _ _)
    have HP8 : Hid (PAt w8 w.heap.size xP) := (HP6.out.below HX68.out : PAt w8 _ _)
    have HCK : Hid (Calls Try.prog 9 #[pvv xD, pvv xP] w8 fun e w' => e = .returned (.bool true) ∧ Ex w8 w') := kpred_is P P xD xP w8 true (Pd.Lay.mono (fun _ _ => trivial) _ (Pd.Lay.below _ hL7 hx8)) (Pd.Lay.below _ HL6.out HX68.out) (by simp)
    obtain ⟨g0, g1, g2, g3, g4, g5, g6⟩ := HPD.out.all
    obtain ⟨s0, s1, s2, s3, s4, s5, s6⟩ := HP8.out.all
    clear hL7 hx7 hx8 HCD1
    simp only [pvv, sv]
    go_wp2_with fail
    go_at_call 9
    refine Calls.mono HCK.out ?_
    rintro e w9 ⟨rfl, hx9⟩
    have HX9 : Hid (Ex w w9) := (HX8.out.trans hx9 : Ex w w9)
    clear hx9 HCK g0 g1 g2 g3 g4 g5 g6 s0 s1 s2 s3 s4 s5 s6 hw8
    obtain ⟨⟨Q, k2, e2⟩, hdec⟩ : ∃ x, Pd.dec l2 0 = x := ⟨_, rfl⟩
    have HFQ : Hid (Pd.Fine Q) := (by have h := dec_fine l2 0; rw [hdec] at h; exact h : Pd.Fine Q)
    have HCD : Hid (Calls Try.prog 17 #[.slice p2 l2.length c2, .int .i64 0] w9 fun x w' => ∃ u, x = .returned (.tuple #[pvv u, .int .i64 (k2 : Int), .int .i64 (e2 : Int)]) ∧ Pd.Lay (fun g => w9.heap.size ≤ g) Q w' u ∧ Ex w9 w') := decode_is p2 _ c2 l2 0 w9 (HB2.out.below HX9.out) rfl Q k2 e2 hdec
    go_wp2_with fail
    go_at_call 17
    refine Calls.mono HCD.out ?_
    rintro e wB ⟨xQ, rfl, hLB, hxB⟩
    obtain ⟨wC, hwC⟩ : ∃ wC, wB.alloc (pb xQ) = wC := ⟨_, rfl⟩
    have hXC : Ex wB wC := by rw [← hwC]; exact (Below.refl _ _).alloc (Nat.le_refl _) _
    have HXC : Hid (Ex w wC) := (HX9.out.trans (hxB.trans hXC) : Ex w wC)
    have HPC : Hid (PAt wC wB.heap.size xQ) := (by rw [← hwC]; exact PAt.new wB xQ : PAt wC _ _)
    have HLC : Hid (Pd.Lay (fun _ => True) Q wC xQ) := (Pd.Lay.mono (fun _ _ => trivial) _ (Pd.Lay.below _ hLB hXC) : Pd.Lay _ _ wC xQ)
    obtain ⟨d0, d1, d2, d3, d4, d5, d6⟩ := HPC.out.all
    clear hLB hxB hXC HCD
    simp only [pvv, sv]
    by_cases he : e2 = 0
    · subst he
      obtain ⟨hR2, _, hk2, hT2, hN2⟩ := Pd.dec_ok (k := 0) hdec
      have HR2 : Hid (Pd.right Q = true) := hR2
      obtain ⟨Tb, hTb⟩ : ∃ Tb, l2.take k2 = Tb := ⟨_, rfl⟩
      have HE2 : Hid (Pd.encE Q = (Tb, 0)) := (by
        unfold Pd.encE
        rw [if_pos hR2, ← hTb, hT2]
        simp : Pd.encE Q = (Tb, 0))
      have HTb : Hid (l2.take k2 = Tb) := hTb
      clear hR2 hT2 hTb hN2 hdec
      go_wp2_with fail
      go_at_call 16
      refine (encode_is Q xQ wC HLC.out HFQ.out Tb 0 HE2.out).mono ?_
      rintro e wf ⟨pf, cf, rfl, hbf, hxf⟩
      have HXf : Hid (Ex w wf) := (HXC.out.trans hxf : Ex w wf)
      have HPf : Hid (PAt wf wB.heap.size xQ) := (HPC.out.below hxf : PAt wf _ _)
      have HLf : Hid (Pd.Lay (fun _ => True) Q wf xQ) := (Pd.Lay.below _ HLC.out hxf : Pd.Lay _ _ wf xQ)
      have HBf : Hid (Byt wf pf cf Tb) := hbf
      have HB3f : Hid (Byt wf p2 c2 Tb) := (by rw [← HTb.out]; exact (HB2.out.below HXf.out).take hk2 : Byt wf p2 c2 Tb)
      have HTl : Hid (k2 = Tb.length) := (by rw [← HTb.out]; simp; omega : k2 = Tb.length)
      clear hbf hxf d0 d1 d2 d3 d4 d5 d6
      go_wp2_with fail
      have hre := Ex.refl
      refine Rg.wp_rows [.inl (Value.int .i64 0), .inl (.bool false), .inl (.bool false), .inl (pvv xQ), .inl (.bool true), .inl (.bool false), .inl (.bool false), .inl (.bool false), .inl (Value.int .i64 k2), .inl (Value.slice p2 l2.length c2), .inl (Value.int .i64 l2.length), .inl (.bool false), .inl (.bool false), .inl (.bool false), .inl (Value.slice pf Tb.length cf), .inl (.string (str Tb)), .inl (Value.slice p2 l2.length c2), .inl (Value.int .i64 k2), .inl (Value.slice p2 k2 c2), .inl (.string (str Tb)), .inl (.bool false), .inl (.bool false)] (Ex wf) Ex 95 (by kernel_rfl) rfl (by kernel_rfl) ?st hre (Ex.drew _) ?goods ?fin
      case st => exact trivial
      case goods =>
        refine Rg.goods_cons (Rg.good_move hre rfl rfl rfl) ?_
        refine Rg.goods_cons (Rg.good_bin hre rfl rfl rfl rfl (fun _ => rfl) (fun w => by go_simp)) ?_
        refine Rg.goods_cons (Rg.good_move hre rfl rfl rfl) ?_
        refine Rg.goods_cons (Rg.good_load hre rfl rfl rfl (fun wx hC => (HPf.out.below hC).loadI)) ?_
        refine Rg.goods_cons (Rg.good_call1 Try.func8 (by kernel_rfl) rfl rfl rfl (by rintro u wx hC rfl; exact ex_row (right_is Q xQ wx (Pd.Lay.below _ HLf.out hC) HFQ.out true HR2.out) hC)) ?_
        refine Rg.goods_cons (Rg.good_un hre rfl rfl rfl (fun w => by go_simp)) ?_
        refine Rg.goods_cons (Rg.good_pick false hre rfl rfl rfl rfl) ?_
        refine Rg.goods_cons (Rg.good_move hre rfl rfl rfl) ?_
        refine Rg.goods_cons (Rg.good_move hre rfl rfl rfl) ?_
        refine Rg.goods_cons (Rg.good_move hre rfl rfl rfl) ?_
        refine Rg.goods_cons (Rg.good_len hre rfl rfl (by rintro u wx hC rfl; go_simp)) ?_
        refine Rg.goods_cons (Rg.good_bin hre rfl rfl rfl rfl (fun _ => rfl) (fun w => by go_simp)) ?_
        refine Rg.goods_cons (Rg.good_pick false hre rfl rfl rfl rfl) ?_
        refine Rg.goods_cons (Rg.good_move hre rfl rfl rfl) ?_
        refine Rg.goods_cons (Rg.good_move hre rfl rfl rfl) ?_
        refine Rg.goods_cons (Rg.good_conv hre rfl rfl (by rintro u wx hC rfl; exact run_str (HBf.out.below hC) rfl)) ?_
        refine Rg.goods_cons (Rg.good_move hre rfl rfl rfl) ?_
        refine Rg.goods_cons (Rg.good_move hre rfl rfl rfl) ?_
        refine Rg.goods_cons (Rg.good_slice2 hre rfl rfl rfl (by rintro u wx hC rfl; exact ⟨_, slice_row p2 _ c2 k2 wx (by omega) (by unfold maxLen; omega), rfl⟩)) ?_
        refine Rg.goods_cons (Rg.good_conv hre rfl rfl (by rintro u wx hC rfl; exact run_str (HB3f.out.below hC) HTl.out)) ?_
        refine Rg.goods_cons (Rg.good_bin hre rfl rfl rfl rfl (fun _ => rfl) (fun w => by go_simp)) ?_
        refine Rg.goods_cons (Rg.good_pick false hre rfl rfl rfl rfl) ?_
        exact Rg.goods_nil
      case fin =>
        intro wx hx
        simp only [Rg.later, Act.put, List.setIfInBounds_toArray, List.set_cons_succ, List.set_cons_zero]
        have HXg : Hid (Ex w wx) := (HXf.out.trans hx : Ex w wx)
        clear hx
        go_wp2_with fail
        go_at_call 11
        refine (known_any _).mono ?_
        rintro e wg ⟨rfl, hxg⟩
        have HXh : Hid (Ex w wg) := (HXg.out.trans hxg : Ex w wg)
        clear hxg
        go_wp2_with fail
        go_ret
        exact ⟨rfl, HXh.out⟩
    · have tne : ((e2 : Int) == 0) = false := beq_eq_false_iff_ne.2 (by omega)
      clear hdec
      go_wp2_with fail
      go_at_call 11
      refine (known_any _).mono ?_
      rintro e wf ⟨rfl, hxf⟩
      have HXf : Hid (Ex w wf) := (HXC.out.trans hxf : Ex w wf)
      clear hxf
      go_wp2_with fail
      go_ret
      exact ⟨rfl, HXf.out⟩
end Go.Proofs.Ytbdjccmlgdfapaa.predBack
