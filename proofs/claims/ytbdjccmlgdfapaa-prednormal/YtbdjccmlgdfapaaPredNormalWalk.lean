/-
  The walk of PredNormal.
-/
import Derived.Test.YtbdjccmlgdfapaaPnrm2
namespace Go.Proofs.Ytbdjccmlgdfapaa.predNormal
open Go.RowKit
set_option linter.unusedVariables false
set_option linter.unusedSimpArgs false
set_option maxHeartbeats 16000000 in
set_option maxRecDepth 100000 in
theorem walk (v0 : PV) (p0 : Pr) (p1 : Option Addr) (c1 : Nat) (l1 : List Rw) (w : World) (b0 : Pd.Lay (fun _ => True) p0 w v0) (m0 : Pd.Raw p0) (b1 : RdR w p1 c1 l1) (m1 : ∀ r ∈ l1, RowOk r ∧ r.c.length ≤ 2932031007402) :
    Calls Try.prog 3 #[pvv v0, .slice p1 l1.length c1] w fun e w' => e = .returned (.bool true) ∧ Below w.heap.size w w' := by
  obtain ⟨vk, vcol, vn, vm, vs, vset, vkids⟩ := v0
  obtain ⟨W, hW⟩ : ∃ W, w.alloc (pb ⟨vk, vcol, vn, vm, vs, vset, vkids⟩) = W := ⟨_, rfl⟩
  have hXW : Ex w W := by rw [← hW]; exact (Below.refl _ _).alloc (Nat.le_refl _) _
  have HXW : Hid (Ex w W) := hXW
  have HSZ : Hid (W.heap.size = w.heap.size + 1) := (by rw [← hW]; simp : W.heap.size = w.heap.size + 1)
  have HP : Hid (PAt W w.heap.size ⟨vk, vcol, vn, vm, vs, vset, vkids⟩) := (by rw [← hW]; exact PAt.new w _ : PAt W w.heap.size _)
  have HB1 : Hid (RdR w p1 c1 l1) := b1
  have HM1 : Hid (∀ r ∈ l1, RowOk r ∧ r.c.length ≤ 2932031007402) := m1
  have HFN : Hid (Pd.Fine (Pd.cut p0 5)) := Pd.cut_fine p0 m0 5
  have HDS : Hid (Pd.deep (Pd.cut p0 5) ≤ 6 ∧ Pd.size (Pd.cut p0 5) ≤ 1365) := (⟨Pd.cut_deep p0 5, Pd.cut_size p0 5⟩ : Pd.deep (Pd.cut p0 5) ≤ 6 ∧ Pd.size (Pd.cut p0 5) ≤ 1365)
  have HC0 : Hid (Calls Try.prog 7 #[pvv ⟨vk, vcol, vn, vm, vs, vset, vkids⟩, .int .i64 (5 : Nat)] W fun e w' => ∃ u, e = .returned (pvv u) ∧ Pd.Lay (fun b => W.heap.size ≤ b) (Pd.cut p0 5) w' u ∧ Ex W w') := cut_is p0 _ W 5 (Pd.Lay.below _ b0 hXW) m0 (by omega)
  obtain ⟨P, hPP⟩ : ∃ P, Pd.cut p0 5 = P := ⟨_, rfl⟩
  rw [hPP] at HFN HDS HC0
  have HFP : Hid (Pd.fit P 50 5000 = true) := (Pd.fit_of (by have := HDS.out.1; omega) (by have := HDS.out.2; omega) : Pd.fit P 50 5000 = true)
  obtain ⟨q0, q1, q2, q3, q4, q5, q6⟩ := HP.out.all
  simp only at q0 q1 q2 q3 q4 q5 q6
  clear hXW b0 m0 b1 m1 hPP
  unfold pvv
  simp only [sv]
  go_enter Try.func3, Try.ntmps3
  go_wp2_with fail
  go_at_call 7
  refine Calls.mono HC0.out ?_
  rintro e w1 ⟨xP, rfl, hL1, hx1⟩
  have hP1 := HP.out.below hx1
  obtain ⟨w2, hw2⟩ : ∃ w2, pset w1 w.heap.size xP = w2 := ⟨_, rfl⟩
  have hg2 : w1.grownBy w2 (some w.heap.size) := by rw [← hw2]; exact grown_pset _ _ _
  have hX2 : Ex w w2 := Below.grown (HXW.out.trans hx1) hg2 (HXW.out.trans hx1).size (fun g hg => by simp at hg; omega)
  have HX2 : Hid (Ex w w2) := hX2
  have HP2 : Hid (PAt w2 w.heap.size xP) := (by rw [← hw2]; exact hP1.store xP : PAt w2 _ _)
  have HL2 : Hid (Pd.Lay (fun _ => True) P w2 xP) := (Pd.Lay.mono (fun _ _ => trivial) _ (Pd.Lay.far (row := some w.heap.size) (fun b hb e => by simp at e; have := HSZ.out; omega) _ hL1 hg2) : Pd.Lay _ _ w2 xP)
  obtain ⟨r, hr⟩ : ∃ r, Pd.right P = r := ⟨_, rfl⟩
  have HR : Hid (Pd.right P = r) := hr
  have HC1 : Hid (Calls Try.prog 8 #[pvv xP] w2 fun e w' => e = .returned (.bool r) ∧ Ex w2 w') := right_is P xP w2 HL2.out HFN.out r hr
  obtain ⟨f0, f1, f2, f3, f4, f5, f6⟩ := hP1.fro
  obtain ⟨c0, c1', c2, c3, c4, c5, c6⟩ := hP1.all
  obtain ⟨d0, d1, d2, d3, d4, d5, d6⟩ := HP2.out.all
  simp only at c0 c1' c2 c3 c4 c5 c6
  clear hP1 hg2 hX2 hL1 hx1 HC0 q0 q1 q2 q3 q4 q5 q6 hr hW
  simp only [pvv, sv]
  go_wp2_with fail
  go_at_call 8
  refine Calls.mono HC1.out ?_
  rintro e w3 ⟨rfl, hx3⟩
  have HX3 : Hid (Ex w w3) := (HX2.out.trans hx3 : Ex w w3)
  have HP3 : Hid (PAt w3 w.heap.size xP) := (HP2.out.below hx3 : PAt w3 _ _)
  have HL3 : Hid (Pd.Lay (fun _ => True) P w3 xP) := (Pd.Lay.below _ HL2.out hx3 : Pd.Lay _ _ w3 xP)
  clear hx3 HC1 HP2 HL2 c0 c1' c2 c3 c4 c5 c6 f0 f1 f2 f3 f4 f5 f6 d0 d1 d2 d3 d4 d5 d6
  cases r with
  | false =>
    have HN : Hid (Pd.normalB P = P) := (by unfold Pd.normalB; rw [if_neg (by rw [HR.out]; simp), if_pos HFP.out] : Pd.normalB P = P)
    go_wp2_with fail
    have hre := Ex.refl
    refine Rg.wp_rows [.inl (pvv xP), .inr (Pd.IsP (fun _ => True) P), .inl (pvv xP), .inl (.bool true), .inl (.bool true), .inl (.bool true), .inl (.bool true), .inl (.bool true)] (Ex w3) Ex 81 (by kernel_rfl) rfl (by kernel_rfl) ?st hre (Ex.drew _) ?goods ?fin
    case st => exact ⟨Pd.IsP.stands _ _, trivial⟩
    case goods =>
      refine Rg.goods_cons (Rg.good_load hre rfl rfl rfl (fun wx hC => (HP3.out.below hC).loadI)) ?_
      refine Rg.goods_cons (Rg.good_call1 Try.func10 (by kernel_rfl) rfl rfl rfl (by rintro y0 wx hC rfl; have hn := normalN_is P xP wx (Pd.Lay.below _ HL3.out hC) HFN.out; rw [HN.out] at hn; exact pt_row hn hC)) ?_
      refine Rg.goods_cons (Rg.good_load hre rfl rfl rfl (fun wx hC => (HP3.out.below hC).loadI)) ?_
      refine Rg.goods_cons (Rg.good_call2 Try.func9 (by kernel_rfl) rfl rfl rfl (by rintro y0 y1 wx hC ⟨u, rfl, hu⟩ rfl; exact ex_rowP (kpred_is P P u xP wx true hu (Pd.Lay.below _ HL3.out hC) (by simp)) hC)) ?_
      refine Rg.goods_cons (Rg.good_move hre rfl rfl rfl) ?_
      refine Rg.goods_cons (Rg.good_call0 Try.func11 (by kernel_rfl) rfl rfl rfl (by intro wx hC; exact ex_rowP (known_any wx) hC)) ?_
      refine Rg.goods_cons (Rg.good_pick true hre rfl rfl rfl rfl) ?_
      refine Rg.goods_cons (Rg.good_assign hre rfl rfl rfl) ?_
      exact Rg.goods_nil
    case fin =>
      intro wx hx
      simp only [Rg.later, Act.put, List.setIfInBounds_toArray, List.set_cons_succ, List.set_cons_zero]
      intro _ _
      have HX9 : Hid (Ex w wx) := (HX3.out.trans hx : Ex w wx)
      clear hx
      go_wp2_with fail
      go_ret
      exact ⟨rfl, HX9.out⟩
  | true =>
    have HNN : Hid (Pd.Fine (Pd.nrm P false) ∧ Pd.fit (Pd.nrm P false) 50 5000 = true ∧ Pd.flat (Pd.nrm P false) 0 = true) := Pd.nrm_ok HR.out HFN.out false
    have HNB : Hid (Pd.normalB P = Pd.nrm P false) := (by unfold Pd.normalB; rw [if_pos HR.out] : Pd.normalB P = Pd.nrm P false)
    have HNT : Hid (Pd.normalB (Pd.nrm P false) = Pd.nrm P false) := Pd.normal_twice HR.out HFN.out
    obtain ⟨NP, hNP⟩ : ∃ NP, Pd.nrm P false = NP := ⟨_, rfl⟩
    have HNP : Hid (Pd.nrm P false = NP) := hNP
    rw [hNP] at HNN HNB HNT
    obtain ⟨MP, hMP⟩ : ∃ MP, Pd.normalB (Pd.nt P) = MP := ⟨_, rfl⟩
    have HMP : Hid (Pd.normalB (Pd.nt P) = MP) := hMP
    have HC4 : Hid (Calls Try.prog 10 #[pvv xP] w3 fun e w' => ∃ u, e = .returned (pvv u) ∧ Pd.Lay (fun b => w3.heap.size ≤ b) NP w' u ∧ Ex w3 w') := (by
      have h := normalN_is P xP w3 HL3.out HFN.out
      rw [HNB.out] at h
      exact h : Calls Try.prog 10 _ _ _)
    obtain ⟨d0, d1, d2, d3, d4, d5, d6⟩ := HP3.out.all
    clear hNP hMP
    go_wp2_with fail
    go_at_call 10
    refine Calls.mono HC4.out ?_
    rintro e w4 ⟨xN, rfl, hL4, hx4⟩
    obtain ⟨w5, hw5⟩ : ∃ w5, w4.alloc (pb xN) = w5 := ⟨_, rfl⟩
    have hX45 : Ex w4 w5 := by rw [← hw5]; exact (Below.refl _ _).alloc (Nat.le_refl _) _
    have hX35 : Ex w3 w5 := hx4.trans hX45
    have HX5 : Hid (Ex w w5) := (HX3.out.trans hX35 : Ex w w5)
    have HN5 : Hid (PAt w5 w4.heap.size xN) := (by rw [← hw5]; exact PAt.new w4 xN : PAt w5 _ _)
    have HP5 : Hid (PAt w5 w.heap.size xP) := (HP3.out.below hX35 : PAt w5 _ _)
    have HL5 : Hid (Pd.Lay (fun _ => True) P w5 xP) := (Pd.Lay.below _ HL3.out hX35 : Pd.Lay _ _ w5 xP)
    have HLN5 : Hid (Pd.Lay (fun _ => True) NP w5 xN) := (Pd.Lay.mono (fun _ _ => trivial) _ (Pd.Lay.below _ hL4 hX45) : Pd.Lay _ _ w5 xN)
    obtain ⟨w6, hw6⟩ : ∃ w6, w5.alloc (pb xP) = w6 := ⟨_, rfl⟩
    have hX56 : Ex w5 w6 := by rw [← hw6]; exact (Below.refl _ _).alloc (Nat.le_refl _) _
    have hR6 : RdW 7 pc w6 (some ⟨w5.heap.size, 0, none⟩) 1 [xP] := by rw [← hw6]; exact RdW.laid pc_len w5 [xP] (by simp)
    have hLnt : Pd.Lay (fun _ => True) (Pd.nt P) w6 ⟨3, [], 0, 0, [], (none, 0, 0), some ⟨w5.heap.size, 0, none⟩, 1, 1⟩ := lay_nt (Pd.Lay.below _ HL5.out hX56) hR6 trivial
    have HC6 : Hid (Calls Try.prog 10 #[pvv ⟨3, [], 0, 0, [], (none, 0, 0), some ⟨w5.heap.size, 0, none⟩, 1, 1⟩] w6 fun e w' => ∃ u, e = .returned (pvv u) ∧ Pd.Lay (fun b => w6.heap.size ≤ b) MP w' u ∧ Ex w6 w') := (by
      have h := normalN_is (Pd.nt P) _ w6 hLnt (Pd.fine_nt HFN.out)
      rw [HMP.out] at h
      exact h : Calls Try.prog 10 _ _ _)
    have HX56 : Hid (Ex w5 w6) := hX56
    obtain ⟨e0, e1, e2, e3, e4, e5, e6⟩ := HP5.out.all
    clear hL4 hx4 hX45 hX35 HC4 d0 d1 d2 d3 d4 d5 d6 HP3 HL3 hR6 hLnt hX56
    simp only [pvv, sv]
    go_wp2_with fail
    go_at_call 10
    refine Calls.mono HC6.out ?_
    rintro e w7 ⟨xM, rfl, hL7, hx7⟩
    obtain ⟨w8, hw8⟩ : ∃ w8, w7.alloc (pb xM) = w8 := ⟨_, rfl⟩
    have hX78 : Ex w7 w8 := by rw [← hw8]; exact (Below.refl _ _).alloc (Nat.le_refl _) _
    have hX58 : Ex w5 w8 := (HX56.out.trans hx7).trans hX78
    have HX8 : Hid (Ex w w8) := (HX5.out.trans hX58 : Ex w w8)
    have HM8 : Hid (PAt w8 w7.heap.size xM) := (by rw [← hw8]; exact PAt.new w7 xM : PAt w8 _ _)
    have HN8 : Hid (PAt w8 w4.heap.size xN) := (HN5.out.below hX58 : PAt w8 _ _)
    have HP8 : Hid (PAt w8 w.heap.size xP) := (HP5.out.below hX58 : PAt w8 _ _)
    have HL8 : Hid (Pd.Lay (fun _ => True) P w8 xP) := (Pd.Lay.below _ HL5.out hX58 : Pd.Lay _ _ w8 xP)
    have HLN8 : Hid (Pd.Lay (fun _ => True) NP w8 xN) := (Pd.Lay.below _ HLN5.out hX58 : Pd.Lay _ _ w8 xN)
    have HLM8 : Hid (Pd.Lay (fun _ => True) MP w8 xM) := (Pd.Lay.mono (fun _ _ => trivial) _ (Pd.Lay.below _ hL7 hX78) : Pd.Lay _ _ w8 xM)
    clear hL7 hx7 hX78 hX58 HC6 e0 e1 e2 e3 e4 e5 e6 HN5 HP5 HL5 HLN5 HX56
    simp only [pvv, sv]
    go_wp2_with fail
    have hre := Ex.refl
    refine Rg.wp_rows [.inl (pvv xN), .inr (Pd.IsP (fun _ => True) NP), .inl (pvv xN), .inl (.bool true), .inl (.bool false), .inl (.bool false), .inl (pvv xN), .inl (.bool true), .inl (.bool false), .inl (.bool false)] (Ex w8) Ex 81 (by kernel_rfl) rfl (by kernel_rfl) ?st hre (Ex.drew _) ?goods ?fin
    case st => exact ⟨Pd.IsP.stands _ _, trivial⟩
    case goods =>
      refine Rg.goods_cons (Rg.good_load hre rfl rfl rfl (fun wx hC => (HN8.out.below hC).loadI)) ?_
      refine Rg.goods_cons (Rg.good_call1 Try.func10 (by kernel_rfl) rfl rfl rfl (by rintro y0 wx hC rfl; have hn := normalN_is NP xN wx (Pd.Lay.below _ HLN8.out hC) HNN.out.1; rw [HNT.out] at hn; exact pt_row hn hC)) ?_
      refine Rg.goods_cons (Rg.good_load hre rfl rfl rfl (fun wx hC => (HN8.out.below hC).loadI)) ?_
      refine Rg.goods_cons (Rg.good_call2 Try.func9 (by kernel_rfl) rfl rfl rfl (by rintro y0 y1 wx hC ⟨u, rfl, hu⟩ rfl; exact ex_rowP (kpred_is NP NP u xN wx true hu (Pd.Lay.below _ HLN8.out hC) (by simp)) hC)) ?_
      refine Rg.goods_cons (Rg.good_un hre rfl rfl rfl (fun w => by go_simp)) ?_
      refine Rg.goods_cons (Rg.good_move hre rfl rfl rfl) ?_
      refine Rg.goods_cons (Rg.good_load hre rfl rfl rfl (fun wx hC => (HN8.out.below hC).loadI)) ?_
      refine Rg.goods_cons (Rg.good_call2 Try.func12 (by kernel_rfl) rfl rfl rfl (by rintro y0 y1 wx hC rfl rfl; exact ex_rowP (flat_is NP xN 0 wx true (Pd.Lay.below _ HLN8.out hC) HNN.out.2.2) hC)) ?_
      refine Rg.goods_cons (Rg.good_un hre rfl rfl rfl (fun w => by go_simp)) ?_
      refine Rg.goods_cons (Rg.good_pick false hre rfl rfl rfl rfl) ?_
      exact Rg.goods_nil
    case fin =>
      intro w9 hx9
      simp only [Rg.later, Act.put, List.setIfInBounds_toArray, List.set_cons_succ, List.set_cons_zero]
      intro _ _
      have HX9 : Hid (Ex w w9) := (HX8.out.trans hx9 : Ex w w9)
      have HM9 : Hid (PAt w9 w7.heap.size xM) := (HM8.out.below hx9 : PAt w9 _ _)
      have HN9 : Hid (PAt w9 w4.heap.size xN) := (HN8.out.below hx9 : PAt w9 _ _)
      have HP9 : Hid (PAt w9 w.heap.size xP) := (HP8.out.below hx9 : PAt w9 _ _)
      have HL9 : Hid (Pd.Lay (fun _ => True) P w9 xP) := (Pd.Lay.below _ HL8.out hx9 : Pd.Lay _ _ w9 xP)
      have HLN9 : Hid (Pd.Lay (fun _ => True) NP w9 xN) := (Pd.Lay.below _ HLN8.out hx9 : Pd.Lay _ _ w9 xN)
      have HLM9 : Hid (Pd.Lay (fun _ => True) MP w9 xM) := (Pd.Lay.below _ HLM8.out hx9 : Pd.Lay _ _ w9 xM)
      obtain ⟨w10, hw10⟩ : ∃ w10, w9.alloc (pb xP) = w10 := ⟨_, rfl⟩
      have hX910 : Ex w9 w10 := by rw [← hw10]; exact (Below.refl _ _).alloc (Nat.le_refl _) _
      have hR10 : RdW 7 pc w10 (some ⟨w9.heap.size, 0, none⟩) 1 [xP] := by rw [← hw10]; exact RdW.laid pc_len w9 [xP] (by simp)
      have hLnt : Pd.Lay (fun _ => True) (Pd.nt P) w10 ⟨3, [], 0, 0, [], (none, 0, 0), some ⟨w9.heap.size, 0, none⟩, 1, 1⟩ := lay_nt (Pd.Lay.below _ HL9.out hX910) hR10 trivial
      obtain ⟨r2, hr2⟩ : ∃ r2, Pd.right (Pd.nt P) = r2 := ⟨_, rfl⟩
      have HR2 : Hid (Pd.right (Pd.nt P) = r2) := hr2
      have HC10 : Hid (Calls Try.prog 8 #[pvv ⟨3, [], 0, 0, [], (none, 0, 0), some ⟨w9.heap.size, 0, none⟩, 1, 1⟩] w10 fun e w' => e = .returned (.bool r2) ∧ Ex w10 w') := right_is (Pd.nt P) _ w10 hLnt (Pd.fine_nt HFN.out) r2 hr2
      have HX910 : Hid (Ex w9 w10) := hX910
      obtain ⟨e0, e1, e2, e3, e4, e5, e6⟩ := HP9.out.all
      clear hx9 hX910 hR10 hLnt hr2 HX8 HM8 HN8 HP8 HL8 HLN8 HLM8
      go_wp2_with fail
      go_at_call 8
      refine Calls.mono HC10.out ?_
      rintro e w11 ⟨rfl, hx11⟩
      have HX911 : Hid (Ex w9 w11) := (HX910.out.trans hx11 : Ex w9 w11)
      have HX11 : Hid (Ex w w11) := (HX9.out.trans HX911.out : Ex w w11)
      have HC11 : Hid (Calls Try.prog 13 #[.slice p1 l1.length c1, .int .i64 10] w11 fun e w' => ∃ v, e = .returned v ∧ OwnL w' w11.heap.size v (Rw.short l1 10) ∧ Ex w11 w') := kshort_is p1 _ c1 l1 10 w11 rfl (HB1.out.below HX11.out) ⟨by omega, by omega⟩ (fun r hr => (HM1.out r hr).2)
      clear hx11 HC10 e0 e1 e2 e3 e4 e5 e6
      go_wp2_with fail
      go_at_call 13
      refine Calls.mono HC11.out ?_
      rintro e w12 ⟨sv12, rfl, hO12, hx12⟩
      obtain ⟨sa, scp, rfl, hRS⟩ := hO12.rd
      obtain ⟨S, hS⟩ : ∃ S, Rw.short l1 10 = S := ⟨_, rfl⟩
      have HSOK : Hid (∀ r ∈ S, RwOk r) := (by
        rw [← hS]
        intro r hr
        simp only [Rw.short, List.mem_map] at hr
        obtain ⟨q, hq, rfl⟩ := hr
        exact shr_ok (HM1.out q (List.mem_of_mem_take hq)).1 : ∀ r ∈ S, RwOk r)
      rw [hS] at hRS ⊢
      have hSl : S.length ≤ 10 := by rw [← hS]; simp [Rw.short]; omega
      have hbo := hRS.bounds
      have hcm : scp ≤ 9223372036854775807 := by have := hbo.2.1; unfold maxLen at this; omega
      have hcl : S.length ≤ scp := hbo.1
      have HRS : Hid (RdR w12 sa scp S) := hRS
      have HX12 : Hid (Ex w9 w12) := (HX911.out.trans hx12 : Ex w9 w12)
      clear hO12 hx12 HC11 hS hbo hRS
      go_wp2_with fail
      go_loopw [8, 9] (fun iv tv wr => ∃ i : Nat, i ≤ S.length ∧ iv = .int .i64 i ∧ Hid (Ex w12 wr)) (fun iv tv wr => S.length - (intOf iv).toNat)
      case atStart => exact ⟨0, by omega, rfl, Ex.refl w12⟩
      case round =>
        obtain ⟨i, hi, rfl, HXr⟩ := hrel
        have HX9r : Hid (Ex w9 wr) := (HX12.out.trans HXr.out : Ex w9 wr)
        have HXwr : Hid (Ex w wr) := (HX9.out.trans HX9r.out : Ex w wr)
        by_cases hlt : i < S.length
        · have hti : (i : Int) < (S.length : Int) := by omega
          obtain ⟨b, off, ta, tc, hpp, t0, t1, t2, hTr⟩ := (HRS.out.below HXr.out).at hlt
          obtain ⟨x, hx⟩ : ∃ x, S[i] = x := ⟨_, rfl⟩
          rw [hx] at t0 t1 t2 hTr
          have HXO : Hid (RwOk x) := HSOK.out x (by rw [← hx]; exact List.getElem_mem hlt)
          have HC13 : Hid (Calls Try.prog 14 #[rvv ⟨x.t, x.q, ta, x.c.length, tc⟩, .int .i64 i] wr fun e w' => ∃ u : RV, e = .returned (rvv u) ∧ RvOk w' u (Rw.tame x i) ∧ Ex wr w') := tame_is ⟨x.t, x.q, ta, x.c.length, tc⟩ x i wr ⟨rfl, rfl, rfl, hTr⟩ HXO.out
          obtain ⟨xl, hxl⟩ : ∃ xl, x.c.length = xl := ⟨_, rfl⟩
          rw [hxl] at HC13 t2
          subst hpp
          clear hx hTr hxl
          go_wp2_with fail
          go_at_call 14
          refine Calls.mono HC13.out ?_
          rintro e w14 ⟨⟨tt, tq, tb, tn, tcp⟩, rfl, hT14, hx14⟩
          obtain ⟨T, hT⟩ : ∃ T, Rw.tame x i = T := ⟨_, rfl⟩
          have HTS : Hid (∀ c ∈ T.c, c.s.length ≤ maxLen) := (by rw [← hT]; exact tame_short x i : ∀ c ∈ T.c, c.s.length ≤ maxLen)
          rw [hT] at hT14
          obtain ⟨w15, hw15⟩ : ∃ w15, w14.alloc (rb ⟨tt, tq, tb, tn, tcp⟩) = w15 := ⟨_, rfl⟩
          have hX1415 : Ex w14 w15 := by rw [← hw15]; exact (Below.refl _ _).alloc (Nat.le_refl _) _
          have HX15 : Hid (Ex w9 w15) := ((HX9r.out.trans hx14).trans hX1415 : Ex w9 w15)
          have HX1215 : Hid (Ex w12 w15) := ((HXr.out.trans hx14).trans hX1415 : Ex w12 w15)
          have HT15 : Hid (LAt w15 w14.heap.size ⟨tt, tq, tb, tn, tcp⟩) := (by rw [← hw15]; exact LAt.new w14 _ : LAt w15 _ _)
          have HRT : Hid (RvOk w15 ⟨tt, tq, tb, tn, tcp⟩ T) := (hT14.below hX1415 : RvOk w15 _ T)
          have HM15 : Hid (PAt w15 w7.heap.size xM) := (HM9.out.below HX15.out : PAt w15 _ _)
          have HN15 : Hid (PAt w15 w4.heap.size xN) := (HN9.out.below HX15.out : PAt w15 _ _)
          have HP15 : Hid (PAt w15 w.heap.size xP) := (HP9.out.below HX15.out : PAt w15 _ _)
          have HL15 : Hid (Pd.Lay (fun _ => True) P w15 xP) := (Pd.Lay.below _ HL9.out HX15.out : Pd.Lay _ _ w15 xP)
          have HLN15 : Hid (Pd.Lay (fun _ => True) NP w15 xN) := (Pd.Lay.below _ HLN9.out HX15.out : Pd.Lay _ _ w15 xN)
          have HLM15 : Hid (Pd.Lay (fun _ => True) MP w15 xM) := (Pd.Lay.below _ HLM9.out HX15.out : Pd.Lay _ _ w15 xM)
          have hMok := Pd.nt_ok HR.out HFN.out (by have := HDS.out.1; omega) (by have := HDS.out.2; omega) T
          rw [HMP.out, HR2.out] at hMok
          have HMOK : Hid (Pd.Fine MP ∧ Pd.fit MP 50 5000 = true ∧ Pd.ev T MP = (!Pd.ev T P) ∧ (r2 = true → Pd.flat MP 0 = true)) := hMok
          obtain ⟨z, hz⟩ : ∃ z, Pd.ev T P = z := ⟨_, rfl⟩
          have HZ : Hid (Pd.ev T P = z) := hz
          have HZN : Hid (Pd.ev T NP = z) := (by rw [← HNP.out, Pd.ev_nrm T P (Pd.form_fit HR.out).1 false, hz]; cases z <;> rfl : Pd.ev T NP = z)
          have HZM : Hid (Pd.ev T MP = !z) := (by rw [HMOK.out.2.2.1, hz] : Pd.ev T MP = !z)
          clear hz hMok hT hT14 hx14 hX1415 HC13 t0 t1 t2
          simp only [rvv, sv]
          cases r2 with
          | true =>
            go_wp2_with fail
            have hre := Ex.refl
            refine Rg.wp_rows [.inl (pvv xP), .inl (rvv ⟨tt, tq, tb, tn, tcp⟩), .inl (.bool z), .inl (pvv xN), .inl (rvv ⟨tt, tq, tb, tn, tcp⟩), .inl (.bool z), .inl (.bool false), .inl (.bool false), .inl (pvv xP), .inl (rvv ⟨tt, tq, tb, tn, tcp⟩), .inl (.bool z), .inl (pvv xM), .inl (rvv ⟨tt, tq, tb, tn, tcp⟩), .inl (.bool !z), .inl (.bool false), .inl (.bool false), .inl (.bool false), .inl (.bool true), .inl (.bool true), .inl (pvv xM), .inl (.bool true), .inl (.bool false), .inl (.bool false), .inl (.bool false)] (Ex w15) Ex 81 (by kernel_rfl) rfl (by kernel_rfl) ?st hre (Ex.drew _) ?goods ?fin
            case st => exact trivial
            case goods =>
              refine Rg.goods_cons (Rg.good_load hre rfl rfl rfl (fun wx hC => (HP15.out.below hC).loadI)) ?_
              refine Rg.goods_cons (Rg.good_load hre rfl rfl rfl (fun wx hC => rload (HT15.out.below hC))) ?_
              refine Rg.goods_cons (Rg.good_call2 Try.func15 (by kernel_rfl) rfl rfl rfl (by rintro y0 y1 wx hC rfl rfl; exact ex_rowP (ev_is P T xP _ wx (Pd.Lay.below _ HL15.out hC) HFN.out (HRT.out.below hC) HTS.out HFP.out z HZ.out) hC)) ?_
              refine Rg.goods_cons (Rg.good_load hre rfl rfl rfl (fun wx hC => (HN15.out.below hC).loadI)) ?_
              refine Rg.goods_cons (Rg.good_load hre rfl rfl rfl (fun wx hC => rload (HT15.out.below hC))) ?_
              refine Rg.goods_cons (Rg.good_call2 Try.func15 (by kernel_rfl) rfl rfl rfl (by rintro y0 y1 wx hC rfl rfl; exact ex_rowP (ev_is NP T xN _ wx (Pd.Lay.below _ HLN15.out hC) HNN.out.1 (HRT.out.below hC) HTS.out HNN.out.2.1 z HZN.out) hC)) ?_
              refine Rg.goods_cons (Rg.good_bin hre rfl rfl rfl rfl (fun _ => rfl) (fun w => by cases z <;> simp [go_sem])) ?_
              refine Rg.goods_cons (Rg.good_move hre rfl rfl rfl) ?_
              refine Rg.goods_cons (Rg.good_load hre rfl rfl rfl (fun wx hC => (HP15.out.below hC).loadI)) ?_
              refine Rg.goods_cons (Rg.good_load hre rfl rfl rfl (fun wx hC => rload (HT15.out.below hC))) ?_
              refine Rg.goods_cons (Rg.good_call2 Try.func15 (by kernel_rfl) rfl rfl rfl (by rintro y0 y1 wx hC rfl rfl; exact ex_rowP (ev_is P T xP _ wx (Pd.Lay.below _ HL15.out hC) HFN.out (HRT.out.below hC) HTS.out HFP.out z HZ.out) hC)) ?_
              refine Rg.goods_cons (Rg.good_load hre rfl rfl rfl (fun wx hC => (HM15.out.below hC).loadI)) ?_
              refine Rg.goods_cons (Rg.good_load hre rfl rfl rfl (fun wx hC => rload (HT15.out.below hC))) ?_
              refine Rg.goods_cons (Rg.good_call2 Try.func15 (by kernel_rfl) rfl rfl rfl (by rintro y0 y1 wx hC rfl rfl; exact ex_rowP (ev_is MP T xM _ wx (Pd.Lay.below _ HLM15.out hC) HMOK.out.1 (HRT.out.below hC) HTS.out HMOK.out.2.1 (!z) HZM.out) hC)) ?_
              refine Rg.goods_cons (Rg.good_bin hre rfl rfl rfl rfl (fun _ => rfl) (fun w => by cases z <;> simp [go_sem])) ?_
              refine Rg.goods_cons (Rg.good_pick false hre rfl rfl rfl rfl) ?_
              refine Rg.goods_cons (Rg.good_move hre rfl rfl rfl) ?_
              refine Rg.goods_cons (Rg.good_move hre rfl rfl rfl) ?_
              refine Rg.goods_cons (Rg.good_move hre rfl rfl rfl) ?_
              refine Rg.goods_cons (Rg.good_load hre rfl rfl rfl (fun wx hC => (HM15.out.below hC).loadI)) ?_
              refine Rg.goods_cons (Rg.good_call2 Try.func12 (by kernel_rfl) rfl rfl rfl (by rintro y0 y1 wx hC rfl rfl; exact ex_rowP (flat_is MP xM 0 wx true (Pd.Lay.below _ HLM15.out hC) (HMOK.out.2.2.2 trivial)) hC)) ?_
              refine Rg.goods_cons (Rg.good_un hre rfl rfl rfl (fun w => by go_simp)) ?_
              refine Rg.goods_cons (Rg.good_pick true hre rfl rfl rfl rfl) ?_
              refine Rg.goods_cons (Rg.good_pick false hre rfl rfl rfl rfl) ?_
              exact Rg.goods_nil
            case fin =>
              intro wx hx
              simp only [Rg.later, Act.put, List.setIfInBounds_toArray, List.set_cons_succ, List.set_cons_zero]
              have HX16 : Hid (Ex w12 wx) := (HX1215.out.trans hx : Ex w12 wx)
              clear hx
              go_wp2_with fail
              go_roundw
              case rel => exact ⟨i + 1, by omega, by go_num, HX16⟩
              case measure => simp [intOf]; omega
          | false =>
            go_wp2_with fail
            have hre := Ex.refl
            refine Rg.wp_rows [.inl (pvv xP), .inl (rvv ⟨tt, tq, tb, tn, tcp⟩), .inl (.bool z), .inl (pvv xN), .inl (rvv ⟨tt, tq, tb, tn, tcp⟩), .inl (.bool z), .inl (.bool false), .inl (.bool false), .inl (pvv xP), .inl (rvv ⟨tt, tq, tb, tn, tcp⟩), .inl (.bool z), .inl (pvv xM), .inl (rvv ⟨tt, tq, tb, tn, tcp⟩), .inl (.bool !z), .inl (.bool false), .inl (.bool false), .inl (.bool false), .inl (.bool false), .inl (.bool false), .inl undef, .inl undef, .inl undef, .inl (.bool false), .inl (.bool false)] (Ex w15) Ex 81 (by kernel_rfl) rfl (by kernel_rfl) ?st hre (Ex.drew _) ?goods ?fin
            case st => exact trivial
            case goods =>
              refine Rg.goods_cons (Rg.good_load hre rfl rfl rfl (fun wx hC => (HP15.out.below hC).loadI)) ?_
              refine Rg.goods_cons (Rg.good_load hre rfl rfl rfl (fun wx hC => rload (HT15.out.below hC))) ?_
              refine Rg.goods_cons (Rg.good_call2 Try.func15 (by kernel_rfl) rfl rfl rfl (by rintro y0 y1 wx hC rfl rfl; exact ex_rowP (ev_is P T xP _ wx (Pd.Lay.below _ HL15.out hC) HFN.out (HRT.out.below hC) HTS.out HFP.out z HZ.out) hC)) ?_
              refine Rg.goods_cons (Rg.good_load hre rfl rfl rfl (fun wx hC => (HN15.out.below hC).loadI)) ?_
              refine Rg.goods_cons (Rg.good_load hre rfl rfl rfl (fun wx hC => rload (HT15.out.below hC))) ?_
              refine Rg.goods_cons (Rg.good_call2 Try.func15 (by kernel_rfl) rfl rfl rfl (by rintro y0 y1 wx hC rfl rfl; exact ex_rowP (ev_is NP T xN _ wx (Pd.Lay.below _ HLN15.out hC) HNN.out.1 (HRT.out.below hC) HTS.out HNN.out.2.1 z HZN.out) hC)) ?_
              refine Rg.goods_cons (Rg.good_bin hre rfl rfl rfl rfl (fun _ => rfl) (fun w => by cases z <;> simp [go_sem])) ?_
              refine Rg.goods_cons (Rg.good_move hre rfl rfl rfl) ?_
              refine Rg.goods_cons (Rg.good_load hre rfl rfl rfl (fun wx hC => (HP15.out.below hC).loadI)) ?_
              refine Rg.goods_cons (Rg.good_load hre rfl rfl rfl (fun wx hC => rload (HT15.out.below hC))) ?_
              refine Rg.goods_cons (Rg.good_call2 Try.func15 (by kernel_rfl) rfl rfl rfl (by rintro y0 y1 wx hC rfl rfl; exact ex_rowP (ev_is P T xP _ wx (Pd.Lay.below _ HL15.out hC) HFN.out (HRT.out.below hC) HTS.out HFP.out z HZ.out) hC)) ?_
              refine Rg.goods_cons (Rg.good_load hre rfl rfl rfl (fun wx hC => (HM15.out.below hC).loadI)) ?_
              refine Rg.goods_cons (Rg.good_load hre rfl rfl rfl (fun wx hC => rload (HT15.out.below hC))) ?_
              refine Rg.goods_cons (Rg.good_call2 Try.func15 (by kernel_rfl) rfl rfl rfl (by rintro y0 y1 wx hC rfl rfl; exact ex_rowP (ev_is MP T xM _ wx (Pd.Lay.below _ HLM15.out hC) HMOK.out.1 (HRT.out.below hC) HTS.out HMOK.out.2.1 (!z) HZM.out) hC)) ?_
              refine Rg.goods_cons (Rg.good_bin hre rfl rfl rfl rfl (fun _ => rfl) (fun w => by cases z <;> simp [go_sem])) ?_
              refine Rg.goods_cons (Rg.good_pick false hre rfl rfl rfl rfl) ?_
              refine Rg.goods_cons (Rg.good_move hre rfl rfl rfl) ?_
              refine Rg.goods_cons (Rg.good_move hre rfl rfl rfl) ?_
              refine Rg.goods_cons (Rg.good_move hre rfl rfl rfl) ?_
              refine Rg.goods_cons (Rg.good_skip rfl) ?_
              refine Rg.goods_cons (Rg.good_skip rfl) ?_
              refine Rg.goods_cons (Rg.good_skip rfl) ?_
              refine Rg.goods_cons (Rg.good_pick false hre rfl rfl rfl rfl) ?_
              refine Rg.goods_cons (Rg.good_pick false hre rfl rfl rfl rfl) ?_
              exact Rg.goods_nil
            case fin =>
              intro wx hx
              simp only [Rg.later, Act.put, List.setIfInBounds_toArray, List.set_cons_succ, List.set_cons_zero]
              have HX16 : Hid (Ex w12 wx) := (HX1215.out.trans hx : Ex w12 wx)
              clear hx
              go_wp2_with fail
              go_roundw
              case rel => exact ⟨i + 1, by omega, by go_num, HX16⟩
              case measure => simp [intOf]; omega
        · have hti : ¬ (i : Int) < (S.length : Int) := by omega
          go_wp2_with fail
          go_at_call 11
          refine Calls.mono (known_any wr) ?_
          rintro e w13 ⟨rfl, hx13⟩
          have HX13 : Hid (Ex w w13) := (HXwr.out.trans hx13 : Ex w w13)
          clear hx13
          go_wp2_with fail
          go_ret
          exact ⟨rfl, HX13.out⟩
end Go.Proofs.Ytbdjccmlgdfapaa.predNormal
