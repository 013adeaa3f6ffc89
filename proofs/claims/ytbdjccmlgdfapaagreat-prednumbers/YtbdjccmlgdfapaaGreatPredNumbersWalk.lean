/-
  The walk of PredNumbers.
-/
import Derived.Test.YtbdjccmlgdfapaaGreatGtxs
import Derived.Test.YtbdjccmlgdfapaaGreatGcmp
namespace Go.Proofs.YtbdjccmlgdfapaaGreat.predNumbers
open Go.RowKit
set_option linter.unusedVariables false
set_option linter.unusedSimpArgs false
set_option maxHeartbeats 40000000 in
set_option maxRecDepth 100000 in
theorem walk (w : World) :
    Calls Tryz.prog 3 #[] w fun e w' => e = .returned (.bool true) ∧ Below w.heap.size w w' := by
  have HC0 : Hid _ := lsome_is w
  go_enter Tryz.func3, Tryz.ntmps3
  go_wp2_with fail
  go_at_call 5
  refine Calls.mono HC0.out ?_
  rintro e w1 ⟨v1, rfl, ⟨la, lc, rfl, hRP⟩, hx1⟩
  have HC1 : Hid _ := lrows_is w1
  clear HC0
  rw [show Pd.some36.length = 36 from rfl]
  go_wp2_with fail
  go_at_call 6
  refine Calls.mono HC1.out ?_
  rintro e w2 ⟨v2, rfl, ⟨ra, rcp, rfl, hRR⟩, hx2⟩
  rw [show rows7.length = 7 from rfl]
  have HX2 : Hid (Ex w w2) := (hx1.trans hx2 : Ex w w2)
  have HRP : Hid (Pd.RdP w2 la lc Pd.some36) := (hRP.below hx2 : Pd.RdP _ _ _ _)
  have HRR : Hid (RdR w2 ra rcp rows7) := hRR
  have hb1 := HRP.out.bounds
  have hb2 := hRR.bounds
  have hl1 : 36 ≤ lc := hb1.1
  have hl2 : lc ≤ 9223372036854775807 := by have := hb1.2.1; unfold maxLen at this; omega
  have hr1 : 7 ≤ rcp := hb2.1
  have hr2 : rcp ≤ 9223372036854775807 := by have := hb2.2.1; unfold maxLen at this; omega
  obtain ⟨b, off, hla⟩ : ∃ b off, la = some ⟨b, off, none⟩ := by
    obtain ⟨b, off, v, h, _⟩ := HRP.out.at (i := 0) (by decide)
    exact ⟨b, off, h⟩
  subst hla
  obtain ⟨rb, ro, hra⟩ : ∃ b off, ra = some ⟨b, off, none⟩ := by
    obtain ⟨b, off, p, c, h, _⟩ := HRR.out.at (i := 0) (by decide)
    exact ⟨b, off, h⟩
  subst hra
  clear HC1 hx1 hx2 hRP hRR hb1 hb2
  go_wp2_with fail
  go_loopw [3, 4, 5, 6, 7, 8] (fun iv bv ev cv fv kv wr => ∃ i : Nat, i ≤ 36 ∧ iv = .int .i64 i ∧ Hid (Ex w2 wr)) (fun iv bv ev cv fv kv wr => 36 - (intOf iv).toNat)
  case atStart => exact ⟨0, by omega, rfl, Ex.refl w2⟩
  case round =>
    obtain ⟨i, hi, rfl, HX2r⟩ := hrel
    by_cases hlt : i < 36
    · have hti : (i : Int) < 36 := by omega
      obtain ⟨wo, hwo⟩ : ∃ W, W = wr := ⟨_, rfl⟩
      subst hwo
      obtain ⟨b', off', xP, hpp, hLP, hcell⟩ := (HRP.out.below HX2r.out).at (i := i) (by show i < 36; exact hlt)
      simp only [Option.some.injEq, Addr.mk.injEq] at hpp
      obtain ⟨hp1, hp2, _⟩ := hpp
      subst hp1
      subst hp2
      obtain ⟨P, hP⟩ : ∃ P, Pd.some36[i]'(by show i < 36; exact hlt) = P := ⟨_, rfl⟩
      rw [hP] at hLP
      obtain ⟨hF, hsz, hft⟩ := Pd.some_ok (p := P) (by rw [← hP]; exact List.getElem_mem _)
      have HF : Hid (Pd.Fine P) := hF
      have HSZ : Hid (Pd.size P ≤ 1000000000) := (by omega : Pd.size P ≤ 1000000000)
      have HCC : Hid (Pd.size P ≤ 400) := (by omega : Pd.size P ≤ 400)
      have HFP : Hid (Pd.fit P 50 5000 = true) := hft
      have HLo : Hid (Pd.Lay (fun _ => True) P wo xP) := hLP
      have HLD : Hid (∀ wz, Ex wo wz → (Instr.loadAt 32 (.pointer (some ⟨b, off + i * 7, none⟩))).run Tryz.prog wz = .ok (pvv xP) wz) := (fun wz hz => load_at (fun j u hju => cell_ex (hcell j u hju) hz) : ∀ wz, Ex wo wz → _)
      have c0 : wo.cell? ⟨b, off + i * 7, none⟩ = some (.int .i64 xP.k) := hcell 0 _ rfl
      have c1 : wo.cell? ⟨b, off + i * 7 + 1, none⟩ = some (.string (str xP.col)) := hcell 1 _ rfl
      have c2 : wo.cell? ⟨b, off + i * 7 + 2, none⟩ = some (.int .i64 xP.n) := hcell 2 _ rfl
      have c3 : wo.cell? ⟨b, off + i * 7 + 3, none⟩ = some (.int .i64 xP.m) := hcell 3 _ rfl
      have c4 : wo.cell? ⟨b, off + i * 7 + 4, none⟩ = some (.string (str xP.s)) := hcell 4 _ rfl
      have c5 : wo.cell? ⟨b, off + i * 7 + 5, none⟩ = some (.slice xP.set.1 xP.set.2.1 xP.set.2.2) := hcell 5 _ rfl
      have c6 : wo.cell? ⟨b, off + i * 7 + 6, none⟩ = some (.slice xP.kids.1 xP.kids.2.1 xP.kids.2.2) := hcell 6 _ rfl
      obtain ⟨n, hn⟩ : ∃ n, Pd.size P = n := ⟨_, rfl⟩
      have HNN : Hid (Pd.size P = n) := hn
      have hnb : 0 ≤ (n : Int) ∧ (n : Int) ≤ 300 := by omega
      obtain ⟨⟨R, e0⟩, hE⟩ : ∃ x, Pd.encE P = x := ⟨_, rfl⟩
      have HE : Hid (Pd.encE P = (R, e0)) := hE
      have hRl : R.length ≤ 20000 := encE_len hE
      obtain ⟨o, ho⟩ : ∃ o, Pd.right P = o := ⟨_, rfl⟩
      have HO : Hid (Pd.right P = o) := ho
      obtain ⟨NP, hNP⟩ : ∃ NP, Pd.normal P = NP := ⟨_, rfl⟩
      have HNB : Hid (Pd.normal P = NP) := hNP
      have HN : Hid (Pd.normalB P = NP) := (by rw [normB HFP.out, hNP] : Pd.normalB P = NP)
      obtain ⟨CL, hCL⟩ : ∃ CL, Pd.cols P = CL := ⟨_, rfl⟩
      have HCL : Hid (Pd.cols P = CL) := hCL
      have HCE : Hid (Calls Tryz.prog 7 #[pvv xP] wo fun e w' => ∃ p c, e = .returned (.tuple #[.slice p R.length c, .int .i64 e0]) ∧ Byt w' p c R ∧ Ex wo w') := encode_is P xP wo HLo.out HF.out R e0 HE.out
      clear hLP hP hF hsz hft hn hE ho hNP hCL hcell
      go_wp2_with fail
      go_at_call 7
      refine Calls.mono HCE.out ?_
      rintro e w4 ⟨p5, c5', rfl, hb5, hx4⟩
      have HX4 : Hid (Ex wo w4) := hx4
      have HB5 : Hid (Byt w4 p5 c5' R) := hb5
      have d0 := cell_ex c0 hx4
      have d1 := cell_ex c1 hx4
      have d2 := cell_ex c2 hx4
      have d3 := cell_ex c3 hx4
      have d4 := cell_ex c4 hx4
      have d5 := cell_ex c5 hx4
      have d6 := cell_ex c6 hx4
      have HCF : Hid (Calls Tryz.prog 8 #[pvv xP] w4 fun e w' => ∃ p c, e = .returned (.tuple #[.slice p R.length c, .int .i64 e0]) ∧ Byt w' p c R ∧ Ex w4 w') := rEncode_is P xP w4 (Pd.Lay.below _ HLo.out hx4) HF.out HSZ.out R e0 HE.out
      clear hb5 hx4 HCE c0 c1 c2 c3 c4 c5 c6
      obtain ⟨c5, hc5⟩ : ∃ c, c = c5' := ⟨_, rfl⟩
      subst hc5
      go_wp2_with fail
      go_at_call 8
      refine Calls.mono HCF.out ?_
      rintro e w5 ⟨p6, c6, rfl, hb6, hx5⟩
      have HXX : Hid (Ex wo w5) := (HX4.out.trans hx5 : Ex wo w5)
      have HX25 : Hid (Ex w2 w5) := (HX2r.out.trans HXX.out : Ex w2 w5)
      have HL5 : Hid (Pd.Lay (fun _ => True) P w5 xP) := (Pd.Lay.below _ HLo.out HXX.out : Pd.Lay _ _ w5 xP)
      have HB55 : Hid (Byt w5 p5 c5 R) := (HB5.out.below hx5 : Byt w5 p5 c5 R)
      have HB65 : Hid (Byt w5 p6 c6 R) := hb6
      clear hb6 hx5 HCF d0 d1 d2 d3 d4 d5 d6
      go_wp2_with fail
      have hre := Ex.refl
      refine Rg.wp_rows [.inl (Value.slice (some ⟨b, off, none⟩) 36 lc), .inl (Value.int .i64 (i : Int)), .inl (Value.pointer (some ⟨b, off + i * 7, none⟩)), .inl (pvv xP), .inl (.bool o), .inl (Value.slice (some ⟨b, off, none⟩) 36 lc), .inl (Value.int .i64 (i : Int)), .inl (Value.pointer (some ⟨b, off + i * 7, none⟩)), .inl (pvv xP), .inl (.bool o), .inl (.bool false), .inl (.bool false), .inl (Value.slice (some ⟨b, off, none⟩) 36 lc), .inl (Value.int .i64 (i : Int)), .inl (Value.pointer (some ⟨b, off + i * 7, none⟩)), .inl (pvv xP), .inr (Pd.IsP (fun _ => True) NP), .inl (Value.slice (some ⟨b, off, none⟩) 36 lc), .inl (Value.int .i64 (i : Int)), .inl (Value.pointer (some ⟨b, off + i * 7, none⟩)), .inl (pvv xP), .inr (Pd.IsP (fun _ => True) NP), .inl (.bool true), .inl (.bool false), .inl (.bool false), .inl (.bool false), .inl (Value.slice (some ⟨b, off, none⟩) 36 lc), .inl (Value.int .i64 (i : Int)), .inl (Value.pointer (some ⟨b, off + i * 7, none⟩)), .inl (pvv xP), .inl (.int .i64 (n : Int)), .inl (Value.slice (some ⟨b, off, none⟩) 36 lc), .inl (Value.int .i64 (i : Int)), .inl (Value.pointer (some ⟨b, off + i * 7, none⟩)), .inl (pvv xP), .inl (.int .i64 (n : Int)), .inl (.bool false), .inl (.bool false), .inl (.bool false), .inl (Value.slice (some ⟨b, off, none⟩) 36 lc), .inl (Value.int .i64 (i : Int)), .inl (Value.pointer (some ⟨b, off + i * 7, none⟩)), .inl (pvv xP), .inr (IsRd st CL), .inl (Value.slice (some ⟨b, off, none⟩) 36 lc), .inl (Value.int .i64 (i : Int)), .inl (Value.pointer (some ⟨b, off + i * 7, none⟩)), .inl (pvv xP), .inr (IsRd st CL), .inl (.bool true), .inl (.bool false), .inl (.bool false), .inl (.bool false), .inl (Value.slice p5 R.length c5), .inl (.string (str R)), .inl (Value.slice p6 R.length c6), .inl (.string (str R)), .inl (.bool false), .inl (.bool false), .inl (.bool false), .inl (Value.int .i64 e0), .inl (Value.int .i64 e0), .inl (.bool false), .inl (.bool false)] (Ex w5) Ex 216 (by kernel_rfl) rfl (by kernel_rfl) ?st hre (Ex.drew _) ?goods ?fin
      case st => exact ⟨Pd.IsP.stands _ _, Pd.IsP.stands _ _, IsRd.stands _, IsRd.stands _, trivial⟩
      case goods =>
        refine Rg.goods_cons (Rg.good_move hre rfl rfl rfl) ?_
        refine Rg.goods_cons (Rg.good_move hre rfl rfl rfl) ?_
        refine Rg.goods_cons (Rg.good_index hre rfl rfl rfl rfl (fun wx hC => by go_simp)) ?_
        refine Rg.goods_cons (Rg.good_load hre rfl rfl rfl (fun wx hC => HLD.out wx (HXX.out.trans hC))) ?_
        refine Rg.goods_cons (Rg.good_call1 Tryz.func9 (by kernel_rfl) rfl rfl rfl (by rintro y0 wx hC rfl; exact ex_rowP (right_is P xP wx (Pd.Lay.below _ HL5.out hC) HF.out o HO.out) hC)) ?_
        refine Rg.goods_cons (Rg.good_move hre rfl rfl rfl) ?_
        refine Rg.goods_cons (Rg.good_move hre rfl rfl rfl) ?_
        refine Rg.goods_cons (Rg.good_index hre rfl rfl rfl rfl (fun wx hC => by go_simp)) ?_
        refine Rg.goods_cons (Rg.good_load hre rfl rfl rfl (fun wx hC => HLD.out wx (HXX.out.trans hC))) ?_
        refine Rg.goods_cons (Rg.good_call1 Tryz.func10 (by kernel_rfl) rfl rfl rfl (by rintro y0 wx hC rfl; exact ex_rowP (rRight_is P xP wx (Pd.Lay.below _ HL5.out hC) HF.out HSZ.out o HO.out) hC)) ?_
        refine Rg.goods_cons (Rg.good_bin hre rfl rfl rfl rfl (fun _ => rfl) (fun w => by cases o <;> simp [go_sem])) ?_
        refine Rg.goods_cons (Rg.good_move hre rfl rfl rfl) ?_
        refine Rg.goods_cons (Rg.good_move hre rfl rfl rfl) ?_
        refine Rg.goods_cons (Rg.good_move hre rfl rfl rfl) ?_
        refine Rg.goods_cons (Rg.good_index hre rfl rfl rfl rfl (fun wx hC => by go_simp)) ?_
        refine Rg.goods_cons (Rg.good_load hre rfl rfl rfl (fun wx hC => HLD.out wx (HXX.out.trans hC))) ?_
        refine Rg.goods_cons (Rg.good_call1 Tryz.func12 (by kernel_rfl) rfl rfl rfl (by rintro y0 wx hC rfl; exact norm_row P NP xP wx (Pd.Lay.below _ HL5.out hC) HF.out HN.out hC)) ?_
        refine Rg.goods_cons (Rg.good_move hre rfl rfl rfl) ?_
        refine Rg.goods_cons (Rg.good_move hre rfl rfl rfl) ?_
        refine Rg.goods_cons (Rg.good_index hre rfl rfl rfl rfl (fun wx hC => by go_simp)) ?_
        refine Rg.goods_cons (Rg.good_load hre rfl rfl rfl (fun wx hC => HLD.out wx (HXX.out.trans hC))) ?_
        refine Rg.goods_cons (Rg.good_call1 Tryz.func13 (by kernel_rfl) rfl rfl rfl (by rintro y0 wx hC rfl; exact rnorm_row P NP xP wx (Pd.Lay.below _ HL5.out hC) HF.out HSZ.out HNB.out hC)) ?_
        refine Rg.goods_cons (Rg.good_call2 Tryz.func11 (by kernel_rfl) rfl rfl rfl (by rintro y0 y1 wx hC ⟨u, rfl, hu⟩ ⟨z, rfl, hz⟩; exact ex_rowP (kpred_is NP NP u z wx true hu hz (by simp)) hC)) ?_
        refine Rg.goods_cons (Rg.good_un hre rfl rfl rfl (fun w => by go_simp)) ?_
        refine Rg.goods_cons (Rg.good_pick false hre rfl rfl rfl rfl) ?_
        refine Rg.goods_cons (Rg.good_move hre rfl rfl rfl) ?_
        refine Rg.goods_cons (Rg.good_move hre rfl rfl rfl) ?_
        refine Rg.goods_cons (Rg.good_move hre rfl rfl rfl) ?_
        refine Rg.goods_cons (Rg.good_index hre rfl rfl rfl rfl (fun wx hC => by go_simp)) ?_
        refine Rg.goods_cons (Rg.good_load hre rfl rfl rfl (fun wx hC => HLD.out wx (HXX.out.trans hC))) ?_
        refine Rg.goods_cons (Rg.good_call1 Tryz.func14 (by kernel_rfl) rfl rfl rfl (by rintro y0 wx hC rfl; exact ex_rowP (size_row P xP wx n (Pd.Lay.below _ HL5.out hC) HFP.out HNN.out) hC)) ?_
        refine Rg.goods_cons (Rg.good_move hre rfl rfl rfl) ?_
        refine Rg.goods_cons (Rg.good_move hre rfl rfl rfl) ?_
        refine Rg.goods_cons (Rg.good_index hre rfl rfl rfl rfl (fun wx hC => by go_simp)) ?_
        refine Rg.goods_cons (Rg.good_load hre rfl rfl rfl (fun wx hC => HLD.out wx (HXX.out.trans hC))) ?_
        refine Rg.goods_cons (Rg.good_call1 Tryz.func15 (by kernel_rfl) rfl rfl rfl (by rintro y0 wx hC rfl; exact ex_rowP (rsize_row P xP wx n (Pd.Lay.below _ HL5.out hC) HSZ.out HNN.out) hC)) ?_
        refine Rg.goods_cons (Rg.good_bin hre rfl rfl rfl rfl (fun _ => rfl) (fun w => by go_simp)) ?_
        refine Rg.goods_cons (Rg.good_pick false hre rfl rfl rfl rfl) ?_
        refine Rg.goods_cons (Rg.good_move hre rfl rfl rfl) ?_
        refine Rg.goods_cons (Rg.good_move hre rfl rfl rfl) ?_
        refine Rg.goods_cons (Rg.good_move hre rfl rfl rfl) ?_
        refine Rg.goods_cons (Rg.good_index hre rfl rfl rfl rfl (fun wx hC => by go_simp)) ?_
        refine Rg.goods_cons (Rg.good_load hre rfl rfl rfl (fun wx hC => HLD.out wx (HXX.out.trans hC))) ?_
        refine Rg.goods_cons (Rg.good_call1 Tryz.func17 (by kernel_rfl) rfl rfl rfl (by rintro y0 wx hC rfl; exact isrd_row (cols_row P CL xP wx (Pd.Lay.below _ HL5.out hC) HFP.out HCL.out) hC)) ?_
        refine Rg.goods_cons (Rg.good_move hre rfl rfl rfl) ?_
        refine Rg.goods_cons (Rg.good_move hre rfl rfl rfl) ?_
        refine Rg.goods_cons (Rg.good_index hre rfl rfl rfl rfl (fun wx hC => by go_simp)) ?_
        refine Rg.goods_cons (Rg.good_load hre rfl rfl rfl (fun wx hC => HLD.out wx (HXX.out.trans hC))) ?_
        refine Rg.goods_cons (Rg.good_call1 Tryz.func18 (by kernel_rfl) rfl rfl rfl (by rintro y0 wx hC rfl; exact isrd_row (rcols_row P CL xP wx (Pd.Lay.below _ HL5.out hC) HCC.out HCL.out) hC)) ?_
        refine Rg.goods_cons (Rg.good_call2 Tryz.func16 (by kernel_rfl) rfl rfl rfl (by rintro y0 y1 wx hC ⟨a1, k1, rfl, h1⟩ ⟨a2, k2, rfl, h2⟩; exact ex_rowP (ktexts_is a1 a2 _ _ k1 k2 CL CL wx rfl rfl h1 h2 true (by simp)) hC)) ?_
        refine Rg.goods_cons (Rg.good_un hre rfl rfl rfl (fun w => by go_simp)) ?_
        refine Rg.goods_cons (Rg.good_pick false hre rfl rfl rfl rfl) ?_
        refine Rg.goods_cons (Rg.good_move hre rfl rfl rfl) ?_
        refine Rg.goods_cons (Rg.good_move hre rfl rfl rfl) ?_
        refine Rg.goods_cons (Rg.good_conv hre rfl rfl (by rintro u wx hC rfl; exact run_str (HB55.out.below hC) rfl)) ?_
        refine Rg.goods_cons (Rg.good_move hre rfl rfl rfl) ?_
        refine Rg.goods_cons (Rg.good_conv hre rfl rfl (by rintro u wx hC rfl; exact run_str (HB65.out.below hC) rfl)) ?_
        refine Rg.goods_cons (Rg.good_bin hre rfl rfl rfl rfl (fun _ => rfl) (fun w => by go_simp)) ?_
        refine Rg.goods_cons (Rg.good_pick false hre rfl rfl rfl rfl) ?_
        refine Rg.goods_cons (Rg.good_move hre rfl rfl rfl) ?_
        refine Rg.goods_cons (Rg.good_move hre rfl rfl rfl) ?_
        refine Rg.goods_cons (Rg.good_move hre rfl rfl rfl) ?_
        refine Rg.goods_cons (Rg.good_bin hre rfl rfl rfl rfl (fun _ => rfl) (fun w => by go_simp)) ?_
        refine Rg.goods_cons (Rg.good_pick false hre rfl rfl rfl rfl) ?_
        exact Rg.goods_nil
      case fin =>
        intro wy hx
        simp only [Rg.later, Act.put, List.setIfInBounds_toArray, List.set_cons_succ, List.set_cons_zero]
        intro _ _ _ _ _ _ _ _
        have HXy : Hid (Ex w2 wy) := (HX25.out.trans hx : Ex w2 wy)
        have HXq0 : Hid (Ex wo wy) := (HXX.out.trans hx : Ex wo wy)
        clear hx
        go_wp2_with fail
        go_loopw [8] (fun kv wr => ∃ k : Nat, k ≤ 7 ∧ kv = .int .i64 k ∧ Hid (Ex wy wr)) (fun kv wr => 7 - (intOf kv).toNat)
        case atStart => exact ⟨0, by omega, rfl, Ex.refl wy⟩
        case round =>
          obtain ⟨k, hk, rfl, HXyr⟩ := hrel
          have HXq : Hid (Ex wo wr) := (HXq0.out.trans HXyr.out : Ex wo wr)
          by_cases hkt : k < 7
          · have htk : (k : Int) < 7 := by omega
            have HX2r : Hid (Ex w2 wr) := (HXy.out.trans HXyr.out : Ex w2 wr)
            obtain ⟨b2, off2, ta, tc, hpp, t0, t1, t2, hTr⟩ := (HRR.out.below HX2r.out).at (i := k) (by show k < 7; exact hkt)
            obtain ⟨x, hx⟩ : ∃ x, rows7[k]'(by show k < 7; exact hkt) = x := ⟨_, rfl⟩
            rw [hx] at t0 t1 t2 hTr
            simp only [Option.some.injEq, Addr.mk.injEq] at hpp
            obtain ⟨hp1, hp2, _⟩ := hpp
            subst hp1
            subst hp2
            have HXS : Hid (∀ c ∈ x.c, c.s.length ≤ maxLen) := (rows_short x (by rw [← hx]; exact List.getElem_mem _) : ∀ c ∈ x.c, c.s.length ≤ maxLen)
            obtain ⟨xl, hxl⟩ : ∃ xl, x.c.length = xl := ⟨_, rfl⟩
            have hRX : RvOk wr ⟨x.t, x.q, ta, x.c.length, tc⟩ x := ⟨rfl, rfl, rfl, hTr⟩
            rw [hxl] at hRX t2
            have HRX : Hid (RvOk wr ⟨x.t, x.q, ta, xl, tc⟩ x) := hRX
            have HLr : Hid (Pd.Lay (fun _ => True) P wr xP) := (Pd.Lay.below _ HLo.out HXq.out : Pd.Lay _ _ wr xP)
            have HT0 : Hid (∀ wz, Ex wr wz → (Instr.loadAt 44 (.pointer (some ⟨rb, ro + k * 3, none⟩))).run Tryz.prog wz = .ok (rvv ⟨x.t, x.q, ta, xl, tc⟩) wz) := (fun wz hz => loadI_row (cell_ex t0 hz) (cell_ex t1 hz) (cell_ex t2 hz) : ∀ wz, Ex wr wz → _)
            obtain ⟨y, hy⟩ : ∃ y, Pd.ev x P = y := ⟨_, rfl⟩
            have HY : Hid (Pd.ev x P = y) := hy
            clear hx hTr hxl hRX t0 t1 t2 hy
            go_wp2_with fail
            have hre := Ex.refl
            refine Rg.wp_rows [.inl (Value.slice (some ⟨b, off, none⟩) 36 lc), .inl (Value.int .i64 (i : Int)), .inl (Value.pointer (some ⟨b, off + i * 7, none⟩)), .inl (pvv xP), .inl (Value.slice (some ⟨rb, ro, none⟩) 7 rcp), .inl (Value.int .i64 (k : Int)), .inl (Value.pointer (some ⟨rb, ro + k * 3, none⟩)), .inl (rvv ⟨x.t, x.q, ta, xl, tc⟩), .inl (.bool y), .inl (Value.slice (some ⟨b, off, none⟩) 36 lc), .inl (Value.int .i64 (i : Int)), .inl (Value.pointer (some ⟨b, off + i * 7, none⟩)), .inl (pvv xP), .inl (Value.slice (some ⟨rb, ro, none⟩) 7 rcp), .inl (Value.int .i64 (k : Int)), .inl (Value.pointer (some ⟨rb, ro + k * 3, none⟩)), .inl (rvv ⟨x.t, x.q, ta, xl, tc⟩), .inl (.bool y), .inl (.bool false)] (Ex wr) Ex 216 (by kernel_rfl) rfl (by kernel_rfl) ?st hre (Ex.drew _) ?goods ?fin
            case st => exact trivial
            case goods =>
              refine Rg.goods_cons (Rg.good_move hre rfl rfl rfl) ?_
              refine Rg.goods_cons (Rg.good_move hre rfl rfl rfl) ?_
              refine Rg.goods_cons (Rg.good_index hre rfl rfl rfl rfl (fun wx hC => by go_simp)) ?_
              refine Rg.goods_cons (Rg.good_load hre rfl rfl rfl (fun wx hC => HLD.out wx (HXq.out.trans hC))) ?_
              refine Rg.goods_cons (Rg.good_move hre rfl rfl rfl) ?_
              refine Rg.goods_cons (Rg.good_move hre rfl rfl rfl) ?_
              refine Rg.goods_cons (Rg.good_index hre rfl rfl rfl rfl (fun wx hC => by go_simp)) ?_
              refine Rg.goods_cons (Rg.good_load hre rfl rfl rfl (fun wx hC => HT0.out wx hC)) ?_
              refine Rg.goods_cons (Rg.good_call2 Tryz.func19 (by kernel_rfl) rfl rfl rfl (by rintro y0 y1 wx hC rfl rfl; exact ex_rowP (ev_is P x xP _ wx (Pd.Lay.below _ HLr.out hC) HF.out (HRX.out.below hC) HXS.out HFP.out y HY.out) hC)) ?_
              refine Rg.goods_cons (Rg.good_move hre rfl rfl rfl) ?_
              refine Rg.goods_cons (Rg.good_move hre rfl rfl rfl) ?_
              refine Rg.goods_cons (Rg.good_index hre rfl rfl rfl rfl (fun wx hC => by go_simp)) ?_
              refine Rg.goods_cons (Rg.good_load hre rfl rfl rfl (fun wx hC => HLD.out wx (HXq.out.trans hC))) ?_
              refine Rg.goods_cons (Rg.good_move hre rfl rfl rfl) ?_
              refine Rg.goods_cons (Rg.good_move hre rfl rfl rfl) ?_
              refine Rg.goods_cons (Rg.good_index hre rfl rfl rfl rfl (fun wx hC => by go_simp)) ?_
              refine Rg.goods_cons (Rg.good_load hre rfl rfl rfl (fun wx hC => HT0.out wx hC)) ?_
              refine Rg.goods_cons (Rg.good_call2 Tryz.func20 (by kernel_rfl) rfl rfl rfl (by rintro y0 y1 wx hC rfl rfl; exact ex_rowP (reval_is x HXS.out P HF.out xP _ wx y (Pd.Lay.below _ HLr.out hC) (HRX.out.below hC) HY.out) hC)) ?_
              refine Rg.goods_cons (Rg.good_bin hre rfl rfl rfl rfl (fun _ => rfl) (fun w => by cases y <;> simp [go_sem])) ?_
              exact Rg.goods_nil
            case fin =>
              intro wz hx
              simp only [Rg.later, Act.put, List.setIfInBounds_toArray, List.set_cons_succ, List.set_cons_zero]
              have HX16 : Hid (Ex wy wz) := (HXyr.out.trans hx : Ex wy wz)
              clear hx
              go_wp2_with fail
              go_roundw
              case rel => exact ⟨k + 1, by omega, by go_num, HX16⟩
              case measure => simp [intOf]; omega
          · have htk : ¬ (k : Int) < 7 := by omega
            have HXend : Hid (Ex w2 wr) := (HXy.out.trans HXyr.out : Ex w2 wr)
            go_wp2_with fail
            go_roundw
            case rel => exact ⟨i + 1, by omega, by go_num, HXend⟩
            case measure => simp [intOf]; omega
    · have hti : ¬ (i : Int) < 36 := by omega
      have HXr : Hid (Ex w wr) := (HX2.out.trans HX2r.out : Ex w wr)
      go_upto_region 15 with fail
      have hre := Ex.refl
      refine Rg.wp_rows_in [.inr (IsByt [0]), .inr (IsByt [11]), .inr (IsByt [1, 0]), .inr (IsByt [1, 41]), .inr (IsByt [1, 1]), .inr (IsByt [3, 3, 3, 3, 3, 3, 9, 1, 120]), .inr (IsByt [3, 3, 3, 3, 3, 9, 1, 120]), .inr (IsByt [4, 1, 120, 10]), .inr (IsByt [4, 13]), .inr (IsByt [4, 1, 88, 10]), .inr (IsByt [6, 1, 120, 41]), .inr (IsByt [7, 1, 120, 9]), .inr (IsByt [7, 1, 120, 2, 1, 98, 1, 97]), .inr (IsByt [7, 1, 120, 1, 0, 5]), .inr (IsByt [10, 2]), .inr (IsByt [10, 2, 4]), .inr (IsByt [9, 0]), .inr (IsTx lits18), .inl (Value.int .i64 18), .inl (Value.int .i64 0)] (Ex wr) Ex 216 rfl (by kernel_rfl) ?st hre (Ex.refl _) ?goods ?fin
      case st => exact ⟨IsByt.stands _, IsByt.stands _, IsByt.stands _, IsByt.stands _, IsByt.stands _, IsByt.stands _, IsByt.stands _, IsByt.stands _, IsByt.stands _, IsByt.stands _, IsByt.stands _, IsByt.stands _, IsByt.stands _, IsByt.stands _, IsByt.stands _, IsByt.stands _, IsByt.stands _, IsTx.stands _, trivial⟩
      case goods =>
        refine Rg.goods_cons (good_byts [.const (.int .u8 0)] [0] rfl rfl ⟨rfl, trivial⟩ rfl (by decide) (by decide)) ?_
        refine Rg.goods_cons (good_byts [.const (.int .u8 11)] [11] rfl rfl ⟨rfl, trivial⟩ rfl (by decide) (by decide)) ?_
        refine Rg.goods_cons (good_byts [.const (.int .u8 1), .const (.int .u8 0)] [1, 0] rfl rfl ⟨rfl, rfl, trivial⟩ rfl (by decide) (by decide)) ?_
        refine Rg.goods_cons (good_byts [.const (.int .u8 1), .const (.int .u8 41)] [1, 41] rfl rfl ⟨rfl, rfl, trivial⟩ rfl (by decide) (by decide)) ?_
        refine Rg.goods_cons (good_byts [.const (.int .u8 1), .const (.int .u8 1)] [1, 1] rfl rfl ⟨rfl, rfl, trivial⟩ rfl (by decide) (by decide)) ?_
        refine Rg.goods_cons (good_byts [.const (.int .u8 3), .const (.int .u8 3), .const (.int .u8 3), .const (.int .u8 3), .const (.int .u8 3), .const (.int .u8 3), .const (.int .u8 9), .const (.int .u8 1), .const (.int .u8 120)] [3, 3, 3, 3, 3, 3, 9, 1, 120] rfl rfl ⟨rfl, rfl, rfl, rfl, rfl, rfl, rfl, rfl, rfl, trivial⟩ rfl (by decide) (by decide)) ?_
        refine Rg.goods_cons (good_byts [.const (.int .u8 3), .const (.int .u8 3), .const (.int .u8 3), .const (.int .u8 3), .const (.int .u8 3), .const (.int .u8 9), .const (.int .u8 1), .const (.int .u8 120)] [3, 3, 3, 3, 3, 9, 1, 120] rfl rfl ⟨rfl, rfl, rfl, rfl, rfl, rfl, rfl, rfl, trivial⟩ rfl (by decide) (by decide)) ?_
        refine Rg.goods_cons (good_byts [.const (.int .u8 4), .const (.int .u8 1), .const (.int .u8 120), .const (.int .u8 10)] [4, 1, 120, 10] rfl rfl ⟨rfl, rfl, rfl, rfl, trivial⟩ rfl (by decide) (by decide)) ?_
        refine Rg.goods_cons (good_byts [.const (.int .u8 4), .const (.int .u8 13)] [4, 13] rfl rfl ⟨rfl, rfl, trivial⟩ rfl (by decide) (by decide)) ?_
        refine Rg.goods_cons (good_byts [.const (.int .u8 4), .const (.int .u8 1), .const (.int .u8 88), .const (.int .u8 10)] [4, 1, 88, 10] rfl rfl ⟨rfl, rfl, rfl, rfl, trivial⟩ rfl (by decide) (by decide)) ?_
        refine Rg.goods_cons (good_byts [.const (.int .u8 6), .const (.int .u8 1), .const (.int .u8 120), .const (.int .u8 41)] [6, 1, 120, 41] rfl rfl ⟨rfl, rfl, rfl, rfl, trivial⟩ rfl (by decide) (by decide)) ?_
        refine Rg.goods_cons (good_byts [.const (.int .u8 7), .const (.int .u8 1), .const (.int .u8 120), .const (.int .u8 9)] [7, 1, 120, 9] rfl rfl ⟨rfl, rfl, rfl, rfl, trivial⟩ rfl (by decide) (by decide)) ?_
        refine Rg.goods_cons (good_byts [.const (.int .u8 7), .const (.int .u8 1), .const (.int .u8 120), .const (.int .u8 2), .const (.int .u8 1), .const (.int .u8 98), .const (.int .u8 1), .const (.int .u8 97)] [7, 1, 120, 2, 1, 98, 1, 97] rfl rfl ⟨rfl, rfl, rfl, rfl, rfl, rfl, rfl, rfl, trivial⟩ rfl (by decide) (by decide)) ?_
        refine Rg.goods_cons (good_byts [.const (.int .u8 7), .const (.int .u8 1), .const (.int .u8 120), .const (.int .u8 1), .const (.int .u8 0), .const (.int .u8 5)] [7, 1, 120, 1, 0, 5] rfl rfl ⟨rfl, rfl, rfl, rfl, rfl, rfl, trivial⟩ rfl (by decide) (by decide)) ?_
        refine Rg.goods_cons (good_byts [.const (.int .u8 10), .const (.int .u8 2)] [10, 2] rfl rfl ⟨rfl, rfl, trivial⟩ rfl (by decide) (by decide)) ?_
        refine Rg.goods_cons (good_byts [.const (.int .u8 10), .const (.int .u8 2), .const (.int .u8 4)] [10, 2, 4] rfl rfl ⟨rfl, rfl, rfl, trivial⟩ rfl (by decide) (by decide)) ?_
        refine Rg.goods_cons (good_byts [.const (.int .u8 9), .const (.int .u8 0)] [9, 0] rfl rfl ⟨rfl, rfl, trivial⟩ rfl (by decide) (by decide)) ?_
        refine Rg.goods_cons (good_txs [.const (.slice none 0 0), .tmp 138, .tmp 139, .tmp 140, .tmp 141, .tmp 142, .tmp 143, .tmp 144, .tmp 145, .tmp 146, .tmp 147, .tmp 148, .tmp 149, .tmp 150, .tmp 151, .tmp 152, .tmp 153, .tmp 154] [.inl (.slice none 0 0), .inr (IsByt [0]), .inr (IsByt [11]), .inr (IsByt [1, 0]), .inr (IsByt [1, 41]), .inr (IsByt [1, 1]), .inr (IsByt [3, 3, 3, 3, 3, 3, 9, 1, 120]), .inr (IsByt [3, 3, 3, 3, 3, 9, 1, 120]), .inr (IsByt [4, 1, 120, 10]), .inr (IsByt [4, 13]), .inr (IsByt [4, 1, 88, 10]), .inr (IsByt [6, 1, 120, 41]), .inr (IsByt [7, 1, 120, 9]), .inr (IsByt [7, 1, 120, 2, 1, 98, 1, 97]), .inr (IsByt [7, 1, 120, 1, 0, 5]), .inr (IsByt [10, 2]), .inr (IsByt [10, 2, 4]), .inr (IsByt [9, 0])] lits18 rfl rfl ⟨rfl, rfl, rfl, rfl, rfl, rfl, rfl, rfl, rfl, rfl, rfl, rfl, rfl, rfl, rfl, rfl, rfl, rfl, trivial⟩ ⟨fun v w h => by rw [show v = .slice none 0 0 from h]; exact ⟨none, 0, rfl, Byt.nil _⟩, fun _ _ h => h, fun _ _ h => h, fun _ _ h => h, fun _ _ h => h, fun _ _ h => h, fun _ _ h => h, fun _ _ h => h, fun _ _ h => h, fun _ _ h => h, fun _ _ h => h, fun _ _ h => h, fun _ _ h => h, fun _ _ h => h, fun _ _ h => h, fun _ _ h => h, fun _ _ h => h, fun _ _ h => h, trivial⟩ (by decide) (by decide)) ?_
        refine Rg.goods_cons (Rg.good_len hre rfl rfl (by rintro u wx hC ⟨g, rfl, _⟩; go_simp; rfl)) ?_
        refine Rg.goods_cons (Rg.good_move hre rfl rfl rfl) ?_
        exact Rg.goods_nil
      case fin =>
        intro wl hx
        simp only [Rg.later, Act.put, List.setIfInBounds_toArray, List.set_cons_succ, List.set_cons_zero]
        intro _ _ _ _ _ _ _ _ _ _ _ _ _ _ _ _ _ _ _ _ _ _ _ _ _ _ _ _ _ _ _ _ _ _ v155 h155
        obtain ⟨g, rfl, hT⟩ := h155
        have HTX : Hid (∀ i (hi : i < lits18.length), ∃ a c, wl.cell? ⟨g, i, none⟩ = some (.slice a lits18[i].length c) ∧ Byt wl a c lits18[i]) := hT
        have HXl : Hid (Ex w wl) := (HXr.out.trans hx : Ex w wl)
        clear hx hT
        rw [show lits18.length = 18 from rfl]
        go_wp2_with fail
        go_loopw [157, 10, 11, 12, 13, 14, 15, 16] (fun jv bv xv kv ev yv mv fv wr => ∃ j : Nat, j ≤ 18 ∧ jv = .int .i64 j ∧ Hid (Ex wl wr)) (fun jv bv xv kv ev yv mv fv wr => 18 - (intOf jv).toNat)
        case atStart => exact ⟨0, by omega, rfl, Ex.refl wl⟩
        case round =>
          obtain ⟨j, hj, rfl, HXr3⟩ := hrel
          by_cases hjt : j < 18
          · have htj : (j : Int) < 18 := by omega
            obtain ⟨a8, c8, hc8, hb8⟩ := HTX.out j (by show j < 18; exact hjt)
            obtain ⟨B, hB⟩ : ∃ B, lits18[j]'(by show j < 18; exact hjt) = B := ⟨_, rfl⟩
            rw [hB] at hc8 hb8
            have hc9 := cell_ex hc8 HXr3.out
            have HB8 : Hid (Byt wr a8 c8 B) := (hb8.below HXr3.out : Byt wr a8 c8 B)
            obtain ⟨⟨Q, k2, e2⟩, hdec⟩ : ∃ x, Pd.dec B 0 = x := ⟨_, rfl⟩
            have HCD : Hid (Calls Tryz.prog 21 #[.slice a8 B.length c8, .int .i64 0] wr fun x w' => ∃ u, x = .returned (.tuple #[pvv u, .int .i64 (k2 : Int), .int .i64 (e2 : Int)]) ∧ Pd.Lay (fun g => wr.heap.size ≤ g) Q w' u ∧ Ex wr w') := decode_is a8 _ c8 B 0 wr HB8.out rfl Q k2 e2 hdec
            have HDC : Hid (Pd.dec B 0 = (Q, k2, e2)) := hdec
            clear hc8 hb8 hB hdec
            go_wp2_with fail
            go_at_call 21
            refine Calls.mono HCD.out ?_
            rintro e w7 ⟨xD, rfl, hL7, hx7⟩
            obtain ⟨w8, hw8⟩ : ∃ w8, w7.alloc (pb xD) = w8 := ⟨_, rfl⟩
            have hx8 : Ex w7 w8 := by rw [← hw8]; exact (Below.refl _ _).alloc (Nat.le_refl _) _
            have HX8 : Hid (Ex wl w8) := (HXr3.out.trans (hx7.trans hx8) : Ex wl w8)
            have HPD : Hid (PAt w8 w7.heap.size xD) := (by rw [← hw8]; exact PAt.new w7 xD : PAt w8 _ _)
            have HLD : Hid (Pd.Lay (fun _ => True) Q w8 xD) := (Pd.Lay.mono (fun _ _ => trivial) _ (Pd.Lay.below _ hL7 hx8) : Pd.Lay _ _ w8 xD)
            have HCD2 : Hid (Calls Tryz.prog 22 #[.slice a8 B.length c8, .int .i64 0] w8 fun x w' => ∃ u, x = .returned (.tuple #[pvv u, .int .i64 (k2 : Int), .int .i64 (e2 : Int)]) ∧ Pd.Lay (fun g => w8.heap.size ≤ g) Q w' u ∧ Ex w8 w') := rdecode_is a8 _ c8 B 0 w8 (HB8.out.below (hx7.trans hx8)) rfl Q k2 e2 HDC.out
            clear hL7 hx7 hx8 HCD hc9
            simp only [pvv, sv]
            go_wp2_with fail
            go_at_call 22
            refine Calls.mono HCD2.out ?_
            rintro e w9 ⟨xE, rfl, hL9, hx9⟩
            obtain ⟨w10, hw10⟩ : ∃ w10, w9.alloc (pb xE) = w10 := ⟨_, rfl⟩
            have hx10 : Ex w9 w10 := by rw [← hw10]; exact (Below.refl _ _).alloc (Nat.le_refl _) _
            have HX10 : Hid (Ex wl w10) := (HX8.out.trans (hx9.trans hx10) : Ex wl w10)
            have HPD10 : Hid (PAt w10 w7.heap.size xD) := (HPD.out.below (hx9.trans hx10) : PAt w10 _ _)
            have HPE : Hid (PAt w10 w9.heap.size xE) := (by rw [← hw10]; exact PAt.new w9 xE : PAt w10 _ _)
            have HCK2 : Hid (Calls Tryz.prog 11 #[pvv xD, pvv xE] w10 fun e w' => e = .returned (.bool true) ∧ Ex w10 w') := kpred_is Q Q xD xE w10 true (Pd.Lay.below _ HLD.out (hx9.trans hx10)) (Pd.Lay.mono (fun _ _ => trivial) _ (Pd.Lay.below _ hL9 hx10)) (by simp)
            obtain ⟨g0, g1, g2, g3, g4, g5, g6⟩ := HPD10.out.all
            obtain ⟨z0, z1, z2, z3, z4, z5, z6⟩ := HPE.out.all
            clear hL9 hx9 hx10 HCD2 hw8
            simp only [pvv, sv]
            go_wp2_with fail
            go_at_call 11
            refine Calls.mono HCK2.out ?_
            rintro e w11 ⟨rfl, hx11⟩
            have HX11 : Hid (Ex wl w11) := (HX10.out.trans hx11 : Ex wl w11)
            clear hx11 HCK2 g0 g1 g2 g3 g4 g5 g6 z0 z1 z2 z3 z4 z5 z6 hw10
            go_wp2_with fail
            go_roundw
            case rel => exact ⟨j + 1, by omega, by go_num, HX11⟩
            case measure => simp [intOf]; omega
          · have htj : ¬ (j : Int) < 18 := by omega
            have HXe : Hid (Ex w wr) := (HXl.out.trans HXr3.out : Ex w wr)
            obtain ⟨wm, hwm⟩ : ∃ W, W = wr := ⟨_, rfl⟩
            subst hwm
            go_wp2_with (refine wpList_build_own rfl 188 rfl 2 [1, 40] rfl (by decide) (fun _ => by kernel_rfl) wm.heap.size (Nat.le_refl _) ?_; intro g45 w45 ho45 hx45)
            have HO0 : Hid (Own w45 wm.heap.size (.slice (some ⟨g45, 0, none⟩) 2 2) (mb 0)) := ho45
            have HX45 : Hid (Ex wm w45) := hx45
            clear ho45 hx45
            go_loopw [17, 18] (fun mv iv wr => ∃ i : Nat, i ≤ 40 ∧ iv = .int .i64 i ∧ Hid (Own wr wm.heap.size mv (mb i)) ∧ Hid (Ex wm wr)) (fun mv iv wr => 40 - (intOf iv).toNat)
            case atStart => exact ⟨0, by omega, rfl, HO0, HX45⟩
            case round =>
              obtain ⟨i, hi, rfl, HO, HXw⟩ := hrel
              by_cases hlt : i < 40
              · have hti : (i : Int) < 40 := by omega
                have HML : Hid ((mb i).length = 2 + 2 * i) := mb_len i
                have HMU : Hid (mb i ++ [1, 0] = mb (i + 1)) := mb_up i
                go_wp2_with (first
                  | (refine wpList_build_own rfl 194 rfl 2 [1, 0] rfl (by decide) (fun _ => by kernel_rfl) wr.heap.size (Nat.le_refl _) ?_; intro g46 w46 ho46 hx46; obtain ⟨a46, c46, hv46, hb46⟩ := ho46.byt; simp only [Value.slice.injEq] at hv46; obtain ⟨rfl, _, rfl⟩ := hv46)
                  | (at_builtin; refine wpList_append_big rfl (.tmp 193) (.tmp 194) rfl wm.heap.size _ (mb i) rfl (HO.out.later hx46) _ _ _ [1, 0] rfl rfl hb46 (by have := HML.out; simp; omega) (Nat.le_trans (Ex.size HXw.out) (Ex.size hx46)) ?_; intro v47 w47 ho47 hg47; have X47 : Ex wm w47 := step_below0 (HXw.out.trans hx46) (Ex.size (HXw.out.trans hx46)) (HO.out.later hx46) hg47; clear hg47; rw [HMU.out] at ho47))
                have HO9 : Hid (Own w47 wm.heap.size v47 (mb (i + 1))) := ho47
                have HX9 : Hid (Ex wm w47) := X47
                clear ho47 X47 ho46 hb46 hx46
                go_wp2_with fail
                go_roundw
                case rel => exact ⟨i + 1, by omega, by go_num, HO9, HX9⟩
                case measure => simp [intOf]; omega
              · have hti : ¬ (i : Int) < 40 := by omega
                have hi40 : i = 40 := by omega
                subst hi40
                obtain ⟨ad, cd, hvd, hbd⟩ := HO.out.byt
                subst hvd
                have HBd : Hid (Byt wr ad cd (mb 40)) := hbd
                have HXa : Hid (Ex w wr) := (HXe.out.trans HXw.out : Ex w wr)
                obtain ⟨⟨Q, k2, e2⟩, hdec⟩ : ∃ x, Pd.dec (mb 40) 0 = x := ⟨_, rfl⟩
                have he2 : e2 = 4 := by have h := dec_many; rw [hdec] at h; exact h
                subst he2
                obtain ⟨⟨Q', k3, e3⟩, hdec3⟩ : ∃ x, Pd.dec [] 1 = x := ⟨_, rfl⟩
                have he3 : e3 = 1 := by have h := dec_none; rw [hdec3] at h; exact h
                subst he3
                have HD3 : Hid (Pd.dec [] 1 = (Q', k3, 1)) := hdec3
                have HCD : Hid (Calls Tryz.prog 21 #[.slice ad (mb 40).length cd, .int .i64 0] wr fun x w' => ∃ u, x = .returned (.tuple #[pvv u, .int .i64 (k2 : Int), .int .i64 ((4 : Nat) : Int)]) ∧ Pd.Lay (fun g => wr.heap.size ≤ g) Q w' u ∧ Ex wr w') := decode_is ad _ cd (mb 40) 0 wr HBd.out rfl Q k2 4 hdec
                clear hbd hdec hdec3 HO
                go_wp2_with fail
                go_at_call 21
                refine Calls.mono HCD.out ?_
                rintro e w7 ⟨xD, rfl, hL7, hx7⟩
                rw [show ((4 : Nat) : Int) = 4 from rfl]
                obtain ⟨w8, hw8⟩ : ∃ w8, w7.alloc (pb xD) = w8 := ⟨_, rfl⟩
                have hx8 : Ex w7 w8 := by rw [← hw8]; exact (Below.refl _ _).alloc (Nat.le_refl _) _
                have HX8 : Hid (Ex w w8) := (HXa.out.trans (hx7.trans hx8) : Ex w w8)
                have HCD2 : Hid (Calls Tryz.prog 21 #[.slice none 0 0, .int .i64 1] w8 fun x w' => ∃ u, x = .returned (.tuple #[pvv u, .int .i64 (k3 : Int), .int .i64 ((1 : Nat) : Int)]) ∧ Pd.Lay (fun g => w8.heap.size ≤ g) Q' w' u ∧ Ex w8 w') := decode_is none 0 0 [] 1 w8 (Byt.nil _) rfl Q' k3 1 HD3.out
                clear hL7 hx7 hx8 HCD
                simp only [pvv, sv]
                go_wp2_with fail
                go_at_call 21
                refine Calls.mono HCD2.out ?_
                rintro e w9 ⟨xE, rfl, hL9, hx9⟩
                rw [show ((1 : Nat) : Int) = 1 from rfl]
                obtain ⟨w10, hw10⟩ : ∃ w10, w9.alloc (pb xE) = w10 := ⟨_, rfl⟩
                have hx10 : Ex w9 w10 := by rw [← hw10]; exact (Below.refl _ _).alloc (Nat.le_refl _) _
                have HX10 : Hid (Ex w w10) := (HX8.out.trans (hx9.trans hx10) : Ex w w10)
                clear hL9 hx9 hx10 HCD2 hw8
                simp only [pvv, sv]
                go_wp2_with fail
                go_at_call 23
                refine (known_any _).mono ?_
                rintro e wf ⟨rfl, hxf⟩
                have HXf : Hid (Ex w wf) := (HX10.out.trans hxf : Ex w wf)
                clear hxf hw10
                go_wp2_with fail
                go_ret
                exact ⟨rfl, HXf.out⟩
end Go.Proofs.YtbdjccmlgdfapaaGreat.predNumbers
