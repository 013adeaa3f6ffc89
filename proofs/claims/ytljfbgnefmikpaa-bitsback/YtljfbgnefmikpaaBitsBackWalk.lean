/-
  The walk of the law BitsBack: whatever numbers it is given, it returns true.
-/
import Derived.Test.YtljfbgnefmikpaaBitsWidthWalk
namespace Go.Proofs.Ytljfbgnefmikpaa.bitsBack
open Go.RowKit
open bitsWidth (few_is)
set_option linter.unusedVariables false

theorem bool_of {f : FuncId} {args : Array Value} {w0 w : World} {v : Value} (h : Calls Try.prog f args w fun e w' => e = .returned v ∧ Ex w w') (hC : Ex w0 w) :
    Calls Try.prog f args w (fun e w' => ∃ v', e = .returned v' ∧ Rg.Spec.ok (.inl v) v' w' ∧ Ex w w' ∧ Ex w0 w') :=
  h.mono fun e w' ⟨he, hw⟩ => ⟨v, he, rfl, hw, hC.trans hw⟩
theorem known_row {w0 : World} (w : World) (hC : Ex w0 w) :
    Calls Try.prog 13 #[] w (fun e w' => ∃ v', e = .returned v' ∧ Rg.Spec.ok (.inl (.bool true)) v' w' ∧ Ex w w' ∧ Ex w0 w') := bool_of (known_any w) hC

set_option maxRecDepth 100000 in
set_option maxHeartbeats 1000000 in
theorem walk_ge (p0 : Option Addr) (c0 : Nat) (l0 : List Nat) (p1 : Option Addr) (c1 : Nat) (l1 : List Nat) (a2 : Int) (w : World) (b0 : Rd n64 w p0 c0 l0) (m0 : ∀ x ∈ l0, x < 18446744073709551616) (w0 : l0.length ≤ 17592186043904) (b1 : Rd n64 w p1 c1 l1) (m1 : ∀ x ∈ l1, x < 18446744073709551616) (w1 : l1.length ≤ 17592186043904) (w2 : -9223372036854775808 ≤ a2) (u2 : a2 ≤ 9223372036854775807) (h1 : B.width (l1.take 60) ≤ B.width (l0.take 60)) (h2 : (l0.take 60).length = (l1.take 60).length) :
    Calls Try.prog 5 #[.slice p0 l0.length c0, .slice p1 l1.length c1, .int .i64 a2] w fun e w' => e = .returned (.bool true) ∧ Below w.heap.size w w' := by
  obtain ⟨L, hL⟩ : ∃ L, l0.take 60 = L := ⟨_, rfl⟩
  obtain ⟨M, hM⟩ : ∃ M, l1.take 60 = M := ⟨_, rfl⟩
  rw [hL, hM] at h1 h2
  have hLl : L.length ≤ 60 := by rw [← hL]; simp; omega
  have hMl : M.length ≤ 60 := by rw [← hM]; simp; omega
  have hLB : Rd n64 w p0 c0 L := by rw [← hL]; exact b0.take 60
  have hMB : Rd n64 w p1 c1 M := by rw [← hM]; exact b1.take 60
  have hL64 : ∀ x ∈ L, x < 18446744073709551616 := by rw [← hL]; exact fun x hx => m0 x (List.mem_of_mem_take hx)
  have hM64 : ∀ x ∈ M, x < 18446744073709551616 := by rw [← hM]; exact fun x hx => m1 x (List.mem_of_mem_take hx)
  obtain ⟨U, hU⟩ : ∃ U, B.width L = U := ⟨_, rfl⟩
  obtain ⟨V, hV⟩ : ∃ V, B.width M = V := ⟨_, rfl⟩
  have hU64 : U ≤ 64 := by rw [← hU]; exact B.width64 hL64
  have hV64 : V ≤ 64 := by rw [← hV]; exact B.width64 hM64
  rw [hU, hV] at h1
  have H0 : Hid (Rd n64 w p0 c0 l0) := b0
  have H1 : Hid (Rd n64 w p1 c1 l1) := b1
  have HLB : Hid (Rd n64 w p0 c0 L) := hLB
  have HMB : Hid (Rd n64 w p1 c1 M) := hMB
  have HL : Hid (l0.take 60 = L) := hL
  have HM : Hid (l1.take 60 = M) := hM
  have HL64 : Hid (∀ x ∈ L, x < 18446744073709551616) := hL64
  have HM64 : Hid (∀ x ∈ M, x < 18446744073709551616) := hM64
  have HU : Hid (B.width L = U) := hU
  have HV : Hid (B.width M = V) := hV
  have hne : ((L.length : Int) != (M.length : Int)) = false := by simp; omega
  have HNe : Hid (((L.length : Int) != (M.length : Int)) = false) := hne
  have H2 : Hid (L.length = M.length) := h2
  clear b0 b1 hLB hMB hL hM hL64 hM64 hU hV m0 m1 hne h2
  have t0 : decide ((U : Int) < (V : Int)) = false := by simp; omega
  go_enter Try.func5, Try.ntmps5
  go_wp2_with fail
  refine (few_is p0 c0 l0 L _ H0.out HL.out).mono ?_
  rintro e wq ⟨rfl, hw⟩
  have hw' := hw.symm; clear hw; subst hw'
  go_wp2_with fail
  refine (few_is p1 c1 l1 M _ H1.out HM.out).mono ?_
  rintro e wq ⟨rfl, hw⟩
  have hw' := hw.symm; clear hw; subst hw'
  go_wp2_with fail
  refine (width_is p0 _ c0 L _ rfl HLB.out HL64.out (by omega) U HU.out).mono ?_
  rintro e w3 ⟨rfl, hx3⟩
  go_wp2_with fail
  refine (width_is p1 _ c1 M _ rfl (HMB.out.below hx3) HM64.out (by omega) V HV.out).mono ?_
  rintro e w4 ⟨rfl, hx4⟩
  have hx5 : Ex w w4 := hx3.trans hx4
  clear hx3 hx4
  go_wp2_with fail
  refine (within_any a2 _ _ w2 u2 (by omega) (by omega)).mono ?_
  rintro e wq ⟨R, hR, rfl, hw⟩
  have hw' := hw.symm; clear hw; subst hw'
  obtain ⟨T, hT⟩ : ∃ T, U + R = T := ⟨_, rfl⟩
  have hTi : (U : Int) + (R : Int) = (T : Int) := by omega
  have hT64 : T ≤ 64 := by omega
  have hwL : B.width L ≤ T := by rw [HU.out]; omega
  have hwM : B.width M ≤ T := by rw [HV.out]; omega
  clear hT
  obtain ⟨PL, ePL⟩ : ∃ P, P = B.pack T L := ⟨_, rfl⟩
  obtain ⟨PM, ePM⟩ : ∃ P, P = B.pack T M := ⟨_, rfl⟩
  have hpL : B.pck L (T : Int) = (PL, 0) := by rw [ePL]; exact B.pck_ok hT64 hwL
  have hpM : B.pck M (T : Int) = (PM, 0) := by rw [ePM]; exact B.pck_ok hT64 hwM
  have huL : B.unp PL (L.length : Int) (T : Int) = (L, 0) := by rw [ePL]; exact B.unp_pack hT64 hwL (by omega)
  have hsL : B.siz (L.length : Int) (T : Int) = PL.length := by
    rw [ePL, B.pack_len]; unfold B.siz; rw [if_neg (by omega)]; rfl
  have hPLm : PL.length ≤ 480 := by
    rw [ePL, B.pack_len]
    have h1 := B.size_lt L.length T
    have h2 : L.length * T ≤ 60 * 64 := Nat.mul_le_mul hLl hT64
    omega
  obtain ⟨Q, eQ⟩ : ∃ Q, decide (L = M) = Q := ⟨_, rfl⟩
  have hQs : L.length = M.length → (PL == PM) = Q := by
    intro hlen
    rw [← eQ, ePL, ePM, Bool.eq_iff_iff]
    simp [B.pack_inj (B.fits hwL) (B.fits hwM) hlen]
  have HQl : Hid (decide (L = M) = Q) := eQ
  have HQs0 : Hid (L.length = M.length → (PL == PM) = Q) := hQs
  have HpL : Hid (B.pck L (T : Int) = (PL, 0)) := hpL
  have HpM : Hid (B.pck M (T : Int) = (PM, 0)) := hpM
  have HuL : Hid (B.unp PL (L.length : Int) (T : Int) = (L, 0)) := huL
  have HsL : Hid (B.siz (L.length : Int) (T : Int) = PL.length) := hsL
  clear ePL ePM hpL hpM huL hsL eQ hQs hwL hwM
  go_wp2_with fail
  refine (pack_is p0 _ c0 L _ _ rfl (HLB.out.below hx5) HL64.out (by omega) (by omega) (by omega) _ _ HpL.out).mono ?_
  rintro e w6 ⟨v6, rfl, hv6, hx6⟩
  obtain ⟨aa, ca, rfl, hBa⟩ := hv6
  go_wp2_with fail
  refine (pack_is p1 _ c1 M _ _ rfl (HMB.out.below (hx5.trans hx6)) HM64.out (by omega) (by omega) (by omega) _ _ HpM.out).mono ?_
  rintro e w7 ⟨v7, rfl, hv7, hx7⟩
  obtain ⟨ab, cb, rfl, hBb⟩ := hv7
  go_wp2_with fail
  refine (unpack_is aa _ ca PL _ _ _ rfl (hBa.below hx7) (by omega) (by omega) (by omega) (by omega) (by omega) _ _ HuL.out).mono ?_
  rintro e w8 ⟨v8, rfl, hv8, hx8⟩
  obtain ⟨ax, cx, rfl, hBx⟩ := hv8
  have hX8 : Ex w w8 := ((hx5.trans hx6).trans hx7).trans hx8
  go_wp2_with fail
  refine (same64_any ax p0 cx c0 _ _ L L _ rfl rfl hBx (HLB.out.below hX8) true (by simp)).mono ?_
  rintro e w9 ⟨rfl, hx9⟩
  go_wp2_with fail
  refine (size_is _ _ _ (by omega) (by omega) (by omega) (by omega) _ HsL.out).mono ?_
  rintro e w10 ⟨rfl, hx10⟩
  have HX : Hid (Ex w w10) := (hX8.trans hx9).trans hx10
  have HBa : Hid (Byt w10 aa ca PL) := (((hBa.below hx7).below hx8).below hx9).below hx10
  have HBb : Hid (Byt w10 ab cb PM) := ((hBb.below hx8).below hx9).below hx10
  have hpp : ((PL.length : Int) != (PL.length : Int)) = false := by simp
  clear hBa hBb hBx hx5 hx6 hx7 hx8 hx9 hx10 hX8
  go_wp2_with fail
  have HQs : Hid ((PL == PM) = Q) := HQs0.out H2.out
  have hre := Ex.refl
  refine Rg.wp_rows [.inl (Value.slice p0 L.length c0), .inl (Value.int IntKind.i64 ↑L.length), .inl (Value.slice p1 M.length c1), .inl (Value.int IntKind.i64 ↑M.length), .inl (.bool false), .inl (.bool false), .inl (Value.slice aa PL.length ca), .inl (Value.string (str PL)), .inl (Value.slice ab PM.length cb), .inl (Value.string (str PM)), .inl (.bool Q), .inl (Value.slice p0 L.length c0), .inl (Value.slice p1 M.length c1), .inl (.bool Q), .inl (.bool true), .inl (.bool true), .inl (.bool true), .inl (.bool true), .inl (.bool true), .inl (.bool true)] (Ex w10) Ex 97 (by kernel_rfl) rfl (by kernel_rfl) ?st hre (Ex.drew _) ?goods ?fin
  case st => exact trivial
  case goods =>
    refine Rg.goods_cons (Rg.good_move hre rfl rfl rfl) ?_
    refine Rg.goods_cons (Rg.good_len hre rfl rfl (by rintro u w _ rfl; rfl)) ?_
    refine Rg.goods_cons (Rg.good_move hre rfl rfl rfl) ?_
    refine Rg.goods_cons (Rg.good_len hre rfl rfl (by rintro u w _ rfl; rfl)) ?_
    refine Rg.goods_cons (Rg.good_bin hre rfl rfl rfl rfl (fun _ => rfl) (fun w => by simp only [go_sem, HNe.out, Sem.run_pure])) ?_
    refine Rg.goods_cons (Rg.good_move hre rfl rfl rfl) ?_
    refine Rg.goods_cons (Rg.good_move hre rfl rfl rfl) ?_
    refine Rg.goods_cons (Rg.good_conv hre rfl rfl (by rintro u wx hC rfl; exact run_str (HBa.out.below hC) rfl)) ?_
    refine Rg.goods_cons (Rg.good_move hre rfl rfl rfl) ?_
    refine Rg.goods_cons (Rg.good_conv hre rfl rfl (by rintro u wx hC rfl; exact run_str (HBb.out.below hC) rfl)) ?_
    refine Rg.goods_cons (Rg.good_bin hre rfl rfl rfl rfl (fun _ => rfl) (fun w => by simp only [go_sem, str_toList, HQs.out, Sem.run_pure])) ?_
    refine Rg.goods_cons (Rg.good_move hre rfl rfl rfl) ?_
    refine Rg.goods_cons (Rg.good_move hre rfl rfl rfl) ?_
    refine Rg.goods_cons (Rg.good_call2 Try.func18 (by kernel_rfl) rfl rfl rfl (by rintro u u2 wx hC rfl rfl; exact bool_of (same64_any p0 p1 c0 c1 _ _ L M wx rfl rfl (HLB.out.below (HX.out.trans hC)) (HMB.out.below (HX.out.trans hC)) Q HQl.out) hC)) ?_
    refine Rg.goods_cons (Rg.good_bin hre rfl rfl rfl rfl (fun _ => rfl) (fun w => by go_simp)) ?_
    refine Rg.goods_cons (Rg.good_pick false hre rfl rfl rfl rfl) ?_
    refine Rg.goods_cons (Rg.good_move hre rfl rfl rfl) ?_
    refine Rg.goods_cons (Rg.good_call0 Try.func13 (by kernel_rfl) rfl rfl rfl (by exact fun wx hC => known_row wx hC)) ?_
    refine Rg.goods_cons (Rg.good_pick true hre rfl rfl rfl rfl) ?_
    refine Rg.goods_cons (Rg.good_assign hre rfl rfl rfl) ?_
    exact Rg.goods_nil
  case fin =>
    intro wx hx
    simp only [Rg.later, Act.put, List.setIfInBounds_toArray, List.set_cons_succ, List.set_cons_zero]
    go_wp2
    go_ret
    exact ⟨rfl, HX.out.trans hx⟩

set_option maxRecDepth 100000 in
set_option maxHeartbeats 1000000 in
theorem walk_gn (p0 : Option Addr) (c0 : Nat) (l0 : List Nat) (p1 : Option Addr) (c1 : Nat) (l1 : List Nat) (a2 : Int) (w : World) (b0 : Rd n64 w p0 c0 l0) (m0 : ∀ x ∈ l0, x < 18446744073709551616) (w0 : l0.length ≤ 17592186043904) (b1 : Rd n64 w p1 c1 l1) (m1 : ∀ x ∈ l1, x < 18446744073709551616) (w1 : l1.length ≤ 17592186043904) (w2 : -9223372036854775808 ≤ a2) (u2 : a2 ≤ 9223372036854775807) (h1 : B.width (l1.take 60) ≤ B.width (l0.take 60)) (h2 : (l0.take 60).length ≠ (l1.take 60).length) :
    Calls Try.prog 5 #[.slice p0 l0.length c0, .slice p1 l1.length c1, .int .i64 a2] w fun e w' => e = .returned (.bool true) ∧ Below w.heap.size w w' := by
  obtain ⟨L, hL⟩ : ∃ L, l0.take 60 = L := ⟨_, rfl⟩
  obtain ⟨M, hM⟩ : ∃ M, l1.take 60 = M := ⟨_, rfl⟩
  rw [hL, hM] at h1 h2
  have hLl : L.length ≤ 60 := by rw [← hL]; simp; omega
  have hMl : M.length ≤ 60 := by rw [← hM]; simp; omega
  have hLB : Rd n64 w p0 c0 L := by rw [← hL]; exact b0.take 60
  have hMB : Rd n64 w p1 c1 M := by rw [← hM]; exact b1.take 60
  have hL64 : ∀ x ∈ L, x < 18446744073709551616 := by rw [← hL]; exact fun x hx => m0 x (List.mem_of_mem_take hx)
  have hM64 : ∀ x ∈ M, x < 18446744073709551616 := by rw [← hM]; exact fun x hx => m1 x (List.mem_of_mem_take hx)
  obtain ⟨U, hU⟩ : ∃ U, B.width L = U := ⟨_, rfl⟩
  obtain ⟨V, hV⟩ : ∃ V, B.width M = V := ⟨_, rfl⟩
  have hU64 : U ≤ 64 := by rw [← hU]; exact B.width64 hL64
  have hV64 : V ≤ 64 := by rw [← hV]; exact B.width64 hM64
  rw [hU, hV] at h1
  have H0 : Hid (Rd n64 w p0 c0 l0) := b0
  have H1 : Hid (Rd n64 w p1 c1 l1) := b1
  have HLB : Hid (Rd n64 w p0 c0 L) := hLB
  have HMB : Hid (Rd n64 w p1 c1 M) := hMB
  have HL : Hid (l0.take 60 = L) := hL
  have HM : Hid (l1.take 60 = M) := hM
  have HL64 : Hid (∀ x ∈ L, x < 18446744073709551616) := hL64
  have HM64 : Hid (∀ x ∈ M, x < 18446744073709551616) := hM64
  have HU : Hid (B.width L = U) := hU
  have HV : Hid (B.width M = V) := hV
  have hne : ((L.length : Int) != (M.length : Int)) = true := by simp; omega
  have HNe : Hid (((L.length : Int) != (M.length : Int)) = true) := hne
  have H2 : Hid (L.length ≠ M.length) := h2
  clear b0 b1 hLB hMB hL hM hL64 hM64 hU hV m0 m1 hne h2
  have t0 : decide ((U : Int) < (V : Int)) = false := by simp; omega
  go_enter Try.func5, Try.ntmps5
  go_wp2_with fail
  refine (few_is p0 c0 l0 L _ H0.out HL.out).mono ?_
  rintro e wq ⟨rfl, hw⟩
  have hw' := hw.symm; clear hw; subst hw'
  go_wp2_with fail
  refine (few_is p1 c1 l1 M _ H1.out HM.out).mono ?_
  rintro e wq ⟨rfl, hw⟩
  have hw' := hw.symm; clear hw; subst hw'
  go_wp2_with fail
  refine (width_is p0 _ c0 L _ rfl HLB.out HL64.out (by omega) U HU.out).mono ?_
  rintro e w3 ⟨rfl, hx3⟩
  go_wp2_with fail
  refine (width_is p1 _ c1 M _ rfl (HMB.out.below hx3) HM64.out (by omega) V HV.out).mono ?_
  rintro e w4 ⟨rfl, hx4⟩
  have hx5 : Ex w w4 := hx3.trans hx4
  clear hx3 hx4
  go_wp2_with fail
  refine (within_any a2 _ _ w2 u2 (by omega) (by omega)).mono ?_
  rintro e wq ⟨R, hR, rfl, hw⟩
  have hw' := hw.symm; clear hw; subst hw'
  obtain ⟨T, hT⟩ : ∃ T, U + R = T := ⟨_, rfl⟩
  have hTi : (U : Int) + (R : Int) = (T : Int) := by omega
  have hT64 : T ≤ 64 := by omega
  have hwL : B.width L ≤ T := by rw [HU.out]; omega
  have hwM : B.width M ≤ T := by rw [HV.out]; omega
  clear hT
  obtain ⟨PL, ePL⟩ : ∃ P, P = B.pack T L := ⟨_, rfl⟩
  obtain ⟨PM, ePM⟩ : ∃ P, P = B.pack T M := ⟨_, rfl⟩
  have hpL : B.pck L (T : Int) = (PL, 0) := by rw [ePL]; exact B.pck_ok hT64 hwL
  have hpM : B.pck M (T : Int) = (PM, 0) := by rw [ePM]; exact B.pck_ok hT64 hwM
  have huL : B.unp PL (L.length : Int) (T : Int) = (L, 0) := by rw [ePL]; exact B.unp_pack hT64 hwL (by omega)
  have hsL : B.siz (L.length : Int) (T : Int) = PL.length := by
    rw [ePL, B.pack_len]; unfold B.siz; rw [if_neg (by omega)]; rfl
  have hPLm : PL.length ≤ 480 := by
    rw [ePL, B.pack_len]
    have h1 := B.size_lt L.length T
    have h2 : L.length * T ≤ 60 * 64 := Nat.mul_le_mul hLl hT64
    omega
  obtain ⟨Q, eQ⟩ : ∃ Q, decide (L = M) = Q := ⟨_, rfl⟩
  have hQs : L.length = M.length → (PL == PM) = Q := by
    intro hlen
    rw [← eQ, ePL, ePM, Bool.eq_iff_iff]
    simp [B.pack_inj (B.fits hwL) (B.fits hwM) hlen]
  have HQl : Hid (decide (L = M) = Q) := eQ
  have HQs0 : Hid (L.length = M.length → (PL == PM) = Q) := hQs
  have HpL : Hid (B.pck L (T : Int) = (PL, 0)) := hpL
  have HpM : Hid (B.pck M (T : Int) = (PM, 0)) := hpM
  have HuL : Hid (B.unp PL (L.length : Int) (T : Int) = (L, 0)) := huL
  have HsL : Hid (B.siz (L.length : Int) (T : Int) = PL.length) := hsL
  clear ePL ePM hpL hpM huL hsL eQ hQs hwL hwM
  go_wp2_with fail
  refine (pack_is p0 _ c0 L _ _ rfl (HLB.out.below hx5) HL64.out (by omega) (by omega) (by omega) _ _ HpL.out).mono ?_
  rintro e w6 ⟨v6, rfl, hv6, hx6⟩
  obtain ⟨aa, ca, rfl, hBa⟩ := hv6
  go_wp2_with fail
  refine (pack_is p1 _ c1 M _ _ rfl (HMB.out.below (hx5.trans hx6)) HM64.out (by omega) (by omega) (by omega) _ _ HpM.out).mono ?_
  rintro e w7 ⟨v7, rfl, hv7, hx7⟩
  obtain ⟨ab, cb, rfl, hBb⟩ := hv7
  go_wp2_with fail
  refine (unpack_is aa _ ca PL _ _ _ rfl (hBa.below hx7) (by omega) (by omega) (by omega) (by omega) (by omega) _ _ HuL.out).mono ?_
  rintro e w8 ⟨v8, rfl, hv8, hx8⟩
  obtain ⟨ax, cx, rfl, hBx⟩ := hv8
  have hX8 : Ex w w8 := ((hx5.trans hx6).trans hx7).trans hx8
  go_wp2_with fail
  refine (same64_any ax p0 cx c0 _ _ L L _ rfl rfl hBx (HLB.out.below hX8) true (by simp)).mono ?_
  rintro e w9 ⟨rfl, hx9⟩
  go_wp2_with fail
  refine (size_is _ _ _ (by omega) (by omega) (by omega) (by omega) _ HsL.out).mono ?_
  rintro e w10 ⟨rfl, hx10⟩
  have HX : Hid (Ex w w10) := (hX8.trans hx9).trans hx10
  have HBa : Hid (Byt w10 aa ca PL) := (((hBa.below hx7).below hx8).below hx9).below hx10
  have HBb : Hid (Byt w10 ab cb PM) := ((hBb.below hx8).below hx9).below hx10
  have hpp : ((PL.length : Int) != (PL.length : Int)) = false := by simp
  clear hBa hBb hBx hx5 hx6 hx7 hx8 hx9 hx10 hX8
  go_wp2_with fail
  skip
  have hre := Ex.refl
  refine Rg.wp_rows [.inl (Value.slice p0 L.length c0), .inl (Value.int IntKind.i64 ↑L.length), .inl (Value.slice p1 M.length c1), .inl (Value.int IntKind.i64 ↑M.length), .inl (.bool true), .inl (.bool true), .inl undef, .inl undef, .inl undef, .inl undef, .inl undef, .inl undef, .inl undef, .inl undef, .inl undef, .inl (Value.bool true), .inl (Value.bool true), .inl (.bool true), .inl (.bool true), .inl (.bool true)] (Ex w10) Ex 97 (by kernel_rfl) rfl (by kernel_rfl) ?st hre (Ex.drew _) ?goods ?fin
  case st => exact trivial
  case goods =>
    refine Rg.goods_cons (Rg.good_move hre rfl rfl rfl) ?_
    refine Rg.goods_cons (Rg.good_len hre rfl rfl (by rintro u w _ rfl; rfl)) ?_
    refine Rg.goods_cons (Rg.good_move hre rfl rfl rfl) ?_
    refine Rg.goods_cons (Rg.good_len hre rfl rfl (by rintro u w _ rfl; rfl)) ?_
    refine Rg.goods_cons (Rg.good_bin hre rfl rfl rfl rfl (fun _ => rfl) (fun w => by simp only [go_sem, HNe.out, Sem.run_pure])) ?_
    refine Rg.goods_cons (Rg.good_move hre rfl rfl rfl) ?_
    refine Rg.goods_cons (Rg.good_skip rfl) ?_
    refine Rg.goods_cons (Rg.good_skip rfl) ?_
    refine Rg.goods_cons (Rg.good_skip rfl) ?_
    refine Rg.goods_cons (Rg.good_skip rfl) ?_
    refine Rg.goods_cons (Rg.good_skip rfl) ?_
    refine Rg.goods_cons (Rg.good_skip rfl) ?_
    refine Rg.goods_cons (Rg.good_skip rfl) ?_
    refine Rg.goods_cons (Rg.good_skip rfl) ?_
    refine Rg.goods_cons (Rg.good_skip rfl) ?_
    refine Rg.goods_cons (Rg.good_pick true hre rfl rfl rfl rfl) ?_
    refine Rg.goods_cons (Rg.good_move hre rfl rfl rfl) ?_
    refine Rg.goods_cons (Rg.good_call0 Try.func13 (by kernel_rfl) rfl rfl rfl (by exact fun wx hC => known_row wx hC)) ?_
    refine Rg.goods_cons (Rg.good_pick true hre rfl rfl rfl rfl) ?_
    refine Rg.goods_cons (Rg.good_assign hre rfl rfl rfl) ?_
    exact Rg.goods_nil
  case fin =>
    intro wx hx
    simp only [Rg.later, Act.put, List.setIfInBounds_toArray, List.set_cons_succ, List.set_cons_zero]
    go_wp2
    go_ret
    exact ⟨rfl, HX.out.trans hx⟩

set_option maxRecDepth 100000 in
set_option maxHeartbeats 1000000 in
theorem walk_le (p0 : Option Addr) (c0 : Nat) (l0 : List Nat) (p1 : Option Addr) (c1 : Nat) (l1 : List Nat) (a2 : Int) (w : World) (b0 : Rd n64 w p0 c0 l0) (m0 : ∀ x ∈ l0, x < 18446744073709551616) (w0 : l0.length ≤ 17592186043904) (b1 : Rd n64 w p1 c1 l1) (m1 : ∀ x ∈ l1, x < 18446744073709551616) (w1 : l1.length ≤ 17592186043904) (w2 : -9223372036854775808 ≤ a2) (u2 : a2 ≤ 9223372036854775807) (h1 : B.width (l0.take 60) < B.width (l1.take 60)) (h2 : (l0.take 60).length = (l1.take 60).length) :
    Calls Try.prog 5 #[.slice p0 l0.length c0, .slice p1 l1.length c1, .int .i64 a2] w fun e w' => e = .returned (.bool true) ∧ Below w.heap.size w w' := by
  obtain ⟨L, hL⟩ : ∃ L, l0.take 60 = L := ⟨_, rfl⟩
  obtain ⟨M, hM⟩ : ∃ M, l1.take 60 = M := ⟨_, rfl⟩
  rw [hL, hM] at h1 h2
  have hLl : L.length ≤ 60 := by rw [← hL]; simp; omega
  have hMl : M.length ≤ 60 := by rw [← hM]; simp; omega
  have hLB : Rd n64 w p0 c0 L := by rw [← hL]; exact b0.take 60
  have hMB : Rd n64 w p1 c1 M := by rw [← hM]; exact b1.take 60
  have hL64 : ∀ x ∈ L, x < 18446744073709551616 := by rw [← hL]; exact fun x hx => m0 x (List.mem_of_mem_take hx)
  have hM64 : ∀ x ∈ M, x < 18446744073709551616 := by rw [← hM]; exact fun x hx => m1 x (List.mem_of_mem_take hx)
  obtain ⟨U, hU⟩ : ∃ U, B.width L = U := ⟨_, rfl⟩
  obtain ⟨V, hV⟩ : ∃ V, B.width M = V := ⟨_, rfl⟩
  have hU64 : U ≤ 64 := by rw [← hU]; exact B.width64 hL64
  have hV64 : V ≤ 64 := by rw [← hV]; exact B.width64 hM64
  rw [hU, hV] at h1
  have H0 : Hid (Rd n64 w p0 c0 l0) := b0
  have H1 : Hid (Rd n64 w p1 c1 l1) := b1
  have HLB : Hid (Rd n64 w p0 c0 L) := hLB
  have HMB : Hid (Rd n64 w p1 c1 M) := hMB
  have HL : Hid (l0.take 60 = L) := hL
  have HM : Hid (l1.take 60 = M) := hM
  have HL64 : Hid (∀ x ∈ L, x < 18446744073709551616) := hL64
  have HM64 : Hid (∀ x ∈ M, x < 18446744073709551616) := hM64
  have HU : Hid (B.width L = U) := hU
  have HV : Hid (B.width M = V) := hV
  have hne : ((L.length : Int) != (M.length : Int)) = false := by simp; omega
  have HNe : Hid (((L.length : Int) != (M.length : Int)) = false) := hne
  have H2 : Hid (L.length = M.length) := h2
  clear b0 b1 hLB hMB hL hM hL64 hM64 hU hV m0 m1 hne h2
  have t0 : decide ((U : Int) < (V : Int)) = true := by simp; omega
  go_enter Try.func5, Try.ntmps5
  go_wp2_with fail
  refine (few_is p0 c0 l0 L _ H0.out HL.out).mono ?_
  rintro e wq ⟨rfl, hw⟩
  have hw' := hw.symm; clear hw; subst hw'
  go_wp2_with fail
  refine (few_is p1 c1 l1 M _ H1.out HM.out).mono ?_
  rintro e wq ⟨rfl, hw⟩
  have hw' := hw.symm; clear hw; subst hw'
  go_wp2_with fail
  refine (width_is p0 _ c0 L _ rfl HLB.out HL64.out (by omega) U HU.out).mono ?_
  rintro e w3 ⟨rfl, hx3⟩
  go_wp2_with fail
  refine (width_is p1 _ c1 M _ rfl (HMB.out.below hx3) HM64.out (by omega) V HV.out).mono ?_
  rintro e w4 ⟨rfl, hx4⟩
  have hx5 : Ex w w4 := hx3.trans hx4
  clear hx3 hx4
  go_wp2_with fail
  refine (within_any a2 _ _ w2 u2 (by omega) (by omega)).mono ?_
  rintro e wq ⟨R, hR, rfl, hw⟩
  have hw' := hw.symm; clear hw; subst hw'
  obtain ⟨T, hT⟩ : ∃ T, V + R = T := ⟨_, rfl⟩
  have hTi : (V : Int) + (R : Int) = (T : Int) := by omega
  have hT64 : T ≤ 64 := by omega
  have hwL : B.width L ≤ T := by rw [HU.out]; omega
  have hwM : B.width M ≤ T := by rw [HV.out]; omega
  clear hT
  obtain ⟨PL, ePL⟩ : ∃ P, P = B.pack T L := ⟨_, rfl⟩
  obtain ⟨PM, ePM⟩ : ∃ P, P = B.pack T M := ⟨_, rfl⟩
  have hpL : B.pck L (T : Int) = (PL, 0) := by rw [ePL]; exact B.pck_ok hT64 hwL
  have hpM : B.pck M (T : Int) = (PM, 0) := by rw [ePM]; exact B.pck_ok hT64 hwM
  have huL : B.unp PL (L.length : Int) (T : Int) = (L, 0) := by rw [ePL]; exact B.unp_pack hT64 hwL (by omega)
  have hsL : B.siz (L.length : Int) (T : Int) = PL.length := by
    rw [ePL, B.pack_len]; unfold B.siz; rw [if_neg (by omega)]; rfl
  have hPLm : PL.length ≤ 480 := by
    rw [ePL, B.pack_len]
    have h1 := B.size_lt L.length T
    have h2 : L.length * T ≤ 60 * 64 := Nat.mul_le_mul hLl hT64
    omega
  obtain ⟨Q, eQ⟩ : ∃ Q, decide (L = M) = Q := ⟨_, rfl⟩
  have hQs : L.length = M.length → (PL == PM) = Q := by
    intro hlen
    rw [← eQ, ePL, ePM, Bool.eq_iff_iff]
    simp [B.pack_inj (B.fits hwL) (B.fits hwM) hlen]
  have HQl : Hid (decide (L = M) = Q) := eQ
  have HQs0 : Hid (L.length = M.length → (PL == PM) = Q) := hQs
  have HpL : Hid (B.pck L (T : Int) = (PL, 0)) := hpL
  have HpM : Hid (B.pck M (T : Int) = (PM, 0)) := hpM
  have HuL : Hid (B.unp PL (L.length : Int) (T : Int) = (L, 0)) := huL
  have HsL : Hid (B.siz (L.length : Int) (T : Int) = PL.length) := hsL
  clear ePL ePM hpL hpM huL hsL eQ hQs hwL hwM
  go_wp2_with fail
  refine (pack_is p0 _ c0 L _ _ rfl (HLB.out.below hx5) HL64.out (by omega) (by omega) (by omega) _ _ HpL.out).mono ?_
  rintro e w6 ⟨v6, rfl, hv6, hx6⟩
  obtain ⟨aa, ca, rfl, hBa⟩ := hv6
  go_wp2_with fail
  refine (pack_is p1 _ c1 M _ _ rfl (HMB.out.below (hx5.trans hx6)) HM64.out (by omega) (by omega) (by omega) _ _ HpM.out).mono ?_
  rintro e w7 ⟨v7, rfl, hv7, hx7⟩
  obtain ⟨ab, cb, rfl, hBb⟩ := hv7
  go_wp2_with fail
  refine (unpack_is aa _ ca PL _ _ _ rfl (hBa.below hx7) (by omega) (by omega) (by omega) (by omega) (by omega) _ _ HuL.out).mono ?_
  rintro e w8 ⟨v8, rfl, hv8, hx8⟩
  obtain ⟨ax, cx, rfl, hBx⟩ := hv8
  have hX8 : Ex w w8 := ((hx5.trans hx6).trans hx7).trans hx8
  go_wp2_with fail
  refine (same64_any ax p0 cx c0 _ _ L L _ rfl rfl hBx (HLB.out.below hX8) true (by simp)).mono ?_
  rintro e w9 ⟨rfl, hx9⟩
  go_wp2_with fail
  refine (size_is _ _ _ (by omega) (by omega) (by omega) (by omega) _ HsL.out).mono ?_
  rintro e w10 ⟨rfl, hx10⟩
  have HX : Hid (Ex w w10) := (hX8.trans hx9).trans hx10
  have HBa : Hid (Byt w10 aa ca PL) := (((hBa.below hx7).below hx8).below hx9).below hx10
  have HBb : Hid (Byt w10 ab cb PM) := ((hBb.below hx8).below hx9).below hx10
  have hpp : ((PL.length : Int) != (PL.length : Int)) = false := by simp
  clear hBa hBb hBx hx5 hx6 hx7 hx8 hx9 hx10 hX8
  go_wp2_with fail
  have HQs : Hid ((PL == PM) = Q) := HQs0.out H2.out
  have hre := Ex.refl
  refine Rg.wp_rows [.inl (Value.slice p0 L.length c0), .inl (Value.int IntKind.i64 ↑L.length), .inl (Value.slice p1 M.length c1), .inl (Value.int IntKind.i64 ↑M.length), .inl (.bool false), .inl (.bool false), .inl (Value.slice aa PL.length ca), .inl (Value.string (str PL)), .inl (Value.slice ab PM.length cb), .inl (Value.string (str PM)), .inl (.bool Q), .inl (Value.slice p0 L.length c0), .inl (Value.slice p1 M.length c1), .inl (.bool Q), .inl (.bool true), .inl (.bool true), .inl (.bool true), .inl (.bool true), .inl (.bool true), .inl (.bool true)] (Ex w10) Ex 97 (by kernel_rfl) rfl (by kernel_rfl) ?st hre (Ex.drew _) ?goods ?fin
  case st => exact trivial
  case goods =>
    refine Rg.goods_cons (Rg.good_move hre rfl rfl rfl) ?_
    refine Rg.goods_cons (Rg.good_len hre rfl rfl (by rintro u w _ rfl; rfl)) ?_
    refine Rg.goods_cons (Rg.good_move hre rfl rfl rfl) ?_
    refine Rg.goods_cons (Rg.good_len hre rfl rfl (by rintro u w _ rfl; rfl)) ?_
    refine Rg.goods_cons (Rg.good_bin hre rfl rfl rfl rfl (fun _ => rfl) (fun w => by simp only [go_sem, HNe.out, Sem.run_pure])) ?_
    refine Rg.goods_cons (Rg.good_move hre rfl rfl rfl) ?_
    refine Rg.goods_cons (Rg.good_move hre rfl rfl rfl) ?_
    refine Rg.goods_cons (Rg.good_conv hre rfl rfl (by rintro u wx hC rfl; exact run_str (HBa.out.below hC) rfl)) ?_
    refine Rg.goods_cons (Rg.good_move hre rfl rfl rfl) ?_
    refine Rg.goods_cons (Rg.good_conv hre rfl rfl (by rintro u wx hC rfl; exact run_str (HBb.out.below hC) rfl)) ?_
    refine Rg.goods_cons (Rg.good_bin hre rfl rfl rfl rfl (fun _ => rfl) (fun w => by simp only [go_sem, str_toList, HQs.out, Sem.run_pure])) ?_
    refine Rg.goods_cons (Rg.good_move hre rfl rfl rfl) ?_
    refine Rg.goods_cons (Rg.good_move hre rfl rfl rfl) ?_
    refine Rg.goods_cons (Rg.good_call2 Try.func18 (by kernel_rfl) rfl rfl rfl (by rintro u u2 wx hC rfl rfl; exact bool_of (same64_any p0 p1 c0 c1 _ _ L M wx rfl rfl (HLB.out.below (HX.out.trans hC)) (HMB.out.below (HX.out.trans hC)) Q HQl.out) hC)) ?_
    refine Rg.goods_cons (Rg.good_bin hre rfl rfl rfl rfl (fun _ => rfl) (fun w => by go_simp)) ?_
    refine Rg.goods_cons (Rg.good_pick false hre rfl rfl rfl rfl) ?_
    refine Rg.goods_cons (Rg.good_move hre rfl rfl rfl) ?_
    refine Rg.goods_cons (Rg.good_call0 Try.func13 (by kernel_rfl) rfl rfl rfl (by exact fun wx hC => known_row wx hC)) ?_
    refine Rg.goods_cons (Rg.good_pick true hre rfl rfl rfl rfl) ?_
    refine Rg.goods_cons (Rg.good_assign hre rfl rfl rfl) ?_
    exact Rg.goods_nil
  case fin =>
    intro wx hx
    simp only [Rg.later, Act.put, List.setIfInBounds_toArray, List.set_cons_succ, List.set_cons_zero]
    go_wp2
    go_ret
    exact ⟨rfl, HX.out.trans hx⟩

set_option maxRecDepth 100000 in
set_option maxHeartbeats 1000000 in
theorem walk_ln (p0 : Option Addr) (c0 : Nat) (l0 : List Nat) (p1 : Option Addr) (c1 : Nat) (l1 : List Nat) (a2 : Int) (w : World) (b0 : Rd n64 w p0 c0 l0) (m0 : ∀ x ∈ l0, x < 18446744073709551616) (w0 : l0.length ≤ 17592186043904) (b1 : Rd n64 w p1 c1 l1) (m1 : ∀ x ∈ l1, x < 18446744073709551616) (w1 : l1.length ≤ 17592186043904) (w2 : -9223372036854775808 ≤ a2) (u2 : a2 ≤ 9223372036854775807) (h1 : B.width (l0.take 60) < B.width (l1.take 60)) (h2 : (l0.take 60).length ≠ (l1.take 60).length) :
    Calls Try.prog 5 #[.slice p0 l0.length c0, .slice p1 l1.length c1, .int .i64 a2] w fun e w' => e = .returned (.bool true) ∧ Below w.heap.size w w' := by
  obtain ⟨L, hL⟩ : ∃ L, l0.take 60 = L := ⟨_, rfl⟩
  obtain ⟨M, hM⟩ : ∃ M, l1.take 60 = M := ⟨_, rfl⟩
  rw [hL, hM] at h1 h2
  have hLl : L.length ≤ 60 := by rw [← hL]; simp; omega
  have hMl : M.length ≤ 60 := by rw [← hM]; simp; omega
  have hLB : Rd n64 w p0 c0 L := by rw [← hL]; exact b0.take 60
  have hMB : Rd n64 w p1 c1 M := by rw [← hM]; exact b1.take 60
  have hL64 : ∀ x ∈ L, x < 18446744073709551616 := by rw [← hL]; exact fun x hx => m0 x (List.mem_of_mem_take hx)
  have hM64 : ∀ x ∈ M, x < 18446744073709551616 := by rw [← hM]; exact fun x hx => m1 x (List.mem_of_mem_take hx)
  obtain ⟨U, hU⟩ : ∃ U, B.width L = U := ⟨_, rfl⟩
  obtain ⟨V, hV⟩ : ∃ V, B.width M = V := ⟨_, rfl⟩
  have hU64 : U ≤ 64 := by rw [← hU]; exact B.width64 hL64
  have hV64 : V ≤ 64 := by rw [← hV]; exact B.width64 hM64
  rw [hU, hV] at h1
  have H0 : Hid (Rd n64 w p0 c0 l0) := b0
  have H1 : Hid (Rd n64 w p1 c1 l1) := b1
  have HLB : Hid (Rd n64 w p0 c0 L) := hLB
  have HMB : Hid (Rd n64 w p1 c1 M) := hMB
  have HL : Hid (l0.take 60 = L) := hL
  have HM : Hid (l1.take 60 = M) := hM
  have HL64 : Hid (∀ x ∈ L, x < 18446744073709551616) := hL64
  have HM64 : Hid (∀ x ∈ M, x < 18446744073709551616) := hM64
  have HU : Hid (B.width L = U) := hU
  have HV : Hid (B.width M = V) := hV
  have hne : ((L.length : Int) != (M.length : Int)) = true := by simp; omega
  have HNe : Hid (((L.length : Int) != (M.length : Int)) = true) := hne
  have H2 : Hid (L.length ≠ M.length) := h2
  clear b0 b1 hLB hMB hL hM hL64 hM64 hU hV m0 m1 hne h2
  have t0 : decide ((U : Int) < (V : Int)) = true := by simp; omega
  go_enter Try.func5, Try.ntmps5
  go_wp2_with fail
  refine (few_is p0 c0 l0 L _ H0.out HL.out).mono ?_
  rintro e wq ⟨rfl, hw⟩
  have hw' := hw.symm; clear hw; subst hw'
  go_wp2_with fail
  refine (few_is p1 c1 l1 M _ H1.out HM.out).mono ?_
  rintro e wq ⟨rfl, hw⟩
  have hw' := hw.symm; clear hw; subst hw'
  go_wp2_with fail
  refine (width_is p0 _ c0 L _ rfl HLB.out HL64.out (by omega) U HU.out).mono ?_
  rintro e w3 ⟨rfl, hx3⟩
  go_wp2_with fail
  refine (width_is p1 _ c1 M _ rfl (HMB.out.below hx3) HM64.out (by omega) V HV.out).mono ?_
  rintro e w4 ⟨rfl, hx4⟩
  have hx5 : Ex w w4 := hx3.trans hx4
  clear hx3 hx4
  go_wp2_with fail
  refine (within_any a2 _ _ w2 u2 (by omega) (by omega)).mono ?_
  rintro e wq ⟨R, hR, rfl, hw⟩
  have hw' := hw.symm; clear hw; subst hw'
  obtain ⟨T, hT⟩ : ∃ T, V + R = T := ⟨_, rfl⟩
  have hTi : (V : Int) + (R : Int) = (T : Int) := by omega
  have hT64 : T ≤ 64 := by omega
  have hwL : B.width L ≤ T := by rw [HU.out]; omega
  have hwM : B.width M ≤ T := by rw [HV.out]; omega
  clear hT
  obtain ⟨PL, ePL⟩ : ∃ P, P = B.pack T L := ⟨_, rfl⟩
  obtain ⟨PM, ePM⟩ : ∃ P, P = B.pack T M := ⟨_, rfl⟩
  have hpL : B.pck L (T : Int) = (PL, 0) := by rw [ePL]; exact B.pck_ok hT64 hwL
  have hpM : B.pck M (T : Int) = (PM, 0) := by rw [ePM]; exact B.pck_ok hT64 hwM
  have huL : B.unp PL (L.length : Int) (T : Int) = (L, 0) := by rw [ePL]; exact B.unp_pack hT64 hwL (by omega)
  have hsL : B.siz (L.length : Int) (T : Int) = PL.length := by
    rw [ePL, B.pack_len]; unfold B.siz; rw [if_neg (by omega)]; rfl
  have hPLm : PL.length ≤ 480 := by
    rw [ePL, B.pack_len]
    have h1 := B.size_lt L.length T
    have h2 : L.length * T ≤ 60 * 64 := Nat.mul_le_mul hLl hT64
    omega
  obtain ⟨Q, eQ⟩ : ∃ Q, decide (L = M) = Q := ⟨_, rfl⟩
  have hQs : L.length = M.length → (PL == PM) = Q := by
    intro hlen
    rw [← eQ, ePL, ePM, Bool.eq_iff_iff]
    simp [B.pack_inj (B.fits hwL) (B.fits hwM) hlen]
  have HQl : Hid (decide (L = M) = Q) := eQ
  have HQs0 : Hid (L.length = M.length → (PL == PM) = Q) := hQs
  have HpL : Hid (B.pck L (T : Int) = (PL, 0)) := hpL
  have HpM : Hid (B.pck M (T : Int) = (PM, 0)) := hpM
  have HuL : Hid (B.unp PL (L.length : Int) (T : Int) = (L, 0)) := huL
  have HsL : Hid (B.siz (L.length : Int) (T : Int) = PL.length) := hsL
  clear ePL ePM hpL hpM huL hsL eQ hQs hwL hwM
  go_wp2_with fail
  refine (pack_is p0 _ c0 L _ _ rfl (HLB.out.below hx5) HL64.out (by omega) (by omega) (by omega) _ _ HpL.out).mono ?_
  rintro e w6 ⟨v6, rfl, hv6, hx6⟩
  obtain ⟨aa, ca, rfl, hBa⟩ := hv6
  go_wp2_with fail
  refine (pack_is p1 _ c1 M _ _ rfl (HMB.out.below (hx5.trans hx6)) HM64.out (by omega) (by omega) (by omega) _ _ HpM.out).mono ?_
  rintro e w7 ⟨v7, rfl, hv7, hx7⟩
  obtain ⟨ab, cb, rfl, hBb⟩ := hv7
  go_wp2_with fail
  refine (unpack_is aa _ ca PL _ _ _ rfl (hBa.below hx7) (by omega) (by omega) (by omega) (by omega) (by omega) _ _ HuL.out).mono ?_
  rintro e w8 ⟨v8, rfl, hv8, hx8⟩
  obtain ⟨ax, cx, rfl, hBx⟩ := hv8
  have hX8 : Ex w w8 := ((hx5.trans hx6).trans hx7).trans hx8
  go_wp2_with fail
  refine (same64_any ax p0 cx c0 _ _ L L _ rfl rfl hBx (HLB.out.below hX8) true (by simp)).mono ?_
  rintro e w9 ⟨rfl, hx9⟩
  go_wp2_with fail
  refine (size_is _ _ _ (by omega) (by omega) (by omega) (by omega) _ HsL.out).mono ?_
  rintro e w10 ⟨rfl, hx10⟩
  have HX : Hid (Ex w w10) := (hX8.trans hx9).trans hx10
  have HBa : Hid (Byt w10 aa ca PL) := (((hBa.below hx7).below hx8).below hx9).below hx10
  have HBb : Hid (Byt w10 ab cb PM) := ((hBb.below hx8).below hx9).below hx10
  have hpp : ((PL.length : Int) != (PL.length : Int)) = false := by simp
  clear hBa hBb hBx hx5 hx6 hx7 hx8 hx9 hx10 hX8
  go_wp2_with fail
  skip
  have hre := Ex.refl
  refine Rg.wp_rows [.inl (Value.slice p0 L.length c0), .inl (Value.int IntKind.i64 ↑L.length), .inl (Value.slice p1 M.length c1), .inl (Value.int IntKind.i64 ↑M.length), .inl (.bool true), .inl (.bool true), .inl undef, .inl undef, .inl undef, .inl undef, .inl undef, .inl undef, .inl undef, .inl undef, .inl undef, .inl (Value.bool true), .inl (Value.bool true), .inl (.bool true), .inl (.bool true), .inl (.bool true)] (Ex w10) Ex 97 (by kernel_rfl) rfl (by kernel_rfl) ?st hre (Ex.drew _) ?goods ?fin
  case st => exact trivial
  case goods =>
    refine Rg.goods_cons (Rg.good_move hre rfl rfl rfl) ?_
    refine Rg.goods_cons (Rg.good_len hre rfl rfl (by rintro u w _ rfl; rfl)) ?_
    refine Rg.goods_cons (Rg.good_move hre rfl rfl rfl) ?_
    refine Rg.goods_cons (Rg.good_len hre rfl rfl (by rintro u w _ rfl; rfl)) ?_
    refine Rg.goods_cons (Rg.good_bin hre rfl rfl rfl rfl (fun _ => rfl) (fun w => by simp only [go_sem, HNe.out, Sem.run_pure])) ?_
    refine Rg.goods_cons (Rg.good_move hre rfl rfl rfl) ?_
    refine Rg.goods_cons (Rg.good_skip rfl) ?_
    refine Rg.goods_cons (Rg.good_skip rfl) ?_
    refine Rg.goods_cons (Rg.good_skip rfl) ?_
    refine Rg.goods_cons (Rg.good_skip rfl) ?_
    refine Rg.goods_cons (Rg.good_skip rfl) ?_
    refine Rg.goods_cons (Rg.good_skip rfl) ?_
    refine Rg.goods_cons (Rg.good_skip rfl) ?_
    refine Rg.goods_cons (Rg.good_skip rfl) ?_
    refine Rg.goods_cons (Rg.good_skip rfl) ?_
    refine Rg.goods_cons (Rg.good_pick true hre rfl rfl rfl rfl) ?_
    refine Rg.goods_cons (Rg.good_move hre rfl rfl rfl) ?_
    refine Rg.goods_cons (Rg.good_call0 Try.func13 (by kernel_rfl) rfl rfl rfl (by exact fun wx hC => known_row wx hC)) ?_
    refine Rg.goods_cons (Rg.good_pick true hre rfl rfl rfl rfl) ?_
    refine Rg.goods_cons (Rg.good_assign hre rfl rfl rfl) ?_
    exact Rg.goods_nil
  case fin =>
    intro wx hx
    simp only [Rg.later, Act.put, List.setIfInBounds_toArray, List.set_cons_succ, List.set_cons_zero]
    go_wp2
    go_ret
    exact ⟨rfl, HX.out.trans hx⟩

theorem walk (p0 : Option Addr) (c0 : Nat) (l0 : List Nat) (p1 : Option Addr) (c1 : Nat) (l1 : List Nat) (a2 : Int) (w : World) (b0 : Rd n64 w p0 c0 l0) (m0 : ∀ x ∈ l0, x < 18446744073709551616) (w0 : l0.length ≤ 17592186043904) (b1 : Rd n64 w p1 c1 l1) (m1 : ∀ x ∈ l1, x < 18446744073709551616) (w1 : l1.length ≤ 17592186043904) (w2 : -9223372036854775808 ≤ a2 ∧ a2 ≤ 9223372036854775807) :
    Calls Try.prog 5 #[.slice p0 l0.length c0, .slice p1 l1.length c1, .int .i64 a2] w fun e w' => e = .returned (.bool true) ∧ Below w.heap.size w w' := by
  by_cases h1 : B.width (l0.take 60) < B.width (l1.take 60)
  · by_cases h2 : (l0.take 60).length = (l1.take 60).length
    · exact walk_le p0 c0 l0 p1 c1 l1 a2 w b0 m0 w0 b1 m1 w1 w2.1 w2.2 h1 h2
    · exact walk_ln p0 c0 l0 p1 c1 l1 a2 w b0 m0 w0 b1 m1 w1 w2.1 w2.2 h1 h2
  · by_cases h2 : (l0.take 60).length = (l1.take 60).length
    · exact walk_ge p0 c0 l0 p1 c1 l1 a2 w b0 m0 w0 b1 m1 w1 w2.1 w2.2 (by omega) h2
    · exact walk_gn p0 c0 l0 p1 c1 l1 a2 w b0 m0 w0 b1 m1 w1 w2.1 w2.2 (by omega) h2
end Go.Proofs.Ytljfbgnefmikpaa.bitsBack
