/-
  The walk of ZoneOrder.
-/
import Derived.Test.YtnfbmffafclaaaaZoneBackWalk
import Derived.Test.YtnfbmffafclaaaaZapp
namespace Go.Proofs.Ytnfbmffafclaaaa.zoneOrder
open Go.RowKit Go.Proofs.Ytnfbmffafclaaaa
set_option linter.unusedVariables false
set_option linter.unusedSimpArgs false
set_option maxHeartbeats 8000000 in
set_option maxRecDepth 100000 in
theorem walk (a0 : Int) (p1 : Option Addr) (c1 : Nat) (l1 : List Cel) (a2 : Int) (w : World) (w0 : -9223372036854775808 ≤ a0 ∧ a0 ≤ 9223372036854775807) (b1 : RdC w p1 c1 l1) (m1 : ∀ c ∈ l1, CelOk c) (w2 : -9223372036854775808 ≤ a2 ∧ a2 ≤ 9223372036854775807) :
    Calls Try.prog 8 #[.int .i64 a0, .slice p1 l1.length c1, .int .i64 a2] w fun e w' => e = .returned (.bool true) ∧ Below w.heap.size w w' := by
  obtain ⟨w01, w02⟩ := w0
  obtain ⟨w21, w22⟩ := w2
  have HB1 : Hid (RdC w p1 c1 l1) := b1
  obtain ⟨C, hC⟩ : ∃ C, C = Z.few l1 := ⟨_, rfl⟩
  have HC : Hid (C = Z.few l1) := hC
  have hCl : C.length ≤ 40 := by rw [hC]; exact Z.few_len _
  clear b1 hC m1
  go_enter Try.func8, Try.ntmps8
  go_wp2_with fail
  refine (within_any _ 1 _ (by omega) (by omega) (by omega) (by omega)).mono ?_
  rintro e wq ⟨r, hr1, rfl, hw'⟩
  have hw'' := hw'.symm
  clear hw'
  subst hw''
  obtain ⟨K, hK⟩ : ∃ K : Int, K = 1 + (r : Int) := ⟨_, rfl⟩
  have hKi : (1 : Int) + (r : Int) = K := hK.symm
  have HKk : Hid (Z.Kind K) := (by unfold Z.Kind; omega : Z.Kind K)
  clear hK
  go_wp2_with fail
  refine (few_is p1 _ c1 l1 _ rfl HB1.out).mono ?_
  rintro e wa ⟨va, rfl, hoa, hxa⟩
  rw [← HC.out] at hoa
  have HXa : Hid (Ex w wa) := hxa
  by_cases hC0 : C.length = 0
  · obtain ⟨aC, cC, rfl, hrC⟩ := hoa.rd
    have tc0 : ((C.length : Int) == 0) = true := by rw [hC0]; rfl
    have tc1 : decide (C.length = 0) = true := by rw [hC0]; rfl
    clear hoa hxa hrC
    go_wp2_with fail
    refine (known_any _).mono ?_
    rintro e wk ⟨rfl, hxk⟩
    go_wp2_with fail
    go_ret
    exact ⟨rfl, HXa.out.trans hxk⟩
  · obtain ⟨bC, cC, hv, hbb, hbs, hlc, hcm⟩ : ∃ g cap, va = .slice (some ⟨g, 0, none⟩) C.length cap ∧ w.heap.size ≤ g ∧ g < wa.heap.size ∧ C.length ≤ cap ∧ cap ≤ maxLen := by
      rcases hoa.2 with ⟨_, h0⟩ | ⟨g, cap, cur, hv, hb, hg, h1, h2, _⟩
      · omega
      · exact ⟨g, cap, hv, hb, (Array.getElem?_eq_some_iff.1 hg).1, h1, h2⟩
    subst hv
    obtain ⟨aC', cC', hv', hrC⟩ := hoa.rd
    simp only [Value.slice.injEq, true_and] at hv'
    obtain ⟨rfl, rfl⟩ := hv'
    unfold maxLen at hcm
    have HRC : Hid (RdC wa (some ⟨bC, 0, none⟩) cC C) := hrC
    obtain ⟨n, hn⟩ : ∃ n, n = C.length := ⟨_, rfl⟩
    have HN : Hid (n = C.length) := hn
    have hn1 : 1 ≤ n := by omega
    have hn4 : n ≤ 40 := by omega
    have hnc : n ≤ cC := by omega
    rw [← hn]
    have tc0 : ((n : Int) == 0) = false := by simp; omega
    have tc1 : decide (n = 0) = false := by simp; omega
    clear hoa hxa hrC hn hC0
    go_wp2_with fail
    refine (within_any _ ((n : Int) - 1) _ (by omega) (by omega) (by omega) (by omega)).mono ?_
    rintro e wq ⟨k, hk1, rfl, hw'⟩
    have hw'' := hw'.symm
    clear hw'
    subst hw''
    have hkn : k < n := by omega
    have hki : (k : Int) ≤ (n : Int) := by omega
    have hkc : (k : Int) ≤ (cC : Int) := by omega
    have hnci : (n : Int) ≤ (cC : Int) := by omega
    have hck : ¬ cC - k = 0 := by omega
    have hck2 : ¬ cC = k := by omega
    have HD : Hid (RdC wa (some ⟨bC, k * 4, none⟩) (cC - k) (C.drop k)) := (by have h := HRC.out.from k (by have := HN.out; omega); simpa using h : RdC wa (some ⟨bC, k * 4, none⟩) (cC - k) (C.drop k))
    have HT : Hid (RdC wa (some ⟨bC, 0, none⟩) cC (C.take k)) := HRC.out.take k
    have HDl : Hid (n - k = (C.drop k).length) := (by rw [HN.out]; simp : n - k = (C.drop k).length)
    have HTl : Hid (k = (C.take k).length) := (by have := HN.out; simp; omega : k = (C.take k).length)
    have hown0 : OwnC (wa.drew.alloc (.cells #[] 52)) wa.heap.size (.slice (some ⟨wa.heap.size, 0, none⟩) 0 0) [] := ownC_empty wa.drew wa.heap.size (by simp)
    have hxd : Ex wa (wa.drew.alloc (.cells #[] 52)) := (Below.refl _ _).drew.alloc (by simp) _
    go_wp2_with fail
    go_region_law (first
      | (refine step_append_cells rfl (.tmp 26) (.tmp 29) rfl wa.heap.size _ [] rfl hown0 ⟨bC, k * 4, none⟩ _ _ (C.drop k) rfl HDl.out (HD.out.below hxd) (by simp; omega) (by simp) ?_; intro v30 w30 ho30 hg30; have hx30 : Ex wa w30 := step_belowC hxd (by simp) hown0 hg30; clear hg30)
      | (refine step_append_cells rfl (.tmp 30) (.tmp 33) rfl wa.heap.size _ _ rfl ho30 ⟨bC, 0, none⟩ _ _ (C.take k) rfl HTl.out (HT.out.below hx30) (by simp; omega) hx30.size ?_; intro v34 w34 ho34 hg34; have hx34 : Ex wa w34 := step_belowC hx30 hx30.size ho30 hg34; clear hg34))
    obtain ⟨D, hD⟩ : ∃ D, D = C.drop k ++ C.take k := ⟨_, rfl⟩
    simp only [List.nil_append] at ho34
    rw [← hD] at ho34
    obtain ⟨aD, cD, rfl, hrD⟩ := ho34.rd
    have hDl : D.length ≤ 40 := by rw [hD]; simp; omega
    obtain ⟨z, hz⟩ : ∃ z, z = Z.build K C := ⟨_, rfl⟩
    have hord := Z.build_order HKk.out C k
    rw [← hD, ← hz] at hord
    have hzr : z.r = C.length := by rw [hz]; exact (Z.build_k HKk.out C).2
    have hzu : 0 ≤ z.u ∧ z.u ≤ C.length := by rw [hz]; exact Z.fold_u K C.length C
    obtain ⟨R, hR⟩ : ∃ R : Int, R = z.r := ⟨_, rfl⟩
    obtain ⟨U, hU⟩ : ∃ U : Int, U = z.u := ⟨_, rfl⟩
    have hRb : 0 ≤ R ∧ R ≤ 40 := by omega
    have hUb : 0 ≤ U ∧ U ≤ 40 := by omega
    have HR : Hid (z.r = R) := hR.symm
    have HU : Hid (z.u = U) := hU.symm
    have HB : Hid (Z.build K D = z) := hord.1
    obtain ⟨F, hF⟩ : ∃ F, C ++ D = F := ⟨_, rfl⟩
    have HF : Hid (C ++ D = F) := hF
    have HB2 : Hid (Z.build K F = ⟨z.k, 2 * R, 2 * U, z.mn, z.mx, z.ms, z.xs⟩) := (by rw [← hF, hord.2, hR, hU] : Z.build K F = ⟨z.k, 2 * R, 2 * U, z.mn, z.mx, z.ms, z.xs⟩)
    clear hF
    have Hz : Hid (Z.build K C = z) := hz.symm
    have HX34 : Hid (Ex w w34) := HXa.out.trans hx34
    have HC34 : Hid (RdC w34 (some ⟨bC, 0, none⟩) cC C) := HRC.out.below hx34
    have HD34 : Hid (RdC w34 aD cD D) := hrD
    clear hord hzr hzu hR hU hD hz ho34 ho30 hx30 hx34 hrD hown0 hxd
    go_wp2_with fail
    refine (z_build K _ _ cC C _ HN.out HC34.out).mono ?_
    rintro e w5 ⟨rfl, hx5⟩
    rw [Hz.out]
    have HX5 : Hid (Ex w w5) := HX34.out.trans hx5
    have hxa5 : Ex w5 (w5.alloc (zb z 23)) := (Below.refl _ _).alloc (Nat.le_refl _) _
    have HXa5 : Hid (Ex w5 (w5.alloc (zb z 23))) := hxa5
    have HA5 : Hid (ZAt (w5.alloc (zb z 23)) w5.heap.size z 23) := ZAt.new w5 z 23
    have HC5 : Hid (RdC (w5.alloc (zb z 23)) (some ⟨bC, 0, none⟩) cC C) := (HC34.out.below hx5).below hxa5
    have HD5 : Hid (RdC (w5.alloc (zb z 23)) aD cD D) := (HD34.out.below hx5).below hxa5
    clear hx5 hxa5
    simp only [zv]
    go_wp2_with fail
    refine (z_build K aD _ cD D _ rfl HD5.out).mono ?_
    rintro e w6 ⟨rfl, hx6⟩
    rw [HB.out]
    have HX6 : Hid (Ex w w6) := (HX5.out.trans HXa5.out).trans hx6
    have hxa6 : Ex w6 (w6.alloc (zb z 23)) := (Below.refl _ _).alloc (Nat.le_refl _) _
    have HXa6 : Hid (Ex w6 (w6.alloc (zb z 23))) := hxa6
    have HA6 : Hid (ZAt (w6.alloc (zb z 23)) w5.heap.size z 23) := (HA5.out.below hx6).below hxa6
    have HA6b : Hid (ZAt (w6.alloc (zb z 23)) w6.heap.size z 23) := ZAt.new w6 z 23
    obtain ⟨w7, hw7⟩ : ∃ w7, w7 = w6.alloc (zb z 23) := ⟨_, rfl⟩
    have HC6 : Hid (RdC w7 (some ⟨bC, 0, none⟩) cC C) := (by rw [hw7]; exact (HC5.out.below hx6).below hxa6 : RdC w7 (some ⟨bC, 0, none⟩) cC C)
    have HD6 : Hid (RdC w7 aD cD D) := (by rw [hw7]; exact (HD5.out.below hx6).below hxa6 : RdC w7 aD cD D)
    have HX7 : Hid (Ex w w7) := (by rw [hw7]; exact HX6.out.trans hxa6 : Ex w w7)
    have HA7 : Hid (ZAt w7 w5.heap.size z 23) := (by rw [hw7]; exact HA6.out : ZAt w7 w5.heap.size z 23)
    have HA7b : Hid (ZAt w7 w6.heap.size z 23) := (by rw [hw7]; exact HA6b.out : ZAt w7 w6.heap.size z 23)
    have hown1 : OwnC (w7.alloc (.cells #[] 52)) w7.heap.size (.slice (some ⟨w7.heap.size, 0, none⟩) 0 0) [] := ownC_empty w7 w7.heap.size (Nat.le_refl _)
    have hxe : Ex w7 (w7.alloc (.cells #[] 52)) := (Below.refl _ _).alloc (Nat.le_refl _) _
    have hs7 : w6.heap.size + 1 = w7.heap.size := by rw [hw7]; simp
    have HW7 : Hid (w6.alloc (zb z 23) = w7) := hw7.symm
    clear hx6 hxa6 hw7
    simp only [zv]
    go_wp2_with (first
      | (have _t := hown1; simp only [HW7.out, hs7]; at_builtin; refine wpList_append_cells rfl (.tmp 42) (.tmp 43) rfl w7.heap.size _ [] rfl hown1 _ _ _ C rfl HN.out (HC6.out.below hxe) (by simp; omega) (Ex.size hxe) ?_; intro v44 w44 ho44 hg44; have hx44 : Ex w7 w44 := step_belowC hxe (Ex.size hxe) hown1 hg44; clear hown1 hg44)
      | (at_builtin; refine wpList_append_cells rfl (.tmp 44) (.tmp 45) rfl w7.heap.size _ _ rfl ho44 _ _ _ D rfl rfl (HD6.out.below hx44) (by simp; omega) (Ex.size hx44) ?_; intro v46 w46 ho46 hg46; have hx46 : Ex w7 w46 := step_belowC hx44 (Ex.size hx44) ho44 hg46; clear ho44 hg46; simp only [List.nil_append] at ho46; rw [HF.out] at ho46; obtain ⟨aF, cF, hvF, hrF⟩ := ho46.rd; subst hvF)
      | fail)
    have HX46 : Hid (Ex w w46) := HX7.out.trans hx46
    have HF46 : Hid (RdC w46 aF cF F) := hrF
    have HA46 : Hid (ZAt w46 w5.heap.size z 23) := HA7.out.below hx46
    have HA46b : Hid (ZAt w46 w6.heap.size z 23) := HA7b.out.below hx46
    clear ho46 hx46 hx44 hrF hxe
    refine (z_build K aF _ cF F _ rfl HF46.out).mono ?_
    rintro e w8 ⟨rfl, hx8⟩
    rw [HB2.out]
    have hxa8 : Ex w8 (w8.alloc (zb ⟨z.k, 2 * R, 2 * U, z.mn, z.mx, z.ms, z.xs⟩ 23)) := (Below.refl _ _).alloc (Nat.le_refl _) _
    obtain ⟨w9, hw9⟩ : ∃ w9, w9 = w8.alloc (zb ⟨z.k, 2 * R, 2 * U, z.mn, z.mx, z.ms, z.xs⟩ 23) := ⟨_, rfl⟩
    have HX9 : Hid (Ex w w9) := (by rw [hw9]; exact (HX46.out.trans hx8).trans hxa8 : Ex w w9)
    have HA9 : Hid (ZAt w9 w5.heap.size ⟨z.k, R, U, z.mn, z.mx, z.ms, z.xs⟩ 23) := (by have e9 : (⟨z.k, R, U, z.mn, z.mx, z.ms, z.xs⟩ : Zn) = z := (by rw [← HR.out, ← HU.out]); rw [hw9, e9]; exact (HA46.out.below hx8).below hxa8 : ZAt w9 w5.heap.size ⟨z.k, R, U, z.mn, z.mx, z.ms, z.xs⟩ 23)
    have HA10 : Hid (ZAt w9 w6.heap.size z 23) := (by rw [hw9]; exact (HA46b.out.below hx8).below hxa8 : ZAt w9 w6.heap.size z 23)
    have HA11 : Hid (ZAt w9 w8.heap.size ⟨z.k, 2 * R, 2 * U, z.mn, z.mx, z.ms, z.xs⟩ 23) := (by rw [hw9]; exact ZAt.new w8 _ 23 : ZAt w9 w8.heap.size ⟨z.k, 2 * R, 2 * U, z.mn, z.mx, z.ms, z.xs⟩ 23)
    have HAz : Hid (ZAt w9 w5.heap.size z 23) := (by rw [hw9]; exact (HA46.out.below hx8).below hxa8 : ZAt w9 w5.heap.size z 23)
    clear hx8 hxa8
    simp only [zv]
    go_wp2_with fail
    rw [← hw9]
    clear hw9
    have hre := Ex.refl
    refine Rg.wp_rows [.inl (zv z), .inl (zv z), .inl (zv z), .inl (zv z), .inl (.bool true), .inl (.bool true), .inl (Value.pointer (some ⟨w8.heap.size, 1, none⟩)), .inl (Value.int .i64 (2 * R)), .inl (Value.pointer (some ⟨w5.heap.size, 1, none⟩)), .inl (Value.int .i64 R), .inl (Value.int .i64 (2 * R)), .inl (.bool true), .inl (.bool true), .inl (.bool true), .inl (Value.pointer (some ⟨w8.heap.size, 2, none⟩)), .inl (Value.int .i64 (2 * U)), .inl (Value.pointer (some ⟨w5.heap.size, 2, none⟩)), .inl (Value.int .i64 U), .inl (Value.int .i64 (2 * U)), .inl (.bool true), .inl (.bool true), .inl (.bool true), .inl (Value.pointer (some ⟨w8.heap.size, 3, none⟩)), .inl (Value.int .i64 z.mn), .inl (Value.pointer (some ⟨w5.heap.size, 3, none⟩)), .inl (Value.int .i64 z.mn), .inl (.bool true), .inl (.bool true), .inl (.bool true), .inl (Value.pointer (some ⟨w8.heap.size, 4, none⟩)), .inl (Value.int .i64 z.mx), .inl (Value.pointer (some ⟨w5.heap.size, 4, none⟩)), .inl (Value.int .i64 z.mx), .inl (.bool true), .inl (.bool true), .inl (.bool true), .inl (Value.pointer (some ⟨w8.heap.size, 5, none⟩)), .inl (Value.string (str z.ms)), .inl (Value.pointer (some ⟨w5.heap.size, 5, none⟩)), .inl (Value.string (str z.ms)), .inl (.bool true), .inl (.bool true), .inl (.bool true), .inl (Value.pointer (some ⟨w8.heap.size, 6, none⟩)), .inl (Value.string (str z.xs)), .inl (Value.pointer (some ⟨w5.heap.size, 6, none⟩)), .inl (Value.string (str z.xs)), .inl (.bool true), .inl (.bool true), .inl (.bool true), .inl (.bool true), .inl (.bool true), .inl (.bool true)] (Ex w9) Ex 100 (by kernel_rfl) rfl (by kernel_rfl) ?st hre (Ex.drew _) ?goods ?fin
    case st => exact trivial
    case goods =>
      refine Rg.goods_cons (Rg.good_load hre rfl rfl rfl (fun wx hC => by exact loadI_zone (HAz.out.below hC))) ?_
      refine Rg.goods_cons (Rg.good_call1 Try.func11 (by kernel_rfl) rfl rfl rfl (by rintro u wx hC rfl; exact ex_row (in_is z wx) hC)) ?_
      refine Rg.goods_cons (Rg.good_load hre rfl rfl rfl (fun wx hC => by exact loadI_zone (HA10.out.below hC))) ?_
      refine Rg.goods_cons (Rg.good_call1 Try.func11 (by kernel_rfl) rfl rfl rfl (by rintro u wx hC rfl; exact ex_row (in_is z wx) hC)) ?_
      refine Rg.goods_cons (Rg.good_bin hre rfl rfl rfl rfl (fun w => guard_zone _ _ _ z z w) (fun w => eql_zone z w)) ?_
      refine Rg.goods_cons (Rg.good_move hre rfl rfl rfl) ?_
      refine Rg.goods_cons (Rg.good_field hre rfl rfl rfl (fun wx hC => by go_simp)) ?_
      refine Rg.goods_cons (Rg.good_load hre rfl rfl rfl (fun wx hC => by have hcz := (HA11.out.below hC).all; obtain ⟨c0, c1, c2, c3, c4, c5, c6⟩ := hcz; go_simp)) ?_
      refine Rg.goods_cons (Rg.good_field hre rfl rfl rfl (fun wx hC => by go_simp)) ?_
      refine Rg.goods_cons (Rg.good_load hre rfl rfl rfl (fun wx hC => by have hcz := (HA9.out.below hC).all; obtain ⟨c0, c1, c2, c3, c4, c5, c6⟩ := hcz; go_simp)) ?_
      refine Rg.goods_cons (Rg.good_bin hre rfl rfl rfl rfl (fun _ => rfl) (fun w => by go_simp; rw [IntKind.wrap_i64]; omega)) ?_
      refine Rg.goods_cons (Rg.good_bin hre rfl rfl rfl rfl (fun _ => rfl) (fun w => by go_simp)) ?_
      refine Rg.goods_cons (Rg.good_pick true hre rfl rfl rfl rfl) ?_
      refine Rg.goods_cons (Rg.good_move hre rfl rfl rfl) ?_
      refine Rg.goods_cons (Rg.good_field hre rfl rfl rfl (fun wx hC => by go_simp)) ?_
      refine Rg.goods_cons (Rg.good_load hre rfl rfl rfl (fun wx hC => by have hcz := (HA11.out.below hC).all; obtain ⟨c0, c1, c2, c3, c4, c5, c6⟩ := hcz; go_simp)) ?_
      refine Rg.goods_cons (Rg.good_field hre rfl rfl rfl (fun wx hC => by go_simp)) ?_
      refine Rg.goods_cons (Rg.good_load hre rfl rfl rfl (fun wx hC => by have hcz := (HA9.out.below hC).all; obtain ⟨c0, c1, c2, c3, c4, c5, c6⟩ := hcz; go_simp)) ?_
      refine Rg.goods_cons (Rg.good_bin hre rfl rfl rfl rfl (fun _ => rfl) (fun w => by go_simp; rw [IntKind.wrap_i64]; omega)) ?_
      refine Rg.goods_cons (Rg.good_bin hre rfl rfl rfl rfl (fun _ => rfl) (fun w => by go_simp)) ?_
      refine Rg.goods_cons (Rg.good_pick true hre rfl rfl rfl rfl) ?_
      refine Rg.goods_cons (Rg.good_move hre rfl rfl rfl) ?_
      refine Rg.goods_cons (Rg.good_field hre rfl rfl rfl (fun wx hC => by go_simp)) ?_
      refine Rg.goods_cons (Rg.good_load hre rfl rfl rfl (fun wx hC => by have hcz := (HA11.out.below hC).all; obtain ⟨c0, c1, c2, c3, c4, c5, c6⟩ := hcz; go_simp)) ?_
      refine Rg.goods_cons (Rg.good_field hre rfl rfl rfl (fun wx hC => by go_simp)) ?_
      refine Rg.goods_cons (Rg.good_load hre rfl rfl rfl (fun wx hC => by have hcz := (HA9.out.below hC).all; obtain ⟨c0, c1, c2, c3, c4, c5, c6⟩ := hcz; go_simp)) ?_
      refine Rg.goods_cons (Rg.good_bin hre rfl rfl rfl rfl (fun _ => rfl) (fun w => by go_simp)) ?_
      refine Rg.goods_cons (Rg.good_pick true hre rfl rfl rfl rfl) ?_
      refine Rg.goods_cons (Rg.good_move hre rfl rfl rfl) ?_
      refine Rg.goods_cons (Rg.good_field hre rfl rfl rfl (fun wx hC => by go_simp)) ?_
      refine Rg.goods_cons (Rg.good_load hre rfl rfl rfl (fun wx hC => by have hcz := (HA11.out.below hC).all; obtain ⟨c0, c1, c2, c3, c4, c5, c6⟩ := hcz; go_simp)) ?_
      refine Rg.goods_cons (Rg.good_field hre rfl rfl rfl (fun wx hC => by go_simp)) ?_
      refine Rg.goods_cons (Rg.good_load hre rfl rfl rfl (fun wx hC => by have hcz := (HA9.out.below hC).all; obtain ⟨c0, c1, c2, c3, c4, c5, c6⟩ := hcz; go_simp)) ?_
      refine Rg.goods_cons (Rg.good_bin hre rfl rfl rfl rfl (fun _ => rfl) (fun w => by go_simp)) ?_
      refine Rg.goods_cons (Rg.good_pick true hre rfl rfl rfl rfl) ?_
      refine Rg.goods_cons (Rg.good_move hre rfl rfl rfl) ?_
      refine Rg.goods_cons (Rg.good_field hre rfl rfl rfl (fun wx hC => by go_simp)) ?_
      refine Rg.goods_cons (Rg.good_load hre rfl rfl rfl (fun wx hC => by have hcz := (HA11.out.below hC).all; obtain ⟨c0, c1, c2, c3, c4, c5, c6⟩ := hcz; go_simp)) ?_
      refine Rg.goods_cons (Rg.good_field hre rfl rfl rfl (fun wx hC => by go_simp)) ?_
      refine Rg.goods_cons (Rg.good_load hre rfl rfl rfl (fun wx hC => by have hcz := (HA9.out.below hC).all; obtain ⟨c0, c1, c2, c3, c4, c5, c6⟩ := hcz; go_simp)) ?_
      refine Rg.goods_cons (Rg.good_bin hre rfl rfl rfl rfl (fun _ => rfl) (fun w => by go_simp)) ?_
      refine Rg.goods_cons (Rg.good_pick true hre rfl rfl rfl rfl) ?_
      refine Rg.goods_cons (Rg.good_move hre rfl rfl rfl) ?_
      refine Rg.goods_cons (Rg.good_field hre rfl rfl rfl (fun wx hC => by go_simp)) ?_
      refine Rg.goods_cons (Rg.good_load hre rfl rfl rfl (fun wx hC => by have hcz := (HA11.out.below hC).all; obtain ⟨c0, c1, c2, c3, c4, c5, c6⟩ := hcz; go_simp)) ?_
      refine Rg.goods_cons (Rg.good_field hre rfl rfl rfl (fun wx hC => by go_simp)) ?_
      refine Rg.goods_cons (Rg.good_load hre rfl rfl rfl (fun wx hC => by have hcz := (HA9.out.below hC).all; obtain ⟨c0, c1, c2, c3, c4, c5, c6⟩ := hcz; go_simp)) ?_
      refine Rg.goods_cons (Rg.good_bin hre rfl rfl rfl rfl (fun _ => rfl) (fun w => by go_simp)) ?_
      refine Rg.goods_cons (Rg.good_pick true hre rfl rfl rfl rfl) ?_
      refine Rg.goods_cons (Rg.good_move hre rfl rfl rfl) ?_
      refine Rg.goods_cons (Rg.good_call0 Try.func19 (by kernel_rfl) rfl rfl rfl (by intro wx hC; exact ex_row (known_any wx) hC)) ?_
      refine Rg.goods_cons (Rg.good_pick true hre rfl rfl rfl rfl) ?_
      refine Rg.goods_cons (Rg.good_assign hre rfl rfl rfl) ?_
      exact Rg.goods_nil
    case fin =>
      intro wx hx
      simp only [Rg.later, Act.put, List.setIfInBounds_toArray, List.set_cons_succ, List.set_cons_zero]
      go_wp2_with fail
      go_ret
      exact ⟨rfl, HX9.out.trans hx⟩
end Go.Proofs.Ytnfbmffafclaaaa.zoneOrder
