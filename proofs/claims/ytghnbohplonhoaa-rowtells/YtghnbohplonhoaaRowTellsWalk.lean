/-
  The walk of RowTells.
-/
import Derived.Test.YtghnbohplonhoaaRowBackWalk
import Derived.Test.YtghnbohplonhoaaRowGrowsWalk
import Derived.Test.YtghnbohplonhoaaByt2
namespace Go.Proofs.Ytghnbohplonhoaa
open Go.RowKit
set_option linter.unusedVariables false
namespace Rw
theorem short_len12 (l : List Rw) : (short l 12).length ≤ 12 := by simp [short]; omega
theorem short_ok12 {l : List Rw} (h : ∀ r ∈ l, RowOk r) : ∀ r ∈ short l 12, RwOk r := by
  intro r hr
  simp only [short, List.mem_map] at hr
  obtain ⟨x, hx, rfl⟩ := hr
  exact shr_ok (h x (List.mem_of_mem_take hx))
theorem encE_len {r : Rw} {R : List UInt8} {e0 : Nat} (h : encE r = (R, e0)) : R.length ≤ 900 ∧ e0 ≤ 12 := by
  unfold encE at h
  split at h
  · rename_i hr
    simp only [Prod.mk.injEq] at h
    obtain ⟨rfl, rfl⟩ := h
    exact ⟨enc_len hr, by omega⟩
  · simp only [Prod.mk.injEq] at h
    obtain ⟨rfl, rfl⟩ := h
    simp
end Rw
theorem bne_same (x : Bool) : (x != x) = false := by simp
end Go.Proofs.Ytghnbohplonhoaa
namespace Go.Proofs.Ytghnbohplonhoaa.rowTells
open Go.RowKit Go.Proofs.Ytghnbohplonhoaa
set_option linter.unusedVariables false
set_option linter.unusedSimpArgs false
set_option maxRecDepth 100000 in
set_option maxHeartbeats 16000000 in
theorem walk (p0 : Option Addr) (c0 : Nat) (l0 : List Rw) (p1 : Option Addr) (c1 : Nat) (l1 : List Co) (s2 : List UInt8) (p3 : Option Addr) (c3 : Nat) (l3 : List UInt8) (a4 : Int) (w : World) (b0 : RdR w p0 c0 l0) (m0 : ∀ r ∈ l0, RowOk r ∧ r.c.length ≤ 2932031007402) (b1 : RdK w p1 c1 l1) (m1 : ∀ c ∈ l1, ColOk c) (w2 : s2.length ≤ 140737488351232) (b3 : Byt w p3 c3 l3) (w3 : l3.length ≤ 140737488351232) (w4 : -9223372036854775808 ≤ a4 ∧ a4 ≤ 9223372036854775807) :
    Calls Try.prog 4 #[.slice p0 l0.length c0, .slice p1 l1.length c1, .string (str s2), .slice p3 l3.length c3, .int .i64 a4] w fun e w' => e = .returned (.bool true) ∧ Below w.heap.size w w' := by
  have HB0 : Hid (RdR w p0 c0 l0) := b0
  have HB3 : Hid (Byt w p3 c3 l3) := b3
  have hb1 := b1.1
  have hb11 := b1.2.1
  have hb3 := b3.1
  have hb31 := b3.2.1
  unfold maxLen at hb11 hb31
  obtain ⟨L, hL⟩ : ∃ L, Rw.short l0 12 = L := ⟨_, rfl⟩
  have HL : Hid (Rw.short l0 12 = L) := hL
  have hLl : L.length ≤ 12 := by rw [← hL]; exact Rw.short_len12 l0
  have HLok : Hid (∀ r ∈ L, RwOk r) := (by rw [← hL]; exact Rw.short_ok12 (fun r hr => (m0 r hr).1) : ∀ r ∈ L, RwOk r)
  obtain ⟨K, hK⟩ : ∃ K, l1.take 14 = K := ⟨_, rfl⟩
  have HKok : Hid (∀ c ∈ K, c.nm.length ≤ maxLen ∧ In64 c.k) := (fun c hc => by rw [← hK] at hc; exact m1 c (List.mem_of_mem_take hc) : ∀ c ∈ K, c.nm.length ≤ maxLen ∧ In64 c.k)
  have HRK : Hid (RdK w p1 c1 K) := (by rw [← hK]; exact RdW.take b1 14 : RdK w p1 c1 K)
  have HKe : Hid (l1.take 14 = K) := hK
  have hKl : K.length ≤ 14 := by rw [← hK]; simp; omega
  have HM0 : Hid (∀ r ∈ l0, r.c.length ≤ 2932031007402) := (fun r hr => (m0 r hr).2 : ∀ r ∈ l0, r.c.length ≤ 2932031007402)
  have hs2 : s2.length ≤ maxLen := by unfold maxLen; omega
  have HS2 : Hid (s2.length ≤ maxLen) := hs2
  obtain ⟨⟨C, e0, k0⟩, hG⟩ : ∃ z, Rw.grow K L = z := ⟨_, rfl⟩
  have HG : Hid (Rw.grow K L = (C, e0, k0)) := hG
  obtain ⟨oc, hoc⟩ : ∃ o, Rw.colsOk K = o := ⟨_, rfl⟩
  have HOc : Hid (Rw.colsOk K = oc) := hoc
  obtain ⟨on, hon⟩ : ∃ o, Rw.name s2 = o := ⟨_, rfl⟩
  have HOn : Hid (Rw.name s2 = on) := hon
  obtain ⟨S, hS⟩ : ∃ S, Rw.sort L = S := ⟨_, rfl⟩
  have HS : Hid (Rw.sort L = S) := hS
  have hbo := bne_same oc
  have hbn := bne_same on
  clear b0 b1 b3 m0 m1 hL hK hG hoc hon hS hs2
  go_enter Try.func4, Try.ntmps4
  go_wp2_with fail
  refine (kshort_is _ _ c0 l0 12 _ rfl HB0.out (by omega) HM0.out).mono ?_
  rintro e w5 ⟨v, rfl, hv, hx5⟩
  rw [HL.out] at hv
  obtain ⟨a0, d0, rfl, hR5⟩ := hv.rd
  have HRL : Hid (RdR w5 a0 d0 L) := hR5
  have HX5 : Hid (Ex w w5) := hx5
  have hd0 := hR5.bounds.1
  have hd01 := hR5.bounds.2.1
  unfold maxLen at hd01
  clear hv hR5 hx5
  by_cases hbig : 14 < l1.length
  · have tb : decide (14 < (l1.length : Int)) = true := by simp; omega
    have tb2 : decide (14 < l1.length) = true := by simp; omega
    have HKn : Hid (14 = K.length) := (by rw [← HKe.out]; simp; omega : 14 = K.length)
    have h14 : (14 : Int) ≤ (c1 : Int) := by omega
    go_wp2_with fail
    refine (f_grow p1 14 c1 K a0 L.length d0 L _ HKn.out rfl (RdW.below HRK.out HX5.out) HRL.out HKok.out HLok.out (by omega) (by omega) C e0 k0 HG.out).mono ?_
    rintro e w6 ⟨pc, cC, rfl, hbC, hx6⟩
    have HX6 : Hid (Ex w5 w6) := hx6
    have HRC : Hid (RdK w6 pc cC C) := hbC
    clear hx6 hbC
    go_wp2_with fail
    refine (rgrow_is p1 14 c1 K a0 L.length d0 L _ HKn.out rfl (RdW.below HRK.out (HX5.out.trans HX6.out)) (HRL.out.below HX6.out) (fun c hc => (HKok.out c hc).1) HLok.out C e0 k0 HG.out).mono ?_
    rintro e w7 ⟨pd, cD, rfl, hbD, hx7⟩
    have HX7 : Hid (Ex w5 w7) := HX6.out.trans hx7
    have HRC7 : Hid (RdK w7 pc cC C) := RdW.below HRC.out hx7
    have HRD : Hid (RdK w7 pd cD C) := hbD
    clear hx7 hbD
    go_wp2_with fail
    refine (kcols_is pc _ cC C pd _ cD C _ rfl rfl HRC7.out HRD.out true (by simp)).mono ?_
    rintro e w8 ⟨rfl, hx8⟩
    have HX8 : Hid (Ex w5 w8) := HX7.out.trans hx8
    clear hx8
    go_wp2_with fail
    refine (f_cols p1 14 c1 K _ HKn.out (RdW.below HRK.out (HX5.out.trans HX8.out)) HKok.out oc HOc.out).mono ?_
    rintro e w9 ⟨rfl, hx9⟩
    have HX9 : Hid (Ex w5 w9) := HX8.out.trans hx9
    clear hx9
    go_wp2_with fail
    refine (rcols_is p1 14 c1 K _ HKn.out (RdW.below HRK.out (HX5.out.trans HX9.out)) (fun c hc => (HKok.out c hc).1) oc HOc.out).mono ?_
    rintro e wA ⟨rfl, hxA⟩
    have HXA : Hid (Ex w5 wA) := HX9.out.trans hxA
    clear hxA
    go_wp2_with fail
    refine (f_sort a0 _ d0 L _ rfl (HRL.out.below HXA.out) (by omega) (by rw [← HL.out]; exact Rw.short_c _ _)).mono ?_
    rintro e wB ⟨ps, cs', rfl, hrs, hxB⟩
    rw [HS.out] at hrs
    rw [HS.out]
    have HXB : Hid (Ex w5 wB) := HXA.out.trans hxB
    have HRs : Hid (RdR wB ps cs' S) := hrs
    clear hxB hrs
    go_wp2_with fail
    refine (rsort_is a0 _ d0 L _ rfl (HRL.out.below HXB.out) (by omega)).mono ?_
    rintro e wC ⟨pt, ct, rfl, hrt, hxC⟩
    rw [HS.out] at hrt
    rw [HS.out]
    have HXC : Hid (Ex w5 wC) := HXB.out.trans hxC
    have HRsC : Hid (RdR wC ps cs' S) := HRs.out.below hxC
    have HRt : Hid (RdR wC pt ct S) := hrt
    clear hxC hrt
    go_wp2_with fail
    refine (krows_is ps _ cs' S pt _ ct S _ rfl rfl HRsC.out HRt.out true (by simp)).mono ?_
    rintro e wD ⟨rfl, hxD⟩
    have HXD : Hid (Ex w5 wD) := HXC.out.trans hxD
    clear hxD
    go_wp2_with fail
    refine (f_name s2 _ HS2.out on HOn.out).mono ?_
    rintro e wE ⟨rfl, hxE⟩
    have HXE : Hid (Ex w5 wE) := HXD.out.trans hxE
    clear hxE
    go_wp2_with fail
    refine (rname_is s2 _ HS2.out on HOn.out).mono ?_
    rintro e wq ⟨rfl, hw⟩
    have hw' := hw.symm; clear hw; subst hw'
    have HRLE : Hid (RdR wE a0 d0 L) := HRL.out.below HXE.out
    have HXwE : Hid (Ex w wE) := HX5.out.trans HXE.out
    go_wp2_with fail
    go_loopw [3, 17] (fun vb vi wr => ∃ j : Nat, j ≤ L.length ∧ vi = .int .i64 j ∧ Hid (∃ pb cb lb, vb = .slice pb (List.length lb) cb ∧ Byt wr pb cb lb ∧ lb.length ≤ 140737488351232 + 900 * j) ∧ Hid (Ex wE wr)) (fun vb vi wr => L.length - (intOf vi).toNat)
    case atStart => exact ⟨0, by omega, rfl, (⟨p3, c3, l3, rfl, HB3.out.below HXwE.out, by omega⟩ : ∃ pb cb lb, Value.slice p3 l3.length c3 = .slice pb (List.length lb) cb ∧ Byt wE pb cb lb ∧ lb.length ≤ 140737488351232 + 900 * 0), Ex.refl _⟩
    case round =>
      obtain ⟨j, hj, rfl, HV, HXr⟩ := hrel
      obtain ⟨pb, cb, lb, hvb, hbb, hlb⟩ := HV.out
      subst hvb
      have HBb : Hid (Byt wr pb cb lb) := hbb
      have hcb := hbb.1
      have hcb2 := hbb.2.1
      unfold maxLen at hcb2
      clear HV hbb
      by_cases hlt : j < L.length
      · have tj : decide ((j : Int) < (L.length : Int)) = true := by simp; omega
        obtain ⟨r, hr⟩ : ∃ r, L[j] = r := ⟨_, rfl⟩
        obtain ⟨q, hq⟩ : ∃ q, L[0]'(by omega) = q := ⟨_, rfl⟩
        have HOk : Hid (RwOk r) := HLok.out r (by rw [← hr]; exact List.getElem_mem hlt)
        obtain ⟨bL, oL, pr, cr, hpL, g0, g1, g2, hrd⟩ := (HRLE.out.below HXr.out).at hlt
        subst hpL
        obtain ⟨b', o', pq, cq, hpL, z0, z1, z2, hqd⟩ := (HRLE.out.below HXr.out).at (i := 0) (by omega)
        simp only [Option.some.injEq, Addr.mk.injEq, and_true] at hpL
        obtain ⟨rfl, rfl⟩ := hpL
        rw [hr] at g0 g1 g2 hrd
        rw [hq] at z0 z1 z2 hqd
        simp only [Nat.zero_mul, Nat.add_zero] at z0 z1 z2
        have HRd : Hid (RdC wr pr cr r.c) := hrd
        have HQd : Hid (RdC wr pq cq q.c) := hqd
        obtain ⟨⟨R, y0⟩, henc⟩ : ∃ z, Rw.encE r = z := ⟨_, rfl⟩
        have HE : Hid (Rw.encE r = (R, y0)) := henc
        obtain ⟨hRl, hy0⟩ := Rw.encE_len henc
        obtain ⟨rr, hrr⟩ : ∃ x, Rw.right r = x := ⟨_, rfl⟩
        have HRr : Hid (Rw.right r = rr) := hrr
        obtain ⟨X, hX⟩ : ∃ x, Rw.cell r.c s2 = x := ⟨_, rfl⟩
        have HX : Hid (Rw.cell r.c s2 = X) := hX
        obtain ⟨ls, hls⟩ : ∃ x, Rw.less q r = x := ⟨_, rfl⟩
        have HLs : Hid (Rw.less q r = ls) := hls
        clear hr hq hrd hqd henc hrr hX hls
        go_wp2_with fail
        refine (f_enc ⟨r.t, r.q, pr, r.c.length, cr⟩ r _ ⟨rfl, rfl, rfl, HRd.out⟩ HOk.out R y0 HE.out).mono ?_
        rintro e wF ⟨pf, cf, rfl, hbf, hxF⟩
        have HXF : Hid (Ex wr wF) := hxF
        have HBf : Hid (Byt wF pf cf R) := hbf
        have g0' := cell_ex g0 hxF
        have g1' := cell_ex g1 hxF
        have g2' := cell_ex g2 hxF
        clear hxF hbf
        go_wp2_with fail
        refine (rrenc_own ⟨r.t, r.q, pr, r.c.length, cr⟩ r _ ⟨rfl, rfl, rfl, RdW.below HRd.out HXF.out⟩ HOk.out R y0 HE.out).mono ?_
        rintro e wG ⟨u, rfl, hou, hxG⟩
        obtain ⟨pg, cg, hvg, hbg⟩ := hou.byt
        subst hvg
        have HXG : Hid (Ex wr wG) := HXF.out.trans hxG
        have HBfG : Hid (Byt wG pf cf R) := HBf.out.below hxG
        have HBg : Hid (Byt wG pg cg R) := hbg
        have n0 := cell_ex g0 HXG.out
        have n1 := cell_ex g1 HXG.out
        have n2 := cell_ex g2 HXG.out
        have m0 := cell_ex z0 HXG.out
        have m1 := cell_ex z1 HXG.out
        have m2 := cell_ex z2 HXG.out
        have HRdG : Hid (RdC wG pr cr r.c) := RdW.below HRd.out HXG.out
        have HQdG : Hid (RdC wG pq cq q.c) := RdW.below HQd.out HXG.out
        clear hxG hou hbg g0 g1 g2 z0 z1 z2 g0' g1' g2'
        go_wp2_with fail
        have hre := Ex.refl
        refine Rg.wp_rows [.inl (Value.slice (some ⟨bL, oL, none⟩) L.length d0), .inl (Value.int .i64 j), .inl (Value.pointer (some ⟨bL, oL + j * 3, none⟩)), .inl (rvv ⟨r.t, r.q, pr, r.c.length, cr⟩), .inl (.bool rr), .inl (Value.slice (some ⟨bL, oL, none⟩) L.length d0), .inl (Value.int .i64 j), .inl (Value.pointer (some ⟨bL, oL + j * 3, none⟩)), .inl (rvv ⟨r.t, r.q, pr, r.c.length, cr⟩), .inl (.bool rr), .inl (.bool false), .inl (.bool false), .inl (Value.slice pf R.length cf), .inl (.string (str R)), .inl (Value.slice pg R.length cg), .inl (.string (str R)), .inl (.bool false), .inl (.bool false), .inl (.bool false), .inl (Value.int .i64 y0), .inl (Value.int .i64 y0), .inl (.bool false), .inl (.bool false), .inl (.bool false), .inl (Value.slice (some ⟨bL, oL, none⟩) L.length d0), .inl (Value.int .i64 j), .inl (Value.pointer (some ⟨bL, oL + j * 3, none⟩)), .inl (rvv ⟨r.t, r.q, pr, r.c.length, cr⟩), .inl (.string (str s2)), .inl (cv X), .inl (Value.slice (some ⟨bL, oL, none⟩) L.length d0), .inl (Value.int .i64 j), .inl (Value.pointer (some ⟨bL, oL + j * 3, none⟩)), .inl (rvv ⟨r.t, r.q, pr, r.c.length, cr⟩), .inl (.string (str s2)), .inl (cv X), .inl (.bool false), .inl (.bool false), .inl (.bool false), .inl (Value.slice (some ⟨bL, oL, none⟩) L.length d0), .inl (Value.pointer (some ⟨bL, oL, none⟩)), .inl (rvv ⟨q.t, q.q, pq, q.c.length, cq⟩), .inl (Value.slice (some ⟨bL, oL, none⟩) L.length d0), .inl (Value.int .i64 j), .inl (Value.pointer (some ⟨bL, oL + j * 3, none⟩)), .inl (rvv ⟨r.t, r.q, pr, r.c.length, cr⟩), .inl (.bool ls), .inl (Value.slice (some ⟨bL, oL, none⟩) L.length d0), .inl (Value.pointer (some ⟨bL, oL, none⟩)), .inl (rvv ⟨q.t, q.q, pq, q.c.length, cq⟩), .inl (Value.slice (some ⟨bL, oL, none⟩) L.length d0), .inl (Value.int .i64 j), .inl (Value.pointer (some ⟨bL, oL + j * 3, none⟩)), .inl (rvv ⟨r.t, r.q, pr, r.c.length, cr⟩), .inl (.bool ls), .inl (.bool false), .inl (.bool false)] (Ex wG) Ex 199 (by kernel_rfl) rfl (by kernel_rfl) ?st hre (Ex.drew _) ?goods ?fin
        case st => exact trivial
        case goods =>
          refine Rg.goods_cons (Rg.good_move hre rfl rfl rfl) ?_
          refine Rg.goods_cons (Rg.good_move hre rfl rfl rfl) ?_
          refine Rg.goods_cons (Rg.good_index hre rfl rfl rfl rfl (fun wx hC => by go_simp)) ?_
          refine Rg.goods_cons (Rg.good_load hre rfl rfl rfl (fun wx hC => by exact loadI_row (cell_ex n0 hC) (cell_ex n1 hC) (cell_ex n2 hC))) ?_
          refine Rg.goods_cons (Rg.good_call1 Try.func14 (by kernel_rfl) rfl rfl rfl (by rintro u wx hC rfl; exact ex_row (f_right ⟨r.t, r.q, pr, r.c.length, cr⟩ r wx ⟨rfl, rfl, rfl, RdW.below HRdG.out hC⟩ HOk.out rr HRr.out) hC)) ?_
          refine Rg.goods_cons (Rg.good_move hre rfl rfl rfl) ?_
          refine Rg.goods_cons (Rg.good_move hre rfl rfl rfl) ?_
          refine Rg.goods_cons (Rg.good_index hre rfl rfl rfl rfl (fun wx hC => by go_simp)) ?_
          refine Rg.goods_cons (Rg.good_load hre rfl rfl rfl (fun wx hC => by exact loadI_row (cell_ex n0 hC) (cell_ex n1 hC) (cell_ex n2 hC))) ?_
          refine Rg.goods_cons (Rg.good_call1 Try.func15 (by kernel_rfl) rfl rfl rfl (by rintro u wx hC rfl; exact ex_row (rright_is ⟨r.t, r.q, pr, r.c.length, cr⟩ r wx ⟨rfl, rfl, rfl, RdW.below HRdG.out hC⟩ (fun c hc => ⟨(HOk.out.2.2 c hc).1, (HOk.out.2.2 c hc).2.1⟩) rr HRr.out) hC)) ?_
          refine Rg.goods_cons (Rg.good_bin hre rfl rfl rfl rfl (fun _ => rfl) (fun w => by cases rr <;> go_simp)) ?_
          refine Rg.goods_cons (Rg.good_move hre rfl rfl rfl) ?_
          refine Rg.goods_cons (Rg.good_move hre rfl rfl rfl) ?_
          refine Rg.goods_cons (Rg.good_conv hre rfl rfl (by rintro u wx hC rfl; exact run_str (HBfG.out.below hC) rfl)) ?_
          refine Rg.goods_cons (Rg.good_move hre rfl rfl rfl) ?_
          refine Rg.goods_cons (Rg.good_conv hre rfl rfl (by rintro u wx hC rfl; exact run_str (HBg.out.below hC) rfl)) ?_
          refine Rg.goods_cons (Rg.good_bin hre rfl rfl rfl rfl (fun _ => rfl) (fun w => by go_simp)) ?_
          refine Rg.goods_cons (Rg.good_pick false hre rfl rfl rfl rfl) ?_
          refine Rg.goods_cons (Rg.good_move hre rfl rfl rfl) ?_
          refine Rg.goods_cons (Rg.good_move hre rfl rfl rfl) ?_
          refine Rg.goods_cons (Rg.good_move hre rfl rfl rfl) ?_
          refine Rg.goods_cons (Rg.good_bin hre rfl rfl rfl rfl (fun _ => rfl) (fun w => by go_simp)) ?_
          refine Rg.goods_cons (Rg.good_pick false hre rfl rfl rfl rfl) ?_
          refine Rg.goods_cons (Rg.good_move hre rfl rfl rfl) ?_
          refine Rg.goods_cons (Rg.good_move hre rfl rfl rfl) ?_
          refine Rg.goods_cons (Rg.good_move hre rfl rfl rfl) ?_
          refine Rg.goods_cons (Rg.good_index hre rfl rfl rfl rfl (fun wx hC => by go_simp)) ?_
          refine Rg.goods_cons (Rg.good_load hre rfl rfl rfl (fun wx hC => by exact loadI_row (cell_ex n0 hC) (cell_ex n1 hC) (cell_ex n2 hC))) ?_
          refine Rg.goods_cons (Rg.good_move hre rfl rfl rfl) ?_
          refine Rg.goods_cons (Rg.good_call2 Try.func22 (by kernel_rfl) rfl rfl rfl (by rintro u u2 wx hC rfl rfl; exact ex_row (f_cell ⟨r.t, r.q, pr, r.c.length, cr⟩ r s2 wx ⟨rfl, rfl, rfl, RdW.below HRdG.out hC⟩ HOk.out HS2.out X HX.out) hC)) ?_
          refine Rg.goods_cons (Rg.good_move hre rfl rfl rfl) ?_
          refine Rg.goods_cons (Rg.good_move hre rfl rfl rfl) ?_
          refine Rg.goods_cons (Rg.good_index hre rfl rfl rfl rfl (fun wx hC => by go_simp)) ?_
          refine Rg.goods_cons (Rg.good_load hre rfl rfl rfl (fun wx hC => by exact loadI_row (cell_ex n0 hC) (cell_ex n1 hC) (cell_ex n2 hC))) ?_
          refine Rg.goods_cons (Rg.good_move hre rfl rfl rfl) ?_
          refine Rg.goods_cons (Rg.good_call2 Try.func32 (by kernel_rfl) rfl rfl rfl (by rintro u u2 wx hC rfl rfl; exact ex_row (rcell_is ⟨r.t, r.q, pr, r.c.length, cr⟩ r s2 wx ⟨rfl, rfl, rfl, RdW.below HRdG.out hC⟩ X HX.out) hC)) ?_
          refine Rg.goods_cons (Rg.good_bin hre rfl rfl rfl rfl (fun wx => guard_cell _ _ _ X X wx) (fun wx => neq_cell X X false (by simp) wx)) ?_
          refine Rg.goods_cons (Rg.good_pick false hre rfl rfl rfl rfl) ?_
          refine Rg.goods_cons (Rg.good_move hre rfl rfl rfl) ?_
          refine Rg.goods_cons (Rg.good_move hre rfl rfl rfl) ?_
          refine Rg.goods_cons (Rg.good_index hre rfl rfl rfl rfl (fun wx hC => by go_simp; intro h; exfalso; rw [h] at hlt; simp at hlt)) ?_
          refine Rg.goods_cons (Rg.good_load hre rfl rfl rfl (fun wx hC => by exact loadI_row (cell_ex m0 hC) (cell_ex m1 hC) (cell_ex m2 hC))) ?_
          refine Rg.goods_cons (Rg.good_move hre rfl rfl rfl) ?_
          refine Rg.goods_cons (Rg.good_move hre rfl rfl rfl) ?_
          refine Rg.goods_cons (Rg.good_index hre rfl rfl rfl rfl (fun wx hC => by go_simp)) ?_
          refine Rg.goods_cons (Rg.good_load hre rfl rfl rfl (fun wx hC => by exact loadI_row (cell_ex n0 hC) (cell_ex n1 hC) (cell_ex n2 hC))) ?_
          refine Rg.goods_cons (Rg.good_call2 Try.func33 (by kernel_rfl) rfl rfl rfl (by rintro u u2 wx hC rfl rfl; exact ex_row (f_less ⟨q.t, q.q, pq, q.c.length, cq⟩ ⟨r.t, r.q, pr, r.c.length, cr⟩ q r wx ⟨rfl, rfl, rfl, RdW.below HQdG.out hC⟩ ⟨rfl, rfl, rfl, RdW.below HRdG.out hC⟩ ls HLs.out) hC)) ?_
          refine Rg.goods_cons (Rg.good_move hre rfl rfl rfl) ?_
          refine Rg.goods_cons (Rg.good_index hre rfl rfl rfl rfl (fun wx hC => by go_simp; intro h; exfalso; rw [h] at hlt; simp at hlt)) ?_
          refine Rg.goods_cons (Rg.good_load hre rfl rfl rfl (fun wx hC => by exact loadI_row (cell_ex m0 hC) (cell_ex m1 hC) (cell_ex m2 hC))) ?_
          refine Rg.goods_cons (Rg.good_move hre rfl rfl rfl) ?_
          refine Rg.goods_cons (Rg.good_move hre rfl rfl rfl) ?_
          refine Rg.goods_cons (Rg.good_index hre rfl rfl rfl rfl (fun wx hC => by go_simp)) ?_
          refine Rg.goods_cons (Rg.good_load hre rfl rfl rfl (fun wx hC => by exact loadI_row (cell_ex n0 hC) (cell_ex n1 hC) (cell_ex n2 hC))) ?_
          refine Rg.goods_cons (Rg.good_call2 Try.func34 (by kernel_rfl) rfl rfl rfl (by rintro u u2 wx hC rfl rfl; exact ex_row (rless_is ⟨q.t, q.q, pq, q.c.length, cq⟩ ⟨r.t, r.q, pr, r.c.length, cr⟩ q r wx ⟨rfl, rfl⟩ ⟨rfl, rfl⟩ ls HLs.out) hC)) ?_
          refine Rg.goods_cons (Rg.good_bin hre rfl rfl rfl rfl (fun _ => rfl) (fun w => by cases ls <;> go_simp)) ?_
          refine Rg.goods_cons (Rg.good_pick false hre rfl rfl rfl rfl) ?_
          exact Rg.goods_nil
        case fin =>
          intro wx hx
          simp only [Rg.later, Act.put, List.setIfInBounds_toArray, List.set_cons_succ, List.set_cons_zero]
          have HXx : Hid (Ex wr wx) := HXG.out.trans hx
          have HBbx : Hid (Byt wx pb cb lb) := HBb.out.below HXx.out
          have HBgx : Hid (Byt wx pg cg R) := HBg.out.below hx
          obtain ⟨D, hD⟩ : ∃ D, lb ++ R = D := ⟨_, rfl⟩
          have HDD : Hid (lb ++ R = D) := hD
          have hDl : D.length ≤ 140737488351232 + 900 * (j + 1) := by rw [← hD, List.length_append]; omega
          clear hx hD
          go_wp2_with (first
            | (refine wpList_build_own rfl 164 rfl 0 [] rfl (by decide) (fun _ => by kernel_rfl) wx.heap.size (Nat.le_refl _) ?_; intro g164 w164 ho164 hx164)
            | (at_builtin; refine wpList_append_byt2 rfl (.tmp 164) (.tmp 165) rfl wx.heap.size _ [] rfl ho164 _ _ _ lb rfl rfl (HBbx.out.below hx164) (by simp; omega) (Ex.size hx164) ?_; intro v166 w166 ho166 hg166; have X166 : Ex wx w166 := step_below0 hx164 (Ex.size hx164) ho164 hg166; clear hg166; rw [List.nil_append] at ho166)
            | (at_builtin; refine wpList_append_byt2 rfl (.tmp 166) (.tmp 167) rfl wx.heap.size _ lb rfl ho166 _ _ _ R rfl rfl (HBgx.out.below X166) (by omega) (Ex.size X166) ?_; intro v168 w168 ho168 hg168; have X168 : Ex wx w168 := step_below0 X166 (Ex.size X166) ho166 hg168; clear hg168; rw [HDD.out] at ho168; obtain ⟨ad, cd, hvd, hbd⟩ := ho168.byt; subst hvd))
          have HV' : Hid (∃ pb cb lb', Value.slice ad D.length cd = .slice pb (List.length lb') cb ∧ Byt w168 pb cb lb' ∧ lb'.length ≤ 140737488351232 + 900 * (j + 1)) := (⟨ad, cd, D, rfl, hbd, hDl⟩ : ∃ pb cb lb', Value.slice ad D.length cd = .slice pb (List.length lb') cb ∧ Byt w168 pb cb lb' ∧ lb'.length ≤ 140737488351232 + 900 * (j + 1))
          have HX' : Hid (Ex wE w168) := HXr.out.trans (HXx.out.trans X168)
          clear ho164 hx164 ho166 X166 ho168 X168 hbd
          go_roundw
          case rel => exact ⟨j + 1, by omega, by go_num, HV', HX'⟩
          case measure => simp [intOf]; omega
      · obtain rfl : j = L.length := by omega
        have tj : decide ((L.length : Int) < (L.length : Int)) = false := by simp
        obtain ⟨⟨R2, k2, e2⟩, hdec⟩ : ∃ z, Rw.dec lb a4 = z := ⟨_, rfl⟩
        have HD : Hid (Rw.dec lb a4 = (R2, k2, e2)) := hdec
        clear hdec
        go_wp2_with fail
        refine (f_dec pb _ cb lb a4 _ rfl HBb.out (by omega) w4 R2 k2 e2 HD.out).mono ?_
        rintro e wd ⟨sz, cz, rfl, hbz, hxz⟩
        obtain ⟨we, hwe⟩ : ∃ we, wd.alloc (Obj.cells #[Value.int IntKind.i64 R2.t, Value.int IntKind.i64 R2.q, Value.slice sz R2.c.length cz] 28) = we := ⟨_, rfl⟩
        have hxe : Ex wd we := by rw [← hwe]; exact (Below.refl _ _).alloc (Nat.le_refl _) _
        have HXe : Hid (Ex wr we) := hxz.trans hxe
        have HLz : Hid (LAt we wd.heap.size ⟨R2.t, R2.q, sz, R2.c.length, cz⟩) := (by rw [← hwe]; exact LAt.new wd ⟨R2.t, R2.q, sz, R2.c.length, cz⟩ : LAt we wd.heap.size ⟨R2.t, R2.q, sz, R2.c.length, cz⟩)
        have HBz : Hid (RdC we sz cz R2.c) := RdW.below hbz hxe
        have HWe : Hid (wd.alloc (Obj.cells #[Value.int IntKind.i64 R2.t, Value.int IntKind.i64 R2.q, Value.slice sz R2.c.length cz] 28) = we) := hwe
        clear hbz hxz hxe hwe
        simp only [rvv, sv]
        go_wp2_with fail
        rw [HWe.out]
        refine (rrdec_is pb _ cb lb a4 _ rfl (HBb.out.below HXe.out) R2 k2 e2 HD.out).mono ?_
        rintro e wf ⟨sy, cy, rfl, hoy, hxf⟩
        obtain ⟨ay, cy', hvy, hry⟩ := hoy.rd cc_len
        simp only [Value.slice.injEq] at hvy
        obtain ⟨rfl, _, rfl⟩ := hvy
        obtain ⟨wg, hwg⟩ : ∃ wg, wf.alloc (Obj.cells #[Value.int IntKind.i64 R2.t, Value.int IntKind.i64 R2.q, Value.slice sy R2.c.length cy] 28) = wg := ⟨_, rfl⟩
        have hxg : Ex wf wg := by rw [← hwg]; exact (Below.refl _ _).alloc (Nat.le_refl _) _
        have HXg : Hid (Ex w wg) := HXwE.out.trans (HXr.out.trans (HXe.out.trans (hxf.trans hxg)))
        have HLzg : Hid (LAt wg wd.heap.size ⟨R2.t, R2.q, sz, R2.c.length, cz⟩) := HLz.out.below (hxf.trans hxg)
        have HLy : Hid (LAt wg wf.heap.size ⟨R2.t, R2.q, sy, R2.c.length, cy⟩) := (by rw [← hwg]; exact LAt.new wf ⟨R2.t, R2.q, sy, R2.c.length, cy⟩ : LAt wg wf.heap.size ⟨R2.t, R2.q, sy, R2.c.length, cy⟩)
        have HBzg : Hid (RdC wg sz cz R2.c) := RdW.below HBz.out (hxf.trans hxg)
        have HByg : Hid (RdC wg sy cy R2.c) := RdW.below hry hxg
        have HWg : Hid (wf.alloc (Obj.cells #[Value.int IntKind.i64 R2.t, Value.int IntKind.i64 R2.q, Value.slice sy R2.c.length cy] 28) = wg) := hwg
        obtain ⟨t0, t1, t2⟩ := HLzg.out.all
        simp only at t0 t1 t2
        have u0 : (wf.alloc (Obj.cells #[Value.int IntKind.i64 R2.t, Value.int IntKind.i64 R2.q, Value.slice sy R2.c.length cy] 28)).cell? ⟨wd.heap.size, 0, none⟩ = some (.int .i64 R2.t) := by rw [hwg]; exact t0
        have u1 : (wf.alloc (Obj.cells #[Value.int IntKind.i64 R2.t, Value.int IntKind.i64 R2.q, Value.slice sy R2.c.length cy] 28)).cell? ⟨wd.heap.size, 1, none⟩ = some (.int .i64 R2.q) := by rw [hwg]; exact t1
        have u2 : (wf.alloc (Obj.cells #[Value.int IntKind.i64 R2.t, Value.int IntKind.i64 R2.q, Value.slice sy R2.c.length cy] 28)).cell? ⟨wd.heap.size, 2, none⟩ = some (.slice sz R2.c.length cz) := by rw [hwg]; exact t2
        clear hoy hry hxf hxg hwg t0 t1 t2
        simp only [rvv, sv]
        go_wp2_with fail
        rw [HWg.out]
        clear u0 u1 u2
        refine (krow_is R2 R2 sz cz sy cy _ HBzg.out HByg.out true (by simp)).mono ?_
        rintro e wh ⟨rfl, hxh⟩
        have HXh : Hid (Ex w wh) := HXg.out.trans hxh
        clear hxh
        go_wp2_with fail
        refine (known_any _).mono ?_
        rintro e wi ⟨rfl, hxi⟩
        go_wp2_with fail
        go_ret
        exact ⟨rfl, HXh.out.trans hxi⟩
  · have tb : decide (14 < (l1.length : Int)) = false := by simp; omega
    have tb2 : decide (14 < l1.length) = false := by simp; omega
    have HKn : Hid (l1.length = K.length) := (by rw [← HKe.out]; simp; omega : l1.length = K.length)
    go_wp2_with fail
    refine (f_grow p1 l1.length c1 K a0 L.length d0 L _ HKn.out rfl (RdW.below HRK.out HX5.out) HRL.out HKok.out HLok.out (by omega) (by omega) C e0 k0 HG.out).mono ?_
    rintro e w6 ⟨pc, cC, rfl, hbC, hx6⟩
    have HX6 : Hid (Ex w5 w6) := hx6
    have HRC : Hid (RdK w6 pc cC C) := hbC
    clear hx6 hbC
    go_wp2_with fail
    refine (rgrow_is p1 l1.length c1 K a0 L.length d0 L _ HKn.out rfl (RdW.below HRK.out (HX5.out.trans HX6.out)) (HRL.out.below HX6.out) (fun c hc => (HKok.out c hc).1) HLok.out C e0 k0 HG.out).mono ?_
    rintro e w7 ⟨pd, cD, rfl, hbD, hx7⟩
    have HX7 : Hid (Ex w5 w7) := HX6.out.trans hx7
    have HRC7 : Hid (RdK w7 pc cC C) := RdW.below HRC.out hx7
    have HRD : Hid (RdK w7 pd cD C) := hbD
    clear hx7 hbD
    go_wp2_with fail
    refine (kcols_is pc _ cC C pd _ cD C _ rfl rfl HRC7.out HRD.out true (by simp)).mono ?_
    rintro e w8 ⟨rfl, hx8⟩
    have HX8 : Hid (Ex w5 w8) := HX7.out.trans hx8
    clear hx8
    go_wp2_with fail
    refine (f_cols p1 l1.length c1 K _ HKn.out (RdW.below HRK.out (HX5.out.trans HX8.out)) HKok.out oc HOc.out).mono ?_
    rintro e w9 ⟨rfl, hx9⟩
    have HX9 : Hid (Ex w5 w9) := HX8.out.trans hx9
    clear hx9
    go_wp2_with fail
    refine (rcols_is p1 l1.length c1 K _ HKn.out (RdW.below HRK.out (HX5.out.trans HX9.out)) (fun c hc => (HKok.out c hc).1) oc HOc.out).mono ?_
    rintro e wA ⟨rfl, hxA⟩
    have HXA : Hid (Ex w5 wA) := HX9.out.trans hxA
    clear hxA
    go_wp2_with fail
    refine (f_sort a0 _ d0 L _ rfl (HRL.out.below HXA.out) (by omega) (by rw [← HL.out]; exact Rw.short_c _ _)).mono ?_
    rintro e wB ⟨ps, cs', rfl, hrs, hxB⟩
    rw [HS.out] at hrs
    rw [HS.out]
    have HXB : Hid (Ex w5 wB) := HXA.out.trans hxB
    have HRs : Hid (RdR wB ps cs' S) := hrs
    clear hxB hrs
    go_wp2_with fail
    refine (rsort_is a0 _ d0 L _ rfl (HRL.out.below HXB.out) (by omega)).mono ?_
    rintro e wC ⟨pt, ct, rfl, hrt, hxC⟩
    rw [HS.out] at hrt
    rw [HS.out]
    have HXC : Hid (Ex w5 wC) := HXB.out.trans hxC
    have HRsC : Hid (RdR wC ps cs' S) := HRs.out.below hxC
    have HRt : Hid (RdR wC pt ct S) := hrt
    clear hxC hrt
    go_wp2_with fail
    refine (krows_is ps _ cs' S pt _ ct S _ rfl rfl HRsC.out HRt.out true (by simp)).mono ?_
    rintro e wD ⟨rfl, hxD⟩
    have HXD : Hid (Ex w5 wD) := HXC.out.trans hxD
    clear hxD
    go_wp2_with fail
    refine (f_name s2 _ HS2.out on HOn.out).mono ?_
    rintro e wE ⟨rfl, hxE⟩
    have HXE : Hid (Ex w5 wE) := HXD.out.trans hxE
    clear hxE
    go_wp2_with fail
    refine (rname_is s2 _ HS2.out on HOn.out).mono ?_
    rintro e wq ⟨rfl, hw⟩
    have hw' := hw.symm; clear hw; subst hw'
    have HRLE : Hid (RdR wE a0 d0 L) := HRL.out.below HXE.out
    have HXwE : Hid (Ex w wE) := HX5.out.trans HXE.out
    go_wp2_with fail
    go_loopw [3, 17] (fun vb vi wr => ∃ j : Nat, j ≤ L.length ∧ vi = .int .i64 j ∧ Hid (∃ pb cb lb, vb = .slice pb (List.length lb) cb ∧ Byt wr pb cb lb ∧ lb.length ≤ 140737488351232 + 900 * j) ∧ Hid (Ex wE wr)) (fun vb vi wr => L.length - (intOf vi).toNat)
    case atStart => exact ⟨0, by omega, rfl, (⟨p3, c3, l3, rfl, HB3.out.below HXwE.out, by omega⟩ : ∃ pb cb lb, Value.slice p3 l3.length c3 = .slice pb (List.length lb) cb ∧ Byt wE pb cb lb ∧ lb.length ≤ 140737488351232 + 900 * 0), Ex.refl _⟩
    case round =>
      obtain ⟨j, hj, rfl, HV, HXr⟩ := hrel
      obtain ⟨pb, cb, lb, hvb, hbb, hlb⟩ := HV.out
      subst hvb
      have HBb : Hid (Byt wr pb cb lb) := hbb
      have hcb := hbb.1
      have hcb2 := hbb.2.1
      unfold maxLen at hcb2
      clear HV hbb
      by_cases hlt : j < L.length
      · have tj : decide ((j : Int) < (L.length : Int)) = true := by simp; omega
        obtain ⟨r, hr⟩ : ∃ r, L[j] = r := ⟨_, rfl⟩
        obtain ⟨q, hq⟩ : ∃ q, L[0]'(by omega) = q := ⟨_, rfl⟩
        have HOk : Hid (RwOk r) := HLok.out r (by rw [← hr]; exact List.getElem_mem hlt)
        obtain ⟨bL, oL, pr, cr, hpL, g0, g1, g2, hrd⟩ := (HRLE.out.below HXr.out).at hlt
        subst hpL
        obtain ⟨b', o', pq, cq, hpL, z0, z1, z2, hqd⟩ := (HRLE.out.below HXr.out).at (i := 0) (by omega)
        simp only [Option.some.injEq, Addr.mk.injEq, and_true] at hpL
        obtain ⟨rfl, rfl⟩ := hpL
        rw [hr] at g0 g1 g2 hrd
        rw [hq] at z0 z1 z2 hqd
        simp only [Nat.zero_mul, Nat.add_zero] at z0 z1 z2
        have HRd : Hid (RdC wr pr cr r.c) := hrd
        have HQd : Hid (RdC wr pq cq q.c) := hqd
        obtain ⟨⟨R, y0⟩, henc⟩ : ∃ z, Rw.encE r = z := ⟨_, rfl⟩
        have HE : Hid (Rw.encE r = (R, y0)) := henc
        obtain ⟨hRl, hy0⟩ := Rw.encE_len henc
        obtain ⟨rr, hrr⟩ : ∃ x, Rw.right r = x := ⟨_, rfl⟩
        have HRr : Hid (Rw.right r = rr) := hrr
        obtain ⟨X, hX⟩ : ∃ x, Rw.cell r.c s2 = x := ⟨_, rfl⟩
        have HX : Hid (Rw.cell r.c s2 = X) := hX
        obtain ⟨ls, hls⟩ : ∃ x, Rw.less q r = x := ⟨_, rfl⟩
        have HLs : Hid (Rw.less q r = ls) := hls
        clear hr hq hrd hqd henc hrr hX hls
        go_wp2_with fail
        refine (f_enc ⟨r.t, r.q, pr, r.c.length, cr⟩ r _ ⟨rfl, rfl, rfl, HRd.out⟩ HOk.out R y0 HE.out).mono ?_
        rintro e wF ⟨pf, cf, rfl, hbf, hxF⟩
        have HXF : Hid (Ex wr wF) := hxF
        have HBf : Hid (Byt wF pf cf R) := hbf
        have g0' := cell_ex g0 hxF
        have g1' := cell_ex g1 hxF
        have g2' := cell_ex g2 hxF
        clear hxF hbf
        go_wp2_with fail
        refine (rrenc_own ⟨r.t, r.q, pr, r.c.length, cr⟩ r _ ⟨rfl, rfl, rfl, RdW.below HRd.out HXF.out⟩ HOk.out R y0 HE.out).mono ?_
        rintro e wG ⟨u, rfl, hou, hxG⟩
        obtain ⟨pg, cg, hvg, hbg⟩ := hou.byt
        subst hvg
        have HXG : Hid (Ex wr wG) := HXF.out.trans hxG
        have HBfG : Hid (Byt wG pf cf R) := HBf.out.below hxG
        have HBg : Hid (Byt wG pg cg R) := hbg
        have n0 := cell_ex g0 HXG.out
        have n1 := cell_ex g1 HXG.out
        have n2 := cell_ex g2 HXG.out
        have m0 := cell_ex z0 HXG.out
        have m1 := cell_ex z1 HXG.out
        have m2 := cell_ex z2 HXG.out
        have HRdG : Hid (RdC wG pr cr r.c) := RdW.below HRd.out HXG.out
        have HQdG : Hid (RdC wG pq cq q.c) := RdW.below HQd.out HXG.out
        clear hxG hou hbg g0 g1 g2 z0 z1 z2 g0' g1' g2'
        go_wp2_with fail
        have hre := Ex.refl
        refine Rg.wp_rows [.inl (Value.slice (some ⟨bL, oL, none⟩) L.length d0), .inl (Value.int .i64 j), .inl (Value.pointer (some ⟨bL, oL + j * 3, none⟩)), .inl (rvv ⟨r.t, r.q, pr, r.c.length, cr⟩), .inl (.bool rr), .inl (Value.slice (some ⟨bL, oL, none⟩) L.length d0), .inl (Value.int .i64 j), .inl (Value.pointer (some ⟨bL, oL + j * 3, none⟩)), .inl (rvv ⟨r.t, r.q, pr, r.c.length, cr⟩), .inl (.bool rr), .inl (.bool false), .inl (.bool false), .inl (Value.slice pf R.length cf), .inl (.string (str R)), .inl (Value.slice pg R.length cg), .inl (.string (str R)), .inl (.bool false), .inl (.bool false), .inl (.bool false), .inl (Value.int .i64 y0), .inl (Value.int .i64 y0), .inl (.bool false), .inl (.bool false), .inl (.bool false), .inl (Value.slice (some ⟨bL, oL, none⟩) L.length d0), .inl (Value.int .i64 j), .inl (Value.pointer (some ⟨bL, oL + j * 3, none⟩)), .inl (rvv ⟨r.t, r.q, pr, r.c.length, cr⟩), .inl (.string (str s2)), .inl (cv X), .inl (Value.slice (some ⟨bL, oL, none⟩) L.length d0), .inl (Value.int .i64 j), .inl (Value.pointer (some ⟨bL, oL + j * 3, none⟩)), .inl (rvv ⟨r.t, r.q, pr, r.c.length, cr⟩), .inl (.string (str s2)), .inl (cv X), .inl (.bool false), .inl (.bool false), .inl (.bool false), .inl (Value.slice (some ⟨bL, oL, none⟩) L.length d0), .inl (Value.pointer (some ⟨bL, oL, none⟩)), .inl (rvv ⟨q.t, q.q, pq, q.c.length, cq⟩), .inl (Value.slice (some ⟨bL, oL, none⟩) L.length d0), .inl (Value.int .i64 j), .inl (Value.pointer (some ⟨bL, oL + j * 3, none⟩)), .inl (rvv ⟨r.t, r.q, pr, r.c.length, cr⟩), .inl (.bool ls), .inl (Value.slice (some ⟨bL, oL, none⟩) L.length d0), .inl (Value.pointer (some ⟨bL, oL, none⟩)), .inl (rvv ⟨q.t, q.q, pq, q.c.length, cq⟩), .inl (Value.slice (some ⟨bL, oL, none⟩) L.length d0), .inl (Value.int .i64 j), .inl (Value.pointer (some ⟨bL, oL + j * 3, none⟩)), .inl (rvv ⟨r.t, r.q, pr, r.c.length, cr⟩), .inl (.bool ls), .inl (.bool false), .inl (.bool false)] (Ex wG) Ex 199 (by kernel_rfl) rfl (by kernel_rfl) ?st hre (Ex.drew _) ?goods ?fin
        case st => exact trivial
        case goods =>
          refine Rg.goods_cons (Rg.good_move hre rfl rfl rfl) ?_
          refine Rg.goods_cons (Rg.good_move hre rfl rfl rfl) ?_
          refine Rg.goods_cons (Rg.good_index hre rfl rfl rfl rfl (fun wx hC => by go_simp)) ?_
          refine Rg.goods_cons (Rg.good_load hre rfl rfl rfl (fun wx hC => by exact loadI_row (cell_ex n0 hC) (cell_ex n1 hC) (cell_ex n2 hC))) ?_
          refine Rg.goods_cons (Rg.good_call1 Try.func14 (by kernel_rfl) rfl rfl rfl (by rintro u wx hC rfl; exact ex_row (f_right ⟨r.t, r.q, pr, r.c.length, cr⟩ r wx ⟨rfl, rfl, rfl, RdW.below HRdG.out hC⟩ HOk.out rr HRr.out) hC)) ?_
          refine Rg.goods_cons (Rg.good_move hre rfl rfl rfl) ?_
          refine Rg.goods_cons (Rg.good_move hre rfl rfl rfl) ?_
          refine Rg.goods_cons (Rg.good_index hre rfl rfl rfl rfl (fun wx hC => by go_simp)) ?_
          refine Rg.goods_cons (Rg.good_load hre rfl rfl rfl (fun wx hC => by exact loadI_row (cell_ex n0 hC) (cell_ex n1 hC) (cell_ex n2 hC))) ?_
          refine Rg.goods_cons (Rg.good_call1 Try.func15 (by kernel_rfl) rfl rfl rfl (by rintro u wx hC rfl; exact ex_row (rright_is ⟨r.t, r.q, pr, r.c.length, cr⟩ r wx ⟨rfl, rfl, rfl, RdW.below HRdG.out hC⟩ (fun c hc => ⟨(HOk.out.2.2 c hc).1, (HOk.out.2.2 c hc).2.1⟩) rr HRr.out) hC)) ?_
          refine Rg.goods_cons (Rg.good_bin hre rfl rfl rfl rfl (fun _ => rfl) (fun w => by cases rr <;> go_simp)) ?_
          refine Rg.goods_cons (Rg.good_move hre rfl rfl rfl) ?_
          refine Rg.goods_cons (Rg.good_move hre rfl rfl rfl) ?_
          refine Rg.goods_cons (Rg.good_conv hre rfl rfl (by rintro u wx hC rfl; exact run_str (HBfG.out.below hC) rfl)) ?_
          refine Rg.goods_cons (Rg.good_move hre rfl rfl rfl) ?_
          refine Rg.goods_cons (Rg.good_conv hre rfl rfl (by rintro u wx hC rfl; exact run_str (HBg.out.below hC) rfl)) ?_
          refine Rg.goods_cons (Rg.good_bin hre rfl rfl rfl rfl (fun _ => rfl) (fun w => by go_simp)) ?_
          refine Rg.goods_cons (Rg.good_pick false hre rfl rfl rfl rfl) ?_
          refine Rg.goods_cons (Rg.good_move hre rfl rfl rfl) ?_
          refine Rg.goods_cons (Rg.good_move hre rfl rfl rfl) ?_
          refine Rg.goods_cons (Rg.good_move hre rfl rfl rfl) ?_
          refine Rg.goods_cons (Rg.good_bin hre rfl rfl rfl rfl (fun _ => rfl) (fun w => by go_simp)) ?_
          refine Rg.goods_cons (Rg.good_pick false hre rfl rfl rfl rfl) ?_
          refine Rg.goods_cons (Rg.good_move hre rfl rfl rfl) ?_
          refine Rg.goods_cons (Rg.good_move hre rfl rfl rfl) ?_
          refine Rg.goods_cons (Rg.good_move hre rfl rfl rfl) ?_
          refine Rg.goods_cons (Rg.good_index hre rfl rfl rfl rfl (fun wx hC => by go_simp)) ?_
          refine Rg.goods_cons (Rg.good_load hre rfl rfl rfl (fun wx hC => by exact loadI_row (cell_ex n0 hC) (cell_ex n1 hC) (cell_ex n2 hC))) ?_
          refine Rg.goods_cons (Rg.good_move hre rfl rfl rfl) ?_
          refine Rg.goods_cons (Rg.good_call2 Try.func22 (by kernel_rfl) rfl rfl rfl (by rintro u u2 wx hC rfl rfl; exact ex_row (f_cell ⟨r.t, r.q, pr, r.c.length, cr⟩ r s2 wx ⟨rfl, rfl, rfl, RdW.below HRdG.out hC⟩ HOk.out HS2.out X HX.out) hC)) ?_
          refine Rg.goods_cons (Rg.good_move hre rfl rfl rfl) ?_
          refine Rg.goods_cons (Rg.good_move hre rfl rfl rfl) ?_
          refine Rg.goods_cons (Rg.good_index hre rfl rfl rfl rfl (fun wx hC => by go_simp)) ?_
          refine Rg.goods_cons (Rg.good_load hre rfl rfl rfl (fun wx hC => by exact loadI_row (cell_ex n0 hC) (cell_ex n1 hC) (cell_ex n2 hC))) ?_
          refine Rg.goods_cons (Rg.good_move hre rfl rfl rfl) ?_
          refine Rg.goods_cons (Rg.good_call2 Try.func32 (by kernel_rfl) rfl rfl rfl (by rintro u u2 wx hC rfl rfl; exact ex_row (rcell_is ⟨r.t, r.q, pr, r.c.length, cr⟩ r s2 wx ⟨rfl, rfl, rfl, RdW.below HRdG.out hC⟩ X HX.out) hC)) ?_
          refine Rg.goods_cons (Rg.good_bin hre rfl rfl rfl rfl (fun wx => guard_cell _ _ _ X X wx) (fun wx => neq_cell X X false (by simp) wx)) ?_
          refine Rg.goods_cons (Rg.good_pick false hre rfl rfl rfl rfl) ?_
          refine Rg.goods_cons (Rg.good_move hre rfl rfl rfl) ?_
          refine Rg.goods_cons (Rg.good_move hre rfl rfl rfl) ?_
          refine Rg.goods_cons (Rg.good_index hre rfl rfl rfl rfl (fun wx hC => by go_simp; intro h; exfalso; rw [h] at hlt; simp at hlt)) ?_
          refine Rg.goods_cons (Rg.good_load hre rfl rfl rfl (fun wx hC => by exact loadI_row (cell_ex m0 hC) (cell_ex m1 hC) (cell_ex m2 hC))) ?_
          refine Rg.goods_cons (Rg.good_move hre rfl rfl rfl) ?_
          refine Rg.goods_cons (Rg.good_move hre rfl rfl rfl) ?_
          refine Rg.goods_cons (Rg.good_index hre rfl rfl rfl rfl (fun wx hC => by go_simp)) ?_
          refine Rg.goods_cons (Rg.good_load hre rfl rfl rfl (fun wx hC => by exact loadI_row (cell_ex n0 hC) (cell_ex n1 hC) (cell_ex n2 hC))) ?_
          refine Rg.goods_cons (Rg.good_call2 Try.func33 (by kernel_rfl) rfl rfl rfl (by rintro u u2 wx hC rfl rfl; exact ex_row (f_less ⟨q.t, q.q, pq, q.c.length, cq⟩ ⟨r.t, r.q, pr, r.c.length, cr⟩ q r wx ⟨rfl, rfl, rfl, RdW.below HQdG.out hC⟩ ⟨rfl, rfl, rfl, RdW.below HRdG.out hC⟩ ls HLs.out) hC)) ?_
          refine Rg.goods_cons (Rg.good_move hre rfl rfl rfl) ?_
          refine Rg.goods_cons (Rg.good_index hre rfl rfl rfl rfl (fun wx hC => by go_simp; intro h; exfalso; rw [h] at hlt; simp at hlt)) ?_
          refine Rg.goods_cons (Rg.good_load hre rfl rfl rfl (fun wx hC => by exact loadI_row (cell_ex m0 hC) (cell_ex m1 hC) (cell_ex m2 hC))) ?_
          refine Rg.goods_cons (Rg.good_move hre rfl rfl rfl) ?_
          refine Rg.goods_cons (Rg.good_move hre rfl rfl rfl) ?_
          refine Rg.goods_cons (Rg.good_index hre rfl rfl rfl rfl (fun wx hC => by go_simp)) ?_
          refine Rg.goods_cons (Rg.good_load hre rfl rfl rfl (fun wx hC => by exact loadI_row (cell_ex n0 hC) (cell_ex n1 hC) (cell_ex n2 hC))) ?_
          refine Rg.goods_cons (Rg.good_call2 Try.func34 (by kernel_rfl) rfl rfl rfl (by rintro u u2 wx hC rfl rfl; exact ex_row (rless_is ⟨q.t, q.q, pq, q.c.length, cq⟩ ⟨r.t, r.q, pr, r.c.length, cr⟩ q r wx ⟨rfl, rfl⟩ ⟨rfl, rfl⟩ ls HLs.out) hC)) ?_
          refine Rg.goods_cons (Rg.good_bin hre rfl rfl rfl rfl (fun _ => rfl) (fun w => by cases ls <;> go_simp)) ?_
          refine Rg.goods_cons (Rg.good_pick false hre rfl rfl rfl rfl) ?_
          exact Rg.goods_nil
        case fin =>
          intro wx hx
          simp only [Rg.later, Act.put, List.setIfInBounds_toArray, List.set_cons_succ, List.set_cons_zero]
          have HXx : Hid (Ex wr wx) := HXG.out.trans hx
          have HBbx : Hid (Byt wx pb cb lb) := HBb.out.below HXx.out
          have HBgx : Hid (Byt wx pg cg R) := HBg.out.below hx
          obtain ⟨D, hD⟩ : ∃ D, lb ++ R = D := ⟨_, rfl⟩
          have HDD : Hid (lb ++ R = D) := hD
          have hDl : D.length ≤ 140737488351232 + 900 * (j + 1) := by rw [← hD, List.length_append]; omega
          clear hx hD
          go_wp2_with (first
            | (refine wpList_build_own rfl 164 rfl 0 [] rfl (by decide) (fun _ => by kernel_rfl) wx.heap.size (Nat.le_refl _) ?_; intro g164 w164 ho164 hx164)
            | (at_builtin; refine wpList_append_byt2 rfl (.tmp 164) (.tmp 165) rfl wx.heap.size _ [] rfl ho164 _ _ _ lb rfl rfl (HBbx.out.below hx164) (by simp; omega) (Ex.size hx164) ?_; intro v166 w166 ho166 hg166; have X166 : Ex wx w166 := step_below0 hx164 (Ex.size hx164) ho164 hg166; clear hg166; rw [List.nil_append] at ho166)
            | (at_builtin; refine wpList_append_byt2 rfl (.tmp 166) (.tmp 167) rfl wx.heap.size _ lb rfl ho166 _ _ _ R rfl rfl (HBgx.out.below X166) (by omega) (Ex.size X166) ?_; intro v168 w168 ho168 hg168; have X168 : Ex wx w168 := step_below0 X166 (Ex.size X166) ho166 hg168; clear hg168; rw [HDD.out] at ho168; obtain ⟨ad, cd, hvd, hbd⟩ := ho168.byt; subst hvd))
          have HV' : Hid (∃ pb cb lb', Value.slice ad D.length cd = .slice pb (List.length lb') cb ∧ Byt w168 pb cb lb' ∧ lb'.length ≤ 140737488351232 + 900 * (j + 1)) := (⟨ad, cd, D, rfl, hbd, hDl⟩ : ∃ pb cb lb', Value.slice ad D.length cd = .slice pb (List.length lb') cb ∧ Byt w168 pb cb lb' ∧ lb'.length ≤ 140737488351232 + 900 * (j + 1))
          have HX' : Hid (Ex wE w168) := HXr.out.trans (HXx.out.trans X168)
          clear ho164 hx164 ho166 X166 ho168 X168 hbd
          go_roundw
          case rel => exact ⟨j + 1, by omega, by go_num, HV', HX'⟩
          case measure => simp [intOf]; omega
      · obtain rfl : j = L.length := by omega
        have tj : decide ((L.length : Int) < (L.length : Int)) = false := by simp
        obtain ⟨⟨R2, k2, e2⟩, hdec⟩ : ∃ z, Rw.dec lb a4 = z := ⟨_, rfl⟩
        have HD : Hid (Rw.dec lb a4 = (R2, k2, e2)) := hdec
        clear hdec
        go_wp2_with fail
        refine (f_dec pb _ cb lb a4 _ rfl HBb.out (by omega) w4 R2 k2 e2 HD.out).mono ?_
        rintro e wd ⟨sz, cz, rfl, hbz, hxz⟩
        obtain ⟨we, hwe⟩ : ∃ we, wd.alloc (Obj.cells #[Value.int IntKind.i64 R2.t, Value.int IntKind.i64 R2.q, Value.slice sz R2.c.length cz] 28) = we := ⟨_, rfl⟩
        have hxe : Ex wd we := by rw [← hwe]; exact (Below.refl _ _).alloc (Nat.le_refl _) _
        have HXe : Hid (Ex wr we) := hxz.trans hxe
        have HLz : Hid (LAt we wd.heap.size ⟨R2.t, R2.q, sz, R2.c.length, cz⟩) := (by rw [← hwe]; exact LAt.new wd ⟨R2.t, R2.q, sz, R2.c.length, cz⟩ : LAt we wd.heap.size ⟨R2.t, R2.q, sz, R2.c.length, cz⟩)
        have HBz : Hid (RdC we sz cz R2.c) := RdW.below hbz hxe
        have HWe : Hid (wd.alloc (Obj.cells #[Value.int IntKind.i64 R2.t, Value.int IntKind.i64 R2.q, Value.slice sz R2.c.length cz] 28) = we) := hwe
        clear hbz hxz hxe hwe
        simp only [rvv, sv]
        go_wp2_with fail
        rw [HWe.out]
        refine (rrdec_is pb _ cb lb a4 _ rfl (HBb.out.below HXe.out) R2 k2 e2 HD.out).mono ?_
        rintro e wf ⟨sy, cy, rfl, hoy, hxf⟩
        obtain ⟨ay, cy', hvy, hry⟩ := hoy.rd cc_len
        simp only [Value.slice.injEq] at hvy
        obtain ⟨rfl, _, rfl⟩ := hvy
        obtain ⟨wg, hwg⟩ : ∃ wg, wf.alloc (Obj.cells #[Value.int IntKind.i64 R2.t, Value.int IntKind.i64 R2.q, Value.slice sy R2.c.length cy] 28) = wg := ⟨_, rfl⟩
        have hxg : Ex wf wg := by rw [← hwg]; exact (Below.refl _ _).alloc (Nat.le_refl _) _
        have HXg : Hid (Ex w wg) := HXwE.out.trans (HXr.out.trans (HXe.out.trans (hxf.trans hxg)))
        have HLzg : Hid (LAt wg wd.heap.size ⟨R2.t, R2.q, sz, R2.c.length, cz⟩) := HLz.out.below (hxf.trans hxg)
        have HLy : Hid (LAt wg wf.heap.size ⟨R2.t, R2.q, sy, R2.c.length, cy⟩) := (by rw [← hwg]; exact LAt.new wf ⟨R2.t, R2.q, sy, R2.c.length, cy⟩ : LAt wg wf.heap.size ⟨R2.t, R2.q, sy, R2.c.length, cy⟩)
        have HBzg : Hid (RdC wg sz cz R2.c) := RdW.below HBz.out (hxf.trans hxg)
        have HByg : Hid (RdC wg sy cy R2.c) := RdW.below hry hxg
        have HWg : Hid (wf.alloc (Obj.cells #[Value.int IntKind.i64 R2.t, Value.int IntKind.i64 R2.q, Value.slice sy R2.c.length cy] 28) = wg) := hwg
        obtain ⟨t0, t1, t2⟩ := HLzg.out.all
        simp only at t0 t1 t2
        have u0 : (wf.alloc (Obj.cells #[Value.int IntKind.i64 R2.t, Value.int IntKind.i64 R2.q, Value.slice sy R2.c.length cy] 28)).cell? ⟨wd.heap.size, 0, none⟩ = some (.int .i64 R2.t) := by rw [hwg]; exact t0
        have u1 : (wf.alloc (Obj.cells #[Value.int IntKind.i64 R2.t, Value.int IntKind.i64 R2.q, Value.slice sy R2.c.length cy] 28)).cell? ⟨wd.heap.size, 1, none⟩ = some (.int .i64 R2.q) := by rw [hwg]; exact t1
        have u2 : (wf.alloc (Obj.cells #[Value.int IntKind.i64 R2.t, Value.int IntKind.i64 R2.q, Value.slice sy R2.c.length cy] 28)).cell? ⟨wd.heap.size, 2, none⟩ = some (.slice sz R2.c.length cz) := by rw [hwg]; exact t2
        clear hoy hry hxf hxg hwg t0 t1 t2
        simp only [rvv, sv]
        go_wp2_with fail
        rw [HWg.out]
        clear u0 u1 u2
        refine (krow_is R2 R2 sz cz sy cy _ HBzg.out HByg.out true (by simp)).mono ?_
        rintro e wh ⟨rfl, hxh⟩
        have HXh : Hid (Ex w wh) := HXg.out.trans hxh
        clear hxh
        go_wp2_with fail
        refine (known_any _).mono ?_
        rintro e wi ⟨rfl, hxi⟩
        go_wp2_with fail
        go_ret
        exact ⟨rfl, HXh.out.trans hxi⟩
end Go.Proofs.Ytghnbohplonhoaa.rowTells
