/-
  The walk of PruneTells.
-/
import Derived.Test.YtibnhjfeepdddaaM36
import Derived.Test.YtibnhjfeepdddaaM34
import Derived.Test.YtibnhjfeepdddaaM37
import Derived.Test.YtibnhjfeepdddaaM38
import Derived.Test.YtibnhjfeepdddaaM48
import Derived.Test.YtibnhjfeepdddaaM41
import Derived.Deep.CutBlock
namespace Go.Proofs.Ytibnhjfeepdddaa
open Go.RowKit
set_option linter.unusedVariables false
/-- A value is Stats that read so. -/
def IsSt (s : St) (v : Value) (w : World) : Prop := ∃ u, v = tvv u ∧ StOk w u s
theorem IsSt.stands (s : St) : ∀ v w w', IsSt s v w → Ex w w' → IsSt s v w' := by
  rintro v w w' ⟨u, rfl, h⟩ hx
  exact ⟨u, rfl, h.below hx⟩
theorem in_row (s : St) {wx w1 : World} (v : TV) (h : StOk wx v s) (h1 : s.zs.length ≤ 1000) (h2 : s.bs.length ≤ 1000) (hC : Ex w1 wx) : Calls Try.prog 12 #[tvv v] wx (fun e w' => ∃ u, e = .returned u ∧ Rg.Spec.ok (.inr (IsSt s)) u w' ∧ Ex wx w' ∧ Ex w1 w') :=
  (in_is v s wx h h1 h2).mono fun e w' ⟨u, h1, h2, h3⟩ => ⟨_, h1, ⟨u, rfl, h2⟩, h3, hC.trans h3⟩
end Go.Proofs.Ytibnhjfeepdddaa
namespace Go.Proofs.Ytibnhjfeepdddaa.pruneTells
open Go.RowKit
set_option linter.unusedVariables false
set_option linter.unusedSimpArgs false
set_option maxHeartbeats 16000000 in
set_option maxRecDepth 100000 in
theorem walk (v0 : PV) (p0 : Pr) (t1 : TV) (s1 : St) (a2 : Int) (w : World) (b0 : Pd.Lay (fun _ => True) p0 w v0) (m0 : Pd.Raw p0) (b1 : StOk w t1 s1) (m1 : StIn s1) (w2 : -9223372036854775808 ≤ a2 ∧ a2 ≤ 9223372036854775807) :
    Calls Try.prog 4 #[pvv v0, tvv t1, .int .i64 a2] w fun e w' => e = .returned (.bool true) ∧ Below w.heap.size w w' := by
  obtain ⟨vk, vcol, vn, vm, vs, vset, vkids⟩ := v0
  obtain ⟨tr, tl, th, ⟨za, zn, zc⟩, ⟨ba, bn, bc'⟩⟩ := t1
  have hzn : zn = s1.zs.length := b1.2.1.1
  have hbn : bn = s1.bs.length := b1.2.2.1
  subst hzn hbn
  obtain ⟨hb1, hb2⟩ := b1.2.2.2.bounds
  simp only at hb1 hb2
  unfold maxLen at hb2
  obtain ⟨W, hW⟩ : ∃ W, (w.alloc (pb ⟨vk, vcol, vn, vm, vs, vset, vkids⟩)).alloc (tb ⟨tr, tl, th, (za, s1.zs.length, zc), (ba, s1.bs.length, bc')⟩ 38) = W := ⟨_, rfl⟩
  have e1 : Ex w (w.alloc (pb ⟨vk, vcol, vn, vm, vs, vset, vkids⟩)) := (Below.refl _ _).alloc (Nat.le_refl _) _
  have hXW : Ex w W := by rw [← hW]; exact Below.alloc e1 (by simp) _
  have HXW : Hid (Ex w W) := hXW
  have HSZ : Hid (W.heap.size = w.heap.size + 1 + 1) := (by rw [← hW]; simp : W.heap.size = w.heap.size + 1 + 1)
  have HP : Hid (PAt W w.heap.size ⟨vk, vcol, vn, vm, vs, vset, vkids⟩) := (by rw [← hW]; exact (PAt.new w _).alloc _ : PAt W w.heap.size _)
  have HT : Hid (TAt W (w.heap.size + 1) ⟨tr, tl, th, (za, s1.zs.length, zc), (ba, s1.bs.length, bc')⟩ 38) := (by
    have h := TAt.new (w.alloc (pb ⟨vk, vcol, vn, vm, vs, vset, vkids⟩)) ⟨tr, tl, th, (za, s1.zs.length, zc), (ba, s1.bs.length, bc')⟩ 38
    have hs : (w.alloc (pb ⟨vk, vcol, vn, vm, vs, vset, vkids⟩)).heap.size = w.heap.size + 1 := by simp
    rw [hs] at h
    rw [← hW]; exact h : TAt W (w.heap.size + 1) _ 38)
  have HM0 : Hid (Pd.Raw p0) := m0
  have HB1 : Hid (StOk w ⟨tr, tl, th, (za, s1.zs.length, zc), (ba, s1.bs.length, bc')⟩ s1) := b1
  have HSF : Hid (StFine s1) := m1.fine
  have HC0 : Hid (Calls Try.prog 15 #[pvv ⟨vk, vcol, vn, vm, vs, vset, vkids⟩, .int .i64 (6 : Nat)] W fun e w' => ∃ u, e = .returned (pvv u) ∧ Pd.Lay (fun b => W.heap.size ≤ b) (Pd.cut p0 6) w' u ∧ Ex W w') := cut_is p0 _ W 6 (Pd.Lay.below _ b0 hXW) m0 (by omega)
  obtain ⟨p0', p1', p2', p3', p4', p5', p6'⟩ := HP.out.all
  simp only at p0' p1' p2' p3' p4' p5' p6'
  simp only [tb, sv] at hW
  clear e1 hXW b0 m0 b1 m1 w2
  unfold pvv tvv
  simp only [sv]
  go_enter Try.func4, Try.ntmps4
  go_wp2_with fail
  go_at_call 15
  refine Calls.mono HC0.out ?_
  rintro e w1 ⟨xP, rfl, hL1, hx1⟩
  have hP1 := HP.out.below hx1
  obtain ⟨w2, hw2⟩ : ∃ w2, pset w1 w.heap.size xP = w2 := ⟨_, rfl⟩
  have hg2 : w1.grownBy w2 (some w.heap.size) := by rw [← hw2]; exact grown_pset _ _ _
  have hX2 : Ex w w2 := Below.grown (HXW.out.trans hx1) hg2 (HXW.out.trans hx1).size (fun g hg => by simp at hg; omega)
  have HX2 : Hid (Ex w w2) := hX2
  have HP2 : Hid (PAt w2 w.heap.size xP) := (by rw [← hw2]; exact hP1.store xP : PAt w2 _ _)
  have HT2 : Hid (TAt w2 (w.heap.size + 1) ⟨tr, tl, th, (za, s1.zs.length, zc), (ba, s1.bs.length, bc')⟩ 38) := ((HT.out.below hx1).far hg2 (by simp) : TAt w2 _ _ _)
  have HL2 : Hid (Pd.Lay (fun _ => True) (Pd.cut p0 6) w2 xP) := (Pd.Lay.mono (fun _ _ => trivial) _ (Pd.Lay.far (row := some w.heap.size) (fun b hb e => by simp at e; have := HSZ.out; omega) _ hL1 hg2) : Pd.Lay _ _ w2 xP)
  have HS2 : Hid (StOk w2 ⟨tr, tl, th, (za, s1.zs.length, zc), (ba, s1.bs.length, bc')⟩ s1) := (HB1.out.below hX2 : StOk w2 _ _)
  obtain ⟨f0, f1, f2, f3, f4, f5, f6⟩ := hP1.fro
  obtain ⟨c0, c1, c2, c3, c4, c5, c6⟩ := hP1.all
  obtain ⟨k0, k1, k2, k3, k4, k5, k6⟩ := HP2.out.all
  simp only at c0 c1 c2 c3 c4 c5 c6
  obtain ⟨P, hPc⟩ : ∃ P, Pd.cut p0 6 = P := ⟨_, rfl⟩
  have HFP : Hid (Pd.Fine P) := (by rw [← hPc]; exact Pd.cut_fine _ HM0.out _ : Pd.Fine P)
  have hsz : Pd.size P ≤ 1000000000 := by rw [← hPc]; exact Nat.le_trans (Pd.cut_size p0 6) (by decide)
  have HSP : Hid (Pd.size P ≤ 1000000000) := hsz
  rw [hPc] at HL2
  obtain ⟨S, hS⟩ : ∃ S, Pd.size P = S := ⟨_, rfl⟩
  have HCs : Hid (Calls Try.prog 16 #[pvv xP] w2 fun e w' => e = .returned (.int .i64 (S : Int)) ∧ Ex w2 w') := (by rw [← hS]; exact rsize_is P xP w2 HL2.out hsz : Calls _ _ _ _ _)
  obtain ⟨y0, hy0⟩ : ∃ b, decide ((200 : Int) < (S : Int)) = b := ⟨_, rfl⟩
  obtain ⟨y1, hy1⟩ : ∃ b, decide ((10 : Int) < (s1.zs.length : Int)) = b := ⟨_, rfl⟩
  obtain ⟨y2, hy2⟩ : ∃ b, decide ((10 : Int) < (s1.bs.length : Int)) = b := ⟨_, rfl⟩
  have HY1 : Hid (decide ((10 : Int) < (s1.zs.length : Int)) = y1) := hy1
  have HY2 : Hid (decide ((10 : Int) < (s1.bs.length : Int)) = y2) := hy2
  obtain ⟨B, hB⟩ : ∃ B, (y0 || y1 || y2) = B := ⟨_, rfl⟩
  have HBE : Hid ((y0 || y1 || y2) = B) := hB
  clear hP1 hg2 hX2 hL1 hx1 HC0 p0' p1' p2' p3' p4' p5' p6' hW hPc hsz hS hB
  simp only [pvv, sv]
  go_upto_region 2 with fail
  clear f0 f1 f2 f3 f4 f5 f6 c0 c1 c2 c3 c4 c5 c6 hw2
  go_cut [24] (fun a wc => a = .bool B ∧ Hid (Ex w2 wc))
  case first =>
    go_wp2_with fail
    go_at_call 16
    refine Calls.mono HCs.out ?_
    rintro e wB ⟨rfl, hxB⟩
    have HXB : Hid (Ex w2 wB) := hxB
    obtain ⟨t0, t1, t2, t3, t4⟩ := (HT2.out.below hxB).all
    simp only at t0 t1 t2 t3 t4
    clear hxB HCs k0 k1 k2 k3 k4 k5 k6
    cases y0 with
    | true =>
      go_wp2_with fail
      go_meet
      exact ⟨by rw [← HBE.out]; rfl, HXB⟩
    | false =>
      cases y1 <;> (go_wp2_with fail; go_meet; exact ⟨by rw [← HBE.out]; rfl, HXB⟩)
  case rest =>
    obtain ⟨rfl, HXc⟩ := hcut
    have HXwc : Hid (Ex w wc) := (HX2.out.trans HXc.out : Ex w wc)
    clear k0 k1 k2 k3 k4 k5 k6
    cases B with
    | true =>
      go_wp2_with fail
      go_at_call 14
      refine (known_is wc).mono ?_
      rintro e wD ⟨rfl, hxD⟩
      have HXD : Hid (Ex w wD) := (HXwc.out.trans hxD : Ex w wD)
      clear hxD
      go_wp2_with fail
      go_ret
      exact ⟨rfl, HXD.out⟩
    | false =>
      have hbb : y1 = false ∧ y2 = false := by
        have h := HBE.out
        cases y0 <;> cases y1 <;> cases y2 <;> simp_all
      obtain ⟨rfl, rfl⟩ := hbb
      have HLZ : Hid (s1.zs.length ≤ 1000) := (by have h := of_decide_eq_false HY1.out; omega : s1.zs.length ≤ 1000)
      have HLB : Hid (s1.bs.length ≤ 1000) := (by have h := of_decide_eq_false HY2.out; omega : s1.bs.length ≤ 1000)
      have HPc : Hid (PAt wc w.heap.size xP) := HP2.out.below HXc.out
      have HTc : Hid (TAt wc (w.heap.size + 1) ⟨tr, tl, th, (za, s1.zs.length, zc), (ba, s1.bs.length, bc')⟩ 38) := HT2.out.below HXc.out
      have HSc : Hid (StOk wc ⟨tr, tl, th, (za, s1.zs.length, zc), (ba, s1.bs.length, bc')⟩ s1) := HS2.out.below HXc.out
      have HLc : Hid (Pd.Lay (fun _ => True) P wc xP) := Pd.Lay.below _ HL2.out HXc.out
      obtain ⟨t0, t1, t2, t3, t4⟩ := HTc.out.all
      simp only at t0 t1 t2 t3 t4
      go_wp2_with fail
      clear hy0 hy1 hy2
      go_loopw [7] (fun iv wr => ∃ i : Nat, i ≤ s1.bs.length ∧ iv = .int .i64 i ∧ wr = wc) (fun iv wr => s1.bs.length - (intOf iv).toNat)
      case atStart => exact ⟨0, by omega, rfl, rfl⟩
      case round =>
        obtain ⟨i, hi, rfl, hwr⟩ := hrel
        replace hwr := hwr.symm
        subst hwr
        by_cases hlt : i < s1.bs.length
        · have hti : (i : Int) < (s1.bs.length : Int) := by omega
          obtain ⟨b, off, pp, cp, rfl, e0, e1, e2, hPb⟩ := RdF.three HSc.out.2.2.2 hlt
          have hbb := hPb.1
          have hbb2 := hPb.2.1
          obtain ⟨⟨dn, dk, dB⟩, hd⟩ : ∃ d, s1.bs[i] = d := ⟨_, rfl⟩
          rw [hd] at e0 e1 e2 hbb
          simp only at e0 e1 e2 hbb
          unfold maxLen at hbb2
          obtain ⟨y3, hy3⟩ : ∃ b, decide ((8192 : Int) < (dB.length : Int)) = b := ⟨_, rfl⟩
          clear hd hPb
          cases y3 with
          | true =>
            go_wp2_with fail
            go_at_call 14
            refine (known_is _).mono ?_
            rintro e wD ⟨rfl, hxD⟩
            have HXD : Hid (Ex w wD) := (HXwc.out.trans hxD : Ex w wD)
            clear hxD
            go_wp2_with fail
            go_ret
            exact ⟨rfl, HXD.out⟩
          | false =>
            go_wp2_with fail
            go_roundw
            case rel => exact ⟨i + 1, by omega, by go_num, trivial⟩
            case measure => simp [intOf]; omega
        · have hti : ¬ (i : Int) < (s1.bs.length : Int) := by omega
          obtain ⟨j1, hj1⟩ : ∃ n, Pu.judge s1 (Pu.fg a2) P = n := ⟨_, rfl⟩
          obtain ⟨j2, hj2⟩ : ∃ n, Pu.judge s1 (Pu.fg 0) P = n := ⟨_, rfl⟩
          obtain ⟨j3, hj3⟩ : ∃ n, Pu.judge s1 (Pu.fg 15) P = n := ⟨_, rfl⟩
          have HJ1 : Hid (Pu.judge s1 (Pu.fg a2) P = j1) := hj1
          have HJ2 : Hid (Pu.judge s1 (Pu.fg 0) P = j2) := hj2
          have HJ3 : Hid (Pu.judge s1 (Pu.fg 15) P = j3) := hj3
          clear hj1 hj2 hj3
          go_wp2_with fail
          have hre := Ex.refl
          refine Rg.wp_rows [.inl (pvv xP), .inl (tvv ⟨tr, tl, th, (za, s1.zs.length, zc), (ba, s1.bs.length, bc')⟩), .inl (.int .i64 a2), .inl (.int .i64 (j1 : Int)), .inl (pvv xP), .inl (tvv ⟨tr, tl, th, (za, s1.zs.length, zc), (ba, s1.bs.length, bc')⟩), .inr (IsSt s1), .inl (.int .i64 a2), .inl (.int .i64 (j1 : Int)), .inl (.bool true), .inl (.bool true), .inl (pvv xP), .inl (tvv ⟨tr, tl, th, (za, s1.zs.length, zc), (ba, s1.bs.length, bc')⟩), .inl (.int .i64 (j2 : Int)), .inl (pvv xP), .inl (tvv ⟨tr, tl, th, (za, s1.zs.length, zc), (ba, s1.bs.length, bc')⟩), .inr (IsSt s1), .inl (.int .i64 (j2 : Int)), .inl (.bool true), .inl (.bool true), .inl (.bool true), .inl (pvv xP), .inl (tvv ⟨tr, tl, th, (za, s1.zs.length, zc), (ba, s1.bs.length, bc')⟩), .inl (.int .i64 (j3 : Int)), .inl (pvv xP), .inl (tvv ⟨tr, tl, th, (za, s1.zs.length, zc), (ba, s1.bs.length, bc')⟩), .inr (IsSt s1), .inl (.int .i64 (j3 : Int)), .inl (.bool true), .inl (.bool true), .inl (.bool true), .inl (.bool true), .inl (.bool true), .inl (.bool true)] (Ex wc) Ex 76 (by kernel_rfl) rfl (by kernel_rfl) ?st hre (Ex.drew _) ?goods ?fin
          case st => exact ⟨IsSt.stands _, IsSt.stands _, IsSt.stands _, trivial⟩
          case goods =>
            refine Rg.goods_cons (Rg.good_load hre rfl rfl rfl (fun wx hC => (HPc.out.below hC).loadI)) ?_
            refine Rg.goods_cons (Rg.good_load hre rfl rfl rfl (fun wx hC => loadI_stats38 (HTc.out.below hC))) ?_
            refine Rg.goods_cons (Rg.good_move hre rfl rfl rfl) ?_
            refine Rg.goods_cons (Rg.good_call3 Try.func10 (by kernel_rfl) rfl rfl rfl (by rintro v0 v1 v2 wx hC rfl rfl rfl; exact ex_rowP (pJudge_is s1 HSF.out _ HFP.out _ _ a2 wx (Pd.Lay.below _ HLc.out hC) (HSc.out.below hC) j1 HJ1.out) hC)) ?_
            refine Rg.goods_cons (Rg.good_load hre rfl rfl rfl (fun wx hC => (HPc.out.below hC).loadI)) ?_
            refine Rg.goods_cons (Rg.good_load hre rfl rfl rfl (fun wx hC => loadI_stats38 (HTc.out.below hC))) ?_
            refine Rg.goods_cons (Rg.good_call1 Try.func12 (by kernel_rfl) rfl rfl rfl (by rintro v0 wx hC rfl; exact in_row s1 _ (HSc.out.below hC) HLZ.out HLB.out hC)) ?_
            refine Rg.goods_cons (Rg.good_move hre rfl rfl rfl) ?_
            refine Rg.goods_cons (Rg.good_call3 Try.func11 (by kernel_rfl) rfl rfl rfl (by rintro v0 v1 v2 wx hC rfl ⟨u, rfl, hu⟩ rfl; exact ex_rowP (rJudge_is s1 HSF.out _ HFP.out HSP.out _ _ a2 wx (Pd.Lay.below _ HLc.out hC) hu j1 HJ1.out) hC)) ?_
            refine Rg.goods_cons (Rg.good_bin hre rfl rfl rfl rfl (fun _ => rfl) (fun w => by go_simp)) ?_
            refine Rg.goods_cons (Rg.good_move hre rfl rfl rfl) ?_
            refine Rg.goods_cons (Rg.good_load hre rfl rfl rfl (fun wx hC => (HPc.out.below hC).loadI)) ?_
            refine Rg.goods_cons (Rg.good_load hre rfl rfl rfl (fun wx hC => loadI_stats38 (HTc.out.below hC))) ?_
            refine Rg.goods_cons (Rg.good_call3 Try.func10 (by kernel_rfl) rfl rfl rfl (by rintro v0 v1 v2 wx hC rfl rfl rfl; exact ex_rowP (pJudge_is s1 HSF.out _ HFP.out _ _ 0 wx (Pd.Lay.below _ HLc.out hC) (HSc.out.below hC) j2 HJ2.out) hC)) ?_
            refine Rg.goods_cons (Rg.good_load hre rfl rfl rfl (fun wx hC => (HPc.out.below hC).loadI)) ?_
            refine Rg.goods_cons (Rg.good_load hre rfl rfl rfl (fun wx hC => loadI_stats38 (HTc.out.below hC))) ?_
            refine Rg.goods_cons (Rg.good_call1 Try.func12 (by kernel_rfl) rfl rfl rfl (by rintro v0 wx hC rfl; exact in_row s1 _ (HSc.out.below hC) HLZ.out HLB.out hC)) ?_
            refine Rg.goods_cons (Rg.good_call3 Try.func11 (by kernel_rfl) rfl rfl rfl (by rintro v0 v1 v2 wx hC rfl ⟨u, rfl, hu⟩ rfl; exact ex_rowP (rJudge_is s1 HSF.out _ HFP.out HSP.out _ _ 0 wx (Pd.Lay.below _ HLc.out hC) hu j2 HJ2.out) hC)) ?_
            refine Rg.goods_cons (Rg.good_bin hre rfl rfl rfl rfl (fun _ => rfl) (fun w => by go_simp)) ?_
            refine Rg.goods_cons (Rg.good_pick true hre rfl rfl rfl rfl) ?_
            refine Rg.goods_cons (Rg.good_move hre rfl rfl rfl) ?_
            refine Rg.goods_cons (Rg.good_load hre rfl rfl rfl (fun wx hC => (HPc.out.below hC).loadI)) ?_
            refine Rg.goods_cons (Rg.good_load hre rfl rfl rfl (fun wx hC => loadI_stats38 (HTc.out.below hC))) ?_
            refine Rg.goods_cons (Rg.good_call3 Try.func10 (by kernel_rfl) rfl rfl rfl (by rintro v0 v1 v2 wx hC rfl rfl rfl; exact ex_rowP (pJudge_is s1 HSF.out _ HFP.out _ _ 15 wx (Pd.Lay.below _ HLc.out hC) (HSc.out.below hC) j3 HJ3.out) hC)) ?_
            refine Rg.goods_cons (Rg.good_load hre rfl rfl rfl (fun wx hC => (HPc.out.below hC).loadI)) ?_
            refine Rg.goods_cons (Rg.good_load hre rfl rfl rfl (fun wx hC => loadI_stats38 (HTc.out.below hC))) ?_
            refine Rg.goods_cons (Rg.good_call1 Try.func12 (by kernel_rfl) rfl rfl rfl (by rintro v0 wx hC rfl; exact in_row s1 _ (HSc.out.below hC) HLZ.out HLB.out hC)) ?_
            refine Rg.goods_cons (Rg.good_call3 Try.func11 (by kernel_rfl) rfl rfl rfl (by rintro v0 v1 v2 wx hC rfl ⟨u, rfl, hu⟩ rfl; exact ex_rowP (rJudge_is s1 HSF.out _ HFP.out HSP.out _ _ 15 wx (Pd.Lay.below _ HLc.out hC) hu j3 HJ3.out) hC)) ?_
            refine Rg.goods_cons (Rg.good_bin hre rfl rfl rfl rfl (fun _ => rfl) (fun w => by go_simp)) ?_
            refine Rg.goods_cons (Rg.good_pick true hre rfl rfl rfl rfl) ?_
            refine Rg.goods_cons (Rg.good_move hre rfl rfl rfl) ?_
            refine Rg.goods_cons (Rg.good_call0 Try.func14 (by kernel_rfl) rfl rfl rfl (by intro wx hC; exact ex_rowP (known_is wx) hC)) ?_
            refine Rg.goods_cons (Rg.good_pick true hre rfl rfl rfl rfl) ?_
            refine Rg.goods_cons (Rg.good_assign hre rfl rfl rfl) ?_
            exact Rg.goods_nil
          case fin =>
            intro wx hx
            simp only [Rg.later, Act.put, List.setIfInBounds_toArray, List.set_cons_succ, List.set_cons_zero]
            intro vi1 hi1 vi2 hi2 vi3 hi3
            have HX9 : Hid (Ex w wx) := (HXwc.out.trans hx : Ex w wx)
            clear hx hi1 hi2 hi3
            go_wp2_with fail
            go_ret
            exact ⟨rfl, HX9.out⟩
end Go.Proofs.Ytibnhjfeepdddaa.pruneTells
