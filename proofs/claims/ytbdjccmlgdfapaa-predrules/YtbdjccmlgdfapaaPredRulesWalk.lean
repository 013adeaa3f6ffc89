/-
  The walk of PredRules.
-/
import Derived.Test.YtbdjccmlgdfapaaPrul
namespace Go.Proofs.Ytbdjccmlgdfapaa.predRules
open Go.RowKit
set_option linter.unusedVariables false
set_option linter.unusedSimpArgs false
set_option maxHeartbeats 16000000 in
set_option maxRecDepth 100000 in
theorem walk (v0 : PV) (p0 : Pr) (v1 : RV) (r1 : Rw) (a2 : Int) (s3 : List UInt8) (w : World) (b0 : Pd.Lay (fun _ => True) p0 w v0) (m0 : Pd.Raw p0) (b1 : RvOk w v1 r1) (m1 : RowOk r1) (n1 : r1.c.length ≤ 2932031007402) (z2 : -9223372036854775808 ≤ a2 ∧ a2 ≤ 9223372036854775807) (z3 : s3.length ≤ 140737488351232) :
    Calls Try.prog 5 #[pvv v0, rvv v1, .int .i64 a2, .string (str s3)] w fun e w' => e = .returned (.bool true) ∧ Below w.heap.size w w' := by
  obtain ⟨vk, vcol, vn, vm, vs, vset, vkids⟩ := v0
  obtain ⟨rt, rq, ra, rn, rc'⟩ := v1
  obtain ⟨W, hW⟩ : ∃ W, (w.alloc (pb ⟨vk, vcol, vn, vm, vs, vset, vkids⟩)).alloc (rb ⟨rt, rq, ra, rn, rc'⟩) = W := ⟨_, rfl⟩
  have e1 : Ex w (w.alloc (pb ⟨vk, vcol, vn, vm, vs, vset, vkids⟩)) := (Below.refl _ _).alloc (Nat.le_refl _) _
  have hXW : Ex w W := by rw [← hW]; exact Below.alloc e1 (by simp) _
  have HXW : Hid (Ex w W) := hXW
  have HSZ : Hid (W.heap.size = w.heap.size + 1 + 1) := (by rw [← hW]; simp : W.heap.size = w.heap.size + 1 + 1)
  have HP : Hid (PAt W w.heap.size ⟨vk, vcol, vn, vm, vs, vset, vkids⟩) := (by rw [← hW]; exact (PAt.new w _).alloc _ : PAt W w.heap.size _)
  have HR : Hid (LAt W (w.heap.size + 1) ⟨rt, rq, ra, rn, rc'⟩) := (by
    rw [← hW]
    exact LAt.newat (w.alloc (pb ⟨vk, vcol, vn, vm, vs, vset, vkids⟩)) (w.heap.size + 1) _ (by simp) : LAt W (w.heap.size + 1) _)
  have HB1 : Hid (RvOk w ⟨rt, rq, ra, rn, rc'⟩ r1) := b1
  have HOK : Hid (RwOk r1) := m1.rwOk
  have HF : Hid (Pd.Fine (Pd.cut p0 5)) := Pd.cut_fine p0 m0 5
  have HDP : Hid (Pd.fit (Pd.cut p0 5) 50 5000 = true) := (Pd.fit_of (Nat.le_trans (Pd.cut_deep p0 5) (by omega)) (Nat.le_trans (Pd.cut_size p0 5) (by decide)) : Pd.fit (Pd.cut p0 5) 50 5000 = true)
  have HC0 : Hid (Calls Try.prog 7 #[pvv ⟨vk, vcol, vn, vm, vs, vset, vkids⟩, .int .i64 (5 : Nat)] W fun e w' => ∃ u, e = .returned (pvv u) ∧ Pd.Lay (fun b => W.heap.size ≤ b) (Pd.cut p0 5) w' u ∧ Ex W w') := cut_is p0 _ W 5 (Pd.Lay.below _ b0 hXW) m0 (by omega)
  obtain ⟨P, hP⟩ : ∃ P, Pd.cut p0 5 = P := ⟨_, rfl⟩
  rw [hP] at HF HC0 HDP
  obtain ⟨T, hT⟩ : ∃ T, Rw.tame r1 3 = T := ⟨_, rfl⟩
  have HTM : Hid (Rw.tame r1 3 = T) := hT
  have HTS : Hid (∀ c ∈ T.c, c.s.length ≤ maxLen) := (by rw [← hT]; exact tame_short r1 3 : ∀ c ∈ T.c, c.s.length ≤ maxLen)
  have hTl : T.c.length ≤ 4 := by rw [← hT]; exact Rw.tms_len r1.c 4
  obtain ⟨o, ho⟩ : ∃ o, Pd.right P = o := ⟨_, rfl⟩
  have HO : Hid (Pd.right P = o) := ho
  obtain ⟨p0', p1', p2', p3', p4', p5', p6'⟩ := HP.out.all
  simp only at p0' p1' p2' p3' p4' p5' p6'
  clear e1 hXW b0 m0 b1 m1 n1 hP hT ho
  unfold pvv rvv
  simp only [sv]
  go_enter Try.func5, Try.ntmps5
  go_wp2_with fail
  go_at_call 7
  refine Calls.mono HC0.out ?_
  rintro e w1 ⟨xP, rfl, hL1, hx1⟩
  have hP1 := HP.out.below hx1
  obtain ⟨w2, hw2⟩ : ∃ w2, pset w1 w.heap.size xP = w2 := ⟨_, rfl⟩
  have hg2 : w1.grownBy w2 (some w.heap.size) := by rw [← hw2]; exact grown_pset _ _ _
  have hX2 : Ex w w2 := Below.grown (HXW.out.trans hx1) hg2 (HXW.out.trans hx1).size (fun g hg => by simp at hg; omega)
  have HX2 : Hid (Ex w w2) := hX2
  have HP2 : Hid (PAt w2 w.heap.size xP) := (by rw [← hw2]; exact hP1.store xP : PAt w2 _ _)
  have HR2 : Hid (LAt w2 (w.heap.size + 1) ⟨rt, rq, ra, rn, rc'⟩) := ((HR.out.below hx1).far hg2 (by simp) : LAt w2 _ _)
  have HL2 : Hid (Pd.Lay (fun _ => True) P w2 xP) := (Pd.Lay.mono (fun _ _ => trivial) _ (Pd.Lay.far (row := some w.heap.size) (fun b hb e => by simp at e; have := HSZ.out; omega) _ hL1 hg2) : Pd.Lay _ _ w2 xP)
  have HC2 : Hid (Calls Try.prog 14 #[rvv ⟨rt, rq, ra, rn, rc'⟩, .int .i64 3] w2 fun e w' => ∃ u : RV, e = .returned (rvv u) ∧ RvOk w' u (Rw.tame r1 3) ∧ Ex w2 w') := tame_is _ r1 3 w2 (HB1.out.below hX2) HOK.out
  obtain ⟨f0, f1, f2, f3, f4, f5, f6⟩ := hP1.fro
  obtain ⟨c0, c1, c2, c3, c4, c5, c6⟩ := hP1.all
  obtain ⟨d0, d1, d2⟩ := HR2.out.all
  simp only at c0 c1 c2 c3 c4 c5 c6 d0 d1 d2
  clear hP1 hg2 hX2 hL1 hx1 HC0 p0' p1' p2' p3' p4' p5' p6' hW
  simp only [pvv, sv]
  go_wp2_with fail
  go_at_call 14
  refine Calls.mono HC2.out ?_
  rintro e w5 ⟨⟨tt, tq, ta, tn, tc⟩, rfl, hT5, hx5⟩
  rw [HTM.out] at hT5
  have htt : tt = T.t := hT5.1
  have htn : tn = T.c.length := hT5.2.2.1
  subst htn
  obtain ⟨w6, hw6⟩ : ∃ w6, w5.alloc (rb ⟨tt, tq, ta, T.c.length, tc⟩) = w6 := ⟨_, rfl⟩
  have hX56 : Ex w5 w6 := by rw [← hw6]; exact (Below.refl _ _).alloc (Nat.le_refl _) _
  have hX26 : Ex w2 w6 := hx5.trans hX56
  have HX6 : Hid (Ex w w6) := (HX2.out.trans hX26 : Ex w w6)
  have HP6 : Hid (PAt w6 w.heap.size xP) := (HP2.out.below hX26 : PAt w6 _ _)
  have HT6 : Hid (LAt w6 w5.heap.size ⟨tt, tq, ta, T.c.length, tc⟩) := (by rw [← hw6]; exact LAt.new w5 _ : LAt w6 _ _)
  have HRT6 : Hid (RvOk w6 ⟨tt, tq, ta, T.c.length, tc⟩ T) := (hT5.below hX56 : RvOk w6 _ _)
  have HL6 : Hid (Pd.Lay (fun _ => True) P w6 xP) := (Pd.Lay.below _ HL2.out hX26 : Pd.Lay _ _ w6 xP)
  have HTT : Hid (tt = T.t) := htt
  have HCR : Hid (Calls Try.prog 8 #[pvv xP] w6 fun e w' => e = .returned (.bool o) ∧ Ex w6 w') := right_is P xP w6 HL6.out HF.out o HO.out
  obtain ⟨q0, q1, q2, q3, q4, q5, q6⟩ := HP6.out.all
  clear hX56 hX26 hx5 hT5 htt HC2 f0 f1 f2 f3 f4 f5 f6 c0 c1 c2 c3 c4 c5 c6 d0 d1 d2 HP2 HR2 HL2
  simp only [rvv, sv]
  go_wp2_with fail
  go_at_call 8
  refine Calls.mono HCR.out ?_
  rintro e w7 ⟨rfl, hx7⟩
  have HX7 : Hid (Ex w w7) := (HX6.out.trans hx7 : Ex w w7)
  have HP7 : Hid (PAt w7 w.heap.size xP) := (HP6.out.below hx7 : PAt w7 _ _)
  have HT7 : Hid (LAt w7 w5.heap.size ⟨tt, tq, ta, T.c.length, tc⟩) := (HT6.out.below hx7 : LAt w7 _ _)
  have HRT7 : Hid (RvOk w7 ⟨tt, tq, ta, T.c.length, tc⟩ T) := (HRT6.out.below hx7 : RvOk w7 _ _)
  have HL7 : Hid (Pd.Lay (fun _ => True) P w7 xP) := (Pd.Lay.below _ HL6.out hx7 : Pd.Lay _ _ w7 xP)
  obtain ⟨c0, c1, c2, c3, c4, c5, c6⟩ := HP7.out.all
  obtain ⟨d0, d1, d2⟩ := HT7.out.all
  simp only at d0 d1 d2
  clear hx7 HCR q0 q1 q2 q3 q4 q5 q6 HP6 HT6 HRT6 HL6
  go_upto_if 27 with fail
  go_cut [8] (fun v wc => v = .bool false ∧ Hid (Ex w wc))
  case first =>
    cases o with
    | false =>
      clear c0 c1 c2 c3 c4 c5 c6 d0 d1 d2
      go_wp2_with fail
      go_meet
      exact ⟨rfl, HX7⟩
    | true =>
      obtain ⟨C, hC⟩ : ∃ C, Pd.cols P = C := ⟨_, rfl⟩
      have HRI : Hid (Go.Proofs.Ytbdjccmlgdfapaa.T.Rise C) := (by rw [← hC]; exact Pd.rise_cols P : Go.Proofs.Ytbdjccmlgdfapaa.T.Rise C)
      have HCC : Hid (Calls Try.prog 18 #[pvv xP] w7 fun e w' => ∃ a cap, e = .returned (.slice a C.length cap) ∧ Rd st w' a cap C ∧ Ex w7 w') := (by rw [← hC]; exact cols_is P xP w7 HL7.out HDP.out : Calls _ _ _ _ _)
      have HCE : Hid (Pd.cols P = C) := hC
      clear hC
      go_wp2_with fail
      go_at_call 18
      refine Calls.mono HCC.out ?_
      rintro e w8 ⟨ca, cc', rfl, hrc, hx8⟩
      have HX78 : Hid (Ex w7 w8) := (hx8 : Ex w7 w8)
      have HC8 : Hid (Rd st w8 ca cc' C) := hrc
      have HT8 : Hid (LAt w8 w5.heap.size ⟨tt, tq, ta, T.c.length, tc⟩) := (HT7.out.below hx8 : LAt w8 _ _)
      have hc1 := hrc.1
      have hc2 := hrc.2.1
      unfold maxLen at hc2
      obtain ⟨e0, e1, e2⟩ := HT8.out.all
      simp only at e0 e1 e2
      clear hrc hx8 HCC c0 c1 c2 c3 c4 c5 c6 d0 d1 d2
      go_wp2_with fail
      go_at_call 19
      refine (at_is tt 9 none 0 0 [] w8 rfl (RdW.nil _) (by simp)).mono ?_
      rintro e w9 ⟨⟨ua, un, uc⟩, rfl, hun, hO9, hx9⟩
      simp only [List.length_nil] at hun
      subst hun
      obtain ⟨w10, hw10⟩ : ∃ w10, w9.alloc (rb ⟨tt, 9, ua, 0, uc⟩) = w10 := ⟨_, rfl⟩
      have hX10 : Ex w9 w10 := by rw [← hw10]; exact (Below.refl _ _).alloc (Nat.le_refl _) _
      have HX810 : Hid (Ex w8 w10) := (hx9.trans hX10 : Ex w8 w10)
      have HGU : Hid (w8.heap.size ≤ w9.heap.size) := (hx9.size : w8.heap.size ≤ w9.heap.size)
      have HU10 : Hid (UAt w8.heap.size w9.heap.size tt w10 (Rl.filt C (T.c.take 0)) ∧ w9.heap.size < w10.heap.size) := (by
        refine ⟨⟨ua, uc, ?_, ?_, ?_⟩, by rw [← hw10]; simp⟩
        · rw [← hw10]; exact LAt.new w9 _
        · exact OwnW.later hO9 hX10
        · intro q hq e
          have := (OwnW.lt hO9 q hq).2
          omega : UAt w8.heap.size w9.heap.size tt w10 (Rl.filt C (T.c.take 0)) ∧ w9.heap.size < w10.heap.size)
      clear hO9 hx9 hX10 e0 e1 e2
      simp only [rvv, sv]
      go_wp2_with fail
      go_loopw [12, 13] (fun iv jv wr => ∃ i : Nat, i ≤ T.c.length ∧ iv = .int .i64 i ∧ Hid (UAt w8.heap.size w9.heap.size tt wr (Rl.filt C (T.c.take i)) ∧ w9.heap.size < wr.heap.size) ∧ Hid (Ex w8 wr)) (fun iv jv wr => T.c.length - (intOf iv).toNat)
      case atStart => exact ⟨0, by omega, rfl, HU10, HX810⟩
      case round =>
        obtain ⟨i, hi, rfl, HU, HXr⟩ := hrel
        obtain ⟨e0, e1, e2⟩ := (HT8.out.below HXr.out).all
        simp only at e0 e1 e2
        by_cases hlt : i < T.c.length
        · have hti : (i : Int) < (T.c.length : Int) := by omega
          obtain ⟨x, hx⟩ : ∃ x, T.c[i] = x := ⟨_, rfl⟩
          have HXI : Hid (T.c[i]? = some x) := (by rw [List.getElem?_eq_getElem hlt, hx] : T.c[i]? = some x)
          obtain ⟨tb, toff, htp, _⟩ := (HRT7.out.2.2.2).four hlt
          simp only at htp
          subst htp
          have HX4 : Hid (∀ wx, Ex w8 wx → wx.cell? ⟨tb, toff + i * 4, none⟩ = some (.string (str x.col)) ∧ wx.cell? ⟨tb, toff + i * 4 + 1, none⟩ = some (.int .i64 x.k) ∧ wx.cell? ⟨tb, toff + i * 4 + 2, none⟩ = some (.int .i64 x.n) ∧ wx.cell? ⟨tb, toff + i * 4 + 3, none⟩ = some (.string (str x.s))) := (by
            intro wx hwx
            obtain ⟨b', o', e', h4⟩ := RdC.four (RdW.below HRT7.out.2.2.2 (HX78.out.trans hwx)) hlt
            simp only [Option.some.injEq, Addr.mk.injEq] at e'
            obtain ⟨rfl, rfl, _⟩ := e'
            rw [hx] at h4
            exact h4 : ∀ wx, Ex w8 wx → _)
          have HU0 : Hid (UAt w8.heap.size w9.heap.size tt wr (Rl.part C (T.c.take i) x 0) ∧ w9.heap.size < wr.heap.size) := (by rw [Rl.part_zero]; exact HU.out : UAt _ _ _ _ _ ∧ _)
          have HPL : Hid (∀ j, (Rl.part C (T.c.take i) x j).length ≤ 5) := (fun j => by have h := Rl.part_le C (T.c.take i) x j; rw [List.length_take] at h; omega : ∀ j, (Rl.part C (T.c.take i) x j).length ≤ 5)
          clear hx HU
          go_wp2_with fail
          go_loopw [13] (fun jv wr => ∃ j : Nat, j ≤ C.length ∧ jv = .int .i64 j ∧ Hid (UAt w8.heap.size w9.heap.size tt wr (Rl.part C (T.c.take i) x j) ∧ w9.heap.size < wr.heap.size) ∧ Hid (Ex w8 wr)) (fun jv wr => C.length - (intOf jv).toNat)
          case atStart => exact ⟨0, by omega, rfl, HU0, HXr⟩
          case round =>
            obtain ⟨j, hj, rfl, HUj, HXq⟩ := hrel
            by_cases hjt : j < C.length
            · have htj : (j : Int) < (C.length : Int) := by omega
              obtain ⟨y, hy⟩ : ∃ y, C[j] = y := ⟨_, rfl⟩
              have HYJ : Hid (C[j]? = some y) := (by rw [List.getElem?_eq_getElem hjt, hy] : C[j]? = some y)
              obtain ⟨cb, coff, hcp, _⟩ := HC8.out.at hjt
              subst hcp
              have HYC : Hid (∀ wx, Ex w8 wx → wx.cell? ⟨cb, coff + j, none⟩ = some (.string (str y))) := (by
                intro wx hwx
                obtain ⟨b', o', e', h4⟩ := (HC8.out.below hwx).at hjt
                simp only [Option.some.injEq, Addr.mk.injEq] at e'
                obtain ⟨rfl, rfl, _⟩ := e'
                rw [hy] at h4
                exact h4 : ∀ wx, Ex w8 wx → _)
              clear hy
              have hre := Ex.refl
              go_wp2_with fail
              by_cases hyx : y = x.col
              · subst hyx
                refine Rg.wp_rows [.inl (Value.slice (some ⟨cb, coff, none⟩) C.length cc'), .inl (Value.int .i64 j), .inl (Value.pointer (some ⟨cb, coff + j, none⟩)), .inl (Value.string (str x.col)), .inl (Value.pointer (some ⟨w5.heap.size, 2, none⟩)), .inl (Value.slice (some ⟨tb, toff, none⟩) T.c.length tc), .inl (Value.int .i64 i), .inl (Value.pointer (some ⟨tb, toff + i * 4, none⟩)), .inl (Value.pointer (some ⟨tb, toff + i * 4, none⟩)), .inl (Value.string (str x.col)), .inl (.bool true)] (Ex wr) Ex 143 (by kernel_rfl) rfl (by kernel_rfl) ?st hre (Ex.drew _) ?goods ?fin
                case st => exact trivial
                case goods =>
                  refine Rg.goods_cons (Rg.good_move hre rfl rfl rfl) ?_
                  refine Rg.goods_cons (Rg.good_move hre rfl rfl rfl) ?_
                  refine Rg.goods_cons (Rg.good_index hre rfl rfl rfl rfl (fun wx hC => by go_simp)) ?_
                  refine Rg.goods_cons (Rg.good_load hre rfl rfl rfl (fun wx hC => by have hz := HYC.out wx (HXq.out.trans hC); go_simp)) ?_
                  refine Rg.goods_cons (Rg.good_field hre rfl rfl rfl (fun wx hC => by go_simp)) ?_
                  refine Rg.goods_cons (Rg.good_load hre rfl rfl rfl (fun wx hC => by have hz := (HT8.out.below (HXq.out.trans hC)).all.2.2; simp only at hz; go_simp)) ?_
                  refine Rg.goods_cons (Rg.good_move hre rfl rfl rfl) ?_
                  refine Rg.goods_cons (Rg.good_index hre rfl rfl rfl rfl (fun wx hC => by go_simp)) ?_
                  refine Rg.goods_cons (Rg.good_field hre rfl rfl rfl (fun wx hC => by go_simp)) ?_
                  refine Rg.goods_cons (Rg.good_load hre rfl rfl rfl (fun wx hC => by have hz := (HX4.out wx (HXq.out.trans hC)).1; go_simp)) ?_
                  refine Rg.goods_cons (Rg.good_bin hre rfl rfl rfl rfl (fun _ => rfl) (fun w => by go_simp)) ?_
                  exact Rg.goods_nil
                case fin =>
                  intro wx hx
                  simp only [Rg.later, Act.put, List.setIfInBounds_toArray, List.set_cons_succ, List.set_cons_zero]
                  have HXx : Hid (Ex w8 wx) := (HXq.out.trans hx : Ex w8 wx)
                  have HUx : Hid (UAt w8.heap.size w9.heap.size tt wx (Rl.part C (T.c.take i) x j) ∧ w9.heap.size < wx.heap.size) := (by
                    obtain ⟨⟨a, c, h1, h2, h3⟩, h4⟩ := HUj.out
                    exact ⟨⟨a, c, h1.below hx, OwnW.later h2 hx, h3⟩, Nat.lt_of_lt_of_le h4 hx.size⟩ : UAt _ _ _ _ _ ∧ _)
                  clear hx
                  obtain ⟨L, hL⟩ : ∃ L, Rl.part C (T.c.take i) x j = L := ⟨_, rfl⟩
                  have HLN : Hid (Rl.part C (T.c.take i) x (j + 1) = L ++ [x]) := (by rw [← hL]; exact Rl.part_more C HRI.out (T.c.take i) x j HYJ.out : _ = L ++ [x])
                  have hLl : L.length ≤ 5 := by rw [← hL]; exact HPL.out j
                  obtain ⟨⟨ya, yc, hY1, hY2, hY3⟩, hY4⟩ := HUx.out
                  rw [hL] at hY1 hY2 hY3
                  have HY1 : Hid (LAt wx w9.heap.size ⟨tt, 9, ya, L.length, yc⟩) := hY1
                  have HY2 : Hid (OwnC wx w8.heap.size (.slice ya L.length yc) L) := hY2
                  have HY3 : Hid (∀ q, (Value.slice ya L.length yc).ownBlock = some q → q ≠ w9.heap.size) := hY3
                  have HY4 : Hid (w9.heap.size < wx.heap.size) := hY4
                  clear hY1 hY2 hY3 hY4 hL HUx
                  go_wp2_with fail
                  refine Rg.wp_rows_tail (List.take 8 _) (List.drop 8 _) (List.take_append_drop 8 _).symm [.inl (Value.pointer (some ⟨w9.heap.size, 2, none⟩)), .inl (Value.slice ya L.length yc), .inl (Value.pointer (some ⟨w5.heap.size, 2, none⟩)), .inl (Value.slice (some ⟨tb, toff, none⟩) T.c.length tc), .inl (Value.int .i64 i), .inl (Value.pointer (some ⟨tb, toff + i * 4, none⟩)), .inl (cv x), .inr (IsCs wx.heap.size [x])] (Ex wx) Ex 143 (by kernel_rfl) rfl (by kernel_rfl) (by kernel_rfl) (by kernel_rfl) (by decide) (by kernel_rfl) ?st hre (Ex.drew _) ?goods ?fin
                  case st => exact ⟨IsCs.stands _ _, trivial⟩
                  case goods =>
                    refine Rg.goods_cons (Rg.good_field hre rfl rfl rfl (fun wy hC => by go_simp)) ?_
                    refine Rg.goods_cons (Rg.good_load hre rfl rfl rfl (fun wy hC => by have hz := (HY1.out.below hC).all.2.2; simp only at hz; go_simp)) ?_
                    refine Rg.goods_cons (Rg.good_field hre rfl rfl rfl (fun wy hC => by go_simp)) ?_
                    refine Rg.goods_cons (Rg.good_load hre rfl rfl rfl (fun wy hC => by have hz := (HT8.out.below (HXx.out.trans hC)).all.2.2; simp only at hz; go_simp)) ?_
                    refine Rg.goods_cons (Rg.good_move hre rfl rfl rfl) ?_
                    refine Rg.goods_cons (Rg.good_index hre rfl rfl rfl rfl (fun wy hC => by go_simp)) ?_
                    refine Rg.goods_cons (Rg.good_load hre rfl rfl rfl (fun wy hC => by obtain ⟨k0, k1, k2, k3⟩ := HX4.out wy (HXx.out.trans hC); exact loadI_cell k0 k1 k2 k3)) ?_
                    refine Rg.goods_cons (Rg.good_cs1 rfl rfl rfl) ?_
                    exact Rg.goods_nil
                  case fin =>
                    intro wy hy
                    simp only [Rg.later, List.take_succ_cons, List.take_zero, List.drop_succ_cons, List.drop_zero, Act.put, List.setIfInBounds_toArray, List.set_cons_succ, List.set_cons_zero]
                    rintro v64 ⟨g64, rfl, hg64, hR64⟩
                    refine wpList_append_wide cc_len cc_one rfl (.tmp 58) (.tmp 64) 34 _ 48 rfl Try.underlying34 Try.info50 (by omega) rfl w8.heap.size (.slice ya L.length yc) L rfl (OwnW.later HY2.out hy) (some ⟨g64, 0, none⟩) _ _ [x] rfl rfl hR64 (by simp [maxLen]; omega) (by simp; omega) (Nat.le_trans HXx.out.size hy.size) ?_
                    intro v' w3 ho3 hg3 hat3
                    have hlt9 : w9.heap.size < wy.heap.size := Nat.lt_of_lt_of_le HY4.out hy.size
                    have hL3 : LAt w3 w9.heap.size ⟨tt, 9, ya, L.length, yc⟩ := (HY1.out.below hy).far hg3 (fun e => HY3.out _ e rfl)
                    have hX3 : Ex w8 w3 := Below.grown (HXx.out.trans hy) hg3 (HXx.out.trans hy).size (fun q hq => (OwnW.lt HY2.out q hq).1)
                    have hob3 : ∀ q, v'.ownBlock = some q → q ≠ w9.heap.size := by
                      intro q hq e
                      rcases hat3 with h | h
                      · rw [h] at hq; exact HY3.out q hq e
                      · rw [h] at hq; simp at hq; omega
                    obtain ⟨a3, c3, rfl, _⟩ := ho3.rd cc_len
                    have hlen : (L ++ [x]).length = L.length + 1 := by simp
                    rw [hlen] at ho3 hob3 ⊢
                    obtain ⟨w4, hw4⟩ : ∃ w4, w3.setCell ⟨w9.heap.size, 2, none⟩ (.slice a3 (L.length + 1) c3) = w4 := ⟨_, rfl⟩
                    have HU4 : Hid (UAt w8.heap.size w9.heap.size tt w4 (Rl.part C (T.c.take i) x (j + 1)) ∧ w9.heap.size < w4.heap.size) := (by
                      rw [HLN.out, ← hw4]
                      refine ⟨⟨a3, c3, ?_, ?_, ?_⟩, ?_⟩
                      · rw [hlen]; exact hL3.set rfl
                      · rw [hlen]; exact OwnW.apart ho3 (fun e => hob3 _ e rfl)
                      · rw [hlen]; exact hob3
                      · have := hg3.size
                        simp
                        omega : UAt _ _ _ _ _ ∧ _)
                    have HX4' : Hid (Ex w8 w4) := (by rw [← hw4]; exact Below.setCell hX3 HGU.out _ : Ex w8 w4)
                    have g6 := hL3.fro.2.2
                    have k6 := hL3.all.2.2
                    simp only at k6
                    clear ho3 hg3 hat3 hX3 hL3 hob3 hlen hR64 hy hlt9
                    go_wp2_with fail
                    go_roundw
                    case rel => exact ⟨j + 1, by omega, by go_num, HU4, HX4'⟩
                    case measure => simp [intOf]; omega
              · have hbb : (y == x.col) = false := beq_eq_false_iff_ne.2 hyx
                refine Rg.wp_rows [.inl (Value.slice (some ⟨cb, coff, none⟩) C.length cc'), .inl (Value.int .i64 j), .inl (Value.pointer (some ⟨cb, coff + j, none⟩)), .inl (Value.string (str y)), .inl (Value.pointer (some ⟨w5.heap.size, 2, none⟩)), .inl (Value.slice (some ⟨tb, toff, none⟩) T.c.length tc), .inl (Value.int .i64 i), .inl (Value.pointer (some ⟨tb, toff + i * 4, none⟩)), .inl (Value.pointer (some ⟨tb, toff + i * 4, none⟩)), .inl (Value.string (str x.col)), .inl (.bool false)] (Ex wr) Ex 143 (by kernel_rfl) rfl (by kernel_rfl) ?st hre (Ex.drew _) ?goods ?fin
                case st => exact trivial
                case goods =>
                  refine Rg.goods_cons (Rg.good_move hre rfl rfl rfl) ?_
                  refine Rg.goods_cons (Rg.good_move hre rfl rfl rfl) ?_
                  refine Rg.goods_cons (Rg.good_index hre rfl rfl rfl rfl (fun wx hC => by go_simp)) ?_
                  refine Rg.goods_cons (Rg.good_load hre rfl rfl rfl (fun wx hC => by have hz := HYC.out wx (HXq.out.trans hC); go_simp)) ?_
                  refine Rg.goods_cons (Rg.good_field hre rfl rfl rfl (fun wx hC => by go_simp)) ?_
                  refine Rg.goods_cons (Rg.good_load hre rfl rfl rfl (fun wx hC => by have hz := (HT8.out.below (HXq.out.trans hC)).all.2.2; simp only at hz; go_simp)) ?_
                  refine Rg.goods_cons (Rg.good_move hre rfl rfl rfl) ?_
                  refine Rg.goods_cons (Rg.good_index hre rfl rfl rfl rfl (fun wx hC => by go_simp)) ?_
                  refine Rg.goods_cons (Rg.good_field hre rfl rfl rfl (fun wx hC => by go_simp)) ?_
                  refine Rg.goods_cons (Rg.good_load hre rfl rfl rfl (fun wx hC => by have hz := (HX4.out wx (HXq.out.trans hC)).1; go_simp)) ?_
                  refine Rg.goods_cons (Rg.good_bin hre rfl rfl rfl rfl (fun _ => rfl) (fun w => by go_simp; rw [str_toList, str_toList]; exact hyx)) ?_
                  exact Rg.goods_nil
                case fin =>
                  intro wx hx
                  simp only [Rg.later, Act.put, List.setIfInBounds_toArray, List.set_cons_succ, List.set_cons_zero]
                  have HXx : Hid (Ex w8 wx) := (HXq.out.trans hx : Ex w8 wx)
                  have HUx : Hid (UAt w8.heap.size w9.heap.size tt wx (Rl.part C (T.c.take i) x j) ∧ w9.heap.size < wx.heap.size) := (by
                    obtain ⟨⟨a, c, h1, h2, h3⟩, h4⟩ := HUj.out
                    exact ⟨⟨a, c, h1.below hx, OwnW.later h2 hx, h3⟩, Nat.lt_of_lt_of_le h4 hx.size⟩ : UAt _ _ _ _ _ ∧ _)
                  clear hx
                  have HUn : Hid (UAt w8.heap.size w9.heap.size tt wx (Rl.part C (T.c.take i) x (j + 1)) ∧ w9.heap.size < wx.heap.size) := (by
                    rw [Rl.part_same C (T.c.take i) x j y HYJ.out hyx]; exact HUx.out : UAt _ _ _ _ _ ∧ _)
                  go_wp2_with fail
                  go_roundw
                  case rel => exact ⟨j + 1, by omega, by go_num, HUn, HXx⟩
                  case measure => simp [intOf]; omega
            · have htj : ¬ (j : Int) < (C.length : Int) := by omega
              have hjl : j = C.length := by omega
              have HUn : Hid (UAt w8.heap.size w9.heap.size tt wr (Rl.filt C (T.c.take (i + 1))) ∧ w9.heap.size < wr.heap.size) := (by
                have h := HUj.out
                rw [hjl, Rl.part_end C T.c i x HXI.out] at h
                exact h : UAt _ _ _ _ _ ∧ _)
              clear hjl
              go_wp2_with fail
              go_roundw
              case rel => exact ⟨i + 1, by omega, by go_num, HUn, HXq⟩
              case measure => simp [intOf]; omega
        · have hti : ¬ (i : Int) < (T.c.length : Int) := by omega
          have hil : T.c.take i = T.c := List.take_of_length_le (by omega)
          obtain ⟨⟨ya, yc, hY1, hY2, hY3⟩, hY4⟩ := HU.out
          rw [hil] at hY1 hY2
          obtain ⟨L, hL⟩ : ∃ L, Rl.filt C T.c = L := ⟨_, rfl⟩
          rw [hL] at hY1 hY2
          have HRU : Hid (RvOk wr ⟨tt, 9, ya, L.length, yc⟩ ⟨T.t, 9, L⟩) := (by
            obtain ⟨a9, c9, e9, h9⟩ := OwnW.rd cc_len hY2
            simp only [Value.slice.injEq] at e9
            obtain ⟨rfl, _, rfl⟩ := e9
            exact ⟨HTT.out, rfl, rfl, h9⟩ : RvOk _ _ _)
          have HUS : Hid (∀ c ∈ L, c.s.length ≤ maxLen) := (fun c hc => HTS.out c (by rw [← hL] at hc; exact (List.mem_filter.1 hc).1) : ∀ c ∈ L, c.s.length ≤ maxLen)
          obtain ⟨z, hz⟩ : ∃ z, Pd.ev T P = z := ⟨_, rfl⟩
          have HZT : Hid (Pd.ev T P = z) := hz
          have HZU : Hid (Pd.ev ⟨T.t, 9, L⟩ P = z) := (by have h := Rl.ev_filt (r := T) (q := 9) HO.out; rw [HCE.out, hL, hz] at h; exact h.symm : Pd.ev ⟨T.t, 9, L⟩ P = z)
          have HY1 : Hid (LAt wr w9.heap.size ⟨tt, 9, ya, L.length, yc⟩) := hY1
          have HPR : Hid (PAt wr w.heap.size xP) := (HP7.out.below (HX78.out.trans HXr.out) : PAt _ _ _)
          have HTR : Hid (LAt wr w5.heap.size ⟨tt, tq, ta, T.c.length, tc⟩) := (HT8.out.below HXr.out : LAt _ _ _)
          have HRTR : Hid (RvOk wr ⟨tt, tq, ta, T.c.length, tc⟩ T) := (HRT7.out.below (HX78.out.trans HXr.out) : RvOk _ _ _)
          have HLR : Hid (Pd.Lay (fun _ => True) P wr xP) := (Pd.Lay.below _ HL7.out (HX78.out.trans HXr.out) : Pd.Lay _ _ _ _)
          clear hY1 hY2 hY3 hY4 hil hL hz HU
          go_wp2_with fail
          have hre := Ex.refl
          refine Rg.wp_rows [.inl (pvv xP), .inl (rvv ⟨tt, tq, ta, T.c.length, tc⟩), .inl (.bool z), .inl (pvv xP), .inl (rvv ⟨tt, 9, ya, L.length, yc⟩), .inl (.bool z), .inl (.bool false)] (Ex wr) Ex 143 (by kernel_rfl) rfl (by kernel_rfl) ?st hre (Ex.drew _) ?goods ?fin
          case st => exact trivial
          case goods =>
            refine Rg.goods_cons (Rg.good_load hre rfl rfl rfl (fun wx hC => (HPR.out.below hC).loadI)) ?_
            refine Rg.goods_cons (Rg.good_load hre rfl rfl rfl (fun wx hC => rload (HTR.out.below hC))) ?_
            refine Rg.goods_cons (Rg.good_call2 Try.func15 (by kernel_rfl) rfl rfl rfl (by rintro y0 y1 wx hC rfl rfl; exact ex_rowP (ev_is P T xP _ wx (Pd.Lay.below _ HLR.out hC) HF.out (HRTR.out.below hC) HTS.out HDP.out _ HZT.out) hC)) ?_
            refine Rg.goods_cons (Rg.good_load hre rfl rfl rfl (fun wx hC => (HPR.out.below hC).loadI)) ?_
            refine Rg.goods_cons (Rg.good_load hre rfl rfl rfl (fun wx hC => rload (HY1.out.below hC))) ?_
            refine Rg.goods_cons (Rg.good_call2 Try.func15 (by kernel_rfl) rfl rfl rfl (by rintro y0 y1 wx hC rfl rfl; exact ex_rowP (ev_is P ⟨T.t, 9, L⟩ xP _ wx (Pd.Lay.below _ HLR.out hC) HF.out (HRU.out.below hC) HUS.out HDP.out _ HZU.out) hC)) ?_
            refine Rg.goods_cons (Rg.good_bin hre rfl rfl rfl rfl (fun _ => rfl) (fun w => by cases z <;> simp [go_sem])) ?_
            exact Rg.goods_nil
          case fin =>
            intro wx hx
            simp only [Rg.later, Act.put, List.setIfInBounds_toArray, List.set_cons_succ, List.set_cons_zero]
            have HXz : Hid (Ex w wx) := (HX7.out.trans (HX78.out.trans (HXr.out.trans hx)) : Ex w wx)
            clear hx
            go_wp2_with fail
            go_meet
            exact ⟨rfl, HXz⟩
  case rest =>
    obtain ⟨rfl, HXc⟩ := hcut
    have zs := str_size s3
    have zc := str_cut s3 20
    go_upto_if 76 with fail
    go_cut [3] (fun v wd => (∃ S : List UInt8, v = .string (str S) ∧ S.length ≤ 20) ∧ Hid (Ex w wd))
    case first =>
      by_cases hs : 20 < s3.length
      · have hsi : (20 : Int) < (s3.length : Int) := by omega
        go_wp2_with fail
        go_meet
        exact ⟨⟨s3.take 20, rfl, by simp; omega⟩, HXc⟩
      · have hsi : ¬ (20 : Int) < (s3.length : Int) := by omega
        go_wp2_with fail
        go_meet
        exact ⟨⟨s3, rfl, by omega⟩, HXc⟩
    case rest =>
      obtain ⟨⟨S, rfl, hS⟩, HXd⟩ := hcut
      clear zs zc
      go_wp2_with fail
      go_at_call 20
      refine (num_is [110] a2 _).mono ?_
      rintro e x1 ⟨rfl, hx1⟩
      have HY1 : Hid (Ex w x1) := (HXd.out.trans hx1 : Ex w x1)
      clear hx1
      go_wp2_with fail
      go_at_call 21
      refine (strc_is [115] S _).mono ?_
      rintro e x2 ⟨rfl, hx2⟩
      have HY2 : Hid (Ex w x2) := (HY1.out.trans hx2 : Ex w x2)
      clear hx2
      obtain ⟨x3, hx3⟩ : ∃ x3, x2.alloc (.cells #[.string (str [110]), .int .i64 1, .int .i64 a2, .string (str []), .string (str [115]), .int .i64 2, .int .i64 0, .string (str S)] 50) = x3 := ⟨_, rfl⟩
      have hX3 : Ex x2 x3 := by rw [← hx3]; exact (Below.refl _ _).alloc (Nat.le_refl _) _
      have HRC : Hid (RdC x3 (some ⟨x2.heap.size, 0, none⟩) 2 [⟨[110], 1, a2, []⟩, ⟨[115], 2, 0, S⟩]) := (by rw [← hx3]; exact RdW.laid (t := 50) cc_len x2 [⟨[110], 1, a2, []⟩, ⟨[115], 2, 0, S⟩] (by simp) : RdC _ _ _ _)
      have HY3 : Hid (Ex w x3) := (HY2.out.trans hX3 : Ex w x3)
      clear hX3
      simp only [cv]
      go_wp2_with fail
      go_at_call 19
      refine (at_is 5 0 (some ⟨x2.heap.size, 0, none⟩) 2 2 [⟨[110], 1, a2, []⟩, ⟨[115], 2, 0, S⟩] x3 rfl HRC.out (by simp)).mono ?_
      rintro e x4 ⟨⟨xa, xn, xc⟩, rfl, hxn, hO4, hx4⟩
      simp only [List.length_cons, List.length_nil, Nat.zero_add, Nat.reduceAdd] at hxn
      subst hxn
      obtain ⟨x5, hx5⟩ : ∃ x5, x4.alloc (rb ⟨5, 0, xa, 2, xc⟩) = x5 := ⟨_, rfl⟩
      have hX5 : Ex x4 x5 := by rw [← hx5]; exact (Below.refl _ _).alloc (Nat.le_refl _) _
      have HY5 : Hid (Ex w x5) := (HY3.out.trans (hx4.trans hX5) : Ex w x5)
      have HL5 : Hid (LAt x5 x4.heap.size ⟨5, 0, xa, 2, xc⟩) := (by rw [← hx5]; exact LAt.new x4 _ : LAt _ _ _)
      have HR5 : Hid (RvOk x5 ⟨5, 0, xa, 2, xc⟩ (Rl.row a2 S)) := (by
        obtain ⟨a9, c9, e9, h9⟩ := OwnW.rd cc_len hO4
        simp only [sv, Value.slice.injEq] at e9
        obtain ⟨rfl, _, rfl⟩ := e9
        exact ⟨rfl, rfl, rfl, RdW.below h9 hX5⟩ : RvOk _ _ _)
      have HXS : Hid (∀ c ∈ (Rl.row a2 S).c, c.s.length ≤ maxLen) := (by
        intro c hc
        simp only [Rl.row, List.mem_cons, List.not_mem_nil, or_false] at hc
        unfold maxLen
        rcases hc with rfl | rfl
        · simp
        · simp only; omega : ∀ c ∈ (Rl.row a2 S).c, c.s.length ≤ maxLen)
      have HW2 : Hid (-9223372036854775808 ≤ a2 ∧ a2 ≤ 9223372036854775807) := z2
      have hz2 := z2
      obtain ⟨l0, l1, l2⟩ := HL5.out.all
      simp only at l0 l1 l2
      clear hO4 hx4 hX5
      simp only [rvv, sv]
      have HZ0 : Hid (Ex x5 x5) := (Ex.refl x5 : Ex x5 x5)
      have HC1 : Hid (Calls Try.prog 15 #[pvv ⟨4, [110], 7, 0, [], (none, 0, 0), none, 0, 0⟩, rvv ⟨5, 0, xa, 2, xc⟩] x5 fun e w' => e = .returned (.bool (decide (a2 < 7))) ∧ Ex x5 w') := ev_is (Pr.mk' ⟨4, [110], 7, 0, [], []⟩ []) (Rl.row a2 S) _ _ x5 (lay_bare _ _ 4 [110] 7 0 []) (Pd.fine_bare ⟨by decide, by decide⟩ ⟨by decide, by decide⟩ ⟨by decide, by decide⟩ (by simp) (by simp)) (HR5.out.below HZ0.out) HXS.out (Pd.fit_bare _) _ (Rl.ev_less a2 S)
      go_wp2_with fail
      go_at_call 15
      refine Calls.mono HC1.out ?_
      rintro e x6 ⟨rfl, hh⟩
      have HZ1 : Hid (Ex x5 x6) := (HZ0.out.trans hh : Ex x5 x6)
      obtain ⟨l0', l1', l2'⟩ := (HL5.out.below HZ1.out).all
      simp only at l0' l1' l2'
      clear hh HC1 l0 l1 l2
      have l0 := l0'
      have l1 := l1'
      have l2 := l2'
      clear l0' l1' l2'
      have HC2 : Hid (Calls Try.prog 15 #[pvv ⟨5, [110], a2, 0, [], (none, 0, 0), none, 0, 0⟩, rvv ⟨5, 0, xa, 2, xc⟩] x6 fun e w' => e = .returned (.bool true) ∧ Ex x6 w') := ev_is (Pr.mk' ⟨5, [110], a2, 0, [], []⟩ []) (Rl.row a2 S) _ _ x6 (lay_bare _ _ 5 [110] a2 0 []) (Pd.fine_bare ⟨by decide, by decide⟩ HW2.out ⟨by decide, by decide⟩ (by simp) (by simp)) (HR5.out.below HZ1.out) HXS.out (Pd.fit_bare _) _ (Rl.ev_equal a2 S)
      go_wp2_with fail
      go_at_call 15
      refine Calls.mono HC2.out ?_
      rintro e x7 ⟨rfl, hh⟩
      have HZ2 : Hid (Ex x5 x7) := (HZ1.out.trans hh : Ex x5 x7)
      obtain ⟨l0', l1', l2'⟩ := (HL5.out.below HZ2.out).all
      simp only at l0' l1' l2'
      clear hh HC2 l0 l1 l2
      have l0 := l0'
      have l1 := l1'
      have l2 := l2'
      clear l0' l1' l2'
      obtain ⟨x8, hx8⟩ : ∃ x8, x7.alloc (.cells #[.string (str S)] 9) = x8 := ⟨_, rfl⟩
      have hX8 : Ex x7 x8 := by rw [← hx8]; exact (Below.refl _ _).alloc (Nat.le_refl _) _
      have HZ8 : Hid (Ex x5 x8) := (HZ2.out.trans hX8 : Ex x5 x8)
      have HLI : Hid (Pd.Lay (fun _ => True) (Pr.mk' ⟨7, [115], 0, 0, [], [S]⟩ []) x8 ⟨7, [115], 0, 0, [], (some ⟨x7.heap.size, 0, none⟩, 1, 1), none, 0, 0⟩) := (by
        rw [Pd.lay_mk]
        refine ⟨⟨⟨rfl, rfl, rfl, rfl, rfl⟩, rfl, ?_, fun _ _ _ _ => trivial⟩, rfl, fun h0 => by simp at h0, [], RdW.nil _, Pd.Lays.nil _ _⟩
        rw [← hx8]
        exact Rd.laid x7 9 [S] (by simp) : Pd.Lay _ _ _ _)
      obtain ⟨l0', l1', l2'⟩ := (HL5.out.below HZ8.out).all
      simp only at l0' l1' l2'
      clear hX8
      have HC3 : Hid (Calls Try.prog 15 #[pvv ⟨7, [115], 0, 0, [], (some ⟨x7.heap.size, 0, none⟩, 1, 1), none, 0, 0⟩, rvv ⟨5, 0, xa, 2, xc⟩] x8 fun e w' => e = .returned (.bool true) ∧ Ex x8 w') := ev_is (Pr.mk' ⟨7, [115], 0, 0, [], [S]⟩ []) (Rl.row a2 S) _ _ x8 HLI.out (by rw [Pd.fine_mk]; exact ⟨⟨(show In64 7 from ⟨by decide, by decide⟩), (show In64 0 from ⟨by decide, by decide⟩), (show In64 0 from ⟨by decide, by decide⟩), by simp, by simp, by simp, by simp; omega⟩, by simp, by simp⟩) (HR5.out.below HZ8.out) HXS.out (Pd.fit_bare _) _ (Rl.ev_in a2 S)
      go_wp2_with fail
      go_at_call 15
      refine Calls.mono HC3.out ?_
      rintro e x9 ⟨rfl, hh⟩
      have HZ3 : Hid (Ex x5 x9) := (HZ8.out.trans hh : Ex x5 x9)
      clear l0' l1' l2'
      obtain ⟨l0', l1', l2'⟩ := (HL5.out.below HZ3.out).all
      simp only at l0' l1' l2'
      clear hh HC3 l0 l1 l2
      have l0 := l0'
      have l1 := l1'
      have l2 := l2'
      clear l0' l1' l2'
      obtain ⟨K, hK⟩ : ∃ K : Nat, a2 % 8 = (K : Int) := ⟨(a2 % 8).toNat, by omega⟩
      have hK7 : K ≤ 7 := by omega
      have HK : Hid (bits .and .i64 a2 7 = (K : Int)) := (by rw [I.and7i a2 z2.1 z2.2, hK] : bits .and .i64 a2 7 = (K : Int))
      obtain ⟨r, hr⟩ : ∃ r, K % (S.length + 1) = r := ⟨_, rfl⟩
      have hrS : r ≤ S.length := by have := Nat.mod_lt K (show 0 < S.length + 1 by omega); omega
      have HRR : Hid (K % (S.length + 1) = r) := hr
      clear hK hr l0 l1 l2
      go_wp2_with fail
      have hre := Ex.refl
      refine Rg.wp_rows [.inl (Value.string (str S)), .inl (Value.int .i64 a2), .inl (Value.int .i64 (K : Int)), .inl (Value.string (str S)), .inl (Value.int .i64 (S.length : Int)), .inl (Value.int .i64 (r : Int)), .inl (Value.string (str (S.take r))), .inl (pvv ⟨8, [115], 0, 0, S.take r, (none, 0, 0), none, 0, 0⟩), .inl (rvv ⟨5, 0, xa, 2, xc⟩), .inl (.bool true), .inl (.bool true)] (Ex x9) Ex 143 (by kernel_rfl) rfl (by kernel_rfl) ?st hre (Ex.drew _) ?goods ?fin
      case st => exact trivial
      case goods =>
        refine Rg.goods_cons (Rg.good_move hre rfl rfl rfl) ?_
        refine Rg.goods_cons (Rg.good_move hre rfl rfl rfl) ?_
        refine Rg.goods_cons (Rg.good_bin hre rfl rfl rfl rfl (fun _ => rfl) (fun w => by have hk := HK.out; go_simp)) ?_
        refine Rg.goods_cons (Rg.good_move hre rfl rfl rfl) ?_
        refine Rg.goods_cons (Rg.good_len hre rfl rfl (by rintro u wx hC rfl; have hz := str_size S; go_simp)) ?_
        refine Rg.goods_cons (Rg.good_call3 Try.func22 (by kernel_rfl) rfl rfl rfl (by rintro y0 y1 y2 wx hC rfl rfl rfl; exact val_row (by have h := within_is K S.length wx (by omega) (by omega); rw [HRR.out] at h; exact h) hC)) ?_
        refine Rg.goods_cons (Rg.good_slice2 hre rfl rfl rfl (by rintro u wx hC rfl; exact ⟨_, run_cut9 S r wx hrS (by omega), rfl⟩)) ?_
        refine Rg.goods_cons (Rg.good_build8 rfl rfl rfl) ?_
        refine Rg.goods_cons (Rg.good_load hre rfl rfl rfl (fun wx hC => rload (HL5.out.below (HZ3.out.trans hC)))) ?_
        refine Rg.goods_cons (Rg.good_call2 Try.func15 (by kernel_rfl) rfl rfl rfl (by rintro y0 y1 wx hC rfl rfl; exact ex_rowP (ev_is (Pr.mk' ⟨8, [115], 0, 0, S.take r, []⟩ []) (Rl.row a2 S) _ _ wx (lay_bare _ _ 8 [115] 0 0 (S.take r)) (Pd.fine_bare ⟨by decide, by decide⟩ ⟨by decide, by decide⟩ ⟨by decide, by decide⟩ (by simp) (by simp; omega)) (HR5.out.below (HZ3.out.trans hC)) HXS.out (Pd.fit_bare _) _ (Rl.ev_prefix a2 S r)) hC)) ?_
        refine Rg.goods_cons (Rg.good_assign hre rfl rfl rfl) ?_
        exact Rg.goods_nil
      case fin =>
        intro x10 hx10
        simp only [Rg.later, Act.put, List.setIfInBounds_toArray, List.set_cons_succ, List.set_cons_zero]
        have HZ4 : Hid (Ex x5 x10) := (HZ3.out.trans hx10 : Ex x5 x10)
        obtain ⟨l0, l1, l2⟩ := (HL5.out.below HZ4.out).all
        simp only at l0 l1 l2
        clear hx10
        have HC5 : Hid (Calls Try.prog 15 #[pvv ⟨9, [109], 0, 0, [], (none, 0, 0), none, 0, 0⟩, rvv ⟨5, 0, xa, 2, xc⟩] x10 fun e w' => e = .returned (.bool true) ∧ Ex x10 w') := ev_is (Pr.mk' ⟨9, [109], 0, 0, [], []⟩ []) (Rl.row a2 S) _ _ x10 (lay_bare _ _ 9 [109] 0 0 []) (Pd.fine_bare ⟨by decide, by decide⟩ ⟨by decide, by decide⟩ ⟨by decide, by decide⟩ (by simp) (by simp)) (HR5.out.below HZ4.out) HXS.out (Pd.fit_bare _) _ (Rl.ev_null a2 S)
        go_wp2_with fail
        go_at_call 15
        refine Calls.mono HC5.out ?_
        rintro e x11 ⟨rfl, hh⟩
        have HZ5 : Hid (Ex x5 x11) := (HZ4.out.trans hh : Ex x5 x11)
        obtain ⟨l0', l1', l2'⟩ := (HL5.out.below HZ5.out).all
        simp only at l0' l1' l2'
        clear hh HC5 l0 l1 l2
        have l0 := l0'
        have l1 := l1'
        have l2 := l2'
        clear l0' l1' l2'
        have HC6 : Hid (Calls Try.prog 15 #[pvv ⟨10, [], 5, 5, [], (none, 0, 0), none, 0, 0⟩, rvv ⟨5, 0, xa, 2, xc⟩] x11 fun e w' => e = .returned (.bool true) ∧ Ex x11 w') := ev_is (Pr.mk' ⟨10, [], 5, 5, [], []⟩ []) (Rl.row a2 S) _ _ x11 (lay_bare _ _ 10 [] 5 5 []) (Pd.fine_bare ⟨by decide, by decide⟩ ⟨by decide, by decide⟩ ⟨by decide, by decide⟩ (by simp) (by simp)) (HR5.out.below HZ5.out) HXS.out (Pd.fit_bare _) _ (Rl.ev_time a2 S)
        go_wp2_with fail
        go_at_call 15
        refine Calls.mono HC6.out ?_
        rintro e x12 ⟨rfl, hh⟩
        have HZ6 : Hid (Ex x5 x12) := (HZ5.out.trans hh : Ex x5 x12)
        obtain ⟨l0', l1', l2'⟩ := (HL5.out.below HZ6.out).all
        simp only at l0' l1' l2'
        clear hh HC6 l0 l1 l2
        have l0 := l0'
        have l1 := l1'
        have l2 := l2'
        clear l0' l1' l2'
        have HC7 : Hid (Calls Try.prog 15 #[pvv ⟨6, [110], 0, 0, S, (none, 0, 0), none, 0, 0⟩, rvv ⟨5, 0, xa, 2, xc⟩] x12 fun e w' => e = .returned (.bool false) ∧ Ex x12 w') := ev_is (Pr.mk' ⟨6, [110], 0, 0, S, []⟩ []) (Rl.row a2 S) _ _ x12 (lay_bare _ _ 6 [110] 0 0 S) (Pd.fine_bare ⟨by decide, by decide⟩ ⟨by decide, by decide⟩ ⟨by decide, by decide⟩ (by simp) (by omega)) (HR5.out.below HZ6.out) HXS.out (Pd.fit_bare _) _ (Rl.ev_other a2 S)
        go_wp2_with fail
        go_at_call 15
        refine Calls.mono HC7.out ?_
        rintro e x13 ⟨rfl, hh⟩
        have HZ7 : Hid (Ex x5 x13) := (HZ6.out.trans hh : Ex x5 x13)
        obtain ⟨l0', l1', l2'⟩ := (HL5.out.below HZ7.out).all
        simp only at l0' l1' l2'
        clear hh HC7 l0 l1 l2
        have l0 := l0'
        have l1 := l1'
        have l2 := l2'
        clear l0' l1' l2'
        have HE : Hid (Ex w x13) := (HY5.out.trans HZ7.out : Ex w x13)
        clear l0 l1 l2
        by_cases h7 : a2 < 7
        · have hd7 : decide (a2 < 7) = true := decide_eq_true h7
          rw [hd7]
          go_wp2_with fail
          go_at_call 11
          refine Calls.mono (known_any x13) ?_
          rintro e x14 ⟨rfl, hh⟩
          have HE2 : Hid (Ex w x14) := (HE.out.trans hh : Ex w x14)
          clear hh
          go_wp2_with fail
          go_ret
          exact ⟨rfl, HE2.out⟩
        · have hd7 : decide (a2 < 7) = false := decide_eq_false h7
          rw [hd7]
          go_wp2_with fail
          go_at_call 11
          refine Calls.mono (known_any x13) ?_
          rintro e x14 ⟨rfl, hh⟩
          have HE2 : Hid (Ex w x14) := (HE.out.trans hh : Ex w x14)
          clear hh
          go_wp2_with fail
          go_ret
          exact ⟨rfl, HE2.out⟩
end Go.Proofs.Ytbdjccmlgdfapaa.predRules
