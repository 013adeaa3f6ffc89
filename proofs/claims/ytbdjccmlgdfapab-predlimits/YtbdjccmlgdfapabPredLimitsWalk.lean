/-
  The walk of PredLimits.
-/
import Derived.Test.YtbdjccmlgdfapabWithin
import Derived.Test.YtbdjccmlgdfapabLkn2
import Derived.Test.YtbdjccmlgdfapabLput
namespace Go.Proofs.Ytbdjccmlgdfapab.predLimits
open Go.RowKit
set_option linter.unusedVariables false
set_option linter.unusedSimpArgs false
abbrev nx : Pr := Pd.nullP [120]
theorem fine_nx : Pd.Fine nx := by
  unfold nx Pd.nullP
  rw [Pd.fine_mk]
  exact ⟨⟨⟨by decide, by decide⟩, ⟨by decide, by decide⟩, ⟨by decide, by decide⟩, by simp, by simp, by simp, by simp⟩, by simp, by simp⟩
theorem fine_ntN (n : Nat) : Pd.Fine (Pd.ntN n nx) := by
  induction n with
  | zero => exact fine_nx
  | succ n ih => exact Pd.fine_nt ih
theorem name_x : Rw.name [120] = true := by decide
theorem fine_wide (n : Nat) (hn : n ≤ 1000) : Pd.Fine (Pd.wide [120] n) := by
  refine Pd.fine_hk 2 ⟨by decide, by decide⟩ (by simp; omega) (fun x hx => ?_)
  rw [List.eq_of_mem_replicate hx]
  exact fine_nx
theorem size_at (p : Pr) (v : PV) (w : World) (h : Pd.Lay (fun _ => True) p w v) (n : Nat) (hn : Pd.sizeB p = n + 1) : Calls Try.prog 9 #[pvv v] w fun e w' => e = .returned (.int .i64 ((n : Int) + 1)) ∧ Ex w w' := by
  have h1 := size_is p v w h
  rw [hn] at h1
  exact h1
theorem sizeB_ntN (n : Nat) (hn : n ≤ 10) : Pd.sizeB (Pd.ntN n nx) = n + 1 := by
  unfold Pd.sizeB Pd.fit
  rw [Pd.deep_ntN, Pd.size_ntN, Pd.size_null, Pd.deep_null, if_pos (by simp; omega)]
  omega
theorem sizeB_wide (n : Nat) (hn : n ≤ 50) : Pd.sizeB (Pd.wide [120] n) = n + 1 := by
  unfold Pd.sizeB Pd.fit
  rw [Pd.size_wide, if_pos]
  have hd : Pd.deep (Pd.wide [120] n) ≤ 50 := by
    unfold Pd.wide
    rw [Pd.deep_mk]
    have : ((List.replicate n (Pd.nullP [120])).map Pd.deep).foldr max 0 ≤ 1 := Pd.foldr_le fun x hx => by
      obtain ⟨y, hy, rfl⟩ := List.mem_map.1 hx
      rw [List.eq_of_mem_replicate hy, Pd.deep_null]
      exact Nat.le_refl _
    omega
  simp [hd]; omega
set_option maxHeartbeats 16000000 in
set_option maxRecDepth 100000 in
theorem walk (a0 : Int) (a1 : Int) (w : World) (w0 : -9223372036854775808 ≤ a0 ∧ a0 ≤ 9223372036854775807) (w1 : -9223372036854775808 ≤ a1 ∧ a1 ≤ 9223372036854775807) :
    Calls Try.prog 3 #[.int .i64 a0, .int .i64 a1] w fun e w' => e = .returned (.bool true) ∧ Below w.heap.size w w' := by
  go_enter Try.func3, Try.ntmps3
  go_wp2_with fail
  go_at_call 4
  refine (within_any a0 10 _ w0.1 w0.2 (by omega) (by omega)).mono ?_
  rintro e wz ⟨D, hD, rfl, hwz⟩
  replace hwz := hwz.symm
  subst hwz
  go_wp2_with fail
  go_at_call 4
  refine (within_any a1 50 _ w1.1 w1.2 (by omega) (by omega)).mono ?_
  rintro e wz ⟨M, hM, rfl, hwz⟩
  replace hwz := hwz.symm
  subst hwz
  clear w0 w1
  have hD' : D ≤ 10 := by omega
  have hM' : M ≤ 50 := by omega
  go_wp2_with fail
  go_at_call 6
  refine Calls.mono (null_is [120] w) ?_
  rintro e w1 ⟨u, rfl, hu, hx1⟩
  have HU : Hid (Pd.Lay (fun b => w.heap.size ≤ b) nx w1 u) := hu
  have HX1 : Hid (Ex w w1) := hx1
  clear hu hx1
  go_wp2_with fail
  go_at_call 5
  refine Calls.mono (nots_is nx D u w1 HU.out (by omega)) ?_
  rintro e w2 ⟨v, rfl, hv, hx2⟩
  have HX2 : Hid (Ex w w2) := (HX1.out.trans hx2 : Ex w w2)
  obtain ⟨w3, hw3⟩ : ∃ w3, w2.alloc (pb v) = w3 := ⟨_, rfl⟩
  have hx3 : Ex w2 w3 := by rw [← hw3]; exact (Below.refl _ _).alloc (Nat.le_refl _) _
  have HX3 : Hid (Ex w w3) := (HX2.out.trans hx3 : Ex w w3)
  have HP3 : Hid (PAt w3 w2.heap.size v) := (by rw [← hw3]; exact PAt.new w2 v : PAt w3 w2.heap.size v)
  have HV3 : Hid (Pd.Lay (fun _ => True) (Pd.ntN D nx) w3 v) := (Pd.Lay.mono (fun _ _ => trivial) _ (Pd.Lay.below _ hv hx3) : Pd.Lay _ _ w3 v)
  obtain ⟨w4, hw4⟩ : ∃ w4, w3.alloc (pb ⟨2, [], 0, 0, [], (none, 0, 0), none, 0, 0⟩) = w4 := ⟨_, rfl⟩
  have HW4 : Hid (w3.alloc (.cells #[.int .i64 2, .string { data := #[] }, .int .i64 0, .int .i64 0, .string { data := #[] }, .slice none 0 0, .slice none 0 0] 26) = w4) := hw4
  have HX4 : Hid (Ex w3 w4) := (by rw [← hw4]; exact (Below.refl _ _).alloc (Nat.le_refl _) _ : Ex w3 w4)
  have HS4 : Hid (w4.heap.size = w3.heap.size + 1) := (by rw [← hw4]; simp : w4.heap.size = w3.heap.size + 1)
  have HK4 : Hid (KidsAt w3.heap.size (fun b => w3.heap.size + 1 ≤ b) ⟨2, [], 0, 0, [], (none, 0, 0), none, 0, 0⟩ w4.heap.size w4 0 (List.replicate 0 nx)) := (by
    rw [← hw4]
    exact ⟨(none, 0, 0), PAt.new w3 _, rfl, Pd.OwnQ.nil _ _ _⟩ : KidsAt _ _ _ _ _ _ _)
  clear hv hx2 hx3 hw4
  simp only [pvv, sv]
  go_wp2_with fail
  rw [HW4.out]
  go_loopw [7] (fun iv wr => ∃ i : Nat, i ≤ M ∧ iv = .int .i64 i ∧ Hid (KidsAt w3.heap.size (fun b => w3.heap.size + 1 ≤ b) ⟨2, [], 0, 0, [], (none, 0, 0), none, 0, 0⟩ w4.heap.size wr i (List.replicate i nx)) ∧ Hid (w4.heap.size ≤ wr.heap.size) ∧ Hid (Ex w3 wr)) (fun iv wr => M - (intOf iv).toNat)
  case atStart => exact ⟨0, by omega, rfl, HK4, (Nat.le_refl _ : w4.heap.size ≤ w4.heap.size), HX4⟩
  case round =>
    obtain ⟨i, hi, rfl, HKD, HSr, HXr⟩ := hrel
    obtain ⟨⟨ka, kn, kc⟩, hPr, hkn, hOr⟩ := HKD.out
    simp only at hkn
    subst hkn
    by_cases hlt : kn < M
    · have hti : (kn : Int) < (M : Int) := by omega
      have HPv1 : Hid (PAt wr w3.heap.size ⟨2, [], 0, 0, [], (none, 0, 0), ka, kn, kc⟩) := hPr
      have HO1 : Hid (Pd.OwnQ (fun b => w3.heap.size + 1 ≤ b) wr w4.heap.size (.slice ka kn kc) (List.replicate kn nx)) := hOr
      clear hPr hOr HKD
      go_wp2_with fail
      have hre := Ex.refl
      refine Rg.wp_rows_tail (List.take 4 _) (List.drop 4 _) (List.take_append_drop 4 _).symm [.inl (Value.pointer (some ⟨w3.heap.size, 6, none⟩)), .inl (Value.slice ka kn kc), .inr (Pd.IsP (fun b => wr.heap.size ≤ b) nx), .inr (Pd.IsPs wr.heap.size (fun b => wr.heap.size ≤ b) [nx])] (Ex wr) Ex 88 (by kernel_rfl) rfl (by kernel_rfl) (by kernel_rfl) (by kernel_rfl) (by decide) (by kernel_rfl) ?st hre (Ex.drew _) ?goods ?fin
      case st => exact ⟨Pd.IsP.stands _ _, Pd.IsPs.stands _ _ _, trivial⟩
      case goods =>
        refine Rg.goods_cons (Rg.good_field hre rfl rfl rfl (fun wx hC => by go_simp)) ?_
        refine Rg.goods_cons (Rg.good_load hre rfl rfl rfl (fun wx hC => by have hz := (HPv1.out.below hC).all.2.2.2.2.2.2; go_simp)) ?_
        refine Rg.goods_cons (Rg.good_call1 Try.func6 (by kernel_rfl) rfl rfl rfl (by rintro u0 wx hC rfl; exact pred_row (null_is [120] wx) hC)) ?_
        refine Rg.goods_cons (Rg.good_pred1 rfl rfl rfl) ?_
        exact Rg.goods_nil
      case fin =>
        intro wx hx
        simp only [Rg.later, List.take_succ_cons, List.take_zero, List.drop_succ_cons, List.drop_zero, Act.put, List.setIfInBounds_toArray, List.set_cons_succ, List.set_cons_zero]
        rintro v22 _ v23 ⟨g23, us, rfl, hg23, hR23, hL23⟩
        have hob : ∀ g, (Value.slice ka kn kc).ownBlock = some g → w4.heap.size ≤ g ∧ g < wr.heap.size := HO1.out.lt
        refine Pd.wpList_append_Q rfl (.tmp 26) (.tmp 28) rfl w4.heap.size (.slice ka kn kc) (List.replicate kn nx) rfl (HO1.out.later hx) (some ⟨g23, 0, none⟩) _ 1 us [nx] rfl rfl hR23 (hL23.mono fun b hb => ⟨fun e => by have := hob b e; omega, by have h1 := HS4.out; have h2 := HSr.out; omega⟩) (by simp; omega) (by have h2 := HSr.out; have := hx.size; omega) ?_
        intro v' w5 ho5 hg5 hat5
        have hX5 : Ex w3 w5 := Below.grown (HXr.out.trans hx) hg5 (HXr.out.trans hx).size (fun g hg => by have h1 := hob g hg; have h2 := HS4.out; omega)
        have hne : ∀ g, g < w4.heap.size → (Value.slice ka kn kc).ownBlock ≠ some g := fun g hg e => by have := hob g e; omega
        have hP5 : PAt w5 w3.heap.size ⟨2, [], 0, 0, [], (none, 0, 0), ka, kn, kc⟩ := (HPv1.out.below hx).far hg5 (hne _ (by have h2 := HS4.out; omega))
        have hob5 := ho5.lt
        obtain ⟨a5, c5', vs5, rfl, _, _⟩ := ho5.rd
        have hlen : (List.replicate kn nx ++ [nx]).length = kn + 1 := by simp
        rw [hlen] at ho5 hat5 hob5 ⊢
        obtain ⟨w6, hw6⟩ : ∃ w6, w5.setCell ⟨w3.heap.size, 6, none⟩ (.slice a5 (kn + 1) c5') = w6 := ⟨_, rfl⟩
        have HK6 : Hid (KidsAt w3.heap.size (fun b => w3.heap.size + 1 ≤ b) ⟨2, [], 0, 0, [], (none, 0, 0), none, 0, 0⟩ w4.heap.size w6 (kn + 1) (List.replicate (kn + 1) nx)) := (by
          rw [List.replicate_succ', ← hw6]
          exact ⟨(a5, kn + 1, c5'), hP5.set rfl, rfl, ho5.far (fun e => by have := (hob5 _ e).1; have h2 := HS4.out; omega) (by omega)⟩ : KidsAt _ _ _ _ _ _ _)
        have HX6 : Hid (Ex w3 w6) := (by rw [← hw6]; exact Below.setCell hX5 (Nat.le_refl _) _ : Ex w3 w6)
        have HS6 : Hid (w4.heap.size ≤ w6.heap.size) := (by have h1 := HSr.out; have h2 := hx.size; have h3 := hg5.size; rw [← hw6]; simp; omega : w4.heap.size ≤ w6.heap.size)
        have f6 := hP5.fro.2.2.2.2.2.2
        have c6 := hP5.all.2.2.2.2.2.2
        simp only at c6
        clear ho5 hg5 hat5 hX5 hne hP5 hob5 hob hlen hR23 hL23 hx
        go_wp2_with fail
        go_roundw
        case rel => exact ⟨kn + 1, by omega, by go_num, HK6, HS6, HX6⟩
        case measure => simp [intOf]; omega
    · have hti : ¬ (kn : Int) < (M : Int) := by omega
      obtain rfl : kn = M := by omega
      have HPq : Hid (PAt wr w3.heap.size ⟨2, [], 0, 0, [], (none, 0, 0), ka, kn, kc⟩) := hPr
      have HPp : Hid (PAt wr w2.heap.size v) := (HP3.out.below HXr.out : PAt wr _ _)
      have HVp : Hid (Pd.Lay (fun _ => True) (Pd.ntN D nx) wr v) := (Pd.Lay.below _ HV3.out HXr.out : Pd.Lay _ _ wr v)
      have HVq : Hid (Pd.Lay (fun _ => True) (Pd.wide [120] kn) wr ⟨2, [], 0, 0, [], (none, 0, 0), ka, kn, kc⟩) := (by
        obtain ⟨a3, c3, vs3, e, h1, h2⟩ := hOr.rd
        simp only [sv, Value.slice.injEq] at e
        obtain ⟨rfl, _, rfl⟩ := e
        unfold Pd.wide
        rw [Pd.lay_mk]
        exact ⟨⟨⟨rfl, rfl, rfl, rfl, rfl⟩, rfl, Rd.nil _, fun h0 => by simp at h0⟩, by simp, fun _ b off e => trivial, vs3, h1, h2.mono fun _ _ => trivial⟩ : Pd.Lay _ _ wr _)
      have HXw : Hid (Ex w wr) := (HX3.out.trans HXr.out : Ex w wr)
      clear hPr hOr HKD
      by_cases hd : D + 1 ≤ 6
      · by_cases hm : kn + 1 ≤ 40
        · have td : (D : Int) + 1 ≤ 6 := by omega
          have tm : (kn : Int) + 1 ≤ 40 := by omega
          have HRp : Hid (Pd.right (Pd.ntN D nx) = true) := (by rw [Pd.right_ntN name_x D (by omega)]; simp; omega : Pd.right (Pd.ntN D nx) = true)
          have HRq : Hid (Pd.right (Pd.wide [120] kn) = true) := (by rw [Pd.right_wide name_x kn]; simp; omega : Pd.right (Pd.wide [120] kn) = true)
          obtain ⟨Rp, hRp⟩ : ∃ R, Pd.encE (Pd.ntN D nx) = (R, 0) := ⟨_, by unfold Pd.encE; rw [HRp.out]; rfl⟩
          obtain ⟨Rq, hRq⟩ : ∃ R, Pd.encE (Pd.wide [120] kn) = (R, 0) := ⟨_, by unfold Pd.encE; rw [HRq.out]; rfl⟩
          have HRP : Hid (Pd.encE (Pd.ntN D nx) = (Rp, 0)) := hRp
          have HRQ : Hid (Pd.encE (Pd.wide [120] kn) = (Rq, 0)) := hRq
          clear hRp hRq hd hm
          obtain ⟨p0, p1, p2, p3, p4, p5, p6⟩ := HPp.out.all
          obtain ⟨q0, q1, q2, q3, q4, q5, q6⟩ := HPq.out.all
          simp only at q0 q1 q2 q3 q4 q5 q6
          go_wp2_with fail
          go_at_call 7
          refine Calls.mono (encode_is _ v wr HVp.out (fine_ntN D) Rp _ HRP.out) ?_
          rintro e y1 ⟨xa1, xc1, rfl, _, hx⟩
          have HXy1 : Hid (Ex w y1) := (HXw.out.trans hx : Ex w y1)
          have HPp1 : Hid (PAt y1 w2.heap.size v) := (HPp.out.below hx : PAt y1 _ _)
          have HPq1 : Hid (PAt y1 w3.heap.size ⟨2, [], 0, 0, [], (none, 0, 0), ka, kn, kc⟩) := (HPq.out.below hx : PAt y1 _ _)
          have HVp1 : Hid (Pd.Lay (fun _ => True) (Pd.ntN D nx) y1 v) := (Pd.Lay.below _ HVp.out hx : Pd.Lay _ _ y1 v)
          have HVq1 : Hid (Pd.Lay (fun _ => True) (Pd.wide [120] kn) y1 ⟨2, [], 0, 0, [], (none, 0, 0), ka, kn, kc⟩) := (Pd.Lay.below _ HVq.out hx : Pd.Lay _ _ y1 _)
          clear hx p0 p1 p2 p3 p4 p5 p6 q0 q1 q2 q3 q4 q5 q6
          obtain ⟨p0, p1, p2, p3, p4, p5, p6⟩ := HPp1.out.all
          obtain ⟨q0, q1, q2, q3, q4, q5, q6⟩ := HPq1.out.all
          simp only at q0 q1 q2 q3 q4 q5 q6
          go_wp2_with fail
          go_at_call 7
          refine Calls.mono (encode_is _ _ y1 HVq1.out (fine_wide kn (by omega)) Rq _ HRQ.out) ?_
          rintro e y2 ⟨xa2, xc2, rfl, _, hx⟩
          have HXy2 : Hid (Ex w y2) := (HXy1.out.trans hx : Ex w y2)
          have HPp2 : Hid (PAt y2 w2.heap.size v) := (HPp1.out.below hx : PAt y2 _ _)
          have HPq2 : Hid (PAt y2 w3.heap.size ⟨2, [], 0, 0, [], (none, 0, 0), ka, kn, kc⟩) := (HPq1.out.below hx : PAt y2 _ _)
          have HVp2 : Hid (Pd.Lay (fun _ => True) (Pd.ntN D nx) y2 v) := (Pd.Lay.below _ HVp1.out hx : Pd.Lay _ _ y2 v)
          have HVq2 : Hid (Pd.Lay (fun _ => True) (Pd.wide [120] kn) y2 ⟨2, [], 0, 0, [], (none, 0, 0), ka, kn, kc⟩) := (Pd.Lay.below _ HVq1.out hx : Pd.Lay _ _ y2 _)
          clear hx p0 p1 p2 p3 p4 p5 p6 q0 q1 q2 q3 q4 q5 q6
          obtain ⟨p0, p1, p2, p3, p4, p5, p6⟩ := HPp2.out.all
          obtain ⟨q0, q1, q2, q3, q4, q5, q6⟩ := HPq2.out.all
          simp only at q0 q1 q2 q3 q4 q5 q6
          go_wp2_with fail
          go_at_call 8
          refine Calls.mono (right_is _ v y2 HVp2.out (fine_ntN D) _ HRp.out) ?_
          rintro e y3 ⟨rfl, hx⟩
          have HXy3 : Hid (Ex w y3) := (HXy2.out.trans hx : Ex w y3)
          have HPp3 : Hid (PAt y3 w2.heap.size v) := (HPp2.out.below hx : PAt y3 _ _)
          have HPq3 : Hid (PAt y3 w3.heap.size ⟨2, [], 0, 0, [], (none, 0, 0), ka, kn, kc⟩) := (HPq2.out.below hx : PAt y3 _ _)
          have HVp3 : Hid (Pd.Lay (fun _ => True) (Pd.ntN D nx) y3 v) := (Pd.Lay.below _ HVp2.out hx : Pd.Lay _ _ y3 v)
          have HVq3 : Hid (Pd.Lay (fun _ => True) (Pd.wide [120] kn) y3 ⟨2, [], 0, 0, [], (none, 0, 0), ka, kn, kc⟩) := (Pd.Lay.below _ HVq2.out hx : Pd.Lay _ _ y3 _)
          clear hx p0 p1 p2 p3 p4 p5 p6 q0 q1 q2 q3 q4 q5 q6
          obtain ⟨p0, p1, p2, p3, p4, p5, p6⟩ := HPp3.out.all
          obtain ⟨q0, q1, q2, q3, q4, q5, q6⟩ := HPq3.out.all
          simp only at q0 q1 q2 q3 q4 q5 q6
          go_wp2_with fail
          go_at_call 8
          refine Calls.mono (right_is _ _ y3 HVq3.out (fine_wide kn (by omega)) _ HRq.out) ?_
          rintro e y4 ⟨rfl, hx⟩
          have HXy4 : Hid (Ex w y4) := (HXy3.out.trans hx : Ex w y4)
          have HPp4 : Hid (PAt y4 w2.heap.size v) := (HPp3.out.below hx : PAt y4 _ _)
          have HPq4 : Hid (PAt y4 w3.heap.size ⟨2, [], 0, 0, [], (none, 0, 0), ka, kn, kc⟩) := (HPq3.out.below hx : PAt y4 _ _)
          have HVp4 : Hid (Pd.Lay (fun _ => True) (Pd.ntN D nx) y4 v) := (Pd.Lay.below _ HVp3.out hx : Pd.Lay _ _ y4 v)
          have HVq4 : Hid (Pd.Lay (fun _ => True) (Pd.wide [120] kn) y4 ⟨2, [], 0, 0, [], (none, 0, 0), ka, kn, kc⟩) := (Pd.Lay.below _ HVq3.out hx : Pd.Lay _ _ y4 _)
          clear hx p0 p1 p2 p3 p4 p5 p6 q0 q1 q2 q3 q4 q5 q6
          obtain ⟨p0, p1, p2, p3, p4, p5, p6⟩ := HPp4.out.all
          obtain ⟨q0, q1, q2, q3, q4, q5, q6⟩ := HPq4.out.all
          simp only at q0 q1 q2 q3 q4 q5 q6
          go_wp2_with fail
          go_at_call 9
          refine Calls.mono (size_at _ v y4 HVp4.out _ (sizeB_ntN D (by omega))) ?_
          rintro e y5 ⟨rfl, hx⟩
          have HXy5 : Hid (Ex w y5) := (HXy4.out.trans hx : Ex w y5)
          have HPp5 : Hid (PAt y5 w2.heap.size v) := (HPp4.out.below hx : PAt y5 _ _)
          have HPq5 : Hid (PAt y5 w3.heap.size ⟨2, [], 0, 0, [], (none, 0, 0), ka, kn, kc⟩) := (HPq4.out.below hx : PAt y5 _ _)
          have HVp5 : Hid (Pd.Lay (fun _ => True) (Pd.ntN D nx) y5 v) := (Pd.Lay.below _ HVp4.out hx : Pd.Lay _ _ y5 v)
          have HVq5 : Hid (Pd.Lay (fun _ => True) (Pd.wide [120] kn) y5 ⟨2, [], 0, 0, [], (none, 0, 0), ka, kn, kc⟩) := (Pd.Lay.below _ HVq4.out hx : Pd.Lay _ _ y5 _)
          clear hx p0 p1 p2 p3 p4 p5 p6 q0 q1 q2 q3 q4 q5 q6
          obtain ⟨p0, p1, p2, p3, p4, p5, p6⟩ := HPp5.out.all
          obtain ⟨q0, q1, q2, q3, q4, q5, q6⟩ := HPq5.out.all
          simp only at q0 q1 q2 q3 q4 q5 q6
          go_wp2_with fail
          go_at_call 9
          refine Calls.mono (size_at _ _ y5 HVq5.out _ (sizeB_wide kn (by omega))) ?_
          rintro e y6 ⟨rfl, hx⟩
          have HXy6 : Hid (Ex w y6) := (HXy5.out.trans hx : Ex w y6)
          have HPp6 : Hid (PAt y6 w2.heap.size v) := (HPp5.out.below hx : PAt y6 _ _)
          have HPq6 : Hid (PAt y6 w3.heap.size ⟨2, [], 0, 0, [], (none, 0, 0), ka, kn, kc⟩) := (HPq5.out.below hx : PAt y6 _ _)
          have HVp6 : Hid (Pd.Lay (fun _ => True) (Pd.ntN D nx) y6 v) := (Pd.Lay.below _ HVp5.out hx : Pd.Lay _ _ y6 v)
          have HVq6 : Hid (Pd.Lay (fun _ => True) (Pd.wide [120] kn) y6 ⟨2, [], 0, 0, [], (none, 0, 0), ka, kn, kc⟩) := (Pd.Lay.below _ HVq5.out hx : Pd.Lay _ _ y6 _)
          clear hx p0 p1 p2 p3 p4 p5 p6 q0 q1 q2 q3 q4 q5 q6
          obtain ⟨p0, p1, p2, p3, p4, p5, p6⟩ := HPp6.out.all
          obtain ⟨q0, q1, q2, q3, q4, q5, q6⟩ := HPq6.out.all
          simp only at q0 q1 q2 q3 q4 q5 q6
          go_wp2_with fail
          go_at_call 10
          refine Calls.mono (known_any y6) ?_
          rintro e y7 ⟨rfl, hx⟩
          have HXy7 : Hid (Ex w y7) := (HXy6.out.trans hx : Ex w y7)
          clear hx
          go_wp2_with fail
          go_ret
          exact ⟨by first | rfl | simp, HXy7.out⟩
        · have td : (D : Int) + 1 ≤ 6 := by omega
          have tm : ¬ (kn : Int) + 1 ≤ 40 := by omega
          have tm2 : decide ((kn : Int) + 1 ≤ 40) = false := decide_eq_false tm
          have HRp : Hid (Pd.right (Pd.ntN D nx) = true) := (by rw [Pd.right_ntN name_x D (by omega)]; simp; omega : Pd.right (Pd.ntN D nx) = true)
          have HRq : Hid (Pd.right (Pd.wide [120] kn) = false) := (by rw [Pd.right_wide name_x kn]; simp; omega : Pd.right (Pd.wide [120] kn) = false)
          obtain ⟨Rp, hRp⟩ : ∃ R, Pd.encE (Pd.ntN D nx) = (R, 0) := ⟨_, by unfold Pd.encE; rw [HRp.out]; rfl⟩
          obtain ⟨Rq, hRq⟩ : ∃ R, Pd.encE (Pd.wide [120] kn) = (R, 12) := ⟨_, by unfold Pd.encE; rw [HRq.out]; rfl⟩
          have HRP : Hid (Pd.encE (Pd.ntN D nx) = (Rp, 0)) := hRp
          have HRQ : Hid (Pd.encE (Pd.wide [120] kn) = (Rq, 12)) := hRq
          clear hRp hRq hd hm
          obtain ⟨p0, p1, p2, p3, p4, p5, p6⟩ := HPp.out.all
          obtain ⟨q0, q1, q2, q3, q4, q5, q6⟩ := HPq.out.all
          simp only at q0 q1 q2 q3 q4 q5 q6
          go_wp2_with fail
          go_at_call 7
          refine Calls.mono (encode_is _ v wr HVp.out (fine_ntN D) Rp _ HRP.out) ?_
          rintro e y1 ⟨xa1, xc1, rfl, _, hx⟩
          have HXy1 : Hid (Ex w y1) := (HXw.out.trans hx : Ex w y1)
          have HPp1 : Hid (PAt y1 w2.heap.size v) := (HPp.out.below hx : PAt y1 _ _)
          have HPq1 : Hid (PAt y1 w3.heap.size ⟨2, [], 0, 0, [], (none, 0, 0), ka, kn, kc⟩) := (HPq.out.below hx : PAt y1 _ _)
          have HVp1 : Hid (Pd.Lay (fun _ => True) (Pd.ntN D nx) y1 v) := (Pd.Lay.below _ HVp.out hx : Pd.Lay _ _ y1 v)
          have HVq1 : Hid (Pd.Lay (fun _ => True) (Pd.wide [120] kn) y1 ⟨2, [], 0, 0, [], (none, 0, 0), ka, kn, kc⟩) := (Pd.Lay.below _ HVq.out hx : Pd.Lay _ _ y1 _)
          clear hx p0 p1 p2 p3 p4 p5 p6 q0 q1 q2 q3 q4 q5 q6
          obtain ⟨p0, p1, p2, p3, p4, p5, p6⟩ := HPp1.out.all
          obtain ⟨q0, q1, q2, q3, q4, q5, q6⟩ := HPq1.out.all
          simp only at q0 q1 q2 q3 q4 q5 q6
          go_wp2_with fail
          go_at_call 7
          refine Calls.mono (encode_is _ _ y1 HVq1.out (fine_wide kn (by omega)) Rq _ HRQ.out) ?_
          rintro e y2 ⟨xa2, xc2, rfl, _, hx⟩
          have HXy2 : Hid (Ex w y2) := (HXy1.out.trans hx : Ex w y2)
          have HPp2 : Hid (PAt y2 w2.heap.size v) := (HPp1.out.below hx : PAt y2 _ _)
          have HPq2 : Hid (PAt y2 w3.heap.size ⟨2, [], 0, 0, [], (none, 0, 0), ka, kn, kc⟩) := (HPq1.out.below hx : PAt y2 _ _)
          have HVp2 : Hid (Pd.Lay (fun _ => True) (Pd.ntN D nx) y2 v) := (Pd.Lay.below _ HVp1.out hx : Pd.Lay _ _ y2 v)
          have HVq2 : Hid (Pd.Lay (fun _ => True) (Pd.wide [120] kn) y2 ⟨2, [], 0, 0, [], (none, 0, 0), ka, kn, kc⟩) := (Pd.Lay.below _ HVq1.out hx : Pd.Lay _ _ y2 _)
          clear hx p0 p1 p2 p3 p4 p5 p6 q0 q1 q2 q3 q4 q5 q6
          obtain ⟨p0, p1, p2, p3, p4, p5, p6⟩ := HPp2.out.all
          obtain ⟨q0, q1, q2, q3, q4, q5, q6⟩ := HPq2.out.all
          simp only at q0 q1 q2 q3 q4 q5 q6
          go_wp2_with fail
          go_at_call 8
          refine Calls.mono (right_is _ v y2 HVp2.out (fine_ntN D) _ HRp.out) ?_
          rintro e y3 ⟨rfl, hx⟩
          have HXy3 : Hid (Ex w y3) := (HXy2.out.trans hx : Ex w y3)
          have HPp3 : Hid (PAt y3 w2.heap.size v) := (HPp2.out.below hx : PAt y3 _ _)
          have HPq3 : Hid (PAt y3 w3.heap.size ⟨2, [], 0, 0, [], (none, 0, 0), ka, kn, kc⟩) := (HPq2.out.below hx : PAt y3 _ _)
          have HVp3 : Hid (Pd.Lay (fun _ => True) (Pd.ntN D nx) y3 v) := (Pd.Lay.below _ HVp2.out hx : Pd.Lay _ _ y3 v)
          have HVq3 : Hid (Pd.Lay (fun _ => True) (Pd.wide [120] kn) y3 ⟨2, [], 0, 0, [], (none, 0, 0), ka, kn, kc⟩) := (Pd.Lay.below _ HVq2.out hx : Pd.Lay _ _ y3 _)
          clear hx p0 p1 p2 p3 p4 p5 p6 q0 q1 q2 q3 q4 q5 q6
          obtain ⟨p0, p1, p2, p3, p4, p5, p6⟩ := HPp3.out.all
          obtain ⟨q0, q1, q2, q3, q4, q5, q6⟩ := HPq3.out.all
          simp only at q0 q1 q2 q3 q4 q5 q6
          go_wp2_with fail
          go_at_call 8
          refine Calls.mono (right_is _ _ y3 HVq3.out (fine_wide kn (by omega)) _ HRq.out) ?_
          rintro e y4 ⟨rfl, hx⟩
          have HXy4 : Hid (Ex w y4) := (HXy3.out.trans hx : Ex w y4)
          have HPp4 : Hid (PAt y4 w2.heap.size v) := (HPp3.out.below hx : PAt y4 _ _)
          have HPq4 : Hid (PAt y4 w3.heap.size ⟨2, [], 0, 0, [], (none, 0, 0), ka, kn, kc⟩) := (HPq3.out.below hx : PAt y4 _ _)
          have HVp4 : Hid (Pd.Lay (fun _ => True) (Pd.ntN D nx) y4 v) := (Pd.Lay.below _ HVp3.out hx : Pd.Lay _ _ y4 v)
          have HVq4 : Hid (Pd.Lay (fun _ => True) (Pd.wide [120] kn) y4 ⟨2, [], 0, 0, [], (none, 0, 0), ka, kn, kc⟩) := (Pd.Lay.below _ HVq3.out hx : Pd.Lay _ _ y4 _)
          clear hx p0 p1 p2 p3 p4 p5 p6 q0 q1 q2 q3 q4 q5 q6
          obtain ⟨p0, p1, p2, p3, p4, p5, p6⟩ := HPp4.out.all
          obtain ⟨q0, q1, q2, q3, q4, q5, q6⟩ := HPq4.out.all
          simp only at q0 q1 q2 q3 q4 q5 q6
          go_wp2_with fail
          go_at_call 9
          refine Calls.mono (size_at _ v y4 HVp4.out _ (sizeB_ntN D (by omega))) ?_
          rintro e y5 ⟨rfl, hx⟩
          have HXy5 : Hid (Ex w y5) := (HXy4.out.trans hx : Ex w y5)
          have HPp5 : Hid (PAt y5 w2.heap.size v) := (HPp4.out.below hx : PAt y5 _ _)
          have HPq5 : Hid (PAt y5 w3.heap.size ⟨2, [], 0, 0, [], (none, 0, 0), ka, kn, kc⟩) := (HPq4.out.below hx : PAt y5 _ _)
          have HVp5 : Hid (Pd.Lay (fun _ => True) (Pd.ntN D nx) y5 v) := (Pd.Lay.below _ HVp4.out hx : Pd.Lay _ _ y5 v)
          have HVq5 : Hid (Pd.Lay (fun _ => True) (Pd.wide [120] kn) y5 ⟨2, [], 0, 0, [], (none, 0, 0), ka, kn, kc⟩) := (Pd.Lay.below _ HVq4.out hx : Pd.Lay _ _ y5 _)
          clear hx p0 p1 p2 p3 p4 p5 p6 q0 q1 q2 q3 q4 q5 q6
          obtain ⟨p0, p1, p2, p3, p4, p5, p6⟩ := HPp5.out.all
          obtain ⟨q0, q1, q2, q3, q4, q5, q6⟩ := HPq5.out.all
          simp only at q0 q1 q2 q3 q4 q5 q6
          go_wp2_with fail
          go_at_call 9
          refine Calls.mono (size_at _ _ y5 HVq5.out _ (sizeB_wide kn (by omega))) ?_
          rintro e y6 ⟨rfl, hx⟩
          have HXy6 : Hid (Ex w y6) := (HXy5.out.trans hx : Ex w y6)
          have HPp6 : Hid (PAt y6 w2.heap.size v) := (HPp5.out.below hx : PAt y6 _ _)
          have HPq6 : Hid (PAt y6 w3.heap.size ⟨2, [], 0, 0, [], (none, 0, 0), ka, kn, kc⟩) := (HPq5.out.below hx : PAt y6 _ _)
          have HVp6 : Hid (Pd.Lay (fun _ => True) (Pd.ntN D nx) y6 v) := (Pd.Lay.below _ HVp5.out hx : Pd.Lay _ _ y6 v)
          have HVq6 : Hid (Pd.Lay (fun _ => True) (Pd.wide [120] kn) y6 ⟨2, [], 0, 0, [], (none, 0, 0), ka, kn, kc⟩) := (Pd.Lay.below _ HVq5.out hx : Pd.Lay _ _ y6 _)
          clear hx p0 p1 p2 p3 p4 p5 p6 q0 q1 q2 q3 q4 q5 q6
          obtain ⟨p0, p1, p2, p3, p4, p5, p6⟩ := HPp6.out.all
          obtain ⟨q0, q1, q2, q3, q4, q5, q6⟩ := HPq6.out.all
          simp only at q0 q1 q2 q3 q4 q5 q6
          go_wp2_with fail
          go_at_call 10
          refine Calls.mono (known_any y6) ?_
          rintro e y7 ⟨rfl, hx⟩
          have HXy7 : Hid (Ex w y7) := (HXy6.out.trans hx : Ex w y7)
          clear hx
          go_wp2_with fail
          go_ret
          exact ⟨by first | rfl | simp [tm2], HXy7.out⟩
      · by_cases hm : kn + 1 ≤ 40
        · have td : ¬ (D : Int) + 1 ≤ 6 := by omega
          have tm : (kn : Int) + 1 ≤ 40 := by omega
          have td2 : decide ((D : Int) + 1 ≤ 6) = false := decide_eq_false td
          have HRp : Hid (Pd.right (Pd.ntN D nx) = false) := (by rw [Pd.right_ntN name_x D (by omega)]; simp; omega : Pd.right (Pd.ntN D nx) = false)
          have HRq : Hid (Pd.right (Pd.wide [120] kn) = true) := (by rw [Pd.right_wide name_x kn]; simp; omega : Pd.right (Pd.wide [120] kn) = true)
          obtain ⟨Rp, hRp⟩ : ∃ R, Pd.encE (Pd.ntN D nx) = (R, 12) := ⟨_, by unfold Pd.encE; rw [HRp.out]; rfl⟩
          obtain ⟨Rq, hRq⟩ : ∃ R, Pd.encE (Pd.wide [120] kn) = (R, 0) := ⟨_, by unfold Pd.encE; rw [HRq.out]; rfl⟩
          have HRP : Hid (Pd.encE (Pd.ntN D nx) = (Rp, 12)) := hRp
          have HRQ : Hid (Pd.encE (Pd.wide [120] kn) = (Rq, 0)) := hRq
          clear hRp hRq hd hm
          obtain ⟨p0, p1, p2, p3, p4, p5, p6⟩ := HPp.out.all
          obtain ⟨q0, q1, q2, q3, q4, q5, q6⟩ := HPq.out.all
          simp only at q0 q1 q2 q3 q4 q5 q6
          go_wp2_with fail
          go_at_call 7
          refine Calls.mono (encode_is _ v wr HVp.out (fine_ntN D) Rp _ HRP.out) ?_
          rintro e y1 ⟨xa1, xc1, rfl, _, hx⟩
          have HXy1 : Hid (Ex w y1) := (HXw.out.trans hx : Ex w y1)
          have HPp1 : Hid (PAt y1 w2.heap.size v) := (HPp.out.below hx : PAt y1 _ _)
          have HPq1 : Hid (PAt y1 w3.heap.size ⟨2, [], 0, 0, [], (none, 0, 0), ka, kn, kc⟩) := (HPq.out.below hx : PAt y1 _ _)
          have HVp1 : Hid (Pd.Lay (fun _ => True) (Pd.ntN D nx) y1 v) := (Pd.Lay.below _ HVp.out hx : Pd.Lay _ _ y1 v)
          have HVq1 : Hid (Pd.Lay (fun _ => True) (Pd.wide [120] kn) y1 ⟨2, [], 0, 0, [], (none, 0, 0), ka, kn, kc⟩) := (Pd.Lay.below _ HVq.out hx : Pd.Lay _ _ y1 _)
          clear hx p0 p1 p2 p3 p4 p5 p6 q0 q1 q2 q3 q4 q5 q6
          obtain ⟨p0, p1, p2, p3, p4, p5, p6⟩ := HPp1.out.all
          obtain ⟨q0, q1, q2, q3, q4, q5, q6⟩ := HPq1.out.all
          simp only at q0 q1 q2 q3 q4 q5 q6
          go_wp2_with fail
          go_at_call 7
          refine Calls.mono (encode_is _ _ y1 HVq1.out (fine_wide kn (by omega)) Rq _ HRQ.out) ?_
          rintro e y2 ⟨xa2, xc2, rfl, _, hx⟩
          have HXy2 : Hid (Ex w y2) := (HXy1.out.trans hx : Ex w y2)
          have HPp2 : Hid (PAt y2 w2.heap.size v) := (HPp1.out.below hx : PAt y2 _ _)
          have HPq2 : Hid (PAt y2 w3.heap.size ⟨2, [], 0, 0, [], (none, 0, 0), ka, kn, kc⟩) := (HPq1.out.below hx : PAt y2 _ _)
          have HVp2 : Hid (Pd.Lay (fun _ => True) (Pd.ntN D nx) y2 v) := (Pd.Lay.below _ HVp1.out hx : Pd.Lay _ _ y2 v)
          have HVq2 : Hid (Pd.Lay (fun _ => True) (Pd.wide [120] kn) y2 ⟨2, [], 0, 0, [], (none, 0, 0), ka, kn, kc⟩) := (Pd.Lay.below _ HVq1.out hx : Pd.Lay _ _ y2 _)
          clear hx p0 p1 p2 p3 p4 p5 p6 q0 q1 q2 q3 q4 q5 q6
          obtain ⟨p0, p1, p2, p3, p4, p5, p6⟩ := HPp2.out.all
          obtain ⟨q0, q1, q2, q3, q4, q5, q6⟩ := HPq2.out.all
          simp only at q0 q1 q2 q3 q4 q5 q6
          go_wp2_with fail
          go_at_call 8
          refine Calls.mono (right_is _ v y2 HVp2.out (fine_ntN D) _ HRp.out) ?_
          rintro e y3 ⟨rfl, hx⟩
          have HXy3 : Hid (Ex w y3) := (HXy2.out.trans hx : Ex w y3)
          have HPp3 : Hid (PAt y3 w2.heap.size v) := (HPp2.out.below hx : PAt y3 _ _)
          have HPq3 : Hid (PAt y3 w3.heap.size ⟨2, [], 0, 0, [], (none, 0, 0), ka, kn, kc⟩) := (HPq2.out.below hx : PAt y3 _ _)
          have HVp3 : Hid (Pd.Lay (fun _ => True) (Pd.ntN D nx) y3 v) := (Pd.Lay.below _ HVp2.out hx : Pd.Lay _ _ y3 v)
          have HVq3 : Hid (Pd.Lay (fun _ => True) (Pd.wide [120] kn) y3 ⟨2, [], 0, 0, [], (none, 0, 0), ka, kn, kc⟩) := (Pd.Lay.below _ HVq2.out hx : Pd.Lay _ _ y3 _)
          clear hx p0 p1 p2 p3 p4 p5 p6 q0 q1 q2 q3 q4 q5 q6
          obtain ⟨p0, p1, p2, p3, p4, p5, p6⟩ := HPp3.out.all
          obtain ⟨q0, q1, q2, q3, q4, q5, q6⟩ := HPq3.out.all
          simp only at q0 q1 q2 q3 q4 q5 q6
          go_wp2_with fail
          go_at_call 8
          refine Calls.mono (right_is _ _ y3 HVq3.out (fine_wide kn (by omega)) _ HRq.out) ?_
          rintro e y4 ⟨rfl, hx⟩
          have HXy4 : Hid (Ex w y4) := (HXy3.out.trans hx : Ex w y4)
          have HPp4 : Hid (PAt y4 w2.heap.size v) := (HPp3.out.below hx : PAt y4 _ _)
          have HPq4 : Hid (PAt y4 w3.heap.size ⟨2, [], 0, 0, [], (none, 0, 0), ka, kn, kc⟩) := (HPq3.out.below hx : PAt y4 _ _)
          have HVp4 : Hid (Pd.Lay (fun _ => True) (Pd.ntN D nx) y4 v) := (Pd.Lay.below _ HVp3.out hx : Pd.Lay _ _ y4 v)
          have HVq4 : Hid (Pd.Lay (fun _ => True) (Pd.wide [120] kn) y4 ⟨2, [], 0, 0, [], (none, 0, 0), ka, kn, kc⟩) := (Pd.Lay.below _ HVq3.out hx : Pd.Lay _ _ y4 _)
          clear hx p0 p1 p2 p3 p4 p5 p6 q0 q1 q2 q3 q4 q5 q6
          obtain ⟨p0, p1, p2, p3, p4, p5, p6⟩ := HPp4.out.all
          obtain ⟨q0, q1, q2, q3, q4, q5, q6⟩ := HPq4.out.all
          simp only at q0 q1 q2 q3 q4 q5 q6
          go_wp2_with fail
          go_at_call 9
          refine Calls.mono (size_at _ v y4 HVp4.out _ (sizeB_ntN D (by omega))) ?_
          rintro e y5 ⟨rfl, hx⟩
          have HXy5 : Hid (Ex w y5) := (HXy4.out.trans hx : Ex w y5)
          have HPp5 : Hid (PAt y5 w2.heap.size v) := (HPp4.out.below hx : PAt y5 _ _)
          have HPq5 : Hid (PAt y5 w3.heap.size ⟨2, [], 0, 0, [], (none, 0, 0), ka, kn, kc⟩) := (HPq4.out.below hx : PAt y5 _ _)
          have HVp5 : Hid (Pd.Lay (fun _ => True) (Pd.ntN D nx) y5 v) := (Pd.Lay.below _ HVp4.out hx : Pd.Lay _ _ y5 v)
          have HVq5 : Hid (Pd.Lay (fun _ => True) (Pd.wide [120] kn) y5 ⟨2, [], 0, 0, [], (none, 0, 0), ka, kn, kc⟩) := (Pd.Lay.below _ HVq4.out hx : Pd.Lay _ _ y5 _)
          clear hx p0 p1 p2 p3 p4 p5 p6 q0 q1 q2 q3 q4 q5 q6
          obtain ⟨p0, p1, p2, p3, p4, p5, p6⟩ := HPp5.out.all
          obtain ⟨q0, q1, q2, q3, q4, q5, q6⟩ := HPq5.out.all
          simp only at q0 q1 q2 q3 q4 q5 q6
          go_wp2_with fail
          go_at_call 9
          refine Calls.mono (size_at _ _ y5 HVq5.out _ (sizeB_wide kn (by omega))) ?_
          rintro e y6 ⟨rfl, hx⟩
          have HXy6 : Hid (Ex w y6) := (HXy5.out.trans hx : Ex w y6)
          have HPp6 : Hid (PAt y6 w2.heap.size v) := (HPp5.out.below hx : PAt y6 _ _)
          have HPq6 : Hid (PAt y6 w3.heap.size ⟨2, [], 0, 0, [], (none, 0, 0), ka, kn, kc⟩) := (HPq5.out.below hx : PAt y6 _ _)
          have HVp6 : Hid (Pd.Lay (fun _ => True) (Pd.ntN D nx) y6 v) := (Pd.Lay.below _ HVp5.out hx : Pd.Lay _ _ y6 v)
          have HVq6 : Hid (Pd.Lay (fun _ => True) (Pd.wide [120] kn) y6 ⟨2, [], 0, 0, [], (none, 0, 0), ka, kn, kc⟩) := (Pd.Lay.below _ HVq5.out hx : Pd.Lay _ _ y6 _)
          clear hx p0 p1 p2 p3 p4 p5 p6 q0 q1 q2 q3 q4 q5 q6
          obtain ⟨p0, p1, p2, p3, p4, p5, p6⟩ := HPp6.out.all
          obtain ⟨q0, q1, q2, q3, q4, q5, q6⟩ := HPq6.out.all
          simp only at q0 q1 q2 q3 q4 q5 q6
          go_wp2_with fail
          go_at_call 10
          refine Calls.mono (known_any y6) ?_
          rintro e y7 ⟨rfl, hx⟩
          have HXy7 : Hid (Ex w y7) := (HXy6.out.trans hx : Ex w y7)
          clear hx
          go_wp2_with fail
          go_ret
          exact ⟨by first | rfl | simp [td2], HXy7.out⟩
        · have td : ¬ (D : Int) + 1 ≤ 6 := by omega
          have tm : ¬ (kn : Int) + 1 ≤ 40 := by omega
          have td2 : decide ((D : Int) + 1 ≤ 6) = false := decide_eq_false td
          have tm2 : decide ((kn : Int) + 1 ≤ 40) = false := decide_eq_false tm
          have HRp : Hid (Pd.right (Pd.ntN D nx) = false) := (by rw [Pd.right_ntN name_x D (by omega)]; simp; omega : Pd.right (Pd.ntN D nx) = false)
          have HRq : Hid (Pd.right (Pd.wide [120] kn) = false) := (by rw [Pd.right_wide name_x kn]; simp; omega : Pd.right (Pd.wide [120] kn) = false)
          obtain ⟨Rp, hRp⟩ : ∃ R, Pd.encE (Pd.ntN D nx) = (R, 12) := ⟨_, by unfold Pd.encE; rw [HRp.out]; rfl⟩
          obtain ⟨Rq, hRq⟩ : ∃ R, Pd.encE (Pd.wide [120] kn) = (R, 12) := ⟨_, by unfold Pd.encE; rw [HRq.out]; rfl⟩
          have HRP : Hid (Pd.encE (Pd.ntN D nx) = (Rp, 12)) := hRp
          have HRQ : Hid (Pd.encE (Pd.wide [120] kn) = (Rq, 12)) := hRq
          clear hRp hRq hd hm
          obtain ⟨p0, p1, p2, p3, p4, p5, p6⟩ := HPp.out.all
          obtain ⟨q0, q1, q2, q3, q4, q5, q6⟩ := HPq.out.all
          simp only at q0 q1 q2 q3 q4 q5 q6
          go_wp2_with fail
          go_at_call 7
          refine Calls.mono (encode_is _ v wr HVp.out (fine_ntN D) Rp _ HRP.out) ?_
          rintro e y1 ⟨xa1, xc1, rfl, _, hx⟩
          have HXy1 : Hid (Ex w y1) := (HXw.out.trans hx : Ex w y1)
          have HPp1 : Hid (PAt y1 w2.heap.size v) := (HPp.out.below hx : PAt y1 _ _)
          have HPq1 : Hid (PAt y1 w3.heap.size ⟨2, [], 0, 0, [], (none, 0, 0), ka, kn, kc⟩) := (HPq.out.below hx : PAt y1 _ _)
          have HVp1 : Hid (Pd.Lay (fun _ => True) (Pd.ntN D nx) y1 v) := (Pd.Lay.below _ HVp.out hx : Pd.Lay _ _ y1 v)
          have HVq1 : Hid (Pd.Lay (fun _ => True) (Pd.wide [120] kn) y1 ⟨2, [], 0, 0, [], (none, 0, 0), ka, kn, kc⟩) := (Pd.Lay.below _ HVq.out hx : Pd.Lay _ _ y1 _)
          clear hx p0 p1 p2 p3 p4 p5 p6 q0 q1 q2 q3 q4 q5 q6
          obtain ⟨p0, p1, p2, p3, p4, p5, p6⟩ := HPp1.out.all
          obtain ⟨q0, q1, q2, q3, q4, q5, q6⟩ := HPq1.out.all
          simp only at q0 q1 q2 q3 q4 q5 q6
          go_wp2_with fail
          go_at_call 7
          refine Calls.mono (encode_is _ _ y1 HVq1.out (fine_wide kn (by omega)) Rq _ HRQ.out) ?_
          rintro e y2 ⟨xa2, xc2, rfl, _, hx⟩
          have HXy2 : Hid (Ex w y2) := (HXy1.out.trans hx : Ex w y2)
          have HPp2 : Hid (PAt y2 w2.heap.size v) := (HPp1.out.below hx : PAt y2 _ _)
          have HPq2 : Hid (PAt y2 w3.heap.size ⟨2, [], 0, 0, [], (none, 0, 0), ka, kn, kc⟩) := (HPq1.out.below hx : PAt y2 _ _)
          have HVp2 : Hid (Pd.Lay (fun _ => True) (Pd.ntN D nx) y2 v) := (Pd.Lay.below _ HVp1.out hx : Pd.Lay _ _ y2 v)
          have HVq2 : Hid (Pd.Lay (fun _ => True) (Pd.wide [120] kn) y2 ⟨2, [], 0, 0, [], (none, 0, 0), ka, kn, kc⟩) := (Pd.Lay.below _ HVq1.out hx : Pd.Lay _ _ y2 _)
          clear hx p0 p1 p2 p3 p4 p5 p6 q0 q1 q2 q3 q4 q5 q6
          obtain ⟨p0, p1, p2, p3, p4, p5, p6⟩ := HPp2.out.all
          obtain ⟨q0, q1, q2, q3, q4, q5, q6⟩ := HPq2.out.all
          simp only at q0 q1 q2 q3 q4 q5 q6
          go_wp2_with fail
          go_at_call 8
          refine Calls.mono (right_is _ v y2 HVp2.out (fine_ntN D) _ HRp.out) ?_
          rintro e y3 ⟨rfl, hx⟩
          have HXy3 : Hid (Ex w y3) := (HXy2.out.trans hx : Ex w y3)
          have HPp3 : Hid (PAt y3 w2.heap.size v) := (HPp2.out.below hx : PAt y3 _ _)
          have HPq3 : Hid (PAt y3 w3.heap.size ⟨2, [], 0, 0, [], (none, 0, 0), ka, kn, kc⟩) := (HPq2.out.below hx : PAt y3 _ _)
          have HVp3 : Hid (Pd.Lay (fun _ => True) (Pd.ntN D nx) y3 v) := (Pd.Lay.below _ HVp2.out hx : Pd.Lay _ _ y3 v)
          have HVq3 : Hid (Pd.Lay (fun _ => True) (Pd.wide [120] kn) y3 ⟨2, [], 0, 0, [], (none, 0, 0), ka, kn, kc⟩) := (Pd.Lay.below _ HVq2.out hx : Pd.Lay _ _ y3 _)
          clear hx p0 p1 p2 p3 p4 p5 p6 q0 q1 q2 q3 q4 q5 q6
          obtain ⟨p0, p1, p2, p3, p4, p5, p6⟩ := HPp3.out.all
          obtain ⟨q0, q1, q2, q3, q4, q5, q6⟩ := HPq3.out.all
          simp only at q0 q1 q2 q3 q4 q5 q6
          go_wp2_with fail
          go_at_call 8
          refine Calls.mono (right_is _ _ y3 HVq3.out (fine_wide kn (by omega)) _ HRq.out) ?_
          rintro e y4 ⟨rfl, hx⟩
          have HXy4 : Hid (Ex w y4) := (HXy3.out.trans hx : Ex w y4)
          have HPp4 : Hid (PAt y4 w2.heap.size v) := (HPp3.out.below hx : PAt y4 _ _)
          have HPq4 : Hid (PAt y4 w3.heap.size ⟨2, [], 0, 0, [], (none, 0, 0), ka, kn, kc⟩) := (HPq3.out.below hx : PAt y4 _ _)
          have HVp4 : Hid (Pd.Lay (fun _ => True) (Pd.ntN D nx) y4 v) := (Pd.Lay.below _ HVp3.out hx : Pd.Lay _ _ y4 v)
          have HVq4 : Hid (Pd.Lay (fun _ => True) (Pd.wide [120] kn) y4 ⟨2, [], 0, 0, [], (none, 0, 0), ka, kn, kc⟩) := (Pd.Lay.below _ HVq3.out hx : Pd.Lay _ _ y4 _)
          clear hx p0 p1 p2 p3 p4 p5 p6 q0 q1 q2 q3 q4 q5 q6
          obtain ⟨p0, p1, p2, p3, p4, p5, p6⟩ := HPp4.out.all
          obtain ⟨q0, q1, q2, q3, q4, q5, q6⟩ := HPq4.out.all
          simp only at q0 q1 q2 q3 q4 q5 q6
          go_wp2_with fail
          go_at_call 9
          refine Calls.mono (size_at _ v y4 HVp4.out _ (sizeB_ntN D (by omega))) ?_
          rintro e y5 ⟨rfl, hx⟩
          have HXy5 : Hid (Ex w y5) := (HXy4.out.trans hx : Ex w y5)
          have HPp5 : Hid (PAt y5 w2.heap.size v) := (HPp4.out.below hx : PAt y5 _ _)
          have HPq5 : Hid (PAt y5 w3.heap.size ⟨2, [], 0, 0, [], (none, 0, 0), ka, kn, kc⟩) := (HPq4.out.below hx : PAt y5 _ _)
          have HVp5 : Hid (Pd.Lay (fun _ => True) (Pd.ntN D nx) y5 v) := (Pd.Lay.below _ HVp4.out hx : Pd.Lay _ _ y5 v)
          have HVq5 : Hid (Pd.Lay (fun _ => True) (Pd.wide [120] kn) y5 ⟨2, [], 0, 0, [], (none, 0, 0), ka, kn, kc⟩) := (Pd.Lay.below _ HVq4.out hx : Pd.Lay _ _ y5 _)
          clear hx p0 p1 p2 p3 p4 p5 p6 q0 q1 q2 q3 q4 q5 q6
          obtain ⟨p0, p1, p2, p3, p4, p5, p6⟩ := HPp5.out.all
          obtain ⟨q0, q1, q2, q3, q4, q5, q6⟩ := HPq5.out.all
          simp only at q0 q1 q2 q3 q4 q5 q6
          go_wp2_with fail
          go_at_call 9
          refine Calls.mono (size_at _ _ y5 HVq5.out _ (sizeB_wide kn (by omega))) ?_
          rintro e y6 ⟨rfl, hx⟩
          have HXy6 : Hid (Ex w y6) := (HXy5.out.trans hx : Ex w y6)
          have HPp6 : Hid (PAt y6 w2.heap.size v) := (HPp5.out.below hx : PAt y6 _ _)
          have HPq6 : Hid (PAt y6 w3.heap.size ⟨2, [], 0, 0, [], (none, 0, 0), ka, kn, kc⟩) := (HPq5.out.below hx : PAt y6 _ _)
          have HVp6 : Hid (Pd.Lay (fun _ => True) (Pd.ntN D nx) y6 v) := (Pd.Lay.below _ HVp5.out hx : Pd.Lay _ _ y6 v)
          have HVq6 : Hid (Pd.Lay (fun _ => True) (Pd.wide [120] kn) y6 ⟨2, [], 0, 0, [], (none, 0, 0), ka, kn, kc⟩) := (Pd.Lay.below _ HVq5.out hx : Pd.Lay _ _ y6 _)
          clear hx p0 p1 p2 p3 p4 p5 p6 q0 q1 q2 q3 q4 q5 q6
          obtain ⟨p0, p1, p2, p3, p4, p5, p6⟩ := HPp6.out.all
          obtain ⟨q0, q1, q2, q3, q4, q5, q6⟩ := HPq6.out.all
          simp only at q0 q1 q2 q3 q4 q5 q6
          go_wp2_with fail
          go_at_call 10
          refine Calls.mono (known_any y6) ?_
          rintro e y7 ⟨rfl, hx⟩
          have HXy7 : Hid (Ex w y7) := (HXy6.out.trans hx : Ex w y7)
          clear hx
          go_wp2_with fail
          go_ret
          exact ⟨by first | rfl | simp [td2, tm2], HXy7.out⟩
end Go.Proofs.Ytbdjccmlgdfapab.predLimits
