/-
  The landed normal and Normal. Plain: a normal predicate has the form; Judge is sound; more flags tell no less; of one row all but texts are decided; what Stats tells of rows is so. No program here.
-/
import Derived.Test.YtibnhjfeepdddaaM28
import Derived.Test.YtibnhjfeepdddaaM09
namespace Go.Proofs.Ytibnhjfeepdddaa
open Go.RowKit
set_option linter.unusedVariables false
set_option linter.unusedSimpArgs false
theorem size_in {l : List Pr} {k : Pr} (h : k ∈ l) : Pd.size k ≤ (l.map Pd.size).sum := by
 induction l with
 | nil => simp at h
 | cons x t ih =>
  rw [List.map_cons, List.sum_cons]
  rcases List.mem_cons.1 h with rfl | h
  ·omega
  ·have := ih h
   omega
/-- A predicate that is stored into the result's block stays what it is. -/
theorem lay_pset {w2 : World} {g c d : Nat} {q : Pr} {u : PV} (hL : Pd.Lay (fun b => c ≤ b) q w2 u) (hg : g < c) (hd : d ≤ c) : Pd.Lay (fun b => d ≤ b) q (pset w2 g u) u :=
 Pd.Lay.mono (fun b hb => by omega) _ (Pd.Lay.far (row := some g) (fun b hb e => by simp at e; omega) _ hL (grown_pset _ _ _))
set_option maxHeartbeats 4000000 in
set_option maxRecDepth 100000 in
theorem normal_is : ∀ (p : Pr) (v : PV) (w : World) (b : Bool), Pd.Lay (fun _ => True) p w v → Pd.Fine p → Pd.form p = true → Pd.size p ≤ 40 →
  Calls Try.prog 50 #[pvv v, .bool b] w fun e w' => ∃ u, e = .returned (pvv u) ∧ Pd.Lay (fun b => w.heap.size ≤ b) (Pd.nrm p b) w' u ∧ Ex w w' := by
 refine Pd.tree ?_
 intro h l ih v w b hL hFi hfo hsz
 have hFine := hFi
 rw [Pd.fine_mk] at hFi
 obtain ⟨hF, hl1, hFk⟩ := hFi
 rw [Pd.form_mk, Bool.and_eq_true, List.all_eq_true] at hfo
 obtain ⟨hpt, hfk⟩ := hfo
 rw [Pd.size_mk] at hsz
 obtain ⟨hHd, hkn, hkB, hkc, hkm, hk0⟩ := hL.head
 obtain ⟨vk, vcol, vn, vm, vs, vset, ⟨p, n, cap⟩⟩ := v
 simp only at hkn hkB hkc hkm hk0
 subst hkn
 have hvk : vk = h.k := hHd.1.1
 have HIH : Hid (∀ k ∈ l, ∀ (v : PV) (w : World) (b : Bool), Pd.Lay (fun _ => True) k w v → Calls Try.prog 50 #[pvv v, .bool b] w fun e w' => ∃ u, e = .returned (pvv u) ∧ Pd.Lay (fun b => w.heap.size ≤ b) (Pd.nrm k b) w' u ∧ Ex w w') := (by
  intro k hk v w b hLk
  have h1 : Pd.size k ≤ (l.map Pd.size).sum := size_in hk
  exact ih k hk v w b hLk (hFk k hk) (hfk k hk) (by omega) : ∀ k ∈ l, _)
 have HFN : Hid (Pd.Fine (Pr.mk' h l)) := hFine
 have HFK : Hid (∀ k ∈ l, Pd.form k = true) := hfk
 have HSUM : Hid ((l.map Pd.size).sum ≤ 40) := (by omega : (l.map Pd.size).sum ≤ 40)
 have HLw : Hid (Pd.Lay (fun _ => True) (Pr.mk' h l) w ⟨vk, vcol, vn, vm, vs, vset, p, l.length, cap⟩) := hL
 obtain ⟨W, hW⟩ : ∃ W, (w.alloc (pb ⟨vk, vcol, vn, vm, vs, vset, p, l.length, cap⟩)).alloc pb0 = W := ⟨_, rfl⟩
 have hX1 : Ex w (w.alloc (pb ⟨vk, vcol, vn, vm, vs, vset, p, l.length, cap⟩)) := (Below.refl _ _).alloc (Nat.le_refl _) _
 have hXW : Ex w W := by rw [← hW]; exact Below.alloc hX1 (by simp) _
 have HXW : Hid (Ex w W) := hXW
 have hszW : W.heap.size = w.heap.size + 2 := by rw [← hW]; simp
 have HSZ : Hid (W.heap.size = w.heap.size + 2) := hszW
 have HP : Hid (PAt W w.heap.size ⟨vk, vcol, vn, vm, vs, vset, p, l.length, cap⟩) := (by rw [← hW]; exact (PAt.new w _).alloc _ : PAt W w.heap.size _)
 have HZ : Hid (PAt W (w.heap.size + 1) PV.zero) := (by
  rw [← hW]
  exact PAt.newat (w.alloc (pb ⟨vk, vcol, vn, vm, vs, vset, p, l.length, cap⟩)) (w.heap.size + 1) PV.zero (by simp) : PAt W (w.heap.size + 1) PV.zero)
 have HLW : Hid (Pd.Lay (fun _ => True) (Pr.mk' h l) W ⟨vk, vcol, vn, vm, vs, vset, p, l.length, cap⟩) := (Pd.Lay.below _ hL hXW : Pd.Lay _ _ W _)
 obtain ⟨p0, p1, p2, p3, p4, p5, p6⟩ := HP.out.all
 simp only at p0 p1 p2 p3 p4 p5 p6
 unfold maxLen at hkm
 by_cases h3 : h.k = 3
 ·have hv3 : vk = 3 := by omega
  subst hv3
  have HN : Hid (Pd.nrm (Pr.mk' h l) b = Pd.fst (l.map Pd.nrm) (!b)) := (by rw [Pd.nrm_mk, if_pos h3] : Pd.nrm (Pr.mk' h l) b = Pd.fst (l.map Pd.nrm) (!b))
  obtain ⟨x, rfl⟩ := Pd.one_of (Pd.part_not h3 hpt).2
  obtain ⟨bb, off, u, hpp, hbg, hLk, e0, e1, e2, e3, e4, e5, e6⟩ := HLW.out.kid (i := 0) (by simp)
  simp only [List.getElem_cons_zero] at hLk
  simp only [Nat.zero_mul, Nat.add_zero] at e0 e1 e2 e3 e4 e5 e6
  simp only at hpp
  have HC : Hid (Calls Try.prog 50 #[pvv u, .bool (!b)] W fun e w' => ∃ u, e = .returned (pvv u) ∧ Pd.Lay (fun b => W.heap.size ≤ b) (Pd.nrm x (!b)) w' u ∧ Ex W w') := HIH.out x (by simp) u W (!b) hLk
  subst hpp
  simp only [List.length_cons, List.length_nil] at *
  obtain ⟨nb, hnb⟩ : ∃ nb, (!b) = nb := ⟨_, rfl⟩
  rw [hnb] at HC HN
  clear hL hHd hkB ih hXW hF hFk hX1 hszW hvk hpt hfk hsz hFine hLk hbg h3
  unfold pvv
  simp only [sv]
  go_enter Try.func50, Try.ntmps50
  go_wp2_with fail
  go_at_call 50
  refine Calls.mono HC.out ?_
  rintro e w2 ⟨u2, rfl, hL2, hx2⟩
  have HL2 : Hid (Pd.Lay (fun b => W.heap.size ≤ b) (Pd.nrm x nb) w2 u2) := hL2
  have HX2 : Hid (Ex w w2) := (HXW.out.trans hx2 : Ex w w2)
  have HZ2 : Hid (PAt w2 (w.heap.size + 1) PV.zero) := HZ.out.below hx2
  obtain ⟨z0, z1, z2, z3, z4, z5, z6⟩ := HZ2.out.fro
  obtain ⟨y0, y1, y2, y3, y4, y5, y6⟩ := HZ2.out.all
  clear hL2 hx2 HC p0 p1 p2 p3 p4 p5 e0 e1 e2 e3 e4 e5 e6
  simp only [pvv, sv]
  go_wp2_with fail
  have hP9 := HZ2.out.store u2
  have hX9 := Below.pset HX2.out (Nat.le_succ _) u2
  refine bodyPost_ret (v := pvv u2) (res_pred Try.results50 rfl hP9) rfl ⟨_, rfl, ?_, hX9⟩
  rw [HN.out]
  exact lay_pset HL2.out (by have := HSZ.out; omega) (by have := HSZ.out; omega)
 ·have t3 : (vk == 3) = false := beq_eq_false_iff_ne.2 (by omega)
  by_cases h12 : h.k = 1 ∨ h.k = 2
  ·have hv12 : vk = 1 ∨ vk = 2 := by omega
   obtain ⟨K, hK⟩ : ∃ K, Pd.turn vk b = K := ⟨_, rfl⟩
   have HKT : Hid (Pd.turn vk b = K) := hK
   have HV12 : Hid (vk = 1 ∨ vk = 2) := hv12
   have HN : Hid (Pd.nrm (Pr.mk' h l) b = Pd.one K (l.flatMap fun x => Pd.put K (Pd.nrm x b))) := (by rw [Pd.nrm_mk, if_neg h3, if_pos h12, ← hvk, hK] : Pd.nrm (Pr.mk' h l) b = _)
   have hLl := hL
   rw [Pd.lay_mk] at hLl
   obtain ⟨hz1, hz2, hz3, us, hRu, hLu⟩ := hLl
   have HRU : Hid (RdW 7 pc W p cap us) := hRu.below hXW
   have HLU : Hid (Pd.Lays (fun _ => True) W us l) := (hLu.mono fun _ _ => trivial).below hXW
   have HIB : Hid (∀ k ∈ l, ∀ (v : PV) (w : World), Pd.Lay (fun _ => True) k w v → Calls Try.prog 50 #[pvv v, .bool b] w fun e w' => ∃ u, e = .returned (pvv u) ∧ Pd.Lay (fun b => w.heap.size ≤ b) (Pd.nrm k b) w' u ∧ Ex w w') := (fun k hk v w hL => HIH.out k hk v w b hL : ∀ k ∈ l, _)
   clear hL hHd hkB ih hXW hF hFk hX1 hszW hvk hpt hfk hsz hFine h3 hz1 hz2 hz3 hRu hLu h12 hv12 hK HLW HLw HIH HFN
   unfold pvv
   simp only [sv]
   rcases HV12.out with rfl | rfl
   ·go_enter Try.func50, Try.ntmps50
    go_wp2_with fail
    have hre := Ex.refl
    refine Rg.wp_rows_tail (List.take 8 _) (List.drop 8 _) (List.take_append_drop 8 _).symm [.inl (Value.pointer (some ⟨w.heap.size, 0, none⟩)), .inl (Value.int .i64 1), .inl (.bool b), .inl (.int .i64 K), .inl (Value.pointer (some ⟨w.heap.size, 6, none⟩)), .inl (Value.slice p l.length cap), .inl (.bool b), .inr (Pd.IsP (fun b => W.heap.size ≤ b) (Pd.one K (l.flatMap fun x => Pd.put K (Pd.nrm x b))))] (Ex W) Ex 35 (by kernel_rfl) rfl (by kernel_rfl) (by kernel_rfl) (by kernel_rfl) (by decide) (by kernel_rfl) ?st hre (Ex.drew _) ?goods ?fin
    case st => exact ⟨Pd.IsP.stands _ _, trivial⟩
    case goods =>
     refine Rg.goods_cons (Rg.good_field hre rfl rfl rfl (fun wx hC => by go_simp)) ?_
     refine Rg.goods_cons (Rg.good_load hre rfl rfl rfl (fun wx hC => by have hz := (HP.out.below hC).all.1; go_simp)) ?_
     refine Rg.goods_cons (Rg.good_move hre rfl rfl rfl) ?_
     refine Rg.goods_cons (Rg.good_call2 Try.func75 (by kernel_rfl) rfl rfl rfl (by rintro u0 u1 wx hC rfl rfl; exact val_row (turned_is 1 b wx (.inl rfl) K HKT.out) hC)) ?_
     refine Rg.goods_cons (Rg.good_field hre rfl rfl rfl (fun wx hC => by go_simp)) ?_
     refine Rg.goods_cons (Rg.good_load hre rfl rfl rfl (fun wx hC => by have hz := (HP.out.below hC).all.2.2.2.2.2.2; go_simp)) ?_
     refine Rg.goods_cons (Rg.good_move hre rfl rfl rfl) ?_
     refine Rg.goods_cons (Rg.good_call3 Try.func74 (by kernel_rfl) rfl rfl rfl (by rintro u0 u1 u2 wx hC rfl rfl rfl; exact pred_row (join_is K b l HIB.out HFK.out HSUM.out p _ cap us wx rfl (HRU.out.below hC) (HLU.out.below hC)) hC)) ?_
     exact Rg.goods_nil
    case fin =>
     intro wx hx
     simp only [Rg.later, List.take_succ_cons, List.take_zero, List.drop_succ_cons, List.drop_zero, Act.put, List.setIfInBounds_toArray, List.set_cons_succ, List.set_cons_zero]
     rintro v27 ⟨u2, rfl, hL2⟩
     have HL2 : Hid (Pd.Lay (fun b => W.heap.size ≤ b) (Pd.one K (l.flatMap fun x => Pd.put K (Pd.nrm x b))) wx u2) := hL2
     have HX2 : Hid (Ex w wx) := (HXW.out.trans hx : Ex w wx)
     have HZ2 : Hid (PAt wx (w.heap.size + 1) PV.zero) := HZ.out.below hx
     obtain ⟨z0, z1, z2, z3, z4, z5, z6⟩ := HZ2.out.fro
     obtain ⟨y0, y1, y2, y3, y4, y5, y6⟩ := HZ2.out.all
     clear hL2 hx p0 p1 p2 p3 p4 p5 p6
     simp only [pvv, sv]
     go_wp2_with fail
     have hP9 := HZ2.out.store u2
     have hX9 := Below.pset HX2.out (Nat.le_succ _) u2
     refine bodyPost_ret (v := pvv u2) (res_pred Try.results50 rfl hP9) rfl ⟨_, rfl, ?_, hX9⟩
     rw [HN.out]
     exact lay_pset HL2.out (by have := HSZ.out; omega) (by have := HSZ.out; omega)
   ·go_enter Try.func50, Try.ntmps50
    go_wp2_with fail
    have hre := Ex.refl
    refine Rg.wp_rows_tail (List.take 8 _) (List.drop 8 _) (List.take_append_drop 8 _).symm [.inl (Value.pointer (some ⟨w.heap.size, 0, none⟩)), .inl (Value.int .i64 2), .inl (.bool b), .inl (.int .i64 K), .inl (Value.pointer (some ⟨w.heap.size, 6, none⟩)), .inl (Value.slice p l.length cap), .inl (.bool b), .inr (Pd.IsP (fun b => W.heap.size ≤ b) (Pd.one K (l.flatMap fun x => Pd.put K (Pd.nrm x b))))] (Ex W) Ex 35 (by kernel_rfl) rfl (by kernel_rfl) (by kernel_rfl) (by kernel_rfl) (by decide) (by kernel_rfl) ?st hre (Ex.drew _) ?goods ?fin
    case st => exact ⟨Pd.IsP.stands _ _, trivial⟩
    case goods =>
     refine Rg.goods_cons (Rg.good_field hre rfl rfl rfl (fun wx hC => by go_simp)) ?_
     refine Rg.goods_cons (Rg.good_load hre rfl rfl rfl (fun wx hC => by have hz := (HP.out.below hC).all.1; go_simp)) ?_
     refine Rg.goods_cons (Rg.good_move hre rfl rfl rfl) ?_
     refine Rg.goods_cons (Rg.good_call2 Try.func75 (by kernel_rfl) rfl rfl rfl (by rintro u0 u1 wx hC rfl rfl; exact val_row (turned_is 2 b wx (.inr rfl) K HKT.out) hC)) ?_
     refine Rg.goods_cons (Rg.good_field hre rfl rfl rfl (fun wx hC => by go_simp)) ?_
     refine Rg.goods_cons (Rg.good_load hre rfl rfl rfl (fun wx hC => by have hz := (HP.out.below hC).all.2.2.2.2.2.2; go_simp)) ?_
     refine Rg.goods_cons (Rg.good_move hre rfl rfl rfl) ?_
     refine Rg.goods_cons (Rg.good_call3 Try.func74 (by kernel_rfl) rfl rfl rfl (by rintro u0 u1 u2 wx hC rfl rfl rfl; exact pred_row (join_is K b l HIB.out HFK.out HSUM.out p _ cap us wx rfl (HRU.out.below hC) (HLU.out.below hC)) hC)) ?_
     exact Rg.goods_nil
    case fin =>
     intro wx hx
     simp only [Rg.later, List.take_succ_cons, List.take_zero, List.drop_succ_cons, List.drop_zero, Act.put, List.setIfInBounds_toArray, List.set_cons_succ, List.set_cons_zero]
     rintro v27 ⟨u2, rfl, hL2⟩
     have HL2 : Hid (Pd.Lay (fun b => W.heap.size ≤ b) (Pd.one K (l.flatMap fun x => Pd.put K (Pd.nrm x b))) wx u2) := hL2
     have HX2 : Hid (Ex w wx) := (HXW.out.trans hx : Ex w wx)
     have HZ2 : Hid (PAt wx (w.heap.size + 1) PV.zero) := HZ.out.below hx
     obtain ⟨z0, z1, z2, z3, z4, z5, z6⟩ := HZ2.out.fro
     obtain ⟨y0, y1, y2, y3, y4, y5, y6⟩ := HZ2.out.all
     clear hL2 hx p0 p1 p2 p3 p4 p5 p6
     simp only [pvv, sv]
     go_wp2_with fail
     have hP9 := HZ2.out.store u2
     have hX9 := Below.pset HX2.out (Nat.le_succ _) u2
     refine bodyPost_ret (v := pvv u2) (res_pred Try.results50 rfl hP9) rfl ⟨_, rfl, ?_, hX9⟩
     rw [HN.out]
     exact lay_pset HL2.out (by have := HSZ.out; omega) (by have := HSZ.out; omega)
  ·have t1 : (vk == 1) = false := beq_eq_false_iff_ne.2 (by omega)
   have t2 : (vk == 2) = false := beq_eq_false_iff_ne.2 (by omega)
   have HN : Hid (Pd.nrm (Pr.mk' h l) b = if b = true then Pr.mk' (Pd.hk 3) [Pr.mk' h l] else Pr.mk' h l) := (by rw [Pd.nrm_mk, if_neg h3, if_neg h12] : Pd.nrm (Pr.mk' h l) b = _)
   have HC : Hid (Calls Try.prog 51 #[pvv ⟨vk, vcol, vn, vm, vs, vset, p, l.length, cap⟩] W fun e w' => ∃ u, e = .returned (pvv u) ∧ Pd.Lay (fun b => W.heap.size ≤ b) (Pr.mk' h l) w' u ∧ Ex W w') := copied_is _ _ W HLW.out HFN.out
   clear hL hHd hkB ih hXW hF hFk hX1 hszW hvk hpt hfk hsz hFine h3 h12 HLW HLw HIH HFN
   unfold pvv
   simp only [sv]
   go_enter Try.func50, Try.ntmps50
   go_wp2_with fail
   go_at_call 51
   refine Calls.mono HC.out ?_
   rintro e w2 ⟨u2, rfl, hL2, hx2⟩
   have HX2 : Hid (Ex w w2) := (HXW.out.trans hx2 : Ex w w2)
   have hsz2 := hx2.size
   obtain ⟨w3, hw3⟩ : ∃ w3, w2.alloc (pb u2) = w3 := ⟨_, rfl⟩
   have hX23 : Ex w2 w3 := by rw [← hw3]; exact (Below.refl _ _).alloc (Nat.le_refl _) _
   have HX3 : Hid (Ex w w3) := (HX2.out.trans hX23 : Ex w w3)
   have hs3 : w3.heap.size = w2.heap.size + 1 := by rw [← hw3]; simp
   have HS3 : Hid (w3.heap.size = w2.heap.size + 1) := hs3
   have HW2 : Hid (W.heap.size ≤ w2.heap.size) := hsz2
   have HL3 : Hid (Pd.Lay (fun b => W.heap.size ≤ b) (Pr.mk' h l) w3 u2) := Pd.Lay.below _ hL2 hX23
   have HZ3 : Hid (PAt w3 (w.heap.size + 1) PV.zero) := (HZ.out.below hx2).below hX23
   have HP3 : Hid (PAt w3 w2.heap.size u2) := (by rw [← hw3]; exact PAt.new w2 u2 : PAt w3 w2.heap.size u2)
   obtain ⟨q0, q1, q2, q3, q4, q5, q6⟩ := HP3.out.all
   clear hL2 hx2 HC p0 p1 p2 p3 p4 p5 p6 hX23 hs3 hsz2
   simp only [pvv, sv]
   cases b with
   | false =>
    obtain ⟨z0, z1, z2, z3, z4, z5, z6⟩ := HZ3.out.fro
    obtain ⟨y0, y1, y2, y3, y4, y5, y6⟩ := HZ3.out.all
    go_wp2_with fail
    have hP9 := HZ3.out.store u2
    have hX9 := Below.pset HX3.out (Nat.le_succ _) u2
    refine bodyPost_ret (v := pvv u2) (res_pred Try.results50 rfl hP9) rfl ⟨_, rfl, ?_, hX9⟩
    rw [HN.out]
    first | rw [if_neg (by simp)] | skip
    exact lay_pset HL3.out (by have := HSZ.out; omega) (by have := HSZ.out; omega)
   | true =>
    obtain ⟨w4, hw4⟩ : ∃ w4, w3.alloc (pb u2) = w4 := ⟨_, rfl⟩
    have hX34 : Ex w3 w4 := by rw [← hw4]; exact (Below.refl _ _).alloc (Nat.le_refl _) _
    have HX4 : Hid (Ex w w4) := (HX3.out.trans hX34 : Ex w w4)
    have HZ4 : Hid (PAt w4 (w.heap.size + 1) PV.zero) := HZ3.out.below hX34
    have HR4 : Hid (RdW 7 pc w4 (some ⟨w3.heap.size, 0, none⟩) 1 [u2]) := (by rw [← hw4]; exact RdW.laid pc_len w3 [u2] (by simp) : RdW 7 pc w4 _ 1 [u2])
    have HL4 : Hid (Pd.Lays (fun b => W.heap.size ≤ b) w4 [u2] [Pr.mk' h l]) := Pd.Lays.one (Pd.Lay.below _ HL3.out hX34)
    obtain ⟨z0, z1, z2, z3, z4, z5, z6⟩ := HZ4.out.fro
    obtain ⟨y0, y1, y2, y3, y4, y5, y6⟩ := HZ4.out.all
    clear hX34
    go_wp2_with fail
    have hP9 := HZ4.out.store ⟨3, [], 0, 0, [], (none, 0, 0), some ⟨w3.heap.size, 0, none⟩, 1, 1⟩
    have hX9 := Below.pset HX4.out (Nat.le_succ _) ⟨3, [], 0, 0, [], (none, 0, 0), some ⟨w3.heap.size, 0, none⟩, 1, 1⟩
    have hgr := grown_pset w4 (w.heap.size + 1) ⟨3, [], 0, 0, [], (none, 0, 0), some ⟨w3.heap.size, 0, none⟩, 1, 1⟩
    refine bodyPost_ret (v := pvv ⟨3, [], 0, 0, [], (none, 0, 0), some ⟨w3.heap.size, 0, none⟩, 1, 1⟩) (res_pred Try.results50 rfl hP9) rfl ⟨_, rfl, ?_, hX9⟩
    rw [HN.out, if_pos trivial, Pd.lay_mk]
    have h1 := HSZ.out
    have h2 := HW2.out
    have h3 := HS3.out
    refine ⟨⟨⟨rfl, rfl, rfl, rfl, rfl⟩, rfl, Rd.nil _, fun h0 => by simp at h0⟩, rfl, fun _ c off e => by simp at e; omega, [u2], ?_, ?_⟩
    ·exact HR4.out.far hgr (fun _ c off e => by simp at e; simp; omega)
    ·exact (HL4.out.far (row := some (w.heap.size + 1)) (fun c hc e => by simp at e; omega) hgr).mono fun c hc => by omega
namespace Pd
/-- Normal as it is reckoned within the bounds. -/
def normalB (p : Pr) : Pr := if right p = true then nrm p false else if fit p 50 5000 = true then p else zero
end Pd
theorem lay_zero (B : Nat → Prop) (w : World) : Pd.Lay B Pd.zero w PV.zero := by
 unfold Pd.zero
 rw [Pd.lay_mk]
 exact ⟨⟨⟨rfl, rfl, rfl, rfl, rfl⟩, rfl, Rd.nil _, fun h0 => by simp [PV.zero] at h0⟩, rfl, fun h0 => by simp [PV.zero] at h0, [], RdW.nil _, Pd.Lays.nil _ _⟩
set_option maxHeartbeats 4000000 in
set_option maxRecDepth 100000 in
theorem normalN_is (p : Pr) (v : PV) (w : World) (hL : Pd.Lay (fun _ => True) p w v) (hF : Pd.Fine p) :
  Calls Try.prog 29 #[pvv v] w fun e w' => ∃ u, e = .returned (pvv u) ∧ Pd.Lay (fun b => w.heap.size ≤ b) (Pd.normalB p) w' u ∧ Ex w w' := by
 obtain ⟨vk, vcol, vn, vm, vs, vset, vkids⟩ := v
 obtain ⟨W, hW⟩ : ∃ W, (w.alloc (pb ⟨vk, vcol, vn, vm, vs, vset, vkids⟩)).alloc pb0 = W := ⟨_, rfl⟩
 have hX1 : Ex w (w.alloc (pb ⟨vk, vcol, vn, vm, vs, vset, vkids⟩)) := (Below.refl _ _).alloc (Nat.le_refl _) _
 have hXW : Ex w W := by rw [← hW]; exact Below.alloc hX1 (by simp) _
 have HXW : Hid (Ex w W) := hXW
 have HSZ : Hid (W.heap.size = w.heap.size + 2) := (by rw [← hW]; simp : W.heap.size = w.heap.size + 2)
 have HP : Hid (PAt W w.heap.size ⟨vk, vcol, vn, vm, vs, vset, vkids⟩) := (by rw [← hW]; exact (PAt.new w _).alloc _ : PAt W w.heap.size _)
 have HZ : Hid (PAt W (w.heap.size + 1) PV.zero) := (by
  rw [← hW]
  exact PAt.newat (w.alloc (pb ⟨vk, vcol, vn, vm, vs, vset, vkids⟩)) (w.heap.size + 1) PV.zero (by simp) : PAt W (w.heap.size + 1) PV.zero)
 have HLW : Hid (Pd.Lay (fun _ => True) p W ⟨vk, vcol, vn, vm, vs, vset, vkids⟩) := (Pd.Lay.below _ hL hXW : Pd.Lay _ _ W _)
 have HF : Hid (Pd.Fine p) := hF
 obtain ⟨p0, p1, p2, p3, p4, p5, p6⟩ := HP.out.all
 simp only at p0 p1 p2 p3 p4 p5 p6
 obtain ⟨r, hr⟩ : ∃ r, Pd.right p = r := ⟨_, rfl⟩
 have HR : Hid (Pd.right p = r) := hr
 have HC : Hid (Calls Try.prog 18 #[pvv ⟨vk, vcol, vn, vm, vs, vset, vkids⟩] W fun e w' => e = .returned (.bool r) ∧ Ex W w') := right_is p _ W HLW.out hF r hr
 clear hL hF hX1 hXW hr
 unfold pvv
 simp only [sv]
 go_enter Try.func29, Try.ntmps29
 go_wp2_with fail
 go_at_call 18
 refine Calls.mono HC.out ?_
 rintro e w2 ⟨rfl, hx2⟩
 have HX2 : Hid (Ex w w2) := (HXW.out.trans hx2 : Ex w w2)
 have HXW2 : Hid (Ex W w2) := hx2
 have hP2 := HP.out.below hx2
 obtain ⟨q0, q1, q2, q3, q4, q5, q6⟩ := hP2.all
 simp only at q0 q1 q2 q3 q4 q5 q6
 clear HC hx2 hP2 p0 p1 p2 p3 p4 p5 p6 hW
 cases r with
 | true =>
  have HC : Hid (Calls Try.prog 50 #[pvv ⟨vk, vcol, vn, vm, vs, vset, vkids⟩, .bool false] w2 fun e w' => ∃ u, e = .returned (pvv u) ∧ Pd.Lay (fun b => w2.heap.size ≤ b) (Pd.nrm p false) w' u ∧ Ex w2 w') := normal_is p _ w2 false (Pd.Lay.below _ HLW.out HXW2.out) HF.out (Pd.form_fit HR.out).1 (Pd.form_fit HR.out).2.1
  have HN : Hid (Pd.normalB p = Pd.nrm p false) := (by unfold Pd.normalB; rw [if_pos HR.out] : Pd.normalB p = Pd.nrm p false)
  go_wp2_with fail
  go_at_call 50
  refine Calls.mono HC.out ?_
  rintro e w3 ⟨u2, rfl, hL3, hx3⟩
  have HL3 : Hid (Pd.Lay (fun b => w2.heap.size ≤ b) (Pd.nrm p false) w3 u2) := hL3
  have HX3 : Hid (Ex w w3) := (HX2.out.trans hx3 : Ex w w3)
  have HZ3 : Hid (PAt w3 (w.heap.size + 1) PV.zero) := (HZ.out.below HXW2.out).below hx3
  obtain ⟨z0, z1, z2, z3, z4, z5, z6⟩ := HZ3.out.fro
  obtain ⟨y0, y1, y2, y3, y4, y5, y6⟩ := HZ3.out.all
  clear hL3 hx3 HC q0 q1 q2 q3 q4 q5 q6
  simp only [pvv, sv]
  go_wp2_with fail
  have hP9 := HZ3.out.store u2
  have hX9 := Below.pset HX3.out (Nat.le_succ _) u2
  refine bodyPost_ret (v := pvv u2) (res_pred Try.results29 rfl hP9) rfl ⟨_, rfl, ?_, hX9⟩
  rw [HN.out]
  have h1 := HSZ.out
  have h2 := HXW2.out.size
  exact lay_pset HL3.out (by omega) (by omega)
 | false =>
  obtain ⟨f, hf⟩ : ∃ f, Pd.fit p 50 5000 = f := ⟨_, rfl⟩
  have HFF : Hid (Pd.fit p 50 5000 = f) := hf
  have HC : Hid (Calls Try.prog 39 #[pvv ⟨vk, vcol, vn, vm, vs, vset, vkids⟩] w2 fun e w' => e = .returned (.bool f) ∧ Ex w2 w') := bounded_is p _ w2 (Pd.Lay.below _ HLW.out HXW2.out) f hf
  clear hf
  go_wp2_with fail
  go_at_call 39
  refine Calls.mono HC.out ?_
  rintro e w3 ⟨rfl, hx3⟩
  have HX3 : Hid (Ex w w3) := (HX2.out.trans hx3 : Ex w w3)
  have HXW3 : Hid (Ex W w3) := (HXW2.out.trans hx3 : Ex W w3)
  have hP3 := HP.out.below HXW3.out
  obtain ⟨c0, c1, c2, c3, c4, c5, c6⟩ := hP3.all
  simp only at c0 c1 c2 c3 c4 c5 c6
  clear HC hx3 hP3 q0 q1 q2 q3 q4 q5 q6
  cases f with
  | true =>
   have HN : Hid (Pd.normalB p = p) := (by unfold Pd.normalB; rw [if_neg (by rw [HR.out]; simp), if_pos HFF.out] : Pd.normalB p = p)
   have HC : Hid (Calls Try.prog 51 #[pvv ⟨vk, vcol, vn, vm, vs, vset, vkids⟩] w3 fun e w' => ∃ u, e = .returned (pvv u) ∧ Pd.Lay (fun b => w3.heap.size ≤ b) p w' u ∧ Ex w3 w') := copied_is p _ w3 (Pd.Lay.below _ HLW.out HXW3.out) HF.out
   go_wp2_with fail
   go_at_call 51
   refine Calls.mono HC.out ?_
   rintro e w4 ⟨u2, rfl, hL4, hx4⟩
   have HL4 : Hid (Pd.Lay (fun b => w3.heap.size ≤ b) p w4 u2) := hL4
   have HX4 : Hid (Ex w w4) := (HX3.out.trans hx4 : Ex w w4)
   have HZ4 : Hid (PAt w4 (w.heap.size + 1) PV.zero) := (HZ.out.below HXW3.out).below hx4
   obtain ⟨z0, z1, z2, z3, z4, z5, z6⟩ := HZ4.out.fro
   obtain ⟨y0, y1, y2, y3, y4, y5, y6⟩ := HZ4.out.all
   clear hL4 hx4 HC c0 c1 c2 c3 c4 c5 c6
   simp only [pvv, sv]
   go_wp2_with fail
   have hP9 := HZ4.out.store u2
   have hX9 := Below.pset HX4.out (Nat.le_succ _) u2
   refine bodyPost_ret (v := pvv u2) (res_pred Try.results29 rfl hP9) rfl ⟨_, rfl, ?_, hX9⟩
   rw [HN.out]
   have h1 := HSZ.out
   have h2 := HXW3.out.size
   exact lay_pset HL4.out (by omega) (by omega)
  | false =>
   have HN : Hid (Pd.normalB p = Pd.zero) := (by unfold Pd.normalB; rw [if_neg (by rw [HR.out]; simp), if_neg (by rw [HFF.out]; simp)] : Pd.normalB p = Pd.zero)
   have HZ4 : Hid (PAt w3 (w.heap.size + 1) PV.zero) := (HZ.out.below HXW3.out)
   obtain ⟨z0, z1, z2, z3, z4, z5, z6⟩ := HZ4.out.fro
   obtain ⟨y0, y1, y2, y3, y4, y5, y6⟩ := HZ4.out.all
   clear c0 c1 c2 c3 c4 c5 c6
   go_wp2_with fail
   have hP9 := HZ4.out.store PV.zero
   have hX9 := Below.pset HX3.out (Nat.le_succ _) PV.zero
   refine bodyPost_ret (v := pvv PV.zero) (res_pred Try.results29 rfl hP9) rfl ⟨_, rfl, ?_, hX9⟩
   rw [HN.out]
   exact lay_zero _ _
end Go.Proofs.Ytibnhjfeepdddaa
namespace Go.Proofs.Ytibnhjfeepdddaa
namespace Pd
theorem form_nrm : ∀ p, form p = true → ∀ b, form (nrm p b) = true := by
 refine tree ?_
 intro h l ih hf b
 have hf0 := hf
 rw [form_mk, Bool.and_eq_true, List.all_eq_true] at hf
 obtain ⟨hp, hl⟩ := hf
 have hkk := part_kind hp
 rw [nrm_mk]
 split
 ·rename_i h3
  obtain ⟨_, h1⟩ := part_not h3 hp
  obtain ⟨x, rfl⟩ := one_of h1
  exact ih x (by simp) (hl x (by simp)) _
 rename_i h3
 split
 ·rename_i h12
  have ht : turn h.k b = 1 ∨ turn h.k b = 2 := by unfold turn; split <;> omega
  have hall : ∀ y ∈ l.flatMap (fun x => put (turn h.k b) (nrm x b)), form y = true := by
   intro y hy
   obtain ⟨x, hx, hz⟩ := List.mem_flatMap.1 hy
   have hfx := ih x hx (hl x hx) b
   unfold put at hz
   split at hz
   ·rw [← mk_ks (nrm x b), form_mk, Bool.and_eq_true, List.all_eq_true] at hfx
    exact hfx.2 y hz
   ·have : y = nrm x b := by simpa using hz
    rw [this]; exact hfx
  unfold one
  split
  ·rename_i h1
   obtain ⟨x, hx⟩ := one_of h1
   rw [hx]
   exact hall x (by rw [hx]; simp)
  ·rw [form_mk, Bool.and_eq_true, List.all_eq_true]
   refine ⟨?_, hall⟩
   unfold part hk
   rw [if_pos ht]
   simp
 ·split
  ·rw [form_mk, Bool.and_eq_true, List.all_eq_true]
   refine ⟨by unfold part hk; simp, fun x hx => ?_⟩
   have : x = Pr.mk' h l := by simpa using hx
   rw [this]; exact hf0
  ·exact hf0
end Pd
namespace Pu
/-- These flags are set wherever those are. -/
def Fg.le (g f : Fg) : Prop := (g.tk = true → f.tk = true) ∧ (g.zo = true → f.zo = true) ∧ (g.bl = true → f.bl = true)
end Pu
end Go.Proofs.Ytibnhjfeepdddaa
