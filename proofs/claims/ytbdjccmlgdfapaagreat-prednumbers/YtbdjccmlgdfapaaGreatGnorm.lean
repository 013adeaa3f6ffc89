/-
  The document's own normal: Not. The document's own normal: the tests. The document's own normal and Normal.
-/
import Derived.Test.YtbdjccmlgdfapaaGreatGnob
import Derived.Test.YtbdjccmlgdfapaaGreatGnod
import Derived.Test.YtbdjccmlgdfapaaGreatGrt
namespace Go.Proofs.YtbdjccmlgdfapaaGreat
open Go.RowKit
set_option linter.unusedVariables false
set_option linter.unusedSimpArgs false
set_option maxHeartbeats 16000000 in
set_option maxRecDepth 100000 in
theorem rnorm_not (h : Hd) (l : List Pr) (b : Bool) (ih : ∀ k ∈ l, NormC k) (hk : h.k = 3) : NormB b (Pr.mk' h l) := by
 intro B v w hL hBL hF hsz
 have HL0 : Hid (Pd.Lay B (Pr.mk' h l) w v) := hL
 rw [Pd.form_mk, Bool.and_eq_true] at hF
 obtain ⟨hpt, hfk⟩ := hF
 rw [Pd.size_mk] at hsz
 obtain ⟨hHd, hkn, hkB, hkc, hkm, hk0⟩ := hL.head
 obtain ⟨vk, vcol, vn, vm, vs, vset, ⟨p, n, cap⟩⟩ := v
 simp only at hkn hkB hkc hkm hk0
 subst hkn
 unfold maxLen at hkm
 have hvk : vk = h.k := hHd.1.1
 rw [← hvk] at hk
 have HPT : Hid (Pd.part h l.length = true) := hpt
 have HVK : Hid (vk = h.k) := hvk
 have HKH : Hid _ := hk
 have HIH : Hid (∀ k ∈ l, NormC k) := ih
 have HFK : Hid (∀ k ∈ l, Pd.form k = true) := (by simpa using hfk : ∀ k ∈ l, Pd.form k = true)
 have HSUM : Hid ((l.map Pd.size).sum ≤ 39) := (by omega : (l.map Pd.size).sum ≤ 39)
 have HLw : Hid (Pd.Lay B (Pr.mk' h l) w ⟨vk, vcol, vn, vm, vs, vset, p, l.length, cap⟩) := hL
 have HBL : Hid (∀ x, B x → x < w.heap.size) := hBL
 obtain ⟨W, hW⟩ : ∃ W, (w.alloc (pb ⟨vk, vcol, vn, vm, vs, vset, p, l.length, cap⟩)).alloc pb0 = W := ⟨_, rfl⟩
 have hX1 : Ex w (w.alloc (pb ⟨vk, vcol, vn, vm, vs, vset, p, l.length, cap⟩)) := (Below.refl _ _).alloc (Nat.le_refl _) _
 have hXW : Ex w W := by rw [← hW]; exact Below.alloc hX1 (by simp) _
 have HXW : Hid (Ex w W) := hXW
 have HSZ : Hid (W.heap.size = w.heap.size + 2) := (by rw [← hW]; simp : W.heap.size = w.heap.size + 2)
 have HP : Hid (PAt W w.heap.size ⟨vk, vcol, vn, vm, vs, vset, p, l.length, cap⟩) := (by rw [← hW]; exact (PAt.new w _).alloc _ : PAt W w.heap.size _)
 have HZ : Hid (PAt W (w.heap.size + 1) PV.zero) := (by rw [← hW]; exact PAt.newat (w.alloc (pb ⟨vk, vcol, vn, vm, vs, vset, p, l.length, cap⟩)) (w.heap.size + 1) PV.zero (by simp) : PAt W _ _)
 have HWW : Hid ((w.alloc (pb ⟨vk, vcol, vn, vm, vs, vset, p, l.length, cap⟩)).alloc pb0 = W) := hW
 obtain ⟨c0, c1, c2, c3, c4, c5, c6⟩ := HP.out.all
 simp only at c0 c1 c2 c3 c4 c5 c6
 clear hL hHd hkB ih hX1 hXW hfk hpt hsz hBL hvk hk
 unfold pvv
 simp only [sv]
 go_enter Tryz.func42, Tryz.ntmps42
 have hk := HKH.out
 obtain rfl : vk = 3 := hk
 obtain ⟨x, rfl⟩ := Pd.one_of (Pd.part_not HVK.out.symm HPT.out).2
 simp only [List.length_singleton] at *
 have HN : Hid (Pd.nrm (Pr.mk' h [x]) b = Pd.nrm x (!b)) := (by rw [Pd.nrm_mk, if_pos HVK.out.symm]; rfl : Pd.nrm (Pr.mk' h [x]) b = _)
 obtain ⟨bb, off, u, hpp, hbg, hLk, e0, e1, e2, e3, e4, e5, e6⟩ := (Pd.Lay.below _ HLw.out HXW.out).kid (i := 0) (by simp)
 simp only [Nat.zero_mul, Nat.mul_zero, Nat.add_zero, List.getElem_cons_zero] at hpp hLk e0 e1 e2 e3 e4 e5 e6
 subst hpp
 have hks : Pd.size x ≤ 40 := by have := HSUM.out; simp at this; omega
 have HC : Hid (Calls Tryz.prog 42 #[pvv u, .bool (!b)] W fun e w' => ∃ u, e = .returned (pvv u) ∧ Pd.Lay (fun x => B x ∨ W.heap.size ≤ x) (Pd.nrm x (!b)) w' u ∧ Ex W w') := HIH.out x (by simp) (!b) B u W hLk (fun x hx => Nat.lt_of_lt_of_le (HBL.out x hx) HXW.out.size) (HFK.out x (by simp)) hks
 clear hLk hbg hks HIH HFK HSUM HKH HWW
 go_wp2_with fail
 go_at_call 42
 refine Calls.mono HC.out ?_
 rintro e w2 ⟨u2, rfl, hL2, hx2⟩
 have HL2 : Hid (Pd.Lay (fun x => B x ∨ W.heap.size ≤ x) (Pd.nrm x (!b)) w2 u2) := hL2
 have HX2 : Hid (Ex w w2) := (HXW.out.trans hx2 : Ex w w2)
 have HZ2 : Hid (PAt w2 (w.heap.size + 1) PV.zero) := HZ.out.below hx2
 obtain ⟨z0, z1, z2, z3, z4, z5, z6⟩ := HZ2.out.fro
 obtain ⟨y0, y1, y2, y3, y4, y5, y6⟩ := HZ2.out.all
 clear hL2 hx2 HC e0 e1 e2 e3 e4 e5 e6
 simp only [pvv, sv]
 go_wp2_with fail
 have hP9 := HZ2.out.store u2
 have hX9 := Below.pset HX2.out (Nat.le_succ _) u2
 refine bodyPost_ret (v := pvv u2) (res_pred Tryz.results42 rfl hP9) rfl ⟨_, rfl, ?_, hX9⟩
 rw [HN.out]
 exact Pd.Lay.mono (fun x hx => hx.imp id fun h => by have := HSZ.out; omega) _ (Pd.Lay.far (row := some (w.heap.size + 1)) (fun x hx e => by simp at e; rcases hx with hx | hx; (have := HBL.out x hx; omega); have := HSZ.out; omega) _ HL2.out (grown_pset _ _ _))
end Go.Proofs.YtbdjccmlgdfapaaGreat
namespace Go.Proofs.YtbdjccmlgdfapaaGreat
open Go.RowKit
set_option linter.unusedVariables false
set_option linter.unusedSimpArgs false
set_option maxHeartbeats 16000000 in
set_option maxRecDepth 100000 in
theorem rnorm_test (h : Hd) (l : List Pr) (b : Bool) (ih : ∀ k ∈ l, NormC k) (hk : 4 ≤ h.k) : NormB b (Pr.mk' h l) := by
 intro B v w hL hBL hF hsz
 have HL0 : Hid (Pd.Lay B (Pr.mk' h l) w v) := hL
 rw [Pd.form_mk, Bool.and_eq_true] at hF
 obtain ⟨hpt, hfk⟩ := hF
 rw [Pd.size_mk] at hsz
 obtain ⟨hHd, hkn, hkB, hkc, hkm, hk0⟩ := hL.head
 obtain ⟨vk, vcol, vn, vm, vs, vset, ⟨p, n, cap⟩⟩ := v
 simp only at hkn hkB hkc hkm hk0
 subst hkn
 unfold maxLen at hkm
 have hvk : vk = h.k := hHd.1.1
 rw [← hvk] at hk
 have HPT : Hid (Pd.part h l.length = true) := hpt
 have HVK : Hid (vk = h.k) := hvk
 have HKH : Hid _ := hk
 have HIH : Hid (∀ k ∈ l, NormC k) := ih
 have HFK : Hid (∀ k ∈ l, Pd.form k = true) := (by simpa using hfk : ∀ k ∈ l, Pd.form k = true)
 have HSUM : Hid ((l.map Pd.size).sum ≤ 39) := (by omega : (l.map Pd.size).sum ≤ 39)
 have HLw : Hid (Pd.Lay B (Pr.mk' h l) w ⟨vk, vcol, vn, vm, vs, vset, p, l.length, cap⟩) := hL
 have HBL : Hid (∀ x, B x → x < w.heap.size) := hBL
 obtain ⟨W, hW⟩ : ∃ W, (w.alloc (pb ⟨vk, vcol, vn, vm, vs, vset, p, l.length, cap⟩)).alloc pb0 = W := ⟨_, rfl⟩
 have hX1 : Ex w (w.alloc (pb ⟨vk, vcol, vn, vm, vs, vset, p, l.length, cap⟩)) := (Below.refl _ _).alloc (Nat.le_refl _) _
 have hXW : Ex w W := by rw [← hW]; exact Below.alloc hX1 (by simp) _
 have HXW : Hid (Ex w W) := hXW
 have HSZ : Hid (W.heap.size = w.heap.size + 2) := (by rw [← hW]; simp : W.heap.size = w.heap.size + 2)
 have HP : Hid (PAt W w.heap.size ⟨vk, vcol, vn, vm, vs, vset, p, l.length, cap⟩) := (by rw [← hW]; exact (PAt.new w _).alloc _ : PAt W w.heap.size _)
 have HZ : Hid (PAt W (w.heap.size + 1) PV.zero) := (by rw [← hW]; exact PAt.newat (w.alloc (pb ⟨vk, vcol, vn, vm, vs, vset, p, l.length, cap⟩)) (w.heap.size + 1) PV.zero (by simp) : PAt W _ _)
 have HWW : Hid ((w.alloc (pb ⟨vk, vcol, vn, vm, vs, vset, p, l.length, cap⟩)).alloc pb0 = W) := hW
 obtain ⟨c0, c1, c2, c3, c4, c5, c6⟩ := HP.out.all
 simp only at c0 c1 c2 c3 c4 c5 c6
 clear hL hHd hkB ih hX1 hXW hfk hpt hsz hBL hvk hk
 unfold pvv
 simp only [sv]
 go_enter Tryz.func42, Tryz.ntmps42
 have hk := HKH.out
 have t3 : (vk == 3) = false := beq_eq_false_iff_ne.2 (by omega)
 have t1 : (vk == 1) = false := beq_eq_false_iff_ne.2 (by omega)
 have t2 : (vk == 2) = false := beq_eq_false_iff_ne.2 (by omega)
 have HN : Hid (Pd.nrm (Pr.mk' h l) b = if b = true then Pr.mk' (Pd.hk 3) [Pr.mk' h l] else Pr.mk' h l) := (by rw [Pd.nrm_mk, if_neg (by rw [← HVK.out]; omega), if_neg (by rw [← HVK.out]; omega)] : Pd.nrm (Pr.mk' h l) b = _)
 have HLW : Hid (Pd.Lay B (Pr.mk' h l) W ⟨vk, vcol, vn, vm, vs, vset, p, l.length, cap⟩) := Pd.Lay.below _ HLw.out HXW.out
 clear HIH HFK HSUM HKH hk hW
 go_upto_region 19 with fail
 rw [HWW.out]
 clear HWW hk0 hkc hkm t1 t2 t3 c0 c1 c2 c3 c4 c5 c6
 obtain ⟨v9, hv9⟩ : ∃ v9 : PV, ⟨vk, vcol, vn, vm, vs, vset, p, l.length, cap⟩ = v9 := ⟨_, rfl⟩
 rw [hv9] at HP HLW
 clear hv9
 obtain ⟨c0, c1, c2, c3, c4, c5, c6⟩ := HP.out.all
 cases b with
 | false =>
  obtain ⟨z0, z1, z2, z3, z4, z5, z6⟩ := HZ.out.fro
  obtain ⟨y0, y1, y2, y3, y4, y5, y6⟩ := HZ.out.all
  go_wp2_with fail
  have hP9 := HZ.out.store v9
  have hX9 := Below.pset HXW.out (Nat.le_succ _) v9
  refine bodyPost_ret (v := pvv v9) (res_pred Tryz.results42 rfl hP9) rfl ⟨_, rfl, ?_, hX9⟩
  rw [HN.out]
  first | rw [if_neg (by simp)] | skip
  exact Pd.Lay.mono (fun x hx => .inl hx) _ (Pd.Lay.far (row := some (w.heap.size + 1)) (fun x hx e => by simp at e; have := HBL.out x hx; omega) _ HLW.out (grown_pset _ _ _))
 | true =>
  obtain ⟨w4, hw4⟩ : ∃ w4, W.alloc (pb v9) = w4 := ⟨_, rfl⟩
  have hX34 : Ex W w4 := by rw [← hw4]; exact (Below.refl _ _).alloc (Nat.le_refl _) _
  have HX4 : Hid (Ex w w4) := (HXW.out.trans hX34 : Ex w w4)
  have HZ4 : Hid (PAt w4 (w.heap.size + 1) PV.zero) := HZ.out.below hX34
  have HR4 : Hid (RdW 7 pc w4 (some ⟨W.heap.size, 0, none⟩) 1 [v9]) := (by rw [← hw4]; exact RdW.laid pc_len W [v9] (by simp) : RdW 7 pc w4 _ 1 [v9])
  have HL4 : Hid (Pd.Lays B w4 [v9] [Pr.mk' h l]) := Pd.Lays.one (Pd.Lay.below _ HLW.out hX34)
  obtain ⟨z0, z1, z2, z3, z4, z5, z6⟩ := HZ4.out.fro
  obtain ⟨y0, y1, y2, y3, y4, y5, y6⟩ := HZ4.out.all
  clear hX34
  go_wp2_with fail
  have hP9 := HZ4.out.store ⟨3, [], 0, 0, [], (none, 0, 0), some ⟨W.heap.size, 0, none⟩, 1, 1⟩
  have hX9 := Below.pset HX4.out (Nat.le_succ _) ⟨3, [], 0, 0, [], (none, 0, 0), some ⟨W.heap.size, 0, none⟩, 1, 1⟩
  have hgr := grown_pset w4 (w.heap.size + 1) ⟨3, [], 0, 0, [], (none, 0, 0), some ⟨W.heap.size, 0, none⟩, 1, 1⟩
  refine bodyPost_ret (v := pvv ⟨3, [], 0, 0, [], (none, 0, 0), some ⟨W.heap.size, 0, none⟩, 1, 1⟩) (res_pred Tryz.results42 rfl hP9) rfl ⟨_, rfl, ?_, hX9⟩
  rw [HN.out, if_pos trivial, Pd.lay_mk]
  have h1 := HSZ.out
  refine ⟨⟨⟨rfl, rfl, rfl, rfl, rfl⟩, rfl, Rd.nil _, fun h0 => by simp at h0⟩, rfl, fun _ c off e => by simp at e; omega, [v9], ?_, ?_⟩
  ·exact HR4.out.far hgr (fun _ c off e => by simp at e; simp; omega)
  ·exact (HL4.out.far (row := some (w.heap.size + 1)) (fun c hc e => by simp at e; have := HBL.out c hc; omega) hgr).mono fun c hc => .inl hc
end Go.Proofs.YtbdjccmlgdfapaaGreat
namespace Go.Proofs.YtbdjccmlgdfapaaGreat
open Go.RowKit
set_option linter.unusedVariables false
set_option linter.unusedSimpArgs false
/-- normal, whatever it is given. -/
theorem rnorm_is : ∀ q, NormC q := by
 intro q
 refine Pd.tree (fun h l ih => ?_) q
 intro b B v w hL hB hF hs
 have hp : Pd.part h l.length = true := by
  have := hF
  rw [Pd.form_mk, Bool.and_eq_true] at this
  exact this.1
 have hk := Pd.part_kind hp
 by_cases h1 : h.k = 1
 ·cases b with
  | false => exact rnorm_1f h l ih h1 B v w hL hB hF hs
  | true => exact rnorm_1t h l ih h1 B v w hL hB hF hs
 by_cases h2 : h.k = 2
 ·cases b with
  | false => exact rnorm_2f h l ih h2 B v w hL hB hF hs
  | true => exact rnorm_2t h l ih h2 B v w hL hB hF hs
 by_cases h3 : h.k = 3
 ·exact rnorm_not h l b ih h3 B v w hL hB hF hs
 exact rnorm_test h l b ih (by omega) B v w hL hB hF hs
set_option maxHeartbeats 4000000 in
set_option maxRecDepth 100000 in
/-- Normal: what it answers may share the memory of what came in. -/
theorem rNormal_is (q : Pr) (B : Nat → Prop) (v : PV) (w : World) (hL : Pd.Lay B q w v) (hB : ∀ x, B x → x < w.heap.size) (hF : Pd.Fine q) (hs : Pd.size q ≤ 1000000000) : Calls Tryz.prog 13 #[pvv v] w fun e w' => ∃ u, e = .returned (pvv u) ∧ Pd.Lay (fun x => B x ∨ w.heap.size ≤ x) (Pd.normal q) w' u ∧ Ex w w' := by
 obtain ⟨W, hW⟩ : ∃ W, (w.alloc (pb v)).alloc pb0 = W := ⟨_, rfl⟩
 have hX1 : Ex w (w.alloc (pb v)) := (Below.refl _ _).alloc (Nat.le_refl _) _
 have hXW : Ex w W := by rw [← hW]; exact Below.alloc hX1 (by simp) _
 have HXW : Hid (Ex w W) := hXW
 have HSZ : Hid (W.heap.size = w.heap.size + 2) := (by rw [← hW]; simp : W.heap.size = w.heap.size + 2)
 have HP : Hid (PAt W w.heap.size v) := (by rw [← hW]; exact (PAt.new w _).alloc _ : PAt W w.heap.size _)
 have HZ : Hid (PAt W (w.heap.size + 1) PV.zero) := (by
  rw [← hW]
  exact PAt.newat (w.alloc (pb v)) (w.heap.size + 1) PV.zero (by simp) : PAt W (w.heap.size + 1) PV.zero)
 have HLW : Hid (Pd.Lay B q W v) := (Pd.Lay.below _ hL hXW : Pd.Lay _ _ W _)
 have HBL : Hid (∀ x, B x → x < w.heap.size) := hB
 have HF : Hid (Pd.Fine q) := hF
 obtain ⟨p0, p1, p2, p3, p4, p5, p6⟩ := HP.out.all
 obtain ⟨r, hr⟩ : ∃ r, Pd.right q = r := ⟨_, rfl⟩
 have HR : Hid (Pd.right q = r) := hr
 have HC : Hid (Calls Tryz.prog 10 #[pvv v] W fun e w' => e = .returned (.bool r) ∧ Ex W w') := rRight_is q _ W (Pd.Lay.mono (fun _ _ => trivial) _ HLW.out) hF hs r hr
 clear hL hF hX1 hXW hr hB hs
 unfold pvv
 simp only [sv]
 go_enter Tryz.func13, Tryz.ntmps13
 go_wp2_with fail
 go_at_call 10
 refine Calls.mono HC.out ?_
 rintro e w2 ⟨rfl, hx2⟩
 have HX2 : Hid (Ex w w2) := (HXW.out.trans hx2 : Ex w w2)
 have HXW2 : Hid (Ex W w2) := hx2
 have hP2 := HP.out.below hx2
 obtain ⟨q0, q1, q2, q3, q4, q5, q6⟩ := hP2.all
 clear HC hx2 hP2 p0 p1 p2 p3 p4 p5 p6 hW
 cases r with
 | true =>
  have HC : Hid (Calls Tryz.prog 42 #[pvv v, .bool false] w2 fun e w' => ∃ u, e = .returned (pvv u) ∧ Pd.Lay (fun x => B x ∨ w2.heap.size ≤ x) (Pd.nrm q false) w' u ∧ Ex w2 w') := rnorm_is q false B _ w2 (Pd.Lay.below _ HLW.out HXW2.out) (fun x hx => Nat.lt_of_lt_of_le (HBL.out x hx) HX2.out.size) (Pd.form_fit HR.out).1 (Pd.form_fit HR.out).2.1
  have HN : Hid (Pd.normal q = Pd.nrm q false) := (by unfold Pd.normal; rw [if_pos HR.out] : Pd.normal q = Pd.nrm q false)
  go_wp2_with fail
  go_at_call 42
  refine Calls.mono HC.out ?_
  rintro e w3 ⟨u2, rfl, hL3, hx3⟩
  have HL3 : Hid (Pd.Lay (fun x => B x ∨ w2.heap.size ≤ x) (Pd.nrm q false) w3 u2) := hL3
  have HX3 : Hid (Ex w w3) := (HX2.out.trans hx3 : Ex w w3)
  have HZ3 : Hid (PAt w3 (w.heap.size + 1) PV.zero) := (HZ.out.below HXW2.out).below hx3
  obtain ⟨z0, z1, z2, z3, z4, z5, z6⟩ := HZ3.out.fro
  obtain ⟨y0, y1, y2, y3, y4, y5, y6⟩ := HZ3.out.all
  clear hL3 hx3 HC q0 q1 q2 q3 q4 q5 q6
  simp only [pvv, sv]
  go_wp2_with fail
  have hP9 := HZ3.out.store u2
  have hX9 := Below.pset HX3.out (Nat.le_succ _) u2
  refine bodyPost_ret (v := pvv u2) (res_pred Tryz.results13 rfl hP9) rfl ⟨_, rfl, ?_, hX9⟩
  rw [HN.out]
  have h1 := HSZ.out
  have h2 := HXW2.out.size
  exact Pd.Lay.mono (fun x hx => hx.imp id fun h => by omega) _ (Pd.Lay.far (row := some (w.heap.size + 1)) (fun x hx e => by simp at e; rcases hx with hx | hx; (have := HBL.out x hx; omega); omega) _ HL3.out (grown_pset _ _ _))
 | false =>
  have HN : Hid (Pd.normal q = q) := (by unfold Pd.normal; rw [if_neg (by rw [HR.out]; simp)] : Pd.normal q = q)
  have HZ2 : Hid (PAt w2 (w.heap.size + 1) PV.zero) := HZ.out.below HXW2.out
  obtain ⟨z0, z1, z2, z3, z4, z5, z6⟩ := HZ2.out.fro
  obtain ⟨y0, y1, y2, y3, y4, y5, y6⟩ := HZ2.out.all
  go_wp2_with fail
  have hP9 := HZ2.out.store v
  have hX9 := Below.pset HX2.out (Nat.le_succ _) v
  refine bodyPost_ret (v := pvv v) (res_pred Tryz.results13 rfl hP9) rfl ⟨_, rfl, ?_, hX9⟩
  rw [HN.out]
  exact Pd.Lay.mono (fun x hx => .inl hx) _ (Pd.Lay.far (row := some (w.heap.size + 1)) (fun x hx e => by simp at e; have := HBL.out x hx; omega) _ (Pd.Lay.below _ HLW.out HXW2.out) (grown_pset _ _ _))
end Go.Proofs.YtbdjccmlgdfapaaGreat
