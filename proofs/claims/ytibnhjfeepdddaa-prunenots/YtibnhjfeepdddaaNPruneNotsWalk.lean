/-
  The walk of PruneNots.
-/
import Derived.Test.YtibnhjfeepdddaaM36
import Derived.Test.YtibnhjfeepdddaaM34
import Derived.Test.YtibnhjfeepdddaaM37
import Derived.Deep.CutBlock
namespace Go.Proofs.Ytibnhjfeepdddaa
open Go.RowKit
set_option linter.unusedVariables false
theorem TAt.fars {w w' : World} {g : Nat} {v : TV} {t : TypeId} {row : Option Nat} (h : TAt w g v t) (hg : w.grownBy w' row) (hne : row ≠ some g) : TAt w' g v t := by
  unfold TAt; rw [hg.block g h.lt (Ne.symm hne)]; exact h
theorem Pd.right_kids {k : Int} (hk : k = 1 ∨ k = 2) {l : List Pr} (h : Pd.right (Pr.mk' (Pd.hk k) l) = true) : ∀ x ∈ l, Pd.right x = true := by
  intro x hx
  unfold Pd.right at h ⊢
  rw [Pd.deep_mk, Pd.size_mk, Pd.form_mk] at h
  simp only [Bool.and_eq_true, decide_eq_true_eq, List.all_eq_true] at h ⊢
  have h1 : ∀ (m : List Pr), x ∈ m → Pd.deep x ≤ (m.map Pd.deep).foldr max 0 := by
    intro m
    induction m with
    | nil => simp
    | cons y m ih =>
      intro hm
      simp only [List.map_cons, List.foldr_cons]
      rcases List.mem_cons.1 hm with rfl | hm
      · omega
      · have := ih hm; omega
  have h2 : ∀ (m : List Pr), x ∈ m → Pd.size x ≤ (m.map Pd.size).sum := by
    intro m
    induction m with
    | nil => simp
    | cons y m ih =>
      intro hm
      simp only [List.map_cons, List.sum_cons]
      rcases List.mem_cons.1 hm with rfl | hm
      · omega
      · have := ih hm; omega
  have g1 := h1 l hx
  have g2 := h2 l hx
  exact ⟨⟨by omega, by omega⟩, h.2.2 x hx⟩
theorem Pd.right_two {l : List Pr} (h : Pd.right (Pr.mk' (Pd.hk 1) l) = true) : Pd.right (Pr.mk' (Pd.hk 2) l) = true := by
  unfold Pd.right at h ⊢
  rw [Pd.deep_mk, Pd.size_mk, Pd.form_mk] at h ⊢
  exact h
theorem Pu.nots {s : St} (f : Fg) (h0 : s.rows ≠ 0) {P Q : Pr} (h1 : Pd.right (Pd.nt P) = true) (h2 : Pd.right (Pr.mk' (Pd.hk 1) [P, Q]) = true) : (1 ≤ Pu.judge s f P ∧ Pu.judge s f P ≤ 3) ∧ (1 ≤ Pu.judge s f Q ∧ Pu.judge s f Q ≤ 3) ∧ Pu.judge s f (Pr.mk' (Pd.hk 1) [P, Q]) = min (Pu.judge s f P) (Pu.judge s f Q) ∧ Pu.judge s f (Pr.mk' (Pd.hk 2) [P, Q]) = max (Pu.judge s f P) (Pu.judge s f Q) ∧ Pu.judge s f (Pd.nt P) + Pu.judge s f P = 4 := by
  have hP := Pd.right_kids (.inl rfl) h2 P (by simp)
  have hQ := Pd.right_kids (.inl rfl) h2 Q (by simp)
  have rP := Pu.jd_range s f P (Pu.right_form hP)
  have rQ := Pu.jd_range s f Q (Pu.right_form hQ)
  rw [Pu.judge_is h0 f h1, Pu.judge_is h0 f h2, Pu.judge_is h0 f (Pd.right_two h2), Pu.judge_is h0 f hP, Pu.judge_is h0 f hQ]
  have eA : Pu.jd s f (Pr.mk' (Pd.hk 1) [P, Q]) = Pu.lo [Pu.jd s f P, Pu.jd s f Q] := by rw [Pu.jd_mk]; rfl
  have eS : Pu.jd s f (Pr.mk' (Pd.hk 2) [P, Q]) = Pu.hi [Pu.jd s f P, Pu.jd s f Q] := by rw [Pu.jd_mk]; rfl
  have eN : Pu.jd s f (Pd.nt P) = 4 - Pu.jd s f P := by unfold Pd.nt; rw [Pu.jd_mk]; rfl
  rw [eA, eS, eN, Pu.lo_two rP.2 rQ.2, Pu.hi_two rP.1 rQ.1]
  exact ⟨rP, rQ, rfl, rfl, by omega⟩
end Go.Proofs.Ytibnhjfeepdddaa
namespace Go.Proofs.Ytibnhjfeepdddaa.pruneNots
open Go.RowKit
set_option linter.unusedVariables false
set_option linter.unusedSimpArgs false
set_option maxHeartbeats 16000000 in
set_option maxRecDepth 100000 in
theorem walk (v0 : PV) (p0 : Pr) (v1 : PV) (p1 : Pr) (t2 : TV) (s2 : St) (a3 : Int) (w : World) (b0 : Pd.Lay (fun _ => True) p0 w v0) (m0 : Pd.Raw p0) (b1 : Pd.Lay (fun _ => True) p1 w v1) (m1 : Pd.Raw p1) (b2 : StOk w t2 s2) (m2 : StIn s2) (w3 : -9223372036854775808 ≤ a3 ∧ a3 ≤ 9223372036854775807) :
    Calls Try.prog 6 #[pvv v0, pvv v1, tvv t2, .int .i64 a3] w fun e w' => e = .returned (.bool true) ∧ Below w.heap.size w w' := by
  obtain ⟨vk, vcol, vn, vm, vs, vset, vkids⟩ := v0
  obtain ⟨uk, ucol, un, um, us, uset, ukids⟩ := v1
  obtain ⟨tr, tl, th, ⟨za, zn, zc⟩, ⟨ba, bn, bc'⟩⟩ := t2
  have htr : tr = s2.rows := b2.1.1
  obtain ⟨W, hW⟩ : ∃ W, ((w.alloc (pb ⟨vk, vcol, vn, vm, vs, vset, vkids⟩)).alloc (pb ⟨uk, ucol, un, um, us, uset, ukids⟩)).alloc (tb ⟨tr, tl, th, (za, zn, zc), (ba, bn, bc')⟩ 38) = W := ⟨_, rfl⟩
  have e1 : Ex w (w.alloc (pb ⟨vk, vcol, vn, vm, vs, vset, vkids⟩)) := (Below.refl _ _).alloc (Nat.le_refl _) _
  have e2 : Ex w ((w.alloc (pb ⟨vk, vcol, vn, vm, vs, vset, vkids⟩)).alloc (pb ⟨uk, ucol, un, um, us, uset, ukids⟩)) := Below.alloc e1 (by simp) _
  have hXW : Ex w W := by rw [← hW]; exact Below.alloc e2 (by simp; omega) _
  have HXW : Hid (Ex w W) := hXW
  have HSZ : Hid (W.heap.size = w.heap.size + 1 + 1 + 1) := (by rw [← hW]; simp : W.heap.size = w.heap.size + 1 + 1 + 1)
  have HP : Hid (PAt W w.heap.size ⟨vk, vcol, vn, vm, vs, vset, vkids⟩) := (by rw [← hW]; exact ((PAt.new w _).alloc _).alloc _ : PAt W w.heap.size _)
  have HQ : Hid (PAt W (w.heap.size + 1) ⟨uk, ucol, un, um, us, uset, ukids⟩) := (by
    rw [← hW]
    exact (PAt.newat (w.alloc (pb ⟨vk, vcol, vn, vm, vs, vset, vkids⟩)) (w.heap.size + 1) _ (by simp)).alloc _ : PAt W (w.heap.size + 1) _)
  have HT : Hid (TAt W (w.heap.size + 1 + 1) ⟨tr, tl, th, (za, zn, zc), (ba, bn, bc')⟩ 38) := (by
    have h := TAt.new ((w.alloc (pb ⟨vk, vcol, vn, vm, vs, vset, vkids⟩)).alloc (pb ⟨uk, ucol, un, um, us, uset, ukids⟩)) ⟨tr, tl, th, (za, zn, zc), (ba, bn, bc')⟩ 38
    have hs : ((w.alloc (pb ⟨vk, vcol, vn, vm, vs, vset, vkids⟩)).alloc (pb ⟨uk, ucol, un, um, us, uset, ukids⟩)).heap.size = w.heap.size + 1 + 1 := by simp
    rw [hs] at h
    rw [← hW]; exact h : TAt W (w.heap.size + 1 + 1) _ 38)
  have HM0 : Hid (Pd.Raw p0) := m0
  have HM1 : Hid (Pd.Raw p1) := m1
  have HB1 : Hid (Pd.Lay (fun _ => True) p1 w ⟨uk, ucol, un, um, us, uset, ukids⟩) := b1
  have HB2 : Hid (StOk w ⟨tr, tl, th, (za, zn, zc), (ba, bn, bc')⟩ s2) := b2
  have HSF : Hid (StFine s2) := m2.fine
  have HC0 : Hid (Calls Try.prog 15 #[pvv ⟨vk, vcol, vn, vm, vs, vset, vkids⟩, .int .i64 (3 : Nat)] W fun e w' => ∃ u, e = .returned (pvv u) ∧ Pd.Lay (fun b => W.heap.size ≤ b) (Pd.cut p0 3) w' u ∧ Ex W w') := cut_is p0 _ W 3 (Pd.Lay.below _ b0 hXW) m0 (by omega)
  obtain ⟨p0', p1', p2', p3', p4', p5', p6'⟩ := HP.out.all
  simp only at p0' p1' p2' p3' p4' p5' p6'
  simp only [tb, sv] at hW
  have HTR : Hid (tr = s2.rows) := htr
  clear e1 e2 hXW b0 m0 b1 m1 b2 m2 w3 htr
  unfold pvv tvv
  simp only [sv]
  go_enter Try.func6, Try.ntmps6
  go_wp2_with fail
  go_at_call 15
  refine Calls.mono HC0.out ?_
  rintro e w1 ⟨xP, rfl, hL1, hx1⟩
  have hP1 := HP.out.below hx1
  obtain ⟨w2, hw2⟩ : ∃ w2, pset w1 w.heap.size xP = w2 := ⟨_, rfl⟩
  have hg2 : w1.grownBy w2 (some w.heap.size) := by rw [← hw2]; exact grown_pset _ _ _
  have hX2 : Ex w w2 := Below.grown (HXW.out.trans hx1) hg2 (HXW.out.trans hx1).size (fun g hg => by simp at hg; omega)
  have HX2 : Hid (Ex w w2) := hX2
  have HP2 : Hid (PAt w2 w.heap.size xP) := (by rw [← hw2]; exact hP1.store xP : PAt w2 _ _)
  have HQ2 : Hid (PAt w2 (w.heap.size + 1) ⟨uk, ucol, un, um, us, uset, ukids⟩) := ((HQ.out.below hx1).far hg2 (by simp) : PAt w2 _ _)
  have HT2 : Hid (TAt w2 (w.heap.size + 1 + 1) ⟨tr, tl, th, (za, zn, zc), (ba, bn, bc')⟩ 38) := ((HT.out.below hx1).fars hg2 (by simp; omega) : TAt w2 _ _ _)
  have HL2 : Hid (Pd.Lay (fun b => W.heap.size ≤ b) (Pd.cut p0 3) w2 xP) := (Pd.Lay.far (row := some w.heap.size) (fun b hb e => by simp at e; have := HSZ.out; omega) _ hL1 hg2 : Pd.Lay _ _ w2 xP)
  have HS2 : Hid (W.heap.size ≤ w2.heap.size) := (Nat.le_trans hx1.size hg2.size : W.heap.size ≤ w2.heap.size)
  have HC1 : Hid (Calls Try.prog 15 #[pvv ⟨uk, ucol, un, um, us, uset, ukids⟩, .int .i64 (3 : Nat)] w2 fun e w' => ∃ u, e = .returned (pvv u) ∧ Pd.Lay (fun b => w2.heap.size ≤ b) (Pd.cut p1 3) w' u ∧ Ex w2 w') := cut_is p1 _ w2 3 (Pd.Lay.below _ HB1.out hX2) HM1.out (by omega)
  obtain ⟨f0, f1, f2, f3, f4, f5, f6⟩ := hP1.fro
  obtain ⟨c0, c1, c2, c3, c4, c5, c6⟩ := hP1.all
  obtain ⟨q0, q1, q2, q3, q4, q5, q6⟩ := HQ2.out.all
  simp only at c0 c1 c2 c3 c4 c5 c6 q0 q1 q2 q3 q4 q5 q6
  clear hP1 hg2 hX2 hL1 hx1 HC0 p0' p1' p2' p3' p4' p5' p6' hW
  simp only [pvv, sv]
  go_wp2_with fail
  go_at_call 15
  refine Calls.mono HC1.out ?_
  rintro e w3' ⟨xQ, rfl, hL3, hx3⟩
  have hQ3 := HQ2.out.below hx3
  obtain ⟨w4', hw4'⟩ : ∃ w4', pset w3' (w.heap.size + 1) xQ = w4' := ⟨_, rfl⟩
  have hg4 : w3'.grownBy w4' (some (w.heap.size + 1)) := by rw [← hw4']; exact grown_pset _ _ _
  have hX4 : Ex w w4' := Below.grown (HX2.out.trans hx3) hg4 (HX2.out.trans hx3).size (fun g hg => by simp at hg; omega)
  have HX4 : Hid (Ex w w4') := hX4
  have HP4 : Hid (PAt w4' w.heap.size xP) := ((HP2.out.below hx3).far hg4 (by simp) : PAt w4' _ _)
  have HQ4 : Hid (PAt w4' (w.heap.size + 1) xQ) := (by rw [← hw4']; exact hQ3.store xQ : PAt w4' _ _)
  have HT4 : Hid (TAt w4' (w.heap.size + 1 + 1) ⟨tr, tl, th, (za, zn, zc), (ba, bn, bc')⟩ 38) := ((HT2.out.below hx3).fars hg4 (by simp) : TAt w4' _ _ _)
  have HL4 : Hid (Pd.Lay (fun _ => True) (Pd.cut p0 3) w4' xP) := (Pd.Lay.mono (fun _ _ => trivial) _ (Pd.Lay.far (row := some (w.heap.size + 1)) (fun b hb e => by simp at e; have := HSZ.out; omega) _ (Pd.Lay.below _ HL2.out hx3) hg4) : Pd.Lay _ _ w4' xP)
  have HM4 : Hid (Pd.Lay (fun _ => True) (Pd.cut p1 3) w4' xQ) := (Pd.Lay.mono (fun _ _ => trivial) _ (Pd.Lay.far (row := some (w.heap.size + 1)) (fun b hb e => by simp at e; have := HSZ.out; have h2 := HS2.out; omega) _ hL3 hg4) : Pd.Lay _ _ w4' xQ)
  obtain ⟨g0, g1, g2, g3, g4, g5, g6⟩ := hQ3.fro
  obtain ⟨d0, d1, d2, d3, d4, d5, d6⟩ := hQ3.all
  obtain ⟨k0, k1, k2, k3, k4, k5, k6⟩ := HP4.out.all
  obtain ⟨j0, j1, j2, j3, j4, j5, j6⟩ := HQ4.out.all
  simp only at d0 d1 d2 d3 d4 d5 d6
  obtain ⟨P, hPc⟩ : ∃ P, Pd.cut p0 3 = P := ⟨_, rfl⟩
  obtain ⟨Q, hQc⟩ : ∃ Q, Pd.cut p1 3 = Q := ⟨_, rfl⟩
  have HFP : Hid (Pd.Fine P) := (by rw [← hPc]; exact Pd.cut_fine _ HM0.out _ : Pd.Fine P)
  have HFQ : Hid (Pd.Fine Q) := (by rw [← hQc]; exact Pd.cut_fine _ HM1.out _ : Pd.Fine Q)
  rw [hPc] at HL4
  rw [hQc] at HM4
  clear hQ3 hg4 hX4 hL3 hx3 HC1 c0 c1 c2 c3 c4 c5 c6 f0 f1 f2 f3 f4 f5 f6 q0 q1 q2 q3 q4 q5 q6 HP2 HQ2 HT2 HL2 hPc hQc hw2
  -- the three that are built
  obtain ⟨w5, hw5⟩ : ∃ w5, w4'.alloc (.cells #[.int .i64 xP.k, .string (str xP.col), .int .i64 xP.n, .int .i64 xP.m, .string (str xP.s), .slice xP.set.1 xP.set.2.1 xP.set.2.2, .slice xP.kids.1 xP.kids.2.1 xP.kids.2.2] 40) = w5 := ⟨_, rfl⟩
  obtain ⟨w6, hw6⟩ : ∃ w6, w5.alloc (.cells #[.int .i64 3, .string { data := #[] }, .int .i64 0, .int .i64 0, .string { data := #[] }, .slice none 0 0, .slice (some ⟨w4'.heap.size, 0, none⟩) 1 1] 40) = w6 := ⟨_, rfl⟩
  obtain ⟨w7, hw7⟩ : ∃ w7, w6.alloc (.cells #[.int .i64 xP.k, .string (str xP.col), .int .i64 xP.n, .int .i64 xP.m, .string (str xP.s), .slice xP.set.1 xP.set.2.1 xP.set.2.2, .slice xP.kids.1 xP.kids.2.1 xP.kids.2.2, .int .i64 xQ.k, .string (str xQ.col), .int .i64 xQ.n, .int .i64 xQ.m, .string (str xQ.s), .slice xQ.set.1 xQ.set.2.1 xQ.set.2.2, .slice xQ.kids.1 xQ.kids.2.1 xQ.kids.2.2] 40) = w7 := ⟨_, rfl⟩
  obtain ⟨w8, hw8⟩ : ∃ w8, w7.alloc (.cells #[.int .i64 1, .string { data := #[] }, .int .i64 0, .int .i64 0, .string { data := #[] }, .slice none 0 0, .slice (some ⟨w6.heap.size, 0, none⟩) 2 2] 40) = w8 := ⟨_, rfl⟩
  obtain ⟨w9, hw9⟩ : ∃ w9, w8.alloc (.cells #[.int .i64 xP.k, .string (str xP.col), .int .i64 xP.n, .int .i64 xP.m, .string (str xP.s), .slice xP.set.1 xP.set.2.1 xP.set.2.2, .slice xP.kids.1 xP.kids.2.1 xP.kids.2.2, .int .i64 xQ.k, .string (str xQ.col), .int .i64 xQ.n, .int .i64 xQ.m, .string (str xQ.s), .slice xQ.set.1 xQ.set.2.1 xQ.set.2.2, .slice xQ.kids.1 xQ.kids.2.1 xQ.kids.2.2] 40) = w9 := ⟨_, rfl⟩
  obtain ⟨wA, hwA⟩ : ∃ wA, w9.alloc (.cells #[.int .i64 2, .string { data := #[] }, .int .i64 0, .int .i64 0, .string { data := #[] }, .slice none 0 0, .slice (some ⟨w8.heap.size, 0, none⟩) 2 2] 40) = wA := ⟨_, rfl⟩
  have x45 : Ex w4' w5 := by rw [← hw5]; exact (Below.refl _ _).alloc (Nat.le_refl _) _
  have x56 : Ex w5 w6 := by rw [← hw6]; exact (Below.refl _ _).alloc (Nat.le_refl _) _
  have x67 : Ex w6 w7 := by rw [← hw7]; exact (Below.refl _ _).alloc (Nat.le_refl _) _
  have x78 : Ex w7 w8 := by rw [← hw8]; exact (Below.refl _ _).alloc (Nat.le_refl _) _
  have x89 : Ex w8 w9 := by rw [← hw9]; exact (Below.refl _ _).alloc (Nat.le_refl _) _
  have x9A : Ex w9 wA := by rw [← hwA]; exact (Below.refl _ _).alloc (Nat.le_refl _) _
  have x8A : Ex w8 wA := x89.trans x9A
  have x6A : Ex w6 wA := x67.trans (x78.trans x8A)
  have x4A : Ex w4' wA := x45.trans (x56.trans x6A)
  have hr5 : RdW 7 pc w5 (some ⟨w4'.heap.size, 0, none⟩) 1 [xP] := by rw [← hw5]; exact RdW.laid pc_len w4' [xP] (by simp)
  have hr7 : RdW 7 pc w7 (some ⟨w6.heap.size, 0, none⟩) 2 [xP, xQ] := by rw [← hw7]; exact RdW.laid pc_len w6 [xP, xQ] (by simp)
  have hr9 : RdW 7 pc w9 (some ⟨w8.heap.size, 0, none⟩) 2 [xP, xQ] := by rw [← hw9]; exact RdW.laid pc_len w8 [xP, xQ] (by simp)
  have HXA : Hid (Ex w wA) := (HX4.out.trans x4A : Ex w wA)
  have HPA : Hid (PAt wA w.heap.size xP) := (HP4.out.below x4A : PAt wA _ _)
  have HQA : Hid (PAt wA (w.heap.size + 1) xQ) := (HQ4.out.below x4A : PAt wA _ _)
  have HTA : Hid (TAt wA (w.heap.size + 1 + 1) ⟨tr, tl, th, (za, zn, zc), (ba, bn, bc')⟩ 38) := (HT4.out.below x4A : TAt wA _ _ _)
  have HLP : Hid (Pd.Lay (fun _ => True) P wA xP) := (Pd.Lay.below _ HL4.out x4A : Pd.Lay _ _ wA xP)
  have HLQ : Hid (Pd.Lay (fun _ => True) Q wA xQ) := (Pd.Lay.below _ HM4.out x4A : Pd.Lay _ _ wA xQ)
  have HNA : Hid (PAt wA w5.heap.size ⟨3, [], 0, 0, [], (none, 0, 0), some ⟨w4'.heap.size, 0, none⟩, 1, 1⟩) := (PAt.below (by rw [← hw6]; exact PAt.new w5 ⟨3, [], 0, 0, [], (none, 0, 0), some ⟨w4'.heap.size, 0, none⟩, 1, 1⟩) x6A : PAt wA _ _)
  have HAA : Hid (PAt wA w7.heap.size ⟨1, [], 0, 0, [], (none, 0, 0), some ⟨w6.heap.size, 0, none⟩, 2, 2⟩) := (PAt.below (by rw [← hw8]; exact PAt.new w7 ⟨1, [], 0, 0, [], (none, 0, 0), some ⟨w6.heap.size, 0, none⟩, 2, 2⟩) x8A : PAt wA _ _)
  have HSA : Hid (PAt wA w9.heap.size ⟨2, [], 0, 0, [], (none, 0, 0), some ⟨w8.heap.size, 0, none⟩, 2, 2⟩) := (by rw [← hwA]; exact PAt.new w9 ⟨2, [], 0, 0, [], (none, 0, 0), some ⟨w8.heap.size, 0, none⟩, 2, 2⟩ : PAt wA _ _)
  have HLN : Hid (Pd.Lay (fun _ => True) (Pd.nt P) wA ⟨3, [], 0, 0, [], (none, 0, 0), some ⟨w4'.heap.size, 0, none⟩, 1, 1⟩) := (lay_nt HLP.out (hr5.below (x56.trans x6A)) trivial : Pd.Lay _ _ wA _)
  have HLA : Hid (Pd.Lay (fun _ => True) (Pr.mk' (Pd.hk 1) [P, Q]) wA ⟨1, [], 0, 0, [], (none, 0, 0), some ⟨w6.heap.size, 0, none⟩, 2, 2⟩) := (by
    rw [Pd.lay_mk]
    exact ⟨⟨⟨rfl, rfl, rfl, rfl, rfl⟩, rfl, Rd.nil _, fun h0 => by simp at h0⟩, rfl, fun _ b off e => trivial, [xP, xQ], hr7.below (x78.trans x8A), (Pd.Lays.one HLP.out).append (Pd.Lays.one HLQ.out)⟩ : Pd.Lay _ _ wA _)
  have HLS : Hid (Pd.Lay (fun _ => True) (Pr.mk' (Pd.hk 2) [P, Q]) wA ⟨2, [], 0, 0, [], (none, 0, 0), some ⟨w8.heap.size, 0, none⟩, 2, 2⟩) := (by
    rw [Pd.lay_mk]
    exact ⟨⟨⟨rfl, rfl, rfl, rfl, rfl⟩, rfl, Rd.nil _, fun h0 => by simp at h0⟩, rfl, fun _ b off e => trivial, [xP, xQ], hr9.below x9A, (Pd.Lays.one HLP.out).append (Pd.Lays.one HLQ.out)⟩ : Pd.Lay _ _ wA _)
  have HSt : Hid (StOk wA ⟨tr, tl, th, (za, zn, zc), (ba, bn, bc')⟩ s2) := (HB2.out.below HXA.out : StOk wA _ _)
  have HFN : Hid (Pd.Fine (Pd.nt P)) := (Pd.fine_nt HFP.out : Pd.Fine (Pd.nt P))
  have hall : ∀ x ∈ [P, Q], Pd.Fine x := by
    intro x hx
    simp only [List.mem_cons, List.not_mem_nil, or_false] at hx
    rcases hx with rfl | rfl
    · exact HFP.out
    · exact HFQ.out
  have HFA : Hid (Pd.Fine (Pr.mk' (Pd.hk 1) [P, Q])) := (Pd.fine_hk 1 ⟨by decide, by decide⟩ (by simp) hall : Pd.Fine _)
  have HFS : Hid (Pd.Fine (Pr.mk' (Pd.hk 2) [P, Q])) := (Pd.fine_hk 2 ⟨by decide, by decide⟩ (by simp) hall : Pd.Fine _)
  have HX46 : Hid (Ex w4' w6) := (x45.trans x56 : Ex w4' w6)
  have HX48 : Hid (Ex w4' w8) := ((x45.trans x56).trans (x67.trans x78) : Ex w4' w8)
  obtain ⟨k0', k1', k2', k3', k4', k5', k6'⟩ := (HP4.out.below HX46.out).all
  obtain ⟨j0', j1', j2', j3', j4', j5', j6'⟩ := (HQ4.out.below HX46.out).all
  obtain ⟨l0', l1', l2', l3', l4', l5', l6'⟩ := (HP4.out.below HX48.out).all
  obtain ⟨n0', n1', n2', n3', n4', n5', n6'⟩ := (HQ4.out.below HX48.out).all
  clear x45 x56 x67 x78 x89 x9A x8A x6A x4A hr5 hr7 hr9 hall
  simp only [pvv, sv]
  obtain ⟨r1, hr1⟩ : ∃ r, Pd.right (Pd.nt P) = r := ⟨_, rfl⟩
  obtain ⟨r2, hr2⟩ : ∃ r, Pd.right (Pr.mk' (Pd.hk 1) [P, Q]) = r := ⟨_, rfl⟩
  obtain ⟨y0, hy0⟩ : ∃ b, (tr == 0) = b := ⟨_, rfl⟩
  obtain ⟨y1, hy1⟩ : ∃ b, decide ((10 : Int) < (zn : Int)) = b := ⟨_, rfl⟩
  obtain ⟨y2, hy2⟩ : ∃ b, decide ((10 : Int) < (bn : Int)) = b := ⟨_, rfl⟩
  have HR1 : Hid (Pd.right (Pd.nt P) = r1) := hr1
  have HR2 : Hid (Pd.right (Pr.mk' (Pd.hk 1) [P, Q]) = r2) := hr2
  have HY0 : Hid ((tr == 0) = y0) := hy0
  have HCr : Hid (Calls Try.prog 18 #[pvv ⟨3, [], 0, 0, [], (none, 0, 0), some ⟨w4'.heap.size, 0, none⟩, 1, 1⟩] wA fun e w' => e = .returned (.bool r1) ∧ Ex wA w') := right_is _ _ wA HLN.out HFN.out r1 hr1
  obtain ⟨B, hB⟩ : ∃ B, (!r1 || !r2 || y0 || y1 || y2) = B := ⟨_, rfl⟩
  have HBE : Hid ((!r1 || !r2 || y0 || y1 || y2) = B) := hB
  clear hr1 hr2 hB
  go_upto_region 6 with fail
  clear d0 d1 d2 d3 d4 d5 d6 g0 g1 g2 g3 g4 g5 g6 k0 k1 k2 k3 k4 k5 k6 j0 j1 j2 j3 j4 j5 j6 k0' k1' k2' k3' k4' k5' k6' j0' j1' j2' j3' j4' j5' j6' l0' l1' l2' l3' l4' l5' l6' n0' n1' n2' n3' n4' n5' n6' hw4' hw5 hw6 hw7 hw8 hw9 hwA
  go_cut [55] (fun a wc => a = .bool B ∧ Hid (Ex wA wc))
  case first =>
    obtain ⟨a0, a1, a2, a3, a4, a5, a6⟩ := HNA.out.all
    simp only at a0 a1 a2 a3 a4 a5 a6
    go_wp2_with fail
    go_at_call 18
    refine Calls.mono HCr.out ?_
    rintro e wB ⟨rfl, hxB⟩
    have HXB : Hid (Ex wA wB) := hxB
    clear a0 a1 a2 a3 a4 a5 a6 hxB
    cases r1 with
    | false =>
      go_wp2_with fail
      go_meet
      exact ⟨by rw [← HBE.out]; rfl, HXB⟩
    | true =>
      obtain ⟨a0, a1, a2, a3, a4, a5, a6⟩ := (HAA.out.below HXB.out).all
      simp only at a0 a1 a2 a3 a4 a5 a6
      have HCs : Hid (Calls Try.prog 18 #[pvv ⟨1, [], 0, 0, [], (none, 0, 0), some ⟨w6.heap.size, 0, none⟩, 2, 2⟩] wB fun e w' => e = .returned (.bool r2) ∧ Ex wB w') := right_is _ _ wB (Pd.Lay.below _ HLA.out HXB.out) HFA.out r2 HR2.out
      go_wp2_with fail
      go_at_call 18
      refine Calls.mono HCs.out ?_
      rintro e wC ⟨rfl, hxC⟩
      have HXC : Hid (Ex wA wC) := (HXB.out.trans hxC : Ex wA wC)
      obtain ⟨t0, t1, t2, t3, t4⟩ := (HTA.out.below HXC.out).all
      simp only at t0 t1 t2 t3 t4
      clear a0 a1 a2 a3 a4 a5 a6 hxC HCs
      cases r2 with
      | false =>
        go_wp2_with fail
        go_meet
        exact ⟨by rw [← HBE.out]; rfl, HXC⟩
      | true =>
        cases y0 with
        | true =>
          go_wp2_with fail
          go_meet
          exact ⟨by rw [← HBE.out]; rfl, HXC⟩
        | false =>
          cases y1 <;> (go_wp2_with fail; go_meet; exact ⟨by rw [← HBE.out]; rfl, HXC⟩)
  case rest =>
    obtain ⟨rfl, HXc⟩ := hcut
    have HXwc : Hid (Ex w wc) := (HXA.out.trans HXc.out : Ex w wc)
    cases B with
    | true =>
      go_wp2_with fail
      go_at_call 14
      refine (known_is wc).mono ?_
      rintro e wD ⟨rfl, hxD⟩
      have HXD : Hid (Ex w wD) := (HXwc.out.trans hxD : Ex w wD)
      clear hxD
      go_wp2_with fail
      go_ret
      exact ⟨rfl, HXD.out⟩
    | false =>
      have hbb : r1 = true ∧ r2 = true ∧ y0 = false := by
        have h := HBE.out
        cases r1 <;> cases r2 <;> cases y0 <;> simp_all
      obtain ⟨rfl, rfl, rfl⟩ := hbb
      obtain ⟨ja, hja⟩ : ∃ n, Pu.judge s2 (Pu.fg a3) P = n := ⟨_, rfl⟩
      obtain ⟨jb, hjb⟩ : ∃ n, Pu.judge s2 (Pu.fg a3) Q = n := ⟨_, rfl⟩
      obtain ⟨jc, hjc⟩ : ∃ n, Pu.judge s2 (Pu.fg a3) (Pr.mk' (Pd.hk 1) [P, Q]) = n := ⟨_, rfl⟩
      obtain ⟨jd, hjd⟩ : ∃ n, Pu.judge s2 (Pu.fg a3) (Pr.mk' (Pd.hk 2) [P, Q]) = n := ⟨_, rfl⟩
      obtain ⟨jn, hjn⟩ : ∃ n, Pu.judge s2 (Pu.fg a3) (Pd.nt P) = n := ⟨_, rfl⟩
      have hpl := Pu.nots (Pu.fg a3) (by rw [← HTR.out]; have := HY0.out; simpa using this : s2.rows ≠ 0) HR1.out HR2.out
      rw [hja, hjb, hjc, hjd, hjn] at hpl
      have HPL : Hid ((1 ≤ ja ∧ ja ≤ 3) ∧ (1 ≤ jb ∧ jb ≤ 3) ∧ jc = min ja jb ∧ jd = max ja jb ∧ jn + ja = 4) := hpl
      have HJA : Hid (Pu.judge s2 (Pu.fg a3) P = ja) := hja
      have HJB : Hid (Pu.judge s2 (Pu.fg a3) Q = jb) := hjb
      have HJC : Hid (Pu.judge s2 (Pu.fg a3) (Pr.mk' (Pd.hk 1) [P, Q]) = jc) := hjc
      have HJD : Hid (Pu.judge s2 (Pu.fg a3) (Pr.mk' (Pd.hk 2) [P, Q]) = jd) := hjd
      have HJN : Hid (Pu.judge s2 (Pu.fg a3) (Pd.nt P) = jn) := hjn
      clear hpl hja hjb hjc hjd hjn
      obtain ⟨a0, a1, a2, a3', a4, a5, a6⟩ := (HPA.out.below HXc.out).all
      obtain ⟨t0, t1, t2, t3, t4⟩ := (HTA.out.below HXc.out).all
      simp only at t0 t1 t2 t3 t4
      have HCD : Hid (Calls Try.prog 10 #[pvv xP, tvv ⟨tr, tl, th, (za, zn, zc), (ba, bn, bc')⟩, .int .i64 a3] wc fun e w' => e = .returned (.int .i64 (ja : Int)) ∧ Ex wc w') := pJudge_is s2 HSF.out _ HFP.out _ _ a3 wc (Pd.Lay.below _ HLP.out HXc.out) (HSt.out.below HXc.out) ja HJA.out
      go_wp2_with fail
      go_at_call 10
      refine Calls.mono HCD.out ?_
      rintro e wD ⟨rfl, hx⟩
      have HXD : Hid (Ex wA wD) := (HXc.out.trans hx : Ex wA wD)
      clear a0 a1 a2 a3' a4 a5 a6 t0 t1 t2 t3 t4 hx HCD
      obtain ⟨a0, a1, a2, a3', a4, a5, a6⟩ := (HQA.out.below HXD.out).all
      obtain ⟨t0, t1, t2, t3, t4⟩ := (HTA.out.below HXD.out).all
      simp only at t0 t1 t2 t3 t4
      have HCE : Hid (Calls Try.prog 10 #[pvv xQ, tvv ⟨tr, tl, th, (za, zn, zc), (ba, bn, bc')⟩, .int .i64 a3] wD fun e w' => e = .returned (.int .i64 (jb : Int)) ∧ Ex wD w') := pJudge_is s2 HSF.out _ HFQ.out _ _ a3 wD (Pd.Lay.below _ HLQ.out HXD.out) (HSt.out.below HXD.out) jb HJB.out
      go_wp2_with fail
      go_at_call 10
      refine Calls.mono HCE.out ?_
      rintro e wE ⟨rfl, hx⟩
      have HXE : Hid (Ex wA wE) := (HXD.out.trans hx : Ex wA wE)
      clear a0 a1 a2 a3' a4 a5 a6 t0 t1 t2 t3 t4 hx HCE
      obtain ⟨a0, a1, a2, a3', a4, a5, a6⟩ := (HAA.out.below HXE.out).all
      obtain ⟨t0, t1, t2, t3, t4⟩ := (HTA.out.below HXE.out).all
      simp only at t0 t1 t2 t3 t4 a0 a1 a2 a3' a4 a5 a6
      have HCF : Hid (Calls Try.prog 10 #[pvv ⟨1, [], 0, 0, [], (none, 0, 0), some ⟨w6.heap.size, 0, none⟩, 2, 2⟩, tvv ⟨tr, tl, th, (za, zn, zc), (ba, bn, bc')⟩, .int .i64 a3] wE fun e w' => e = .returned (.int .i64 (jc : Int)) ∧ Ex wE w') := pJudge_is s2 HSF.out _ HFA.out _ _ a3 wE (Pd.Lay.below _ HLA.out HXE.out) (HSt.out.below HXE.out) jc HJC.out
      go_wp2_with fail
      go_at_call 10
      refine Calls.mono HCF.out ?_
      rintro e wF ⟨rfl, hx⟩
      have HXF : Hid (Ex wA wF) := (HXE.out.trans hx : Ex wA wF)
      clear a0 a1 a2 a3' a4 a5 a6 t0 t1 t2 t3 t4 hx HCF
      obtain ⟨a0, a1, a2, a3', a4, a5, a6⟩ := (HSA.out.below HXF.out).all
      obtain ⟨t0, t1, t2, t3, t4⟩ := (HTA.out.below HXF.out).all
      simp only at t0 t1 t2 t3 t4 a0 a1 a2 a3' a4 a5 a6
      have HCG : Hid (Calls Try.prog 10 #[pvv ⟨2, [], 0, 0, [], (none, 0, 0), some ⟨w8.heap.size, 0, none⟩, 2, 2⟩, tvv ⟨tr, tl, th, (za, zn, zc), (ba, bn, bc')⟩, .int .i64 a3] wF fun e w' => e = .returned (.int .i64 (jd : Int)) ∧ Ex wF w') := pJudge_is s2 HSF.out _ HFS.out _ _ a3 wF (Pd.Lay.below _ HLS.out HXF.out) (HSt.out.below HXF.out) jd HJD.out
      go_wp2_with fail
      go_at_call 10
      refine Calls.mono HCG.out ?_
      rintro e wG ⟨rfl, hx⟩
      have HXG : Hid (Ex wA wG) := (HXF.out.trans hx : Ex wA wG)
      clear a0 a1 a2 a3' a4 a5 a6 t0 t1 t2 t3 t4 hx HCG
      go_upto_if 75 with fail
      go_cut [12, 13] (fun x y wc2 => x = .int .i64 (jc : Int) ∧ y = .int .i64 (jd : Int) ∧ wc2 = wG)
      case first =>
        have hpl := HPL.out
        by_cases hab : jb < ja
        · have tab : decide ((jb : Int) < (ja : Int)) = true := decide_eq_true (by omega)
          have tab2 : decide (jb < ja) = true := decide_eq_true hab
          have e1 : Hid (jb = jc) := (by omega : jb = jc)
          have e2 : Hid (ja = jd) := (by omega : ja = jd)
          clear hpl
          go_wp2_with fail
          go_meet
          exact ⟨by rw [← e1.out], by rw [← e2.out], rfl⟩
        · have tab : decide ((jb : Int) < (ja : Int)) = false := decide_eq_false (by omega)
          have tab2 : decide (jb < ja) = false := decide_eq_false hab
          have e1 : Hid (ja = jc) := (by omega : ja = jc)
          have e2 : Hid (jb = jd) := (by omega : jb = jd)
          clear hpl
          go_wp2_with fail
          go_meet
          exact ⟨by rw [← e1.out], by rw [← e2.out], rfl⟩
      case rest =>
        obtain ⟨rfl, rfl, hwc2⟩ := hcut
        replace hwc2 := hwc2.symm
        subst hwc2
        have HPG : Hid (PAt wG w.heap.size xP) := HPA.out.below HXG.out
        have HNG : Hid (PAt wG w5.heap.size ⟨3, [], 0, 0, [], (none, 0, 0), some ⟨w4'.heap.size, 0, none⟩, 1, 1⟩) := HNA.out.below HXG.out
        have HTG : Hid (TAt wG (w.heap.size + 1 + 1) ⟨tr, tl, th, (za, zn, zc), (ba, bn, bc')⟩ 38) := HTA.out.below HXG.out
        have HSG : Hid (StOk wG ⟨tr, tl, th, (za, zn, zc), (ba, bn, bc')⟩ s2) := HSt.out.below HXG.out
        have HLPG : Hid (Pd.Lay (fun _ => True) P wG xP) := Pd.Lay.below _ HLP.out HXG.out
        have HLNG : Hid (Pd.Lay (fun _ => True) (Pd.nt P) wG ⟨3, [], 0, 0, [], (none, 0, 0), some ⟨w4'.heap.size, 0, none⟩, 1, 1⟩) := Pd.Lay.below _ HLN.out HXG.out
        go_wp2_with fail
        have hre := Ex.refl
        refine Rg.wp_rows [.inl (pvv ⟨3, [], 0, 0, [], (none, 0, 0), some ⟨w4'.heap.size, 0, none⟩, 1, 1⟩), .inl (tvv ⟨tr, tl, th, (za, zn, zc), (ba, bn, bc')⟩), .inl (.int .i64 a3), .inl (.int .i64 (jn : Int)), .inl (pvv xP), .inl (tvv ⟨tr, tl, th, (za, zn, zc), (ba, bn, bc')⟩), .inl (.int .i64 a3), .inl (.int .i64 (ja : Int)), .inl (.int .i64 4), .inl (.bool true), .inl (.bool true), .inl (.int .i64 (jc : Int)), .inl (.int .i64 (jc : Int)), .inl (.bool true), .inl (.bool true), .inl (.bool true), .inl (.int .i64 (jd : Int)), .inl (.int .i64 (jd : Int)), .inl (.bool true), .inl (.bool true), .inl (.bool true), .inl (.bool true), .inl (.bool true), .inl (.bool true)] (Ex wG) Ex 101 (by kernel_rfl) rfl (by kernel_rfl) ?st hre (Ex.drew _) ?goods ?fin
        case st => exact trivial
        case goods =>
          refine Rg.goods_cons (Rg.good_load hre rfl rfl rfl (fun wx hC => (HNG.out.below hC).loadI)) ?_
          refine Rg.goods_cons (Rg.good_load hre rfl rfl rfl (fun wx hC => loadI_stats38 (HTG.out.below hC))) ?_
          refine Rg.goods_cons (Rg.good_move hre rfl rfl rfl) ?_
          refine Rg.goods_cons (Rg.good_call3 Try.func10 (by kernel_rfl) rfl rfl rfl (by rintro v0 v1 v2 wx hC rfl rfl rfl; exact ex_rowP (pJudge_is s2 HSF.out _ HFN.out _ _ a3 wx (Pd.Lay.below _ HLNG.out hC) (HSG.out.below hC) jn HJN.out) hC)) ?_
          refine Rg.goods_cons (Rg.good_load hre rfl rfl rfl (fun wx hC => (HPG.out.below hC).loadI)) ?_
          refine Rg.goods_cons (Rg.good_load hre rfl rfl rfl (fun wx hC => loadI_stats38 (HTG.out.below hC))) ?_
          refine Rg.goods_cons (Rg.good_move hre rfl rfl rfl) ?_
          refine Rg.goods_cons (Rg.good_call3 Try.func10 (by kernel_rfl) rfl rfl rfl (by rintro v0 v1 v2 wx hC rfl rfl rfl; exact ex_rowP (pJudge_is s2 HSF.out _ HFP.out _ _ a3 wx (Pd.Lay.below _ HLPG.out hC) (HSG.out.below hC) ja HJA.out) hC)) ?_
          refine Rg.goods_cons (Rg.good_bin hre rfl rfl rfl rfl (fun _ => rfl) (fun w => by have h := HPL.out; simp [go_sem]; rw [IntKind.wrap_i64]; omega)) ?_
          refine Rg.goods_cons (Rg.good_bin hre rfl rfl rfl rfl (fun _ => rfl) (fun w => by go_simp)) ?_
          refine Rg.goods_cons (Rg.good_move hre rfl rfl rfl) ?_
          refine Rg.goods_cons (Rg.good_move hre rfl rfl rfl) ?_
          refine Rg.goods_cons (Rg.good_move hre rfl rfl rfl) ?_
          refine Rg.goods_cons (Rg.good_bin hre rfl rfl rfl rfl (fun _ => rfl) (fun w => by go_simp)) ?_
          refine Rg.goods_cons (Rg.good_pick true hre rfl rfl rfl rfl) ?_
          refine Rg.goods_cons (Rg.good_move hre rfl rfl rfl) ?_
          refine Rg.goods_cons (Rg.good_move hre rfl rfl rfl) ?_
          refine Rg.goods_cons (Rg.good_move hre rfl rfl rfl) ?_
          refine Rg.goods_cons (Rg.good_bin hre rfl rfl rfl rfl (fun _ => rfl) (fun w => by go_simp)) ?_
          refine Rg.goods_cons (Rg.good_pick true hre rfl rfl rfl rfl) ?_
          refine Rg.goods_cons (Rg.good_move hre rfl rfl rfl) ?_
          refine Rg.goods_cons (Rg.good_call0 Try.func14 (by kernel_rfl) rfl rfl rfl (by intro wx hC; exact ex_rowP (known_is wx) hC)) ?_
          refine Rg.goods_cons (Rg.good_pick true hre rfl rfl rfl rfl) ?_
          refine Rg.goods_cons (Rg.good_assign hre rfl rfl rfl) ?_
          exact Rg.goods_nil
        case fin =>
          intro wx hx
          simp only [Rg.later, Act.put, List.setIfInBounds_toArray, List.set_cons_succ, List.set_cons_zero]
          have HX9 : Hid (Ex w wx) := ((HXA.out.trans HXG.out).trans hx : Ex w wx)
          clear hx
          go_wp2_with fail
          go_ret
          exact ⟨rfl, HX9.out⟩
end Go.Proofs.Ytibnhjfeepdddaa.pruneNots
