/-
  The walk of PredPairs.
-/
import Derived.Test.YtbdjccmlgdfapaaPreg
namespace Go.Proofs.Ytbdjccmlgdfapaa.predPairs
open Go.RowKit
set_option linter.unusedVariables false
set_option linter.unusedSimpArgs false
/-- A time is in one of three spans. -/
def btw (n m : Int) : Pr := Pr.mk' ⟨10, [], n, m, [], []⟩ []
def cnt (l : List Bool) : Nat := (l.filter id).length
theorem ev_btw (r : Rw) (n m : Int) : Pd.ev r (btw n m) = decide (n ≤ r.t ∧ r.t ≤ m) := by
  unfold btw; rw [Pd.ev_mk]; rfl
theorem three {t n m : Int} (h : n ≤ m) (ht : -9223372036854775808 ≤ t ∧ t ≤ 9223372036854775807) : cnt [decide (-9223372036854775808 ≤ t ∧ t ≤ n - 1), decide (n ≤ t ∧ t ≤ m), decide (m + 1 ≤ t ∧ t ≤ 9223372036854775807)] = 1 := by
  by_cases h1 : t ≤ n - 1
  · rw [decide_eq_true (show -9223372036854775808 ≤ t ∧ t ≤ n - 1 from ⟨ht.1, h1⟩), decide_eq_false (show ¬ (n ≤ t ∧ t ≤ m) by omega), decide_eq_false (show ¬ (m + 1 ≤ t ∧ t ≤ 9223372036854775807) by omega)]; rfl
  · by_cases h2 : t ≤ m
    · rw [decide_eq_false (show ¬ (-9223372036854775808 ≤ t ∧ t ≤ n - 1) by omega), decide_eq_true (show n ≤ t ∧ t ≤ m by omega), decide_eq_false (show ¬ (m + 1 ≤ t ∧ t ≤ 9223372036854775807) by omega)]; rfl
    · rw [decide_eq_false (show ¬ (-9223372036854775808 ≤ t ∧ t ≤ n - 1) by omega), decide_eq_false (show ¬ (n ≤ t ∧ t ≤ m) by omega), decide_eq_true (show m + 1 ≤ t ∧ t ≤ 9223372036854775807 by omega)]; rfl
theorem cnt_next {l : List Bool} {i : Nat} {x : Bool} (h : l[i]? = some x) : cnt (l.take (i + 1)) = cnt (l.take i) + (if x = true then 1 else 0) := by
  rw [List.take_add_one, h]
  unfold cnt
  rw [List.filter_append, List.length_append]
  cases x <;> simp
def ask (k : Int) (n : Int) : Pr := Pr.mk' ⟨k, [97], n, 0, [], []⟩ []
theorem ev_less (r : Rw) (n : Int) : Pd.ev r (ask 4 n) = decide ((Rw.cell r.c [97]).k = 1 ∧ (Rw.cell r.c [97]).n < n) := by
  unfold ask; rw [Pd.ev_mk]; rfl
theorem ev_equal (r : Rw) (n : Int) : Pd.ev r (ask 5 n) = decide ((Rw.cell r.c [97]).k = 1 ∧ (Rw.cell r.c [97]).n = n) := by
  unfold ask; rw [Pd.ev_mk]; rfl
theorem ev_null (r : Rw) : Pd.ev r (ask 9 0) = decide ((Rw.cell r.c [97]).k = 0) := by
  unfold ask; rw [Pd.ev_mk]; rfl
/-- What is so of Less, Equal, Less of one more, Null. -/
theorem parted (r : Rw) (n : Int) (a b c d : Bool) (h1 : Pd.ev r (ask 4 n) = a) (h2 : Pd.ev r (ask 5 n) = b) (h3 : Pd.ev r (ask 4 (n + 1)) = c) (h4 : Pd.ev r (ask 9 0) = d) : c = (a || b) ∧ (a && b) = false ∧ (d = true → c = false) := by
  rw [ev_less] at h1 h3
  rw [ev_equal] at h2
  rw [ev_null] at h4
  subst h1 h2 h3 h4
  refine ⟨?_, ?_, ?_⟩
  · rw [Bool.eq_iff_iff]; simp; omega
  · simp; omega
  · simp; omega
set_option maxHeartbeats 16000000 in
set_option maxRecDepth 100000 in
theorem walk (v0 : PV) (p0 : Pr) (v1 : PV) (p1 : Pr) (v2 : RV) (r2 : Rw) (a3 : Int) (a4 : Int) (w : World) (b0 : Pd.Lay (fun _ => True) p0 w v0) (m0 : Pd.Raw p0) (b1 : Pd.Lay (fun _ => True) p1 w v1) (m1 : Pd.Raw p1) (b2 : RvOk w v2 r2) (m2 : RowOk r2) (n2 : r2.c.length ≤ 2932031007402) (w3 : -9223372036854775808 ≤ a3 ∧ a3 ≤ 9223372036854775807) (w4 : -9223372036854775808 ≤ a4 ∧ a4 ≤ 9223372036854775807) :
    Calls Try.prog 6 #[pvv v0, pvv v1, rvv v2, .int .i64 a3, .int .i64 a4] w fun e w' => e = .returned (.bool true) ∧ Below w.heap.size w w' := by
  obtain ⟨vk, vcol, vn, vm, vs, vset, vkids⟩ := v0
  obtain ⟨uk, ucol, un, um, us, uset, ukids⟩ := v1
  obtain ⟨rt, rq, ra, rn, rc'⟩ := v2
  obtain ⟨W, hW⟩ : ∃ W, ((w.alloc (pb ⟨vk, vcol, vn, vm, vs, vset, vkids⟩)).alloc (pb ⟨uk, ucol, un, um, us, uset, ukids⟩)).alloc (rb ⟨rt, rq, ra, rn, rc'⟩) = W := ⟨_, rfl⟩
  have e1 : Ex w (w.alloc (pb ⟨vk, vcol, vn, vm, vs, vset, vkids⟩)) := (Below.refl _ _).alloc (Nat.le_refl _) _
  have e2 : Ex w ((w.alloc (pb ⟨vk, vcol, vn, vm, vs, vset, vkids⟩)).alloc (pb ⟨uk, ucol, un, um, us, uset, ukids⟩)) := Below.alloc e1 (by simp) _
  have hXW : Ex w W := by rw [← hW]; exact Below.alloc e2 (by simp; omega) _
  have HXW : Hid (Ex w W) := hXW
  have HSZ : Hid (W.heap.size = w.heap.size + 1 + 1 + 1) := (by rw [← hW]; simp : W.heap.size = w.heap.size + 1 + 1 + 1)
  have HP : Hid (PAt W w.heap.size ⟨vk, vcol, vn, vm, vs, vset, vkids⟩) := (by rw [← hW]; exact ((PAt.new w _).alloc _).alloc _ : PAt W w.heap.size _)
  have HQ : Hid (PAt W (w.heap.size + 1) ⟨uk, ucol, un, um, us, uset, ukids⟩) := (by
    rw [← hW]
    exact (PAt.newat (w.alloc (pb ⟨vk, vcol, vn, vm, vs, vset, vkids⟩)) (w.heap.size + 1) _ (by simp)).alloc _ : PAt W (w.heap.size + 1) _)
  have HR : Hid (LAt W (w.heap.size + 1 + 1) ⟨rt, rq, ra, rn, rc'⟩) := (by
    rw [← hW]
    exact LAt.newat ((w.alloc (pb ⟨vk, vcol, vn, vm, vs, vset, vkids⟩)).alloc (pb ⟨uk, ucol, un, um, us, uset, ukids⟩)) (w.heap.size + 1 + 1) _ (by simp) : LAt W (w.heap.size + 1 + 1) _)
  have HM0 : Hid (Pd.Raw p0) := m0
  have HM1 : Hid (Pd.Raw p1) := m1
  have HB1 : Hid (Pd.Lay (fun _ => True) p1 w ⟨uk, ucol, un, um, us, uset, ukids⟩) := b1
  have HB2 : Hid (RvOk w ⟨rt, rq, ra, rn, rc'⟩ r2) := b2
  have HOK : Hid (RwOk r2) := m2.rwOk
  have HC0 : Hid (Calls Try.prog 7 #[pvv ⟨vk, vcol, vn, vm, vs, vset, vkids⟩, .int .i64 (3 : Nat)] W fun e w' => ∃ u, e = .returned (pvv u) ∧ Pd.Lay (fun b => W.heap.size ≤ b) (Pd.cut p0 3) w' u ∧ Ex W w') := cut_is p0 _ W 3 (Pd.Lay.below _ b0 hXW) m0 (by omega)
  obtain ⟨p0', p1', p2', p3', p4', p5', p6'⟩ := HP.out.all
  simp only at p0' p1' p2' p3' p4' p5' p6'
  have hw3 := w3
  have hw4 := w4
  clear e1 e2 hXW b0 m0 b1 m1 b2 m2 n2
  unfold pvv rvv
  simp only [sv]
  go_enter Try.func6, Try.ntmps6
  go_wp2_with fail
  go_at_call 7
  refine Calls.mono HC0.out ?_
  rintro e w1 ⟨xP, rfl, hL1, hx1⟩
  have hP1 := HP.out.below hx1
  obtain ⟨w2, hw2⟩ : ∃ w2, pset w1 w.heap.size xP = w2 := ⟨_, rfl⟩
  have hg2 : w1.grownBy w2 (some w.heap.size) := by rw [← hw2]; exact grown_pset _ _ _
  have hX2 : Ex w w2 := Below.grown (HXW.out.trans hx1) hg2 (HXW.out.trans hx1).size (fun g hg => by simp at hg; omega)
  have HX2 : Hid (Ex w w2) := hX2
  have HP2 : Hid (PAt w2 w.heap.size xP) := (by rw [← hw2]; exact hP1.store xP : PAt w2 _ _)
  have HQ2 : Hid (PAt w2 (w.heap.size + 1) ⟨uk, ucol, un, um, us, uset, ukids⟩) := ((HQ.out.below hx1).far hg2 (by simp) : PAt w2 _ _)
  have HR2 : Hid (LAt w2 (w.heap.size + 1 + 1) ⟨rt, rq, ra, rn, rc'⟩) := ((HR.out.below hx1).far hg2 (by simp; omega) : LAt w2 _ _)
  have HL2 : Hid (Pd.Lay (fun b => W.heap.size ≤ b) (Pd.cut p0 3) w2 xP) := (Pd.Lay.far (row := some w.heap.size) (fun b hb e => by simp at e; have := HSZ.out; omega) _ hL1 hg2 : Pd.Lay _ _ w2 xP)
  have HS2 : Hid (W.heap.size ≤ w2.heap.size) := (Nat.le_trans hx1.size hg2.size : W.heap.size ≤ w2.heap.size)
  have HC1 : Hid (Calls Try.prog 7 #[pvv ⟨uk, ucol, un, um, us, uset, ukids⟩, .int .i64 (3 : Nat)] w2 fun e w' => ∃ u, e = .returned (pvv u) ∧ Pd.Lay (fun b => w2.heap.size ≤ b) (Pd.cut p1 3) w' u ∧ Ex w2 w') := cut_is p1 _ w2 3 (Pd.Lay.below _ HB1.out hX2) HM1.out (by omega)
  obtain ⟨f0, f1, f2, f3, f4, f5, f6⟩ := hP1.fro
  obtain ⟨c0, c1, c2, c3, c4, c5, c6⟩ := hP1.all
  obtain ⟨q0, q1, q2, q3, q4, q5, q6⟩ := HQ2.out.all
  simp only at c0 c1 c2 c3 c4 c5 c6 q0 q1 q2 q3 q4 q5 q6
  clear hP1 hg2 hX2 hL1 hx1 HC0 p0' p1' p2' p3' p4' p5' p6' hW
  simp only [pvv, sv]
  go_wp2_with fail
  go_at_call 7
  refine Calls.mono HC1.out ?_
  rintro e w3' ⟨xQ, rfl, hL3, hx3⟩
  have hQ3 := HQ2.out.below hx3
  obtain ⟨w4', hw4'⟩ : ∃ w4', pset w3' (w.heap.size + 1) xQ = w4' := ⟨_, rfl⟩
  have hg4 : w3'.grownBy w4' (some (w.heap.size + 1)) := by rw [← hw4']; exact grown_pset _ _ _
  have hX4 : Ex w w4' := Below.grown (HX2.out.trans hx3) hg4 (HX2.out.trans hx3).size (fun g hg => by simp at hg; omega)
  have HX4 : Hid (Ex w w4') := hX4
  have HP4 : Hid (PAt w4' w.heap.size xP) := ((HP2.out.below hx3).far hg4 (by simp) : PAt w4' _ _)
  have HQ4 : Hid (PAt w4' (w.heap.size + 1) xQ) := (by rw [← hw4']; exact hQ3.store xQ : PAt w4' _ _)
  have HR4 : Hid (LAt w4' (w.heap.size + 1 + 1) ⟨rt, rq, ra, rn, rc'⟩) := ((HR2.out.below hx3).far hg4 (by simp) : LAt w4' _ _)
  have HL4 : Hid (Pd.Lay (fun _ => True) (Pd.cut p0 3) w4' xP) := (Pd.Lay.mono (fun _ _ => trivial) _ (Pd.Lay.far (row := some (w.heap.size + 1)) (fun b hb e => by simp at e; have := HSZ.out; omega) _ (Pd.Lay.below _ HL2.out hx3) hg4) : Pd.Lay _ _ w4' xP)
  have HM4 : Hid (Pd.Lay (fun _ => True) (Pd.cut p1 3) w4' xQ) := (Pd.Lay.mono (fun _ _ => trivial) _ (Pd.Lay.far (row := some (w.heap.size + 1)) (fun b hb e => by simp at e; have := HSZ.out; have h2 := HS2.out; omega) _ hL3 hg4) : Pd.Lay _ _ w4' xQ)
  have HC2 : Hid (Calls Try.prog 14 #[rvv ⟨rt, rq, ra, rn, rc'⟩, .int .i64 1] w4' fun e w' => ∃ u : RV, e = .returned (rvv u) ∧ RvOk w' u (Rw.tame r2 1) ∧ Ex w4' w') := tame_is _ r2 1 w4' (HB2.out.below hX4) HOK.out
  obtain ⟨g0, g1, g2, g3, g4, g5, g6⟩ := hQ3.fro
  obtain ⟨d0, d1, d2, d3, d4, d5, d6⟩ := hQ3.all
  obtain ⟨m0, m1, m2⟩ := HR4.out.all
  simp only at d0 d1 d2 d3 d4 d5 d6 m0 m1 m2
  clear hQ3 hg4 hX4 hL3 hx3 HC1 c0 c1 c2 c3 c4 c5 c6 f0 f1 f2 f3 f4 f5 f6 q0 q1 q2 q3 q4 q5 q6 HP2 HQ2 HR2 HL2
  simp only [pvv, sv]
  go_wp2_with fail
  go_at_call 14
  refine Calls.mono HC2.out ?_
  rintro e w5 ⟨⟨tt, tq, ta, tn, tc⟩, rfl, hT5, hx5⟩
  obtain ⟨w6, hw6⟩ : ∃ w6, w5.alloc (rb ⟨tt, tq, ta, tn, tc⟩) = w6 := ⟨_, rfl⟩
  have hX56 : Ex w5 w6 := by rw [← hw6]; exact (Below.refl _ _).alloc (Nat.le_refl _) _
  have hX46 : Ex w4' w6 := hx5.trans hX56
  have HX6 : Hid (Ex w w6) := (HX4.out.trans hX46 : Ex w w6)
  have HP6 : Hid (PAt w6 w.heap.size xP) := (HP4.out.below hX46 : PAt w6 _ _)
  have HQ6 : Hid (PAt w6 (w.heap.size + 1) xQ) := (HQ4.out.below hX46 : PAt w6 _ _)
  have HT6 : Hid (LAt w6 w5.heap.size ⟨tt, tq, ta, tn, tc⟩) := (by rw [← hw6]; exact LAt.new w5 _ : LAt w6 _ _)
  have HRT6 : Hid (RvOk w6 ⟨tt, tq, ta, tn, tc⟩ (Rw.tame r2 1)) := (hT5.below hX56 : RvOk w6 _ _)
  have HL6 : Hid (Pd.Lay (fun _ => True) (Pd.cut p0 3) w6 xP) := (Pd.Lay.below _ HL4.out hX46 : Pd.Lay _ _ w6 xP)
  have HM6 : Hid (Pd.Lay (fun _ => True) (Pd.cut p1 3) w6 xQ) := (Pd.Lay.below _ HM4.out hX46 : Pd.Lay _ _ w6 xQ)
  obtain ⟨w7, hw7⟩ : ∃ w7, w6.alloc (.cells #[.int .i64 xP.k, .string (str xP.col), .int .i64 xP.n, .int .i64 xP.m, .string (str xP.s), .slice xP.set.1 xP.set.2.1 xP.set.2.2, .slice xP.kids.1 xP.kids.2.1 xP.kids.2.2, .int .i64 xQ.k, .string (str xQ.col), .int .i64 xQ.n, .int .i64 xQ.m, .string (str xQ.s), .slice xQ.set.1 xQ.set.2.1 xQ.set.2.2, .slice xQ.kids.1 xQ.kids.2.1 xQ.kids.2.2] 25) = w7 := ⟨_, rfl⟩
  have hX67 : Ex w6 w7 := by rw [← hw7]; exact (Below.refl _ _).alloc (Nat.le_refl _) _
  have hR7 : RdW 7 pc w7 (some ⟨w6.heap.size, 0, none⟩) 2 [xP, xQ] := by rw [← hw7]; exact RdW.laid pc_len w6 [xP, xQ] (by simp)
  obtain ⟨w8, hw8⟩ : ∃ w8, w7.alloc (.cells #[.int .i64 1, .string { data := #[] }, .int .i64 0, .int .i64 0, .string { data := #[] }, .slice none 0 0, .slice (some ⟨w6.heap.size, 0, none⟩) 2 2] 25) = w8 := ⟨_, rfl⟩
  have hX78 : Ex w7 w8 := by rw [← hw8]; exact (Below.refl _ _).alloc (Nat.le_refl _) _
  have HX68 : Hid (Ex w6 w8) := (hX67.trans hX78 : Ex w6 w8)
  have HX8 : Hid (Ex w w8) := (HX6.out.trans HX68.out : Ex w w8)
  have HALL : Hid (PAt w8 w7.heap.size ⟨1, [], 0, 0, [], (none, 0, 0), some ⟨w6.heap.size, 0, none⟩, 2, 2⟩) := (by rw [← hw8]; exact PAt.new w7 ⟨1, [], 0, 0, [], (none, 0, 0), some ⟨w6.heap.size, 0, none⟩, 2, 2⟩ : PAt w8 _ _)
  have HLA : Hid (Pd.Lay (fun _ => True) (Pr.mk' (Pd.hk 1) [Pd.cut p0 3, Pd.cut p1 3]) w8 ⟨1, [], 0, 0, [], (none, 0, 0), some ⟨w6.heap.size, 0, none⟩, 2, 2⟩) := (by
    rw [Pd.lay_mk]
    exact ⟨⟨⟨rfl, rfl, rfl, rfl, rfl⟩, rfl, Rd.nil _, fun h0 => by simp at h0⟩, rfl, fun _ b off e => trivial, [xP, xQ], hR7.below hX78, (Pd.Lays.one (Pd.Lay.below _ HL6.out HX68.out)).append (Pd.Lays.one (Pd.Lay.below _ HM6.out HX68.out))⟩ : Pd.Lay _ _ w8 _)
  obtain ⟨c0, c1, c2, c3, c4, c5, c6⟩ := HP6.out.all
  obtain ⟨k0, k1, k2, k3, k4, k5, k6⟩ := HQ6.out.all
  have hs76 : w7.heap.size = w6.heap.size + 1 := by rw [← hw7]; simp
  have HS76 : Hid (w7.heap.size = w6.heap.size + 1) := hs76
  clear hX56 hX46 hX67 hX78 hR7 hT5 hx5 HC2 d0 d1 d2 d3 d4 d5 d6 m0 m1 m2 g0 g1 g2 g3 g4 g5 g6 hs76
  simp only [rvv, sv]
  go_wp2_with fail
  refine Rg.Fr.wp_some 134 (by kernel_rfl) (Pd.cut p0 3) (Pd.cut p1 3) w.heap.size (w.heap.size + 1) xP xQ _ _ _ _ _ _ _ _ rfl rfl (by decide) (by kernel_rfl) (by kernel_rfl) rfl rfl rfl rfl rfl rfl rfl rfl rfl rfl rfl rfl rfl rfl rfl rfl (by kernel_rfl) (by kernel_rfl) (by kernel_rfl) (by kernel_rfl) (by kernel_rfl) _ rfl rfl rfl rfl rfl (HP6.out.below HX68.out) (HQ6.out.below HX68.out) (Pd.Lay.below _ HL6.out HX68.out) (Pd.Lay.below _ HM6.out HX68.out) ?_
  intro w9 hx9
  simp only [Rg.later, Act.put, List.setIfInBounds_toArray, List.set_cons_succ, List.set_cons_zero]
  intro y31 _ y33 _ y34 _ y35 _ y13 _ gs xS hgs hgb hPS hLS
  simp at hgs
  subst hgs
  have hX69 : Ex w6 w9 := HX68.out.trans hx9
  have HX9 : Hid (Ex w w9) := (HX6.out.trans hX69 : Ex w w9)
  have HP9 : Hid (PAt w9 w.heap.size xP) := (HP6.out.below hX69 : PAt w9 _ _)
  have HQ9 : Hid (PAt w9 (w.heap.size + 1) xQ) := (HQ6.out.below hX69 : PAt w9 _ _)
  have HT9 : Hid (LAt w9 w5.heap.size ⟨tt, tq, ta, tn, tc⟩) := (HT6.out.below hX69 : LAt w9 _ _)
  have HRT9 : Hid (RvOk w9 ⟨tt, tq, ta, tn, tc⟩ (Rw.tame r2 1)) := (HRT6.out.below hX69 : RvOk w9 _ _)
  have HL9 : Hid (Pd.Lay (fun _ => True) (Pd.cut p0 3) w9 xP) := (Pd.Lay.below _ HL6.out hX69 : Pd.Lay _ _ w9 xP)
  have HM9 : Hid (Pd.Lay (fun _ => True) (Pd.cut p1 3) w9 xQ) := (Pd.Lay.below _ HM6.out hX69 : Pd.Lay _ _ w9 xQ)
  have HA9 : Hid (PAt w9 w7.heap.size ⟨1, [], 0, 0, [], (none, 0, 0), some ⟨w6.heap.size, 0, none⟩, 2, 2⟩) := (HALL.out.below hx9 : PAt w9 _ _)
  have HLA9 : Hid (Pd.Lay (fun _ => True) (Pr.mk' (Pd.hk 1) [Pd.cut p0 3, Pd.cut p1 3]) w9 ⟨1, [], 0, 0, [], (none, 0, 0), some ⟨w6.heap.size, 0, none⟩, 2, 2⟩) := (Pd.Lay.below _ HLA.out hx9 : Pd.Lay _ _ w9 _)
  have HS9 : Hid (PAt w9 gs xS) := hPS
  have HLS9 : Hid (Pd.Lay (fun _ => True) (Pr.mk' (Pd.hk 2) [Pd.nt (Pd.cut p0 3), Pd.nt (Pd.cut p1 3)]) w9 xS) := hLS
  obtain ⟨P, hP⟩ : ∃ P, Pd.cut p0 3 = P := ⟨_, rfl⟩
  obtain ⟨Q, hQ⟩ : ∃ Q, Pd.cut p1 3 = Q := ⟨_, rfl⟩
  obtain ⟨T, hT⟩ : ∃ T, Rw.tame r2 1 = T := ⟨_, rfl⟩
  have HTS : Hid (∀ c ∈ T.c, c.s.length ≤ maxLen) := (by rw [← hT]; exact tame_short r2 1 : ∀ c ∈ T.c, c.s.length ≤ maxLen)
  have HTT : Hid (-9223372036854775808 ≤ T.t ∧ T.t ≤ 9223372036854775807) := (by
    rw [← hT]
    have h := tmod_lt (a := r2.t) (b := 100) (by decide)
    show -9223372036854775808 ≤ r2.t.tmod 100 ∧ r2.t.tmod 100 ≤ 9223372036854775807
    omega : -9223372036854775808 ≤ T.t ∧ T.t ≤ 9223372036854775807)
  have HFP : Hid (Pd.Fine P) := (by rw [← hP]; exact Pd.cut_fine p0 HM0.out 3 : Pd.Fine P)
  have HFQ : Hid (Pd.Fine Q) := (by rw [← hQ]; exact Pd.cut_fine p1 HM1.out 3 : Pd.Fine Q)
  have HDP : Hid (Pd.deep P ≤ 4 ∧ Pd.size P ≤ 85) := (by rw [← hP]; exact ⟨Pd.cut_deep p0 3, Pd.cut_size p0 3⟩ : Pd.deep P ≤ 4 ∧ Pd.size P ≤ 85)
  have HDQ : Hid (Pd.deep Q ≤ 4 ∧ Pd.size Q ≤ 85) := (by rw [← hQ]; exact ⟨Pd.cut_deep p1 3, Pd.cut_size p1 3⟩ : Pd.deep Q ≤ 4 ∧ Pd.size Q ≤ 85)
  rw [hP] at HL9 HLA9 HLS9
  rw [hQ] at HM9 HLA9 HLS9
  rw [hT] at HRT9
  have HFA : Hid (Pd.Fine (Pr.mk' (Pd.hk 1) [P, Q])) := Pd.fine_hk 1 ⟨by decide, by decide⟩ (by simp) (by
    intro x hx
    simp only [List.mem_cons, List.not_mem_nil, or_false] at hx
    rcases hx with rfl | rfl
    · exact HFP.out
    · exact HFQ.out)
  have HFS : Hid (Pd.Fine (Pr.mk' (Pd.hk 2) [Pd.nt P, Pd.nt Q])) := Pd.fine_hk 2 ⟨by decide, by decide⟩ (by simp) (by
    intro x hx
    simp only [List.mem_cons, List.not_mem_nil, or_false] at hx
    rcases hx with rfl | rfl
    · exact Pd.fine_nt HFP.out
    · exact Pd.fine_nt HFQ.out)
  have hda := Pd.deep_two 1 P Q
  have hsa := Pd.size_two 1 P Q
  have hds := Pd.deep_two 2 (Pd.nt P) (Pd.nt Q)
  have hss := Pd.size_two 2 (Pd.nt P) (Pd.nt Q)
  rw [Pd.deep_nt, Pd.deep_nt] at hds
  rw [Pd.size_nt, Pd.size_nt] at hss
  obtain ⟨hp1, hp2⟩ := HDP.out
  obtain ⟨hq1, hq2⟩ := HDQ.out
  have HTP : Hid (Pd.fit P 50 5000 = true) := Pd.fit_of (by omega) (by omega)
  have HTQ : Hid (Pd.fit Q 50 5000 = true) := Pd.fit_of (by omega) (by omega)
  have HTA : Hid (Pd.fit (Pr.mk' (Pd.hk 1) [P, Q]) 50 5000 = true) := Pd.fit_of (by omega) (by omega)
  have HTN : Hid (Pd.fit (Pd.nt (Pr.mk' (Pd.hk 1) [P, Q])) 50 5000 = true) := Pd.fit_of (by rw [Pd.deep_nt]; omega) (by rw [Pd.size_nt]; omega)
  have HTO : Hid (Pd.fit (Pr.mk' (Pd.hk 2) [Pd.nt P, Pd.nt Q]) 50 5000 = true) := Pd.fit_of (by omega) (by omega)
  obtain ⟨zp, hzp⟩ : ∃ z, Pd.ev T P = z := ⟨_, rfl⟩
  obtain ⟨zq, hzq⟩ : ∃ z, Pd.ev T Q = z := ⟨_, rfl⟩
  have HZP : Hid (Pd.ev T P = zp) := hzp
  have HZQ : Hid (Pd.ev T Q = zq) := hzq
  have HZA : Hid (Pd.ev T (Pr.mk' (Pd.hk 1) [P, Q]) = (zp && zq)) := (by rw [Pd.ev_all2, hzp, hzq] : Pd.ev T (Pr.mk' (Pd.hk 1) [P, Q]) = (zp && zq))
  have HZN : Hid (Pd.ev T (Pd.nt (Pr.mk' (Pd.hk 1) [P, Q])) = (!(zp && zq))) := (by rw [Pd.ev_nt, HZA.out] : Pd.ev T (Pd.nt (Pr.mk' (Pd.hk 1) [P, Q])) = (!(zp && zq)))
  have HZO : Hid (Pd.ev T (Pr.mk' (Pd.hk 2) [Pd.nt P, Pd.nt Q]) = (!(zp && zq))) := (by rw [← Pd.not_both, HZN.out] : Pd.ev T (Pr.mk' (Pd.hk 2) [Pd.nt P, Pd.nt Q]) = (!(zp && zq)))
  clear hx9 hX69 hPS hLS hP hQ hT hda hsa hds hss hp1 hp2 hq1 hq2 hzp hzq HX68 HX8 HALL HLA HP6 HQ6 HT6 HRT6 HL6 HM6 c0 c1 c2 c3 c4 c5 c6 k0 k1 k2 k3 k4 k5 k6
  go_wp2_with fail
  have hre := Ex.refl
  cases zp with
  | true =>
    refine Rg.wp_rows [.inl (pvv ⟨1, [], 0, 0, [], (none, 0, 0), some ⟨w6.heap.size, 0, none⟩, 2, 2⟩), .inr (Pd.IsP (fun _ => True) (Pd.nt (Pr.mk' (Pd.hk 1) [P, Q]))), .inl (rvv ⟨tt, tq, ta, tn, tc⟩), .inl (.bool (!(true && zq))), .inl (pvv xS), .inl (rvv ⟨tt, tq, ta, tn, tc⟩), .inl (.bool (!(true && zq))), .inl (.bool false), .inl (.bool false), .inl (pvv ⟨1, [], 0, 0, [], (none, 0, 0), some ⟨w6.heap.size, 0, none⟩, 2, 2⟩), .inl (rvv ⟨tt, tq, ta, tn, tc⟩), .inl (.bool (true && zq)), .inl (pvv xP), .inl (rvv ⟨tt, tq, ta, tn, tc⟩), .inl (.bool true), .inl (.bool true), .inl (pvv xQ), .inl (rvv ⟨tt, tq, ta, tn, tc⟩), .inl (.bool zq), .inl (.bool zq), .inl (.bool false), .inl (.bool false)] (Ex w9) Ex 134 (by kernel_rfl) rfl (by kernel_rfl) ?st hre (Ex.drew _) ?goods ?fin
    case st => exact ⟨Pd.IsP.stands _ _, trivial⟩
    case goods =>
      refine Rg.goods_cons (Rg.good_load hre rfl rfl rfl (fun wx hC => (HA9.out.below hC).loadI)) ?_
      refine Rg.goods_cons (Rg.good_call2 Try.func23 (by kernel_rfl) rfl rfl rfl (by rintro y0 y1 wx hC rfl rfl; exact pt_row (nots_is (Pr.mk' (Pd.hk 1) [P, Q]) 1 ⟨1, [], 0, 0, [], (none, 0, 0), some ⟨w6.heap.size, 0, none⟩, 2, 2⟩ wx (Pd.Lay.below _ HLA9.out hC) (by omega)) hC)) ?_
      refine Rg.goods_cons (Rg.good_load hre rfl rfl rfl (fun wx hC => rload (HT9.out.below hC))) ?_
      refine Rg.goods_cons (Rg.good_call2 Try.func15 (by kernel_rfl) rfl rfl rfl (by rintro y0 y1 wx hC ⟨u, rfl, hu⟩ rfl; exact ex_rowP (ev_is (Pd.nt (Pr.mk' (Pd.hk 1) [P, Q])) T u _ wx hu (Pd.fine_nt HFA.out) (HRT9.out.below hC) HTS.out HTN.out _ HZN.out) hC)) ?_
      refine Rg.goods_cons (Rg.good_load hre rfl rfl rfl (fun wx hC => (HS9.out.below hC).loadI)) ?_
      refine Rg.goods_cons (Rg.good_load hre rfl rfl rfl (fun wx hC => rload (HT9.out.below hC))) ?_
      refine Rg.goods_cons (Rg.good_call2 Try.func15 (by kernel_rfl) rfl rfl rfl (by rintro y0 y1 wx hC rfl rfl; exact ex_rowP (ev_is (Pr.mk' (Pd.hk 2) [Pd.nt P, Pd.nt Q]) T xS _ wx (Pd.Lay.below _ HLS9.out hC) HFS.out (HRT9.out.below hC) HTS.out HTO.out _ HZO.out) hC)) ?_
      refine Rg.goods_cons (Rg.good_bin hre rfl rfl rfl rfl (fun _ => rfl) (fun w => by cases zq <;> simp [go_sem])) ?_
      refine Rg.goods_cons (Rg.good_move hre rfl rfl rfl) ?_
      refine Rg.goods_cons (Rg.good_load hre rfl rfl rfl (fun wx hC => (HA9.out.below hC).loadI)) ?_
      refine Rg.goods_cons (Rg.good_load hre rfl rfl rfl (fun wx hC => rload (HT9.out.below hC))) ?_
      refine Rg.goods_cons (Rg.good_call2 Try.func15 (by kernel_rfl) rfl rfl rfl (by rintro y0 y1 wx hC rfl rfl; exact ex_rowP (ev_is (Pr.mk' (Pd.hk 1) [P, Q]) T ⟨1, [], 0, 0, [], (none, 0, 0), some ⟨w6.heap.size, 0, none⟩, 2, 2⟩ _ wx (Pd.Lay.below _ HLA9.out hC) HFA.out (HRT9.out.below hC) HTS.out HTA.out _ HZA.out) hC)) ?_
      refine Rg.goods_cons (Rg.good_load hre rfl rfl rfl (fun wx hC => (HP9.out.below hC).loadI)) ?_
      refine Rg.goods_cons (Rg.good_load hre rfl rfl rfl (fun wx hC => rload (HT9.out.below hC))) ?_
      refine Rg.goods_cons (Rg.good_call2 Try.func15 (by kernel_rfl) rfl rfl rfl (by rintro y0 y1 wx hC rfl rfl; exact ex_rowP (ev_is P T xP _ wx (Pd.Lay.below _ HL9.out hC) HFP.out (HRT9.out.below hC) HTS.out HTP.out _ HZP.out) hC)) ?_
      refine Rg.goods_cons (Rg.good_move hre rfl rfl rfl) ?_
      refine Rg.goods_cons (Rg.good_load hre rfl rfl rfl (fun wx hC => (HQ9.out.below hC).loadI)) ?_
      refine Rg.goods_cons (Rg.good_load hre rfl rfl rfl (fun wx hC => rload (HT9.out.below hC))) ?_
      refine Rg.goods_cons (Rg.good_call2 Try.func15 (by kernel_rfl) rfl rfl rfl (by rintro y0 y1 wx hC rfl rfl; exact ex_rowP (ev_is Q T xQ _ wx (Pd.Lay.below _ HM9.out hC) HFQ.out (HRT9.out.below hC) HTS.out HTQ.out _ HZQ.out) hC)) ?_
      refine Rg.goods_cons (Rg.good_pick true hre rfl rfl rfl rfl) ?_
      refine Rg.goods_cons (Rg.good_bin hre rfl rfl rfl rfl (fun _ => rfl) (fun w => by cases zq <;> simp [go_sem])) ?_
      refine Rg.goods_cons (Rg.good_pick false hre rfl rfl rfl rfl) ?_
      exact Rg.goods_nil
    case fin =>
      intro w10 hx10
      simp only [Rg.later, Act.put, List.setIfInBounds_toArray, List.set_cons_succ, List.set_cons_zero]
      intro _ _
      generalize (true && zq) = zz
      have HX10 : Hid (Ex w w10) := (HX9.out.trans hx10 : Ex w w10)
      have HT10 : Hid (LAt w10 w5.heap.size ⟨tt, tq, ta, tn, tc⟩) := (HT9.out.below hx10 : LAt w10 _ _)
      have HRT10 : Hid (RvOk w10 ⟨tt, tq, ta, tn, tc⟩ T) := (HRT9.out.below hx10 : RvOk w10 _ _)
      clear hx10 HP9 HQ9 HT9 HRT9 HL9 HM9 HA9 HLA9 HS9 HLS9
      by_cases hnm : a4 < a3
      · have tnm : decide (a4 < a3) = true := by simp [hnm]
        by_cases hmin : a4 = -9223372036854775808
        · have tmin : (a4 == -9223372036854775808) = true := by simp [hmin]
          clear hmin
          go_wp2_with fail
          go_at_call 11
          refine Calls.mono (known_any w10) ?_
          rintro e w11 ⟨rfl, hx11⟩
          have HX11 : Hid (Ex w w11) := (HX10.out.trans hx11 : Ex w w11)
          clear hx11
          go_wp2_with fail
          go_ret
          exact ⟨rfl, HX11.out⟩
        have tmin : (a4 == -9223372036854775808) = false := beq_eq_false_iff_ne.2 hmin
        by_cases hmax : a3 = 9223372036854775807
        · have tmax : (a3 == 9223372036854775807) = true := by simp [hmax]
          clear hmax hmin
          go_wp2_with fail
          go_at_call 11
          refine Calls.mono (known_any w10) ?_
          rintro e w11 ⟨rfl, hx11⟩
          have HX11 : Hid (Ex w w11) := (HX10.out.trans hx11 : Ex w w11)
          clear hx11
          go_wp2_with fail
          go_ret
          exact ⟨rfl, HX11.out⟩
        have tmax : (a3 == 9223372036854775807) = false := beq_eq_false_iff_ne.2 hmax
        obtain ⟨n1, hn1⟩ : ∃ x, a4 - 1 = x := ⟨_, rfl⟩
        obtain ⟨n2, hn2⟩ : ∃ x, a4 + 1 = x := ⟨_, rfl⟩
        obtain ⟨m1, hm1⟩ : ∃ x, a3 + 1 = x := ⟨_, rfl⟩
        have bn1 : -9223372036854775808 ≤ n1 ∧ n1 ≤ 9223372036854775807 := by omega
        have bn2 : -9223372036854775808 ≤ n2 ∧ n2 ≤ 9223372036854775807 := by omega
        have bm1 : -9223372036854775808 ≤ m1 ∧ m1 ≤ 9223372036854775807 := by omega
        have HB1 : Hid (-9223372036854775808 ≤ n1 ∧ n1 ≤ 9223372036854775807) := bn1
        have HB2' : Hid (-9223372036854775808 ≤ n2 ∧ n2 ≤ 9223372036854775807) := bn2
        have HBM : Hid (-9223372036854775808 ≤ m1 ∧ m1 ≤ 9223372036854775807) := bm1
        have HE2 : Hid (a4 + 1 = n2) := hn2
        have HW3 : Hid (-9223372036854775808 ≤ a4 ∧ a4 ≤ 9223372036854775807) := (by omega : -9223372036854775808 ≤ a4 ∧ a4 ≤ 9223372036854775807)
        have HW4 : Hid (-9223372036854775808 ≤ a3 ∧ a3 ≤ 9223372036854775807) := (by omega : -9223372036854775808 ≤ a3 ∧ a3 ≤ 9223372036854775807)
        obtain ⟨CS, hCS⟩ : ∃ CS, [decide (-9223372036854775808 ≤ T.t ∧ T.t ≤ n1), decide (a4 ≤ T.t ∧ T.t ≤ a3), decide (m1 ≤ T.t ∧ T.t ≤ 9223372036854775807)] = CS := ⟨_, rfl⟩
        have HCN : Hid (cnt CS = 1) := (by
          have h := three (t := T.t) (n := a4) (m := a3) (by omega) HTT.out
          rw [hn1, hm1, hCS] at h
          exact h : cnt CS = 1)
        obtain ⟨BS, hBS⟩ : ∃ BS, [btw (-9223372036854775808) n1, btw a4 a3, btw m1 9223372036854775807] = BS := ⟨_, rfl⟩
        have HBL : Hid (BS.length = 3 ∧ CS.length = 3) := (by rw [← hBS, ← hCS]; exact ⟨rfl, rfl⟩ : BS.length = 3 ∧ CS.length = 3)
        have HBC : Hid (∀ (i : Nat) (b : Pr) (c : Bool), BS[i]? = some b → CS[i]? = some c → Pd.ev T b = c ∧ Pd.Fine b ∧ Pd.fit b 50 5000 = true) := (by
          intro i b c hb hc
          rw [← hBS] at hb
          rw [← hCS] at hc
          match i, hb, hc with
          | 0, hb, hc => obtain rfl := Option.some.inj hb; obtain rfl := Option.some.inj hc; exact ⟨ev_btw _ _ _, Pd.fine_bare ⟨by decide, by decide⟩ ⟨by decide, by decide⟩ HB1.out (by simp) (by simp), Pd.fit_bare _⟩
          | 1, hb, hc => obtain rfl := Option.some.inj hb; obtain rfl := Option.some.inj hc; exact ⟨ev_btw _ _ _, Pd.fine_bare ⟨by decide, by decide⟩ HW3.out HW4.out (by simp) (by simp), Pd.fit_bare _⟩
          | 2, hb, hc => obtain rfl := Option.some.inj hb; obtain rfl := Option.some.inj hc; exact ⟨ev_btw _ _ _, Pd.fine_bare ⟨by decide, by decide⟩ HBM.out ⟨by decide, by decide⟩ (by simp) (by simp), Pd.fit_bare _⟩
          | i + 3, hb, hc => simp at hb : ∀ (i : Nat) (b : Pr) (c : Bool), BS[i]? = some b → CS[i]? = some c → _)
        obtain ⟨w11, hw11⟩ : ∃ w11, w10.alloc (.cells #[.int .i64 10, .string { data := #[] }, .int .i64 (-9223372036854775808), .int .i64 n1, .string { data := #[] }, .slice none 0 0, .slice none 0 0, .int .i64 10, .string { data := #[] }, .int .i64 a4, .int .i64 a3, .string { data := #[] }, .slice none 0 0, .slice none 0 0, .int .i64 10, .string { data := #[] }, .int .i64 m1, .int .i64 9223372036854775807, .string { data := #[] }, .slice none 0 0, .slice none 0 0] 25) = w11 := ⟨_, rfl⟩
        have hX1011 : Ex w10 w11 := by rw [← hw11]; exact (Below.refl _ _).alloc (Nat.le_refl _) _
        have HX11 : Hid (Ex w w11) := (HX10.out.trans hX1011 : Ex w w11)
        have HT11 : Hid (LAt w11 w5.heap.size ⟨tt, tq, ta, tn, tc⟩) := (HT10.out.below hX1011 : LAt w11 _ _)
        have HRT11 : Hid (RvOk w11 ⟨tt, tq, ta, tn, tc⟩ T) := (HRT10.out.below hX1011 : RvOk w11 _ _)
        have HRB : Hid (Pd.RdP w11 (some ⟨w10.heap.size, 0, none⟩) 3 BS) := (by
          rw [← hBS]
          refine ⟨[⟨10, [], -9223372036854775808, n1, [], (none, 0, 0), none, 0, 0⟩, ⟨10, [], a4, a3, [], (none, 0, 0), none, 0, 0⟩, ⟨10, [], m1, 9223372036854775807, [], (none, 0, 0), none, 0, 0⟩], ?_, ?_⟩
          · rw [← hw11]
            exact RdW.laid pc_len w10 [⟨10, [], -9223372036854775808, n1, [], (none, 0, 0), none, 0, 0⟩, ⟨10, [], a4, a3, [], (none, 0, 0), none, 0, 0⟩, ⟨10, [], m1, 9223372036854775807, [], (none, 0, 0), none, 0, 0⟩] (by simp)
          · exact (Pd.Lays.one (lay_bare _ _ _ _ _ _ _)).append ((Pd.Lays.one (lay_bare _ _ _ _ _ _ _)).append (Pd.Lays.one (lay_bare _ _ _ _ _ _ _))) : Pd.RdP w11 (some ⟨w10.heap.size, 0, none⟩) 3 BS)
        clear hX1011 hCS hBS hmin hmax HT10 HRT10
        go_wp2_with fail
        go_loopw [81, 14, 16] (fun iv kv bv wr => ∃ i c : Nat, i ≤ 3 ∧ iv = .int .i64 i ∧ kv = .int .i64 c ∧ c ≤ i ∧ Hid (c = cnt (CS.take i)) ∧ Hid (Ex w11 wr)) (fun iv kv bv wr => 3 - (intOf iv).toNat)
        case atStart => exact ⟨0, 0, by omega, rfl, rfl, by omega, (rfl : 0 = cnt (CS.take 0)), Ex.refl w11⟩
        case round =>
          obtain ⟨i, c, hi, rfl, rfl, hci, HCI, HXr⟩ := hrel
          have HXwr : Hid (Ex w wr) := (HX11.out.trans HXr.out : Ex w wr)
          by_cases hlt : i < 3
          · have hti : (i : Int) < 3 := by omega
            obtain ⟨b, off, u, hpp, hLk, e0, e1, e2, e3, e4, e5, e6⟩ := (HRB.out.below HXr.out).seven (i := i) (by rw [HBL.out.1]; exact hlt)
            simp only [Option.some.injEq, Addr.mk.injEq, and_true] at hpp
            obtain ⟨rfl, rfl⟩ := hpp
            simp only [Nat.zero_add] at e0 e1 e2 e3 e4 e5 e6
            obtain ⟨k, hk⟩ : ∃ k, BS[i]'(by rw [HBL.out.1]; exact hlt) = k := ⟨_, rfl⟩
            rw [hk] at hLk
            obtain ⟨x, hx⟩ : ∃ x, CS[i]'(by rw [HBL.out.2]; exact hlt) = x := ⟨_, rfl⟩
            have hx2 : CS[i]? = some x := by rw [List.getElem?_eq_getElem (by rw [HBL.out.2]; exact hlt), hx]
            have hbc := HBC.out i k x (by rw [List.getElem?_eq_getElem (by rw [HBL.out.1]; exact hlt), hk]) hx2
            have HCX : Hid (cnt (CS.take (i + 1)) = cnt (CS.take i) + (if x = true then 1 else 0)) := cnt_next hx2
            obtain ⟨w12, hw12⟩ : ∃ w12, wr.alloc (pb u) = w12 := ⟨_, rfl⟩
            have hX12 : Ex wr w12 := by rw [← hw12]; exact (Below.refl _ _).alloc (Nat.le_refl _) _
            have HX12 : Hid (Ex w11 w12) := (HXr.out.trans hX12 : Ex w11 w12)
            have HP12 : Hid (PAt w12 wr.heap.size u) := (by rw [← hw12]; exact PAt.new wr u : PAt w12 _ _)
            have HC12 : Hid (Calls Try.prog 15 #[pvv u, rvv ⟨tt, tq, ta, tn, tc⟩] w12 fun e w' => e = .returned (.bool x) ∧ Ex w12 w') := ev_is k T u _ w12 (Pd.Lay.below _ hLk hX12) hbc.2.1 (HRT11.out.below HX12.out) HTS.out hbc.2.2 x hbc.1
            obtain ⟨q0, q1, q2, q3, q4, q5, q6⟩ := HP12.out.all
            obtain ⟨t0, t1, t2⟩ := (HT11.out.below HX12.out).all
            simp only at t0 t1 t2
            clear hLk hk hx hx2 hbc hX12
            go_wp2_with fail
            go_at_call 15
            refine Calls.mono HC12.out ?_
            rintro e w13 ⟨rfl, hx13⟩
            have HX13 : Hid (Ex w11 w13) := (HX12.out.trans hx13 : Ex w11 w13)
            clear hx13 HC12 t0 t1 t2
            cases x with
            | true =>
              have HCC : Hid (c + 1 = cnt (CS.take (i + 1))) := (by rw [HCX.out, ← HCI.out]; simp : c + 1 = cnt (CS.take (i + 1)))
              go_wp2_with fail
              go_roundw
              case rel => exact ⟨i + 1, c + 1, by omega, by go_num, by go_num, by omega, HCC, HX13⟩
              case measure => simp [intOf]; omega
            | false =>
              have HCC : Hid (c = cnt (CS.take (i + 1))) := (by rw [HCX.out, ← HCI.out]; simp : c = cnt (CS.take (i + 1)))
              go_wp2_with fail
              go_roundw
              case rel => exact ⟨i + 1, c, by omega, by go_num, by go_num, by omega, HCC, HX13⟩
              case measure => simp [intOf]; omega
          · have hti : ¬ (i : Int) < 3 := by omega
            obtain rfl : c = 1 := by
              have h := HCI.out
              rw [List.take_of_length_le (by rw [HBL.out.2]; omega), HCN.out] at h
              exact h
            obtain ⟨zl, hzl⟩ : ∃ z, Pd.ev T (ask 4 a4) = z := ⟨_, rfl⟩
            obtain ⟨ze, hze⟩ : ∃ z, Pd.ev T (ask 5 a4) = z := ⟨_, rfl⟩
            obtain ⟨zu, hzu⟩ : ∃ z, Pd.ev T (ask 4 n2) = z := ⟨_, rfl⟩
            obtain ⟨zn, hzn⟩ : ∃ z, Pd.ev T (ask 9 0) = z := ⟨_, rfl⟩
            have hpart := parted T a4 zl ze zu zn hzl hze (by rw [HE2.out]; exact hzu) hzn
            have HPART : Hid (zu = (zl || ze) ∧ (zl && ze) = false ∧ (zn = true → zu = false)) := hpart
            have HZL : Hid (Pd.ev T (ask 4 a4) = zl) := hzl
            have HZE : Hid (Pd.ev T (ask 5 a4) = ze) := hze
            have HZU : Hid (Pd.ev T (ask 4 n2) = zu) := hzu
            have HZNU : Hid (Pd.ev T (ask 9 0) = zn) := hzn
            have HC14 : Hid (Calls Try.prog 15 #[pvv ⟨4, [97], a4, 0, [], (none, 0, 0), none, 0, 0⟩, rvv ⟨tt, tq, ta, tn, tc⟩] wr fun e w' => e = .returned (.bool zl) ∧ Ex wr w') := ev_is (ask 4 a4) T _ _ wr (lay_bare _ _ 4 [97] a4 0 []) (Pd.fine_bare ⟨by decide, by decide⟩ HW3.out ⟨by decide, by decide⟩ (by simp) (by simp)) (HRT11.out.below HXr.out) HTS.out (Pd.fit_bare _) zl hzl
            obtain ⟨t0, t1, t2⟩ := (HT11.out.below HXr.out).all
            simp only at t0 t1 t2
            clear hpart hzl hze hzu hzn
            go_wp2_with fail
            go_at_call 15
            refine Calls.mono HC14.out ?_
            rintro e w14 ⟨rfl, hx14⟩
            have HX14 : Hid (Ex w11 w14) := (HXr.out.trans hx14 : Ex w11 w14)
            have HC15 : Hid (Calls Try.prog 15 #[pvv ⟨5, [97], a4, 0, [], (none, 0, 0), none, 0, 0⟩, rvv ⟨tt, tq, ta, tn, tc⟩] w14 fun e w' => e = .returned (.bool ze) ∧ Ex w14 w') := ev_is (ask 5 a4) T _ _ w14 (lay_bare _ _ 5 [97] a4 0 []) (Pd.fine_bare ⟨by decide, by decide⟩ HW3.out ⟨by decide, by decide⟩ (by simp) (by simp)) (HRT11.out.below HX14.out) HTS.out (Pd.fit_bare _) ze HZE.out
            obtain ⟨r0, r1, r2'⟩ := (HT11.out.below HX14.out).all
            simp only at r0 r1 r2'
            clear hx14 HC14 t0 t1 t2
            go_wp2_with fail
            go_at_call 15
            refine Calls.mono HC15.out ?_
            rintro e w15 ⟨rfl, hx15⟩
            have HX15 : Hid (Ex w11 w15) := (HX14.out.trans hx15 : Ex w11 w15)
            have HC16 : Hid (Calls Try.prog 15 #[pvv ⟨4, [97], n2, 0, [], (none, 0, 0), none, 0, 0⟩, rvv ⟨tt, tq, ta, tn, tc⟩] w15 fun e w' => e = .returned (.bool zu) ∧ Ex w15 w') := ev_is (ask 4 n2) T _ _ w15 (lay_bare _ _ 4 [97] n2 0 []) (Pd.fine_bare ⟨by decide, by decide⟩ HB2'.out ⟨by decide, by decide⟩ (by simp) (by simp)) (HRT11.out.below HX15.out) HTS.out (Pd.fit_bare _) zu HZU.out
            obtain ⟨t0, t1, t2⟩ := (HT11.out.below HX15.out).all
            simp only at t0 t1 t2
            clear hx15 HC15 r0 r1 r2'
            go_wp2_with fail
            go_at_call 15
            refine Calls.mono HC16.out ?_
            rintro e w16 ⟨rfl, hx16⟩
            have HX16 : Hid (Ex w11 w16) := (HX15.out.trans hx16 : Ex w11 w16)
            have HC17 : Hid (Calls Try.prog 15 #[pvv ⟨9, [97], 0, 0, [], (none, 0, 0), none, 0, 0⟩, rvv ⟨tt, tq, ta, tn, tc⟩] w16 fun e w' => e = .returned (.bool zn) ∧ Ex w16 w') := ev_is (ask 9 0) T _ _ w16 (lay_bare _ _ 9 [97] 0 0 []) (Pd.fine_bare ⟨by decide, by decide⟩ ⟨by decide, by decide⟩ ⟨by decide, by decide⟩ (by simp) (by simp)) (HRT11.out.below HX16.out) HTS.out (Pd.fit_bare _) zn HZNU.out
            obtain ⟨r0, r1, r2'⟩ := (HT11.out.below HX16.out).all
            simp only at r0 r1 r2'
            obtain ⟨hu1, hu2, hu3⟩ := HPART.out
            clear hx16 HC16 t0 t1 t2
            cases zl <;> cases ze <;> cases zn <;> simp at hu1 hu2 hu3 <;> first | contradiction | skip
            all_goals
              subst hu1
              first | contradiction | skip
            all_goals
              go_wp2_with fail
              go_at_call 15
              refine Calls.mono HC17.out ?_
              rintro e w17 ⟨rfl, hx17⟩
              have HX17 : Hid (Ex w11 w17) := (HX16.out.trans hx17 : Ex w11 w17)
              clear hx17 HC17
              go_wp2_with fail
              go_at_call 11
              refine Calls.mono (known_any w17) ?_
              rintro e w18 ⟨rfl, hx18⟩
              have HX18 : Hid (Ex w w18) := (HX11.out.trans (HX17.out.trans hx18) : Ex w w18)
              clear hx18
              go_wp2_with fail
              go_ret
              exact ⟨rfl, HX18.out⟩
      · have tnm : decide (a4 < a3) = false := by simp; omega
        by_cases hmin : a3 = -9223372036854775808
        · have tmin : (a3 == -9223372036854775808) = true := by simp [hmin]
          clear hmin
          go_wp2_with fail
          go_at_call 11
          refine Calls.mono (known_any w10) ?_
          rintro e w11 ⟨rfl, hx11⟩
          have HX11 : Hid (Ex w w11) := (HX10.out.trans hx11 : Ex w w11)
          clear hx11
          go_wp2_with fail
          go_ret
          exact ⟨rfl, HX11.out⟩
        have tmin : (a3 == -9223372036854775808) = false := beq_eq_false_iff_ne.2 hmin
        by_cases hmax : a4 = 9223372036854775807
        · have tmax : (a4 == 9223372036854775807) = true := by simp [hmax]
          clear hmax hmin
          go_wp2_with fail
          go_at_call 11
          refine Calls.mono (known_any w10) ?_
          rintro e w11 ⟨rfl, hx11⟩
          have HX11 : Hid (Ex w w11) := (HX10.out.trans hx11 : Ex w w11)
          clear hx11
          go_wp2_with fail
          go_ret
          exact ⟨rfl, HX11.out⟩
        have tmax : (a4 == 9223372036854775807) = false := beq_eq_false_iff_ne.2 hmax
        obtain ⟨n1, hn1⟩ : ∃ x, a3 - 1 = x := ⟨_, rfl⟩
        obtain ⟨n2, hn2⟩ : ∃ x, a3 + 1 = x := ⟨_, rfl⟩
        obtain ⟨m1, hm1⟩ : ∃ x, a4 + 1 = x := ⟨_, rfl⟩
        have bn1 : -9223372036854775808 ≤ n1 ∧ n1 ≤ 9223372036854775807 := by omega
        have bn2 : -9223372036854775808 ≤ n2 ∧ n2 ≤ 9223372036854775807 := by omega
        have bm1 : -9223372036854775808 ≤ m1 ∧ m1 ≤ 9223372036854775807 := by omega
        have HB1 : Hid (-9223372036854775808 ≤ n1 ∧ n1 ≤ 9223372036854775807) := bn1
        have HB2' : Hid (-9223372036854775808 ≤ n2 ∧ n2 ≤ 9223372036854775807) := bn2
        have HBM : Hid (-9223372036854775808 ≤ m1 ∧ m1 ≤ 9223372036854775807) := bm1
        have HE2 : Hid (a3 + 1 = n2) := hn2
        have HW3 : Hid (-9223372036854775808 ≤ a3 ∧ a3 ≤ 9223372036854775807) := (by omega : -9223372036854775808 ≤ a3 ∧ a3 ≤ 9223372036854775807)
        have HW4 : Hid (-9223372036854775808 ≤ a4 ∧ a4 ≤ 9223372036854775807) := (by omega : -9223372036854775808 ≤ a4 ∧ a4 ≤ 9223372036854775807)
        obtain ⟨CS, hCS⟩ : ∃ CS, [decide (-9223372036854775808 ≤ T.t ∧ T.t ≤ n1), decide (a3 ≤ T.t ∧ T.t ≤ a4), decide (m1 ≤ T.t ∧ T.t ≤ 9223372036854775807)] = CS := ⟨_, rfl⟩
        have HCN : Hid (cnt CS = 1) := (by
          have h := three (t := T.t) (n := a3) (m := a4) (by omega) HTT.out
          rw [hn1, hm1, hCS] at h
          exact h : cnt CS = 1)
        obtain ⟨BS, hBS⟩ : ∃ BS, [btw (-9223372036854775808) n1, btw a3 a4, btw m1 9223372036854775807] = BS := ⟨_, rfl⟩
        have HBL : Hid (BS.length = 3 ∧ CS.length = 3) := (by rw [← hBS, ← hCS]; exact ⟨rfl, rfl⟩ : BS.length = 3 ∧ CS.length = 3)
        have HBC : Hid (∀ (i : Nat) (b : Pr) (c : Bool), BS[i]? = some b → CS[i]? = some c → Pd.ev T b = c ∧ Pd.Fine b ∧ Pd.fit b 50 5000 = true) := (by
          intro i b c hb hc
          rw [← hBS] at hb
          rw [← hCS] at hc
          match i, hb, hc with
          | 0, hb, hc => obtain rfl := Option.some.inj hb; obtain rfl := Option.some.inj hc; exact ⟨ev_btw _ _ _, Pd.fine_bare ⟨by decide, by decide⟩ ⟨by decide, by decide⟩ HB1.out (by simp) (by simp), Pd.fit_bare _⟩
          | 1, hb, hc => obtain rfl := Option.some.inj hb; obtain rfl := Option.some.inj hc; exact ⟨ev_btw _ _ _, Pd.fine_bare ⟨by decide, by decide⟩ HW3.out HW4.out (by simp) (by simp), Pd.fit_bare _⟩
          | 2, hb, hc => obtain rfl := Option.some.inj hb; obtain rfl := Option.some.inj hc; exact ⟨ev_btw _ _ _, Pd.fine_bare ⟨by decide, by decide⟩ HBM.out ⟨by decide, by decide⟩ (by simp) (by simp), Pd.fit_bare _⟩
          | i + 3, hb, hc => simp at hb : ∀ (i : Nat) (b : Pr) (c : Bool), BS[i]? = some b → CS[i]? = some c → _)
        obtain ⟨w11, hw11⟩ : ∃ w11, w10.alloc (.cells #[.int .i64 10, .string { data := #[] }, .int .i64 (-9223372036854775808), .int .i64 n1, .string { data := #[] }, .slice none 0 0, .slice none 0 0, .int .i64 10, .string { data := #[] }, .int .i64 a3, .int .i64 a4, .string { data := #[] }, .slice none 0 0, .slice none 0 0, .int .i64 10, .string { data := #[] }, .int .i64 m1, .int .i64 9223372036854775807, .string { data := #[] }, .slice none 0 0, .slice none 0 0] 25) = w11 := ⟨_, rfl⟩
        have hX1011 : Ex w10 w11 := by rw [← hw11]; exact (Below.refl _ _).alloc (Nat.le_refl _) _
        have HX11 : Hid (Ex w w11) := (HX10.out.trans hX1011 : Ex w w11)
        have HT11 : Hid (LAt w11 w5.heap.size ⟨tt, tq, ta, tn, tc⟩) := (HT10.out.below hX1011 : LAt w11 _ _)
        have HRT11 : Hid (RvOk w11 ⟨tt, tq, ta, tn, tc⟩ T) := (HRT10.out.below hX1011 : RvOk w11 _ _)
        have HRB : Hid (Pd.RdP w11 (some ⟨w10.heap.size, 0, none⟩) 3 BS) := (by
          rw [← hBS]
          refine ⟨[⟨10, [], -9223372036854775808, n1, [], (none, 0, 0), none, 0, 0⟩, ⟨10, [], a3, a4, [], (none, 0, 0), none, 0, 0⟩, ⟨10, [], m1, 9223372036854775807, [], (none, 0, 0), none, 0, 0⟩], ?_, ?_⟩
          · rw [← hw11]
            exact RdW.laid pc_len w10 [⟨10, [], -9223372036854775808, n1, [], (none, 0, 0), none, 0, 0⟩, ⟨10, [], a3, a4, [], (none, 0, 0), none, 0, 0⟩, ⟨10, [], m1, 9223372036854775807, [], (none, 0, 0), none, 0, 0⟩] (by simp)
          · exact (Pd.Lays.one (lay_bare _ _ _ _ _ _ _)).append ((Pd.Lays.one (lay_bare _ _ _ _ _ _ _)).append (Pd.Lays.one (lay_bare _ _ _ _ _ _ _))) : Pd.RdP w11 (some ⟨w10.heap.size, 0, none⟩) 3 BS)
        clear hX1011 hCS hBS hmin hmax HT10 HRT10
        go_wp2_with fail
        go_loopw [81, 14, 16] (fun iv kv bv wr => ∃ i c : Nat, i ≤ 3 ∧ iv = .int .i64 i ∧ kv = .int .i64 c ∧ c ≤ i ∧ Hid (c = cnt (CS.take i)) ∧ Hid (Ex w11 wr)) (fun iv kv bv wr => 3 - (intOf iv).toNat)
        case atStart => exact ⟨0, 0, by omega, rfl, rfl, by omega, (rfl : 0 = cnt (CS.take 0)), Ex.refl w11⟩
        case round =>
          obtain ⟨i, c, hi, rfl, rfl, hci, HCI, HXr⟩ := hrel
          have HXwr : Hid (Ex w wr) := (HX11.out.trans HXr.out : Ex w wr)
          by_cases hlt : i < 3
          · have hti : (i : Int) < 3 := by omega
            obtain ⟨b, off, u, hpp, hLk, e0, e1, e2, e3, e4, e5, e6⟩ := (HRB.out.below HXr.out).seven (i := i) (by rw [HBL.out.1]; exact hlt)
            simp only [Option.some.injEq, Addr.mk.injEq, and_true] at hpp
            obtain ⟨rfl, rfl⟩ := hpp
            simp only [Nat.zero_add] at e0 e1 e2 e3 e4 e5 e6
            obtain ⟨k, hk⟩ : ∃ k, BS[i]'(by rw [HBL.out.1]; exact hlt) = k := ⟨_, rfl⟩
            rw [hk] at hLk
            obtain ⟨x, hx⟩ : ∃ x, CS[i]'(by rw [HBL.out.2]; exact hlt) = x := ⟨_, rfl⟩
            have hx2 : CS[i]? = some x := by rw [List.getElem?_eq_getElem (by rw [HBL.out.2]; exact hlt), hx]
            have hbc := HBC.out i k x (by rw [List.getElem?_eq_getElem (by rw [HBL.out.1]; exact hlt), hk]) hx2
            have HCX : Hid (cnt (CS.take (i + 1)) = cnt (CS.take i) + (if x = true then 1 else 0)) := cnt_next hx2
            obtain ⟨w12, hw12⟩ : ∃ w12, wr.alloc (pb u) = w12 := ⟨_, rfl⟩
            have hX12 : Ex wr w12 := by rw [← hw12]; exact (Below.refl _ _).alloc (Nat.le_refl _) _
            have HX12 : Hid (Ex w11 w12) := (HXr.out.trans hX12 : Ex w11 w12)
            have HP12 : Hid (PAt w12 wr.heap.size u) := (by rw [← hw12]; exact PAt.new wr u : PAt w12 _ _)
            have HC12 : Hid (Calls Try.prog 15 #[pvv u, rvv ⟨tt, tq, ta, tn, tc⟩] w12 fun e w' => e = .returned (.bool x) ∧ Ex w12 w') := ev_is k T u _ w12 (Pd.Lay.below _ hLk hX12) hbc.2.1 (HRT11.out.below HX12.out) HTS.out hbc.2.2 x hbc.1
            obtain ⟨q0, q1, q2, q3, q4, q5, q6⟩ := HP12.out.all
            obtain ⟨t0, t1, t2⟩ := (HT11.out.below HX12.out).all
            simp only at t0 t1 t2
            clear hLk hk hx hx2 hbc hX12
            go_wp2_with fail
            go_at_call 15
            refine Calls.mono HC12.out ?_
            rintro e w13 ⟨rfl, hx13⟩
            have HX13 : Hid (Ex w11 w13) := (HX12.out.trans hx13 : Ex w11 w13)
            clear hx13 HC12 t0 t1 t2
            cases x with
            | true =>
              have HCC : Hid (c + 1 = cnt (CS.take (i + 1))) := (by rw [HCX.out, ← HCI.out]; simp : c + 1 = cnt (CS.take (i + 1)))
              go_wp2_with fail
              go_roundw
              case rel => exact ⟨i + 1, c + 1, by omega, by go_num, by go_num, by omega, HCC, HX13⟩
              case measure => simp [intOf]; omega
            | false =>
              have HCC : Hid (c = cnt (CS.take (i + 1))) := (by rw [HCX.out, ← HCI.out]; simp : c = cnt (CS.take (i + 1)))
              go_wp2_with fail
              go_roundw
              case rel => exact ⟨i + 1, c, by omega, by go_num, by go_num, by omega, HCC, HX13⟩
              case measure => simp [intOf]; omega
          · have hti : ¬ (i : Int) < 3 := by omega
            obtain rfl : c = 1 := by
              have h := HCI.out
              rw [List.take_of_length_le (by rw [HBL.out.2]; omega), HCN.out] at h
              exact h
            obtain ⟨zl, hzl⟩ : ∃ z, Pd.ev T (ask 4 a3) = z := ⟨_, rfl⟩
            obtain ⟨ze, hze⟩ : ∃ z, Pd.ev T (ask 5 a3) = z := ⟨_, rfl⟩
            obtain ⟨zu, hzu⟩ : ∃ z, Pd.ev T (ask 4 n2) = z := ⟨_, rfl⟩
            obtain ⟨zn, hzn⟩ : ∃ z, Pd.ev T (ask 9 0) = z := ⟨_, rfl⟩
            have hpart := parted T a3 zl ze zu zn hzl hze (by rw [HE2.out]; exact hzu) hzn
            have HPART : Hid (zu = (zl || ze) ∧ (zl && ze) = false ∧ (zn = true → zu = false)) := hpart
            have HZL : Hid (Pd.ev T (ask 4 a3) = zl) := hzl
            have HZE : Hid (Pd.ev T (ask 5 a3) = ze) := hze
            have HZU : Hid (Pd.ev T (ask 4 n2) = zu) := hzu
            have HZNU : Hid (Pd.ev T (ask 9 0) = zn) := hzn
            have HC14 : Hid (Calls Try.prog 15 #[pvv ⟨4, [97], a3, 0, [], (none, 0, 0), none, 0, 0⟩, rvv ⟨tt, tq, ta, tn, tc⟩] wr fun e w' => e = .returned (.bool zl) ∧ Ex wr w') := ev_is (ask 4 a3) T _ _ wr (lay_bare _ _ 4 [97] a3 0 []) (Pd.fine_bare ⟨by decide, by decide⟩ HW3.out ⟨by decide, by decide⟩ (by simp) (by simp)) (HRT11.out.below HXr.out) HTS.out (Pd.fit_bare _) zl hzl
            obtain ⟨t0, t1, t2⟩ := (HT11.out.below HXr.out).all
            simp only at t0 t1 t2
            clear hpart hzl hze hzu hzn
            go_wp2_with fail
            go_at_call 15
            refine Calls.mono HC14.out ?_
            rintro e w14 ⟨rfl, hx14⟩
            have HX14 : Hid (Ex w11 w14) := (HXr.out.trans hx14 : Ex w11 w14)
            have HC15 : Hid (Calls Try.prog 15 #[pvv ⟨5, [97], a3, 0, [], (none, 0, 0), none, 0, 0⟩, rvv ⟨tt, tq, ta, tn, tc⟩] w14 fun e w' => e = .returned (.bool ze) ∧ Ex w14 w') := ev_is (ask 5 a3) T _ _ w14 (lay_bare _ _ 5 [97] a3 0 []) (Pd.fine_bare ⟨by decide, by decide⟩ HW3.out ⟨by decide, by decide⟩ (by simp) (by simp)) (HRT11.out.below HX14.out) HTS.out (Pd.fit_bare _) ze HZE.out
            obtain ⟨r0, r1, r2'⟩ := (HT11.out.below HX14.out).all
            simp only at r0 r1 r2'
            clear hx14 HC14 t0 t1 t2
            go_wp2_with fail
            go_at_call 15
            refine Calls.mono HC15.out ?_
            rintro e w15 ⟨rfl, hx15⟩
            have HX15 : Hid (Ex w11 w15) := (HX14.out.trans hx15 : Ex w11 w15)
            have HC16 : Hid (Calls Try.prog 15 #[pvv ⟨4, [97], n2, 0, [], (none, 0, 0), none, 0, 0⟩, rvv ⟨tt, tq, ta, tn, tc⟩] w15 fun e w' => e = .returned (.bool zu) ∧ Ex w15 w') := ev_is (ask 4 n2) T _ _ w15 (lay_bare _ _ 4 [97] n2 0 []) (Pd.fine_bare ⟨by decide, by decide⟩ HB2'.out ⟨by decide, by decide⟩ (by simp) (by simp)) (HRT11.out.below HX15.out) HTS.out (Pd.fit_bare _) zu HZU.out
            obtain ⟨t0, t1, t2⟩ := (HT11.out.below HX15.out).all
            simp only at t0 t1 t2
            clear hx15 HC15 r0 r1 r2'
            go_wp2_with fail
            go_at_call 15
            refine Calls.mono HC16.out ?_
            rintro e w16 ⟨rfl, hx16⟩
            have HX16 : Hid (Ex w11 w16) := (HX15.out.trans hx16 : Ex w11 w16)
            have HC17 : Hid (Calls Try.prog 15 #[pvv ⟨9, [97], 0, 0, [], (none, 0, 0), none, 0, 0⟩, rvv ⟨tt, tq, ta, tn, tc⟩] w16 fun e w' => e = .returned (.bool zn) ∧ Ex w16 w') := ev_is (ask 9 0) T _ _ w16 (lay_bare _ _ 9 [97] 0 0 []) (Pd.fine_bare ⟨by decide, by decide⟩ ⟨by decide, by decide⟩ ⟨by decide, by decide⟩ (by simp) (by simp)) (HRT11.out.below HX16.out) HTS.out (Pd.fit_bare _) zn HZNU.out
            obtain ⟨r0, r1, r2'⟩ := (HT11.out.below HX16.out).all
            simp only at r0 r1 r2'
            obtain ⟨hu1, hu2, hu3⟩ := HPART.out
            clear hx16 HC16 t0 t1 t2
            cases zl <;> cases ze <;> cases zn <;> simp at hu1 hu2 hu3 <;> first | contradiction | skip
            all_goals
              subst hu1
              first | contradiction | skip
            all_goals
              go_wp2_with fail
              go_at_call 15
              refine Calls.mono HC17.out ?_
              rintro e w17 ⟨rfl, hx17⟩
              have HX17 : Hid (Ex w11 w17) := (HX16.out.trans hx17 : Ex w11 w17)
              clear hx17 HC17
              go_wp2_with fail
              go_at_call 11
              refine Calls.mono (known_any w17) ?_
              rintro e w18 ⟨rfl, hx18⟩
              have HX18 : Hid (Ex w w18) := (HX11.out.trans (HX17.out.trans hx18) : Ex w w18)
              clear hx18
              go_wp2_with fail
              go_ret
              exact ⟨rfl, HX18.out⟩
  | false =>
    refine Rg.wp_rows [.inl (pvv ⟨1, [], 0, 0, [], (none, 0, 0), some ⟨w6.heap.size, 0, none⟩, 2, 2⟩), .inr (Pd.IsP (fun _ => True) (Pd.nt (Pr.mk' (Pd.hk 1) [P, Q]))), .inl (rvv ⟨tt, tq, ta, tn, tc⟩), .inl (.bool (!(false && zq))), .inl (pvv xS), .inl (rvv ⟨tt, tq, ta, tn, tc⟩), .inl (.bool (!(false && zq))), .inl (.bool false), .inl (.bool false), .inl (pvv ⟨1, [], 0, 0, [], (none, 0, 0), some ⟨w6.heap.size, 0, none⟩, 2, 2⟩), .inl (rvv ⟨tt, tq, ta, tn, tc⟩), .inl (.bool (false && zq)), .inl (pvv xP), .inl (rvv ⟨tt, tq, ta, tn, tc⟩), .inl (.bool false), .inl (.bool false), .inl undef, .inl undef, .inl undef, .inl (.bool false), .inl (.bool false), .inl (.bool false)] (Ex w9) Ex 134 (by kernel_rfl) rfl (by kernel_rfl) ?st hre (Ex.drew _) ?goods ?fin
    case st => exact ⟨Pd.IsP.stands _ _, trivial⟩
    case goods =>
      refine Rg.goods_cons (Rg.good_load hre rfl rfl rfl (fun wx hC => (HA9.out.below hC).loadI)) ?_
      refine Rg.goods_cons (Rg.good_call2 Try.func23 (by kernel_rfl) rfl rfl rfl (by rintro y0 y1 wx hC rfl rfl; exact pt_row (nots_is (Pr.mk' (Pd.hk 1) [P, Q]) 1 ⟨1, [], 0, 0, [], (none, 0, 0), some ⟨w6.heap.size, 0, none⟩, 2, 2⟩ wx (Pd.Lay.below _ HLA9.out hC) (by omega)) hC)) ?_
      refine Rg.goods_cons (Rg.good_load hre rfl rfl rfl (fun wx hC => rload (HT9.out.below hC))) ?_
      refine Rg.goods_cons (Rg.good_call2 Try.func15 (by kernel_rfl) rfl rfl rfl (by rintro y0 y1 wx hC ⟨u, rfl, hu⟩ rfl; exact ex_rowP (ev_is (Pd.nt (Pr.mk' (Pd.hk 1) [P, Q])) T u _ wx hu (Pd.fine_nt HFA.out) (HRT9.out.below hC) HTS.out HTN.out _ HZN.out) hC)) ?_
      refine Rg.goods_cons (Rg.good_load hre rfl rfl rfl (fun wx hC => (HS9.out.below hC).loadI)) ?_
      refine Rg.goods_cons (Rg.good_load hre rfl rfl rfl (fun wx hC => rload (HT9.out.below hC))) ?_
      refine Rg.goods_cons (Rg.good_call2 Try.func15 (by kernel_rfl) rfl rfl rfl (by rintro y0 y1 wx hC rfl rfl; exact ex_rowP (ev_is (Pr.mk' (Pd.hk 2) [Pd.nt P, Pd.nt Q]) T xS _ wx (Pd.Lay.below _ HLS9.out hC) HFS.out (HRT9.out.below hC) HTS.out HTO.out _ HZO.out) hC)) ?_
      refine Rg.goods_cons (Rg.good_bin hre rfl rfl rfl rfl (fun _ => rfl) (fun w => by cases zq <;> simp [go_sem])) ?_
      refine Rg.goods_cons (Rg.good_move hre rfl rfl rfl) ?_
      refine Rg.goods_cons (Rg.good_load hre rfl rfl rfl (fun wx hC => (HA9.out.below hC).loadI)) ?_
      refine Rg.goods_cons (Rg.good_load hre rfl rfl rfl (fun wx hC => rload (HT9.out.below hC))) ?_
      refine Rg.goods_cons (Rg.good_call2 Try.func15 (by kernel_rfl) rfl rfl rfl (by rintro y0 y1 wx hC rfl rfl; exact ex_rowP (ev_is (Pr.mk' (Pd.hk 1) [P, Q]) T ⟨1, [], 0, 0, [], (none, 0, 0), some ⟨w6.heap.size, 0, none⟩, 2, 2⟩ _ wx (Pd.Lay.below _ HLA9.out hC) HFA.out (HRT9.out.below hC) HTS.out HTA.out _ HZA.out) hC)) ?_
      refine Rg.goods_cons (Rg.good_load hre rfl rfl rfl (fun wx hC => (HP9.out.below hC).loadI)) ?_
      refine Rg.goods_cons (Rg.good_load hre rfl rfl rfl (fun wx hC => rload (HT9.out.below hC))) ?_
      refine Rg.goods_cons (Rg.good_call2 Try.func15 (by kernel_rfl) rfl rfl rfl (by rintro y0 y1 wx hC rfl rfl; exact ex_rowP (ev_is P T xP _ wx (Pd.Lay.below _ HL9.out hC) HFP.out (HRT9.out.below hC) HTS.out HTP.out _ HZP.out) hC)) ?_
      refine Rg.goods_cons (Rg.good_move hre rfl rfl rfl) ?_
      refine Rg.goods_cons (Rg.good_skip rfl) ?_
      refine Rg.goods_cons (Rg.good_skip rfl) ?_
      refine Rg.goods_cons (Rg.good_skip rfl) ?_
      refine Rg.goods_cons (Rg.good_pick false hre rfl rfl rfl rfl) ?_
      refine Rg.goods_cons (Rg.good_bin hre rfl rfl rfl rfl (fun _ => rfl) (fun w => by cases zq <;> simp [go_sem])) ?_
      refine Rg.goods_cons (Rg.good_pick false hre rfl rfl rfl rfl) ?_
      exact Rg.goods_nil
    case fin =>
      intro w10 hx10
      simp only [Rg.later, Act.put, List.setIfInBounds_toArray, List.set_cons_succ, List.set_cons_zero]
      intro _ _
      generalize (false && zq) = zz
      have HX10 : Hid (Ex w w10) := (HX9.out.trans hx10 : Ex w w10)
      have HT10 : Hid (LAt w10 w5.heap.size ⟨tt, tq, ta, tn, tc⟩) := (HT9.out.below hx10 : LAt w10 _ _)
      have HRT10 : Hid (RvOk w10 ⟨tt, tq, ta, tn, tc⟩ T) := (HRT9.out.below hx10 : RvOk w10 _ _)
      clear hx10 HP9 HQ9 HT9 HRT9 HL9 HM9 HA9 HLA9 HS9 HLS9
      by_cases hnm : a4 < a3
      · have tnm : decide (a4 < a3) = true := by simp [hnm]
        by_cases hmin : a4 = -9223372036854775808
        · have tmin : (a4 == -9223372036854775808) = true := by simp [hmin]
          clear hmin
          go_wp2_with fail
          go_at_call 11
          refine Calls.mono (known_any w10) ?_
          rintro e w11 ⟨rfl, hx11⟩
          have HX11 : Hid (Ex w w11) := (HX10.out.trans hx11 : Ex w w11)
          clear hx11
          go_wp2_with fail
          go_ret
          exact ⟨rfl, HX11.out⟩
        have tmin : (a4 == -9223372036854775808) = false := beq_eq_false_iff_ne.2 hmin
        by_cases hmax : a3 = 9223372036854775807
        · have tmax : (a3 == 9223372036854775807) = true := by simp [hmax]
          clear hmax hmin
          go_wp2_with fail
          go_at_call 11
          refine Calls.mono (known_any w10) ?_
          rintro e w11 ⟨rfl, hx11⟩
          have HX11 : Hid (Ex w w11) := (HX10.out.trans hx11 : Ex w w11)
          clear hx11
          go_wp2_with fail
          go_ret
          exact ⟨rfl, HX11.out⟩
        have tmax : (a3 == 9223372036854775807) = false := beq_eq_false_iff_ne.2 hmax
        obtain ⟨n1, hn1⟩ : ∃ x, a4 - 1 = x := ⟨_, rfl⟩
        obtain ⟨n2, hn2⟩ : ∃ x, a4 + 1 = x := ⟨_, rfl⟩
        obtain ⟨m1, hm1⟩ : ∃ x, a3 + 1 = x := ⟨_, rfl⟩
        have bn1 : -9223372036854775808 ≤ n1 ∧ n1 ≤ 9223372036854775807 := by omega
        have bn2 : -9223372036854775808 ≤ n2 ∧ n2 ≤ 9223372036854775807 := by omega
        have bm1 : -9223372036854775808 ≤ m1 ∧ m1 ≤ 9223372036854775807 := by omega
        have HB1 : Hid (-9223372036854775808 ≤ n1 ∧ n1 ≤ 9223372036854775807) := bn1
        have HB2' : Hid (-9223372036854775808 ≤ n2 ∧ n2 ≤ 9223372036854775807) := bn2
        have HBM : Hid (-9223372036854775808 ≤ m1 ∧ m1 ≤ 9223372036854775807) := bm1
        have HE2 : Hid (a4 + 1 = n2) := hn2
        have HW3 : Hid (-9223372036854775808 ≤ a4 ∧ a4 ≤ 9223372036854775807) := (by omega : -9223372036854775808 ≤ a4 ∧ a4 ≤ 9223372036854775807)
        have HW4 : Hid (-9223372036854775808 ≤ a3 ∧ a3 ≤ 9223372036854775807) := (by omega : -9223372036854775808 ≤ a3 ∧ a3 ≤ 9223372036854775807)
        obtain ⟨CS, hCS⟩ : ∃ CS, [decide (-9223372036854775808 ≤ T.t ∧ T.t ≤ n1), decide (a4 ≤ T.t ∧ T.t ≤ a3), decide (m1 ≤ T.t ∧ T.t ≤ 9223372036854775807)] = CS := ⟨_, rfl⟩
        have HCN : Hid (cnt CS = 1) := (by
          have h := three (t := T.t) (n := a4) (m := a3) (by omega) HTT.out
          rw [hn1, hm1, hCS] at h
          exact h : cnt CS = 1)
        obtain ⟨BS, hBS⟩ : ∃ BS, [btw (-9223372036854775808) n1, btw a4 a3, btw m1 9223372036854775807] = BS := ⟨_, rfl⟩
        have HBL : Hid (BS.length = 3 ∧ CS.length = 3) := (by rw [← hBS, ← hCS]; exact ⟨rfl, rfl⟩ : BS.length = 3 ∧ CS.length = 3)
        have HBC : Hid (∀ (i : Nat) (b : Pr) (c : Bool), BS[i]? = some b → CS[i]? = some c → Pd.ev T b = c ∧ Pd.Fine b ∧ Pd.fit b 50 5000 = true) := (by
          intro i b c hb hc
          rw [← hBS] at hb
          rw [← hCS] at hc
          match i, hb, hc with
          | 0, hb, hc => obtain rfl := Option.some.inj hb; obtain rfl := Option.some.inj hc; exact ⟨ev_btw _ _ _, Pd.fine_bare ⟨by decide, by decide⟩ ⟨by decide, by decide⟩ HB1.out (by simp) (by simp), Pd.fit_bare _⟩
          | 1, hb, hc => obtain rfl := Option.some.inj hb; obtain rfl := Option.some.inj hc; exact ⟨ev_btw _ _ _, Pd.fine_bare ⟨by decide, by decide⟩ HW3.out HW4.out (by simp) (by simp), Pd.fit_bare _⟩
          | 2, hb, hc => obtain rfl := Option.some.inj hb; obtain rfl := Option.some.inj hc; exact ⟨ev_btw _ _ _, Pd.fine_bare ⟨by decide, by decide⟩ HBM.out ⟨by decide, by decide⟩ (by simp) (by simp), Pd.fit_bare _⟩
          | i + 3, hb, hc => simp at hb : ∀ (i : Nat) (b : Pr) (c : Bool), BS[i]? = some b → CS[i]? = some c → _)
        obtain ⟨w11, hw11⟩ : ∃ w11, w10.alloc (.cells #[.int .i64 10, .string { data := #[] }, .int .i64 (-9223372036854775808), .int .i64 n1, .string { data := #[] }, .slice none 0 0, .slice none 0 0, .int .i64 10, .string { data := #[] }, .int .i64 a4, .int .i64 a3, .string { data := #[] }, .slice none 0 0, .slice none 0 0, .int .i64 10, .string { data := #[] }, .int .i64 m1, .int .i64 9223372036854775807, .string { data := #[] }, .slice none 0 0, .slice none 0 0] 25) = w11 := ⟨_, rfl⟩
        have hX1011 : Ex w10 w11 := by rw [← hw11]; exact (Below.refl _ _).alloc (Nat.le_refl _) _
        have HX11 : Hid (Ex w w11) := (HX10.out.trans hX1011 : Ex w w11)
        have HT11 : Hid (LAt w11 w5.heap.size ⟨tt, tq, ta, tn, tc⟩) := (HT10.out.below hX1011 : LAt w11 _ _)
        have HRT11 : Hid (RvOk w11 ⟨tt, tq, ta, tn, tc⟩ T) := (HRT10.out.below hX1011 : RvOk w11 _ _)
        have HRB : Hid (Pd.RdP w11 (some ⟨w10.heap.size, 0, none⟩) 3 BS) := (by
          rw [← hBS]
          refine ⟨[⟨10, [], -9223372036854775808, n1, [], (none, 0, 0), none, 0, 0⟩, ⟨10, [], a4, a3, [], (none, 0, 0), none, 0, 0⟩, ⟨10, [], m1, 9223372036854775807, [], (none, 0, 0), none, 0, 0⟩], ?_, ?_⟩
          · rw [← hw11]
            exact RdW.laid pc_len w10 [⟨10, [], -9223372036854775808, n1, [], (none, 0, 0), none, 0, 0⟩, ⟨10, [], a4, a3, [], (none, 0, 0), none, 0, 0⟩, ⟨10, [], m1, 9223372036854775807, [], (none, 0, 0), none, 0, 0⟩] (by simp)
          · exact (Pd.Lays.one (lay_bare _ _ _ _ _ _ _)).append ((Pd.Lays.one (lay_bare _ _ _ _ _ _ _)).append (Pd.Lays.one (lay_bare _ _ _ _ _ _ _))) : Pd.RdP w11 (some ⟨w10.heap.size, 0, none⟩) 3 BS)
        clear hX1011 hCS hBS hmin hmax HT10 HRT10
        go_wp2_with fail
        go_loopw [81, 14, 16] (fun iv kv bv wr => ∃ i c : Nat, i ≤ 3 ∧ iv = .int .i64 i ∧ kv = .int .i64 c ∧ c ≤ i ∧ Hid (c = cnt (CS.take i)) ∧ Hid (Ex w11 wr)) (fun iv kv bv wr => 3 - (intOf iv).toNat)
        case atStart => exact ⟨0, 0, by omega, rfl, rfl, by omega, (rfl : 0 = cnt (CS.take 0)), Ex.refl w11⟩
        case round =>
          obtain ⟨i, c, hi, rfl, rfl, hci, HCI, HXr⟩ := hrel
          have HXwr : Hid (Ex w wr) := (HX11.out.trans HXr.out : Ex w wr)
          by_cases hlt : i < 3
          · have hti : (i : Int) < 3 := by omega
            obtain ⟨b, off, u, hpp, hLk, e0, e1, e2, e3, e4, e5, e6⟩ := (HRB.out.below HXr.out).seven (i := i) (by rw [HBL.out.1]; exact hlt)
            simp only [Option.some.injEq, Addr.mk.injEq, and_true] at hpp
            obtain ⟨rfl, rfl⟩ := hpp
            simp only [Nat.zero_add] at e0 e1 e2 e3 e4 e5 e6
            obtain ⟨k, hk⟩ : ∃ k, BS[i]'(by rw [HBL.out.1]; exact hlt) = k := ⟨_, rfl⟩
            rw [hk] at hLk
            obtain ⟨x, hx⟩ : ∃ x, CS[i]'(by rw [HBL.out.2]; exact hlt) = x := ⟨_, rfl⟩
            have hx2 : CS[i]? = some x := by rw [List.getElem?_eq_getElem (by rw [HBL.out.2]; exact hlt), hx]
            have hbc := HBC.out i k x (by rw [List.getElem?_eq_getElem (by rw [HBL.out.1]; exact hlt), hk]) hx2
            have HCX : Hid (cnt (CS.take (i + 1)) = cnt (CS.take i) + (if x = true then 1 else 0)) := cnt_next hx2
            obtain ⟨w12, hw12⟩ : ∃ w12, wr.alloc (pb u) = w12 := ⟨_, rfl⟩
            have hX12 : Ex wr w12 := by rw [← hw12]; exact (Below.refl _ _).alloc (Nat.le_refl _) _
            have HX12 : Hid (Ex w11 w12) := (HXr.out.trans hX12 : Ex w11 w12)
            have HP12 : Hid (PAt w12 wr.heap.size u) := (by rw [← hw12]; exact PAt.new wr u : PAt w12 _ _)
            have HC12 : Hid (Calls Try.prog 15 #[pvv u, rvv ⟨tt, tq, ta, tn, tc⟩] w12 fun e w' => e = .returned (.bool x) ∧ Ex w12 w') := ev_is k T u _ w12 (Pd.Lay.below _ hLk hX12) hbc.2.1 (HRT11.out.below HX12.out) HTS.out hbc.2.2 x hbc.1
            obtain ⟨q0, q1, q2, q3, q4, q5, q6⟩ := HP12.out.all
            obtain ⟨t0, t1, t2⟩ := (HT11.out.below HX12.out).all
            simp only at t0 t1 t2
            clear hLk hk hx hx2 hbc hX12
            go_wp2_with fail
            go_at_call 15
            refine Calls.mono HC12.out ?_
            rintro e w13 ⟨rfl, hx13⟩
            have HX13 : Hid (Ex w11 w13) := (HX12.out.trans hx13 : Ex w11 w13)
            clear hx13 HC12 t0 t1 t2
            cases x with
            | true =>
              have HCC : Hid (c + 1 = cnt (CS.take (i + 1))) := (by rw [HCX.out, ← HCI.out]; simp : c + 1 = cnt (CS.take (i + 1)))
              go_wp2_with fail
              go_roundw
              case rel => exact ⟨i + 1, c + 1, by omega, by go_num, by go_num, by omega, HCC, HX13⟩
              case measure => simp [intOf]; omega
            | false =>
              have HCC : Hid (c = cnt (CS.take (i + 1))) := (by rw [HCX.out, ← HCI.out]; simp : c = cnt (CS.take (i + 1)))
              go_wp2_with fail
              go_roundw
              case rel => exact ⟨i + 1, c, by omega, by go_num, by go_num, by omega, HCC, HX13⟩
              case measure => simp [intOf]; omega
          · have hti : ¬ (i : Int) < 3 := by omega
            obtain rfl : c = 1 := by
              have h := HCI.out
              rw [List.take_of_length_le (by rw [HBL.out.2]; omega), HCN.out] at h
              exact h
            obtain ⟨zl, hzl⟩ : ∃ z, Pd.ev T (ask 4 a4) = z := ⟨_, rfl⟩
            obtain ⟨ze, hze⟩ : ∃ z, Pd.ev T (ask 5 a4) = z := ⟨_, rfl⟩
            obtain ⟨zu, hzu⟩ : ∃ z, Pd.ev T (ask 4 n2) = z := ⟨_, rfl⟩
            obtain ⟨zn, hzn⟩ : ∃ z, Pd.ev T (ask 9 0) = z := ⟨_, rfl⟩
            have hpart := parted T a4 zl ze zu zn hzl hze (by rw [HE2.out]; exact hzu) hzn
            have HPART : Hid (zu = (zl || ze) ∧ (zl && ze) = false ∧ (zn = true → zu = false)) := hpart
            have HZL : Hid (Pd.ev T (ask 4 a4) = zl) := hzl
            have HZE : Hid (Pd.ev T (ask 5 a4) = ze) := hze
            have HZU : Hid (Pd.ev T (ask 4 n2) = zu) := hzu
            have HZNU : Hid (Pd.ev T (ask 9 0) = zn) := hzn
            have HC14 : Hid (Calls Try.prog 15 #[pvv ⟨4, [97], a4, 0, [], (none, 0, 0), none, 0, 0⟩, rvv ⟨tt, tq, ta, tn, tc⟩] wr fun e w' => e = .returned (.bool zl) ∧ Ex wr w') := ev_is (ask 4 a4) T _ _ wr (lay_bare _ _ 4 [97] a4 0 []) (Pd.fine_bare ⟨by decide, by decide⟩ HW3.out ⟨by decide, by decide⟩ (by simp) (by simp)) (HRT11.out.below HXr.out) HTS.out (Pd.fit_bare _) zl hzl
            obtain ⟨t0, t1, t2⟩ := (HT11.out.below HXr.out).all
            simp only at t0 t1 t2
            clear hpart hzl hze hzu hzn
            go_wp2_with fail
            go_at_call 15
            refine Calls.mono HC14.out ?_
            rintro e w14 ⟨rfl, hx14⟩
            have HX14 : Hid (Ex w11 w14) := (HXr.out.trans hx14 : Ex w11 w14)
            have HC15 : Hid (Calls Try.prog 15 #[pvv ⟨5, [97], a4, 0, [], (none, 0, 0), none, 0, 0⟩, rvv ⟨tt, tq, ta, tn, tc⟩] w14 fun e w' => e = .returned (.bool ze) ∧ Ex w14 w') := ev_is (ask 5 a4) T _ _ w14 (lay_bare _ _ 5 [97] a4 0 []) (Pd.fine_bare ⟨by decide, by decide⟩ HW3.out ⟨by decide, by decide⟩ (by simp) (by simp)) (HRT11.out.below HX14.out) HTS.out (Pd.fit_bare _) ze HZE.out
            obtain ⟨r0, r1, r2'⟩ := (HT11.out.below HX14.out).all
            simp only at r0 r1 r2'
            clear hx14 HC14 t0 t1 t2
            go_wp2_with fail
            go_at_call 15
            refine Calls.mono HC15.out ?_
            rintro e w15 ⟨rfl, hx15⟩
            have HX15 : Hid (Ex w11 w15) := (HX14.out.trans hx15 : Ex w11 w15)
            have HC16 : Hid (Calls Try.prog 15 #[pvv ⟨4, [97], n2, 0, [], (none, 0, 0), none, 0, 0⟩, rvv ⟨tt, tq, ta, tn, tc⟩] w15 fun e w' => e = .returned (.bool zu) ∧ Ex w15 w') := ev_is (ask 4 n2) T _ _ w15 (lay_bare _ _ 4 [97] n2 0 []) (Pd.fine_bare ⟨by decide, by decide⟩ HB2'.out ⟨by decide, by decide⟩ (by simp) (by simp)) (HRT11.out.below HX15.out) HTS.out (Pd.fit_bare _) zu HZU.out
            obtain ⟨t0, t1, t2⟩ := (HT11.out.below HX15.out).all
            simp only at t0 t1 t2
            clear hx15 HC15 r0 r1 r2'
            go_wp2_with fail
            go_at_call 15
            refine Calls.mono HC16.out ?_
            rintro e w16 ⟨rfl, hx16⟩
            have HX16 : Hid (Ex w11 w16) := (HX15.out.trans hx16 : Ex w11 w16)
            have HC17 : Hid (Calls Try.prog 15 #[pvv ⟨9, [97], 0, 0, [], (none, 0, 0), none, 0, 0⟩, rvv ⟨tt, tq, ta, tn, tc⟩] w16 fun e w' => e = .returned (.bool zn) ∧ Ex w16 w') := ev_is (ask 9 0) T _ _ w16 (lay_bare _ _ 9 [97] 0 0 []) (Pd.fine_bare ⟨by decide, by decide⟩ ⟨by decide, by decide⟩ ⟨by decide, by decide⟩ (by simp) (by simp)) (HRT11.out.below HX16.out) HTS.out (Pd.fit_bare _) zn HZNU.out
            obtain ⟨r0, r1, r2'⟩ := (HT11.out.below HX16.out).all
            simp only at r0 r1 r2'
            obtain ⟨hu1, hu2, hu3⟩ := HPART.out
            clear hx16 HC16 t0 t1 t2
            cases zl <;> cases ze <;> cases zn <;> simp at hu1 hu2 hu3 <;> first | contradiction | skip
            all_goals
              subst hu1
              first | contradiction | skip
            all_goals
              go_wp2_with fail
              go_at_call 15
              refine Calls.mono HC17.out ?_
              rintro e w17 ⟨rfl, hx17⟩
              have HX17 : Hid (Ex w11 w17) := (HX16.out.trans hx17 : Ex w11 w17)
              clear hx17 HC17
              go_wp2_with fail
              go_at_call 11
              refine Calls.mono (known_any w17) ?_
              rintro e w18 ⟨rfl, hx18⟩
              have HX18 : Hid (Ex w w18) := (HX11.out.trans (HX17.out.trans hx18) : Ex w w18)
              clear hx18
              go_wp2_with fail
              go_ret
              exact ⟨rfl, HX18.out⟩
      · have tnm : decide (a4 < a3) = false := by simp; omega
        by_cases hmin : a3 = -9223372036854775808
        · have tmin : (a3 == -9223372036854775808) = true := by simp [hmin]
          clear hmin
          go_wp2_with fail
          go_at_call 11
          refine Calls.mono (known_any w10) ?_
          rintro e w11 ⟨rfl, hx11⟩
          have HX11 : Hid (Ex w w11) := (HX10.out.trans hx11 : Ex w w11)
          clear hx11
          go_wp2_with fail
          go_ret
          exact ⟨rfl, HX11.out⟩
        have tmin : (a3 == -9223372036854775808) = false := beq_eq_false_iff_ne.2 hmin
        by_cases hmax : a4 = 9223372036854775807
        · have tmax : (a4 == 9223372036854775807) = true := by simp [hmax]
          clear hmax hmin
          go_wp2_with fail
          go_at_call 11
          refine Calls.mono (known_any w10) ?_
          rintro e w11 ⟨rfl, hx11⟩
          have HX11 : Hid (Ex w w11) := (HX10.out.trans hx11 : Ex w w11)
          clear hx11
          go_wp2_with fail
          go_ret
          exact ⟨rfl, HX11.out⟩
        have tmax : (a4 == 9223372036854775807) = false := beq_eq_false_iff_ne.2 hmax
        obtain ⟨n1, hn1⟩ : ∃ x, a3 - 1 = x := ⟨_, rfl⟩
        obtain ⟨n2, hn2⟩ : ∃ x, a3 + 1 = x := ⟨_, rfl⟩
        obtain ⟨m1, hm1⟩ : ∃ x, a4 + 1 = x := ⟨_, rfl⟩
        have bn1 : -9223372036854775808 ≤ n1 ∧ n1 ≤ 9223372036854775807 := by omega
        have bn2 : -9223372036854775808 ≤ n2 ∧ n2 ≤ 9223372036854775807 := by omega
        have bm1 : -9223372036854775808 ≤ m1 ∧ m1 ≤ 9223372036854775807 := by omega
        have HB1 : Hid (-9223372036854775808 ≤ n1 ∧ n1 ≤ 9223372036854775807) := bn1
        have HB2' : Hid (-9223372036854775808 ≤ n2 ∧ n2 ≤ 9223372036854775807) := bn2
        have HBM : Hid (-9223372036854775808 ≤ m1 ∧ m1 ≤ 9223372036854775807) := bm1
        have HE2 : Hid (a3 + 1 = n2) := hn2
        have HW3 : Hid (-9223372036854775808 ≤ a3 ∧ a3 ≤ 9223372036854775807) := (by omega : -9223372036854775808 ≤ a3 ∧ a3 ≤ 9223372036854775807)
        have HW4 : Hid (-9223372036854775808 ≤ a4 ∧ a4 ≤ 9223372036854775807) := (by omega : -9223372036854775808 ≤ a4 ∧ a4 ≤ 9223372036854775807)
        obtain ⟨CS, hCS⟩ : ∃ CS, [decide (-9223372036854775808 ≤ T.t ∧ T.t ≤ n1), decide (a3 ≤ T.t ∧ T.t ≤ a4), decide (m1 ≤ T.t ∧ T.t ≤ 9223372036854775807)] = CS := ⟨_, rfl⟩
        have HCN : Hid (cnt CS = 1) := (by
          have h := three (t := T.t) (n := a3) (m := a4) (by omega) HTT.out
          rw [hn1, hm1, hCS] at h
          exact h : cnt CS = 1)
        obtain ⟨BS, hBS⟩ : ∃ BS, [btw (-9223372036854775808) n1, btw a3 a4, btw m1 9223372036854775807] = BS := ⟨_, rfl⟩
        have HBL : Hid (BS.length = 3 ∧ CS.length = 3) := (by rw [← hBS, ← hCS]; exact ⟨rfl, rfl⟩ : BS.length = 3 ∧ CS.length = 3)
        have HBC : Hid (∀ (i : Nat) (b : Pr) (c : Bool), BS[i]? = some b → CS[i]? = some c → Pd.ev T b = c ∧ Pd.Fine b ∧ Pd.fit b 50 5000 = true) := (by
          intro i b c hb hc
          rw [← hBS] at hb
          rw [← hCS] at hc
          match i, hb, hc with
          | 0, hb, hc => obtain rfl := Option.some.inj hb; obtain rfl := Option.some.inj hc; exact ⟨ev_btw _ _ _, Pd.fine_bare ⟨by decide, by decide⟩ ⟨by decide, by decide⟩ HB1.out (by simp) (by simp), Pd.fit_bare _⟩
          | 1, hb, hc => obtain rfl := Option.some.inj hb; obtain rfl := Option.some.inj hc; exact ⟨ev_btw _ _ _, Pd.fine_bare ⟨by decide, by decide⟩ HW3.out HW4.out (by simp) (by simp), Pd.fit_bare _⟩
          | 2, hb, hc => obtain rfl := Option.some.inj hb; obtain rfl := Option.some.inj hc; exact ⟨ev_btw _ _ _, Pd.fine_bare ⟨by decide, by decide⟩ HBM.out ⟨by decide, by decide⟩ (by simp) (by simp), Pd.fit_bare _⟩
          | i + 3, hb, hc => simp at hb : ∀ (i : Nat) (b : Pr) (c : Bool), BS[i]? = some b → CS[i]? = some c → _)
        obtain ⟨w11, hw11⟩ : ∃ w11, w10.alloc (.cells #[.int .i64 10, .string { data := #[] }, .int .i64 (-9223372036854775808), .int .i64 n1, .string { data := #[] }, .slice none 0 0, .slice none 0 0, .int .i64 10, .string { data := #[] }, .int .i64 a3, .int .i64 a4, .string { data := #[] }, .slice none 0 0, .slice none 0 0, .int .i64 10, .string { data := #[] }, .int .i64 m1, .int .i64 9223372036854775807, .string { data := #[] }, .slice none 0 0, .slice none 0 0] 25) = w11 := ⟨_, rfl⟩
        have hX1011 : Ex w10 w11 := by rw [← hw11]; exact (Below.refl _ _).alloc (Nat.le_refl _) _
        have HX11 : Hid (Ex w w11) := (HX10.out.trans hX1011 : Ex w w11)
        have HT11 : Hid (LAt w11 w5.heap.size ⟨tt, tq, ta, tn, tc⟩) := (HT10.out.below hX1011 : LAt w11 _ _)
        have HRT11 : Hid (RvOk w11 ⟨tt, tq, ta, tn, tc⟩ T) := (HRT10.out.below hX1011 : RvOk w11 _ _)
        have HRB : Hid (Pd.RdP w11 (some ⟨w10.heap.size, 0, none⟩) 3 BS) := (by
          rw [← hBS]
          refine ⟨[⟨10, [], -9223372036854775808, n1, [], (none, 0, 0), none, 0, 0⟩, ⟨10, [], a3, a4, [], (none, 0, 0), none, 0, 0⟩, ⟨10, [], m1, 9223372036854775807, [], (none, 0, 0), none, 0, 0⟩], ?_, ?_⟩
          · rw [← hw11]
            exact RdW.laid pc_len w10 [⟨10, [], -9223372036854775808, n1, [], (none, 0, 0), none, 0, 0⟩, ⟨10, [], a3, a4, [], (none, 0, 0), none, 0, 0⟩, ⟨10, [], m1, 9223372036854775807, [], (none, 0, 0), none, 0, 0⟩] (by simp)
          · exact (Pd.Lays.one (lay_bare _ _ _ _ _ _ _)).append ((Pd.Lays.one (lay_bare _ _ _ _ _ _ _)).append (Pd.Lays.one (lay_bare _ _ _ _ _ _ _))) : Pd.RdP w11 (some ⟨w10.heap.size, 0, none⟩) 3 BS)
        clear hX1011 hCS hBS hmin hmax HT10 HRT10
        go_wp2_with fail
        go_loopw [81, 14, 16] (fun iv kv bv wr => ∃ i c : Nat, i ≤ 3 ∧ iv = .int .i64 i ∧ kv = .int .i64 c ∧ c ≤ i ∧ Hid (c = cnt (CS.take i)) ∧ Hid (Ex w11 wr)) (fun iv kv bv wr => 3 - (intOf iv).toNat)
        case atStart => exact ⟨0, 0, by omega, rfl, rfl, by omega, (rfl : 0 = cnt (CS.take 0)), Ex.refl w11⟩
        case round =>
          obtain ⟨i, c, hi, rfl, rfl, hci, HCI, HXr⟩ := hrel
          have HXwr : Hid (Ex w wr) := (HX11.out.trans HXr.out : Ex w wr)
          by_cases hlt : i < 3
          · have hti : (i : Int) < 3 := by omega
            obtain ⟨b, off, u, hpp, hLk, e0, e1, e2, e3, e4, e5, e6⟩ := (HRB.out.below HXr.out).seven (i := i) (by rw [HBL.out.1]; exact hlt)
            simp only [Option.some.injEq, Addr.mk.injEq, and_true] at hpp
            obtain ⟨rfl, rfl⟩ := hpp
            simp only [Nat.zero_add] at e0 e1 e2 e3 e4 e5 e6
            obtain ⟨k, hk⟩ : ∃ k, BS[i]'(by rw [HBL.out.1]; exact hlt) = k := ⟨_, rfl⟩
            rw [hk] at hLk
            obtain ⟨x, hx⟩ : ∃ x, CS[i]'(by rw [HBL.out.2]; exact hlt) = x := ⟨_, rfl⟩
            have hx2 : CS[i]? = some x := by rw [List.getElem?_eq_getElem (by rw [HBL.out.2]; exact hlt), hx]
            have hbc := HBC.out i k x (by rw [List.getElem?_eq_getElem (by rw [HBL.out.1]; exact hlt), hk]) hx2
            have HCX : Hid (cnt (CS.take (i + 1)) = cnt (CS.take i) + (if x = true then 1 else 0)) := cnt_next hx2
            obtain ⟨w12, hw12⟩ : ∃ w12, wr.alloc (pb u) = w12 := ⟨_, rfl⟩
            have hX12 : Ex wr w12 := by rw [← hw12]; exact (Below.refl _ _).alloc (Nat.le_refl _) _
            have HX12 : Hid (Ex w11 w12) := (HXr.out.trans hX12 : Ex w11 w12)
            have HP12 : Hid (PAt w12 wr.heap.size u) := (by rw [← hw12]; exact PAt.new wr u : PAt w12 _ _)
            have HC12 : Hid (Calls Try.prog 15 #[pvv u, rvv ⟨tt, tq, ta, tn, tc⟩] w12 fun e w' => e = .returned (.bool x) ∧ Ex w12 w') := ev_is k T u _ w12 (Pd.Lay.below _ hLk hX12) hbc.2.1 (HRT11.out.below HX12.out) HTS.out hbc.2.2 x hbc.1
            obtain ⟨q0, q1, q2, q3, q4, q5, q6⟩ := HP12.out.all
            obtain ⟨t0, t1, t2⟩ := (HT11.out.below HX12.out).all
            simp only at t0 t1 t2
            clear hLk hk hx hx2 hbc hX12
            go_wp2_with fail
            go_at_call 15
            refine Calls.mono HC12.out ?_
            rintro e w13 ⟨rfl, hx13⟩
            have HX13 : Hid (Ex w11 w13) := (HX12.out.trans hx13 : Ex w11 w13)
            clear hx13 HC12 t0 t1 t2
            cases x with
            | true =>
              have HCC : Hid (c + 1 = cnt (CS.take (i + 1))) := (by rw [HCX.out, ← HCI.out]; simp : c + 1 = cnt (CS.take (i + 1)))
              go_wp2_with fail
              go_roundw
              case rel => exact ⟨i + 1, c + 1, by omega, by go_num, by go_num, by omega, HCC, HX13⟩
              case measure => simp [intOf]; omega
            | false =>
              have HCC : Hid (c = cnt (CS.take (i + 1))) := (by rw [HCX.out, ← HCI.out]; simp : c = cnt (CS.take (i + 1)))
              go_wp2_with fail
              go_roundw
              case rel => exact ⟨i + 1, c, by omega, by go_num, by go_num, by omega, HCC, HX13⟩
              case measure => simp [intOf]; omega
          · have hti : ¬ (i : Int) < 3 := by omega
            obtain rfl : c = 1 := by
              have h := HCI.out
              rw [List.take_of_length_le (by rw [HBL.out.2]; omega), HCN.out] at h
              exact h
            obtain ⟨zl, hzl⟩ : ∃ z, Pd.ev T (ask 4 a3) = z := ⟨_, rfl⟩
            obtain ⟨ze, hze⟩ : ∃ z, Pd.ev T (ask 5 a3) = z := ⟨_, rfl⟩
            obtain ⟨zu, hzu⟩ : ∃ z, Pd.ev T (ask 4 n2) = z := ⟨_, rfl⟩
            obtain ⟨zn, hzn⟩ : ∃ z, Pd.ev T (ask 9 0) = z := ⟨_, rfl⟩
            have hpart := parted T a3 zl ze zu zn hzl hze (by rw [HE2.out]; exact hzu) hzn
            have HPART : Hid (zu = (zl || ze) ∧ (zl && ze) = false ∧ (zn = true → zu = false)) := hpart
            have HZL : Hid (Pd.ev T (ask 4 a3) = zl) := hzl
            have HZE : Hid (Pd.ev T (ask 5 a3) = ze) := hze
            have HZU : Hid (Pd.ev T (ask 4 n2) = zu) := hzu
            have HZNU : Hid (Pd.ev T (ask 9 0) = zn) := hzn
            have HC14 : Hid (Calls Try.prog 15 #[pvv ⟨4, [97], a3, 0, [], (none, 0, 0), none, 0, 0⟩, rvv ⟨tt, tq, ta, tn, tc⟩] wr fun e w' => e = .returned (.bool zl) ∧ Ex wr w') := ev_is (ask 4 a3) T _ _ wr (lay_bare _ _ 4 [97] a3 0 []) (Pd.fine_bare ⟨by decide, by decide⟩ HW3.out ⟨by decide, by decide⟩ (by simp) (by simp)) (HRT11.out.below HXr.out) HTS.out (Pd.fit_bare _) zl hzl
            obtain ⟨t0, t1, t2⟩ := (HT11.out.below HXr.out).all
            simp only at t0 t1 t2
            clear hpart hzl hze hzu hzn
            go_wp2_with fail
            go_at_call 15
            refine Calls.mono HC14.out ?_
            rintro e w14 ⟨rfl, hx14⟩
            have HX14 : Hid (Ex w11 w14) := (HXr.out.trans hx14 : Ex w11 w14)
            have HC15 : Hid (Calls Try.prog 15 #[pvv ⟨5, [97], a3, 0, [], (none, 0, 0), none, 0, 0⟩, rvv ⟨tt, tq, ta, tn, tc⟩] w14 fun e w' => e = .returned (.bool ze) ∧ Ex w14 w') := ev_is (ask 5 a3) T _ _ w14 (lay_bare _ _ 5 [97] a3 0 []) (Pd.fine_bare ⟨by decide, by decide⟩ HW3.out ⟨by decide, by decide⟩ (by simp) (by simp)) (HRT11.out.below HX14.out) HTS.out (Pd.fit_bare _) ze HZE.out
            obtain ⟨r0, r1, r2'⟩ := (HT11.out.below HX14.out).all
            simp only at r0 r1 r2'
            clear hx14 HC14 t0 t1 t2
            go_wp2_with fail
            go_at_call 15
            refine Calls.mono HC15.out ?_
            rintro e w15 ⟨rfl, hx15⟩
            have HX15 : Hid (Ex w11 w15) := (HX14.out.trans hx15 : Ex w11 w15)
            have HC16 : Hid (Calls Try.prog 15 #[pvv ⟨4, [97], n2, 0, [], (none, 0, 0), none, 0, 0⟩, rvv ⟨tt, tq, ta, tn, tc⟩] w15 fun e w' => e = .returned (.bool zu) ∧ Ex w15 w') := ev_is (ask 4 n2) T _ _ w15 (lay_bare _ _ 4 [97] n2 0 []) (Pd.fine_bare ⟨by decide, by decide⟩ HB2'.out ⟨by decide, by decide⟩ (by simp) (by simp)) (HRT11.out.below HX15.out) HTS.out (Pd.fit_bare _) zu HZU.out
            obtain ⟨t0, t1, t2⟩ := (HT11.out.below HX15.out).all
            simp only at t0 t1 t2
            clear hx15 HC15 r0 r1 r2'
            go_wp2_with fail
            go_at_call 15
            refine Calls.mono HC16.out ?_
            rintro e w16 ⟨rfl, hx16⟩
            have HX16 : Hid (Ex w11 w16) := (HX15.out.trans hx16 : Ex w11 w16)
            have HC17 : Hid (Calls Try.prog 15 #[pvv ⟨9, [97], 0, 0, [], (none, 0, 0), none, 0, 0⟩, rvv ⟨tt, tq, ta, tn, tc⟩] w16 fun e w' => e = .returned (.bool zn) ∧ Ex w16 w') := ev_is (ask 9 0) T _ _ w16 (lay_bare _ _ 9 [97] 0 0 []) (Pd.fine_bare ⟨by decide, by decide⟩ ⟨by decide, by decide⟩ ⟨by decide, by decide⟩ (by simp) (by simp)) (HRT11.out.below HX16.out) HTS.out (Pd.fit_bare _) zn HZNU.out
            obtain ⟨r0, r1, r2'⟩ := (HT11.out.below HX16.out).all
            simp only at r0 r1 r2'
            obtain ⟨hu1, hu2, hu3⟩ := HPART.out
            clear hx16 HC16 t0 t1 t2
            cases zl <;> cases ze <;> cases zn <;> simp at hu1 hu2 hu3 <;> first | contradiction | skip
            all_goals
              subst hu1
              first | contradiction | skip
            all_goals
              go_wp2_with fail
              go_at_call 15
              refine Calls.mono HC17.out ?_
              rintro e w17 ⟨rfl, hx17⟩
              have HX17 : Hid (Ex w11 w17) := (HX16.out.trans hx17 : Ex w11 w17)
              clear hx17 HC17
              go_wp2_with fail
              go_at_call 11
              refine Calls.mono (known_any w17) ?_
              rintro e w18 ⟨rfl, hx18⟩
              have HX18 : Hid (Ex w w18) := (HX11.out.trans (HX17.out.trans hx18) : Ex w w18)
              clear hx18
              go_wp2_with fail
              go_ret
              exact ⟨rfl, HX18.out⟩
end Go.Proofs.Ytbdjccmlgdfapaa.predPairs
