/-
  The walk of PruneEmpty.
-/
import Derived.Test.YtibnhjfeepdddaaM36
import Derived.Test.YtibnhjfeepdddaaM34
import Derived.Test.YtibnhjfeepdddaaK01
import Derived.Test.YtibnhjfeepdddaaK08
import Derived.Test.YtibnhjfeepdddaaK09
import Derived.Deep.CutBlock
namespace Go.Proofs.Ytibnhjfeepdddaa
open Go.RowKit
set_option linter.unusedVariables false
set_option linter.unusedSimpArgs false
theorem Pu.fg15 : Pu.fg 15 = ⟨true, true, true⟩ := by unfold Pu.fg; simp only [Fg.mk.injEq]; decide +kernel
theorem Pu.fg0 : Pu.fg 0 = ⟨false, false, false⟩ := by unfold Pu.fg; simp only [Fg.mk.injEq]; decide +kernel
def St0 : St := ⟨0, 0, 0, [], []⟩
theorem st0_ok (w : World) : StOk w TV.zero St0 := ⟨⟨rfl, rfl, rfl⟩, ⟨rfl, RdW.nil w⟩, rfl, RdF.nil w⟩
theorem st0_fine : StFine St0 := ⟨fun x hx => by simp [St0] at hx, fun x hx => by simp [St0] at hx⟩
theorem Pu.judge0 {f : Fg} {p : Pr} (h : Pd.right p = true) : Pu.judge St0 f p = 1 := by unfold Pu.judge; rw [if_pos h]; rfl
theorem Pu.judgeN {s : St} {f : Fg} {p : Pr} (h : Pd.right p = false) : Pu.judge s f p = 2 := by unfold Pu.judge; rw [h]; rfl
theorem Z.build_short (k n : Int) : ∀ (l : List Cel) (z : Zn × Bool), (∀ c ∈ l, c.s.length ≤ 40) → z.1.ms.length ≤ 40 ∧ z.1.xs.length ≤ 40 → (l.foldl (Z.step k) z).1.ms.length ≤ 40 ∧ (l.foldl (Z.step k) z).1.xs.length ≤ 40
 | [], z, _, hz => hz
 | c :: l, z, h, hz => by
  have hc := h c (by simp)
  refine Z.build_short k n l _ (fun x hx => h x (by simp [hx])) ?_
  unfold Z.step
  split
  ·exact hz
  ·split
   ·exact hz
   ·split
    ·constructor
     ·simp only; split
      ·exact hc
      ·exact hz.1
     ·simp only; split
      ·exact hc
      ·exact hz.2
    ·exact hz
/-- Stats of tame rows are fine. -/
theorem sOf_fine {R : List Rw} {cols : List Co} (hR : ∀ r ∈ R, ∀ c ∈ r.c, c.s.length ≤ 40) (hc : ∀ c ∈ cols, c.nm.length ≤ 40) : StFine (Pu.sOf R cols) := by
 have hm : (40 : Nat) ≤ maxLen := by decide
 have hcol : ∀ n, ∀ x ∈ Pu.column R n, x.s.length ≤ 40 := by
  intro n x hx
  unfold Pu.column at hx
  obtain ⟨r, hr, rfl⟩ := List.mem_map.1 hx
  have : ∀ (l : List Ce), (∀ c ∈ l, c.s.length ≤ 40) → (Rw.cell l n).s.length ≤ 40 := by
   intro l
   induction l with
   | nil => intro _; simp [Rw.cell, Rw.none_]
   | cons y t ih =>
    intro h
    unfold Rw.cell
    split
    ·exact h y (by simp)
    ·exact ih fun c hc => h c (by simp [hc])
  exact this r.c (hR r hr)
 constructor
 ·intro x hx
  unfold Pu.sOf at hx
  obtain ⟨c, hcc, rfl⟩ := List.mem_map.1 hx
  have h := Z.build_short c.k 0 (Pu.column R c.nm) (⟨c.k, (Pu.column R c.nm).length, 0, 0, 0, [], []⟩, true) (hcol c.nm) (by simp)
  exact ⟨Nat.le_trans (hc c hcc) hm, Nat.le_trans h.1 hm, Nat.le_trans h.2 hm⟩
 ·intro x hx
  unfold Pu.sOf at hx
  obtain ⟨c, hcc, rfl⟩ := List.mem_map.1 hx
  have hb := (Fl.bits_is (Z.txts (Pu.column R c.nm))).bounds
  have hl := Fl.bytes_len (Z.txts (Pu.column R c.nm))
  exact ⟨Nat.le_trans (hc c (List.mem_filter.1 hcc).1) hm, by simp only; omega, ⟨by simp only; omega, by simp only; omega⟩⟩
/-- What PruneEmpty asks. -/
theorem Pu.empty {T : Rw} {cols : List Co} {k : Nat} (hg : Rw.grow [] [T] = (cols, 0, k)) {P : Pr} (hP : Pd.right P = true) (j : Nat) (hj : Pu.judge (Pu.sOf [T] cols) (Pu.fg 15) P = j) : (1 ≤ j ∧ j ≤ 3) ∧ (j = 2 → Pu.pre P = true) ∧ (j ≠ 2 → j = if Pd.ev T P = true then 3 else 1) := by
 have h0 : (Pu.sOf [T] cols).rows ≠ 0 := by simp [Pu.sOf]
 have hT := Pu.tells hg (by intro r hr; simp at hr; subst hr; simp)
 have hS := Pu.judge_sound hT h0 (Pu.fg 15) hP
 rw [hj] at hS
 refine ⟨hS.1, fun e => ?_, fun e => ?_⟩
 ·cases hp : Pu.pre P with
  | true => rfl
  | false =>
   exfalso
   have h1 := Pu.judge_is h0 (Pu.fg 15) hP
   rw [hj, Pu.fg15] at h1
   exact Pu.jd_row (s := Pu.sOf [T] cols) (r := T) (fun c => Pu.exact_one hg c) (by simp [Pu.sOf]) (by simp [Pu.sOf]) P (Pu.right_form hP) hp (by rw [← h1]; exact e)
 ·have h1 := hS.2 T (by simp)
  cases hv : Pd.ev T P with
  | true =>
   rw [if_pos rfl]
   rcases Nat.lt_or_ge j 2 with h | h
   ·have := h1.1 (by omega); rw [hv] at this; cases this
   ·omega
  | false =>
   rw [if_neg (by simp)]
   rcases Nat.lt_or_ge j 2 with h | h
   ·omega
   ·have := h1.2 (by omega); rw [hv] at this; cases this
theorem leaf_two {s : St} (h0 : s.rows ≠ 0) {h : Hd} (hr : Pd.right (Pr.mk' h []) = true) (hk : h.k = 4 ∨ h.k = 6 ∨ h.k = 9 ∨ h.k = 10) : Pu.judge s (Pu.fg 0) (Pr.mk' h []) = 2 := by
 rw [Pu.judge_is h0 _ hr, Pu.jd_mk, if_neg (by omega), if_neg (by omega), if_neg (by omega), Pu.fg0]
 unfold Pu.leafJ Pu.isJ
 rcases hk with e | e | e | e <;> simp [e]
/-- The four that PruneEmpty asks without flags. -/
def qps : List Pr := [Pr.mk' ⟨9, [97], 0, 0, [], []⟩ [], Pr.mk' ⟨6, [115], 0, 0, [120], []⟩ [], Pr.mk' ⟨10, [], 5, 3, [], []⟩ [], Pr.mk' ⟨4, [97], 1, 0, [], []⟩ []]
def qvs : List PV := [⟨9, [97], 0, 0, [], (none, 0, 0), none, 0, 0⟩, ⟨6, [115], 0, 0, [120], (none, 0, 0), none, 0, 0⟩, ⟨10, [], 5, 3, [], (none, 0, 0), none, 0, 0⟩, ⟨4, [97], 1, 0, [], (none, 0, 0), none, 0, 0⟩]
theorem qs_lay (w : World) : Pd.Lays (fun _ => True) w qvs qps :=
 (((Pd.Lays.one (lay_bare _ w _ _ _ _ _)).append (Pd.Lays.one (lay_bare _ w _ _ _ _ _))).append (Pd.Lays.one (lay_bare _ w _ _ _ _ _))).append (Pd.Lays.one (lay_bare _ w _ _ _ _ _))
theorem q_right (h : Hd) (hp : Pd.part h 0 = true) : Pd.right (Pr.mk' h []) = true := by
 unfold Pd.right
 rw [Pd.deep_mk, Pd.size_mk, Pd.form_mk]
 simp [hp]
theorem qs_two {s : St} (h0 : s.rows ≠ 0) : ∀ q ∈ qps, Pd.Fine q ∧ Pu.judge s (Pu.fg 0) q = 2 := by
 intro q hq
 simp only [qps, List.mem_cons, List.not_mem_nil, or_false] at hq
 rcases hq with rfl | rfl | rfl | rfl
 all_goals exact ⟨Pd.fine_bare ⟨by decide, by decide⟩ ⟨by decide, by decide⟩ ⟨by decide, by decide⟩ (by decide) (by decide), leaf_two h0 (q_right _ (by decide)) (by decide)⟩
end Go.Proofs.Ytibnhjfeepdddaa
namespace Go.Proofs.Ytibnhjfeepdddaa.pruneEmpty
open Go.RowKit
set_option linter.unusedVariables false
set_option linter.unusedSimpArgs false
set_option maxHeartbeats 16000000 in
set_option maxRecDepth 100000 in
theorem walk (v0 : PV) (p0 : Pr) (v1 : RV) (r1 : Rw) (a2 : Int) (w : World) (b0 : Pd.Lay (fun _ => True) p0 w v0) (m0 : Pd.Raw p0) (b1 : RvOk w v1 r1) (m1 : RowOk r1) (n1 : r1.c.length ≤ 2932031007402) (w2 : -9223372036854775808 ≤ a2 ∧ a2 ≤ 9223372036854775807) :
  Calls Try.prog 7 #[pvv v0, rvv v1, .int .i64 a2] w fun e w' => e = .returned (.bool true) ∧ Below w.heap.size w w' := by
 obtain ⟨vk, vcol, vn, vm, vs, vset, vkids⟩ := v0
 obtain ⟨rt, rq, ra, rn, rc'⟩ := v1
 obtain ⟨W, hW⟩ : ∃ W, (w.alloc (pb ⟨vk, vcol, vn, vm, vs, vset, vkids⟩)).alloc (rb ⟨rt, rq, ra, rn, rc'⟩) = W := ⟨_, rfl⟩
 have e1 : Ex w (w.alloc (pb ⟨vk, vcol, vn, vm, vs, vset, vkids⟩)) := (Below.refl _ _).alloc (Nat.le_refl _) _
 have hXW : Ex w W := by rw [← hW]; exact Below.alloc e1 (by simp) _
 have HXW : Hid (Ex w W) := hXW
 have HSZ : Hid (W.heap.size = w.heap.size + 1 + 1) := (by rw [← hW]; simp : W.heap.size = w.heap.size + 1 + 1)
 have HP : Hid (PAt W w.heap.size ⟨vk, vcol, vn, vm, vs, vset, vkids⟩) := (by rw [← hW]; exact (PAt.new w _).alloc _ : PAt W w.heap.size _)
 have HR : Hid (LAt W (w.heap.size + 1) ⟨rt, rq, ra, rn, rc'⟩) := (by
  rw [← hW]
  exact LAt.newat (w.alloc (pb ⟨vk, vcol, vn, vm, vs, vset, vkids⟩)) (w.heap.size + 1) _ (by simp) : LAt W (w.heap.size + 1) _)
 have HM0 : Hid (Pd.Raw p0) := m0
 have HB1 : Hid (RvOk w ⟨rt, rq, ra, rn, rc'⟩ r1) := b1
 have HOK : Hid (RwOk r1) := m1.rwOk
 have HC0 : Hid (Calls Try.prog 15 #[pvv ⟨vk, vcol, vn, vm, vs, vset, vkids⟩, .int .i64 (4 : Nat)] W fun e w' => ∃ u, e = .returned (pvv u) ∧ Pd.Lay (fun b => W.heap.size ≤ b) (Pd.cut p0 4) w' u ∧ Ex W w') := cut_is p0 _ W 4 (Pd.Lay.below _ b0 hXW) m0 (by omega)
 obtain ⟨p0', p1', p2', p3', p4', p5', p6'⟩ := HP.out.all
 simp only at p0' p1' p2' p3' p4' p5' p6'
 simp only [rb, sv] at hW
 clear e1 hXW b0 m0 b1 m1 n1 w2
 unfold pvv rvv
 simp only [sv]
 go_enter Try.func7, Try.ntmps7
 go_wp2_with fail
 go_at_call 15
 refine Calls.mono HC0.out ?_
 rintro e w1 ⟨xP, rfl, hL1, hx1⟩
 have hP1 := HP.out.below hx1
 obtain ⟨w2, hw2⟩ : ∃ w2, pset w1 w.heap.size xP = w2 := ⟨_, rfl⟩
 have hg2 : w1.grownBy w2 (some w.heap.size) := by rw [← hw2]; exact grown_pset _ _ _
 have hX2 : Ex w w2 := Below.grown (HXW.out.trans hx1) hg2 (HXW.out.trans hx1).size (fun g hg => by simp at hg; omega)
 have HX2 : Hid (Ex w w2) := hX2
 have HP2 : Hid (PAt w2 w.heap.size xP) := (by rw [← hw2]; exact hP1.store xP : PAt w2 _ _)
 have HR2 : Hid (LAt w2 (w.heap.size + 1) ⟨rt, rq, ra, rn, rc'⟩) := ((HR.out.below hx1).far hg2 (by simp) : LAt w2 _ _)
 have HL2 : Hid (Pd.Lay (fun _ => True) (Pd.cut p0 4) w2 xP) := (Pd.Lay.mono (fun _ _ => trivial) _ (Pd.Lay.far (row := some w.heap.size) (fun b hb e => by simp at e; have := HSZ.out; omega) _ hL1 hg2) : Pd.Lay _ _ w2 xP)
 obtain ⟨f0, f1, f2, f3, f4, f5, f6⟩ := hP1.fro
 obtain ⟨c0, c1, c2, c3, c4, c5, c6⟩ := hP1.all
 obtain ⟨k0, k1, k2, k3, k4, k5, k6⟩ := HP2.out.all
 simp only at c0 c1 c2 c3 c4 c5 c6
 obtain ⟨P, hPc⟩ : ∃ P, Pd.cut p0 4 = P := ⟨_, rfl⟩
 have HFP : Hid (Pd.Fine P) := (by rw [← hPc]; exact Pd.cut_fine _ HM0.out _ : Pd.Fine P)
 rw [hPc] at HL2
 obtain ⟨r, hr⟩ : ∃ r, Pd.right P = r := ⟨_, rfl⟩
 have HRP : Hid (Pd.right P = r) := hr
 have HCr : Hid (Calls Try.prog 18 #[pvv xP] w2 fun e w' => e = .returned (.bool r) ∧ Ex w2 w') := right_is P xP w2 HL2.out HFP.out r hr
 clear hP1 hg2 hX2 hL1 hx1 HC0 p0' p1' p2' p3' p4' p5' p6' hW hPc hr
 simp only [pvv, sv]
 go_wp2_with fail
 go_at_call 18
 refine Calls.mono HCr.out ?_
 rintro e w3 ⟨rfl, hx3⟩
 have HX23 : Hid (Ex w2 w3) := hx3
 have HP3 : Hid (PAt w3 w.heap.size xP) := HP2.out.below hx3
 have HL3 : Hid (Pd.Lay (fun _ => True) P w3 xP) := Pd.Lay.below _ HL2.out hx3
 have HR3 : Hid (LAt w3 (w.heap.size + 1) ⟨rt, rq, ra, rn, rc'⟩) := HR2.out.below hx3
 have HX3 : Hid (Ex w w3) := (HX2.out.trans hx3 : Ex w w3)
 clear hx3 HCr f0 f1 f2 f3 f4 f5 f6 c0 c1 c2 c3 c4 c5 c6 k0 k1 k2 k3 k4 k5 k6 hw2
 obtain ⟨k0, k1, k2, k3, k4, k5, k6⟩ := HP3.out.all
 obtain ⟨m0, m1, m2⟩ := HR3.out.all
 simp only at m0 m1 m2
 cases r with
 | false =>
  have HJ : Hid (Calls Try.prog 10 #[pvv xP, tvv TV.zero, .int .i64 a2] w3 fun e w' => e = .returned (.int .i64 ((2 : Nat) : Int)) ∧ Ex w3 w') := pJudge_is St0 st0_fine P HFP.out _ _ a2 w3 HL3.out (st0_ok w3) 2 (Pu.judgeN HRP.out)
  go_wp2_with fail
  go_at_call 10
  refine Calls.mono HJ.out ?_
  rintro e w4 ⟨rfl, hx4⟩
  have HX4 : Hid (Ex w w4) := (HX3.out.trans hx4 : Ex w w4)
  clear hx4 HJ
  go_wp2_with fail
  go_at_call 14
  refine (known_is w4).mono ?_
  rintro e w5 ⟨rfl, hx5⟩
  have HX5 : Hid (Ex w w5) := (HX4.out.trans hx5 : Ex w w5)
  clear hx5
  go_wp2_with fail
  go_ret
  exact ⟨rfl, HX5.out⟩
 | true =>
  have HCt : Hid (Calls Try.prog 22 #[rvv ⟨rt, rq, ra, rn, rc'⟩, .int .i64 0] w3 fun e w' => ∃ u : RV, e = .returned (rvv u) ∧ RvOk w' u (Rw.tame r1 0) ∧ Ex w3 w') := tame_is _ r1 0 w3 (HB1.out.below HX3.out) HOK.out
  obtain ⟨T, hT⟩ : ∃ T, Rw.tame r1 0 = T := ⟨_, rfl⟩
  have htr := Rw.tame_right (t := r1.t.tmod 100) (q := 0) r1.c (by have h := tmod_lt (a := r1.t) (b := 100) (by decide); omega) (by omega)
  have hTT : (⟨r1.t.tmod 100, 0, Rw.tms r1.c 4⟩ : Rw) = T := by rw [← hT]; rfl
  have hTc : Rw.tms r1.c 4 = T.c := by rw [← hT]; rfl
  have hTt : In64 T.t ∧ In64 T.q := by
   rw [← hTT]
   have h := tmod_lt (a := r1.t) (b := 100) (by decide)
   exact ⟨⟨by simp only; omega, by simp only; omega⟩, ⟨by simp, by simp⟩⟩
  rw [hTT, hTc] at htr
  obtain ⟨cols, hg, hc4⟩ := Rw.grow_takes (l := [T]) (by intro r hr; simp at hr; subst hr; exact ⟨htr.1, htr.2.1⟩)
  have HGR : Hid (Rw.grow [] [T] = (cols, 0, 0)) := hg
  have HC4 : Hid (cols.length ≤ 4) := hc4
  have hgo := Rw.grow_ok hg
  have HNM : Hid (∀ c ∈ cols, c.nm.length ≤ 40) := (by
   intro c hc
   rcases (hgo.2.2.2.1 c).1 hc with h | ⟨r, hr, x, hx, rfl⟩
   ·simp at h
   ·simp at hr; subst hr; exact Nat.le_trans (htr.2.2 x hx).2.1 (by omega) : ∀ c ∈ cols, c.nm.length ≤ 40)
  have HTC : Hid (∀ x ∈ T.c, x.s.length ≤ 3 ∧ x.col.length ≤ 1 ∧ In64 x.k ∧ In64 x.n) := htr.2.2
  have HT3 : Hid (RwOk3 T) := (⟨hTt.1, hTt.2, fun c hc => by have h := htr.2.2 c hc; have hm : (40 : Nat) ≤ maxLen := (by decide); exact ⟨by omega, by omega, h.2.2.1, h.2.2.2⟩⟩ : RwOk3 T)
  rw [hT] at HCt
  clear hT htr hTT hTc hTt hg hc4 hgo
  go_wp2_with fail
  go_at_call 22
  refine Calls.mono HCt.out ?_
  rintro e w4 ⟨⟨tt, tq, ta, tn, tc⟩, rfl, hT4, hx4⟩
  obtain ⟨w5, hw5⟩ : ∃ w5, w4.alloc (rb ⟨tt, tq, ta, tn, tc⟩) = w5 := ⟨_, rfl⟩
  have hx5 : Ex w4 w5 := by rw [← hw5]; exact (Below.refl _ _).alloc (Nat.le_refl _) _
  obtain ⟨w6, hw6⟩ : ∃ w6, w5.alloc (rb ⟨tt, tq, ta, tn, tc⟩) = w6 := ⟨_, rfl⟩
  have hx6 : Ex w5 w6 := by rw [← hw6]; exact (Below.refl _ _).alloc (Nat.le_refl _) _
  have HX36 : Hid (Ex w3 w6) := (hx4.trans (hx5.trans hx6) : Ex w3 w6)
  have HT5 : Hid (LAt w5 w4.heap.size ⟨tt, tq, ta, tn, tc⟩) := (by rw [← hw5]; exact LAt.new w4 _ : LAt w5 _ _)
  have HT6 : Hid (LAt w6 w4.heap.size ⟨tt, tq, ta, tn, tc⟩) := HT5.out.below hx6
  have HRT6 : Hid (RvOk w6 ⟨tt, tq, ta, tn, tc⟩ T) := hT4.below (hx5.trans hx6)
  have HRR : Hid (RdR w6 (some ⟨w5.heap.size, 0, none⟩) 1 [T]) := (⟨[⟨tt, tq, ta, tn, tc⟩], (by rw [← hw6]; exact RdW.laid (t := 61) rc_len w5 [⟨tt, tq, ta, tn, tc⟩] (by simp)), rfl, fun i v x h1 h2 => by
   cases i with
   | zero => simp only [List.getElem?_cons_zero, Option.some.injEq] at h1 h2; subst h1; subst h2; exact HRT6.out
   | succ i => simp at h1⟩ : RdR _ _ _ _)
  have HCs : Hid (Calls Try.prog 20 #[.slice (some ⟨w5.heap.size, 0, none⟩) 1 1] w6 fun e w' => ∃ u, e = .returned (tvv u) ∧ StOk w' u (Pu.sOf [T] cols) ∧ Ex w6 w') := rstats_is _ 1 [T] w6 HRR.out (by simp) (by intro r hr; simp at hr; subst hr; exact HT3.out) cols 0 HGR.out (by have := HC4.out; omega)
  obtain ⟨y0, y1, y2⟩ := HT5.out.all
  simp only at y0 y1 y2
  simp only [rb, sv] at hw5 hw6
  clear hx4 hx5 hx6 hT4 HCt m0 m1 m2 k0 k1 k2 k3 k4 k5 k6
  simp only [rvv, sv]
  go_wp2_with fail
  go_at_call 20
  refine Calls.mono HCs.out ?_
  rintro e w7 ⟨⟨sr, sl, sh, ⟨sza, szn, szc⟩, ⟨sba, sbn, sbc⟩⟩, rfl, hS7, hx7⟩
  have HX37 : Hid (Ex w3 w7) := (HX36.out.trans hx7 : Ex w3 w7)
  have HT7 : Hid (LAt w7 w4.heap.size ⟨tt, tq, ta, tn, tc⟩) := HT6.out.below hx7
  have HRT7 : Hid (RvOk w7 ⟨tt, tq, ta, tn, tc⟩ T) := HRT6.out.below hx7
  have hzl : (Pu.sOf [T] cols).zs.length ≤ 1000 := by simp [Pu.sOf]; have := HC4.out; omega
  have hbl : (Pu.sOf [T] cols).bs.length ≤ 1000 := by
   have h : (Pu.sOf [T] cols).bs.length ≤ cols.length := by simp only [Pu.sOf, List.length_map]; exact List.length_filter_le _ _
   have := HC4.out; omega
  have HCb : Hid (Calls Try.prog 19 #[tvv ⟨sr, sl, sh, (sza, szn, szc), (sba, sbn, sbc)⟩] w7 fun e w' => ∃ u, e = .returned (tvv u) ∧ StOk w' u (Pu.sOf [T] cols) ∧ Ex w7 w') := back_is _ _ w7 hS7 hzl hbl
  clear hS7 hx7 HCs y0 y1 y2 hzl hbl hw5 hw6
  simp only [tvv, sv]
  go_wp2_with fail
  go_at_call 19
  refine Calls.mono HCb.out ?_
  rintro e w8 ⟨⟨ur, ul, uh, ⟨uza, uzn, uzc⟩, ⟨uba, ubn, ubc⟩⟩, rfl, hS8, hx8⟩
  obtain ⟨w9, hw9⟩ : ∃ w9, w8.alloc (tb ⟨ur, ul, uh, (uza, uzn, uzc), (uba, ubn, ubc)⟩ 38) = w9 := ⟨_, rfl⟩
  have hx9 : Ex w8 w9 := by rw [← hw9]; exact (Below.refl _ _).alloc (Nat.le_refl _) _
  have HX39 : Hid (Ex w3 w9) := (HX37.out.trans (hx8.trans hx9) : Ex w3 w9)
  have HX9 : Hid (Ex w w9) := (HX3.out.trans HX39.out : Ex w w9)
  have HTS : Hid (TAt w9 w8.heap.size ⟨ur, ul, uh, (uza, uzn, uzc), (uba, ubn, ubc)⟩ 38) := (by rw [← hw9]; exact TAt.new w8 _ 38 : TAt w9 _ _ _)
  have HSt : Hid (StOk w9 ⟨ur, ul, uh, (uza, uzn, uzc), (uba, ubn, ubc)⟩ (Pu.sOf [T] cols)) := hS8.below hx9
  have HT9 : Hid (LAt w9 w4.heap.size ⟨tt, tq, ta, tn, tc⟩) := HT7.out.below (hx8.trans hx9)
  have HRT9 : Hid (RvOk w9 ⟨tt, tq, ta, tn, tc⟩ T) := HRT7.out.below (hx8.trans hx9)
  have HP9 : Hid (PAt w9 w.heap.size xP) := HP3.out.below HX39.out
  have HL9 : Hid (Pd.Lay (fun _ => True) P w9 xP) := Pd.Lay.below _ HL3.out HX39.out
  have HSF : Hid (StFine (Pu.sOf [T] cols)) := sOf_fine (by intro r hr c hc; simp at hr; subst hr; have := (HTC.out c hc).1; omega) HNM.out
  obtain ⟨S, hS⟩ : ∃ S, Pu.sOf [T] cols = S := ⟨_, rfl⟩
  obtain ⟨j, hj⟩ : ∃ j, Pu.judge (Pu.sOf [T] cols) (Pu.fg 15) P = j := ⟨_, rfl⟩
  have hpl := Pu.empty HGR.out HRP.out j hj
  have h0 : (Pu.sOf [T] cols).rows ≠ 0 := by simp [Pu.sOf]
  have HPL : Hid ((1 ≤ j ∧ j ≤ 3) ∧ (j = 2 → Pu.pre P = true) ∧ (j ≠ 2 → j = if Pd.ev T P = true then 3 else 1)) := hpl
  have H0 : Hid ((Pu.sOf [T] cols).rows ≠ 0) := h0
  rw [hS] at HSt HSF hj H0
  have HJ : Hid (Calls Try.prog 10 #[pvv xP, tvv ⟨ur, ul, uh, (uza, uzn, uzc), (uba, ubn, ubc)⟩, .int .i64 15] w9 fun e w' => e = .returned (.int .i64 (j : Int)) ∧ Ex w9 w') := pJudge_is S HSF.out P HFP.out _ _ 15 w9 HL9.out HSt.out j hj
  obtain ⟨k0, k1, k2, k3, k4, k5, k6⟩ := HP9.out.all
  obtain ⟨t0, t1, t2, t3, t4⟩ := HTS.out.all
  simp only at t0 t1 t2 t3 t4
  simp only [tb, sv] at hw9
  clear hx8 hx9 hS8 HCb hj hpl h0 hS HP3 HL3 HR3
  simp only [tvv, sv]
  go_wp2_with fail
  go_at_call 10
  refine Calls.mono HJ.out ?_
  rintro e wA ⟨rfl, hxA⟩
  have HXA : Hid (Ex w9 wA) := hxA
  obtain ⟨ev, hev⟩ : ∃ ev, Pd.ev T P = ev := ⟨_, rfl⟩
  have HEV : Hid (Pd.ev T P = ev) := hev
  have hfit : Pd.fit P 50 5000 = true := by
   have h := HRP.out
   unfold Pd.right at h
   simp only [Bool.and_eq_true, decide_eq_true_eq] at h
   exact Pd.fit_of (by omega) (by omega)
  have HCe : Hid (Calls Try.prog 21 #[pvv xP, rvv ⟨tt, tq, ta, tn, tc⟩] wA fun e w' => e = .returned (.bool ev) ∧ Ex wA w') := eval_is P T xP _ wA (Pd.Lay.below _ HL9.out hxA) HFP.out (HRT9.out.below hxA) (fun c hc => Nat.le_trans (HTC.out c hc).1 (by decide)) ev (by rw [hfit, hev]; rfl)
  clear k0 k1 k2 k3 k4 k5 k6 t0 t1 t2 t3 t4 hw9 HJ hfit hev
  obtain ⟨k0, k1, k2, k3, k4, k5, k6⟩ := (HP9.out.below hxA).all
  obtain ⟨y0, y1, y2⟩ := (HT9.out.below hxA).all
  simp only at y0 y1 y2
  clear hxA
  obtain ⟨j2, hj2⟩ : ∃ n : Nat, (if ev = true then 3 else 1) = n := ⟨_, rfl⟩
  have HJ2 : Hid ((if ev = true then 3 else 1) = j2) := hj2
  clear hj2
  go_wp2_with fail
  go_at_call 21
  refine Calls.mono HCe.out ?_
  rintro e wB ⟨rfl, hxB⟩
  have HXB : Hid (Ex w9 wB) := (HXA.out.trans hxB : Ex w9 wB)
  clear hxB HCe k0 k1 k2 k3 k4 k5 k6 y0 y1 y2
  obtain ⟨k0, k1, k2, k3, k4, k5, k6⟩ := (HP9.out.below HXB.out).all
  go_upto_if 37 with fail
  go_cut [10] (fun x wc => x = .int .i64 (j2 : Int) ∧ wc = wB)
  case first =>
   cases ev <;> (go_wp2_with fail; go_meet; exact ⟨by rw [← HJ2.out]; rfl, rfl⟩)
  case rest =>
   obtain ⟨rfl, hwc⟩ := hcut
   replace hwc := hwc.symm
   subst hwc
   have HJ0 : Hid (Calls Try.prog 10 #[pvv xP, tvv TV.zero, .int .i64 a2] wB fun e w' => e = .returned (.int .i64 ((1 : Nat) : Int)) ∧ Ex wB w') := pJudge_is St0 st0_fine P HFP.out _ _ a2 wB (Pd.Lay.below _ HL9.out HXB.out) (st0_ok wB) 1 (Pu.judge0 HRP.out)
   go_upto_region 10 with fail
   go_cut [60] (fun x wc => x = .bool false ∧ Hid (Ex w9 wc))
   case first =>
    go_wp2_with fail
    go_at_call 10
    refine Calls.mono HJ0.out ?_
    rintro e wC ⟨rfl, hxC⟩
    have HXC : Hid (Ex w9 wC) := (HXB.out.trans hxC : Ex w9 wC)
    have HLC : Hid (Pd.Lay (fun _ => True) P wC xP) := Pd.Lay.below _ HL9.out HXC.out
    clear hxC HJ0 k0 k1 k2 k3 k4 k5 k6
    obtain ⟨k0, k1, k2, k3, k4, k5, k6⟩ := (HP9.out.below HXC.out).all
    by_cases h2 : j = 2
    ·have t1 : ((j : Int) == 2) = true := by simp [h2]
     have t2 : ((j : Int) != 2) = false := by simp [h2]
     have HPR : Hid (Pu.pre P = true) := HPL.out.2.1 h2
     have HCp : Hid (Calls Try.prog 23 #[pvv xP] wC fun e w' => e = .returned (.bool true) ∧ Ex wC w') := (by have h := prefixed_is P xP wC HLC.out; rw [HPR.out] at h; exact h : Calls _ _ _ _ _)
     clear h2
     go_wp2_with fail
     go_at_call 23
     refine Calls.mono HCp.out ?_
     rintro e wD ⟨rfl, hxD⟩
     have HXD : Hid (Ex w9 wD) := (HXC.out.trans hxD : Ex w9 wD)
     clear hxD HCp k0 k1 k2 k3 k4 k5 k6
     go_wp2_with fail
     go_meet
     exact ⟨rfl, HXD⟩
    ·have t1 : ((j : Int) == 2) = false := by simp; omega
     have t2 : ((j : Int) != 2) = true := by simp; omega
     have ej : j = j2 := by have h := HPL.out.2.2 h2; rw [HEV.out] at h; rw [h]; exact HJ2.out
     have t3 : ((j : Int) != (j2 : Int)) = false := by simp [ej]
     clear h2 ej
     go_wp2_with fail
     go_meet
     exact ⟨rfl, HXC⟩
   case rest =>
    obtain ⟨rfl, HXc⟩ := hcut
    clear k0 k1 k2 k3 k4 k5 k6 HJ0
    obtain ⟨wD, hwD⟩ : ∃ wD, wc.alloc (.cells #[.int .i64 9, .string { data := #[97] }, .int .i64 0, .int .i64 0, .string { data := #[] }, .slice none 0 0, .slice none 0 0, .int .i64 6, .string { data := #[115] }, .int .i64 0, .int .i64 0, .string { data := #[120] }, .slice none 0 0, .slice none 0 0, .int .i64 10, .string { data := #[] }, .int .i64 5, .int .i64 3, .string { data := #[] }, .slice none 0 0, .slice none 0 0, .int .i64 4, .string { data := #[97] }, .int .i64 1, .int .i64 0, .string { data := #[] }, .slice none 0 0, .slice none 0 0] 40) = wD := ⟨_, rfl⟩
    have hxD : Ex wc wD := by rw [← hwD]; exact (Below.refl _ _).alloc (Nat.le_refl _) _
    have HXD : Hid (Ex w9 wD) := (HXc.out.trans hxD : Ex w9 wD)
    have HRQ : Hid (Pd.RdP wD (some ⟨wc.heap.size, 0, none⟩) 4 qps) := (⟨qvs, (by rw [← hwD]; exact RdW.laid (t := 40) pc_len wc qvs (by simp [qvs])), qs_lay wD⟩ : Pd.RdP _ _ _ _)
    have HWD : Hid (wc.alloc (.cells #[.int .i64 9, .string { data := #[97] }, .int .i64 0, .int .i64 0, .string { data := #[] }, .slice none 0 0, .slice none 0 0, .int .i64 6, .string { data := #[115] }, .int .i64 0, .int .i64 0, .string { data := #[120] }, .slice none 0 0, .slice none 0 0, .int .i64 10, .string { data := #[] }, .int .i64 5, .int .i64 3, .string { data := #[] }, .slice none 0 0, .slice none 0 0, .int .i64 4, .string { data := #[97] }, .int .i64 1, .int .i64 0, .string { data := #[] }, .slice none 0 0, .slice none 0 0] 40) = wD) := hwD
    clear hxD hwD
    go_wp2_with fail
    rw [HWD.out]
    go_wp2_with fail
    go_loopw [67] (fun iv wr => ∃ i : Nat, i ≤ 4 ∧ iv = .int .i64 i ∧ Hid (Ex wD wr)) (fun iv wr => 4 - (intOf iv).toNat)
    case atStart => exact ⟨0, by omega, rfl, Ex.refl wD⟩
    case round =>
     obtain ⟨i, hi, rfl, HXr⟩ := hrel
     have HX9r : Hid (Ex w9 wr) := (HXD.out.trans HXr.out : Ex w9 wr)
     by_cases hlt : i < 4
     ·have hti : (i : Int) < 4 := by omega
      have hql : i < qps.length := hlt
      obtain ⟨b, off, u, hpp, hLk, e0, e1, e2, e3, e4, e5, e6⟩ := (HRQ.out.below HXr.out).seven hql
      simp only [Option.some.injEq, Addr.mk.injEq, and_true] at hpp
      obtain ⟨rfl, rfl⟩ := hpp
      simp only [Nat.zero_add] at e0 e1 e2 e3 e4 e5 e6
      obtain ⟨q, hq⟩ : ∃ q, qps[i] = q := ⟨_, rfl⟩
      rw [hq] at hLk
      have hqs := qs_two H0.out q (by rw [← hq]; exact List.getElem_mem hql)
      obtain ⟨w1, hw1⟩ : ∃ w1, wr.alloc (pb u) = w1 := ⟨_, rfl⟩
      have hX1 : Ex wr w1 := by rw [← hw1]; exact (Below.refl _ _).alloc (Nat.le_refl _) _
      have HX91 : Hid (Ex w9 w1) := (HX9r.out.trans hX1 : Ex w9 w1)
      have HX1 : Hid (Ex wD w1) := (HXr.out.trans hX1 : Ex wD w1)
      have HC : Hid (Calls Try.prog 10 #[pvv u, tvv ⟨ur, ul, uh, (uza, uzn, uzc), (uba, ubn, ubc)⟩, .int .i64 0] w1 fun e w' => e = .returned (.int .i64 2) ∧ Ex w1 w') := pJudge_is S HSF.out q hqs.1 _ _ 0 w1 (Pd.Lay.below _ hLk hX1) (HSt.out.below HX91.out) 2 hqs.2
      have HP1 : Hid (PAt w1 wr.heap.size u) := (by rw [← hw1]; exact PAt.new wr u : PAt w1 wr.heap.size u)
      obtain ⟨q0, q1, q2, q3, q4, q5, q6⟩ := HP1.out.all
      obtain ⟨t0, t1, t2, t3, t4⟩ := (HTS.out.below HX91.out).all
      simp only at t0 t1 t2 t3 t4
      clear hLk hq hX1 hqs hql
      go_wp2_with fail
      go_at_call 10
      refine Calls.mono HC.out ?_
      rintro e w3 ⟨rfl, hx⟩
      have HX3' : Hid (Ex wD w3) := (HX1.out.trans hx : Ex wD w3)
      clear hx HC
      go_wp2_with fail
      go_roundw
      case rel => exact ⟨i + 1, by omega, by go_num, HX3'⟩
      case measure => simp [intOf]; omega
     ·have hti : ¬ (i : Int) < 4 := by omega
      go_wp2_with fail
      go_at_call 14
      refine (known_is wr).mono ?_
      rintro e wE ⟨rfl, hxE⟩
      have HXE : Hid (Ex w wE) := (HX9.out.trans (HX9r.out.trans hxE) : Ex w wE)
      clear hxE
      go_wp2_with fail
      go_ret
      exact ⟨rfl, HXE.out⟩
end Go.Proofs.Ytibnhjfeepdddaa.pruneEmpty
