/-
  The walk of PruneSound.
-/
import Derived.Test.YtibnhjfeepdddaaNPruneEmptyWalk
import Derived.Test.YtibnhjfeepdddaaK09
namespace Go.Proofs.Ytibnhjfeepdddaa
open Go.RowKit
set_option linter.unusedVariables false
set_option linter.unusedSimpArgs false
theorem Pu.fg_lt : ∀ g f : Fin 16, (bits .and .i64 (g.val : Int) (f.val : Int) == (g.val : Int)) = true → ((Pu.fg g.val).tk = true → (Pu.fg f.val).tk = true) ∧ ((Pu.fg g.val).zo = true → (Pu.fg f.val).zo = true) ∧ ((Pu.fg g.val).bl = true → (Pu.fg f.val).bl = true) := by
 unfold Pu.fg
 decide +kernel
theorem Rw.rs_fine (R : List Rw) (m : Nat) (hm : m ≤ 1000) : ∀ r ∈ (Rw.rs R m).1, Rw.right r = true ∧ (∀ x ∈ r.c, Rw.co x ∈ Rw.tcs) ∧ (∀ x ∈ r.c, x.s.length ≤ 3 ∧ x.col.length ≤ 1 ∧ In64 x.k ∧ In64 x.n) ∧ In64 r.t ∧ In64 r.q := by
 intro r hr
 obtain ⟨h1, _, _⟩ := Rw.rs_rows R m
 have hle := Rw.rs_le R m
 obtain ⟨⟨a1, a2⟩, ⟨a3, a4⟩, c, hc⟩ := h1 r hr
 have h := Rw.tame_right (t := r.t) (q := r.q) c (by omega) (by omega)
 rw [← hc] at h
 exact ⟨h.1, h.2.1, h.2.2, ⟨by omega, by omega⟩, ⟨by omega, by omega⟩⟩
/-- What PruneSound asks. -/
theorem Pu.sound16 {R : List Rw} {cols : List Co} {k : Nat} (hg : Rw.grow [] R = (cols, 0, k)) (hne : R ≠ []) (htime : ∀ r ∈ R, (R.headD ⟨0, 0, []⟩).t ≤ r.t ∧ r.t ≤ (R.getLastD ⟨0, 0, []⟩).t) {P : Pr} (hP : Pd.right P = true) (J : Nat → Nat) (hJ : ∀ f : Nat, Pu.judge (Pu.sOf R cols) (Pu.fg f) P = J f) :
  (∀ f, 1 ≤ J f ∧ J f ≤ 3) ∧ (∀ f, J f = 1 → R.countP (fun r => Pd.ev r P) = 0) ∧ (∀ f, J f = 3 → R.countP (fun r => Pd.ev r P) = R.length) ∧ ∀ g f : Nat, g < f → f < 16 → (bits .and .i64 (g : Int) (f : Int) == (g : Int)) = true → J g ≠ 2 → J f = J g := by
 have h0 : (Pu.sOf R cols).rows ≠ 0 := by
  have : R.length ≠ 0 := fun h => hne (List.length_eq_zero_iff.1 h)
  simp only [Pu.sOf]; omega
 have hT := Pu.tells hg htime
 refine ⟨fun f => ?_, fun f h => ?_, fun f h => ?_, fun g f hgf hf hb h => ?_⟩
 ·rw [← hJ f]; exact (Pu.judge_sound hT h0 (Pu.fg f) hP).1
 ·rw [← hJ f] at h
  refine List.countP_eq_zero.2 fun r hr => ?_
  rw [((Pu.judge_sound hT h0 (Pu.fg f) hP).2 r hr).1 h]; simp
 ·rw [← hJ f] at h
  exact List.countP_eq_length.2 fun r hr => ((Pu.judge_sound hT h0 (Pu.fg f) hP).2 r hr).2 h
 ·have hl := Pu.fg_lt ⟨g, by omega⟩ ⟨f, hf⟩ hb
  rw [← hJ g] at h
  rw [← hJ f, ← hJ g]
  exact Pu.judge_mono hT hne h0 (g := Pu.fg g) (f := Pu.fg f) hl hP h
/-- What has been told ahead of f. -/
def Told (J : Nat → Nat) (w : World) (g f : Nat) : Prop := ∃ T : List Int, T.length = 16 ∧ (∀ i, i < f → T[i]? = some (J i : Int)) ∧ RowAt z64 62 w g T
theorem sOf_small {R : List Rw} {cols : List Co} (hc : cols.length ≤ 4) : (Pu.sOf R cols).zs.length ≤ 1000 ∧ (Pu.sOf R cols).bs.length ≤ 1000 := by
 constructor
 ·simp [Pu.sOf]; omega
 ·have h : (Pu.sOf R cols).bs.length ≤ cols.length := by simp only [Pu.sOf, List.length_map]; exact List.length_filter_le _ _
  omega
end Go.Proofs.Ytibnhjfeepdddaa
namespace Go.Proofs.Ytibnhjfeepdddaa.pruneSound
open Go.RowKit
set_option linter.unusedVariables false
set_option linter.unusedSimpArgs false
set_option maxHeartbeats 16000000 in
set_option maxRecDepth 100000 in
theorem walk (v0 : PV) (p0 : Pr) (p1 : Option Addr) (c1 : Nat) (l1 : List Rw) (w : World) (b0 : Pd.Lay (fun _ => True) p0 w v0) (m0 : Pd.Raw p0) (b1 : RdR w p1 c1 l1) (m1 : ∀ r ∈ l1, RowOk r ∧ r.c.length ≤ 2932031007402) :
  Calls Try.prog 5 #[pvv v0, .slice p1 l1.length c1] w fun e w' => e = .returned (.bool true) ∧ Below w.heap.size w w' := by
 obtain ⟨vk, vcol, vn, vm, vs, vset, vkids⟩ := v0
 obtain ⟨W, hW⟩ : ∃ W, w.alloc (pb ⟨vk, vcol, vn, vm, vs, vset, vkids⟩) = W := ⟨_, rfl⟩
 have hXW : Ex w W := by rw [← hW]; exact (Below.refl _ _).alloc (Nat.le_refl _) _
 have HXW : Hid (Ex w W) := hXW
 have HSZ : Hid (W.heap.size = w.heap.size + 1) := (by rw [← hW]; simp : W.heap.size = w.heap.size + 1)
 have HP : Hid (PAt W w.heap.size ⟨vk, vcol, vn, vm, vs, vset, vkids⟩) := (by rw [← hW]; exact PAt.new w _ : PAt W w.heap.size _)
 have HM0 : Hid (Pd.Raw p0) := m0
 have HB1 : Hid (RdR w p1 c1 l1) := b1
 have HOK : Hid (∀ r ∈ l1, RwOk r) := (fun r hr => (m1 r hr).1.rwOk : ∀ r ∈ l1, RwOk r)
 have HC0 : Hid (Calls Try.prog 15 #[pvv ⟨vk, vcol, vn, vm, vs, vset, vkids⟩, .int .i64 (5 : Nat)] W fun e w' => ∃ u, e = .returned (pvv u) ∧ Pd.Lay (fun b => W.heap.size ≤ b) (Pd.cut p0 5) w' u ∧ Ex W w') := cut_is p0 _ W 5 (Pd.Lay.below _ b0 hXW) m0 (by omega)
 obtain ⟨p0', p1', p2', p3', p4', p5', p6'⟩ := HP.out.all
 simp only at p0' p1' p2' p3' p4' p5' p6'
 clear hXW b0 m0 b1 m1
 unfold pvv
 simp only [sv]
 go_enter Try.func5, Try.ntmps5
 go_wp2_with fail
 go_at_call 15
 refine Calls.mono HC0.out ?_
 rintro e w1 ⟨xP, rfl, hL1, hx1⟩
 have hP1 := HP.out.below hx1
 obtain ⟨w2, hw2⟩ : ∃ w2, pset w1 w.heap.size xP = w2 := ⟨_, rfl⟩
 have hg2 : w1.grownBy w2 (some w.heap.size) := by rw [← hw2]; exact grown_pset _ _ _
 have hX2 : Ex w w2 := Below.grown (HXW.out.trans hx1) hg2 (HXW.out.trans hx1).size (fun g hg => by simp at hg; omega)
 have HX2 : Hid (Ex w w2) := hX2
 have HP2 : Hid (PAt w2 w.heap.size xP) := (by rw [← hw2]; exact hP1.store xP : PAt w2 _ _)
 have HL2 : Hid (Pd.Lay (fun _ => True) (Pd.cut p0 5) w2 xP) := (Pd.Lay.mono (fun _ _ => trivial) _ (Pd.Lay.far (row := some w.heap.size) (fun b hb e => by simp at e; have := HSZ.out; omega) _ hL1 hg2) : Pd.Lay _ _ w2 xP)
 obtain ⟨f0, f1, f2, f3, f4, f5, f6⟩ := hP1.fro
 obtain ⟨c0, c1', c2, c3, c4, c5, c6⟩ := hP1.all
 simp only at c0 c1' c2 c3 c4 c5 c6
 obtain ⟨P, hPc⟩ : ∃ P, Pd.cut p0 5 = P := ⟨_, rfl⟩
 have HFP : Hid (Pd.Fine P) := (by rw [← hPc]; exact Pd.cut_fine _ HM0.out _ : Pd.Fine P)
 rw [hPc] at HL2
 have HCR : Hid (Calls Try.prog 17 #[.slice p1 l1.length c1, .int .i64 (16 : Nat)] w2 fun e w' => ∃ v, e = .returned v ∧ OwnL w' w2.heap.size v (Rw.rs l1 (min 16 l1.length)).1 ∧ Ex w2 w') := rising_is p1 l1.length c1 16 l1 w2 rfl (HB1.out.below hX2) HOK.out (by omega)
 obtain ⟨m, hm⟩ : ∃ m, min 16 l1.length = m := ⟨_, rfl⟩
 have hm16 : m ≤ 16 := by omega
 have hfine := Rw.rs_fine l1 m (by omega)
 have hrows := (Rw.rs_rows l1 m).2.1
 have hlen := (Rw.rs_le l1 m).1
 rw [hm] at HCR
 obtain ⟨R, hR⟩ : ∃ R, (Rw.rs l1 m).1 = R := ⟨_, rfl⟩
 rw [hR] at HCR hfine hrows hlen
 have hRl : R.length ≤ 16 := by omega
 have HRF : Hid (∀ r ∈ R, Rw.right r = true ∧ (∀ x ∈ r.c, Rw.co x ∈ Rw.tcs) ∧ (∀ x ∈ r.c, x.s.length ≤ 3 ∧ x.col.length ≤ 1 ∧ In64 x.k ∧ In64 x.n) ∧ In64 r.t ∧ In64 r.q) := hfine
 have HRT : Hid (∀ r ∈ R, (R.headD ⟨0, 0, []⟩).t ≤ r.t ∧ r.t ≤ (R.getLastD ⟨0, 0, []⟩).t) := hrows
 clear hP1 hg2 hX2 hL1 hx1 HC0 p0' p1' p2' p3' p4' p5' p6' hW hPc hm hm16 hfine hrows hlen hR
 simp only [pvv, sv]
 go_wp2_with fail
 go_at_call 17
 refine Calls.mono HCR.out ?_
 rintro e w3 ⟨rv, rfl, hO3, hx3⟩
 obtain ⟨ra, rc', rfl, hB3⟩ := hO3.rd
 have HB3 : Hid (RdR w3 ra rc' R) := hB3
 have HX3 : Hid (Ex w w3) := (HX2.out.trans hx3 : Ex w w3)
 have HP3 : Hid (PAt w3 w.heap.size xP) := HP2.out.below hx3
 have HL3 : Hid (Pd.Lay (fun _ => True) P w3 xP) := Pd.Lay.below _ HL2.out hx3
 obtain ⟨r, hr⟩ : ∃ r, Pd.right P = r := ⟨_, rfl⟩
 have HRP : Hid (Pd.right P = r) := hr
 have HCr : Hid (Calls Try.prog 18 #[pvv xP] w3 fun e w' => e = .returned (.bool r) ∧ Ex w3 w') := right_is P xP w3 HL3.out HFP.out r hr
 clear hx3 hO3 hB3 HCR hr f0 f1 f2 f3 f4 f5 f6 c0 c1' c2 c3 c4 c5 c6 hw2
 obtain ⟨k0, k1, k2, k3, k4, k5, k6⟩ := HP3.out.all
 by_cases h0 : R.length = 0
 ·have t0 : ((R.length : Int) == 0) = true := by simp [h0]
  go_wp2_with fail
  go_at_call 14
  refine (known_is w3).mono ?_
  rintro e w5 ⟨rfl, hx5⟩
  have HX5 : Hid (Ex w w5) := (HX3.out.trans hx5 : Ex w w5)
  clear hx5
  go_wp2_with fail
  go_ret
  exact ⟨rfl, HX5.out⟩
 have HR0 : Hid (1 ≤ R.length) := (by omega : 1 ≤ R.length)
 have HRN : Hid (R ≠ []) := (fun h => h0 (by rw [h]; rfl) : R ≠ [])
 have t0 : ((R.length : Int) == 0) = false := by simp; exact fun h => h0 (by rw [h]; rfl)
 clear h0
 go_wp2_with fail
 go_at_call 18
 refine Calls.mono HCr.out ?_
 rintro e w4 ⟨rfl, hx4⟩
 have HX34 : Hid (Ex w3 w4) := hx4
 have HX4 : Hid (Ex w w4) := (HX3.out.trans hx4 : Ex w w4)
 have HP4 : Hid (PAt w4 w.heap.size xP) := HP3.out.below hx4
 have HL4 : Hid (Pd.Lay (fun _ => True) P w4 xP) := Pd.Lay.below _ HL3.out hx4
 have HB4 : Hid (RdR w4 ra rc' R) := HB3.out.below hx4
 clear hx4 HCr k0 k1 k2 k3 k4 k5 k6 t0
 obtain ⟨k0, k1, k2, k3, k4, k5, k6⟩ := HP4.out.all
 cases r with
 | false =>
  go_wp2_with fail
  go_at_call 14
  refine (known_is w4).mono ?_
  rintro e w5 ⟨rfl, hx5⟩
  have HX5 : Hid (Ex w w5) := (HX4.out.trans hx5 : Ex w w5)
  clear hx5
  go_wp2_with fail
  go_ret
  exact ⟨rfl, HX5.out⟩
 | true =>
  obtain ⟨cols, hg, hc4⟩ := Rw.grow_takes (l := R) (fun r hr => ⟨(HRF.out r hr).1, (HRF.out r hr).2.1⟩)
  have HGR : Hid (Rw.grow [] R = (cols, 0, 0)) := hg
  have HC4 : Hid (cols.length ≤ 4) := hc4
  have hgo := Rw.grow_ok hg
  have HNM : Hid (∀ c ∈ cols, c.nm.length ≤ 40) := (by
   intro c hc
   rcases (hgo.2.2.2.1 c).1 hc with h | ⟨r, hr, x, hx, rfl⟩
   ·simp at h
   ·exact Nat.le_trans ((HRF.out r hr).2.2.1 x hx).2.1 (by omega) : ∀ c ∈ cols, c.nm.length ≤ 40)
  have HR3 : Hid (∀ r ∈ R, RwOk3 r) := (fun r hr => ⟨(HRF.out r hr).2.2.2.1, (HRF.out r hr).2.2.2.2, fun c hc => by have h := (HRF.out r hr).2.2.1 c hc; have hm : (40 : Nat) ≤ maxLen := (by decide); exact ⟨by omega, by omega, h.2.2.1, h.2.2.2⟩⟩ : ∀ r ∈ R, RwOk3 r)
  have HCs : Hid (Calls Try.prog 20 #[.slice ra R.length rc'] w4 fun e w' => ∃ u, e = .returned (tvv u) ∧ StOk w' u (Pu.sOf R cols) ∧ Ex w4 w') := rstats_is ra rc' R w4 HB4.out ⟨HR0.out, by omega⟩ HR3.out cols 0 HGR.out (by have := HC4.out; omega)
  clear hg hc4 hgo
  go_wp2_with fail
  go_at_call 20
  refine Calls.mono HCs.out ?_
  rintro e w7 ⟨⟨sr, sl, sh, ⟨sza, szn, szc⟩, ⟨sba, sbn, sbc⟩⟩, rfl, hS7, hx7⟩
  have HX47 : Hid (Ex w4 w7) := hx7
  have hsm := sOf_small (R := R) HC4.out
  have HCb : Hid (Calls Try.prog 19 #[tvv ⟨sr, sl, sh, (sza, szn, szc), (sba, sbn, sbc)⟩] w7 fun e w' => ∃ u, e = .returned (tvv u) ∧ StOk w' u (Pu.sOf R cols) ∧ Ex w7 w') := back_is _ _ w7 hS7 hsm.1 hsm.2
  clear hS7 hx7 HCs hsm k0 k1 k2 k3 k4 k5 k6
  simp only [tvv, sv]
  go_wp2_with fail
  go_at_call 19
  refine Calls.mono HCb.out ?_
  rintro e w8 ⟨⟨ur, ul, uh, ⟨uza, uzn, uzc⟩, ⟨uba, ubn, ubc⟩⟩, rfl, hS8, hx8⟩
  obtain ⟨w9, hw9⟩ : ∃ w9, w8.alloc (tb ⟨ur, ul, uh, (uza, uzn, uzc), (uba, ubn, ubc)⟩ 38) = w9 := ⟨_, rfl⟩
  have hx9 : Ex w8 w9 := by rw [← hw9]; exact (Below.refl _ _).alloc (Nat.le_refl _) _
  have HX49 : Hid (Ex w4 w9) := (HX47.out.trans (hx8.trans hx9) : Ex w4 w9)
  have HX9 : Hid (Ex w w9) := (HX4.out.trans HX49.out : Ex w w9)
  have HTS : Hid (TAt w9 w8.heap.size ⟨ur, ul, uh, (uza, uzn, uzc), (uba, ubn, ubc)⟩ 38) := (by rw [← hw9]; exact TAt.new w8 _ 38 : TAt w9 _ _ _)
  have HSt : Hid (StOk w9 ⟨ur, ul, uh, (uza, uzn, uzc), (uba, ubn, ubc)⟩ (Pu.sOf R cols)) := hS8.below hx9
  have HP9 : Hid (PAt w9 w.heap.size xP) := HP4.out.below HX49.out
  have HL9 : Hid (Pd.Lay (fun _ => True) P w9 xP) := Pd.Lay.below _ HL4.out HX49.out
  have HB9 : Hid (RdR w9 ra rc' R) := HB4.out.below HX49.out
  have HSF : Hid (StFine (Pu.sOf R cols)) := sOf_fine (by intro r hr c hc; have := ((HRF.out r hr).2.2.1 c hc).1; omega) HNM.out
  obtain ⟨J, hJ⟩ : ∃ J : Nat → Nat, ∀ f : Nat, Pu.judge (Pu.sOf R cols) (Pu.fg f) P = J f := ⟨_, fun _ => rfl⟩
  have HPL : Hid ((∀ f, 1 ≤ J f ∧ J f ≤ 3) ∧ (∀ f, J f = 1 → R.countP (fun r => Pd.ev r P) = 0) ∧ (∀ f, J f = 3 → R.countP (fun r => Pd.ev r P) = R.length) ∧ ∀ g f : Nat, g < f → f < 16 → (bits .and .i64 (g : Int) (f : Int) == (g : Int)) = true → J g ≠ 2 → J f = J g) := Pu.sound16 HGR.out HRN.out HRT.out HRP.out J hJ
  have HJ : Hid (∀ f : Nat, Pu.judge (Pu.sOf R cols) (Pu.fg f) P = J f) := hJ
  have hfit : Pd.fit P 50 5000 = true := by
   have h := HRP.out
   unfold Pd.right at h
   simp only [Bool.and_eq_true, decide_eq_true_eq] at h
   exact Pd.fit_of (by omega) (by omega)
  have HFIT : Hid (Pd.fit P 50 5000 = true) := hfit
  obtain ⟨S, hS⟩ : ∃ S, Pu.sOf R cols = S := ⟨_, rfl⟩
  rw [hS] at HSt HSF HJ
  obtain ⟨k0, k1, k2, k3, k4, k5, k6⟩ := HP9.out.all
  obtain ⟨t0, t1, t2, t3, t4⟩ := HTS.out.all
  simp only at t0 t1 t2 t3 t4
  simp only [tb, sv] at hw9
  clear hx8 hx9 hS8 HCb hS hJ hfit
  simp only [tvv, sv]
  go_wp2_with fail
  go_loopw [7, 8] (fun nv iv wr => ∃ (i k : Nat), i ≤ R.length ∧ k ≤ i ∧ iv = .int .i64 i ∧ nv = .int .i64 k ∧ Hid ((R.take i).countP (fun r => Pd.ev r P) = k) ∧ Hid (Ex w9 wr)) (fun nv iv wr => R.length - (intOf iv).toNat)
  case atStart => exact ⟨0, 0, by omega, by omega, rfl, rfl, (rfl : (R.take 0).countP (fun r => Pd.ev r P) = 0), Ex.refl w9⟩
  case round =>
   obtain ⟨i, k, hi, hki, rfl, rfl, HK, HXr⟩ := hrel
   by_cases hlt : i < R.length
   ·have hti : (i : Int) < (R.length : Int) := by omega
    obtain ⟨b, off, p, cp2, rfl, e0, e1, e2, hC⟩ := (HB9.out.below HXr.out).at hlt
    obtain ⟨r, hr⟩ : ∃ r, R[i] = r := ⟨_, rfl⟩
    rw [hr] at e0 e1 e2 hC
    obtain ⟨ev, hev⟩ : ∃ ev, Pd.ev r P = ev := ⟨_, rfl⟩
    have hnx : (R.take (i + 1)).countP (fun r => Pd.ev r P) = k + (if ev = true then 1 else 0) := by
     rw [List.take_add_one, List.getElem?_eq_getElem hlt, hr, List.countP_append, HK.out]
     simp [hev]
    have HNX : Hid ((R.take (i + 1)).countP (fun r => Pd.ev r P) = k + (if ev = true then 1 else 0)) := hnx
    have hmr : r ∈ R := by rw [← hr]; exact List.getElem_mem hlt
    have hcs : ∀ c ∈ r.c, c.s.length ≤ maxLen := fun c hc => Nat.le_trans ((HRF.out r hmr).2.2.1 c hc).1 (by decide)
    have HCS : Hid (∀ c ∈ r.c, c.s.length ≤ maxLen) := hcs
    have hev2 : (Pd.fit P 50 5000 && Pd.ev r P) = ev := by rw [HFIT.out, hev]; rfl
    have HEV : Hid ((Pd.fit P 50 5000 && Pd.ev r P) = ev) := hev2
    have HRV : Hid (RvOk wr ⟨r.t, r.q, p, r.c.length, cp2⟩ r) := (⟨rfl, rfl, rfl, hC⟩ : RvOk wr _ r)
    have HE : Hid (wr.cell? ⟨b, off + i * 3, none⟩ = some (.int .i64 r.t) ∧ wr.cell? ⟨b, off + i * 3 + 1, none⟩ = some (.int .i64 r.q) ∧ wr.cell? ⟨b, off + i * 3 + 2, none⟩ = some (.slice p r.c.length cp2)) := ⟨e0, e1, e2⟩
    clear hnx hmr hcs hev2 hev hr hC e0 e1 e2
    go_wp2_with fail
    have hre := Ex.refl
    refine Rg.wp_rows [.inl (pvv xP), .inl (.slice (some ⟨b, off, none⟩) R.length rc'), .inl (.int .i64 (i : Int)), .inl (.pointer (some ⟨b, off + i * 3, none⟩)), .inl (rvv ⟨r.t, r.q, p, r.c.length, cp2⟩), .inl (.bool ev)] (Ex wr) Ex 102 (by kernel_rfl) rfl (by kernel_rfl) ?st hre (Ex.drew _) ?goods ?fin
    case st => exact trivial
    case goods =>
     refine Rg.goods_cons (Rg.good_load hre rfl rfl rfl (fun wx hC => (HP9.out.below (HXr.out.trans hC)).loadI)) ?_
     refine Rg.goods_cons (Rg.good_move hre rfl rfl rfl) ?_
     refine Rg.goods_cons (Rg.good_move hre rfl rfl rfl) ?_
     refine Rg.goods_cons (Rg.good_index hre rfl rfl rfl rfl (fun wx hC => by go_simp)) ?_
     refine Rg.goods_cons (Rg.good_load hre rfl rfl rfl (fun wx hC => loadI_row (cell_ex HE.out.1 hC) (cell_ex HE.out.2.1 hC) (cell_ex HE.out.2.2 hC))) ?_
     refine Rg.goods_cons (Rg.good_call2 Try.func21 (by kernel_rfl) rfl rfl rfl (by rintro v0 v1 wx hC rfl rfl; exact ex_rowP (eval_is P r xP _ wx (Pd.Lay.below _ HL9.out (HXr.out.trans hC)) HFP.out (HRV.out.below hC) HCS.out ev HEV.out) hC)) ?_
     exact Rg.goods_nil
    case fin =>
     intro wx hx
     simp only [Rg.later, Act.put, List.setIfInBounds_toArray, List.set_cons_succ, List.set_cons_zero]
     have HXx : Hid (Ex w9 wx) := (HXr.out.trans hx : Ex w9 wx)
     clear hx hre
     cases ev with
     | true =>
      go_wp2_with fail
      go_roundw
      case rel => exact ⟨i + 1, k + 1, by omega, by omega, by go_num, by go_num, HNX.out, HXx⟩
      case measure => simp [intOf]; omega
     | false =>
      go_wp2_with fail
      go_roundw
      case rel => exact ⟨i + 1, k, by omega, by omega, by go_num, by go_num, HNX.out, HXx⟩
      case measure => simp [intOf]; omega
   ·have hti : ¬ (i : Int) < (R.length : Int) := by omega
    have hkk : R.countP (fun r => Pd.ev r P) = k := by have h := HK.out; rwa [List.take_of_length_le (by omega)] at h
    have HKK : Hid (R.countP (fun r => Pd.ev r P) = k) := hkk
    obtain ⟨wT, hwT⟩ : ∃ wT, wr.alloc (.cells #[.int .i64 0, .int .i64 0, .int .i64 0, .int .i64 0, .int .i64 0, .int .i64 0, .int .i64 0, .int .i64 0, .int .i64 0, .int .i64 0, .int .i64 0, .int .i64 0, .int .i64 0, .int .i64 0, .int .i64 0, .int .i64 0] 62) = wT := ⟨_, rfl⟩
    have hXT : Ex wr wT := by rw [← hwT]; exact (Below.refl _ _).alloc (Nat.le_refl _) _
    have HTL : Hid (RowAt z64 62 wT wr.heap.size (List.replicate 16 (0 : Int))) := (by rw [← hwT]; exact heap_alloc_new wr _ : RowAt z64 62 wT wr.heap.size (List.replicate 16 (0 : Int)))
    have HX9r : Hid (Ex w9 wr) := HXr.out
    obtain ⟨wo, hwo⟩ : ∃ wo, wo = wr := ⟨_, rfl⟩
    subst hwo
    clear hkk
    go_wp2_with fail
    go_loopw [10, 11, 12] (fun fv kv gv wr => ∃ f : Nat, f ≤ 16 ∧ fv = .int .i64 f ∧ Hid (Told J wr wo.heap.size f) ∧ Hid (Ex wo wr)) (fun fv kv gv wr => 16 - (intOf fv).toNat)
    case atStart => exact ⟨0, by omega, rfl, (⟨_, List.length_replicate, fun g hg => absurd hg (Nat.not_lt_zero _), HTL.out⟩ : Told J _ _ _), hXT⟩
    case round =>
     obtain ⟨f, hf, rfl, HT, HX⟩ := hrel
     have HX9f : Hid (Ex w9 wr) := (HX9r.out.trans HX.out : Ex w9 wr)
     by_cases hlt : f < 16
     ·have hti : (f : Int) < 16 := by omega
      obtain ⟨j, hj⟩ : ∃ j : Int, (J f : Int) = j := ⟨_, rfl⟩
      have HJF : Hid ((J f : Int) = j) := hj
      have HC : Hid (Calls Try.prog 10 #[pvv xP, tvv ⟨ur, ul, uh, (uza, uzn, uzc), (uba, ubn, ubc)⟩, .int .i64 (f : Int)] wr fun e w' => e = .returned (.int .i64 j) ∧ Ex wr w') := (by have h := pJudge_is S HSF.out P HFP.out xP ⟨ur, ul, uh, (uza, uzn, uzc), (uba, ubn, ubc)⟩ f wr (Pd.Lay.below _ HL9.out HX9f.out) (HSt.out.below HX9f.out) (J f) (HJ.out f); rw [hj] at h; exact h : Calls _ _ _ _ _)
      obtain ⟨k0, k1, k2, k3, k4, k5, k6⟩ := (HP9.out.below HX9f.out).all
      obtain ⟨t0, t1, t2, t3, t4⟩ := (HTS.out.below HX9f.out).all
      simp only at t0 t1 t2 t3 t4
      clear hj
      go_wp2_with fail
      go_at_call 10
      refine Calls.mono HC.out ?_
      rintro e w4' ⟨rfl, hx⟩
      obtain ⟨T, hT1, hT2, hT3⟩ := HT.out
      have hT4 : RowAt z64 62 w4' wo.heap.size T := RowAt.below hT3 hx
      have cT : w4'.cell? ⟨wo.heap.size, f, none⟩ = some (.int .i64 T[f]) := RowAt.cell hT4 (by omega)
      obtain ⟨y, hy⟩ : ∃ y, T[f] = y := ⟨_, rfl⟩
      rw [hy] at cT
      have fT : w4'.frozen? ⟨wo.heap.size, f, none⟩ = false := RowAt.frozen f hT4
      obtain ⟨w5, hw5⟩ : ∃ w5, w4'.setCell ⟨wo.heap.size, f, none⟩ (.int .i64 j) = w5 := ⟨_, rfl⟩
      have HT5 : Hid (RowAt z64 62 w5 wo.heap.size (T.set f j)) := (by rw [← hw5]; exact RowAt.set hT4 j rfl : RowAt z64 62 w5 wo.heap.size (T.set f j))
      have HX5 : Hid (Ex wo w5) := (by rw [← hw5]; exact Below.setCell (HX.out.trans hx) (p := ⟨wo.heap.size, f, none⟩) (Nat.le_refl _) _ : Ex wo w5)
      have HTN : Hid ((T.set f j).length = 16) := (by rw [List.length_set]; exact hT1 : (T.set f j).length = 16)
      have HTV : Hid (∀ g, g < f + 1 → (T.set f j)[g]? = some (J g : Int)) := (by
       intro g hg
       by_cases e : g = f
       ·subst e; rw [List.getElem?_set_self (by omega)]; rw [HJF.out]
       ·rw [List.getElem?_set_ne (by omega)]; exact hT2 g (by omega) : ∀ g, g < f + 1 → (T.set f j)[g]? = some (J g : Int))
      have hjr := HPL.out.1 f
      have hn1 := HPL.out.2.1 f
      have hn3 := HPL.out.2.2.1 f
      rw [HKK.out] at hn1 hn3
      have hcase : (j = 1 ∧ k ≤ 0) ∨ j = 2 ∨ (j = 3 ∧ R.length ≤ k) := by
       have h := HJF.out
       rcases Nat.lt_or_ge (J f) 2 with a | a
       ·left; exact ⟨by omega, by have := hn1 (by omega); omega⟩
       ·rcases Nat.lt_or_ge (J f) 3 with c | c
        ·right; left; omega
        ·right; right; exact ⟨by omega, by have := hn3 (by omega); omega⟩
      have CG : Hid (∀ g, g < f → RowAt z64 62 w5 wo.heap.size (T.set f j) → (∀ g, g < f + 1 → (T.set f j)[g]? = some (J g : Int)) → (T.set f j).length = 16 → w5.cell? ⟨wo.heap.size, g, none⟩ = some (.int .i64 (J g : Int))) := by
       intro g hg h1 h2 h3
       have h4 := RowAt.cell (k := g) h1 (by omega)
       have h5 := h2 g (by omega)
       rw [List.getElem?_eq_getElem (by omega), Option.some.injEq] at h5
       rw [h5] at h4
       exact h4
      clear hy hT1 hT2 hT3 hT4 HT HC hx hjr hn1 hn3
      rcases hcase with ⟨rfl, hk⟩ | rfl | ⟨rfl, hk⟩
      ·have hk1 : (k : Int) ≤ 0 := by omega
       have hk2 : decide ((0 : Int) < (k : Int)) = false := by simp; omega
       clear hk
       go_wp2_with fail
       go_loopw [12] (fun gv wq => ∃ g : Nat, g ≤ f ∧ gv = .int .i64 g ∧ wq = w5) (fun gv wq => f - (intOf gv).toNat)
       case atStart => exact ⟨0, by omega, rfl, rfl⟩
       case round =>
        obtain ⟨g, hg, rfl, hwq⟩ := hrel
        replace hwq := hwq.symm
        subst hwq
        by_cases hgf : g < f
        ·have hti2 : (g : Int) < (f : Int) := by omega
         obtain ⟨b, hb⟩ : ∃ b, (bits .and .i64 (g : Int) (f : Int) == (g : Int)) = b := ⟨_, rfl⟩
         obtain ⟨x, hx⟩ : ∃ x : Int, (J g : Int) = x := ⟨_, rfl⟩
         have cg := CG.out g hgf HT5.out HTV.out HTN.out
         rw [hx] at cg
         cases b with
         | false =>
          clear hx
          go_wp2_with fail
          go_roundw
          case rel => exact ⟨g + 1, by omega, by go_num, trivial⟩
          case measure => simp [intOf]; omega
         | true =>
          have hor : x = 2 ∨ x = 1 := by
           by_cases h2 : J g = 2
           ·left; omega
           ·right; have h := HPL.out.2.2.2 g f hgf hlt hb h2; have h3 := HJF.out; omega
          clear hx
          rcases hor with rfl | rfl
          all_goals
           go_wp2_with fail
           go_roundw
           case rel => exact ⟨g + 1, by omega, by go_num, trivial⟩
           case measure => simp [intOf]; omega
        ·have hti2 : ¬ (g : Int) < (f : Int) := by omega
         go_wp2_with fail
         go_roundw
         case rel =>
          have HTD : Told J w5 wo.heap.size (f + 1) := ⟨_, HTN.out, HTV.out, HT5.out⟩
          first
           | exact ⟨f + 1, by omega, by go_num, HTD, HX5⟩
           | exact ⟨f + 1, by omega, by go_num, HTD⟩
           | exact ⟨⟨f + 1, by omega, by go_num, HTD⟩, HX5⟩
           | skip
         case measure => simp [intOf]; omega
      ·skip
       go_wp2_with fail
       go_loopw [12] (fun gv wq => ∃ g : Nat, g ≤ f ∧ gv = .int .i64 g ∧ wq = w5) (fun gv wq => f - (intOf gv).toNat)
       case atStart => exact ⟨0, by omega, rfl, rfl⟩
       case round =>
        obtain ⟨g, hg, rfl, hwq⟩ := hrel
        replace hwq := hwq.symm
        subst hwq
        by_cases hgf : g < f
        ·have hti2 : (g : Int) < (f : Int) := by omega
         obtain ⟨b, hb⟩ : ∃ b, (bits .and .i64 (g : Int) (f : Int) == (g : Int)) = b := ⟨_, rfl⟩
         obtain ⟨x, hx⟩ : ∃ x : Int, (J g : Int) = x := ⟨_, rfl⟩
         have cg := CG.out g hgf HT5.out HTV.out HTN.out
         rw [hx] at cg
         cases b with
         | false =>
          clear hx
          go_wp2_with fail
          go_roundw
          case rel => exact ⟨g + 1, by omega, by go_num, trivial⟩
          case measure => simp [intOf]; omega
         | true =>
          have hor : x = 2 ∨ x = 2 := by
           by_cases h2 : J g = 2
           ·left; omega
           ·right; have h := HPL.out.2.2.2 g f hgf hlt hb h2; have h3 := HJF.out; omega
          clear hx
          rcases hor with rfl | rfl
          all_goals
           go_wp2_with fail
           go_roundw
           case rel => exact ⟨g + 1, by omega, by go_num, trivial⟩
           case measure => simp [intOf]; omega
        ·have hti2 : ¬ (g : Int) < (f : Int) := by omega
         go_wp2_with fail
         go_roundw
         case rel =>
          have HTD : Told J w5 wo.heap.size (f + 1) := ⟨_, HTN.out, HTV.out, HT5.out⟩
          first
           | exact ⟨f + 1, by omega, by go_num, HTD, HX5⟩
           | exact ⟨f + 1, by omega, by go_num, HTD⟩
           | exact ⟨⟨f + 1, by omega, by go_num, HTD⟩, HX5⟩
           | skip
         case measure => simp [intOf]; omega
      ·have hk1 : (R.length : Int) ≤ (k : Int) := by omega
       have hk2 : decide ((k : Int) < (R.length : Int)) = false := by simp; omega
       clear hk
       go_wp2_with fail
       go_loopw [12] (fun gv wq => ∃ g : Nat, g ≤ f ∧ gv = .int .i64 g ∧ wq = w5) (fun gv wq => f - (intOf gv).toNat)
       case atStart => exact ⟨0, by omega, rfl, rfl⟩
       case round =>
        obtain ⟨g, hg, rfl, hwq⟩ := hrel
        replace hwq := hwq.symm
        subst hwq
        by_cases hgf : g < f
        ·have hti2 : (g : Int) < (f : Int) := by omega
         obtain ⟨b, hb⟩ : ∃ b, (bits .and .i64 (g : Int) (f : Int) == (g : Int)) = b := ⟨_, rfl⟩
         obtain ⟨x, hx⟩ : ∃ x : Int, (J g : Int) = x := ⟨_, rfl⟩
         have cg := CG.out g hgf HT5.out HTV.out HTN.out
         rw [hx] at cg
         cases b with
         | false =>
          clear hx
          go_wp2_with fail
          go_roundw
          case rel => exact ⟨g + 1, by omega, by go_num, trivial⟩
          case measure => simp [intOf]; omega
         | true =>
          have hor : x = 2 ∨ x = 3 := by
           by_cases h2 : J g = 2
           ·left; omega
           ·right; have h := HPL.out.2.2.2 g f hgf hlt hb h2; have h3 := HJF.out; omega
          clear hx
          rcases hor with rfl | rfl
          all_goals
           go_wp2_with fail
           go_roundw
           case rel => exact ⟨g + 1, by omega, by go_num, trivial⟩
           case measure => simp [intOf]; omega
        ·have hti2 : ¬ (g : Int) < (f : Int) := by omega
         go_wp2_with fail
         go_roundw
         case rel =>
          have HTD : Told J w5 wo.heap.size (f + 1) := ⟨_, HTN.out, HTV.out, HT5.out⟩
          first
           | exact ⟨f + 1, by omega, by go_num, HTD, HX5⟩
           | exact ⟨f + 1, by omega, by go_num, HTD⟩
           | exact ⟨⟨f + 1, by omega, by go_num, HTD⟩, HX5⟩
           | skip
         case measure => simp [intOf]; omega
     ·have hti : ¬ (f : Int) < 16 := by omega
      go_wp2_with fail
      go_at_call 14
      refine (known_is wr).mono ?_
      rintro e wE ⟨rfl, hxE⟩
      have HXE : Hid (Ex w wE) := (HX9.out.trans (HX9f.out.trans hxE) : Ex w wE)
      clear hxE
      go_wp2_with fail
      go_ret
      exact ⟨rfl, HXE.out⟩
end Go.Proofs.Ytibnhjfeepdddaa.pruneSound
