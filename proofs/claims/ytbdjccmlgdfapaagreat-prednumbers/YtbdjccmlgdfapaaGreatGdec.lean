/-
  The document's own Decode.
-/
import Derived.Test.YtbdjccmlgdfapaaGreatGpart
import Derived.Test.YtbdjccmlgdfapaaGreatGrt
import Derived.Test.YtbdjccmlgdfapaaGreatLdec
namespace Go.Proofs.YtbdjccmlgdfapaaGreat
open Go.RowKit
set_option linter.unusedVariables false
set_option linter.unusedSimpArgs false
/-- What is read, and how it is refused. -/
theorem Pd.dec_of {b : List UInt8} {p : Int} {P : Pr} {s : RS} (h : Pd.Rel4 (P, s) (Pd.rd b 6 p 0)) : (s.y ≠ 0 → Pd.dec b p = (Pd.zero, 0, s.y)) ∧ (s.y = 0 → Pd.Fine P ∧ Pd.size P ≤ 40 ∧ ∃ k : Nat, s.at' = k ∧ Pd.dec b p = if Pd.right P = true then (P, k, 0) else (Pd.zero, 0, 12)) := by
 obtain ⟨h1, h2⟩ := h
 have hl := Pd.lpart_rd (b := b) 6 p 0
 have hf := Pd.lpart_fine (b := b) 6 ⟨p, 0, 0⟩
 have hz := Pd.rd_sz (b := b) 6 p 0
 have hc := Pd.rd_c (b := b) 6 p 0
 by_cases e : (Pd.rd b 6 p 0).2.2.2 = 0
 ·have g := h2 e
  simp only [Prod.mk.injEq] at g
  obtain ⟨g1, g2⟩ := g
  have hl2 := hl.2 e
  rw [hl2] at hf
  simp only at hf
  have hz := hz e
  have hc := hc e
  refine ⟨fun hn => absurd (by rw [g2]) hn, fun _ => ?_⟩
  rw [g1, g2]
  refine ⟨hf, by omega, _, rfl, ?_⟩
  unfold Pd.dec
  rw [if_neg (by simpa using e)]
 ·have g := h1 e
  simp only at g
  refine ⟨fun _ => ?_, fun hn => absurd (g.symm.trans hn) e⟩
  unfold Pd.dec
  rw [if_pos e, g]
set_option maxHeartbeats 16000000 in
set_option maxRecDepth 100000 in
theorem rdecode_is (a : Option Addr) (n cap : Nat) (b : List UInt8) (p : Int) (w : World) (hB : Byt w a cap b) (hn : n = b.length) (q : Pr) (k e0 : Nat) (hr : Pd.dec b p = (q, k, e0)) :
  Calls Tryz.prog 22 #[.slice a n cap, .int .i64 p] w fun x w' => ∃ u, x = .returned (.tuple #[pvv u, .int .i64 (k : Int), .int .i64 (e0 : Int)]) ∧ Pd.Lay (fun g => w.heap.size ≤ g) q w' u ∧ Ex w w' := by
 subst hn
 obtain ⟨W, hW⟩ : ∃ W, (w.alloc pb0).alloc (.cells #[.slice a b.length cap, .int .i64 p, .int .i64 0, .int .i64 0] 78) = W := ⟨_, rfl⟩
 have hX1 : Ex w (w.alloc pb0) := (Below.refl _ _).alloc (Nat.le_refl _) _
 have hXW : Ex w W := by rw [← hW]; exact Below.alloc hX1 (by simp) _
 have hszW : W.heap.size = w.heap.size + 2 := by rw [← hW]; simp
 have hRA : QAt W (w.heap.size + 1) a b.length cap ⟨p, 0, 0⟩ := by
  rw [← hW]
  have h := heap_alloc_new (w.alloc pb0) (.cells #[.slice a b.length cap, .int .i64 p, .int .i64 0, .int .i64 0] 78)
  rw [show (w.alloc pb0).heap.size = w.heap.size + 1 by simp] at h
  exact h
 have HR : Hid (Qdr W (w.heap.size + 1) a cap b ⟨p, 0, 0⟩) := (⟨hRA, hB.below hXW, fun h0 q off e => by
  obtain ⟨q', off', e', hc⟩ := hB.2.2.2 0 h0
  rw [e] at e'
  cases e'
  have := World.block_lt_of_cell? w _ hc
  simp at this
  omega⟩ : Qdr W (w.heap.size + 1) a cap b ⟨p, 0, 0⟩)
 have HPr : Hid (PAt W w.heap.size PV.zero) := (by rw [← hW]; exact (PAt.new w PV.zero).alloc _ : PAt _ _ _)
 have HC : Hid (Calls Tryz.prog 51 #[.pointer (some ⟨w.heap.size + 1, 0, none⟩), .int .i64 1] W (RPo b 6 (w.heap.size + 1) a cap p 0 W)) := (rpred_is b 6 (Nat.le_refl _) (w.heap.size + 1) a cap p 0 1 W HR.out (by decide) (by decide) : Calls _ _ _ _ _)
 have HDR : Hid (Pd.dec b p = (q, k, e0)) := hr
 have HXW : Hid (Ex w W) := hXW
 have HW : Hid ((w.alloc pb0).alloc (.cells #[.slice a b.length cap, .int .i64 p, .int .i64 0, .int .i64 0] 78) = W) := hW
 clear hB hr hX1 hXW hRA hW
 go_enter Tryz.func22, Tryz.ntmps22
 go_wp2_with fail
 go_at_call 51
 rw [HW.out]
 refine Calls.mono HC.out ?_
 rintro e w1 ⟨u, P, ⟨at9, c9, y9⟩, rfl, hL1, hR1, hg1, hrel⟩
 have hdo := Pd.dec_of hrel
 simp only at hdo
 have HDO : Hid _ := hdo
 have hsz1 : w.heap.size + 2 ≤ w1.heap.size := by rw [← hszW]; exact hg1.size
 obtain ⟨w2, hw2⟩ : ∃ w2, w1.alloc (pb u) = w2 := ⟨_, rfl⟩
 have hX2 : Ex w1 w2 := by rw [← hw2]; exact (Below.refl _ _).alloc (Nat.le_refl _) _
 have hX1 : Ex w w1 := Below.grown HXW.out hg1 HXW.out.size (fun j hj => by simp at hj; omega)
 have HX2 : Hid (Ex w w2) := (hX1.trans hX2 : Ex w w2)
 have HPr2 : Hid (PAt w2 w.heap.size PV.zero) := ((HPr.out.far hg1 (by simp)).below hX2 : PAt _ _ _)
 have HPu2 : Hid (PAt w2 w1.heap.size u) := (by rw [← hw2]; exact PAt.new w1 u : PAt _ _ _)
 have HR2 : Hid (QAt w2 (w.heap.size + 1) a b.length cap ⟨at9, c9, y9⟩) := (hR1.1.below hX2 : QAt _ _ _ _ _ _)
 have HL2 : Hid (Pd.Lay (fun g => W.heap.size ≤ g) P w2 u) := (Pd.Lay.below _ hL1 hX2 : Pd.Lay _ _ _ _)
 have hsz2 : w.heap.size + 2 ≤ w2.heap.size := Nat.le_trans hsz1 hX2.size
 obtain ⟨r0, r1, r2, r3⟩ := HR2.out.all
 obtain ⟨s1, s2, s3⟩ := HR2.out.fro
 simp only at r1 r2 r3
 obtain ⟨g0, g1, g2, g3, g4, g5, g6⟩ := HPu2.out.all
 clear hL1 hR1 hg1 hX1 hX2 HC HR HPr hdo hrel
 simp only [pvv, sv]
 by_cases hy : y9 = 0
 ·subst hy
  obtain ⟨hF, hPs, kk, hkk, hde⟩ := HDO.out.2 rfl
  obtain ⟨o, ho⟩ : ∃ o, Pd.right P = o := ⟨_, rfl⟩
  have HCR : Hid (Calls Tryz.prog 10 #[pvv u] w2 fun e w' => e = .returned (.bool o) ∧ Ex w2 w') := rRight_is P u w2 (Pd.Lay.mono (fun _ _ => trivial) _ HL2.out) hF (by omega) o ho
  rw [ho, HDR.out] at hde
  have HDE : Hid _ := hde
  have HKK : Hid (at9 = (kk : Int)) := hkk
  clear hF hPs hkk hde HDO
  go_wp2_with fail
  go_at_call 10
  refine Calls.mono HCR.out ?_
  rintro e w3 ⟨rfl, hx3⟩
  have HX3 : Hid (Ex w w3) := (HX2.out.trans hx3 : Ex w w3)
  have HPr3 : Hid (PAt w3 w.heap.size PV.zero) := (HPr2.out.below hx3 : PAt _ _ _)
  have HPu3 : Hid (PAt w3 w1.heap.size u) := (HPu2.out.below hx3 : PAt _ _ _)
  have HR3 : Hid (QAt w3 (w.heap.size + 1) a b.length cap ⟨at9, c9, 0⟩) := (HR2.out.below hx3 : QAt _ _ _ _ _ _)
  have HL3 : Hid (Pd.Lay (fun g => W.heap.size ≤ g) P w3 u) := (Pd.Lay.below _ HL2.out hx3 : Pd.Lay _ _ _ _)
  have hsz3 : w.heap.size + 2 ≤ w3.heap.size := Nat.le_trans hsz2 hx3.size
  obtain ⟨r0', r1', r2', r3'⟩ := HR3.out.all
  obtain ⟨s1', s2', s3'⟩ := HR3.out.fro
  simp only at r1' r2' r3'
  obtain ⟨z0, z1, z2, z3, z4, z5, z6⟩ := HPr3.out.all
  obtain ⟨y0, y1, y2, y3, y4, y5, y6⟩ := HPr3.out.fro
  clear hx3 HCR r0 r1 r2 r3 s1 s2 s3 g0 g1 g2 g3 g4 g5 g6
  cases o with
  | true =>
   have HQ : Hid (P = q ∧ at9 = (k : Int) ∧ 0 = e0) := (by
    have h := HDE.out
    rw [if_pos rfl] at h
    simp only [Prod.mk.injEq] at h
    exact ⟨h.1.symm, by rw [HKK.out, h.2.1], h.2.2.symm⟩ : P = q ∧ at9 = (k : Int) ∧ 0 = e0)
   clear HDE HDR z0 z1 z2 z3 z4 z5 z6 y0 y1 y2 y3 y4 y5 y6
   go_wp2_with fail
   obtain ⟨w4, hw4⟩ : ∃ w4, pset w3.drew w.heap.size u = w4 := ⟨_, rfl⟩
   have hD : Ex w3 w3.drew := Ex.drew w3
   have HP4 : Hid (PAt w4 w.heap.size u) := (by rw [← hw4]; exact (HPr3.out.below hD).store u : PAt _ _ _)
   have hg4 : w3.drew.grownBy w4 (some w.heap.size) := by rw [← hw4]; exact grown_pset _ _ _
   have HX4 : Hid (Ex w w4) := (Below.grown (HX3.out.trans hD) hg4 (HX3.out.trans hD).size (fun j hj => by simp at hj; omega) : Ex w w4)
   have HL4 : Hid (Pd.Lay (fun g => w.heap.size ≤ g) P w4 u) := (Pd.Lay.mono (fun g hg => by omega) _ (Pd.Lay.far (fun g hg e => by simp at e; omega) _ (Pd.Lay.below _ HL3.out hD) hg4) : Pd.Lay _ _ _ _)
   have HRD : Hid (QAt w3.drew (w.heap.size + 1) a b.length cap ⟨at9, c9, 0⟩ ∧ PAt w3.drew w1.heap.size u) := (⟨HR3.out.below hD, HPu3.out.below hD⟩ : _ ∧ _)
   have HR4 : Hid (QAt w4 (w.heap.size + 1) a b.length cap ⟨at9, c9, 0⟩ ∧ PAt w4 w1.heap.size u) := (⟨HRD.out.1.far hg4 (by simp), HRD.out.2.far hg4 (by simp; omega)⟩ : _ ∧ _)
   have HPD : Hid (PAt w3.drew w.heap.size PV.zero) := (HPr3.out.below hD : PAt _ _ _)
   have hre : ∀ u : World, u = u := fun _ => rfl
   refine Rg.Fr.wp_one 5 w4 (fun wx => QAt wx (w.heap.size + 1) a b.length cap ⟨at9, c9, 0⟩ ∧ PAt wx w1.heap.size u) [.inl (pvv u), .inl (Value.pointer (some ⟨w.heap.size + 1, 0, none⟩)), .inl (Value.pointer (some ⟨w.heap.size + 1, 0, none⟩)), .inl (Value.pointer (some ⟨w.heap.size + 1, 1, none⟩)), .inl (Value.int .i64 at9), .inl undef, .inl (Value.int .i64 at9), .inl (Value.int .i64 0)] 34 (by kernel_rfl) rfl (by kernel_rfl) (by kernel_rfl) trivial _ rfl rfl HRD.out HR4.out ?rx ?hG ?hF
   case rx =>
    intro ρ ha
    have h1 : ρ (.tmp 4) = .pointer (some ⟨w.heap.size, 0, none⟩) := ha (.tmp 4) (by simp [Op.operands])
    have h2 : ρ (.tmp 29) = pvv u := ha (.tmp 29) (by simp [Op.operands])
    rw [← hw4]
    exact run_store25 ρ _ _ _ _ PV.zero _ rfl h1 h2 HPD.out
   case hG =>
    refine ⟨fun _ => Rg.good_load hre rfl rfl rfl (fun wx hC => hC.2.loadI), ?_⟩
    refine ⟨fun _ => Rg.good_move hre rfl rfl rfl, ?_⟩
    refine ⟨fun _ => Rg.good_nil hre rfl rfl rfl, ?_⟩
    refine ⟨fun _ => Rg.good_field hre rfl rfl rfl (fun wx hC => by go_simp), ?_⟩
    refine ⟨fun _ => Rg.good_load hre rfl rfl rfl (fun wx hC => by have hz := hC.1.all.2.1; simp only at hz; go_simp), ?_⟩
    refine ⟨fun h => absurd rfl h, ?_⟩
    refine ⟨fun _ => Rg.good_assign hre rfl rfl rfl, ?_⟩
    refine ⟨fun _ => Rg.good_assign hre rfl rfl rfl, ?_⟩
    exact trivial
   case hF =>
    simp only [Rg.later, Act.put, List.setIfInBounds_toArray, List.set_cons_succ, List.set_cons_zero]
    clear hw4 hg4 hD
    go_wp2_with fail
    refine bodyPost_ret (v := .tuple #[pvv u, .int .i64 at9, .int .i64 0]) (res_pred3 Tryz.results22 rfl rfl rfl HP4.out) rfl ⟨u, ?_, ?_, HX4.out⟩
    ·rw [← HQ.out.2.1, ← HQ.out.2.2]; rfl
    ·rw [← HQ.out.1]; exact HL4.out
  | false =>
   have HQ : Hid (Pd.zero = q ∧ 0 = k ∧ 12 = e0) := (by
    have h := HDE.out
    rw [if_neg (by simp)] at h
    simp only [Prod.mk.injEq] at h
    exact ⟨h.1.symm, h.2.1.symm, h.2.2.symm⟩ : Pd.zero = q ∧ 0 = k ∧ 12 = e0)
   clear HDE HDR
   simp only [PV.zero] at z0 z1 z2 z3 z4 z5 z6
   go_wp2_with fail
   have hP9 := HPr3.out.store PV.zero
   have hg9 : w3.grownBy (pset w3 w.heap.size PV.zero) (some w.heap.size) := grown_pset _ _ _
   refine bodyPost_ret (v := .tuple #[pvv PV.zero, .int .i64 0, .int .i64 (12 : Int)]) (res_pred3 Tryz.results22 rfl rfl rfl hP9) rfl ⟨PV.zero, ?_, ?_, ?_⟩
   ·rw [← HQ.out.2.1, ← HQ.out.2.2]; rfl
   ·rw [← HQ.out.1]; exact lay_zeroD _ _
   ·exact Below.grown HX3.out hg9 HX3.out.size (fun j hj => by simp at hj; omega)
 ·have t1 : ((y9 : Int) == 0) = false := beq_eq_false_iff_ne.2 (by omega)
  have t2 : ((y9 : Int) != 0) = true := by simp [bne, t1]
  have HQ : Hid (Pd.zero = q ∧ 0 = k ∧ y9 = e0) := (by
   have h := HDO.out.1 hy
   rw [HDR.out] at h
   simp only [Prod.mk.injEq] at h
   exact ⟨h.1.symm, h.2.1.symm, h.2.2.symm⟩ : Pd.zero = q ∧ 0 = k ∧ y9 = e0)
  clear HDO HDR
  go_wp2_with fail
  obtain ⟨w4, hw4⟩ : ∃ w4, pset w2.drew w.heap.size PV.zero = w4 := ⟨_, rfl⟩
  have hD : Ex w2 w2.drew := Ex.drew w2
  have HP4 : Hid (PAt w4 w.heap.size PV.zero) := (by rw [← hw4]; exact (HPr2.out.below hD).store PV.zero : PAt _ _ _)
  have hg4 : w2.drew.grownBy w4 (some w.heap.size) := by rw [← hw4]; exact grown_pset _ _ _
  have HX4 : Hid (Ex w w4) := (Below.grown (HX2.out.trans hD) hg4 (HX2.out.trans hD).size (fun j hj => by simp at hj; omega) : Ex w w4)
  have HR4 : Hid (QAt w4 (w.heap.size + 1) a b.length cap ⟨at9, c9, y9⟩) := ((HR2.out.below hD).far hg4 (by simp) : QAt _ _ _ _ _ _)
  have HRD : Hid (QAt w2.drew (w.heap.size + 1) a b.length cap ⟨at9, c9, y9⟩) := (HR2.out.below hD : QAt _ _ _ _ _ _)
  have HPD : Hid (PAt w2.drew w.heap.size PV.zero) := (HPr2.out.below hD : PAt _ _ _)
  have hre : ∀ u : World, u = u := fun _ => rfl
  refine Rg.Fr.wp_one 5 w4 (fun wx => QAt wx (w.heap.size + 1) a b.length cap ⟨at9, c9, y9⟩) [.inl (pvv PV.zero), .inl (Value.pointer (some ⟨w.heap.size + 1, 0, none⟩)), .inl (Value.pointer (some ⟨w.heap.size + 1, 0, none⟩)), .inl (Value.pointer (some ⟨w.heap.size + 1, 3, none⟩)), .inl (Value.int .i64 (y9 : Int)), .inl undef, .inl (Value.int .i64 0), .inl (Value.int .i64 (y9 : Int))] 34 (by kernel_rfl) rfl (by kernel_rfl) (by kernel_rfl) trivial _ rfl rfl HRD.out HR4.out ?rx ?hG ?hF
  case rx =>
   intro ρ ha
   have h1 : ρ (.tmp 4) = .pointer (some ⟨w.heap.size, 0, none⟩) := ha (.tmp 4) (by simp [Op.operands])
   have h2 : ρ (.tmp 20) = pvv PV.zero := ha (.tmp 20) (by simp [Op.operands])
   rw [← hw4]
   exact run_store25 ρ _ _ _ _ PV.zero _ rfl h1 h2 HPD.out
  case hG =>
   refine ⟨fun _ => Rg.good_build0 rfl rfl, ?_⟩
   refine ⟨fun _ => Rg.good_move hre rfl rfl rfl, ?_⟩
   refine ⟨fun _ => Rg.good_nil hre rfl rfl rfl, ?_⟩
   refine ⟨fun _ => Rg.good_field hre rfl rfl rfl (fun wx hC => by go_simp), ?_⟩
   refine ⟨fun _ => Rg.good_load hre rfl rfl rfl (fun wx hC => by have hz := (show QAt wx (w.heap.size + 1) a b.length cap ⟨at9, c9, y9⟩ from hC).all.2.2.2; simp only at hz; go_simp), ?_⟩
   refine ⟨fun h => absurd rfl h, ?_⟩
   refine ⟨fun _ => Rg.good_assign hre rfl rfl rfl, ?_⟩
   refine ⟨fun _ => Rg.good_assign hre rfl rfl rfl, ?_⟩
   exact trivial
  case hF =>
   simp only [Rg.later, Act.put, List.setIfInBounds_toArray, List.set_cons_succ, List.set_cons_zero]
   clear hw4 hg4 hD
   go_wp2_with fail
   refine bodyPost_ret (v := .tuple #[pvv PV.zero, .int .i64 0, .int .i64 (y9 : Int)]) (res_pred3 Tryz.results22 rfl rfl rfl HP4.out) rfl ⟨PV.zero, ?_, ?_, HX4.out⟩
   ·rw [← HQ.out.2.1, ← HQ.out.2.2]; rfl
   ·rw [← HQ.out.1]; exact lay_zeroD _ _
end Go.Proofs.YtbdjccmlgdfapaaGreat
