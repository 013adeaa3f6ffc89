/-
  The walk of RowBack.
-/
import Derived.Test.YtghnbohplonhoaaRknown
import Derived.Test.YtghnbohplonhoaaRcells
import Derived.Test.YtghnbohplonhoaaRstore
import Derived.Test.YtghnbohplonhoaaLone
import Derived.Test.YtghnbohplonhoaaRrgrow
namespace Go.Proofs.Ytghnbohplonhoaa
open Go.RowKit
set_option linter.unusedVariables false
theorem load_at {w : World} {g : Nat} {t q : Int} {p : Option Addr} {n c : Nat} (h : LAt w g ⟨t, q, p, n, c⟩) : (Instr.loadAt 28 (.pointer (some ⟨g, 0, none⟩))).run Try.prog w = .ok (rvv ⟨t, q, p, n, c⟩) w := loadI_row h.all.1 h.all.2.1 h.all.2.2
theorem LAt.lother {w : World} {g g' : Nat} {v v' : RV} (h : LAt w g v) (hne : g ≠ g') : LAt (lset w g' v') g v := ((h.other hne).other hne).other hne
theorem lset_cell {w : World} {g b off : Nat} {v : RV} {u : Value} (h : w.cell? ⟨b, off, none⟩ = some u) (hne : b ≠ g) : (lset w g v).cell? ⟨b, off, none⟩ = some u := by
  have e : ∀ (w : World) (j : Nat) (x : Value), w.cell? ⟨b, off, none⟩ = some u → (w.setCell ⟨g, j, none⟩ x).cell? ⟨b, off, none⟩ = some u := fun w j x h => by
    exact (grown_set w g j x).cell h (by simpa using hne)
  exact e _ _ _ (e _ _ _ (e _ _ _ h))
theorem str_same {a b : List UInt8} {z : Bool} (h : z = true ↔ a = b) : ((str a).toList == (str b).toList) = z := by
  rw [str_toList, str_toList, Bool.eq_iff_iff, h]
  simp
theorem Rw.right_ok {r : Rw} (h : Rw.right r = true) (hn : ∀ c ∈ r.c, In64 c.n) : RwOk r := by
  obtain ⟨⟨h1, h2, h3, h4, _⟩, hc, _⟩ := (Rw.right_iff r).1 h
  refine ⟨⟨by omega, by omega⟩, ⟨by omega, by omega⟩, fun c hm => ?_⟩
  have hk := hc c hm
  unfold Rw.celOk at hk
  rw [Bool.and_eq_true, Rw.name_iff, Rw.form_iff] at hk
  unfold maxLen
  refine ⟨by omega, ?_, ?_, hn c hm⟩
  · rcases hk.2 with ⟨_, e⟩ | ⟨_, _, e⟩
    · rw [e]; simp
    · omega
  · rcases hk.2 with ⟨e, _⟩ | ⟨e, _⟩
    · rw [e]; exact ⟨by omega, by omega⟩
    · rw [e]; exact ⟨by omega, by omega⟩
theorem Rw.short_two (a b : Rw) : Rw.short [a, b] 2 = [Rw.shr a, Rw.shr b] := rfl
end Go.Proofs.Ytghnbohplonhoaa
namespace Go.Proofs.Ytghnbohplonhoaa.rowBack
open Go.RowKit Go.Proofs.Ytghnbohplonhoaa
set_option linter.unusedVariables false
set_option linter.unusedSimpArgs false
set_option maxRecDepth 100000 in
set_option maxHeartbeats 8000000 in
theorem walk (v0 : RV) (r0 : Rw) (v1 : RV) (r1 : Rw) (p2 : Option Addr) (c2 : Nat) (l2 : List UInt8) (p3 : Option Addr) (c3 : Nat) (l3 : List UInt8) (w : World) (b0 : RvOk w v0 r0) (m0 : RowOk r0) (n0 : r0.c.length ≤ 2932031007402) (b1 : RvOk w v1 r1) (m1 : RowOk r1) (n1 : r1.c.length ≤ 2932031007402) (b2 : Byt w p2 c2 l2) (w2 : l2.length ≤ 140737488351232) (b3 : Byt w p3 c3 l3) (w3 : l3.length ≤ 140737488351232) :
    Calls Try.prog 5 #[rvv v0, rvv v1, .slice p2 l2.length c2, .slice p3 l3.length c3] w fun e w' => e = .returned (.bool true) ∧ Below w.heap.size w w' := by
  obtain ⟨t0, q0, pa, la, ca⟩ := v0
  obtain ⟨ht, hq, hl0, hB⟩ := b0
  simp only at ht hq hl0 hB
  subst ht; subst hq; subst hl0
  obtain ⟨t1, q1, pb, lb, cb⟩ := v1
  obtain ⟨ht, hq, hl1, hB1⟩ := b1
  simp only at ht hq hl1 hB1
  subst ht; subst hq; subst hl1
  have HB : Hid (RdC w pa ca r0.c) := hB
  have HB1 : Hid (RdC w pb cb r1.c) := hB1
  have HB2 : Hid (Byt w p2 c2 l2) := b2
  have HB3 : Hid (Byt w p3 c3 l3) := b3
  have hbd := hB.1
  have hbd2 := hB.2.1
  have hbe := hB1.1
  have hbe2 := hB1.2.1
  have hcl2 := b2.1
  have hcm2 := b2.2.1
  have hcl3 := b3.1
  have hcm3 := b3.2.1
  unfold maxLen at hbd2 hbe2 hcm2 hcm3
  obtain ⟨r, hr⟩ : ∃ r, Rw.shr r0 = r := ⟨_, rfl⟩
  obtain ⟨o, ho⟩ : ∃ o, Rw.shr r1 = o := ⟨_, rfl⟩
  have HSh : Hid (Rw.short [r0, r1] 2 = [r, o]) := (by rw [← hr, ← ho]; rfl : Rw.short [r0, r1] 2 = [r, o])
  have HOk : Hid (RwOk r) := (by rw [← hr]; exact Rw.shr_ok m0 : RwOk r)
  have HOo : Hid (RwOk o) := (by rw [← ho]; exact Rw.shr_ok m1 : RwOk o)
  have hrl : r.c.length ≤ 10 := by rw [← hr]; exact Rw.shr_len r0
  have hol : o.c.length ≤ 10 := by rw [← ho]; exact Rw.shr_len r1
  obtain ⟨wA, hwA⟩ : ∃ wA, (w.alloc (Obj.cells #[Value.int IntKind.i64 r0.t, Value.int IntKind.i64 r0.q, Value.slice pa r0.c.length ca] 28)).alloc (Obj.cells #[Value.int IntKind.i64 r1.t, Value.int IntKind.i64 r1.q, Value.slice pb r1.c.length cb] 28) = wA := ⟨_, rfl⟩
  have hsA : wA.heap.size = w.heap.size + 2 := by rw [← hwA]; simp
  have HXA : Hid (Ex w wA) := (by rw [← hwA]; exact ((Below.refl _ _).alloc (Nat.le_refl _) _).alloc (by simp) _ : Ex w wA)
  have HLA : Hid (LAt wA w.heap.size ⟨r0.t, r0.q, pa, r0.c.length, ca⟩) := (by rw [← hwA]; exact (LAt.new w ⟨r0.t, r0.q, pa, r0.c.length, ca⟩).alloc _ : LAt wA w.heap.size ⟨r0.t, r0.q, pa, r0.c.length, ca⟩)
  have HLB : Hid (LAt wA (w.heap.size + 1) ⟨r1.t, r1.q, pb, r1.c.length, cb⟩) := (by rw [← hwA]; exact LAt.newat _ _ ⟨r1.t, r1.q, pb, r1.c.length, cb⟩ (by simp) : LAt wA (w.heap.size + 1) ⟨r1.t, r1.q, pb, r1.c.length, cb⟩)
  have HWA : Hid ((w.alloc (Obj.cells #[Value.int IntKind.i64 r0.t, Value.int IntKind.i64 r0.q, Value.slice pa r0.c.length ca] 28)).alloc (Obj.cells #[Value.int IntKind.i64 r1.t, Value.int IntKind.i64 r1.q, Value.slice pb r1.c.length cb] 28) = wA) := hwA
  obtain ⟨wB, hwB⟩ : ∃ wB, wA.alloc (Obj.cells #[Value.int IntKind.i64 r0.t, Value.int IntKind.i64 r0.q, Value.slice pa r0.c.length ca, Value.int IntKind.i64 r1.t, Value.int IntKind.i64 r1.q, Value.slice pb r1.c.length cb] 28) = wB := ⟨_, rfl⟩
  have HXB : Hid (Ex wA wB) := (by rw [← hwB]; exact (Below.refl _ _).alloc (Nat.le_refl _) _ : Ex wA wB)
  have HRB : Hid (RdR wB (some ⟨w.heap.size + 2, 0, none⟩) 2 [r0, r1]) := (by
    rw [← hsA]
    exact ⟨[⟨r0.t, r0.q, pa, r0.c.length, ca⟩, ⟨r1.t, r1.q, pb, r1.c.length, cb⟩], (by rw [← hwB]; exact RdW.laid (t := 28) rc_len wA [⟨r0.t, r0.q, pa, r0.c.length, ca⟩, ⟨r1.t, r1.q, pb, r1.c.length, cb⟩] (by simp)), EachR.append (EachR.one ⟨rfl, rfl, rfl, (HB.out.below HXA.out).below HXB.out⟩) (EachR.one ⟨rfl, rfl, rfl, (HB1.out.below HXA.out).below HXB.out⟩)⟩ : RdR wB (some ⟨w.heap.size + 2, 0, none⟩) 2 [r0, r1])
  have HWB : Hid (wA.alloc (Obj.cells #[Value.int IntKind.i64 r0.t, Value.int IntKind.i64 r0.q, Value.slice pa r0.c.length ca, Value.int IntKind.i64 r1.t, Value.int IntKind.i64 r1.q, Value.slice pb r1.c.length cb] 28) = wB) := hwB
  clear hB hB1 hr ho hwA hwB hsA b2 b3
  simp only [rvv, sv]
  go_enter Try.func5, Try.ntmps5
  go_wp2_with fail
  rw [HWA.out, HWB.out]
  refine (kshort_is _ 2 2 [r0, r1] 2 _ rfl HRB.out (by omega) (by simp; omega)).mono ?_
  rintro e w3 ⟨v, rfl, hv, hx3⟩
  rw [HSh.out] at hv
  obtain ⟨a3, cc3, rfl, hR3⟩ := hv.rd
  obtain ⟨b3, o3, p, c, he, e0, e1, e2, hcs⟩ := hR3.at (i := 0) (by simp)
  subst he
  obtain ⟨b3', o3', po, co, he, f0, f1, f2, hcs2⟩ := hR3.at (i := 1) (by simp)
  simp only [Option.some.injEq, Addr.mk.injEq, and_true] at he
  obtain ⟨rfl, rfl⟩ := he
  simp only [List.getElem_cons_zero, List.getElem_cons_succ, Nat.zero_mul, Nat.add_zero, Nat.one_mul] at e0 e1 e2 hcs f0 f1 f2 hcs2
  have hx3A : Ex wA w3 := HXB.out.trans hx3
  have HL3 : Hid (LAt w3 w.heap.size ⟨r0.t, r0.q, pa, r0.c.length, ca⟩) := HLA.out.below hx3A
  have HM3 : Hid (LAt w3 (w.heap.size + 1) ⟨r1.t, r1.q, pb, r1.c.length, cb⟩) := HLB.out.below hx3A
  have HX3 : Hid (Ex w w3) := HXA.out.trans hx3A
  have hc3 := hR3.bounds.2.1
  have hc31 := hR3.bounds.1
  simp only [List.length_cons, List.length_nil, Nat.zero_add] at hc31
  unfold maxLen at hc3
  have HCs : Hid (RdC w3 p c r.c) := hcs
  have HCo : Hid (RdC w3 po co o.c) := hcs2
  have hpc := hcs.1
  have hpc2 := hcs.2.1
  have hqc := hcs2.1
  have hqc2 := hcs2.2.1
  unfold maxLen at hpc2 hqc2
  obtain ⟨g0, g1, g2⟩ := HL3.out.fro
  obtain ⟨d0, d1, d2⟩ := HL3.out.all
  obtain ⟨k0, k1, k2⟩ := HM3.out.fro
  obtain ⟨j0, j1, j2⟩ := HM3.out.all
  simp only at d0 d1 d2 j0 j1 j2
  have hb3 := (hv.lt b3 rfl).1
  have hs3 : wB.heap.size = w.heap.size + 3 := by
    have h1 := HWB.out
    have h2 := HWA.out
    rw [← h1, ← h2]
    simp
  have hb3a : b3 ≠ w.heap.size := by omega
  have hb3b : b3 ≠ w.heap.size + 1 := by omega
  clear hv hR3 hx3 hx3A hcs hcs2 hs3 hb3
  simp only [List.length_cons, List.length_nil, Nat.zero_add]
  go_wp2_with fail
  obtain ⟨w4, hw4⟩ : ∃ w4, lset (lset w3.drew w.heap.size ⟨r.t, r.q, p, r.c.length, c⟩) (w.heap.size + 1) ⟨o.t, o.q, po, o.c.length, co⟩ = w4 := ⟨_, rfl⟩
  have hcell : ∀ wx, wx = w3.drew ∨ wx = lset w3.drew w.heap.size ⟨r.t, r.q, p, r.c.length, c⟩ ∨ wx = w4 → ∀ off u, w3.cell? ⟨b3, off, none⟩ = some u → wx.cell? ⟨b3, off, none⟩ = some u := fun wx hx off u h => by
    rcases hx with rfl | rfl | rfl
    · exact h
    · exact lset_cell h hb3a
    · rw [← hw4]; exact lset_cell (lset_cell h hb3a) hb3b
  have hL0 : LAt w3.drew w.heap.size ⟨r0.t, r0.q, pa, r0.c.length, ca⟩ := HL3.out
  have hM0 : LAt w3.drew (w.heap.size + 1) ⟨r1.t, r1.q, pb, r1.c.length, cb⟩ := HM3.out
  have hM1 : LAt (lset w3.drew w.heap.size ⟨r.t, r.q, p, r.c.length, c⟩) (w.heap.size + 1) ⟨r1.t, r1.q, pb, r1.c.length, cb⟩ := hM0.lother (by omega)
  have HL4 : Hid (LAt w4 w.heap.size ⟨r.t, r.q, p, r.c.length, c⟩) := (by rw [← hw4]; exact (hL0.store ⟨r.t, r.q, p, r.c.length, c⟩).lother (by omega) : LAt w4 w.heap.size ⟨r.t, r.q, p, r.c.length, c⟩)
  have HM4 : Hid (LAt w4 (w.heap.size + 1) ⟨o.t, o.q, po, o.c.length, co⟩) := (by rw [← hw4]; exact hM1.store ⟨o.t, o.q, po, o.c.length, co⟩ : LAt w4 (w.heap.size + 1) ⟨o.t, o.q, po, o.c.length, co⟩)
  have HC4 : Hid (RdC w4 p c r.c) := (by rw [← hw4]; exact RdC.lset (RdC.lset (w := w3.drew) HCs.out hL0 _) hM1 _ : RdC w4 p c r.c)
  have HD4 : Hid (RdC w4 po co o.c) := (by rw [← hw4]; exact RdC.lset (RdC.lset (w := w3.drew) HCo.out hL0 _) hM1 _ : RdC w4 po co o.c)
  have HX4 : Hid (Ex w w4) := (by rw [← hw4]; exact Below.lset (Below.lset (HX3.out.trans (Ex.drew _)) (Nat.le_refl _) _) (Nat.le_succ _) _ : Ex w w4)
  refine Rg.Fr.wp_pair 6 7 (by decide) (lset w3.drew w.heap.size ⟨r.t, r.q, p, r.c.length, c⟩) w4 128 (by kernel_rfl) rfl (by kernel_rfl) (by kernel_rfl) [.inl (Value.slice (some ⟨b3, o3, none⟩) 2 cc3), .inl (Value.pointer (some ⟨b3, o3, none⟩)), .inl (rvv ⟨r.t, r.q, p, r.c.length, c⟩), .inl (Value.slice (some ⟨b3, o3, none⟩) 2 cc3), .inl (Value.pointer (some ⟨b3, o3 + 3, none⟩)), .inl (rvv ⟨o.t, o.q, po, o.c.length, co⟩), .inl undef, .inl undef] (by simp) trivial _ _ rfl rfl (by kernel_rfl) rfl rfl ?rx ?ry ?hQ ?hF
  case rx =>
    intro ρ ha
    have h1 : ρ (.tmp 4) = .pointer (some ⟨w.heap.size, 0, none⟩) := ha (.tmp 4) (by simp [Op.operands])
    have h2 : ρ (.tmp 29) = rvv ⟨r.t, r.q, p, r.c.length, c⟩ := ha (.tmp 29) (by simp [Op.operands])
    simp [execOp, h1, h2, go_sem, rvv, sv, d0, d1, d2, g0, g1, g2]
    rfl
  case ry =>
    intro ρ ha
    have h1 : ρ (.tmp 5) = .pointer (some ⟨w.heap.size + 1, 0, none⟩) := ha (.tmp 5) (by simp [Op.operands])
    have h2 : ρ (.tmp 32) = rvv ⟨o.t, o.q, po, o.c.length, co⟩ := ha (.tmp 32) (by simp [Op.operands])
    obtain ⟨m0, m1, m2⟩ := hM1.all
    obtain ⟨n0, n1, n2⟩ := hM1.fro
    simp only at m0 m1 m2
    rw [← hw4]
    generalize lset w3.drew w.heap.size ⟨r.t, r.q, p, r.c.length, c⟩ = wy at m0 m1 m2 n0 n1 n2 ⊢
    simp [execOp, h1, h2, go_sem, rvv, sv, m0, m1, m2, n0, n1, n2]
  case hQ =>
    intro i1 o1 ho1 hx hy ρ wx hC ha
    rcases i1 with _ | _ | _ | _ | _ | _ | _ | _ | _
    all_goals first | (exfalso; exact hx rfl) | (exfalso; exact hy rfl) | (exfalso; clear ha; revert ho1; simp; done) | (obtain rfl := Option.some.inj ho1)
    · exact Rg.q_move rfl rfl ha
    · exact Rg.q_index rfl rfl rfl rfl ha (by go_simp)
    · exact Rg.q_load rfl rfl rfl ha (loadI_row (hcell wx hC _ _ e0) (hcell wx hC _ _ e1) (hcell wx hC _ _ e2))
    · exact Rg.q_move rfl rfl ha
    · exact Rg.q_index rfl rfl rfl rfl ha (by go_simp)
    · exact Rg.q_load rfl rfl rfl ha (loadI_row (hcell wx hC _ _ f0) (hcell wx hC _ _ f1) (hcell wx hC _ _ f2))
  case hF =>
    simp only [Rg.later, Act.put, List.setIfInBounds_toArray, List.set_cons_succ, List.set_cons_zero]
    clear hcell hL0 hM0 hM1 hw4 e0 e1 e2 f0 f1 f2 d0 d1 d2 j0 j1 j2 g0 g1 g2 k0 k1 k2 hb3a hb3b
    obtain ⟨d0, d1, d2⟩ := HL4.out.all
    obtain ⟨j0, j1, j2⟩ := HM4.out.all
    simp only at d0 d1 d2 j0 j1 j2
    go_wp2_with fail
    cases hR : Rw.right r with
    | false =>
      have HR : Hid (Rw.right r = false) := hR
      have HE : Hid (Rw.encE r = ([], 12)) := (by unfold Rw.encE; rw [hR]; rfl : Rw.encE r = ([], 12))
      clear hR
      refine (f_enc ⟨r.t, r.q, p, r.c.length, c⟩ r _ ⟨rfl, rfl, rfl, HC4.out⟩ HOk.out [] 12 HE.out).mono ?_
      rintro e w5 ⟨p5, c5, rfl, hb5, hx5⟩
      have HX45 : Hid (Ex w4 w5) := hx5
      clear d0 d1 d2 hx5
      obtain ⟨d0, d1, d2⟩ := (HL4.out.below HX45.out).all
      simp only at d0 d1 d2
      go_wp2_with fail
      refine (f_right ⟨r.t, r.q, p, r.c.length, c⟩ r _ ⟨rfl, rfl, rfl, RdW.below HC4.out HX45.out⟩ HOk.out false HR.out).mono ?_
      rintro e w6 ⟨rfl, hx6⟩
      have HXW : Hid (Ex w w6) := (HX4.out.trans HX45.out).trans hx6
      clear hx6 hb5
      go_wp2_with fail
      obtain ⟨⟨R2, k2, e2⟩, hdec⟩ : ∃ z, Rw.dec l3 0 = z := ⟨_, rfl⟩
      have HD2 : Hid (Rw.dec l3 0 = (R2, k2, e2)) := hdec
      refine (f_dec p3 _ c3 l3 0 _ rfl (HB3.out.below HXW.out) (by omega) ⟨by omega, by omega⟩ R2 k2 e2 HD2.out).mono ?_
      rintro e wd ⟨sz, cz, rfl, hbz, hxz⟩
      obtain ⟨we, hwe⟩ : ∃ we, wd.alloc (Obj.cells #[Value.int IntKind.i64 R2.t, Value.int IntKind.i64 R2.q, Value.slice sz R2.c.length cz] 28) = we := ⟨_, rfl⟩
      have hxe : Ex wd we := by rw [← hwe]; exact (Below.refl _ _).alloc (Nat.le_refl _) _
      have HXe : Hid (Ex w we) := HXW.out.trans (hxz.trans hxe)
      have HLz : Hid (LAt we wd.heap.size ⟨R2.t, R2.q, sz, R2.c.length, cz⟩) := (by rw [← hwe]; exact LAt.new wd ⟨R2.t, R2.q, sz, R2.c.length, cz⟩ : LAt we wd.heap.size ⟨R2.t, R2.q, sz, R2.c.length, cz⟩)
      have HBz : Hid (RdC we sz cz R2.c) := RdW.below hbz hxe
      have HWe : Hid (wd.alloc (Obj.cells #[Value.int IntKind.i64 R2.t, Value.int IntKind.i64 R2.q, Value.slice sz R2.c.length cz] 28) = we) := hwe
      clear hbz hxz hxe hwe
      simp only [rvv, sv]
      by_cases he : e2 = 0
      · subst he
        obtain ⟨hR2, hk2, hT2, hN2⟩ := Rw.dec_ok (p := 0) hdec
        have HR2 : Hid (Rw.right R2 = true) := hR2
        have HOk2 : Hid (RwOk R2) := Rw.right_ok hR2 hN2
        obtain ⟨Tb, hTb⟩ : ∃ Tb, l3.take k2 = Tb := ⟨_, rfl⟩
        have HE2 : Hid (Rw.encE R2 = (Tb, 0)) := (by
          unfold Rw.encE
          rw [hR2, if_pos rfl, ← hTb, hT2]
          simp : Rw.encE R2 = (Tb, 0))
        have HTb : Hid (l3.take k2 = Tb) := hTb
        clear hR2 hT2 hTb hN2 hdec
        go_wp2_with fail
        rw [HWe.out]
        refine (f_enc ⟨R2.t, R2.q, sz, R2.c.length, cz⟩ R2 _ ⟨rfl, rfl, rfl, HBz.out⟩ HOk2.out Tb 0 HE2.out).mono ?_
        rintro e wf ⟨pf, cf, rfl, hbf, hxf⟩
        have HXf : Hid (Ex w wf) := HXe.out.trans hxf
        have HLf : Hid (LAt wf wd.heap.size ⟨R2.t, R2.q, sz, R2.c.length, cz⟩) := HLz.out.below hxf
        have HBf : Hid (Byt wf pf cf Tb) := hbf
        have HBzf : Hid (RdC wf sz cz R2.c) := RdW.below HBz.out hxf
        have HB3f : Hid (Byt wf p3 c3 Tb) := (by rw [← HTb.out]; exact (HB3.out.below HXf.out).take hk2 : Byt wf p3 c3 Tb)
        have HTl : Hid (k2 = Tb.length) := (by rw [← HTb.out]; simp; omega : k2 = Tb.length)
        clear hbf hxf
        go_wp2_with fail
        have hre := Ex.refl
        refine Rg.wp_rows [.inl (Value.int .i64 0), .inl (.bool false), .inl (.bool false), .inl (rvv ⟨R2.t, R2.q, sz, R2.c.length, cz⟩), .inl (.bool true), .inl (.bool false), .inl (.bool false), .inl (.bool false), .inl (Value.int .i64 k2), .inl (Value.slice p3 l3.length c3), .inl (Value.int .i64 l3.length), .inl (.bool false), .inl (.bool false), .inl (.bool false), .inl (Value.slice pf Tb.length cf), .inl (.string (str Tb)), .inl (Value.slice p3 l3.length c3), .inl (Value.int .i64 k2), .inl (Value.slice p3 k2 c3), .inl (.string (str Tb)), .inl (.bool false), .inl (.bool false)] (Ex wf) Ex 128 (by kernel_rfl) rfl (by kernel_rfl) ?st hre (Ex.drew _) ?goods ?fin
        case st => exact trivial
        case goods =>
          refine Rg.goods_cons (Rg.good_move hre rfl rfl rfl) ?_
          refine Rg.goods_cons (Rg.good_bin hre rfl rfl rfl rfl (fun _ => rfl) (fun w => by go_simp)) ?_
          refine Rg.goods_cons (Rg.good_move hre rfl rfl rfl) ?_
          refine Rg.goods_cons (Rg.good_load hre rfl rfl rfl (fun wx hC => by exact load_at (HLf.out.below hC))) ?_
          refine Rg.goods_cons (Rg.good_call1 Try.func14 (by kernel_rfl) rfl rfl rfl (by rintro u wx hC rfl; exact ex_row (f_right ⟨R2.t, R2.q, sz, R2.c.length, cz⟩ R2 wx ⟨rfl, rfl, rfl, RdW.below HBzf.out hC⟩ HOk2.out true HR2.out) hC)) ?_
          refine Rg.goods_cons (Rg.good_un hre rfl rfl rfl (fun w => by go_simp)) ?_
          refine Rg.goods_cons (Rg.good_pick false hre rfl rfl rfl rfl) ?_
          refine Rg.goods_cons (Rg.good_move hre rfl rfl rfl) ?_
          refine Rg.goods_cons (Rg.good_move hre rfl rfl rfl) ?_
          refine Rg.goods_cons (Rg.good_move hre rfl rfl rfl) ?_
          refine Rg.goods_cons (Rg.good_len hre rfl rfl (by rintro u wx hC rfl; go_simp)) ?_
          refine Rg.goods_cons (Rg.good_bin hre rfl rfl rfl rfl (fun _ => rfl) (fun w => by go_simp)) ?_
          refine Rg.goods_cons (Rg.good_pick false hre rfl rfl rfl rfl) ?_
          refine Rg.goods_cons (Rg.good_move hre rfl rfl rfl) ?_
          refine Rg.goods_cons (Rg.good_move hre rfl rfl rfl) ?_
          refine Rg.goods_cons (Rg.good_conv hre rfl rfl (by rintro u wx hC rfl; exact run_str (HBf.out.below hC) rfl)) ?_
          refine Rg.goods_cons (Rg.good_move hre rfl rfl rfl) ?_
          refine Rg.goods_cons (Rg.good_move hre rfl rfl rfl) ?_
          refine Rg.goods_cons (Rg.good_slice2 hre rfl rfl rfl (by rintro u wx hC rfl; exact ⟨_, slice_row p3 _ c3 k2 wx (by omega) (by unfold maxLen; omega), rfl⟩)) ?_
          refine Rg.goods_cons (Rg.good_conv hre rfl rfl (by rintro u wx hC rfl; exact run_str (HB3f.out.below hC) HTl.out)) ?_
          refine Rg.goods_cons (Rg.good_bin hre rfl rfl rfl rfl (fun _ => rfl) (fun w => by go_simp)) ?_
          refine Rg.goods_cons (Rg.good_pick false hre rfl rfl rfl rfl) ?_
          exact Rg.goods_nil
        case fin =>
          intro wx hx
          simp only [Rg.later, Act.put, List.setIfInBounds_toArray, List.set_cons_succ, List.set_cons_zero]
          have HXg : Hid (Ex w wx) := HXf.out.trans hx
          clear hx
          go_wp2_with fail
          refine (known_any _).mono ?_
          rintro e wg ⟨rfl, hxg⟩
          go_wp2_with fail
          go_ret
          exact ⟨rfl, HXg.out.trans hxg⟩
      · have tne : ((e2 : Int) == 0) = false := by simp; omega
        clear hdec
        go_wp2_with fail
        rw [HWe.out]
        refine (known_any _).mono ?_
        rintro e wf ⟨rfl, hxf⟩
        go_wp2_with fail
        go_ret
        exact ⟨rfl, HXe.out.trans hxf⟩
    | true =>
      have HR : Hid (Rw.right r = true) := hR
      obtain ⟨Cb, hCb⟩ : ∃ Cb, Rw.enc r = Cb := ⟨_, rfl⟩
      have HE : Hid (Rw.encE r = (Cb, 0)) := (by unfold Rw.encE; rw [hR, hCb]; rfl : Rw.encE r = (Cb, 0))
      have hCl : Cb.length ≤ 900 := by rw [← hCb]; exact Rw.enc_len hR
      have HCb : Hid (Rw.enc r = Cb) := hCb
      have HN : Hid (∀ c ∈ r.c, In64 c.n) := (fun c hc => (HOk.out.2.2 c hc).2.2.2 : ∀ c ∈ r.c, In64 c.n)
      obtain ⟨Db, hDb⟩ : ∃ Db, l2 ++ Cb = Db := ⟨_, rfl⟩
      have hDl : Db.length = l2.length + Cb.length := by rw [← hDb]; simp
      have HDec : Hid (Rw.dec Db (l2.length : Int) = (r, Db.length, 0)) := (by
        have h := Rw.dec_enc hR HN.out l2 []
        rw [hCb, List.append_nil, hDb] at h
        exact h : Rw.dec Db (l2.length : Int) = (r, Db.length, 0))
      have HDb : Hid (l2 ++ Cb = Db) := hDb
      have hDl2 : Db.length ≤ 140737488355328 := by omega
      have HDl : Hid (Db.length = l2.length + Cb.length) := hDl
      clear hR hCb hDb hDl
      refine (f_enc ⟨r.t, r.q, p, r.c.length, c⟩ r _ ⟨rfl, rfl, rfl, HC4.out⟩ HOk.out Cb 0 HE.out).mono ?_
      rintro e w5 ⟨p5, c5, rfl, hb5, hx5⟩
      have HX45 : Hid (Ex w4 w5) := hx5
      have HB5 : Hid (Byt w5 p5 c5 Cb) := hb5
      clear d0 d1 d2 hx5 hb5
      obtain ⟨d0, d1, d2⟩ := (HL4.out.below HX45.out).all
      simp only at d0 d1 d2
      go_wp2_with fail
      refine (f_right ⟨r.t, r.q, p, r.c.length, c⟩ r _ ⟨rfl, rfl, rfl, RdW.below HC4.out HX45.out⟩ HOk.out true HR.out).mono ?_
      rintro e w6 ⟨rfl, hx6⟩
      have HX46 : Hid (Ex w4 w6) := HX45.out.trans hx6
      have HX6 : Hid (Ex w w6) := HX4.out.trans HX46.out
      have HB6 : Hid (Byt w6 p5 c5 Cb) := HB5.out.below hx6
      have HB26 : Hid (Byt w6 p2 c2 l2) := HB2.out.below HX6.out
      clear hx6
      go_wp2_with (first
        | (refine wpList_build_own rfl 45 rfl 0 [] rfl (by decide) (fun _ => by kernel_rfl) w6.heap.size (Nat.le_refl _) ?_; intro g45 w45 ho45 hx45)
        | (at_builtin; refine wpList_append_byt rfl (.tmp 45) (.tmp 46) rfl w6.heap.size _ [] rfl ho45 _ _ _ l2 rfl rfl (HB26.out.below hx45) (by simp; omega) (Ex.size hx45) ?_; intro v47 w47 ho47 hg47; have X47 : Ex w6 w47 := step_below0 hx45 (Ex.size hx45) ho45 hg47; clear hg47; rw [List.nil_append] at ho47)
        | (at_builtin; refine wpList_append_byt rfl (.tmp 47) (.tmp 48) rfl w6.heap.size _ l2 rfl ho47 _ _ _ Cb rfl rfl (HB6.out.below X47) (by omega) (Ex.size X47) ?_; intro v49 w49 ho49 hg49; have X49 : Ex w6 w49 := step_below0 X47 (Ex.size X47) ho47 hg49; clear hg49; rw [HDb.out] at ho49; obtain ⟨ad, cd, hvd, hbd'⟩ := ho49.byt; subst hvd))
      have HX449 : Hid (Ex w4 w49) := HX46.out.trans X49
      have HBd : Hid (Byt w49 ad cd Db) := hbd'
      have hcd := hbd'.1
      have hcd2 := hbd'.2.1
      unfold maxLen at hcd2
      refine (f_dec ad _ cd Db _ _ rfl HBd.out (by omega) ⟨by omega, by omega⟩ r Db.length 0 HDec.out).mono ?_
      rintro e w7 ⟨sx, cx, rfl, hbx, hx7⟩
      obtain ⟨w8, hw8⟩ : ∃ w8, w7.alloc (Obj.cells #[Value.int IntKind.i64 r.t, Value.int IntKind.i64 r.q, Value.slice sx r.c.length cx] 28) = w8 := ⟨_, rfl⟩
      have hx8 : Ex w7 w8 := by rw [← hw8]; exact (Below.refl _ _).alloc (Nat.le_refl _) _
      have HLx : Hid (LAt w8 w7.heap.size ⟨r.t, r.q, sx, r.c.length, cx⟩) := (by rw [← hw8]; exact LAt.new w7 ⟨r.t, r.q, sx, r.c.length, cx⟩ : LAt w8 w7.heap.size ⟨r.t, r.q, sx, r.c.length, cx⟩)
      have HX48 : Hid (Ex w4 w8) := HX449.out.trans (hx7.trans hx8)
      have HX8 : Hid (Ex w w8) := HX4.out.trans HX48.out
      have HBx : Hid (RdC w8 sx cx r.c) := RdW.below hbx hx8
      have HB8 : Hid (Byt w8 p5 c5 Cb) := (HB6.out.below X49).below (hx7.trans hx8)
      have HWx : Hid (w7.alloc (Obj.cells #[Value.int IntKind.i64 r.t, Value.int IntKind.i64 r.q, Value.slice sx r.c.length cx] 28) = w8) := hw8
      have HL8 : Hid (LAt w8 w.heap.size ⟨r.t, r.q, p, r.c.length, c⟩) := HL4.out.below HX48.out
      have HM8 : Hid (LAt w8 (w.heap.size + 1) ⟨o.t, o.q, po, o.c.length, co⟩) := HM4.out.below HX48.out
      obtain ⟨q0, q1, q2⟩ := HM8.out.all
      simp only at q0 q1 q2
      have u0 : (w7.alloc (Obj.cells #[Value.int IntKind.i64 r.t, Value.int IntKind.i64 r.q, Value.slice sx r.c.length cx] 28)).cell? ⟨w.heap.size + 1, 0, none⟩ = some (.int .i64 o.t) := by rw [hw8]; exact q0
      have u1 : (w7.alloc (Obj.cells #[Value.int IntKind.i64 r.t, Value.int IntKind.i64 r.q, Value.slice sx r.c.length cx] 28)).cell? ⟨w.heap.size + 1, 1, none⟩ = some (.int .i64 o.q) := by rw [hw8]; exact q1
      have u2 : (w7.alloc (Obj.cells #[Value.int IntKind.i64 r.t, Value.int IntKind.i64 r.q, Value.slice sx r.c.length cx] 28)).cell? ⟨w.heap.size + 1, 2, none⟩ = some (.slice po o.c.length co) := by rw [hw8]; exact q2
      clear d0 d1 d2 j0 j1 j2 hbx hx7 hx8 hw8 ho45 hx45 ho47 X47 ho49 X49 hbd'
      simp only [rvv, sv]
      go_wp2_with fail
      rw [HWx.out]
      clear u0 u1 u2
      obtain ⟨⟨Yb, y0⟩, henc⟩ : ∃ z, Rw.encE o = z := ⟨_, rfl⟩
      have HEo : Hid (Rw.encE o = (Yb, y0)) := henc
      refine (f_enc ⟨o.t, o.q, po, o.c.length, co⟩ o _ ⟨rfl, rfl, rfl, RdW.below HD4.out HX48.out⟩ HOo.out Yb y0 HEo.out).mono ?_
      rintro e w9 ⟨p9, c9, rfl, hb9, hx9⟩
      have HX89 : Hid (Ex w8 w9) := hx9
      have HX9 : Hid (Ex w w9) := HX8.out.trans hx9
      have HX49 : Hid (Ex w4 w9) := HX48.out.trans hx9
      have HB9 : Hid (Byt w9 p9 c9 Yb) := hb9
      obtain ⟨z, hz⟩ : ∃ z : Bool, z = true ↔ r = o := by
        by_cases h : r = o
        · exact ⟨true, by simp [h]⟩
        · exact ⟨false, by simp [h]⟩
      have HZ : Hid (z = true ↔ r = o) := hz
      clear hb9 hx9 hz q0 q1 q2
      cases hRo : Rw.right o with
      | false =>
        have hh : ([], 12) = (Yb, y0) := by
          rw [← henc]; unfold Rw.encE; rw [hRo]; rfl
        simp only [Prod.mk.injEq] at hh
        obtain ⟨rfl, rfl⟩ := hh
        clear hRo henc
        go_wp2_with fail
        have HLx9 : Hid (LAt w9 w7.heap.size ⟨r.t, r.q, sx, r.c.length, cx⟩) := HLx.out.below HX89.out
        have HL9 : Hid (LAt w9 w.heap.size ⟨r.t, r.q, p, r.c.length, c⟩) := HL8.out.below HX89.out
        have HM9 : Hid (LAt w9 (w.heap.size + 1) ⟨o.t, o.q, po, o.c.length, co⟩) := HM8.out.below HX89.out
        have HB89 : Hid (Byt w9 p5 c5 Cb) := HB8.out.below HX89.out
        have hre := Ex.refl
        refine Rg.wp_rows [.inl (Value.int .i64 0), .inl (.bool false), .inl (.bool false), .inl (Value.int .i64 Db.length), .inl (Value.slice ad Db.length cd), .inl (Value.int .i64 Db.length), .inl (.bool false), .inl (.bool false), .inl (.bool false), .inl (rvv ⟨r.t, r.q, sx, r.c.length, cx⟩), .inl (rvv ⟨r.t, r.q, p, r.c.length, c⟩), .inl (.bool true), .inl (.bool false), .inl (.bool false), .inl (.bool false), .inl (Value.int .i64 12), .inl (.bool false), .inl (.bool false), .inl undef, .inl undef, .inl undef, .inl undef, .inl undef, .inl undef, .inl undef, .inl undef, .inl undef, .inl (.bool false), .inl (.bool false)] (Ex w9) Ex 128 (by kernel_rfl) rfl (by kernel_rfl) ?st hre (Ex.drew _) ?goods ?fin
        case st => exact trivial
        case goods =>
          refine Rg.goods_cons (Rg.good_move hre rfl rfl rfl) ?_
          refine Rg.goods_cons (Rg.good_bin hre rfl rfl rfl rfl (fun _ => rfl) (fun w => by go_simp)) ?_
          refine Rg.goods_cons (Rg.good_move hre rfl rfl rfl) ?_
          refine Rg.goods_cons (Rg.good_move hre rfl rfl rfl) ?_
          refine Rg.goods_cons (Rg.good_move hre rfl rfl rfl) ?_
          refine Rg.goods_cons (Rg.good_len hre rfl rfl (by rintro u wx hC rfl; go_simp)) ?_
          refine Rg.goods_cons (Rg.good_bin hre rfl rfl rfl rfl (fun _ => rfl) (fun w => by go_simp)) ?_
          refine Rg.goods_cons (Rg.good_pick false hre rfl rfl rfl rfl) ?_
          refine Rg.goods_cons (Rg.good_move hre rfl rfl rfl) ?_
          refine Rg.goods_cons (Rg.good_load hre rfl rfl rfl (fun wx hC => by exact load_at (HLx9.out.below hC))) ?_
          refine Rg.goods_cons (Rg.good_load hre rfl rfl rfl (fun wx hC => by exact load_at (HL9.out.below hC))) ?_
          refine Rg.goods_cons (Rg.good_call2 Try.func18 (by kernel_rfl) rfl rfl rfl (by rintro u u2 wx hC rfl rfl; exact ex_row (krow_is r r sx cx p c wx (RdW.below (RdW.below HBx.out HX89.out) hC) (RdW.below (RdW.below HC4.out HX49.out) hC) true (by simp)) hC)) ?_
          refine Rg.goods_cons (Rg.good_un hre rfl rfl rfl (fun w => by go_simp)) ?_
          refine Rg.goods_cons (Rg.good_pick false hre rfl rfl rfl rfl) ?_
          refine Rg.goods_cons (Rg.good_move hre rfl rfl rfl) ?_
          refine Rg.goods_cons (Rg.good_move hre rfl rfl rfl) ?_
          refine Rg.goods_cons (Rg.good_bin hre rfl rfl rfl rfl (fun _ => rfl) (fun w => by go_simp)) ?_
          refine Rg.goods_cons (Rg.good_move hre rfl rfl rfl) ?_
          refine Rg.goods_cons (Rg.good_skip rfl) ?_
          refine Rg.goods_cons (Rg.good_skip rfl) ?_
          refine Rg.goods_cons (Rg.good_skip rfl) ?_
          refine Rg.goods_cons (Rg.good_skip rfl) ?_
          refine Rg.goods_cons (Rg.good_skip rfl) ?_
          refine Rg.goods_cons (Rg.good_skip rfl) ?_
          refine Rg.goods_cons (Rg.good_skip rfl) ?_
          refine Rg.goods_cons (Rg.good_skip rfl) ?_
          refine Rg.goods_cons (Rg.good_skip rfl) ?_
          refine Rg.goods_cons (Rg.good_pick false hre rfl rfl rfl rfl) ?_
          refine Rg.goods_cons (Rg.good_pick false hre rfl rfl rfl rfl) ?_
          exact Rg.goods_nil
        case fin =>
          intro wx hx
          simp only [Rg.later, Act.put, List.setIfInBounds_toArray, List.set_cons_succ, List.set_cons_zero]
          have HXW : Hid (Ex w wx) := HX9.out.trans hx
          clear hx
          go_wp2_with fail
          obtain ⟨⟨R2, k2, e2⟩, hdec⟩ : ∃ z, Rw.dec l3 0 = z := ⟨_, rfl⟩
          have HD2 : Hid (Rw.dec l3 0 = (R2, k2, e2)) := hdec
          refine (f_dec p3 _ c3 l3 0 _ rfl (HB3.out.below HXW.out) (by omega) ⟨by omega, by omega⟩ R2 k2 e2 HD2.out).mono ?_
          rintro e wd ⟨sz, cz, rfl, hbz, hxz⟩
          obtain ⟨we, hwe⟩ : ∃ we, wd.alloc (Obj.cells #[Value.int IntKind.i64 R2.t, Value.int IntKind.i64 R2.q, Value.slice sz R2.c.length cz] 28) = we := ⟨_, rfl⟩
          have hxe : Ex wd we := by rw [← hwe]; exact (Below.refl _ _).alloc (Nat.le_refl _) _
          have HXe : Hid (Ex w we) := HXW.out.trans (hxz.trans hxe)
          have HLz : Hid (LAt we wd.heap.size ⟨R2.t, R2.q, sz, R2.c.length, cz⟩) := (by rw [← hwe]; exact LAt.new wd ⟨R2.t, R2.q, sz, R2.c.length, cz⟩ : LAt we wd.heap.size ⟨R2.t, R2.q, sz, R2.c.length, cz⟩)
          have HBz : Hid (RdC we sz cz R2.c) := RdW.below hbz hxe
          have HWe : Hid (wd.alloc (Obj.cells #[Value.int IntKind.i64 R2.t, Value.int IntKind.i64 R2.q, Value.slice sz R2.c.length cz] 28) = we) := hwe
          clear hbz hxz hxe hwe
          simp only [rvv, sv]
          by_cases he : e2 = 0
          · subst he
            obtain ⟨hR2, hk2, hT2, hN2⟩ := Rw.dec_ok (p := 0) hdec
            have HR2 : Hid (Rw.right R2 = true) := hR2
            have HOk2 : Hid (RwOk R2) := Rw.right_ok hR2 hN2
            obtain ⟨Tb, hTb⟩ : ∃ Tb, l3.take k2 = Tb := ⟨_, rfl⟩
            have HE2 : Hid (Rw.encE R2 = (Tb, 0)) := (by
              unfold Rw.encE
              rw [hR2, if_pos rfl, ← hTb, hT2]
              simp : Rw.encE R2 = (Tb, 0))
            have HTb : Hid (l3.take k2 = Tb) := hTb
            clear hR2 hT2 hTb hN2 hdec
            go_wp2_with fail
            rw [HWe.out]
            refine (f_enc ⟨R2.t, R2.q, sz, R2.c.length, cz⟩ R2 _ ⟨rfl, rfl, rfl, HBz.out⟩ HOk2.out Tb 0 HE2.out).mono ?_
            rintro e wf ⟨pf, cf, rfl, hbf, hxf⟩
            have HXf : Hid (Ex w wf) := HXe.out.trans hxf
            have HLf : Hid (LAt wf wd.heap.size ⟨R2.t, R2.q, sz, R2.c.length, cz⟩) := HLz.out.below hxf
            have HBf : Hid (Byt wf pf cf Tb) := hbf
            have HBzf : Hid (RdC wf sz cz R2.c) := RdW.below HBz.out hxf
            have HB3f : Hid (Byt wf p3 c3 Tb) := (by rw [← HTb.out]; exact (HB3.out.below HXf.out).take hk2 : Byt wf p3 c3 Tb)
            have HTl : Hid (k2 = Tb.length) := (by rw [← HTb.out]; simp; omega : k2 = Tb.length)
            clear hbf hxf
            go_wp2_with fail
            have hre := Ex.refl
            refine Rg.wp_rows [.inl (Value.int .i64 0), .inl (.bool false), .inl (.bool false), .inl (rvv ⟨R2.t, R2.q, sz, R2.c.length, cz⟩), .inl (.bool true), .inl (.bool false), .inl (.bool false), .inl (.bool false), .inl (Value.int .i64 k2), .inl (Value.slice p3 l3.length c3), .inl (Value.int .i64 l3.length), .inl (.bool false), .inl (.bool false), .inl (.bool false), .inl (Value.slice pf Tb.length cf), .inl (.string (str Tb)), .inl (Value.slice p3 l3.length c3), .inl (Value.int .i64 k2), .inl (Value.slice p3 k2 c3), .inl (.string (str Tb)), .inl (.bool false), .inl (.bool false)] (Ex wf) Ex 128 (by kernel_rfl) rfl (by kernel_rfl) ?st hre (Ex.drew _) ?goods ?fin
            case st => exact trivial
            case goods =>
              refine Rg.goods_cons (Rg.good_move hre rfl rfl rfl) ?_
              refine Rg.goods_cons (Rg.good_bin hre rfl rfl rfl rfl (fun _ => rfl) (fun w => by go_simp)) ?_
              refine Rg.goods_cons (Rg.good_move hre rfl rfl rfl) ?_
              refine Rg.goods_cons (Rg.good_load hre rfl rfl rfl (fun wx hC => by exact load_at (HLf.out.below hC))) ?_
              refine Rg.goods_cons (Rg.good_call1 Try.func14 (by kernel_rfl) rfl rfl rfl (by rintro u wx hC rfl; exact ex_row (f_right ⟨R2.t, R2.q, sz, R2.c.length, cz⟩ R2 wx ⟨rfl, rfl, rfl, RdW.below HBzf.out hC⟩ HOk2.out true HR2.out) hC)) ?_
              refine Rg.goods_cons (Rg.good_un hre rfl rfl rfl (fun w => by go_simp)) ?_
              refine Rg.goods_cons (Rg.good_pick false hre rfl rfl rfl rfl) ?_
              refine Rg.goods_cons (Rg.good_move hre rfl rfl rfl) ?_
              refine Rg.goods_cons (Rg.good_move hre rfl rfl rfl) ?_
              refine Rg.goods_cons (Rg.good_move hre rfl rfl rfl) ?_
              refine Rg.goods_cons (Rg.good_len hre rfl rfl (by rintro u wx hC rfl; go_simp)) ?_
              refine Rg.goods_cons (Rg.good_bin hre rfl rfl rfl rfl (fun _ => rfl) (fun w => by go_simp)) ?_
              refine Rg.goods_cons (Rg.good_pick false hre rfl rfl rfl rfl) ?_
              refine Rg.goods_cons (Rg.good_move hre rfl rfl rfl) ?_
              refine Rg.goods_cons (Rg.good_move hre rfl rfl rfl) ?_
              refine Rg.goods_cons (Rg.good_conv hre rfl rfl (by rintro u wx hC rfl; exact run_str (HBf.out.below hC) rfl)) ?_
              refine Rg.goods_cons (Rg.good_move hre rfl rfl rfl) ?_
              refine Rg.goods_cons (Rg.good_move hre rfl rfl rfl) ?_
              refine Rg.goods_cons (Rg.good_slice2 hre rfl rfl rfl (by rintro u wx hC rfl; exact ⟨_, slice_row p3 _ c3 k2 wx (by omega) (by unfold maxLen; omega), rfl⟩)) ?_
              refine Rg.goods_cons (Rg.good_conv hre rfl rfl (by rintro u wx hC rfl; exact run_str (HB3f.out.below hC) HTl.out)) ?_
              refine Rg.goods_cons (Rg.good_bin hre rfl rfl rfl rfl (fun _ => rfl) (fun w => by go_simp)) ?_
              refine Rg.goods_cons (Rg.good_pick false hre rfl rfl rfl rfl) ?_
              exact Rg.goods_nil
            case fin =>
              intro wx hx
              simp only [Rg.later, Act.put, List.setIfInBounds_toArray, List.set_cons_succ, List.set_cons_zero]
              have HXg : Hid (Ex w wx) := HXf.out.trans hx
              clear hx
              go_wp2_with fail
              refine (known_any _).mono ?_
              rintro e wg ⟨rfl, hxg⟩
              go_wp2_with fail
              go_ret
              exact ⟨rfl, HXg.out.trans hxg⟩
          · have tne : ((e2 : Int) == 0) = false := by simp; omega
            clear hdec
            go_wp2_with fail
            rw [HWe.out]
            refine (known_any _).mono ?_
            rintro e wf ⟨rfl, hxf⟩
            go_wp2_with fail
            go_ret
            exact ⟨rfl, HXe.out.trans hxf⟩
      | true =>
        have hh : (Rw.enc o, 0) = (Yb, y0) := by
          rw [← henc]; unfold Rw.encE; rw [hRo]; rfl
        simp only [Prod.mk.injEq] at hh
        obtain ⟨hYe, rfl⟩ := hh
        have HYs : Hid (z = true ↔ Cb = Yb) := (by
          rw [HZ.out, ← HCb.out, ← hYe]
          constructor
          · intro h; rw [h]
          · intro h; exact Rw.enc_inj HR.out hRo HN.out (fun c hc => (HOo.out.2.2 c hc).2.2.2) h : z = true ↔ Cb = Yb)
        clear hRo henc hYe
        go_wp2_with fail
        have HLx9 : Hid (LAt w9 w7.heap.size ⟨r.t, r.q, sx, r.c.length, cx⟩) := HLx.out.below HX89.out
        have HL9 : Hid (LAt w9 w.heap.size ⟨r.t, r.q, p, r.c.length, c⟩) := HL8.out.below HX89.out
        have HM9 : Hid (LAt w9 (w.heap.size + 1) ⟨o.t, o.q, po, o.c.length, co⟩) := HM8.out.below HX89.out
        have HB89 : Hid (Byt w9 p5 c5 Cb) := HB8.out.below HX89.out
        have hre := Ex.refl
        refine Rg.wp_rows [.inl (Value.int .i64 0), .inl (.bool false), .inl (.bool false), .inl (Value.int .i64 Db.length), .inl (Value.slice ad Db.length cd), .inl (Value.int .i64 Db.length), .inl (.bool false), .inl (.bool false), .inl (.bool false), .inl (rvv ⟨r.t, r.q, sx, r.c.length, cx⟩), .inl (rvv ⟨r.t, r.q, p, r.c.length, c⟩), .inl (.bool true), .inl (.bool false), .inl (.bool false), .inl (.bool false), .inl (Value.int .i64 0), .inl (.bool true), .inl (.bool true), .inl (Value.slice p5 Cb.length c5), .inl (.string (str Cb)), .inl (Value.slice p9 Yb.length c9), .inl (.string (str Yb)), .inl (.bool z), .inl (rvv ⟨r.t, r.q, p, r.c.length, c⟩), .inl (rvv ⟨o.t, o.q, po, o.c.length, co⟩), .inl (.bool z), .inl (.bool false), .inl (.bool false), .inl (.bool false)] (Ex w9) Ex 128 (by kernel_rfl) rfl (by kernel_rfl) ?st hre (Ex.drew _) ?goods ?fin
        case st => exact trivial
        case goods =>
          refine Rg.goods_cons (Rg.good_move hre rfl rfl rfl) ?_
          refine Rg.goods_cons (Rg.good_bin hre rfl rfl rfl rfl (fun _ => rfl) (fun w => by go_simp)) ?_
          refine Rg.goods_cons (Rg.good_move hre rfl rfl rfl) ?_
          refine Rg.goods_cons (Rg.good_move hre rfl rfl rfl) ?_
          refine Rg.goods_cons (Rg.good_move hre rfl rfl rfl) ?_
          refine Rg.goods_cons (Rg.good_len hre rfl rfl (by rintro u wx hC rfl; go_simp)) ?_
          refine Rg.goods_cons (Rg.good_bin hre rfl rfl rfl rfl (fun _ => rfl) (fun w => by go_simp)) ?_
          refine Rg.goods_cons (Rg.good_pick false hre rfl rfl rfl rfl) ?_
          refine Rg.goods_cons (Rg.good_move hre rfl rfl rfl) ?_
          refine Rg.goods_cons (Rg.good_load hre rfl rfl rfl (fun wx hC => by exact load_at (HLx9.out.below hC))) ?_
          refine Rg.goods_cons (Rg.good_load hre rfl rfl rfl (fun wx hC => by exact load_at (HL9.out.below hC))) ?_
          refine Rg.goods_cons (Rg.good_call2 Try.func18 (by kernel_rfl) rfl rfl rfl (by rintro u u2 wx hC rfl rfl; exact ex_row (krow_is r r sx cx p c wx (RdW.below (RdW.below HBx.out HX89.out) hC) (RdW.below (RdW.below HC4.out HX49.out) hC) true (by simp)) hC)) ?_
          refine Rg.goods_cons (Rg.good_un hre rfl rfl rfl (fun w => by go_simp)) ?_
          refine Rg.goods_cons (Rg.good_pick false hre rfl rfl rfl rfl) ?_
          refine Rg.goods_cons (Rg.good_move hre rfl rfl rfl) ?_
          refine Rg.goods_cons (Rg.good_move hre rfl rfl rfl) ?_
          refine Rg.goods_cons (Rg.good_bin hre rfl rfl rfl rfl (fun _ => rfl) (fun w => by go_simp)) ?_
          refine Rg.goods_cons (Rg.good_move hre rfl rfl rfl) ?_
          refine Rg.goods_cons (Rg.good_move hre rfl rfl rfl) ?_
          refine Rg.goods_cons (Rg.good_conv hre rfl rfl (by rintro u wx hC rfl; exact run_str (HB89.out.below hC) rfl)) ?_
          refine Rg.goods_cons (Rg.good_move hre rfl rfl rfl) ?_
          refine Rg.goods_cons (Rg.good_conv hre rfl rfl (by rintro u wx hC rfl; exact run_str (HB9.out.below hC) rfl)) ?_
          refine Rg.goods_cons (Rg.good_bin hre rfl rfl rfl rfl (fun _ => rfl) (fun w => by go_simp; exact str_same HYs.out)) ?_
          refine Rg.goods_cons (Rg.good_load hre rfl rfl rfl (fun wx hC => by exact load_at (HL9.out.below hC))) ?_
          refine Rg.goods_cons (Rg.good_load hre rfl rfl rfl (fun wx hC => by exact load_at (HM9.out.below hC))) ?_
          refine Rg.goods_cons (Rg.good_call2 Try.func18 (by kernel_rfl) rfl rfl rfl (by rintro u u2 wx hC rfl rfl; exact ex_row (krow_is r o p c po co wx (RdW.below (RdW.below HC4.out HX49.out) hC) (RdW.below (RdW.below HD4.out HX49.out) hC) z HZ.out) hC)) ?_
          refine Rg.goods_cons (Rg.good_bin hre rfl rfl rfl rfl (fun _ => rfl) (fun w => by cases z <;> go_simp)) ?_
          refine Rg.goods_cons (Rg.good_pick true hre rfl rfl rfl rfl) ?_
          refine Rg.goods_cons (Rg.good_pick false hre rfl rfl rfl rfl) ?_
          exact Rg.goods_nil
        case fin =>
          intro wx hx
          simp only [Rg.later, Act.put, List.setIfInBounds_toArray, List.set_cons_succ, List.set_cons_zero]
          have HXW : Hid (Ex w wx) := HX9.out.trans hx
          clear hx
          go_wp2_with fail
          obtain ⟨⟨R2, k2, e2⟩, hdec⟩ : ∃ z, Rw.dec l3 0 = z := ⟨_, rfl⟩
          have HD2 : Hid (Rw.dec l3 0 = (R2, k2, e2)) := hdec
          refine (f_dec p3 _ c3 l3 0 _ rfl (HB3.out.below HXW.out) (by omega) ⟨by omega, by omega⟩ R2 k2 e2 HD2.out).mono ?_
          rintro e wd ⟨sz, cz, rfl, hbz, hxz⟩
          obtain ⟨we, hwe⟩ : ∃ we, wd.alloc (Obj.cells #[Value.int IntKind.i64 R2.t, Value.int IntKind.i64 R2.q, Value.slice sz R2.c.length cz] 28) = we := ⟨_, rfl⟩
          have hxe : Ex wd we := by rw [← hwe]; exact (Below.refl _ _).alloc (Nat.le_refl _) _
          have HXe : Hid (Ex w we) := HXW.out.trans (hxz.trans hxe)
          have HLz : Hid (LAt we wd.heap.size ⟨R2.t, R2.q, sz, R2.c.length, cz⟩) := (by rw [← hwe]; exact LAt.new wd ⟨R2.t, R2.q, sz, R2.c.length, cz⟩ : LAt we wd.heap.size ⟨R2.t, R2.q, sz, R2.c.length, cz⟩)
          have HBz : Hid (RdC we sz cz R2.c) := RdW.below hbz hxe
          have HWe : Hid (wd.alloc (Obj.cells #[Value.int IntKind.i64 R2.t, Value.int IntKind.i64 R2.q, Value.slice sz R2.c.length cz] 28) = we) := hwe
          clear hbz hxz hxe hwe
          simp only [rvv, sv]
          by_cases he : e2 = 0
          · subst he
            obtain ⟨hR2, hk2, hT2, hN2⟩ := Rw.dec_ok (p := 0) hdec
            have HR2 : Hid (Rw.right R2 = true) := hR2
            have HOk2 : Hid (RwOk R2) := Rw.right_ok hR2 hN2
            obtain ⟨Tb, hTb⟩ : ∃ Tb, l3.take k2 = Tb := ⟨_, rfl⟩
            have HE2 : Hid (Rw.encE R2 = (Tb, 0)) := (by
              unfold Rw.encE
              rw [hR2, if_pos rfl, ← hTb, hT2]
              simp : Rw.encE R2 = (Tb, 0))
            have HTb : Hid (l3.take k2 = Tb) := hTb
            clear hR2 hT2 hTb hN2 hdec
            go_wp2_with fail
            rw [HWe.out]
            refine (f_enc ⟨R2.t, R2.q, sz, R2.c.length, cz⟩ R2 _ ⟨rfl, rfl, rfl, HBz.out⟩ HOk2.out Tb 0 HE2.out).mono ?_
            rintro e wf ⟨pf, cf, rfl, hbf, hxf⟩
            have HXf : Hid (Ex w wf) := HXe.out.trans hxf
            have HLf : Hid (LAt wf wd.heap.size ⟨R2.t, R2.q, sz, R2.c.length, cz⟩) := HLz.out.below hxf
            have HBf : Hid (Byt wf pf cf Tb) := hbf
            have HBzf : Hid (RdC wf sz cz R2.c) := RdW.below HBz.out hxf
            have HB3f : Hid (Byt wf p3 c3 Tb) := (by rw [← HTb.out]; exact (HB3.out.below HXf.out).take hk2 : Byt wf p3 c3 Tb)
            have HTl : Hid (k2 = Tb.length) := (by rw [← HTb.out]; simp; omega : k2 = Tb.length)
            clear hbf hxf
            go_wp2_with fail
            have hre := Ex.refl
            refine Rg.wp_rows [.inl (Value.int .i64 0), .inl (.bool false), .inl (.bool false), .inl (rvv ⟨R2.t, R2.q, sz, R2.c.length, cz⟩), .inl (.bool true), .inl (.bool false), .inl (.bool false), .inl (.bool false), .inl (Value.int .i64 k2), .inl (Value.slice p3 l3.length c3), .inl (Value.int .i64 l3.length), .inl (.bool false), .inl (.bool false), .inl (.bool false), .inl (Value.slice pf Tb.length cf), .inl (.string (str Tb)), .inl (Value.slice p3 l3.length c3), .inl (Value.int .i64 k2), .inl (Value.slice p3 k2 c3), .inl (.string (str Tb)), .inl (.bool false), .inl (.bool false)] (Ex wf) Ex 128 (by kernel_rfl) rfl (by kernel_rfl) ?st hre (Ex.drew _) ?goods ?fin
            case st => exact trivial
            case goods =>
              refine Rg.goods_cons (Rg.good_move hre rfl rfl rfl) ?_
              refine Rg.goods_cons (Rg.good_bin hre rfl rfl rfl rfl (fun _ => rfl) (fun w => by go_simp)) ?_
              refine Rg.goods_cons (Rg.good_move hre rfl rfl rfl) ?_
              refine Rg.goods_cons (Rg.good_load hre rfl rfl rfl (fun wx hC => by exact load_at (HLf.out.below hC))) ?_
              refine Rg.goods_cons (Rg.good_call1 Try.func14 (by kernel_rfl) rfl rfl rfl (by rintro u wx hC rfl; exact ex_row (f_right ⟨R2.t, R2.q, sz, R2.c.length, cz⟩ R2 wx ⟨rfl, rfl, rfl, RdW.below HBzf.out hC⟩ HOk2.out true HR2.out) hC)) ?_
              refine Rg.goods_cons (Rg.good_un hre rfl rfl rfl (fun w => by go_simp)) ?_
              refine Rg.goods_cons (Rg.good_pick false hre rfl rfl rfl rfl) ?_
              refine Rg.goods_cons (Rg.good_move hre rfl rfl rfl) ?_
              refine Rg.goods_cons (Rg.good_move hre rfl rfl rfl) ?_
              refine Rg.goods_cons (Rg.good_move hre rfl rfl rfl) ?_
              refine Rg.goods_cons (Rg.good_len hre rfl rfl (by rintro u wx hC rfl; go_simp)) ?_
              refine Rg.goods_cons (Rg.good_bin hre rfl rfl rfl rfl (fun _ => rfl) (fun w => by go_simp)) ?_
              refine Rg.goods_cons (Rg.good_pick false hre rfl rfl rfl rfl) ?_
              refine Rg.goods_cons (Rg.good_move hre rfl rfl rfl) ?_
              refine Rg.goods_cons (Rg.good_move hre rfl rfl rfl) ?_
              refine Rg.goods_cons (Rg.good_conv hre rfl rfl (by rintro u wx hC rfl; exact run_str (HBf.out.below hC) rfl)) ?_
              refine Rg.goods_cons (Rg.good_move hre rfl rfl rfl) ?_
              refine Rg.goods_cons (Rg.good_move hre rfl rfl rfl) ?_
              refine Rg.goods_cons (Rg.good_slice2 hre rfl rfl rfl (by rintro u wx hC rfl; exact ⟨_, slice_row p3 _ c3 k2 wx (by omega) (by unfold maxLen; omega), rfl⟩)) ?_
              refine Rg.goods_cons (Rg.good_conv hre rfl rfl (by rintro u wx hC rfl; exact run_str (HB3f.out.below hC) HTl.out)) ?_
              refine Rg.goods_cons (Rg.good_bin hre rfl rfl rfl rfl (fun _ => rfl) (fun w => by go_simp)) ?_
              refine Rg.goods_cons (Rg.good_pick false hre rfl rfl rfl rfl) ?_
              exact Rg.goods_nil
            case fin =>
              intro wx hx
              simp only [Rg.later, Act.put, List.setIfInBounds_toArray, List.set_cons_succ, List.set_cons_zero]
              have HXg : Hid (Ex w wx) := HXf.out.trans hx
              clear hx
              go_wp2_with fail
              refine (known_any _).mono ?_
              rintro e wg ⟨rfl, hxg⟩
              go_wp2_with fail
              go_ret
              exact ⟨rfl, HXg.out.trans hxg⟩
          · have tne : ((e2 : Int) == 0) = false := by simp; omega
            clear hdec
            go_wp2_with fail
            rw [HWe.out]
            refine (known_any _).mono ?_
            rintro e wf ⟨rfl, hxf⟩
            go_wp2_with fail
            go_ret
            exact ⟨rfl, HXe.out.trans hxf⟩
end Go.Proofs.Ytghnbohplonhoaa.rowBack
