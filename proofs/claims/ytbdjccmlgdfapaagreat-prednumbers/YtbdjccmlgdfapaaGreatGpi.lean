/-
  The document's own pred: Is, Prefix.
-/
import Derived.Test.YtbdjccmlgdfapaaGreatGpl
namespace Go.Proofs.YtbdjccmlgdfapaaGreat
open Go.RowKit
set_option linter.unusedVariables false
set_option linter.unusedSimpArgs false
set_option maxHeartbeats 16000000 in
set_option maxRecDepth 100000 in
theorem rpart_k6 {b : List UInt8} {f : Nat} (g : Nat) (a : Option Addr) (cap : Nat) (k : Int) (c : Nat) (D : Int) (w : World) (h : Qdr w g a cap b ⟨k, c, 0⟩) (hD : D + (f + 1) = 7) (hc : c ≤ 40) (hm : c + 1 ≤ 40) (k1 : Nat) (hE : M.get b k = (6, k1, 0)) :
  Calls Tryz.prog 51 #[.pointer (some ⟨g, 0, none⟩), .int .i64 D] w (RPo b (f + 1) g a cap k c w) := by
 have H : Hid (Qdr w g a cap b ⟨k, c, 0⟩) := h
 have hglt : g < w.heap.size := h.1.lt
 obtain ⟨w1, hw1, HR1, HPr1, hsz1, HG1⟩ := pstart h
 have t0 : ¬ (6 : Int) < D := by omega
 have t1 : ¬ (40 : Int) < (c : Int) + 1 := by omega
 have HKK : Hid (Pd.mnum b ⟨k, c + 1, 0⟩ = (6, ⟨k1, c + 1, 0⟩)) := (by rw [Pd.mnum_0, hE]; rfl : Pd.mnum b ⟨k, c + 1, 0⟩ = _)
 obtain ⟨⟨cl, ⟨na2, nc2, ny2⟩⟩, hN2⟩ : ∃ x, Pd.mtxt b 12 ⟨k1, c + 1, 0⟩ = x := ⟨_, rfl⟩
 have HKcl : Hid (Pd.mtxt b 12 ⟨k1, c + 1, 0⟩ = (cl, ⟨na2, nc2, ny2⟩)) := hN2
 obtain ⟨⟨sl, ⟨na3, nc3, ny3⟩⟩, hN3⟩ : ∃ x, Pd.mtxt b 40 ⟨na2, nc2, ny2⟩ = x := ⟨_, rfl⟩
 have HKsl : Hid (Pd.mtxt b 40 ⟨na2, nc2, ny2⟩ = (sl, ⟨na3, nc3, ny3⟩)) := hN3
 have HRL : Hid (Pd.Rel4 (Pr.mk' ⟨6, cl, 0, 0, sl, []⟩ [], ⟨na3, nc3, ny3⟩) (Pd.rd b (f + 1) k c)) := (by rw [Pd.rd_to hm hE (by omega) (by omega)]; exact Pd.leaf68 (K := 6) hN2 hN3 (by omega) : Pd.Rel4 _ _)
 clear hE hN2 hN3
 obtain ⟨⟨i0, i1, i2, i3⟩, j1, j2, j3⟩ := qfac HR1
 obtain ⟨w2, hw2, HR2, HPr2, hsz2, HG2⟩ := pincr HR1 HPr1 HG1 hsz1 hglt
 obtain ⟨⟨k0, k1', k2, k3⟩, l1, l2, l3⟩ := qfac HR2
 clear h
 go_enter Tryz.func51, Tryz.ntmps51
 go_wp2_with fail
 go_at_call 81
 refine (rnum_is g a cap b ⟨k, c + 1, 0⟩ w2 HR2.out).mono ?_
 rintro e w3 ⟨rfl, hR, hg⟩
 rw [HKK.out] at hR ⊢
 simp only at hR ⊢
 have HR3 : Hid (Qdr w3 g a cap b ⟨k1, c + 1, 0⟩) := hR
 obtain ⟨HG3, HPr3, hsz3⟩ := rafter HG2 HPr2 hsz2 hglt hg
 clear hR hg
 clear i0 i1 i2 i3 j1 j2 j3 k0 k1' k2 k3 l1 l2 l3
 obtain ⟨w4, HW4, HR4, HG4, HPr4, HP4, hsz4⟩ := pnew HR3 HG3 HPr3
 go_upto_region 8 with fail
 rw [HW4.out]
 have hsw4 : w3.heap.size < w4.heap.size := hsz4
 replace hsz4 : w.heap.size < w4.heap.size := Nat.lt_trans hsz3 hsw4
 obtain ⟨⟨i0, i1, i2, i3⟩, j1, j2, j3⟩ := qfac HR4
 obtain ⟨c0, c1, c2, c3, c4, c5, c6⟩ := HP4.out.all
 obtain ⟨d0, d1, d2, d3, d4, d5, d6⟩ := HP4.out.fro
 simp only [PV.zero] at c0 c1 c2 c3 c4 c5 c6
 obtain ⟨w5, hw5, HP5, HPr5, HR5, HG5, hsz5, hsw5⟩ := pstore (off := 0) (v := .int .i64 (6 : Int)) ⟨6, [], 0, 0, [], (none, 0, 0), none, 0, 0⟩ H HP4 HPr4 HR4 HG4 hsz4 hsw4 hsz3 rfl
 obtain ⟨⟨c0', c1', c2', c3', c4', c5', c6'⟩, d0', d1', d2', d3', d4', d5', d6'⟩ := pfac HP5
 obtain ⟨⟨i0', i1', i2', i3'⟩, j1', j2', j3'⟩ := qfac HR5
 go_wp2_with fail
 go_at_call 83
 refine (rtxt_is g a cap b ⟨k1, c + 1, 0⟩ 12 w5 HR5.out (by omega)).mono ?_
 rintro e w6 ⟨rfl, hR, hg⟩
 rw [HKcl.out] at hR ⊢
 simp only at hR ⊢
 obtain ⟨HP6, hsw6⟩ := pafter HP5 hsw5 hsz3 hglt hg
 have HR6 : Hid (Qdr w6 g a cap b ⟨na2, nc2, ny2⟩) := hR
 obtain ⟨HG6, HPr6, hsz6⟩ := rafter HG5 HPr5 hsz5 hglt hg
 clear hR hg
 clear i0 i1 i2 i3 j1 j2 j3 c0 c1 c2 c3 c4 c5 c6 d0 d1 d2 d3 d4 d5 d6
 clear c0' c1' c2' c3' c4' c5' c6' d0' d1' d2' d3' d4' d5' d6' i0' i1' i2' i3' j1' j2' j3'
 obtain ⟨⟨i0, i1, i2, i3⟩, j1, j2, j3⟩ := qfac HR6
 obtain ⟨⟨c0, c1, c2, c3, c4, c5, c6⟩, d0, d1, d2, d3, d4, d5, d6⟩ := pfac HP6
 obtain ⟨w7, hw7, HP7, HPr7, HR7, HG7, hsz7, hsw7⟩ := pstore (off := 1) (v := .string (str cl)) ⟨6, cl, 0, 0, [], (none, 0, 0), none, 0, 0⟩ H HP6 HPr6 HR6 HG6 hsz6 hsw6 hsz3 rfl
 obtain ⟨⟨c0', c1', c2', c3', c4', c5', c6'⟩, d0', d1', d2', d3', d4', d5', d6'⟩ := pfac HP7
 obtain ⟨⟨i0', i1', i2', i3'⟩, j1', j2', j3'⟩ := qfac HR7
 go_wp2_with fail
 go_at_call 83
 refine (rtxt_is g a cap b ⟨na2, nc2, ny2⟩ 40 w7 HR7.out (by omega)).mono ?_
 rintro e w8 ⟨rfl, hR, hg⟩
 rw [HKsl.out] at hR ⊢
 simp only at hR ⊢
 obtain ⟨HP8, hsw8⟩ := pafter HP7 hsw7 hsz3 hglt hg
 have HR8 : Hid (Qdr w8 g a cap b ⟨na3, nc3, ny3⟩) := hR
 obtain ⟨HG8, HPr8, hsz8⟩ := rafter HG7 HPr7 hsz7 hglt hg
 clear hR hg
 clear i0 i1 i2 i3 j1 j2 j3 c0 c1 c2 c3 c4 c5 c6 d0 d1 d2 d3 d4 d5 d6
 clear c0' c1' c2' c3' c4' c5' c6' d0' d1' d2' d3' d4' d5' d6' i0' i1' i2' i3' j1' j2' j3'
 obtain ⟨⟨i0, i1, i2, i3⟩, j1, j2, j3⟩ := qfac HR8
 obtain ⟨⟨c0, c1, c2, c3, c4, c5, c6⟩, d0, d1, d2, d3, d4, d5, d6⟩ := pfac HP8
 obtain ⟨w9, hw9, HP9, HPr9, HR9, HG9, hsz9, hsw9⟩ := pstore (off := 4) (v := .string (str sl)) ⟨6, cl, 0, 0, sl, (none, 0, 0), none, 0, 0⟩ H HP8 HPr8 HR8 HG8 hsz8 hsw8 hsz3 rfl
 obtain ⟨⟨c0', c1', c2', c3', c4', c5', c6'⟩, d0', d1', d2', d3', d4', d5', d6'⟩ := pfac HP9
 obtain ⟨⟨i0', i1', i2', i3'⟩, j1', j2', j3'⟩ := qfac HR9
 go_wp2_with fail
 clear i0 i1 i2 i3 j1 j2 j3 c0 c1 c2 c3 c4 c5 c6 d0 d1 d2 d3 d4 d5 d6
 clear c0' c1' c2' c3' c4' c5' c6' d0' d1' d2' d3' d4' d5' d6' i0' i1' i2' i3' j1' j2' j3'
 go_loopw [7] (fun mv wr => mv = .int .u64 (0) ∧ wr = w9) (fun mv wr => 0)
 case atStart => exact ⟨rfl, rfl⟩
 case round =>
  obtain ⟨rfl, hwr⟩ := hrel
  replace hwr := hwr.symm
  subst hwr
  obtain ⟨⟨i0, i1, i2, i3⟩, j1, j2, j3⟩ := qfac HR9
  obtain ⟨⟨c0, c1, c2, c3, c4, c5, c6⟩, d0, d1, d2, d3, d4, d5, d6⟩ := pfac HP9
  obtain ⟨z0, z1, z2, z3, z4, z5, z6⟩ := HPr9.out.fro
  obtain ⟨y0, y1, y2, y3, y4, y5, y6⟩ := HPr9.out.all
  go_wp2_with fail
  have hP9 := HPr9.out.store ⟨6, cl, 0, 0, sl, (none, 0, 0), none, 0, 0⟩
  have hg9 : w9.grownBy (pset w9 w.heap.size ⟨6, cl, 0, 0, sl, (none, 0, 0), none, 0, 0⟩) (some w.heap.size) := grown_pset _ _ _
  refine bodyPost_ret (v := pvv ⟨6, cl, 0, 0, sl, (none, 0, 0), none, 0, 0⟩) (res_pred Tryz.results51 rfl hP9) rfl (RPo.mk _ (Pr.mk' ⟨6, cl, 0, 0, sl, []⟩ []) ⟨na3, nc3, ny3⟩ rfl ?_ ?_ ?_ ?_)
  ·rw [Pd.lay_mk]; exact ⟨⟨⟨rfl, rfl, rfl, rfl, rfl⟩, rfl, Rd.nil _, fun h0 => by simp at h0⟩, rfl, fun h0 => by simp at h0, [], RdW.nil _, Pd.Lays.nil _ _⟩
  ·exact Qdr.new H.out HR9.out hg9 (fun j hj => by simp at hj; omega)
  ·exact grown_trN HG9.out hg9 (fun j hj => .inr (by simp at hj; omega))
  ·exact HRL.out
set_option maxHeartbeats 16000000 in
set_option maxRecDepth 100000 in
theorem rpart_k8 {b : List UInt8} {f : Nat} (g : Nat) (a : Option Addr) (cap : Nat) (k : Int) (c : Nat) (D : Int) (w : World) (h : Qdr w g a cap b ⟨k, c, 0⟩) (hD : D + (f + 1) = 7) (hc : c ≤ 40) (hm : c + 1 ≤ 40) (k1 : Nat) (hE : M.get b k = (8, k1, 0)) :
  Calls Tryz.prog 51 #[.pointer (some ⟨g, 0, none⟩), .int .i64 D] w (RPo b (f + 1) g a cap k c w) := by
 have H : Hid (Qdr w g a cap b ⟨k, c, 0⟩) := h
 have hglt : g < w.heap.size := h.1.lt
 obtain ⟨w1, hw1, HR1, HPr1, hsz1, HG1⟩ := pstart h
 have t0 : ¬ (6 : Int) < D := by omega
 have t1 : ¬ (40 : Int) < (c : Int) + 1 := by omega
 have HKK : Hid (Pd.mnum b ⟨k, c + 1, 0⟩ = (8, ⟨k1, c + 1, 0⟩)) := (by rw [Pd.mnum_0, hE]; rfl : Pd.mnum b ⟨k, c + 1, 0⟩ = _)
 obtain ⟨⟨cl, ⟨na2, nc2, ny2⟩⟩, hN2⟩ : ∃ x, Pd.mtxt b 12 ⟨k1, c + 1, 0⟩ = x := ⟨_, rfl⟩
 have HKcl : Hid (Pd.mtxt b 12 ⟨k1, c + 1, 0⟩ = (cl, ⟨na2, nc2, ny2⟩)) := hN2
 obtain ⟨⟨sl, ⟨na3, nc3, ny3⟩⟩, hN3⟩ : ∃ x, Pd.mtxt b 40 ⟨na2, nc2, ny2⟩ = x := ⟨_, rfl⟩
 have HKsl : Hid (Pd.mtxt b 40 ⟨na2, nc2, ny2⟩ = (sl, ⟨na3, nc3, ny3⟩)) := hN3
 have HRL : Hid (Pd.Rel4 (Pr.mk' ⟨8, cl, 0, 0, sl, []⟩ [], ⟨na3, nc3, ny3⟩) (Pd.rd b (f + 1) k c)) := (by rw [Pd.rd_to hm hE (by omega) (by omega)]; exact Pd.leaf68 (K := 8) hN2 hN3 (by omega) : Pd.Rel4 _ _)
 clear hE hN2 hN3
 obtain ⟨⟨i0, i1, i2, i3⟩, j1, j2, j3⟩ := qfac HR1
 obtain ⟨w2, hw2, HR2, HPr2, hsz2, HG2⟩ := pincr HR1 HPr1 HG1 hsz1 hglt
 obtain ⟨⟨k0, k1', k2, k3⟩, l1, l2, l3⟩ := qfac HR2
 clear h
 go_enter Tryz.func51, Tryz.ntmps51
 go_wp2_with fail
 go_at_call 81
 refine (rnum_is g a cap b ⟨k, c + 1, 0⟩ w2 HR2.out).mono ?_
 rintro e w3 ⟨rfl, hR, hg⟩
 rw [HKK.out] at hR ⊢
 simp only at hR ⊢
 have HR3 : Hid (Qdr w3 g a cap b ⟨k1, c + 1, 0⟩) := hR
 obtain ⟨HG3, HPr3, hsz3⟩ := rafter HG2 HPr2 hsz2 hglt hg
 clear hR hg
 clear i0 i1 i2 i3 j1 j2 j3 k0 k1' k2 k3 l1 l2 l3
 obtain ⟨w4, HW4, HR4, HG4, HPr4, HP4, hsz4⟩ := pnew HR3 HG3 HPr3
 go_upto_region 8 with fail
 rw [HW4.out]
 have hsw4 : w3.heap.size < w4.heap.size := hsz4
 replace hsz4 : w.heap.size < w4.heap.size := Nat.lt_trans hsz3 hsw4
 obtain ⟨⟨i0, i1, i2, i3⟩, j1, j2, j3⟩ := qfac HR4
 obtain ⟨c0, c1, c2, c3, c4, c5, c6⟩ := HP4.out.all
 obtain ⟨d0, d1, d2, d3, d4, d5, d6⟩ := HP4.out.fro
 simp only [PV.zero] at c0 c1 c2 c3 c4 c5 c6
 obtain ⟨w5, hw5, HP5, HPr5, HR5, HG5, hsz5, hsw5⟩ := pstore (off := 0) (v := .int .i64 (8 : Int)) ⟨8, [], 0, 0, [], (none, 0, 0), none, 0, 0⟩ H HP4 HPr4 HR4 HG4 hsz4 hsw4 hsz3 rfl
 obtain ⟨⟨c0', c1', c2', c3', c4', c5', c6'⟩, d0', d1', d2', d3', d4', d5', d6'⟩ := pfac HP5
 obtain ⟨⟨i0', i1', i2', i3'⟩, j1', j2', j3'⟩ := qfac HR5
 go_wp2_with fail
 go_at_call 83
 refine (rtxt_is g a cap b ⟨k1, c + 1, 0⟩ 12 w5 HR5.out (by omega)).mono ?_
 rintro e w6 ⟨rfl, hR, hg⟩
 rw [HKcl.out] at hR ⊢
 simp only at hR ⊢
 obtain ⟨HP6, hsw6⟩ := pafter HP5 hsw5 hsz3 hglt hg
 have HR6 : Hid (Qdr w6 g a cap b ⟨na2, nc2, ny2⟩) := hR
 obtain ⟨HG6, HPr6, hsz6⟩ := rafter HG5 HPr5 hsz5 hglt hg
 clear hR hg
 clear i0 i1 i2 i3 j1 j2 j3 c0 c1 c2 c3 c4 c5 c6 d0 d1 d2 d3 d4 d5 d6
 clear c0' c1' c2' c3' c4' c5' c6' d0' d1' d2' d3' d4' d5' d6' i0' i1' i2' i3' j1' j2' j3'
 obtain ⟨⟨i0, i1, i2, i3⟩, j1, j2, j3⟩ := qfac HR6
 obtain ⟨⟨c0, c1, c2, c3, c4, c5, c6⟩, d0, d1, d2, d3, d4, d5, d6⟩ := pfac HP6
 obtain ⟨w7, hw7, HP7, HPr7, HR7, HG7, hsz7, hsw7⟩ := pstore (off := 1) (v := .string (str cl)) ⟨8, cl, 0, 0, [], (none, 0, 0), none, 0, 0⟩ H HP6 HPr6 HR6 HG6 hsz6 hsw6 hsz3 rfl
 obtain ⟨⟨c0', c1', c2', c3', c4', c5', c6'⟩, d0', d1', d2', d3', d4', d5', d6'⟩ := pfac HP7
 obtain ⟨⟨i0', i1', i2', i3'⟩, j1', j2', j3'⟩ := qfac HR7
 go_wp2_with fail
 go_at_call 83
 refine (rtxt_is g a cap b ⟨na2, nc2, ny2⟩ 40 w7 HR7.out (by omega)).mono ?_
 rintro e w8 ⟨rfl, hR, hg⟩
 rw [HKsl.out] at hR ⊢
 simp only at hR ⊢
 obtain ⟨HP8, hsw8⟩ := pafter HP7 hsw7 hsz3 hglt hg
 have HR8 : Hid (Qdr w8 g a cap b ⟨na3, nc3, ny3⟩) := hR
 obtain ⟨HG8, HPr8, hsz8⟩ := rafter HG7 HPr7 hsz7 hglt hg
 clear hR hg
 clear i0 i1 i2 i3 j1 j2 j3 c0 c1 c2 c3 c4 c5 c6 d0 d1 d2 d3 d4 d5 d6
 clear c0' c1' c2' c3' c4' c5' c6' d0' d1' d2' d3' d4' d5' d6' i0' i1' i2' i3' j1' j2' j3'
 obtain ⟨⟨i0, i1, i2, i3⟩, j1, j2, j3⟩ := qfac HR8
 obtain ⟨⟨c0, c1, c2, c3, c4, c5, c6⟩, d0, d1, d2, d3, d4, d5, d6⟩ := pfac HP8
 obtain ⟨w9, hw9, HP9, HPr9, HR9, HG9, hsz9, hsw9⟩ := pstore (off := 4) (v := .string (str sl)) ⟨8, cl, 0, 0, sl, (none, 0, 0), none, 0, 0⟩ H HP8 HPr8 HR8 HG8 hsz8 hsw8 hsz3 rfl
 obtain ⟨⟨c0', c1', c2', c3', c4', c5', c6'⟩, d0', d1', d2', d3', d4', d5', d6'⟩ := pfac HP9
 obtain ⟨⟨i0', i1', i2', i3'⟩, j1', j2', j3'⟩ := qfac HR9
 go_wp2_with fail
 clear i0 i1 i2 i3 j1 j2 j3 c0 c1 c2 c3 c4 c5 c6 d0 d1 d2 d3 d4 d5 d6
 clear c0' c1' c2' c3' c4' c5' c6' d0' d1' d2' d3' d4' d5' d6' i0' i1' i2' i3' j1' j2' j3'
 go_loopw [7] (fun mv wr => mv = .int .u64 (0) ∧ wr = w9) (fun mv wr => 0)
 case atStart => exact ⟨rfl, rfl⟩
 case round =>
  obtain ⟨rfl, hwr⟩ := hrel
  replace hwr := hwr.symm
  subst hwr
  obtain ⟨⟨i0, i1, i2, i3⟩, j1, j2, j3⟩ := qfac HR9
  obtain ⟨⟨c0, c1, c2, c3, c4, c5, c6⟩, d0, d1, d2, d3, d4, d5, d6⟩ := pfac HP9
  obtain ⟨z0, z1, z2, z3, z4, z5, z6⟩ := HPr9.out.fro
  obtain ⟨y0, y1, y2, y3, y4, y5, y6⟩ := HPr9.out.all
  go_wp2_with fail
  have hP9 := HPr9.out.store ⟨8, cl, 0, 0, sl, (none, 0, 0), none, 0, 0⟩
  have hg9 : w9.grownBy (pset w9 w.heap.size ⟨8, cl, 0, 0, sl, (none, 0, 0), none, 0, 0⟩) (some w.heap.size) := grown_pset _ _ _
  refine bodyPost_ret (v := pvv ⟨8, cl, 0, 0, sl, (none, 0, 0), none, 0, 0⟩) (res_pred Tryz.results51 rfl hP9) rfl (RPo.mk _ (Pr.mk' ⟨8, cl, 0, 0, sl, []⟩ []) ⟨na3, nc3, ny3⟩ rfl ?_ ?_ ?_ ?_)
  ·rw [Pd.lay_mk]; exact ⟨⟨⟨rfl, rfl, rfl, rfl, rfl⟩, rfl, Rd.nil _, fun h0 => by simp at h0⟩, rfl, fun h0 => by simp at h0, [], RdW.nil _, Pd.Lays.nil _ _⟩
  ·exact Qdr.new H.out HR9.out hg9 (fun j hj => by simp at hj; omega)
  ·exact grown_trN HG9.out hg9 (fun j hj => .inr (by simp at hj; omega))
  ·exact HRL.out
end Go.Proofs.YtbdjccmlgdfapaaGreat
