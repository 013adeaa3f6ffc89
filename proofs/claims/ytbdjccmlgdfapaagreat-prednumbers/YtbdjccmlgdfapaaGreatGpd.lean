/-
  The document's own pred: Any.
-/
import Derived.Test.YtbdjccmlgdfapaaGreatGpl
namespace Go.Proofs.YtbdjccmlgdfapaaGreat
open Go.RowKit
set_option linter.unusedVariables false
set_option linter.unusedSimpArgs false
set_option maxHeartbeats 16000000 in
set_option maxRecDepth 100000 in
theorem rpart_k2 {b : List UInt8} {f : Nat} (ih : RPartC b f) (hf : f ≤ 5) (g : Nat) (a : Option Addr) (cap : Nat) (k : Int) (c : Nat) (D : Int) (w : World) (h : Qdr w g a cap b ⟨k, c, 0⟩) (hD : D + (f + 1) = 7) (hc : c ≤ 40) (hm : c + 1 ≤ 40) (k1 : Nat) (hE : M.get b k = (2, k1, 0)) :
  Calls Tryz.prog 51 #[.pointer (some ⟨g, 0, none⟩), .int .i64 D] w (RPo b (f + 1) g a cap k c w) := by
 have H : Hid (Qdr w g a cap b ⟨k, c, 0⟩) := h
 have hglt : g < w.heap.size := h.1.lt
 obtain ⟨w1, hw1, HR1, HPr1, hsz1, HG1⟩ := pstart h
 have t0 : ¬ (6 : Int) < D := by omega
 have t1 : ¬ (40 : Int) < (c : Int) + 1 := by omega
 have HKK : Hid (Pd.mnum b ⟨k, c + 1, 0⟩ = (2, ⟨k1, c + 1, 0⟩)) := (by rw [Pd.mnum_0, hE]; rfl : Pd.mnum b ⟨k, c + 1, 0⟩ = _)
 obtain ⟨⟨V, kV, eV⟩, hV⟩ : ∃ x, M.get b (k1 : Int) = x := ⟨_, rfl⟩
 have HIH : Hid (RPartC b f) := ih
 have HRD : Hid (Pd.rd b (f + 1) k c = Pd.rd4 (fun k c => Pd.rd b f (k : Int) c) (c + 1) (if eV ≠ 0 then (Pd.hk 0, 0, 0, eV) else if 40 < V then (Pd.hk 0, 0, 0, 4) else (Pd.hk 2, V, kV, 0))) := (by rw [Pd.rd, if_neg (by omega), hE, if_neg (by simp), if_neg (by simp)]; unfold Pd.rdH; rw [if_pos (by simp), hV]; rfl : Pd.rd b (f + 1) k c = _)
 have HKV : Hid (Pd.mnum b ⟨k1, c + 1, 0⟩ = if eV = 0 then (V, ⟨kV, c + 1, 0⟩) else (0, ⟨k1, c + 1, eV⟩)) := (by rw [Pd.mnum_0, hV] : Pd.mnum b ⟨k1, c + 1, 0⟩ = _)
 have hVl : V < 18446744073709551616 := by have h1 := Pd.lnum_lt b ⟨k1, 0, 0⟩; rw [Pd.lnum_0, hV] at h1; exact h1
 have HD : Hid (D + (f + 1) = 7) := hD
 clear hE hV ih
 obtain ⟨⟨i0, i1, i2, i3⟩, j1, j2, j3⟩ := qfac HR1
 obtain ⟨w2, hw2, HR2, HPr2, hsz2, HG2⟩ := pincr HR1 HPr1 HG1 hsz1 hglt
 obtain ⟨⟨k0, k1', k2, k3⟩, l1, l2, l3⟩ := qfac HR2
 clear h
 go_enter Tryz.func51, Tryz.ntmps51
 go_wp2_with fail
 go_at_call 81
 refine (rnum_is g a cap b ⟨k, c + 1, 0⟩ w2 HR2.out).mono ?_
 rintro e w3 ⟨rfl, hR, hg⟩
 rw [HKK.out] at hR ⊢
 simp only at hR ⊢
 have HR3 : Hid (Qdr w3 g a cap b ⟨k1, c + 1, 0⟩) := hR
 obtain ⟨HG3, HPr3, hsz3⟩ := rafter HG2 HPr2 hsz2 hglt hg
 clear hR hg
 clear i0 i1 i2 i3 j1 j2 j3 k0 k1' k2 k3 l1 l2 l3
 obtain ⟨w4, HW4, HR4, HG4, HPr4, HP4, hsz4⟩ := pnew HR3 HG3 HPr3
 go_upto_region 8 with fail
 rw [HW4.out]
 have hsw4 : w3.heap.size < w4.heap.size := hsz4
 replace hsz4 : w.heap.size < w4.heap.size := Nat.lt_trans hsz3 hsw4
 obtain ⟨⟨i0, i1, i2, i3⟩, j1, j2, j3⟩ := qfac HR4
 obtain ⟨c0, c1, c2, c3, c4, c5, c6⟩ := HP4.out.all
 obtain ⟨d0, d1, d2, d3, d4, d5, d6⟩ := HP4.out.fro
 simp only [PV.zero] at c0 c1 c2 c3 c4 c5 c6
 obtain ⟨w5, hw5, HP5, HPr5, HR5, HG5, hsz5, hsw5⟩ := pstore (off := 0) (v := .int .i64 (2 : Int)) ⟨2, [], 0, 0, [], (none, 0, 0), none, 0, 0⟩ H HP4 HPr4 HR4 HG4 hsz4 hsw4 hsz3 rfl
 obtain ⟨⟨c0', c1', c2', c3', c4', c5', c6'⟩, d0', d1', d2', d3', d4', d5', d6'⟩ := pfac HP5
 obtain ⟨⟨i0', i1', i2', i3'⟩, j1', j2', j3'⟩ := qfac HR5
 by_cases he : eV = 0
 ·subst he
  rw [if_pos rfl] at HKV
  have HRD2 : Hid (Pd.rd b (f + 1) k c = Pd.rd4 (fun k c => Pd.rd b f (k : Int) c) (c + 1) (if 40 < V then (Pd.hk 0, 0, 0, 4) else (Pd.hk 2, V, kV, 0))) := (by rw [HRD.out, if_neg (by simp)] : _ = _)
  clear HRD
  go_wp2_with fail
  go_at_call 81
  refine (rnum_is g a cap b ⟨k1, c + 1, 0⟩ w5 HR5.out).mono ?_
  rintro e w6 ⟨rfl, hR, hg⟩
  rw [HKV.out] at hR ⊢
  simp only at hR ⊢
  obtain ⟨HP6, hsw6⟩ := pafter HP5 hsw5 hsz3 hglt hg
  have HR6 : Hid (Qdr w6 g a cap b ⟨kV, c + 1, 0⟩) := hR
  obtain ⟨HG6, HPr6, hsz6⟩ := rafter HG5 HPr5 hsz5 hglt hg
  clear hR hg
  clear i0 i1 i2 i3 j1 j2 j3 c0 c1 c2 c3 c4 c5 c6 d0 d1 d2 d3 d4 d5 d6
  clear c0' c1' c2' c3' c4' c5' c6' d0' d1' d2' d3' d4' d5' d6' i0' i1' i2' i3' j1' j2' j3'
  by_cases hv : 40 < V
  ·have t9 : (40 : Int) < (V : Int) := by omega
   have HRD3 : Hid (Pd.rd b (f + 1) k c = (Pd.zero, 0, 0, 4)) := (by rw [HRD2.out, if_pos hv, Pd.rd4_no _ _ _ _ _ _ (by decide)] : _ = _)
   obtain ⟨⟨i0, i1, i2, i3⟩, j1, j2, j3⟩ := qfac HR6
   obtain ⟨⟨c0, c1, c2, c3, c4, c5, c6⟩, d0, d1, d2, d3, d4, d5, d6⟩ := pfac HP6
   go_wp2_with fail
   go_at_call 80
   refine (rrefuse_is g a cap b ⟨kV, c + 1, 0⟩ 4 4 w6 HR6.out rfl).mono ?_
   rintro e w7 ⟨rfl, hR, hg⟩
   rw [show Pd.refu 4 ⟨kV, c + 1, 0⟩ = ⟨kV, c + 1, 4⟩ from rfl] at hR
   obtain ⟨HP7, hsw7⟩ := pafter HP6 hsw6 hsz3 hglt hg
   have HR7 : Hid (Qdr w7 g a cap b ⟨kV, c + 1, 4⟩) := hR
   obtain ⟨HG7, HPr7, hsz7⟩ := rafter HG6 HPr6 hsz6 hglt hg
   clear hR hg
   clear i0 i1 i2 i3 j1 j2 j3 c0 c1 c2 c3 c4 c5 c6 d0 d1 d2 d3 d4 d5 d6
   obtain ⟨⟨i0, i1, i2, i3⟩, j1, j2, j3⟩ := qfac HR7
   obtain ⟨⟨c0, c1, c2, c3, c4, c5, c6⟩, d0, d1, d2, d3, d4, d5, d6⟩ := pfac HP7
   go_wp2_with fail
   clear i0 i1 i2 i3 j1 j2 j3 c0 c1 c2 c3 c4 c5 c6 d0 d1 d2 d3 d4 d5 d6
   go_loopw [7] (fun mv wr => mv = .int .u64 ((V : Int)) ∧ wr = w7) (fun mv wr => 0)
   case atStart => exact ⟨rfl, rfl⟩
   case round =>
    obtain ⟨rfl, hwr⟩ := hrel
    replace hwr := hwr.symm
    subst hwr
    obtain ⟨⟨i0, i1, i2, i3⟩, j1, j2, j3⟩ := qfac HR7
    obtain ⟨⟨c0, c1, c2, c3, c4, c5, c6⟩, d0, d1, d2, d3, d4, d5, d6⟩ := pfac HP7
    obtain ⟨z0, z1, z2, z3, z4, z5, z6⟩ := HPr7.out.fro
    obtain ⟨y0, y1, y2, y3, y4, y5, y6⟩ := HPr7.out.all
    go_wp2_with fail
    have hP9 := HPr7.out.store ⟨2, [], 0, 0, [], (none, 0, 0), none, 0, 0⟩
    have hg9 : w7.grownBy (pset w7 w.heap.size ⟨2, [], 0, 0, [], (none, 0, 0), none, 0, 0⟩) (some w.heap.size) := grown_pset _ _ _
    refine bodyPost_ret (v := pvv ⟨2, [], 0, 0, [], (none, 0, 0), none, 0, 0⟩) (res_pred Tryz.results51 rfl hP9) rfl (RPo.mk _ (Pr.mk' (Pd.hk 2) []) ⟨kV, c + 1, 4⟩ rfl ?_ ?_ ?_ ?_)
    ·rw [Pd.lay_mk]; exact ⟨⟨⟨rfl, rfl, rfl, rfl, rfl⟩, rfl, Rd.nil _, fun h0 => by simp at h0⟩, rfl, fun h0 => by simp at h0, [], RdW.nil _, Pd.Lays.nil _ _⟩
    ·exact Qdr.new H.out HR7.out hg9 (fun j hj => by simp at hj; omega)
    ·exact grown_trN HG7.out hg9 (fun j hj => .inr (by simp at hj; omega))
    ·rw [HRD3.out]; exact Pd.rel_no (by decide) rfl
  ·have t9 : ¬ (40 : Int) < (V : Int) := by omega
   have HRD3 : Hid (Pd.rd b (f + 1) k c = Pd.fin (Pd.hk 2) (Pd.rdK (fun k c => Pd.rd b f (k : Int) c) V kV (c + 1) [])) := (by rw [HRD2.out, if_neg hv, Pd.rd4_fin] : _ = _)
   clear HRD2
   obtain ⟨⟨i0, i1, i2, i3⟩, j1, j2, j3⟩ := qfac HR6
   obtain ⟨⟨c0, c1, c2, c3, c4, c5, c6⟩, d0, d1, d2, d3, d4, d5, d6⟩ := pfac HP6
   go_wp2_with fail
   clear i0 i1 i2 i3 j1 j2 j3 c0 c1 c2 c3 c4 c5 c6 d0 d1 d2 d3 d4 d5 d6
   obtain ⟨W0, hW0⟩ : ∃ W0, W0 = w6.heap.size := ⟨_, rfl⟩
   have hb0 : w3.heap.size < W0 := by rw [hW0]; exact hsw6
   have HK0 : Hid (KidsAt w3.heap.size (fun z => W0 ≤ z) ⟨2, [], 0, 0, [], (none, 0, 0), none, 0, 0⟩ W0 w6 0 []) := (⟨(none, 0, 0), HP6.out, rfl, Pd.OwnQ.nil _ _ _⟩ : KidsAt _ _ _ _ _ _ _)
   have HKI0 : Hid (Pd.KI b f (Pd.hk 2) (Pd.rd b (f + 1) k c) V [] ⟨kV, c + 1, 0⟩) := (⟨fun h => absurd rfl h, fun _ => ⟨by simp only; omega, _, rfl, HRD3.out⟩⟩ : Pd.KI _ _ _ _ _ _ _)
   have HS0 : Hid (W0 ≤ w6.heap.size) := (by omega : W0 ≤ w6.heap.size)
   have HML0 : Hid (V + ([] : List Pr).length ≤ 40) := (by simp only [List.length_nil]; omega : V + ([] : List Pr).length ≤ 40)
   obtain ⟨r, hr⟩ : ∃ r, Pd.rd b (f + 1) k c = r := ⟨_, rfl⟩
   have HRR : Hid (Pd.rd b (f + 1) k c = r) := hr
   rw [hr] at HKI0
   clear hr hW0 HRD3
   go_loopw [7] (fun mv wr => ∃ (m : Nat) (L : List Pr) (s : RS), mv = .int .u64 (m : Int) ∧ Hid (m + L.length ≤ 40) ∧ Hid (KidsAt w3.heap.size (fun z => W0 ≤ z) ⟨2, [], 0, 0, [], (none, 0, 0), none, 0, 0⟩ W0 wr L.length L) ∧ Hid (Qdr wr g a cap b s) ∧ Hid (Pd.KI b f (Pd.hk 2) r m L s) ∧ Hid (PAt wr w.heap.size PV.zero) ∧ Hid (w.grownBy wr (some g)) ∧ Hid (W0 ≤ wr.heap.size)) (fun mv wr => (intOf mv).toNat)
   case atStart => exact ⟨V, [], ⟨kV, c + 1, 0⟩, rfl, HML0, HK0, HR6, HKI0, HPr6, HG6, HS0⟩
   case round =>
    obtain ⟨m, L, ⟨at', cc, y⟩, rfl, HML, HKr, HRr, HKI, HPrr, HGr, HSr⟩ := hrel
    clear HK0 HKI0 HML0 HS0
    obtain ⟨⟨ka, kn, kc⟩, hPr, hkn, hOr⟩ := HKr.out
    simp only at hkn hPr
    obtain ⟨i0, i1, i2, i3⟩ := HRr.out.1.all
    obtain ⟨c0, c1, c2, c3, c4, c5, c6⟩ := hPr.all
    simp only at i1 i2 i3 c0 c1 c2 c3 c4 c5 c6
    have HPv : Hid (PAt wr w3.heap.size ⟨2, [], 0, 0, [], (none, 0, 0), ka, kn, kc⟩) := (hPr : PAt _ _ _)
    have HOv : Hid (Pd.OwnQ (fun z => W0 ≤ z) wr W0 (.slice ka kn kc) L) := hOr
    have HKN : Hid (kn = L.length) := hkn
    clear hPr hOr hkn HKr
    by_cases hgo : 0 < m ∧ y = 0
    ·obtain ⟨hm0, hy⟩ := hgo
     subst hy
     obtain ⟨m, rfl⟩ : ∃ m', m = m' + 1 := ⟨m - 1, by omega⟩
     have t1 : (0 : Int) < ((m + 1 : Nat) : Int) := by omega
     have HC : Hid (Calls Tryz.prog 51 #[.pointer (some ⟨g, 0, none⟩), .int .i64 (D + 1)] wr.drew (RPo b f g a cap at' cc wr.drew)) := HIH.out g a cap at' cc (D + 1) wr.drew (HRr.out.below (Ex.drew wr)) (by have := HD.out; omega) ((HKI.out.2 rfl).1)
     have HOB : Hid (∀ q, (Value.slice ka kn kc).ownBlock = some q → W0 ≤ q ∧ q < wr.heap.size) := (HOv.out.lt : ∀ q, _)
     have hDb : -10 ≤ D ∧ D ≤ 10 := by have := HD.out; omega
     have hre : ∀ u : World, u = u := fun _ => rfl
     go_upto_region 43 with fail
     refine Rg.Fr.wp_tail_two (List.take 7 _) (List.drop 7 _) (List.take_append_drop 7 _).symm [.inl (Value.pointer (some ⟨w3.heap.size, 6, none⟩)), .inl (Value.slice ka kn kc), .inl (Value.pointer (some ⟨g, 0, none⟩)), .inl (Value.int .i64 D), .inl (Value.int .i64 (D + 1)), .inr (fun _ _ => True), .inr (fun _ _ => True)] 136 (by kernel_rfl) rfl (by kernel_rfl) (by kernel_rfl) (by kernel_rfl) (by kernel_rfl) (by decide) (by kernel_rfl) ?st 5 6 131 132 (by decide) _ _ rfl rfl rfl rfl (by kernel_rfl) rfl rfl [0, 1, 2, 3, 4] (fun w' => PAt w' w3.heap.size ⟨2, [], 0, 0, [], (none, 0, 0), ka, kn, kc⟩) (fun v w' => RPo b f g a cap at' cc wr.drew (.returned v) w') (fun v w' => ∃ wz u q s', v = .slice (some ⟨wz.heap.size, 0, none⟩) 1 1 ∧ w' = wz.alloc (.cells (flat pc [u]).toArray 32) ∧ Pd.Lay (fun z => wr.drew.heap.size ≤ z) q wz u ∧ Qdr wz g a cap b s' ∧ wr.drew.grownBy wz (some g) ∧ Pd.Rel4 (q, s') (Pd.rd b f at' cc)) ?h0 ?h1 ?h2 ?rx ?ry ?goods ?fin
     case st => exact ⟨fun _ _ _ _ _ => trivial, fun _ _ _ _ _ => trivial, trivial⟩
     case h0 => exact HPv.out.below (Ex.drew wr)
     case h1 =>
      rintro v w' ⟨u, q, s', _, _, _, hg, _⟩
      exact (HPv.out.below (Ex.drew wr)).far hg (by simp; omega)
     case h2 =>
      rintro v w' ⟨wz, u, q, s', _, rfl, _, _, hg, _⟩
      exact ((HPv.out.below (Ex.drew wr)).far hg (by simp; omega)).alloc _
     case rx =>
      intro a1 hlk
      have e1 : a1.eval (.tmp 128) = .pointer (some ⟨g, 0, none⟩) := hlk 128 (by decide)
      have e2 : a1.eval (.tmp 130) = .int .i64 (D + 1) := hlk 130 (by decide)
      refine Rg.Fr.wp_call_of Tryz.func51 (by kernel_rfl) rfl rfl ?_
      have e3 : (#[Operand.tmp 128, Operand.tmp 130].map a1.eval) = #[.pointer (some ⟨g, 0, none⟩), .int .i64 (D + 1)] := by simp [e1, e2]
      rw [e3]
      exact HC.out.mono fun e w' ⟨u, q, s', h1, h2, h3, h4, h5⟩ => ⟨pvv u, h1, _, rfl, RPo.mk u q s' rfl h2 h3 h4 h5⟩
     case ry =>
      rintro a1 w' ⟨u, q, s', h1, h2, h3, h4, h5⟩
      simp only [Ending.returned.injEq] at h1
      exact Rg.Fr.wp_val_of (run_pred1 a1.eval w' (.tmp 131) u rfl h1) ⟨_, rfl, w', u, q, s', rfl, rfl, h2, h3, h4, h5⟩
     case goods =>
      refine ⟨fun _ _ => Rg.good_field hre rfl rfl rfl (fun wx hC => by go_simp), ?_⟩
      refine ⟨fun _ _ => Rg.good_load hre rfl rfl rfl (fun wx hC => by have hz := (hC (by decide)).all.2.2.2.2.2.2; simp only at hz; go_simp), ?_⟩
      refine ⟨fun _ _ => Rg.good_move hre rfl rfl rfl, ?_⟩
      refine ⟨fun _ _ => Rg.good_move hre rfl rfl rfl, ?_⟩
      refine ⟨fun _ _ => Rg.good_bin hre rfl rfl rfl rfl (fun _ => rfl) (fun w => by go_simp; first | done | exact wi64r _ (by omega) (by omega)), ?_⟩
      refine ⟨fun h => absurd rfl h, ?_⟩
      refine ⟨fun _ h => absurd rfl h, ?_⟩
      exact trivial
     case fin =>
      intro wx
      simp only [Rg.later, List.take_succ_cons, List.take_zero, List.drop_succ_cons, List.drop_zero, Act.put, List.setIfInBounds_toArray, List.set_cons_succ, List.set_cons_zero]
      intro v131 _ v132 _
      rintro ⟨wz, u, q, s', e, rfl, hLq, hRz, hgz, hrel⟩
      have e' : v132 = .slice (some ⟨wz.heap.size, 0, none⟩) 1 1 := e
      subst e'
      have hsd : wr.drew.heap.size = wr.heap.size := rfl
      rw [hsd] at hLq
      obtain ⟨w9', hw9'⟩ : ∃ W, wz.alloc (.cells (flat pc [u]).toArray 32) = W := ⟨_, rfl⟩
      rw [hw9']
      have hX4 : Ex wz w9' := by rw [← hw9']; exact (Below.refl _ _).alloc (Nat.le_refl _) _
      have hgz' : wr.grownBy wz (some g) := grown_tr ((Ex.drew wr).grownBy _) hgz
      have hsz' := hgz'.size
      have hS := HSr.out
      have HT4 : Hid (RdW 7 pc w9' (some ⟨wz.heap.size, 0, none⟩) 1 [u]) := (by rw [← hw9']; exact RdW.laid pc_len wz [u] (by simp) : RdW 7 pc _ _ _ _)
      have HP4 : Hid (PAt w9' w3.heap.size ⟨2, [], 0, 0, [], (none, 0, 0), ka, kn, kc⟩) := ((HPv.out.far hgz' (by simp; omega)).below hX4 : PAt _ _ _)
      have HO4 : Hid (Pd.OwnQ (fun z => W0 ≤ z) w9' W0 (.slice ka kn kc) L) := ((HOv.out.grown hgz' (fun e => by have h1 := (HOB.out g e).1; omega) (by omega)).later hX4 : Pd.OwnQ _ _ _ _ _)
      have HL4 : Hid (Pd.Lays (fun z => (Value.slice ka kn kc).ownBlock ≠ some z ∧ W0 ≤ z) w9' [u] [q]) := (Pd.Lays.one (Pd.Lay.mono (fun z hz => ⟨fun e => by have h1 := (HOB.out z e).2; omega, Nat.le_trans hS hz⟩) _ (Pd.Lay.below _ hLq hX4)) : Pd.Lays _ _ _ _)
      have HR4 : Hid (Qdr w9' g a cap b s') := (hRz.below hX4 : Qdr _ _ _ _ _ _)
      have HPr4 : Hid (PAt w9' w.heap.size PV.zero) := ((HPrr.out.far hgz' (by simp; omega)).below hX4 : PAt _ _ _)
      have HG4 : Hid (w.grownBy w9' (some g)) := (grown_tr (grown_tr HGr.out hgz') (hX4.grownBy _) : World.grownBy _ _ _)
      have HS4 : Hid (W0 ≤ w9'.heap.size) := (Nat.le_trans (Nat.le_trans hS hsz') hX4.size : W0 ≤ w9'.heap.size)
      have HKI4 : Hid (Pd.KI b f (Pd.hk 2) r m (L ++ [q]) s') := (HKI.out.step rfl hrel : Pd.KI _ _ _ _ _ _ _)
      obtain ⟨M, hM⟩ : ∃ M, (L ++ [q]).length = M := ⟨_, rfl⟩
      have HM : Hid ((L ++ [q]).length = M) := hM
      have HLL : Hid (L.length + 1 ≤ 41) := (by have := HML.out; omega : L.length + 1 ≤ 41)
      have HML4 : Hid (m + M ≤ 40) := (by have := HML.out; rw [← hM]; simp; omega : m + M ≤ 40)
      have hstep : ∀ v9 w9, Pd.OwnQ (fun z => W0 ≤ z) w9 W0 v9 (L ++ [q]) → World.grownBy w9' w9 (Value.slice ka kn kc).ownBlock → ∃ a9 c9 w10, v9 = .slice a9 M c9 ∧ w9.setCell ⟨w3.heap.size, 6, none⟩ (.slice a9 M c9) = w10 ∧ Hid (KidsAt w3.heap.size (fun z => W0 ≤ z) ⟨2, [], 0, 0, [], (none, 0, 0), none, 0, 0⟩ W0 w10 (L ++ [q]).length (L ++ [q])) ∧ Hid (Qdr w10 g a cap b s') ∧ Hid (PAt w10 w.heap.size PV.zero) ∧ Hid (w.grownBy w10 (some g)) ∧ Hid (W0 ≤ w10.heap.size) ∧ w9.cell? ⟨w3.heap.size, 6, none⟩ = some (.slice ka kn kc) ∧ w9.frozen? ⟨w3.heap.size, 6, none⟩ = false := by
       intro v9 w9 ho9 hg9
       obtain ⟨hP9, a9, c9, rfl, hK9⟩ := kids_push (kd := (ka, kn, kc)) (X := ⟨2, [], 0, 0, [], (none, 0, 0), none, 0, 0⟩) HP4.out HO4.out ho9 hg9 (by omega) (by omega)
       rw [HM.out] at hK9 ⊢
       have hne : ∀ j, j < W0 → (Value.slice ka kn kc).ownBlock ≠ some j := fun j hj e => by have := (HOB.out j e).1; omega
       have hgs : w9.grownBy (w9.setCell ⟨w3.heap.size, 6, none⟩ (.slice a9 M c9)) (some w3.heap.size) := grown_set1 _ _ _ _
       refine ⟨a9, c9, _, rfl, rfl, hK9, ?_, (HPr4.out.far hg9 (hne _ (by omega))).other (by omega), ?_, ?_, hP9.all.2.2.2.2.2.2, hP9.fro.2.2.2.2.2.2⟩
       ·exact (Qdr.new H.out (Qdr.new H.out HR4.out hg9 (fun j hj => by have := (HOB.out j hj).1; omega)) hgs (fun j hj => by simp at hj; omega) : Qdr _ _ _ _ _ _)
       ·exact (grown_trN (grown_trN HG4.out hg9 (fun j hj => .inr (by have := (HOB.out j hj).1; omega))) hgs (fun j hj => .inr (by simp at hj; omega)) : World.grownBy _ _ _)
       ·have h1 := HS4.out; have h2 := hg9.size; have h3 := hgs.size; show W0 ≤ _; omega
      clear hLq hRz hgz hrel hX4 hgz' hw9' hsz' hS hM e hsd
      refine Pd.wpList_append_Q (B := fun z => W0 ≤ z) rfl (.tmp 127) (.tmp 132) rfl W0 (.slice ka kn kc) L rfl HO4.out (some ⟨wz.heap.size, 0, none⟩) _ _ [u] [q] rfl rfl HT4.out HL4.out (by have := HLL.out; simp; omega) HS4.out ?_
      intro v9 w9 ho9 hg9 hat9
      obtain ⟨a9, c9, w10, rfl, hw10, HK10, HR10, HP10, HG10, HS10, n6, n7⟩ := hstep v9 w9 ho9 hg9
      clear ho9 hg9 hat9 hstep
      have hmb : 0 ≤ (m : Int) ∧ (m : Int) ≤ 40 := by have := HML.out; omega
      go_wp2_with fail
      go_roundw
      case rel => first | exact ⟨m, rfl, L ++ [q], (by rw [HM.out]; exact HML4.out : m + (L ++ [q]).length ≤ 40), HK10, s', HR10, HKI4⟩ | exact ⟨m, L ++ [q], s', by first | rfl | go_num, (by rw [HM.out]; exact HML4.out : m + (L ++ [q]).length ≤ 40), HK10, HR10, HKI4, HP10, HG10, HS10⟩
      case measure => simp [intOf] <;> omega
    ·have HGO : Hid (m = 0 ∨ y ≠ 0) := (by omega : m = 0 ∨ y ≠ 0)
     have hob := HOv.out.lt
     obtain ⟨a3, c3', vs3, e, hR3, hL3⟩ := HOv.out.rd
     simp only [Value.slice.injEq] at e
     obtain ⟨rfl, he2, rfl⟩ := e
     have HR3 : Hid (RdW 7 pc wr ka kc vs3) := hR3
     have HL3 : Hid (Pd.Lays (fun z => W0 ≤ z) wr vs3 L) := hL3
     have HKB : Hid (∀ q off, ka = some ⟨q, off, none⟩ → W0 ≤ q) := (fun q off e => (hob q (by rw [e]; rfl)).1 : ∀ q off, ka = some ⟨q, off, none⟩ → W0 ≤ q)
     clear hob hR3 hL3 he2
     obtain ⟨z0, z1, z2, z3, z4, z5, z6⟩ := HPrr.out.fro
     obtain ⟨y0, y1, y2, y3, y4, y5, y6⟩ := HPrr.out.all
     by_cases hm0 : m = 0
     ·have t1 : ¬ (0 : Int) < (m : Int) := by omega
      clear hgo hm0
      go_wp2_with fail
      have hP9 := HPrr.out.store ⟨2, [], 0, 0, [], (none, 0, 0), ka, kn, kc⟩
      have hgr := grown_pset wr w.heap.size ⟨2, [], 0, 0, [], (none, 0, 0), ka, kn, kc⟩
      refine bodyPost_ret (v := pvv ⟨2, [], 0, 0, [], (none, 0, 0), ka, kn, kc⟩) (res_pred Tryz.results51 rfl hP9) rfl (RPo.mk _ (Pr.mk' (Pd.hk 2) L) _ rfl ?_ ?_ ?_ (by rw [HRR.out]; exact HKI.out.fin HGO.out))
      ·rw [Pd.lay_mk]
       exact ⟨⟨⟨rfl, rfl, rfl, rfl, rfl⟩, rfl, Rd.nil _, fun h0 => by simp at h0⟩, HKN.out, fun _ q off e => by have := HKB.out q off e; omega, vs3, HR3.out.far hgr (fun _ q off e => by have := HKB.out q off e; simp; omega), (HL3.out.far (fun q hq e => by simp at e; omega) hgr).mono (fun q hq => by omega)⟩
      ·exact Qdr.new H.out HRr.out hgr (fun j hj => by simp at hj; omega)
      ·exact grown_trN HGr.out hgr (fun j hj => .inr (by simp at hj; omega))
     ·have t1 : (0 : Int) < (m : Int) := by omega
      have t2 : ((y : Int) == 0) = false := beq_eq_false_iff_ne.2 (by omega)
      clear hgo hm0
      go_wp2_with fail
      have hP9 := HPrr.out.store ⟨2, [], 0, 0, [], (none, 0, 0), ka, kn, kc⟩
      have hgr := grown_pset wr w.heap.size ⟨2, [], 0, 0, [], (none, 0, 0), ka, kn, kc⟩
      refine bodyPost_ret (v := pvv ⟨2, [], 0, 0, [], (none, 0, 0), ka, kn, kc⟩) (res_pred Tryz.results51 rfl hP9) rfl (RPo.mk _ (Pr.mk' (Pd.hk 2) L) _ rfl ?_ ?_ ?_ (by rw [HRR.out]; exact HKI.out.fin HGO.out))
      ·rw [Pd.lay_mk]
       exact ⟨⟨⟨rfl, rfl, rfl, rfl, rfl⟩, rfl, Rd.nil _, fun h0 => by simp at h0⟩, HKN.out, fun _ q off e => by have := HKB.out q off e; omega, vs3, HR3.out.far hgr (fun _ q off e => by have := HKB.out q off e; simp; omega), (HL3.out.far (fun q hq e => by simp at e; omega) hgr).mono (fun q hq => by omega)⟩
      ·exact Qdr.new H.out HRr.out hgr (fun j hj => by simp at hj; omega)
      ·exact grown_trN HGr.out hgr (fun j hj => .inr (by simp at hj; omega))
 ·rw [if_neg he] at HKV
  have HE0 : Hid (eV ≠ 0) := he
  have t7 : ((eV : Int) == 0) = false := beq_eq_false_iff_ne.2 (by omega)
  have HRD3 : Hid (Pd.rd b (f + 1) k c = (Pd.zero, 0, 0, eV)) := (by rw [HRD.out, if_pos he, Pd.rd4_no _ _ _ _ _ _ he] : _ = _)
  clear HRD he
  go_wp2_with fail
  go_at_call 81
  refine (rnum_is g a cap b ⟨k1, c + 1, 0⟩ w5 HR5.out).mono ?_
  rintro e w6 ⟨rfl, hR, hg⟩
  rw [HKV.out] at hR ⊢
  simp only at hR ⊢
  obtain ⟨HP6, hsw6⟩ := pafter HP5 hsw5 hsz3 hglt hg
  have HR6 : Hid (Qdr w6 g a cap b ⟨k1, c + 1, eV⟩) := hR
  obtain ⟨HG6, HPr6, hsz6⟩ := rafter HG5 HPr5 hsz5 hglt hg
  clear hR hg
  clear i0 i1 i2 i3 j1 j2 j3 c0 c1 c2 c3 c4 c5 c6 d0 d1 d2 d3 d4 d5 d6
  clear c0' c1' c2' c3' c4' c5' c6' d0' d1' d2' d3' d4' d5' d6' i0' i1' i2' i3' j1' j2' j3'
  obtain ⟨⟨i0, i1, i2, i3⟩, j1, j2, j3⟩ := qfac HR6
  obtain ⟨⟨c0, c1, c2, c3, c4, c5, c6⟩, d0, d1, d2, d3, d4, d5, d6⟩ := pfac HP6
  go_wp2_with fail
  clear i0 i1 i2 i3 j1 j2 j3 c0 c1 c2 c3 c4 c5 c6 d0 d1 d2 d3 d4 d5 d6
  go_loopw [7] (fun mv wr => mv = .int .u64 (0) ∧ wr = w6) (fun mv wr => 0)
  case atStart => exact ⟨rfl, rfl⟩
  case round =>
   obtain ⟨rfl, hwr⟩ := hrel
   replace hwr := hwr.symm
   subst hwr
   obtain ⟨⟨i0, i1, i2, i3⟩, j1, j2, j3⟩ := qfac HR6
   obtain ⟨⟨c0, c1, c2, c3, c4, c5, c6⟩, d0, d1, d2, d3, d4, d5, d6⟩ := pfac HP6
   obtain ⟨z0, z1, z2, z3, z4, z5, z6⟩ := HPr6.out.fro
   obtain ⟨y0, y1, y2, y3, y4, y5, y6⟩ := HPr6.out.all
   go_wp2_with fail
   have hP9 := HPr6.out.store ⟨2, [], 0, 0, [], (none, 0, 0), none, 0, 0⟩
   have hg9 : w6.grownBy (pset w6 w.heap.size ⟨2, [], 0, 0, [], (none, 0, 0), none, 0, 0⟩) (some w.heap.size) := grown_pset _ _ _
   refine bodyPost_ret (v := pvv ⟨2, [], 0, 0, [], (none, 0, 0), none, 0, 0⟩) (res_pred Tryz.results51 rfl hP9) rfl (RPo.mk _ (Pr.mk' (Pd.hk 2) []) ⟨k1, c + 1, eV⟩ rfl ?_ ?_ ?_ ?_)
   ·rw [Pd.lay_mk]; exact ⟨⟨⟨rfl, rfl, rfl, rfl, rfl⟩, rfl, Rd.nil _, fun h0 => by simp at h0⟩, rfl, fun h0 => by simp at h0, [], RdW.nil _, Pd.Lays.nil _ _⟩
   ·exact Qdr.new H.out HR6.out hg9 (fun j hj => by simp at hj; omega)
   ·exact grown_trN HG6.out hg9 (fun j hj => .inr (by simp at hj; omega))
   ·rw [HRD3.out]; exact Pd.rel_no HE0.out rfl
end Go.Proofs.YtbdjccmlgdfapaaGreat
