/-
  The document's own pred: In.
-/
import Derived.Test.YtbdjccmlgdfapaaGreatGpl
namespace Go.Proofs.YtbdjccmlgdfapaaGreat
open Go.RowKit
set_option linter.unusedVariables false
set_option linter.unusedSimpArgs false
theorem Pd.rel_e {o : Pr × RS} {r : Pr × Nat × Nat × Nat} {e : Nat} (h : r.2.2.2 = e) (he : e ≠ 0) (hy : o.2.y = e) : Pd.Rel4 o r := ⟨fun _ => hy.trans h.symm, fun h0 => absurd (h.symm.trans h0) he⟩
/-- The Set's loop. -/
def S7 (b cl : List UInt8) (c1 : Nat) (r : Pr × Nat × Nat × Nat) (g : Nat) (a : Option Addr) (cap p3 W0 : Nat) (X : PV) (w : World) (mv : Value) (wr : World) : Prop := ∃ (m : Nat) (L : List (List UInt8)) (s : RS), mv = .int .u64 (m : Int) ∧ m + L.length ≤ 8 ∧ SetAt p3 X W0 wr L.length L ∧ Qdr wr g a cap b s ∧ Pd.TI b cl c1 r m L s ∧ PAt wr w.heap.size PV.zero ∧ w.grownBy wr (some g) ∧ W0 ≤ wr.heap.size
theorem S7.mk {b cl : List UInt8} {c1 : Nat} {r : Pr × Nat × Nat × Nat} {g : Nat} {a : Option Addr} {cap p3 W0 : Nat} {X : PV} {w : World} {mv : Value} {wr : World} (m : Nat) (L : List (List UInt8)) (s : RS) (h1 : mv = .int .u64 (m : Int)) (h2 : m + L.length ≤ 8) (h3 : SetAt p3 X W0 wr L.length L) (h4 : Qdr wr g a cap b s) (h5 : Pd.TI b cl c1 r m L s) (h6 : PAt wr w.heap.size PV.zero) (h7 : w.grownBy wr (some g)) (h8 : W0 ≤ wr.heap.size) : S7 b cl c1 r g a cap p3 W0 X w mv wr := ⟨m, L, s, h1, h2, h3, h4, h5, h6, h7, h8⟩
set_option maxHeartbeats 16000000 in
set_option maxRecDepth 100000 in
theorem rpart_k7 {b : List UInt8} {f : Nat} (g : Nat) (a : Option Addr) (cap : Nat) (k : Int) (c : Nat) (D : Int) (w : World) (h : Qdr w g a cap b ⟨k, c, 0⟩) (hD : D + (f + 1) = 7) (hc : c ≤ 40) (hm : c + 1 ≤ 40) (k1 : Nat) (hE : M.get b k = (7, k1, 0)) :
  Calls Tryz.prog 51 #[.pointer (some ⟨g, 0, none⟩), .int .i64 D] w (RPo b (f + 1) g a cap k c w) := by
 have H : Hid (Qdr w g a cap b ⟨k, c, 0⟩) := h
 have hglt : g < w.heap.size := h.1.lt
 obtain ⟨w1, hw1, HR1, HPr1, hsz1, HG1⟩ := pstart h
 have t0 : ¬ (6 : Int) < D := by omega
 have t1 : ¬ (40 : Int) < (c : Int) + 1 := by omega
 have HKK : Hid (Pd.mnum b ⟨k, c + 1, 0⟩ = (7, ⟨k1, c + 1, 0⟩)) := (by rw [Pd.mnum_0, hE]; rfl : Pd.mnum b ⟨k, c + 1, 0⟩ = _)
 obtain ⟨⟨cl, ⟨na2, nc2, ny2⟩⟩, hN2⟩ : ∃ x, Pd.mtxt b 12 ⟨k1, c + 1, 0⟩ = x := ⟨_, rfl⟩
 have HKcl : Hid (Pd.mtxt b 12 ⟨k1, c + 1, 0⟩ = (cl, ⟨na2, nc2, ny2⟩)) := hN2
 obtain ⟨⟨V, ⟨na3, nc3, ny3⟩⟩, hN3⟩ : ∃ x, Pd.mnum b ⟨na2, nc2, ny2⟩ = x := ⟨_, rfl⟩
 have HKV : Hid (Pd.mnum b ⟨na2, nc2, ny2⟩ = (V, ⟨na3, nc3, ny3⟩)) := hN3
 have hl3 : V < 18446744073709551616 := by have h1 := Pd.mnum_lt b ⟨na2, nc2, ny2⟩; rw [hN3] at h1; exact h1
 obtain ⟨r, hr⟩ : ∃ r, Pd.rd b (f + 1) k c = r := ⟨_, rfl⟩
 have HRR : Hid (Pd.rd b (f + 1) k c = r) := hr
 have HT7 : Hid ((V ≤ 8 → Pd.TI b cl (c + 1) r V [] ⟨na3, nc3, ny3⟩) ∧ (8 < V → r.2.2.2 = 4)) := (by rw [← hr, Pd.rd_to hm hE (by omega) (by omega)]; exact Pd.leaf7 hN2 hN3 : _ ∧ _)
 clear hr
 clear hE hN2 hN3
 obtain ⟨⟨i0, i1, i2, i3⟩, j1, j2, j3⟩ := qfac HR1
 obtain ⟨w2, hw2, HR2, HPr2, hsz2, HG2⟩ := pincr HR1 HPr1 HG1 hsz1 hglt
 obtain ⟨⟨k0, k1', k2, k3⟩, l1, l2, l3⟩ := qfac HR2
 clear h
 go_enter Tryz.func51, Tryz.ntmps51
 go_wp2_with fail
 go_at_call 81
 refine (rnum_is g a cap b ⟨k, c + 1, 0⟩ w2 HR2.out).mono ?_
 rintro e w3 ⟨rfl, hR, hg⟩
 rw [HKK.out] at hR ⊢
 simp only at hR ⊢
 have HR3 : Hid (Qdr w3 g a cap b ⟨k1, c + 1, 0⟩) := hR
 obtain ⟨HG3, HPr3, hsz3⟩ := rafter HG2 HPr2 hsz2 hglt hg
 clear hR hg
 clear i0 i1 i2 i3 j1 j2 j3 k0 k1' k2 k3 l1 l2 l3
 obtain ⟨w4, HW4, HR4, HG4, HPr4, HP4, hsz4⟩ := pnew HR3 HG3 HPr3
 go_upto_region 8 with fail
 rw [HW4.out]
 have hsw4 : w3.heap.size < w4.heap.size := hsz4
 replace hsz4 : w.heap.size < w4.heap.size := Nat.lt_trans hsz3 hsw4
 obtain ⟨⟨i0, i1, i2, i3⟩, j1, j2, j3⟩ := qfac HR4
 obtain ⟨c0, c1, c2, c3, c4, c5, c6⟩ := HP4.out.all
 obtain ⟨d0, d1, d2, d3, d4, d5, d6⟩ := HP4.out.fro
 simp only [PV.zero] at c0 c1 c2 c3 c4 c5 c6
 obtain ⟨w5, hw5, HP5, HPr5, HR5, HG5, hsz5, hsw5⟩ := pstore (off := 0) (v := .int .i64 (7 : Int)) ⟨7, [], 0, 0, [], (none, 0, 0), none, 0, 0⟩ H HP4 HPr4 HR4 HG4 hsz4 hsw4 hsz3 rfl
 obtain ⟨⟨c0', c1', c2', c3', c4', c5', c6'⟩, d0', d1', d2', d3', d4', d5', d6'⟩ := pfac HP5
 obtain ⟨⟨i0', i1', i2', i3'⟩, j1', j2', j3'⟩ := qfac HR5
 go_wp2_with fail
 go_at_call 83
 refine (rtxt_is g a cap b ⟨k1, c + 1, 0⟩ 12 w5 HR5.out (by omega)).mono ?_
 rintro e w6 ⟨rfl, hR, hg⟩
 rw [HKcl.out] at hR ⊢
 simp only at hR ⊢
 obtain ⟨HP6, hsw6⟩ := pafter HP5 hsw5 hsz3 hglt hg
 have HR6 : Hid (Qdr w6 g a cap b ⟨na2, nc2, ny2⟩) := hR
 obtain ⟨HG6, HPr6, hsz6⟩ := rafter HG5 HPr5 hsz5 hglt hg
 clear hR hg
 clear i0 i1 i2 i3 j1 j2 j3 c0 c1 c2 c3 c4 c5 c6 d0 d1 d2 d3 d4 d5 d6
 clear c0' c1' c2' c3' c4' c5' c6' d0' d1' d2' d3' d4' d5' d6' i0' i1' i2' i3' j1' j2' j3'
 obtain ⟨⟨i0, i1, i2, i3⟩, j1, j2, j3⟩ := qfac HR6
 obtain ⟨⟨c0, c1, c2, c3, c4, c5, c6⟩, d0, d1, d2, d3, d4, d5, d6⟩ := pfac HP6
 obtain ⟨w7, hw7, HP7, HPr7, HR7, HG7, hsz7, hsw7⟩ := pstore (off := 1) (v := .string (str cl)) ⟨7, cl, 0, 0, [], (none, 0, 0), none, 0, 0⟩ H HP6 HPr6 HR6 HG6 hsz6 hsw6 hsz3 rfl
 obtain ⟨⟨c0', c1', c2', c3', c4', c5', c6'⟩, d0', d1', d2', d3', d4', d5', d6'⟩ := pfac HP7
 obtain ⟨⟨i0', i1', i2', i3'⟩, j1', j2', j3'⟩ := qfac HR7
 go_wp2_with fail
 go_at_call 81
 refine (rnum_is g a cap b ⟨na2, nc2, ny2⟩ w7 HR7.out).mono ?_
 rintro e w8 ⟨rfl, hR, hg⟩
 rw [HKV.out] at hR ⊢
 simp only at hR ⊢
 obtain ⟨HP8, hsw8⟩ := pafter HP7 hsw7 hsz3 hglt hg
 have HR8 : Hid (Qdr w8 g a cap b ⟨na3, nc3, ny3⟩) := hR
 obtain ⟨HG8, HPr8, hsz8⟩ := rafter HG7 HPr7 hsz7 hglt hg
 clear hR hg
 clear i0 i1 i2 i3 j1 j2 j3 c0 c1 c2 c3 c4 c5 c6 d0 d1 d2 d3 d4 d5 d6
 clear c0' c1' c2' c3' c4' c5' c6' d0' d1' d2' d3' d4' d5' d6' i0' i1' i2' i3' j1' j2' j3'
 by_cases hv : 8 < V
 ·have hy3 : ny3 = 0 := Pd.mnum_no HKV.out (by omega)
  subst hy3
  have t9 : (8 : Int) < (V : Int) := by omega
  have HR4' : Hid (r.2.2.2 = 4) := (HT7.out.2 hv : r.2.2.2 = 4)
  clear HT7
  obtain ⟨⟨i0, i1, i2, i3⟩, j1, j2, j3⟩ := qfac HR8
  obtain ⟨⟨c0, c1, c2, c3, c4, c5, c6⟩, d0, d1, d2, d3, d4, d5, d6⟩ := pfac HP8
  go_wp2_with fail
  go_at_call 80
  refine (rrefuse_is g a cap b ⟨na3, nc3, 0⟩ 4 4 w8 HR8.out rfl).mono ?_
  rintro e w9 ⟨rfl, hR, hg⟩
  rw [show Pd.refu 4 ⟨na3, nc3, 0⟩ = ⟨na3, nc3, 4⟩ from rfl] at hR
  obtain ⟨HP9, hsw9⟩ := pafter HP8 hsw8 hsz3 hglt hg
  have HR9 : Hid (Qdr w9 g a cap b ⟨na3, nc3, 4⟩) := hR
  obtain ⟨HG9, HPr9, hsz9⟩ := rafter HG8 HPr8 hsz8 hglt hg
  clear hR hg
  clear i0 i1 i2 i3 j1 j2 j3 c0 c1 c2 c3 c4 c5 c6 d0 d1 d2 d3 d4 d5 d6
  obtain ⟨⟨i0, i1, i2, i3⟩, j1, j2, j3⟩ := qfac HR9
  obtain ⟨⟨c0, c1, c2, c3, c4, c5, c6⟩, d0, d1, d2, d3, d4, d5, d6⟩ := pfac HP9
  go_wp2_with fail
  clear i0 i1 i2 i3 j1 j2 j3 c0 c1 c2 c3 c4 c5 c6 d0 d1 d2 d3 d4 d5 d6
  go_loopw [8] (fun mv wr => mv = .int .u64 (V : Int) ∧ wr = w9) (fun mv wr => 0)
  case atStart => exact ⟨rfl, rfl⟩
  case round =>
   obtain ⟨rfl, hwr⟩ := hrel
   replace hwr := hwr.symm
   subst hwr
   have t8 : (0 : Int) < (V : Int) := by omega
   obtain ⟨⟨i0, i1, i2, i3⟩, j1, j2, j3⟩ := qfac HR9
   obtain ⟨⟨c0, c1, c2, c3, c4, c5, c6⟩, d0, d1, d2, d3, d4, d5, d6⟩ := pfac HP9
   go_wp2_with fail
   clear i0 i1 i2 i3 j1 j2 j3 c0 c1 c2 c3 c4 c5 c6 d0 d1 d2 d3 d4 d5 d6
   go_loopw [7] (fun mv wr => mv = .int .u64 (0) ∧ wr = w9) (fun mv wr => 0)
   case atStart => exact ⟨rfl, rfl⟩
   case round =>
    obtain ⟨rfl, hwr⟩ := hrel
    replace hwr := hwr.symm
    subst hwr
    obtain ⟨⟨i0, i1, i2, i3⟩, j1, j2, j3⟩ := qfac HR9
    obtain ⟨⟨c0, c1, c2, c3, c4, c5, c6⟩, d0, d1, d2, d3, d4, d5, d6⟩ := pfac HP9
    obtain ⟨z0, z1, z2, z3, z4, z5, z6⟩ := HPr9.out.fro
    obtain ⟨y0, y1, y2, y3, y4, y5, y6⟩ := HPr9.out.all
    go_wp2_with fail
    have hP9 := HPr9.out.store ⟨7, cl, 0, 0, [], (none, 0, 0), none, 0, 0⟩
    have hg9 : w9.grownBy (pset w9 w.heap.size ⟨7, cl, 0, 0, [], (none, 0, 0), none, 0, 0⟩) (some w.heap.size) := grown_pset _ _ _
    refine bodyPost_ret (v := pvv ⟨7, cl, 0, 0, [], (none, 0, 0), none, 0, 0⟩) (res_pred Tryz.results51 rfl hP9) rfl (RPo.mk _ (Pr.mk' ⟨7, cl, 0, 0, [], []⟩ []) ⟨na3, nc3, 4⟩ rfl ?_ ?_ ?_ ?_)
    ·rw [Pd.lay_mk]; exact ⟨⟨⟨rfl, rfl, rfl, rfl, rfl⟩, rfl, Rd.nil _, fun h0 => by simp at h0⟩, rfl, fun h0 => by simp at h0, [], RdW.nil _, Pd.Lays.nil _ _⟩
    ·exact Qdr.new H.out HR9.out hg9 (fun j hj => by simp at hj; omega)
    ·exact grown_trN HG9.out hg9 (fun j hj => .inr (by simp at hj; omega))
    ·rw [HRR.out]; exact Pd.rel_e HR4'.out (by decide) rfl
 ·have t9 : ¬ (8 : Int) < (V : Int) := by omega
  obtain ⟨⟨i0, i1, i2, i3⟩, j1, j2, j3⟩ := qfac HR8
  obtain ⟨⟨c0, c1, c2, c3, c4, c5, c6⟩, d0, d1, d2, d3, d4, d5, d6⟩ := pfac HP8
  go_wp2_with fail
  clear i0 i1 i2 i3 j1 j2 j3 c0 c1 c2 c3 c4 c5 c6 d0 d1 d2 d3 d4 d5 d6
  obtain ⟨W0, hW0⟩ : ∃ W0, W0 = w8.heap.size := ⟨_, rfl⟩
  have hb0 : w3.heap.size < W0 := by rw [hW0]; exact hsw8
  have HK0 : Hid (SetAt w3.heap.size ⟨7, cl, 0, 0, [], (none, 0, 0), none, 0, 0⟩ W0 w8 0 []) := (⟨(none, 0, 0), HP8.out, rfl, (World.ownsRow_nil _ _ _ _ : OwnR 9 st w8 W0 (.slice none 0 0) [])⟩ : SetAt _ _ _ w8 0 [])
  have HTI0 : Hid (Pd.TI b cl (c + 1) r V [] ⟨na3, nc3, ny3⟩) := (HT7.out.1 (by omega) : Pd.TI _ _ _ _ _ _ _)
  have HS0 : Hid (W0 ≤ w8.heap.size) := (by omega : W0 ≤ w8.heap.size)
  have HML0 : Hid (V + ([] : List (List UInt8)).length ≤ 8) := (by simp only [List.length_nil]; omega : V + ([] : List (List UInt8)).length ≤ 8)
  clear hW0 HT7
  go_loopw [8] (fun mv wr => S7 b cl (c + 1) r g a cap w3.heap.size W0 ⟨7, cl, 0, 0, [], (none, 0, 0), none, 0, 0⟩ w mv wr) (fun mv wr => (intOf mv).toNat)
  case atStart => exact S7.mk V [] ⟨na3, nc3, ny3⟩ rfl HML0.out HK0.out HR8.out HTI0.out HPr8.out HG8.out HS0.out
  case round =>
   obtain ⟨m, L, ⟨at', cc, y⟩, rfl, hml, hKr, hRr, hTI, hPrr, hGr, hSr⟩ := hrel
   have HML : Hid (m + L.length ≤ 8) := hml
   have HRr : Hid (Qdr wr g a cap b ⟨at', cc, y⟩) := hRr
   have HTI : Hid (Pd.TI b cl (c + 1) r m L ⟨at', cc, y⟩) := hTI
   have HPrr : Hid (PAt wr w.heap.size PV.zero) := hPrr
   have HGr : Hid (w.grownBy wr (some g)) := hGr
   have HSr : Hid (W0 ≤ wr.heap.size) := hSr
   clear HK0 HTI0 HML0 HS0 hml hRr hTI hPrr hGr hSr
   obtain ⟨⟨ka, kn, kc⟩, hPr, hkn, hOr⟩ := hKr
   simp only at hkn hPr
   have HPv : Hid (PAt wr w3.heap.size ⟨7, cl, 0, 0, [], (ka, kn, kc), none, 0, 0⟩) := (hPr : PAt _ _ _)
   have HOv : Hid (OwnR 9 st wr W0 (.slice ka kn kc) L) := hOr
   have HKN : Hid (kn = L.length) := hkn
   clear hPr hOr hkn
   by_cases hgo : 0 < m ∧ y = 0
   ·obtain ⟨hm0, hy⟩ := hgo
    subst hy
    obtain ⟨m, rfl⟩ : ∃ m', m = m' + 1 := ⟨m - 1, by omega⟩
    obtain ⟨i0, i1, i2, i3⟩ := HRr.out.1.all
    obtain ⟨c0, c1, c2, c3, c4, c5, c6⟩ := HPv.out.all
    simp only at i1 i2 i3 c0 c1 c2 c3 c4 c5 c6
    have t1 : (0 : Int) < ((m + 1 : Nat) : Int) := by omega
    obtain ⟨⟨TT, s'⟩, hT⟩ : ∃ x, Pd.mtxt b 40 ⟨at', cc, 0⟩ = x := ⟨_, rfl⟩
    have HTS : Hid (Pd.TI b cl (c + 1) r m (L ++ [TT]) s') := (by have h1 := HTI.out.step rfl; rw [hT] at h1; exact h1 : Pd.TI _ _ _ _ _ _ _)
    have HC : Hid (Calls Tryz.prog 83 #[.pointer (some ⟨g, 0, none⟩), .int .i64 40] wr.drew fun x w' => x = .returned (.string (str TT)) ∧ Qdr w' g a cap b s' ∧ wr.drew.grownBy w' (some g)) := (by have h1 := rtxt_is g a cap b ⟨at', cc, 0⟩ 40 wr.drew (HRr.out.below (Ex.drew wr)) (by omega); rw [hT] at h1; exact h1 : Calls _ _ _ _ _)
    have HOB : Hid (∀ q, (Value.slice ka kn kc).ownBlock = some q → W0 ≤ q ∧ q < wr.heap.size) := (World.ownsRow.lt HOv.out : ∀ q, _)
    have hre : ∀ u : World, u = u := fun _ => rfl
    clear hT
    go_upto_region 40 with fail
    refine Rg.Fr.wp_tail_two (List.take 5 _) (List.drop 5 _) (List.take_append_drop 5 _).symm [.inl (Value.pointer (some ⟨w3.heap.size, 5, none⟩)), .inl (Value.slice ka kn kc), .inl (Value.pointer (some ⟨g, 0, none⟩)), .inr (fun _ _ => True), .inr (fun _ _ => True)] 136 (by kernel_rfl) rfl (by kernel_rfl) (by kernel_rfl) (by kernel_rfl) (by kernel_rfl) (by decide) (by kernel_rfl) ?st 3 4 111 112 (by decide) _ _ rfl rfl rfl rfl (by kernel_rfl) rfl rfl [0, 1, 2] (fun w' => PAt w' w3.heap.size ⟨7, cl, 0, 0, [], (ka, kn, kc), none, 0, 0⟩) (fun v w' => v = .string (str TT) ∧ Qdr w' g a cap b s' ∧ wr.drew.grownBy w' (some g)) (fun v w' => ∃ wz, v = .slice (some ⟨wz.heap.size, 0, none⟩) 1 1 ∧ w' = wz.alloc (.cells #[.string (str TT)] 9) ∧ Qdr wz g a cap b s' ∧ wr.drew.grownBy wz (some g)) ?h0 ?h1 ?h2 ?rx ?ry ?goods ?fin
    case st => exact ⟨fun _ _ _ _ _ => trivial, fun _ _ _ _ _ => trivial, trivial⟩
    case h0 => exact HPv.out.below (Ex.drew wr)
    case h1 =>
     rintro v w' ⟨_, _, hg⟩
     exact (HPv.out.below (Ex.drew wr)).far hg (by simp; omega)
    case h2 =>
     rintro v w' ⟨wz, _, rfl, _, hg⟩
     exact ((HPv.out.below (Ex.drew wr)).far hg (by simp; omega)).alloc _
    case rx =>
     intro a1 hlk
     have e1 : a1.eval (.tmp 110) = .pointer (some ⟨g, 0, none⟩) := hlk 110 (by decide)
     refine Rg.Fr.wp_call_of Tryz.func83 (by kernel_rfl) rfl rfl ?_
     have e3 : (#[Operand.tmp 110, Operand.const (.int .i64 40)].map a1.eval) = #[.pointer (some ⟨g, 0, none⟩), .int .i64 40] := by simp [e1]; rfl
     rw [e3]
     exact HC.out.mono fun e w' ⟨h1, h2, h3⟩ => ⟨_, h1, _, rfl, rfl, h2, h3⟩
    case ry =>
     rintro a1 w' ⟨h1, h2, h3⟩
     exact Rg.Fr.wp_val_of (run_str1 a1.eval w' (.tmp 111) TT rfl h1) ⟨_, rfl, w', rfl, rfl, h2, h3⟩
    case goods =>
     refine ⟨fun _ _ => Rg.good_field hre rfl rfl rfl (fun wx hC => by go_simp), ?_⟩
     refine ⟨fun _ _ => Rg.good_load hre rfl rfl rfl (fun wx hC => by have hz := (hC (by decide)).all.2.2.2.2.2.1; simp only at hz; go_simp), ?_⟩
     refine ⟨fun _ _ => Rg.good_move hre rfl rfl rfl, ?_⟩
     refine ⟨fun h => absurd rfl h, ?_⟩
     refine ⟨fun _ h => absurd rfl h, ?_⟩
     exact trivial
    case fin =>
     intro wx
     simp only [Rg.later, List.take_succ_cons, List.take_zero, List.drop_succ_cons, List.drop_zero, Act.put, List.setIfInBounds_toArray, List.set_cons_succ, List.set_cons_zero]
     intro v131 _ v132 _
     rintro ⟨wz, e, rfl, hRz, hgz⟩
     have e' : v132 = .slice (some ⟨wz.heap.size, 0, none⟩) 1 1 := e
     subst e'
     obtain ⟨w9', hw9'⟩ : ∃ W, wz.alloc (.cells #[.string (str TT)] 9) = W := ⟨_, rfl⟩
     rw [hw9']
     have hX4 : Ex wz w9' := by rw [← hw9']; exact (Below.refl _ _).alloc (Nat.le_refl _) _
     have hgz' : wr.grownBy wz (some g) := grown_tr ((Ex.drew wr).grownBy _) hgz
     have hsz' := hgz'.size
     have hS := HSr.out
     have HT4 : Hid (Rd st w9' (some ⟨wz.heap.size, 0, none⟩) 1 [TT]) := (by rw [← hw9']; exact Rd.laid wz 9 [TT] (by simp) : Rd st _ _ _ _)
     have HP4 : Hid (PAt w9' w3.heap.size ⟨7, cl, 0, 0, [], (ka, kn, kc), none, 0, 0⟩) := ((HPv.out.far hgz' (by simp; omega)).below hX4 : PAt _ _ _)
     have HO4 : Hid (OwnR 9 st w9' W0 (.slice ka kn kc) L) := ((HOv.out.far' hgz' (fun q hq e => by have h1 := (HOB.out q hq).1; simp at e; omega)).later hX4 : OwnR 9 st _ _ _ _)
     have HR4 : Hid (Qdr w9' g a cap b s') := (hRz.below hX4 : Qdr _ _ _ _ _ _)
     have HPr4 : Hid (PAt w9' w.heap.size PV.zero) := ((HPrr.out.far hgz' (by simp; omega)).below hX4 : PAt _ _ _)
     have HG4 : Hid (w.grownBy w9' (some g)) := (grown_tr (grown_tr HGr.out hgz') (hX4.grownBy _) : World.grownBy _ _ _)
     have HS4 : Hid (W0 ≤ w9'.heap.size) := (Nat.le_trans (Nat.le_trans hS hsz') hX4.size : W0 ≤ w9'.heap.size)
     obtain ⟨M, hM⟩ : ∃ M, (L ++ [TT]).length = M := ⟨_, rfl⟩
     have HM : Hid ((L ++ [TT]).length = M) := hM
     have HLL : Hid (L.length + 1 ≤ 9) := (by have := HML.out; omega : L.length + 1 ≤ 9)
     have HML4 : Hid (m + (L ++ [TT]).length ≤ 8) := (by have := HML.out; simp only [List.length_append, List.length_cons, List.length_nil]; omega : m + (L ++ [TT]).length ≤ 8)
     have hstep : ∀ v9 w9, OwnR 9 st w9 W0 v9 (L ++ [TT]) → World.grownBy w9' w9 (Value.slice ka kn kc).ownBlock → ∃ a9 c9 w10, v9 = .slice a9 M c9 ∧ w9.setCell ⟨w3.heap.size, 5, none⟩ (.slice a9 M c9) = w10 ∧ Hid (SetAt w3.heap.size ⟨7, cl, 0, 0, [], (none, 0, 0), none, 0, 0⟩ W0 w10 (L ++ [TT]).length (L ++ [TT])) ∧ Hid (Qdr w10 g a cap b s') ∧ Hid (PAt w10 w.heap.size PV.zero) ∧ Hid (w.grownBy w10 (some g)) ∧ Hid (W0 ≤ w10.heap.size) ∧ w9.cell? ⟨w3.heap.size, 5, none⟩ = some (.slice ka kn kc) ∧ w9.frozen? ⟨w3.heap.size, 5, none⟩ = false := by
      intro v9 w9 ho9 hg9
      obtain ⟨hP9, a9, c9, rfl, hK9⟩ := set_push (kd := (ka, kn, kc)) (X := ⟨7, cl, 0, 0, [], (none, 0, 0), none, 0, 0⟩) HP4.out HO4.out ho9 hg9 (by omega)
      rw [HM.out] at hK9 ⊢
      have hne : ∀ j, j < W0 → (Value.slice ka kn kc).ownBlock ≠ some j := fun j hj e => by have := (HOB.out j e).1; omega
      have hgs : w9.grownBy (w9.setCell ⟨w3.heap.size, 5, none⟩ (.slice a9 M c9)) (some w3.heap.size) := grown_set1 _ _ _ _
      refine ⟨a9, c9, _, rfl, rfl, hK9, ?_, (HPr4.out.far hg9 (hne _ (by omega))).other (by omega), ?_, ?_, hP9.all.2.2.2.2.2.1, hP9.fro.2.2.2.2.2.1⟩
      ·exact (Qdr.new H.out (Qdr.new H.out HR4.out hg9 (fun j hj => by have := (HOB.out j hj).1; omega)) hgs (fun j hj => by simp at hj; omega) : Qdr _ _ _ _ _ _)
      ·exact (grown_trN (grown_trN HG4.out hg9 (fun j hj => .inr (by have := (HOB.out j hj).1; omega))) hgs (fun j hj => .inr (by simp at hj; omega)) : World.grownBy _ _ _)
      ·have h1 := HS4.out; have h2 := hg9.size; have h3 := hgs.size; show W0 ≤ _; omega
     clear hRz hgz hX4 hgz' hw9' hsz' hS hM e
     refine wpList_append_rd_at (e := 9) (enc := st) rfl (.tmp 109) (.tmp 112) 30 rfl [] 16 Tryz.underlying30 Tryz.info9 rfl (fun _ => rfl) W0 (.slice ka kn kc) L rfl HO4.out (some ⟨wz.heap.size, 0, none⟩) _ _ [TT] rfl rfl HT4.out (by have := HLL.out; simp [maxLen]; omega) (by have := HLL.out; simp; omega) HS4.out ?_
     intro v9 w9 ho9 hg9 hat9
     obtain ⟨a9, c9, w10, rfl, hw10, HK10, HR10, HP10, HG10, HS10, n6, n7⟩ := hstep v9 w9 ho9 hg9
     clear ho9 hg9 hat9 hstep
     have hmb : 0 ≤ (m : Int) ∧ (m : Int) ≤ 40 := by have := HML.out; omega
     go_wp2_with fail
     go_roundw
     case rel => exact S7.mk m (L ++ [TT]) s' (by first | rfl | go_num) HML4.out HK10.out HR10.out HTS.out HP10.out HG10.out HS10.out
     case measure => simp [intOf] <;> omega
   ·have HGO : Hid (m = 0 ∨ y ≠ 0) := (by omega : m = 0 ∨ y ≠ 0)
    have HKB : Hid (∀ q off, ka = some ⟨q, off, none⟩ → W0 ≤ q) := (fun q off e => (World.ownsRow.lt HOv.out q (by rw [e]; rfl)).1 : ∀ q off, ka = some ⟨q, off, none⟩ → W0 ≤ q)
    have HR3 : Hid (Rd st wr ka kc L) := (HOv.out.rdS : Rd st _ _ _ _)
    obtain ⟨wq, hwq⟩ : ∃ W, W = wr := ⟨_, rfl⟩
    subst hwq
    have HRq : Hid (Qdr wq g a cap b ⟨at', cc, y⟩) := HRr
    have HPrq : Hid (PAt wq w.heap.size PV.zero) := HPrr
    have HPq : Hid (PAt wq w3.heap.size ⟨7, cl, 0, 0, [], (ka, kn, kc), none, 0, 0⟩) := HPv
    have HGq : Hid (w.grownBy wq (some g)) := HGr
    have HSq : Hid (W0 ≤ wq.heap.size) := HSr
    clear HRr HPrr HPv HGr HSr
    obtain ⟨i0, i1, i2, i3⟩ := HRq.out.1.all
    obtain ⟨j1, j2, j3⟩ := HRq.out.1.fro
    obtain ⟨c0, c1, c2, c3, c4, c5, c6⟩ := HPq.out.all
    obtain ⟨d0, d1, d2, d3, d4, d5, d6⟩ := HPq.out.fro
    simp only at i1 i2 i3 c0 c1 c2 c3 c4 c5 c6
    by_cases hm0 : m = 0
    ·have t1 : ¬ (0 : Int) < (m : Int) := by omega
     clear hgo hm0
     go_wp2_with fail
     clear i0 i1 i2 i3 j1 j2 j3 c0 c1 c2 c3 c4 c5 c6 d0 d1 d2 d3 d4 d5 d6
     go_loopw [7] (fun mv wr => mv = .int .u64 (0) ∧ wr = wq) (fun mv wr => 0)
     case atStart => exact ⟨rfl, rfl⟩
     case round =>
      obtain ⟨rfl, hwr⟩ := hrel
      replace hwr := hwr.symm
      subst hwr
      obtain ⟨⟨i0, i1, i2, i3⟩, j1, j2, j3⟩ := qfac HRq
      obtain ⟨⟨c0, c1, c2, c3, c4, c5, c6⟩, d0, d1, d2, d3, d4, d5, d6⟩ := pfac HPq
      obtain ⟨z0, z1, z2, z3, z4, z5, z6⟩ := HPrq.out.fro
      obtain ⟨y0, y1, y2, y3, y4, y5, y6⟩ := HPrq.out.all
      go_wp2_with fail
      have hP9 := HPrq.out.store ⟨7, cl, 0, 0, [], (ka, kn, kc), none, 0, 0⟩
      have hg9 : wq.grownBy (pset wq w.heap.size ⟨7, cl, 0, 0, [], (ka, kn, kc), none, 0, 0⟩) (some w.heap.size) := grown_pset _ _ _
      refine bodyPost_ret (v := pvv ⟨7, cl, 0, 0, [], (ka, kn, kc), none, 0, 0⟩) (res_pred Tryz.results51 rfl hP9) rfl (RPo.mk _ (Pr.mk' ⟨7, cl, 0, 0, [], L⟩ []) ⟨at', cc, y⟩ rfl ?_ ?_ ?_ ?_)
      ·rw [Pd.lay_mk]; exact ⟨⟨⟨rfl, rfl, rfl, rfl, rfl⟩, HKN.out, rd_far HR3.out hg9 (fun _ q off e => by have := HKB.out q off e; simp; omega), fun _ q off e => by have := HKB.out q off e; omega⟩, rfl, fun h0 => by simp at h0, [], RdW.nil _, Pd.Lays.nil _ _⟩
      ·exact Qdr.new H.out HRq.out hg9 (fun j hj => by simp at hj; omega)
      ·exact grown_trN HGq.out hg9 (fun j hj => .inr (by simp at hj; omega))
      ·rw [HRR.out]; exact (HTI.out.fin (f := f) (by omega) HGO.out).fin (.inl rfl)
    ·have t1 : (0 : Int) < (m : Int) := by omega
     have t2 : ((y : Int) == 0) = false := beq_eq_false_iff_ne.2 (by omega)
     clear hgo hm0
     go_wp2_with fail
     clear i0 i1 i2 i3 j1 j2 j3 c0 c1 c2 c3 c4 c5 c6 d0 d1 d2 d3 d4 d5 d6
     go_loopw [7] (fun mv wr => mv = .int .u64 (0) ∧ wr = wq) (fun mv wr => 0)
     case atStart => exact ⟨rfl, rfl⟩
     case round =>
      obtain ⟨rfl, hwr⟩ := hrel
      replace hwr := hwr.symm
      subst hwr
      obtain ⟨⟨i0, i1, i2, i3⟩, j1, j2, j3⟩ := qfac HRq
      obtain ⟨⟨c0, c1, c2, c3, c4, c5, c6⟩, d0, d1, d2, d3, d4, d5, d6⟩ := pfac HPq
      obtain ⟨z0, z1, z2, z3, z4, z5, z6⟩ := HPrq.out.fro
      obtain ⟨y0, y1, y2, y3, y4, y5, y6⟩ := HPrq.out.all
      go_wp2_with fail
      have hP9 := HPrq.out.store ⟨7, cl, 0, 0, [], (ka, kn, kc), none, 0, 0⟩
      have hg9 : wq.grownBy (pset wq w.heap.size ⟨7, cl, 0, 0, [], (ka, kn, kc), none, 0, 0⟩) (some w.heap.size) := grown_pset _ _ _
      refine bodyPost_ret (v := pvv ⟨7, cl, 0, 0, [], (ka, kn, kc), none, 0, 0⟩) (res_pred Tryz.results51 rfl hP9) rfl (RPo.mk _ (Pr.mk' ⟨7, cl, 0, 0, [], L⟩ []) ⟨at', cc, y⟩ rfl ?_ ?_ ?_ ?_)
      ·rw [Pd.lay_mk]; exact ⟨⟨⟨rfl, rfl, rfl, rfl, rfl⟩, HKN.out, rd_far HR3.out hg9 (fun _ q off e => by have := HKB.out q off e; simp; omega), fun _ q off e => by have := HKB.out q off e; omega⟩, rfl, fun h0 => by simp at h0, [], RdW.nil _, Pd.Lays.nil _ _⟩
      ·exact Qdr.new H.out HRq.out hg9 (fun j hj => by simp at hj; omega)
      ·exact grown_trN HGq.out hg9 (fun j hj => .inr (by simp at hj; omega))
      ·rw [HRR.out]; exact (HTI.out.fin (f := f) (by omega) HGO.out).fin (.inl rfl)
end Go.Proofs.YtbdjccmlgdfapaaGreat
