/-
  The walk of RowGrows.
-/
import Derived.Test.YtghnbohplonhoaaRknown
import Derived.Test.YtghnbohplonhoaaBook
import Derived.Test.YtghnbohplonhoaaRcells
import Derived.Test.YtghnbohplonhoaaRrgrow
namespace Go.Proofs.Ytghnbohplonhoaa
open Go.RowKit
set_option linter.unusedVariables false
theorem field_k (X : Ce) (w : World) : (Instr.field 25 (cv X) 1).run Try.prog w = .ok (.int .i64 X.k) w := by
  simp [Instr.field, run_underlying Try.underlying25, go_sem, cv, asAgg]
namespace Rw
theorem cols_small {l : List Co} (h : colsOk l = true) : (∀ c ∈ l, c.nm.length ≤ maxLen ∧ In64 c.k) ∧ l.length ≤ 12 := by
  obtain ⟨h1, _, h3⟩ := (colsOk_iff l).1 h
  refine ⟨fun c hc => ?_, h3⟩
  have hk := h1 c hc
  unfold colOk at hk
  rw [Bool.and_eq_true, name_iff, Bool.or_eq_true, decide_eq_true_eq, decide_eq_true_eq] at hk
  unfold maxLen
  refine ⟨by omega, ?_⟩
  rcases hk.2 with e | e <;> rw [e] <;> exact ⟨by omega, by omega⟩
theorem short_len (l : List Rw) : (short l 10).length ≤ 10 := by simp [short]; omega
theorem short_ok {l : List Rw} (h : ∀ r ∈ l, RowOk r) : ∀ r ∈ short l 10, RwOk r := by
  intro r hr
  simp only [short, List.mem_map] at hr
  obtain ⟨x, hx, rfl⟩ := hr
  exact shr_ok (h x (List.mem_of_mem_take hx))
/-- Each column that has grown was there, or a cell has its name and kind. -/
theorem grown_had {K C : List Co} {L : List Rw} {k : Nat} (h : grow K L = (C, 0, k)) {y : Co} (hy : y ∈ C) : (∃ m x, m < K.length ∧ K[m]? = some x ∧ x = y) ∨ ∃ m r, m < L.length ∧ L[m]? = some r ∧ (cell r.c y.nm).k = y.k := by
  obtain ⟨_, _, _, hm, hr⟩ := grow_ok h
  rcases (hm y).1 hy with h1 | ⟨r, h1, x, h2, h3⟩
  · obtain ⟨m, hm⟩ := List.getElem?_of_mem h1
    exact .inl ⟨m, y, (List.getElem?_eq_some_iff.1 hm).1, hm, rfl⟩
  · obtain ⟨m, hm⟩ := List.getElem?_of_mem h1
    obtain ⟨n, hn⟩ := List.getElem?_of_mem h2
    refine .inr ⟨m, r, (List.getElem?_eq_some_iff.1 hm).1, hm, ?_⟩
    have hrise := ((right_iff r).1 (hr r h1)).2.2
    rw [h3]
    show (cell r.c x.col).k = x.k
    rw [cell_in hrise hn]
end Rw
end Go.Proofs.Ytghnbohplonhoaa
namespace Go.Proofs.Ytghnbohplonhoaa.rowGrows
open Go.RowKit Go.Proofs.Ytghnbohplonhoaa
set_option linter.unusedVariables false
set_option linter.unusedSimpArgs false
set_option maxRecDepth 100000 in
set_option maxHeartbeats 8000000 in
theorem walk (p0 : Option Addr) (c0 : Nat) (l0 : List Co) (p1 : Option Addr) (c1 : Nat) (l1 : List Rw) (a2 : Int) (w : World) (b0 : RdK w p0 c0 l0) (m0 : ∀ c ∈ l0, ColOk c) (b1 : RdR w p1 c1 l1) (m1 : ∀ r ∈ l1, RowOk r ∧ r.c.length ≤ 2932031007402) (w2 : -9223372036854775808 ≤ a2 ∧ a2 ≤ 9223372036854775807) :
    Calls Try.prog 7 #[.slice p0 l0.length c0, .slice p1 l1.length c1, .int .i64 a2] w fun e w' => e = .returned (.bool true) ∧ Below w.heap.size w w' := by
  have HB0 : Hid (RdK w p0 c0 l0) := b0
  have HB1 : Hid (RdR w p1 c1 l1) := b1
  have hb0 := b0.1
  have hb01 := b0.2.1
  unfold maxLen at hb01
  obtain ⟨L, hL⟩ : ∃ L, Rw.short l1 10 = L := ⟨_, rfl⟩
  have HL : Hid (Rw.short l1 10 = L) := hL
  have hLl : L.length ≤ 10 := by rw [← hL]; exact Rw.short_len l1
  have HLok : Hid (∀ r ∈ L, RwOk r) := (by rw [← hL]; exact Rw.short_ok (fun r hr => (m1 r hr).1) : ∀ r ∈ L, RwOk r)
  obtain ⟨K, hK⟩ : ∃ K, l0.take 14 = K := ⟨_, rfl⟩
  have HKok : Hid (∀ c ∈ K, c.nm.length ≤ maxLen ∧ In64 c.k) := (fun c hc => by rw [← hK] at hc; exact m0 c (List.mem_of_mem_take hc) : ∀ c ∈ K, c.nm.length ≤ maxLen ∧ In64 c.k)
  have HRK : Hid (RdK w p0 c0 K) := (by rw [← hK]; exact RdW.take b0 14 : RdK w p0 c0 K)
  have HKe : Hid (l0.take 14 = K) := hK
  have hKl : K.length ≤ 14 := by rw [← hK]; simp; omega
  have HM1 : Hid (∀ r ∈ l1, r.c.length ≤ 2932031007402) := (fun r hr => (m1 r hr).2 : ∀ r ∈ l1, r.c.length ≤ 2932031007402)
  clear b0 b1 m0 m1 hL hK
  go_enter Try.func7, Try.ntmps7
  go_wp2_with fail
  refine (kshort_is _ _ c1 l1 10 _ rfl HB1.out (by omega) HM1.out).mono ?_
  rintro e w3 ⟨v, rfl, hv, hx3⟩
  rw [HL.out] at hv
  obtain ⟨a1, c3, rfl, hR3⟩ := hv.rd
  have HRL : Hid (RdR w3 a1 c3 L) := hR3
  have HX3 : Hid (Ex w w3) := hx3
  have hc3 := hR3.bounds.1
  have hc31 := hR3.bounds.2.1
  unfold maxLen at hc31
  clear hv hR3 hx3
  obtain ⟨⟨C, e0, k0⟩, hG⟩ : ∃ z, Rw.grow K L = z := ⟨_, rfl⟩
  have HG : Hid (Rw.grow K L = (C, e0, k0)) := hG
  clear hG
  by_cases hbig : 14 < l0.length
  · have tb : decide (14 < (l0.length : Int)) = true := by simp; omega
    have tb2 : decide (14 < l0.length) = true := by simp; omega
    have HKn : Hid (14 = K.length) := (by rw [← HKe.out]; simp; omega : 14 = K.length)
    have h14 : (14 : Int) ≤ (c0 : Int) := by omega
    go_wp2_with fail
    refine (f_grow p0 14 c0 K a1 L.length c3 L _ HKn.out rfl (RdW.below HRK.out HX3.out) HRL.out HKok.out HLok.out (by omega) (by omega) C e0 k0 HG.out).mono ?_
    rintro e w4 ⟨pc, cC, rfl, hbC, hx4⟩
    have HX34 : Hid (Ex w3 w4) := hx4
    have HRC : Hid (RdK w4 pc cC C) := hbC
    have hcC := hbC.1
    have hcC2 := hbC.2.1
    unfold maxLen at hcC2
    clear hx4 hbC
    by_cases he : e0 = 0
    · subst he
      obtain ⟨hK1, hk0, hC1, _, _⟩ := Rw.grow_ok HG.out
      subst hk0
      have HCok : Hid (Rw.colsOk C = true) := hC1
      obtain ⟨hCs, hCl⟩ := Rw.cols_small hC1
      have HCs : Hid (∀ c ∈ C, c.nm.length ≤ maxLen ∧ In64 c.k) := hCs
      clear hK1 hC1 hCs
      go_wp2_with fail
      refine (f_cols pc _ cC C _ rfl HRC.out HCs.out true HCok.out).mono ?_
      rintro e w5 ⟨rfl, hx5⟩
      have HX35 : Hid (Ex w3 w5) := HX34.out.trans hx5
      have HRC5 : Hid (RdK w5 pc cC C) := RdW.below HRC.out hx5
      clear hx5
      go_wp2_with fail
      refine (within_any a2 _ _ w2.1 w2.2 (by omega) (by omega)).mono ?_
      rintro e wq ⟨k, hk, rfl, hw⟩
      have hw' := hw.symm; clear hw; subst hw'
      have hkL : k ≤ L.length := by omega
      have hkc : (k : Int) ≤ (c3 : Int) := by omega
      obtain ⟨D, hD1, hD2⟩ := Rw.grow_cut (cols := K) (l := L.take k) (m := L.drop k) (c := C) (k := 0) (by rw [List.take_append_drop]; exact HG.out)
      have HD1 : Hid (Rw.grow K (L.take k) = (D, 0, 0)) := hD1
      have HD2 : Hid (Rw.grow D (L.drop k) = (C, 0, 0)) := hD2
      have HG2 : Hid (Rw.grow C L = (C, 0, 0)) := Rw.grow_again HG.out
      obtain ⟨hDs, hDl⟩ := Rw.cols_small (Rw.grow_ok hD1).2.2.1
      have HDs : Hid (∀ c ∈ D, c.nm.length ≤ maxLen ∧ In64 c.k) := hDs
      have HT : Hid (RdR w5 a1 c3 (L.take k)) := (HRL.out.below HX35.out).take k
      have HTl : Hid (k = (L.take k).length) := (by simp; omega : k = (L.take k).length)
      obtain ⟨vs, hv1, hv2⟩ := HRL.out
      obtain ⟨a', hlo, hlr⟩ := lo31 a1 L.length c3 k hkL hc3 (by omega)
      have HDr : Hid (RdR w3 a' (c3 - k) (L.drop k)) := (⟨vs.drop k, hlr w3 vs hv2.1 hv1, hv2.drop k⟩ : RdR w3 a' (c3 - k) (L.drop k))
      have HDl : Hid (L.length - k = (L.drop k).length) := (by simp : L.length - k = (L.drop k).length)
      clear hD1 hD2 hDs hv1 hv2 hlr hk
      go_wp2_with fail
      refine (f_grow p0 14 c0 K a1 k c3 (L.take k) _ HKn.out HTl.out (RdW.below HRK.out (HX3.out.trans HX35.out)) HT.out HKok.out (fun r hr => HLok.out r (List.mem_of_mem_take hr)) (by omega) (by simp; omega) D 0 0 HD1.out).mono ?_
      rintro e w6 ⟨pD, cD, rfl, hbD, hx6⟩
      have HX56 : Hid (Ex w5 w6) := hx6
      have HX36 : Hid (Ex w3 w6) := HX35.out.trans hx6
      have HRD : Hid (RdK w6 pD cD D) := hbD
      have hcD := hbD.1
      have hcD2 := hbD.2.1
      unfold maxLen at hcD2
      clear hx6 hbD
      go_wp2_with fail
      refine (f_grow pD _ cD D a' (L.length - k) (c3 - k) (L.drop k) _ rfl HDl.out HRD.out (HDr.out.below HX36.out) HDs.out (fun r hr => HLok.out r (List.mem_of_mem_drop hr)) (by omega) (by simp; omega) C 0 0 HD2.out).mono ?_
      rintro e w7 ⟨pE, cE, rfl, hbE, hx7⟩
      have HX57 : Hid (Ex w5 w7) := HX56.out.trans hx7
      have HX37 : Hid (Ex w3 w7) := HX36.out.trans hx7
      have HRE : Hid (RdK w7 pE cE C) := hbE
      have hcE := hbE.1
      have hcE2 := hbE.2.1
      unfold maxLen at hcE2
      clear hx7 hbE
      go_wp2_with fail
      refine (f_grow pc _ cC C a1 L.length c3 L _ rfl rfl (RdW.below HRC5.out HX57.out) (HRL.out.below HX37.out) HCs.out HLok.out (by omega) (by omega) C 0 0 HG2.out).mono ?_
      rintro e w8 ⟨pF, cF, rfl, hbF, hx8⟩
      have HX58 : Hid (Ex w5 w8) := HX57.out.trans hx8
      have HX38 : Hid (Ex w3 w8) := HX37.out.trans hx8
      have HRE8 : Hid (RdK w8 pE cE C) := RdW.below HRE.out hx8
      have HRC8 : Hid (RdK w8 pc cC C) := RdW.below HRC5.out HX58.out
      have HRF : Hid (RdK w8 pF cF C) := hbF
      clear hx8 hbF
      go_wp2_with fail
      refine (kcols_is pc _ cC C pE _ cE C _ rfl rfl HRC8.out HRE8.out true (by simp)).mono ?_
      rintro e w9 ⟨rfl, hx9⟩
      have HX89 : Hid (Ex w8 w9) := hx9
      clear hx9
      go_wp2_with fail
      refine (kcols_is pc _ cC C pF _ cF C _ rfl rfl (RdW.below HRC8.out HX89.out) (RdW.below HRF.out HX89.out) true (by simp)).mono ?_
      rintro e wA ⟨rfl, hxA⟩
      have HX8A : Hid (Ex w8 wA) := HX89.out.trans hxA
      have HXA : Hid (Ex w wA) := HX3.out.trans (HX38.out.trans HX8A.out)
      have HRCA : Hid (RdK wA pc cC C) := RdW.below HRC8.out HX8A.out
      have HRKA : Hid (RdK wA p0 c0 K) := RdW.below HRK.out HXA.out
      have HRLA : Hid (RdR wA a1 c3 L) := HRL.out.below (HX38.out.trans HX8A.out)
      clear hxA
      go_wp2_with fail
      go_loopw [20] (fun vn wr => ∃ n : Nat, n ≤ C.length ∧ vn = .int .i64 n ∧ Hid (Ex wA wr)) (fun vn wr => C.length - (intOf vn).toNat)
      case atStart => exact ⟨0, by omega, rfl, Ex.refl _⟩
      case round =>
        obtain ⟨n, hn, rfl, HXr⟩ := hrel
        by_cases hlt : n < C.length
        · have tn : decide ((n : Int) < (C.length : Int)) = true := by simp; omega
          obtain ⟨y, hy⟩ : ∃ y, C[n] = y := ⟨_, rfl⟩
          have hyC : y ∈ C := by rw [← hy]; exact List.getElem_mem hlt
          have HHad : Hid ((∃ m x, m < K.length ∧ K[m]? = some x ∧ x = y) ∨ ∃ m r, m < L.length ∧ L[m]? = some r ∧ (Rw.cell r.c y.nm).k = y.k) := Rw.grown_had HG.out hyC
          have HYs : Hid (y.nm.length ≤ maxLen) := (HCs.out y hyC).1
          obtain ⟨bC, oC, hpC, hc0, hc1⟩ := RdK.two (RdW.below HRCA.out HXr.out) hlt
          subst hpC
          rw [hy] at hc0 hc1
          have HC0 : Hid (wA.cell? ⟨bC, oC + n * 2, none⟩ = some (.string (str y.nm)) ∧ wA.cell? ⟨bC, oC + n * 2 + 1, none⟩ = some (.int .i64 y.k)) := (by
            obtain ⟨b', o', hp', q0, q1⟩ := RdK.two HRCA.out hlt
            simp only [Option.some.injEq, Addr.mk.injEq, and_true] at hp'
            obtain ⟨rfl, rfl⟩ := hp'
            rw [hy] at q0 q1
            exact ⟨q0, q1⟩ : wA.cell? ⟨bC, oC + n * 2, none⟩ = some (.string (str y.nm)) ∧ wA.cell? ⟨bC, oC + n * 2 + 1, none⟩ = some (.int .i64 y.k))
          clear hy hyC hc0 hc1
          go_wp2_with fail
          go_loopw [21, 22] (fun vh vq wr => ∃ (j : Nat) (hb : Bool), j ≤ 14 ∧ vh = .bool hb ∧ vq = .int .i64 j ∧ Hid (hb = true ↔ ∃ m x, m < j ∧ K[m]? = some x ∧ x = y) ∧ Hid (Ex wA wr)) (fun vh vq wr => 14 - (intOf vq).toNat)
          case atStart => exact ⟨0, false, by omega, rfl, rfl, (by simp : false = true ↔ ∃ m x, m < 0 ∧ K[m]? = some x ∧ x = y), HXr⟩
          case round =>
            obtain ⟨j, hb, hj, rfl, rfl, HH, HXr2⟩ := hrel
            by_cases hjl : j < 14
            · have tj : decide ((j : Int) < (14 : Int)) = true := by simp; omega
              have tj2 : decide (j < 14) = true := by simp; omega
              have hjK : j < K.length := by have := HKn.out; omega
              obtain ⟨x, hx⟩ : ∃ x, K[j] = x := ⟨_, rfl⟩
              have HXj : Hid (K[j]? = some x) := (by rw [List.getElem?_eq_getElem hjK, hx] : K[j]? = some x)
              obtain ⟨bK, oK, hpK, g0, g1⟩ := RdK.two (RdW.below HRKA.out HXr2.out) hjK
              subst hpK
              rw [hx] at g0 g1
              have hf0 := cell_ex HC0.out.1 HXr2.out
              have hf1 := cell_ex HC0.out.2 HXr2.out
              obtain ⟨z, hz⟩ : ∃ z : Bool, z = true ↔ x = y := by
                by_cases h : x = y
                · exact ⟨true, by simp [h]⟩
                · exact ⟨false, by simp [h]⟩
              have HZ : Hid (z = true ↔ x = y) := hz
              clear hx hz
              go_wp2_with fail
              cases hb with
              | true =>
                have HH' : Hid (true = true ↔ ∃ m x, m < j + 1 ∧ K[m]? = some x ∧ x = y) := (⟨fun _ => by
                  obtain ⟨m, x, h1, h2⟩ := HH.out.1 rfl
                  exact ⟨m, x, by omega, h2⟩, fun _ => rfl⟩ : true = true ↔ ∃ m x, m < j + 1 ∧ K[m]? = some x ∧ x = y)
                have hre := Ex.refl
                refine Rg.wp_rows_tail (List.take 12 _) (List.drop 12 _) (List.take_append_drop 12 _).symm [.inl (.bool true), .inl (.bool true), .inl undef, .inl undef, .inl undef, .inl undef, .inl undef, .inl undef, .inl undef, .inl undef, .inl undef, .inl (.bool true)] (Ex wr) Ex 163 (by kernel_rfl) rfl (by kernel_rfl) (by kernel_rfl) (by kernel_rfl) (by decide) (by kernel_rfl) ?st hre (Ex.drew _) ?goods ?fin
                case st => exact trivial
                case goods =>
                  refine Rg.goods_cons (Rg.good_move hre rfl rfl rfl) ?_
                  refine Rg.goods_cons (Rg.good_move hre rfl rfl rfl) ?_
                  refine Rg.goods_cons (Rg.good_skip rfl) ?_
                  refine Rg.goods_cons (Rg.good_skip rfl) ?_
                  refine Rg.goods_cons (Rg.good_skip rfl) ?_
                  refine Rg.goods_cons (Rg.good_skip rfl) ?_
                  refine Rg.goods_cons (Rg.good_skip rfl) ?_
                  refine Rg.goods_cons (Rg.good_skip rfl) ?_
                  refine Rg.goods_cons (Rg.good_skip rfl) ?_
                  refine Rg.goods_cons (Rg.good_skip rfl) ?_
                  refine Rg.goods_cons (Rg.good_skip rfl) ?_
                  refine Rg.goods_cons (Rg.good_pick true hre rfl rfl rfl rfl) ?_
                  exact Rg.goods_nil
                case fin =>
                  intro wx hx
                  simp only [Rg.later, List.take_succ_cons, List.take_zero, List.drop_succ_cons, List.drop_zero, Act.put, List.setIfInBounds_toArray, List.set_cons_succ, List.set_cons_zero]
                  have HXx : Hid (Ex wA wx) := HXr2.out.trans hx
                  clear hx
                  go_wp2_with fail
                  go_roundw
                  case rel => exact ⟨j + 1, true, by omega, rfl, by go_num, HH', HXx⟩
                  case measure => simp [intOf]; omega
              | false =>
                have HH' : Hid (z = true ↔ ∃ m x, m < j + 1 ∧ K[m]? = some x ∧ x = y) := (⟨fun h => ⟨j, x, by omega, HXj.out, HZ.out.1 h⟩, fun ⟨m, x', h1, h2, h3⟩ => by
                  by_cases e : m = j
                  · subst e
                    rw [HXj.out] at h2
                    cases h2
                    exact HZ.out.2 h3
                  · have := HH.out.2 ⟨m, x', by omega, h2, h3⟩
                    cases this⟩ : z = true ↔ ∃ m x, m < j + 1 ∧ K[m]? = some x ∧ x = y)
                have hre := Ex.refl
                refine Rg.wp_rows_tail (List.take 12 _) (List.drop 12 _) (List.take_append_drop 12 _).symm [.inl (.bool false), .inl (.bool false), .inl (Value.slice (some ⟨bK, oK, none⟩) 14 c0), .inl (Value.int .i64 j), .inl (Value.pointer (some ⟨bK, oK + j * 2, none⟩)), .inl (kv x), .inl (Value.slice (some ⟨bC, oC, none⟩) C.length cC), .inl (Value.int .i64 n), .inl (Value.pointer (some ⟨bC, oC + n * 2, none⟩)), .inl (kv y), .inl (.bool z), .inl (.bool z)] (Ex wr) Ex 163 (by kernel_rfl) rfl (by kernel_rfl) (by kernel_rfl) (by kernel_rfl) (by decide) (by kernel_rfl) ?st hre (Ex.drew _) ?goods ?fin
                case st => exact trivial
                case goods =>
                  refine Rg.goods_cons (Rg.good_move hre rfl rfl rfl) ?_
                  refine Rg.goods_cons (Rg.good_move hre rfl rfl rfl) ?_
                  refine Rg.goods_cons (Rg.good_move hre rfl rfl rfl) ?_
                  refine Rg.goods_cons (Rg.good_move hre rfl rfl rfl) ?_
                  refine Rg.goods_cons (Rg.good_index hre rfl rfl rfl rfl (fun wx hC => by first | (go_simp; done) | (go_simp; intro h; exfalso; omega))) ?_
                  refine Rg.goods_cons (Rg.good_load hre rfl rfl rfl (fun wx hC => by exact loadI_col (cell_ex g0 hC) (cell_ex g1 hC))) ?_
                  refine Rg.goods_cons (Rg.good_move hre rfl rfl rfl) ?_
                  refine Rg.goods_cons (Rg.good_move hre rfl rfl rfl) ?_
                  refine Rg.goods_cons (Rg.good_index hre rfl rfl rfl rfl (fun wx hC => by go_simp)) ?_
                  refine Rg.goods_cons (Rg.good_load hre rfl rfl rfl (fun wx hC => by exact loadI_col (cell_ex hf0 hC) (cell_ex hf1 hC))) ?_
                  refine Rg.goods_cons (Rg.good_bin hre rfl rfl rfl rfl (fun wx => guard_col _ _ _ x y wx) (fun wx => eql_col x y z HZ.out wx)) ?_
                  refine Rg.goods_cons (Rg.good_pick false hre rfl rfl rfl rfl) ?_
                  exact Rg.goods_nil
                case fin =>
                  intro wx hx
                  simp only [Rg.later, List.take_succ_cons, List.take_zero, List.drop_succ_cons, List.drop_zero, Act.put, List.setIfInBounds_toArray, List.set_cons_succ, List.set_cons_zero]
                  have HXx : Hid (Ex wA wx) := HXr2.out.trans hx
                  clear hx
                  go_wp2_with fail
                  go_roundw
                  case rel => exact ⟨j + 1, z, by omega, rfl, by go_num, HH', HXx⟩
                  case measure => simp [intOf]; omega
            · obtain rfl : j = 14 := by omega
              have tj : decide ((14 : Int) < (14 : Int)) = false := by simp
              go_wp2_with fail
              go_loopw [21, 23] (fun vh vq wr => ∃ (j : Nat) (hc : Bool), j ≤ L.length ∧ vh = .bool hc ∧ vq = .int .i64 j ∧ Hid (hc = true ↔ (hb = true ∨ ∃ m r, m < j ∧ L[m]? = some r ∧ (Rw.cell r.c y.nm).k = y.k)) ∧ Hid (Ex wA wr)) (fun vh vq wr => L.length - (intOf vq).toNat)
              case atStart => exact ⟨0, hb, by omega, rfl, rfl, (by simp : hb = true ↔ (hb = true ∨ ∃ m r, m < 0 ∧ L[m]? = some r ∧ (Rw.cell r.c y.nm).k = y.k)), HXr2⟩
              case round =>
                obtain ⟨j, hc, hj, rfl, rfl, HH3, HXr3⟩ := hrel
                by_cases hjl : j < L.length
                · have tj : decide ((j : Int) < (L.length : Int)) = true := by simp; omega
                  obtain ⟨r, hr⟩ : ∃ r, L[j] = r := ⟨_, rfl⟩
                  have hrj : L[j]? = some r := by rw [List.getElem?_eq_getElem hjl, hr]
                  have HRj : Hid (L[j]? = some r) := hrj
                  have HRok : Hid (RwOk r) := HLok.out r (List.mem_of_getElem? hrj)
                  obtain ⟨bL, oL, pr, cr, hpL, g0, g1, g2, hrd⟩ := (HRLA.out.below HXr3.out).at hjl
                  subst hpL
                  rw [hr] at g0 g1 g2 hrd
                  have HRd : Hid (RdC wr pr cr r.c) := hrd
                  have hf0 := cell_ex HC0.out.1 HXr3.out
                  have hf1 := cell_ex HC0.out.2 HXr3.out
                  obtain ⟨X, hX⟩ : ∃ X, Rw.cell r.c y.nm = X := ⟨_, rfl⟩
                  have HX : Hid (Rw.cell r.c y.nm = X) := hX
                  obtain ⟨z, hz⟩ : ∃ z : Bool, decide (X.k = y.k) = z := ⟨_, rfl⟩
                  have HZ : Hid (decide (X.k = y.k) = z) := hz
                  have hcel : ∀ wx, Ex wr wx → Calls Try.prog 22 #[rvv ⟨r.t, r.q, pr, r.c.length, cr⟩, .string (str y.nm)] wx fun e w' => e = .returned (cv X) ∧ Ex wx w' := fun wx hC => f_cell ⟨r.t, r.q, pr, r.c.length, cr⟩ r y.nm wx ⟨rfl, rfl, rfl, RdW.below HRd.out hC⟩ HRok.out HYs.out X HX.out
                  have HCel : Hid (∀ wx, Ex wr wx → Calls Try.prog 22 #[rvv ⟨r.t, r.q, pr, r.c.length, cr⟩, .string (str y.nm)] wx fun e w' => e = .returned (cv X) ∧ Ex wx w') := hcel
                  clear hr hrj hrd hX hz hcel
                  go_wp2_with fail
                  cases hc with
                  | true =>
                    have HH' : Hid (true = true ↔ (hb = true ∨ ∃ m r, m < j + 1 ∧ L[m]? = some r ∧ (Rw.cell r.c y.nm).k = y.k)) := (⟨fun _ => by
                      rcases HH3.out.1 rfl with h | ⟨m, x, h1, h2⟩
                      · exact .inl h
                      · exact .inr ⟨m, x, by omega, h2⟩, fun _ => rfl⟩ : true = true ↔ (hb = true ∨ ∃ m r, m < j + 1 ∧ L[m]? = some r ∧ (Rw.cell r.c y.nm).k = y.k))
                    have hre := Ex.refl
                    refine Rg.wp_rows_tail (List.take 20 _) (List.drop 20 _) (List.take_append_drop 20 _).symm [.inl (.bool true), .inl (.bool true), .inl undef, .inl undef, .inl undef, .inl undef, .inl undef, .inl undef, .inl undef, .inl undef, .inl undef, .inl undef, .inl undef, .inl undef, .inl undef, .inl undef, .inl undef, .inl undef, .inl undef, .inl (.bool true)] (Ex wr) Ex 163 (by kernel_rfl) rfl (by kernel_rfl) (by kernel_rfl) (by kernel_rfl) (by decide) (by kernel_rfl) ?st hre (Ex.drew _) ?goods ?fin
                    case st => exact trivial
                    case goods =>
                      refine Rg.goods_cons (Rg.good_move hre rfl rfl rfl) ?_
                      refine Rg.goods_cons (Rg.good_move hre rfl rfl rfl) ?_
                      refine Rg.goods_cons (Rg.good_skip rfl) ?_
                      refine Rg.goods_cons (Rg.good_skip rfl) ?_
                      refine Rg.goods_cons (Rg.good_skip rfl) ?_
                      refine Rg.goods_cons (Rg.good_skip rfl) ?_
                      refine Rg.goods_cons (Rg.good_skip rfl) ?_
                      refine Rg.goods_cons (Rg.good_skip rfl) ?_
                      refine Rg.goods_cons (Rg.good_skip rfl) ?_
                      refine Rg.goods_cons (Rg.good_skip rfl) ?_
                      refine Rg.goods_cons (Rg.good_skip rfl) ?_
                      refine Rg.goods_cons (Rg.good_skip rfl) ?_
                      refine Rg.goods_cons (Rg.good_skip rfl) ?_
                      refine Rg.goods_cons (Rg.good_skip rfl) ?_
                      refine Rg.goods_cons (Rg.good_skip rfl) ?_
                      refine Rg.goods_cons (Rg.good_skip rfl) ?_
                      refine Rg.goods_cons (Rg.good_skip rfl) ?_
                      refine Rg.goods_cons (Rg.good_skip rfl) ?_
                      refine Rg.goods_cons (Rg.good_skip rfl) ?_
                      refine Rg.goods_cons (Rg.good_pick true hre rfl rfl rfl rfl) ?_
                      exact Rg.goods_nil
                    case fin =>
                      intro wx hx
                      simp only [Rg.later, List.take_succ_cons, List.take_zero, List.drop_succ_cons, List.drop_zero, Act.put, List.setIfInBounds_toArray, List.set_cons_succ, List.set_cons_zero]
                      have HXx : Hid (Ex wA wx) := HXr3.out.trans hx
                      clear hx
                      go_wp2_with fail
                      go_roundw
                      case rel => exact ⟨j + 1, true, by omega, rfl, by go_num, HH', HXx⟩
                      case measure => simp [intOf]; omega
                  | false =>
                    have HH' : Hid (z = true ↔ (hb = true ∨ ∃ m r, m < j + 1 ∧ L[m]? = some r ∧ (Rw.cell r.c y.nm).k = y.k)) := (⟨fun h => .inr ⟨j, r, by omega, HRj.out, by rw [HX.out]; rw [← HZ.out] at h; simpa using h⟩, fun h => by
                      rcases h with h | ⟨m, x', h1, h2, h3⟩
                      · have := HH3.out.2 (.inl h)
                        cases this
                      · by_cases e : m = j
                        · subst e
                          rw [HRj.out] at h2
                          cases h2
                          rw [HX.out] at h3
                          rw [← HZ.out]; simpa using h3
                        · have := HH3.out.2 (.inr ⟨m, x', by omega, h2, h3⟩)
                          cases this⟩ : z = true ↔ (hb = true ∨ ∃ m r, m < j + 1 ∧ L[m]? = some r ∧ (Rw.cell r.c y.nm).k = y.k))
                    have hre := Ex.refl
                    refine Rg.wp_rows_tail (List.take 20 _) (List.drop 20 _) (List.take_append_drop 20 _).symm [.inl (.bool false), .inl (.bool false), .inl (Value.slice (some ⟨bL, oL, none⟩) L.length c3), .inl (Value.int .i64 j), .inl (Value.pointer (some ⟨bL, oL + j * 3, none⟩)), .inl (rvv ⟨r.t, r.q, pr, r.c.length, cr⟩), .inl (Value.slice (some ⟨bC, oC, none⟩) C.length cC), .inl (Value.int .i64 n), .inl (Value.pointer (some ⟨bC, oC + n * 2, none⟩)), .inl (Value.pointer (some ⟨bC, oC + n * 2, none⟩)), .inl (.string (str y.nm)), .inl (cv X), .inl (Value.int .i64 X.k), .inl (Value.slice (some ⟨bC, oC, none⟩) C.length cC), .inl (Value.int .i64 n), .inl (Value.pointer (some ⟨bC, oC + n * 2, none⟩)), .inl (Value.pointer (some ⟨bC, oC + n * 2 + 1, none⟩)), .inl (Value.int .i64 y.k), .inl (.bool z), .inl (.bool z)] (Ex wr) Ex 163 (by kernel_rfl) rfl (by kernel_rfl) (by kernel_rfl) (by kernel_rfl) (by decide) (by kernel_rfl) ?st hre (Ex.drew _) ?goods ?fin
                    case st => exact trivial
                    case goods =>
                      refine Rg.goods_cons (Rg.good_move hre rfl rfl rfl) ?_
                      refine Rg.goods_cons (Rg.good_move hre rfl rfl rfl) ?_
                      refine Rg.goods_cons (Rg.good_move hre rfl rfl rfl) ?_
                      refine Rg.goods_cons (Rg.good_move hre rfl rfl rfl) ?_
                      refine Rg.goods_cons (Rg.good_index hre rfl rfl rfl rfl (fun wx hC => by go_simp)) ?_
                      refine Rg.goods_cons (Rg.good_load hre rfl rfl rfl (fun wx hC => by exact loadI_row (cell_ex g0 hC) (cell_ex g1 hC) (cell_ex g2 hC))) ?_
                      refine Rg.goods_cons (Rg.good_move hre rfl rfl rfl) ?_
                      refine Rg.goods_cons (Rg.good_move hre rfl rfl rfl) ?_
                      refine Rg.goods_cons (Rg.good_index hre rfl rfl rfl rfl (fun wx hC => by go_simp)) ?_
                      refine Rg.goods_cons (Rg.good_field hre rfl rfl rfl (fun wx hC => by go_simp)) ?_
                      refine Rg.goods_cons (Rg.good_load hre rfl rfl rfl (fun wx hC => by have hz := cell_ex hf0 hC; go_simp)) ?_
                      refine Rg.goods_cons (Rg.good_call2 Try.func22 (by kernel_rfl) rfl rfl rfl (by rintro u u2 wx hC rfl rfl; exact ex_row (HCel.out wx hC) hC)) ?_
                      refine Rg.goods_cons (Rg.good_known hre rfl (fun _ => cv X) (.int .i64 X.k) (by simp) (fun q hq => by simp [Op.operands] at hq; subst hq; rfl) (fun w hC => by simp [execOp, Sem.run_bind, field_k X w, Result.andThen])) ?_
                      refine Rg.goods_cons (Rg.good_move hre rfl rfl rfl) ?_
                      refine Rg.goods_cons (Rg.good_move hre rfl rfl rfl) ?_
                      refine Rg.goods_cons (Rg.good_index hre rfl rfl rfl rfl (fun wx hC => by go_simp)) ?_
                      refine Rg.goods_cons (Rg.good_field hre rfl rfl rfl (fun wx hC => by go_simp)) ?_
                      refine Rg.goods_cons (Rg.good_load hre rfl rfl rfl (fun wx hC => by have hz := cell_ex hf1 hC; go_simp)) ?_
                      refine Rg.goods_cons (Rg.good_bin hre rfl rfl rfl rfl (fun _ => rfl) (fun w => by go_simp; rw [← HZ.out, Bool.eq_iff_iff]; simp)) ?_
                      refine Rg.goods_cons (Rg.good_pick false hre rfl rfl rfl rfl) ?_
                      exact Rg.goods_nil
                    case fin =>
                      intro wx hx
                      simp only [Rg.later, List.take_succ_cons, List.take_zero, List.drop_succ_cons, List.drop_zero, Act.put, List.setIfInBounds_toArray, List.set_cons_succ, List.set_cons_zero]
                      have HXx : Hid (Ex wA wx) := HXr3.out.trans hx
                      clear hx
                      go_wp2_with fail
                      go_roundw
                      case rel => exact ⟨j + 1, z, by omega, rfl, by go_num, HH', HXx⟩
                      case measure => simp [intOf]; omega
                · obtain rfl : j = L.length := by omega
                  have tj : decide ((L.length : Int) < (L.length : Int)) = false := by simp
                  have hct : hc = true := by
                    refine HH3.out.2 ?_
                    rcases HHad.out with ⟨m, x, h1, h2⟩ | h
                    · exact .inl (HH.out.2 ⟨m, x, by have := HKn.out; omega, h2⟩)
                    · exact .inr h
                  subst hct
                  go_wp2_with fail
                  go_roundw
                  case rel => exact ⟨n + 1, by omega, by go_num, HXr3⟩
                  case measure => simp [intOf]; omega
        · obtain rfl : n = C.length := by omega
          have tn : decide ((C.length : Int) < (C.length : Int)) = false := by simp
          go_wp2_with fail
          refine (known_any _).mono ?_
          rintro e wz ⟨rfl, hxz⟩
          go_wp2_with fail
          go_ret
          exact ⟨rfl, (HXA.out.trans HXr.out).trans hxz⟩
    · obtain ⟨hC0, hk0⟩ := Rw.grow_bad HG.out he
      subst hC0
      have tne : ((e0 : Int) != 0) = true := by simp; omega
      have tk : decide ((k0 : Int) ≤ (L.length : Int)) = true := by simp; omega
      have tk2 : decide (k0 ≤ L.length) = true := by simp; omega
      go_wp2_with fail
      refine (known_any _).mono ?_
      rintro e w5 ⟨rfl, hx5⟩
      go_wp2_with fail
      go_ret
      exact ⟨rfl, (HX3.out.trans HX34.out).trans hx5⟩
  · have tb : decide (14 < (l0.length : Int)) = false := by simp; omega
    have tb2 : decide (14 < l0.length) = false := by simp; omega
    have HKn : Hid (l0.length = K.length) := (by rw [← HKe.out]; simp; omega : l0.length = K.length)
    go_wp2_with fail
    refine (f_grow p0 l0.length c0 K a1 L.length c3 L _ HKn.out rfl (RdW.below HRK.out HX3.out) HRL.out HKok.out HLok.out (by omega) (by omega) C e0 k0 HG.out).mono ?_
    rintro e w4 ⟨pc, cC, rfl, hbC, hx4⟩
    have HX34 : Hid (Ex w3 w4) := hx4
    have HRC : Hid (RdK w4 pc cC C) := hbC
    have hcC := hbC.1
    have hcC2 := hbC.2.1
    unfold maxLen at hcC2
    clear hx4 hbC
    by_cases he : e0 = 0
    · subst he
      obtain ⟨hK1, hk0, hC1, _, _⟩ := Rw.grow_ok HG.out
      subst hk0
      have HCok : Hid (Rw.colsOk C = true) := hC1
      obtain ⟨hCs, hCl⟩ := Rw.cols_small hC1
      have HCs : Hid (∀ c ∈ C, c.nm.length ≤ maxLen ∧ In64 c.k) := hCs
      clear hK1 hC1 hCs
      go_wp2_with fail
      refine (f_cols pc _ cC C _ rfl HRC.out HCs.out true HCok.out).mono ?_
      rintro e w5 ⟨rfl, hx5⟩
      have HX35 : Hid (Ex w3 w5) := HX34.out.trans hx5
      have HRC5 : Hid (RdK w5 pc cC C) := RdW.below HRC.out hx5
      clear hx5
      go_wp2_with fail
      refine (within_any a2 _ _ w2.1 w2.2 (by omega) (by omega)).mono ?_
      rintro e wq ⟨k, hk, rfl, hw⟩
      have hw' := hw.symm; clear hw; subst hw'
      have hkL : k ≤ L.length := by omega
      have hkc : (k : Int) ≤ (c3 : Int) := by omega
      obtain ⟨D, hD1, hD2⟩ := Rw.grow_cut (cols := K) (l := L.take k) (m := L.drop k) (c := C) (k := 0) (by rw [List.take_append_drop]; exact HG.out)
      have HD1 : Hid (Rw.grow K (L.take k) = (D, 0, 0)) := hD1
      have HD2 : Hid (Rw.grow D (L.drop k) = (C, 0, 0)) := hD2
      have HG2 : Hid (Rw.grow C L = (C, 0, 0)) := Rw.grow_again HG.out
      obtain ⟨hDs, hDl⟩ := Rw.cols_small (Rw.grow_ok hD1).2.2.1
      have HDs : Hid (∀ c ∈ D, c.nm.length ≤ maxLen ∧ In64 c.k) := hDs
      have HT : Hid (RdR w5 a1 c3 (L.take k)) := (HRL.out.below HX35.out).take k
      have HTl : Hid (k = (L.take k).length) := (by simp; omega : k = (L.take k).length)
      obtain ⟨vs, hv1, hv2⟩ := HRL.out
      obtain ⟨a', hlo, hlr⟩ := lo31 a1 L.length c3 k hkL hc3 (by omega)
      have HDr : Hid (RdR w3 a' (c3 - k) (L.drop k)) := (⟨vs.drop k, hlr w3 vs hv2.1 hv1, hv2.drop k⟩ : RdR w3 a' (c3 - k) (L.drop k))
      have HDl : Hid (L.length - k = (L.drop k).length) := (by simp : L.length - k = (L.drop k).length)
      clear hD1 hD2 hDs hv1 hv2 hlr hk
      go_wp2_with fail
      refine (f_grow p0 l0.length c0 K a1 k c3 (L.take k) _ HKn.out HTl.out (RdW.below HRK.out (HX3.out.trans HX35.out)) HT.out HKok.out (fun r hr => HLok.out r (List.mem_of_mem_take hr)) (by omega) (by simp; omega) D 0 0 HD1.out).mono ?_
      rintro e w6 ⟨pD, cD, rfl, hbD, hx6⟩
      have HX56 : Hid (Ex w5 w6) := hx6
      have HX36 : Hid (Ex w3 w6) := HX35.out.trans hx6
      have HRD : Hid (RdK w6 pD cD D) := hbD
      have hcD := hbD.1
      have hcD2 := hbD.2.1
      unfold maxLen at hcD2
      clear hx6 hbD
      go_wp2_with fail
      refine (f_grow pD _ cD D a' (L.length - k) (c3 - k) (L.drop k) _ rfl HDl.out HRD.out (HDr.out.below HX36.out) HDs.out (fun r hr => HLok.out r (List.mem_of_mem_drop hr)) (by omega) (by simp; omega) C 0 0 HD2.out).mono ?_
      rintro e w7 ⟨pE, cE, rfl, hbE, hx7⟩
      have HX57 : Hid (Ex w5 w7) := HX56.out.trans hx7
      have HX37 : Hid (Ex w3 w7) := HX36.out.trans hx7
      have HRE : Hid (RdK w7 pE cE C) := hbE
      have hcE := hbE.1
      have hcE2 := hbE.2.1
      unfold maxLen at hcE2
      clear hx7 hbE
      go_wp2_with fail
      refine (f_grow pc _ cC C a1 L.length c3 L _ rfl rfl (RdW.below HRC5.out HX57.out) (HRL.out.below HX37.out) HCs.out HLok.out (by omega) (by omega) C 0 0 HG2.out).mono ?_
      rintro e w8 ⟨pF, cF, rfl, hbF, hx8⟩
      have HX58 : Hid (Ex w5 w8) := HX57.out.trans hx8
      have HX38 : Hid (Ex w3 w8) := HX37.out.trans hx8
      have HRE8 : Hid (RdK w8 pE cE C) := RdW.below HRE.out hx8
      have HRC8 : Hid (RdK w8 pc cC C) := RdW.below HRC5.out HX58.out
      have HRF : Hid (RdK w8 pF cF C) := hbF
      clear hx8 hbF
      go_wp2_with fail
      refine (kcols_is pc _ cC C pE _ cE C _ rfl rfl HRC8.out HRE8.out true (by simp)).mono ?_
      rintro e w9 ⟨rfl, hx9⟩
      have HX89 : Hid (Ex w8 w9) := hx9
      clear hx9
      go_wp2_with fail
      refine (kcols_is pc _ cC C pF _ cF C _ rfl rfl (RdW.below HRC8.out HX89.out) (RdW.below HRF.out HX89.out) true (by simp)).mono ?_
      rintro e wA ⟨rfl, hxA⟩
      have HX8A : Hid (Ex w8 wA) := HX89.out.trans hxA
      have HXA : Hid (Ex w wA) := HX3.out.trans (HX38.out.trans HX8A.out)
      have HRCA : Hid (RdK wA pc cC C) := RdW.below HRC8.out HX8A.out
      have HRKA : Hid (RdK wA p0 c0 K) := RdW.below HRK.out HXA.out
      have HRLA : Hid (RdR wA a1 c3 L) := HRL.out.below (HX38.out.trans HX8A.out)
      clear hxA
      go_wp2_with fail
      go_loopw [20] (fun vn wr => ∃ n : Nat, n ≤ C.length ∧ vn = .int .i64 n ∧ Hid (Ex wA wr)) (fun vn wr => C.length - (intOf vn).toNat)
      case atStart => exact ⟨0, by omega, rfl, Ex.refl _⟩
      case round =>
        obtain ⟨n, hn, rfl, HXr⟩ := hrel
        by_cases hlt : n < C.length
        · have tn : decide ((n : Int) < (C.length : Int)) = true := by simp; omega
          obtain ⟨y, hy⟩ : ∃ y, C[n] = y := ⟨_, rfl⟩
          have hyC : y ∈ C := by rw [← hy]; exact List.getElem_mem hlt
          have HHad : Hid ((∃ m x, m < K.length ∧ K[m]? = some x ∧ x = y) ∨ ∃ m r, m < L.length ∧ L[m]? = some r ∧ (Rw.cell r.c y.nm).k = y.k) := Rw.grown_had HG.out hyC
          have HYs : Hid (y.nm.length ≤ maxLen) := (HCs.out y hyC).1
          obtain ⟨bC, oC, hpC, hc0, hc1⟩ := RdK.two (RdW.below HRCA.out HXr.out) hlt
          subst hpC
          rw [hy] at hc0 hc1
          have HC0 : Hid (wA.cell? ⟨bC, oC + n * 2, none⟩ = some (.string (str y.nm)) ∧ wA.cell? ⟨bC, oC + n * 2 + 1, none⟩ = some (.int .i64 y.k)) := (by
            obtain ⟨b', o', hp', q0, q1⟩ := RdK.two HRCA.out hlt
            simp only [Option.some.injEq, Addr.mk.injEq, and_true] at hp'
            obtain ⟨rfl, rfl⟩ := hp'
            rw [hy] at q0 q1
            exact ⟨q0, q1⟩ : wA.cell? ⟨bC, oC + n * 2, none⟩ = some (.string (str y.nm)) ∧ wA.cell? ⟨bC, oC + n * 2 + 1, none⟩ = some (.int .i64 y.k))
          clear hy hyC hc0 hc1
          go_wp2_with fail
          go_loopw [21, 22] (fun vh vq wr => ∃ (j : Nat) (hb : Bool), j ≤ l0.length ∧ vh = .bool hb ∧ vq = .int .i64 j ∧ Hid (hb = true ↔ ∃ m x, m < j ∧ K[m]? = some x ∧ x = y) ∧ Hid (Ex wA wr)) (fun vh vq wr => l0.length - (intOf vq).toNat)
          case atStart => exact ⟨0, false, by omega, rfl, rfl, (by simp : false = true ↔ ∃ m x, m < 0 ∧ K[m]? = some x ∧ x = y), HXr⟩
          case round =>
            obtain ⟨j, hb, hj, rfl, rfl, HH, HXr2⟩ := hrel
            by_cases hjl : j < l0.length
            · have tj : decide ((j : Int) < (l0.length : Int)) = true := by simp; omega
              have tj2 : decide (j < l0.length) = true := by simp; omega
              have hjK : j < K.length := by have := HKn.out; omega
              obtain ⟨x, hx⟩ : ∃ x, K[j] = x := ⟨_, rfl⟩
              have HXj : Hid (K[j]? = some x) := (by rw [List.getElem?_eq_getElem hjK, hx] : K[j]? = some x)
              obtain ⟨bK, oK, hpK, g0, g1⟩ := RdK.two (RdW.below HRKA.out HXr2.out) hjK
              subst hpK
              rw [hx] at g0 g1
              have hf0 := cell_ex HC0.out.1 HXr2.out
              have hf1 := cell_ex HC0.out.2 HXr2.out
              obtain ⟨z, hz⟩ : ∃ z : Bool, z = true ↔ x = y := by
                by_cases h : x = y
                · exact ⟨true, by simp [h]⟩
                · exact ⟨false, by simp [h]⟩
              have HZ : Hid (z = true ↔ x = y) := hz
              clear hx hz
              go_wp2_with fail
              cases hb with
              | true =>
                have HH' : Hid (true = true ↔ ∃ m x, m < j + 1 ∧ K[m]? = some x ∧ x = y) := (⟨fun _ => by
                  obtain ⟨m, x, h1, h2⟩ := HH.out.1 rfl
                  exact ⟨m, x, by omega, h2⟩, fun _ => rfl⟩ : true = true ↔ ∃ m x, m < j + 1 ∧ K[m]? = some x ∧ x = y)
                have hre := Ex.refl
                refine Rg.wp_rows_tail (List.take 12 _) (List.drop 12 _) (List.take_append_drop 12 _).symm [.inl (.bool true), .inl (.bool true), .inl undef, .inl undef, .inl undef, .inl undef, .inl undef, .inl undef, .inl undef, .inl undef, .inl undef, .inl (.bool true)] (Ex wr) Ex 163 (by kernel_rfl) rfl (by kernel_rfl) (by kernel_rfl) (by kernel_rfl) (by decide) (by kernel_rfl) ?st hre (Ex.drew _) ?goods ?fin
                case st => exact trivial
                case goods =>
                  refine Rg.goods_cons (Rg.good_move hre rfl rfl rfl) ?_
                  refine Rg.goods_cons (Rg.good_move hre rfl rfl rfl) ?_
                  refine Rg.goods_cons (Rg.good_skip rfl) ?_
                  refine Rg.goods_cons (Rg.good_skip rfl) ?_
                  refine Rg.goods_cons (Rg.good_skip rfl) ?_
                  refine Rg.goods_cons (Rg.good_skip rfl) ?_
                  refine Rg.goods_cons (Rg.good_skip rfl) ?_
                  refine Rg.goods_cons (Rg.good_skip rfl) ?_
                  refine Rg.goods_cons (Rg.good_skip rfl) ?_
                  refine Rg.goods_cons (Rg.good_skip rfl) ?_
                  refine Rg.goods_cons (Rg.good_skip rfl) ?_
                  refine Rg.goods_cons (Rg.good_pick true hre rfl rfl rfl rfl) ?_
                  exact Rg.goods_nil
                case fin =>
                  intro wx hx
                  simp only [Rg.later, List.take_succ_cons, List.take_zero, List.drop_succ_cons, List.drop_zero, Act.put, List.setIfInBounds_toArray, List.set_cons_succ, List.set_cons_zero]
                  have HXx : Hid (Ex wA wx) := HXr2.out.trans hx
                  clear hx
                  go_wp2_with fail
                  go_roundw
                  case rel => exact ⟨j + 1, true, by omega, rfl, by go_num, HH', HXx⟩
                  case measure => simp [intOf]; omega
              | false =>
                have HH' : Hid (z = true ↔ ∃ m x, m < j + 1 ∧ K[m]? = some x ∧ x = y) := (⟨fun h => ⟨j, x, by omega, HXj.out, HZ.out.1 h⟩, fun ⟨m, x', h1, h2, h3⟩ => by
                  by_cases e : m = j
                  · subst e
                    rw [HXj.out] at h2
                    cases h2
                    exact HZ.out.2 h3
                  · have := HH.out.2 ⟨m, x', by omega, h2, h3⟩
                    cases this⟩ : z = true ↔ ∃ m x, m < j + 1 ∧ K[m]? = some x ∧ x = y)
                have hre := Ex.refl
                refine Rg.wp_rows_tail (List.take 12 _) (List.drop 12 _) (List.take_append_drop 12 _).symm [.inl (.bool false), .inl (.bool false), .inl (Value.slice (some ⟨bK, oK, none⟩) l0.length c0), .inl (Value.int .i64 j), .inl (Value.pointer (some ⟨bK, oK + j * 2, none⟩)), .inl (kv x), .inl (Value.slice (some ⟨bC, oC, none⟩) C.length cC), .inl (Value.int .i64 n), .inl (Value.pointer (some ⟨bC, oC + n * 2, none⟩)), .inl (kv y), .inl (.bool z), .inl (.bool z)] (Ex wr) Ex 163 (by kernel_rfl) rfl (by kernel_rfl) (by kernel_rfl) (by kernel_rfl) (by decide) (by kernel_rfl) ?st hre (Ex.drew _) ?goods ?fin
                case st => exact trivial
                case goods =>
                  refine Rg.goods_cons (Rg.good_move hre rfl rfl rfl) ?_
                  refine Rg.goods_cons (Rg.good_move hre rfl rfl rfl) ?_
                  refine Rg.goods_cons (Rg.good_move hre rfl rfl rfl) ?_
                  refine Rg.goods_cons (Rg.good_move hre rfl rfl rfl) ?_
                  refine Rg.goods_cons (Rg.good_index hre rfl rfl rfl rfl (fun wx hC => by first | (go_simp; done) | (go_simp; intro h; exfalso; omega))) ?_
                  refine Rg.goods_cons (Rg.good_load hre rfl rfl rfl (fun wx hC => by exact loadI_col (cell_ex g0 hC) (cell_ex g1 hC))) ?_
                  refine Rg.goods_cons (Rg.good_move hre rfl rfl rfl) ?_
                  refine Rg.goods_cons (Rg.good_move hre rfl rfl rfl) ?_
                  refine Rg.goods_cons (Rg.good_index hre rfl rfl rfl rfl (fun wx hC => by go_simp)) ?_
                  refine Rg.goods_cons (Rg.good_load hre rfl rfl rfl (fun wx hC => by exact loadI_col (cell_ex hf0 hC) (cell_ex hf1 hC))) ?_
                  refine Rg.goods_cons (Rg.good_bin hre rfl rfl rfl rfl (fun wx => guard_col _ _ _ x y wx) (fun wx => eql_col x y z HZ.out wx)) ?_
                  refine Rg.goods_cons (Rg.good_pick false hre rfl rfl rfl rfl) ?_
                  exact Rg.goods_nil
                case fin =>
                  intro wx hx
                  simp only [Rg.later, List.take_succ_cons, List.take_zero, List.drop_succ_cons, List.drop_zero, Act.put, List.setIfInBounds_toArray, List.set_cons_succ, List.set_cons_zero]
                  have HXx : Hid (Ex wA wx) := HXr2.out.trans hx
                  clear hx
                  go_wp2_with fail
                  go_roundw
                  case rel => exact ⟨j + 1, z, by omega, rfl, by go_num, HH', HXx⟩
                  case measure => simp [intOf]; omega
            · obtain rfl : j = l0.length := by omega
              have tj : decide ((l0.length : Int) < (l0.length : Int)) = false := by simp
              go_wp2_with fail
              go_loopw [21, 23] (fun vh vq wr => ∃ (j : Nat) (hc : Bool), j ≤ L.length ∧ vh = .bool hc ∧ vq = .int .i64 j ∧ Hid (hc = true ↔ (hb = true ∨ ∃ m r, m < j ∧ L[m]? = some r ∧ (Rw.cell r.c y.nm).k = y.k)) ∧ Hid (Ex wA wr)) (fun vh vq wr => L.length - (intOf vq).toNat)
              case atStart => exact ⟨0, hb, by omega, rfl, rfl, (by simp : hb = true ↔ (hb = true ∨ ∃ m r, m < 0 ∧ L[m]? = some r ∧ (Rw.cell r.c y.nm).k = y.k)), HXr2⟩
              case round =>
                obtain ⟨j, hc, hj, rfl, rfl, HH3, HXr3⟩ := hrel
                by_cases hjl : j < L.length
                · have tj : decide ((j : Int) < (L.length : Int)) = true := by simp; omega
                  obtain ⟨r, hr⟩ : ∃ r, L[j] = r := ⟨_, rfl⟩
                  have hrj : L[j]? = some r := by rw [List.getElem?_eq_getElem hjl, hr]
                  have HRj : Hid (L[j]? = some r) := hrj
                  have HRok : Hid (RwOk r) := HLok.out r (List.mem_of_getElem? hrj)
                  obtain ⟨bL, oL, pr, cr, hpL, g0, g1, g2, hrd⟩ := (HRLA.out.below HXr3.out).at hjl
                  subst hpL
                  rw [hr] at g0 g1 g2 hrd
                  have HRd : Hid (RdC wr pr cr r.c) := hrd
                  have hf0 := cell_ex HC0.out.1 HXr3.out
                  have hf1 := cell_ex HC0.out.2 HXr3.out
                  obtain ⟨X, hX⟩ : ∃ X, Rw.cell r.c y.nm = X := ⟨_, rfl⟩
                  have HX : Hid (Rw.cell r.c y.nm = X) := hX
                  obtain ⟨z, hz⟩ : ∃ z : Bool, decide (X.k = y.k) = z := ⟨_, rfl⟩
                  have HZ : Hid (decide (X.k = y.k) = z) := hz
                  have hcel : ∀ wx, Ex wr wx → Calls Try.prog 22 #[rvv ⟨r.t, r.q, pr, r.c.length, cr⟩, .string (str y.nm)] wx fun e w' => e = .returned (cv X) ∧ Ex wx w' := fun wx hC => f_cell ⟨r.t, r.q, pr, r.c.length, cr⟩ r y.nm wx ⟨rfl, rfl, rfl, RdW.below HRd.out hC⟩ HRok.out HYs.out X HX.out
                  have HCel : Hid (∀ wx, Ex wr wx → Calls Try.prog 22 #[rvv ⟨r.t, r.q, pr, r.c.length, cr⟩, .string (str y.nm)] wx fun e w' => e = .returned (cv X) ∧ Ex wx w') := hcel
                  clear hr hrj hrd hX hz hcel
                  go_wp2_with fail
                  cases hc with
                  | true =>
                    have HH' : Hid (true = true ↔ (hb = true ∨ ∃ m r, m < j + 1 ∧ L[m]? = some r ∧ (Rw.cell r.c y.nm).k = y.k)) := (⟨fun _ => by
                      rcases HH3.out.1 rfl with h | ⟨m, x, h1, h2⟩
                      · exact .inl h
                      · exact .inr ⟨m, x, by omega, h2⟩, fun _ => rfl⟩ : true = true ↔ (hb = true ∨ ∃ m r, m < j + 1 ∧ L[m]? = some r ∧ (Rw.cell r.c y.nm).k = y.k))
                    have hre := Ex.refl
                    refine Rg.wp_rows_tail (List.take 20 _) (List.drop 20 _) (List.take_append_drop 20 _).symm [.inl (.bool true), .inl (.bool true), .inl undef, .inl undef, .inl undef, .inl undef, .inl undef, .inl undef, .inl undef, .inl undef, .inl undef, .inl undef, .inl undef, .inl undef, .inl undef, .inl undef, .inl undef, .inl undef, .inl undef, .inl (.bool true)] (Ex wr) Ex 163 (by kernel_rfl) rfl (by kernel_rfl) (by kernel_rfl) (by kernel_rfl) (by decide) (by kernel_rfl) ?st hre (Ex.drew _) ?goods ?fin
                    case st => exact trivial
                    case goods =>
                      refine Rg.goods_cons (Rg.good_move hre rfl rfl rfl) ?_
                      refine Rg.goods_cons (Rg.good_move hre rfl rfl rfl) ?_
                      refine Rg.goods_cons (Rg.good_skip rfl) ?_
                      refine Rg.goods_cons (Rg.good_skip rfl) ?_
                      refine Rg.goods_cons (Rg.good_skip rfl) ?_
                      refine Rg.goods_cons (Rg.good_skip rfl) ?_
                      refine Rg.goods_cons (Rg.good_skip rfl) ?_
                      refine Rg.goods_cons (Rg.good_skip rfl) ?_
                      refine Rg.goods_cons (Rg.good_skip rfl) ?_
                      refine Rg.goods_cons (Rg.good_skip rfl) ?_
                      refine Rg.goods_cons (Rg.good_skip rfl) ?_
                      refine Rg.goods_cons (Rg.good_skip rfl) ?_
                      refine Rg.goods_cons (Rg.good_skip rfl) ?_
                      refine Rg.goods_cons (Rg.good_skip rfl) ?_
                      refine Rg.goods_cons (Rg.good_skip rfl) ?_
                      refine Rg.goods_cons (Rg.good_skip rfl) ?_
                      refine Rg.goods_cons (Rg.good_skip rfl) ?_
                      refine Rg.goods_cons (Rg.good_skip rfl) ?_
                      refine Rg.goods_cons (Rg.good_skip rfl) ?_
                      refine Rg.goods_cons (Rg.good_pick true hre rfl rfl rfl rfl) ?_
                      exact Rg.goods_nil
                    case fin =>
                      intro wx hx
                      simp only [Rg.later, List.take_succ_cons, List.take_zero, List.drop_succ_cons, List.drop_zero, Act.put, List.setIfInBounds_toArray, List.set_cons_succ, List.set_cons_zero]
                      have HXx : Hid (Ex wA wx) := HXr3.out.trans hx
                      clear hx
                      go_wp2_with fail
                      go_roundw
                      case rel => exact ⟨j + 1, true, by omega, rfl, by go_num, HH', HXx⟩
                      case measure => simp [intOf]; omega
                  | false =>
                    have HH' : Hid (z = true ↔ (hb = true ∨ ∃ m r, m < j + 1 ∧ L[m]? = some r ∧ (Rw.cell r.c y.nm).k = y.k)) := (⟨fun h => .inr ⟨j, r, by omega, HRj.out, by rw [HX.out]; rw [← HZ.out] at h; simpa using h⟩, fun h => by
                      rcases h with h | ⟨m, x', h1, h2, h3⟩
                      · have := HH3.out.2 (.inl h)
                        cases this
                      · by_cases e : m = j
                        · subst e
                          rw [HRj.out] at h2
                          cases h2
                          rw [HX.out] at h3
                          rw [← HZ.out]; simpa using h3
                        · have := HH3.out.2 (.inr ⟨m, x', by omega, h2, h3⟩)
                          cases this⟩ : z = true ↔ (hb = true ∨ ∃ m r, m < j + 1 ∧ L[m]? = some r ∧ (Rw.cell r.c y.nm).k = y.k))
                    have hre := Ex.refl
                    refine Rg.wp_rows_tail (List.take 20 _) (List.drop 20 _) (List.take_append_drop 20 _).symm [.inl (.bool false), .inl (.bool false), .inl (Value.slice (some ⟨bL, oL, none⟩) L.length c3), .inl (Value.int .i64 j), .inl (Value.pointer (some ⟨bL, oL + j * 3, none⟩)), .inl (rvv ⟨r.t, r.q, pr, r.c.length, cr⟩), .inl (Value.slice (some ⟨bC, oC, none⟩) C.length cC), .inl (Value.int .i64 n), .inl (Value.pointer (some ⟨bC, oC + n * 2, none⟩)), .inl (Value.pointer (some ⟨bC, oC + n * 2, none⟩)), .inl (.string (str y.nm)), .inl (cv X), .inl (Value.int .i64 X.k), .inl (Value.slice (some ⟨bC, oC, none⟩) C.length cC), .inl (Value.int .i64 n), .inl (Value.pointer (some ⟨bC, oC + n * 2, none⟩)), .inl (Value.pointer (some ⟨bC, oC + n * 2 + 1, none⟩)), .inl (Value.int .i64 y.k), .inl (.bool z), .inl (.bool z)] (Ex wr) Ex 163 (by kernel_rfl) rfl (by kernel_rfl) (by kernel_rfl) (by kernel_rfl) (by decide) (by kernel_rfl) ?st hre (Ex.drew _) ?goods ?fin
                    case st => exact trivial
                    case goods =>
                      refine Rg.goods_cons (Rg.good_move hre rfl rfl rfl) ?_
                      refine Rg.goods_cons (Rg.good_move hre rfl rfl rfl) ?_
                      refine Rg.goods_cons (Rg.good_move hre rfl rfl rfl) ?_
                      refine Rg.goods_cons (Rg.good_move hre rfl rfl rfl) ?_
                      refine Rg.goods_cons (Rg.good_index hre rfl rfl rfl rfl (fun wx hC => by go_simp)) ?_
                      refine Rg.goods_cons (Rg.good_load hre rfl rfl rfl (fun wx hC => by exact loadI_row (cell_ex g0 hC) (cell_ex g1 hC) (cell_ex g2 hC))) ?_
                      refine Rg.goods_cons (Rg.good_move hre rfl rfl rfl) ?_
                      refine Rg.goods_cons (Rg.good_move hre rfl rfl rfl) ?_
                      refine Rg.goods_cons (Rg.good_index hre rfl rfl rfl rfl (fun wx hC => by go_simp)) ?_
                      refine Rg.goods_cons (Rg.good_field hre rfl rfl rfl (fun wx hC => by go_simp)) ?_
                      refine Rg.goods_cons (Rg.good_load hre rfl rfl rfl (fun wx hC => by have hz := cell_ex hf0 hC; go_simp)) ?_
                      refine Rg.goods_cons (Rg.good_call2 Try.func22 (by kernel_rfl) rfl rfl rfl (by rintro u u2 wx hC rfl rfl; exact ex_row (HCel.out wx hC) hC)) ?_
                      refine Rg.goods_cons (Rg.good_known hre rfl (fun _ => cv X) (.int .i64 X.k) (by simp) (fun q hq => by simp [Op.operands] at hq; subst hq; rfl) (fun w hC => by simp [execOp, Sem.run_bind, field_k X w, Result.andThen])) ?_
                      refine Rg.goods_cons (Rg.good_move hre rfl rfl rfl) ?_
                      refine Rg.goods_cons (Rg.good_move hre rfl rfl rfl) ?_
                      refine Rg.goods_cons (Rg.good_index hre rfl rfl rfl rfl (fun wx hC => by go_simp)) ?_
                      refine Rg.goods_cons (Rg.good_field hre rfl rfl rfl (fun wx hC => by go_simp)) ?_
                      refine Rg.goods_cons (Rg.good_load hre rfl rfl rfl (fun wx hC => by have hz := cell_ex hf1 hC; go_simp)) ?_
                      refine Rg.goods_cons (Rg.good_bin hre rfl rfl rfl rfl (fun _ => rfl) (fun w => by go_simp; rw [← HZ.out, Bool.eq_iff_iff]; simp)) ?_
                      refine Rg.goods_cons (Rg.good_pick false hre rfl rfl rfl rfl) ?_
                      exact Rg.goods_nil
                    case fin =>
                      intro wx hx
                      simp only [Rg.later, List.take_succ_cons, List.take_zero, List.drop_succ_cons, List.drop_zero, Act.put, List.setIfInBounds_toArray, List.set_cons_succ, List.set_cons_zero]
                      have HXx : Hid (Ex wA wx) := HXr3.out.trans hx
                      clear hx
                      go_wp2_with fail
                      go_roundw
                      case rel => exact ⟨j + 1, z, by omega, rfl, by go_num, HH', HXx⟩
                      case measure => simp [intOf]; omega
                · obtain rfl : j = L.length := by omega
                  have tj : decide ((L.length : Int) < (L.length : Int)) = false := by simp
                  have hct : hc = true := by
                    refine HH3.out.2 ?_
                    rcases HHad.out with ⟨m, x, h1, h2⟩ | h
                    · exact .inl (HH.out.2 ⟨m, x, by have := HKn.out; omega, h2⟩)
                    · exact .inr h
                  subst hct
                  go_wp2_with fail
                  go_roundw
                  case rel => exact ⟨n + 1, by omega, by go_num, HXr3⟩
                  case measure => simp [intOf]; omega
        · obtain rfl : n = C.length := by omega
          have tn : decide ((C.length : Int) < (C.length : Int)) = false := by simp
          go_wp2_with fail
          refine (known_any _).mono ?_
          rintro e wz ⟨rfl, hxz⟩
          go_wp2_with fail
          go_ret
          exact ⟨rfl, (HXA.out.trans HXr.out).trans hxz⟩
    · obtain ⟨hC0, hk0⟩ := Rw.grow_bad HG.out he
      subst hC0
      have tne : ((e0 : Int) != 0) = true := by simp; omega
      have tk : decide ((k0 : Int) ≤ (L.length : Int)) = true := by simp; omega
      have tk2 : decide (k0 ≤ L.length) = true := by simp; omega
      go_wp2_with fail
      refine (known_any _).mono ?_
      rintro e w5 ⟨rfl, hx5⟩
      go_wp2_with fail
      go_ret
      exact ⟨rfl, (HX3.out.trans HX34.out).trans hx5⟩
end Go.Proofs.Ytghnbohplonhoaa.rowGrows
