/-
  The walk of the law BlockCuts: whatever texts and place it is given, it returns true.
-/
import Derived.Test.YthibeoohhcmejaaAlike
namespace Go.Proofs.Ythibeoohhcmejaa.blockCuts
open Go.RowKit
set_option linter.unusedVariables false

theorem written_take (L : List (List UInt8)) (q : Nat) (h : q < L.length) : (K.written (L.take (q + 1))).length = (K.written (L.take q)).length + 12 + L[q].length := by
  rw [List.take_succ_eq_append_getElem h, K.written_snoc, List.length_append, K.frm_len]; omega

theorem written_app (a b : List (List UInt8)) : K.written (a ++ b) = K.written a ++ K.written b := by
  unfold K.written; exact List.flatMap_append
theorem written_take_le (L : List (List UInt8)) (q : Nat) : (K.written (L.take q)).length ≤ (K.written L).length := by
  have h := written_app (L.take q) (L.drop q)
  rw [List.take_append_drop] at h
  rw [h, List.length_append]; omega

set_option maxRecDepth 100000 in
set_option maxHeartbeats 1000000 in
theorem walk (p0 : Option Addr) (c0 : Nat) (l0 : List (List UInt8)) (a1 : Int) (w : World) (b0 : Rd st w p0 c0 l0) (m0 : ∀ x ∈ l0, x.length ≤ maxLen) (w1 : -9223372036854775808 ≤ a1 ∧ a1 ≤ 9223372036854775807) :
    Calls Try.prog 6 #[.slice p0 l0.length c0, .int .i64 a1] w fun e w' => e = .returned (.bool true) ∧ Below w.heap.size w w' := by
  obtain ⟨v1, u1⟩ := w1
  obtain ⟨L, hL⟩ : ∃ L, cutTexts l0 = L := ⟨_, rfl⟩
  obtain ⟨B, hB⟩ : ∃ B, K.written L = B := ⟨_, rfl⟩
  have hLs : ∀ x ∈ L, x.length ≤ 200 := by rw [← hL]; exact cutTexts_short l0
  have hLl : L.length ≤ 10 ∧ L.length ≤ l0.length := by rw [← hL, cutTexts_len]; omega
  have hLa := hLl.1
  have hLb := hLl.2
  have hBl : B.length ≤ 2120 := by rw [← hB]; have := written_short L hLs; omega
  have hcap := b0.1
  have hcm := b0.2.1
  unfold maxLen at hcm
  have H0 : Hid (Rd st w p0 c0 l0) := b0
  have HS : Hid (∀ x ∈ l0, x.length ≤ maxLen) := m0
  have HL : Hid (cutTexts l0 = L) := hL
  have HB : Hid (K.written L = B) := hB
  have HWB : Hid (K.written (cutTexts l0) = B) := (by rw [hL]; exact hB : K.written (cutTexts l0) = B)
  have HLs : Hid (∀ x ∈ L, x.length ≤ 1048576) := (fun x hx => Nat.le_trans (hLs x hx) (by omega) : ∀ x ∈ L, x.length ≤ 1048576)
  clear b0 m0 hL hB hLs hLl
  go_enter Try.func6, Try.ntmps6
  go_wp2_with fail
  refine (written_is p0 _ c0 l0 _ rfl H0.out HS.out B HWB.out).mono ?_
  rintro e w1 ⟨v5, rfl, ho1, hx1⟩
  obtain ⟨a5, c5, hv5, hb5⟩ := ho1.byt
  subst hv5
  have h5c := hb5.1
  have h5m := hb5.2.1
  unfold maxLen at h5m
  have HB5 : Hid (Byt w1 a5 c5 B) := hb5
  have HX1 : Hid (Ex w w1) := hx1
  clear ho1 hb5 hx1
  go_wp2_with fail
  refine (within_any a1 _ _ v1 u1 (by omega) (by omega)).mono ?_
  rintro e wq ⟨c, hc, rfl, hw⟩
  have hw' := hw.symm; clear hw; subst hw'
  have hc' : c ≤ B.length := by omega
  obtain ⟨j, hj, hjc, hall⟩ := K.all_cut L HLs.out c (by rw [HB.out]; exact hc')
  rw [HB.out] at hall
  obtain ⟨R, hR⟩ : ∃ R, L.take j = R := ⟨_, rfl⟩
  obtain ⟨T, hT⟩ : ∃ T, (K.written R).length = T := ⟨_, rfl⟩
  obtain ⟨E, hE⟩ : ∃ E, (if T = c then 0 else 10) = E := ⟨_, rfl⟩
  rw [hR, hT] at hall
  rw [hR, hT] at hjc
  rw [hE] at hall
  have hRl : R.length ≤ l0.length := by rw [← hR]; simp; omega
  have hRl2 : R.length ≤ L.length := by rw [← hR]; simp; omega
  have HRj : Hid (R.length = j) := (by rw [← hR]; simp; omega : R.length = j)
  have HR : Hid (L.take j = R) := hR
  have HT : Hid ((K.written R).length = T) := hT
  have HE : Hid ((if T = c then 0 else 10) = E) := hE
  have HAll : Hid (K.all (B.take c) = (R, T, E)) := hall
  have hcc : (c : Int) ≤ (c5 : Int) := by omega
  have hBc := HB5.out.take (k := c) hc'
  have htl : (B.take c).length = c := by simp; omega
  have HBc : Hid (Byt w1 a5 c5 (B.take c)) := hBc
  have HTl : Hid ((B.take c).length = c) := htl
  clear hall hR hT hE hBc htl
  go_wp2_with fail
  refine (all_is a5 _ c5 (B.take c) _ HTl.out.symm HBc.out (by rw [HTl.out]; omega) R T E HAll.out).mono ?_
  rintro e w2 ⟨v7, rfl, ⟨a7, c7, rfl, hb7⟩, hx2⟩
  have HX2 : Hid (Ex w w2) := HX1.out.trans hx2
  have HB7 : Hid (RdB w2 a7 c7 R) := hb7
  have h7 := hb7.bounds
  have h7a := h7.1
  have h7b := h7.2
  unfold maxLen at h7b
  have t1 : decide ((c : Int) < (T : Int)) = false := by simp; omega
  have t2 : decide ((l0.length : Int) < (R.length : Int)) = false := by simp; omega
  clear hb7 hx2 h7
  go_wp2_with fail
  go_loopw [10, 11] (fun n i wr => ∃ q m : Nat, q ≤ R.length ∧ m ≤ T ∧ i = .int .i64 q ∧ n = .int .i64 m ∧ Hid (m = (K.written (R.take q)).length) ∧ Hid (Ex w2 wr)) (fun _ i _ => R.length - (intOf i).toNat)
  case atStart => exact ⟨0, 0, by omega, by omega, rfl, rfl, (by simp [K.written] : 0 = (K.written (R.take 0)).length), Ex.refl _⟩
  case round =>
    obtain ⟨q, m, hq, hm, rfl, rfl, HM, HEx⟩ := hrel
    by_cases hlt : q < R.length
    · have tq : decide ((q : Int) < (R.length : Int)) = true := by simp; omega
      obtain ⟨b1, o1, q1, d1, rfl, hce1, hbx1⟩ := (HB7.out.below HEx.out).at hlt
      obtain ⟨b2, o2, rfl, hce2⟩ := ((H0.out.below HX2.out).below HEx.out).at (k := q) (by omega)
      obtain ⟨x, hx⟩ : ∃ x, x = R[q] := ⟨_, rfl⟩
      obtain ⟨s, hs⟩ : ∃ s, s = l0[q]'(by omega) := ⟨_, rfl⟩
      have hsx : s.take 200 = x := by
        rw [hx, hs]
        have h1 : R[q]? = L[q]? := by rw [← HR.out, List.getElem?_take, if_pos (by have := HRj.out; omega)]
        have h2 : L[q]? = some ((l0[q]'(by omega)).take 200) := by
          rw [← HL.out]
          have h10 : q < 10 := by omega
          simp only [cutTexts, List.getElem?_map, List.getElem?_take, if_pos h10]
          rw [List.getElem?_eq_getElem (by omega)]
          rfl
        rw [List.getElem?_eq_getElem hlt, h2] at h1
        simp at h1
        exact h1.symm
      rw [← hx] at hce1 hbx1
      rw [← hs] at hce2
      have hsl : s.length ≤ maxLen := by rw [hs]; exact HS.out _ (List.getElem_mem _)
      have hnext : (K.written (R.take (q + 1))).length = m + 12 + x.length := by rw [written_take R q hlt, ← hx, HM.out]
      have hnT : m + 12 + x.length ≤ T := by
        have h1 := written_take_le R (q + 1)
        rw [HT.out, hnext] at h1
        exact h1
      have HC1 : Hid (wr.cell? ⟨b1, o1 + q, none⟩ = some (.slice q1 x.length d1)) := hce1
      have HC2 : Hid (wr.cell? ⟨b2, o2 + q, none⟩ = some (.string (str s))) := hce2
      have HX1' : Hid (Byt wr q1 d1 x) := hbx1
      have HX1 : Hid (Byt wr q1 d1 x) := hbx1
      have HSl : Hid (s.length ≤ maxLen) := hsl
      have HSx : Hid (s.take 200 = x) := hsx
      have HN : Hid (m + 12 + x.length = (K.written (R.take (q + 1))).length) := hnext.symm
      have hk1 : (q : Int) < (R.length : Int) := by omega
      have hk2 : (q : Int) < (l0.length : Int) := by omega
      have hT2 : T ≤ 2120 := by omega
      clear hce1 hce2 hbx1 hx hs hsl hsx hnext
      go_wp2_with fail
      have hre := Ex.refl
      refine Rg.wp_rows [.inl (Value.slice (some { block := b1, off := o1 }) R.length c7), .inl (Value.int IntKind.i64 ↑q), .inl (Value.pointer (some ⟨b1, o1 + q, none⟩)), .inl (Value.slice q1 x.length d1), .inl (Value.string (str x)), .inl (Value.slice (some { block := b2, off := o2 }) l0.length c0), .inl (Value.int IntKind.i64 ↑q), .inl (Value.pointer (some ⟨b2, o2 + q, none⟩)), .inl (Value.string (str s)), .inl (Value.string (str x)), .inl (.bool false)] (Ex wr) Ex 83 (by kernel_rfl) rfl (by kernel_rfl) ?st hre (Ex.drew _) ?goods ?fin
      case st => exact trivial
      case goods =>
        refine Rg.goods_cons (Rg.good_move hre rfl rfl rfl) ?_
        refine Rg.goods_cons (Rg.good_move hre rfl rfl rfl) ?_
        refine Rg.goods_cons (Rg.good_index hre rfl rfl rfl rfl (fun wx hC => by go_simp)) ?_
        refine Rg.goods_cons (Rg.good_load hre rfl rfl rfl (fun wx hC => by have hcz := cell_ex HC1.out hC; go_simp)) ?_
        refine Rg.goods_cons (Rg.good_conv hre rfl rfl (by rintro u wx hC rfl; exact conv_row ⟨q1, d1, rfl, HX1.out.below hC⟩)) ?_
        refine Rg.goods_cons (Rg.good_move hre rfl rfl rfl) ?_
        refine Rg.goods_cons (Rg.good_move hre rfl rfl rfl) ?_
        refine Rg.goods_cons (Rg.good_index hre rfl rfl rfl rfl (fun wx hC => by go_simp)) ?_
        refine Rg.goods_cons (Rg.good_load hre rfl rfl rfl (fun wx hC => by have hcz := cell_ex HC2.out hC; go_simp)) ?_
        refine Rg.goods_cons (Rg.good_call1 Try.func16 (by kernel_rfl) rfl rfl rfl (by rintro u wx hC rfl; exact few_row s x wx hC HSl.out HSx.out)) ?_
        refine Rg.goods_cons (Rg.good_bin hre rfl rfl rfl rfl (fun _ => rfl) (fun w => by go_simp)) ?_
        exact Rg.goods_nil
      case fin =>
        intro wx hx
        simp only [Rg.later, Act.put, List.setIfInBounds_toArray, List.set_cons_succ, List.set_cons_zero]
        have HXx : Hid (Ex w2 wx) := HEx.out.trans hx
        have hcz := cell_ex HC1.out hx
        clear hx
        go_wp2
        go_roundw
        case rel => exact ⟨q + 1, m + 12 + x.length, by omega, by omega, by go_num, by go_num, HN, HXx⟩
        case measure => simp [intOf]; omega
    · obtain rfl : q = R.length := by omega
      have hmT : m = T := by rw [HM.out, List.take_length, HT.out]
      subst hmT
      have HEx3 : Hid (Ex w wr) := HX2.out.trans HEx.out
      by_cases hTc : m = c
      · have hE0 : E = 0 := by rw [← HE.out, if_pos hTc]
        subst hE0
        have t3 : ((m : Int) == (c : Int)) = true := by simp; omega
        have m1 : m ≤ c := by omega
        have m2 : c ≤ m := by omega
        clear hTc
        go_wp2_with fail
        refine (known_any _).mono ?_
        rintro e w5 ⟨rfl, hx5⟩
        go_wp2
        go_ret
        exact ⟨rfl, HEx3.out.trans hx5⟩
      · have hE0 : E = 10 := by rw [← HE.out, if_neg hTc]
        subst hE0
        have t3 : ((m : Int) == (c : Int)) = false := by simp; omega
        clear hTc
        go_wp2_with fail
        refine (known_any _).mono ?_
        rintro e w5 ⟨rfl, hx5⟩
        go_wp2
        go_ret
        exact ⟨rfl, HEx3.out.trans hx5⟩
end Go.Proofs.Ythibeoohhcmejaa.blockCuts
