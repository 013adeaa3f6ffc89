/-
  The walk of the law DictRules: whatever texts it is given, it returns true.
-/
import Derived.Test.YtmnhoofjijiibaaKnown
namespace Go.Proofs.Ytmnhoofjijiibaa.dictRules
open Go.RowKit
set_option linter.unusedVariables false

theorem two_len {D E A : List (List UInt8)} (h : T.bld (flat [D, E]) = A) : A.length ≤ D.length + E.length := by
  have h1 := T.bld_len (flat [D, E])
  have h2 : (flat [D, E]).length = D.length + E.length := by simp [flat]
  rw [h] at h1
  omega

set_option maxRecDepth 100000 in
set_option maxHeartbeats 4000000 in
theorem walk (p0 : Option Addr) (c0 : Nat) (l0 : List (List UInt8)) (p1 : Option Addr) (c1 : Nat) (l1 : List (List UInt8)) (pre : List UInt8) (w : World) (b0 : Rd st w p0 c0 l0) (m0 : ∀ x ∈ l0, x.length ≤ maxLen) (b1 : Rd st w p1 c1 l1) (m1 : ∀ x ∈ l1, x.length ≤ maxLen) (w2 : pre.length ≤ 140737488351232) :
    Calls Try.prog 4 #[.slice p0 l0.length c0, .slice p1 l1.length c1, .string (str pre)] w fun e w' => e = .returned (.bool true) ∧ Below w.heap.size w w' := by
  obtain ⟨C, hC⟩ : ∃ C, cutTexts l0 = C := ⟨_, rfl⟩
  have hCl : C.length ≤ 40 := by rw [← hC, cutTexts_len]; omega
  have hCs : ∀ x ∈ C, x.length ≤ maxLen := by intro x hx; rw [← hC] at hx; have := cutTexts_short l0 x hx; unfold maxLen; omega
  obtain ⟨D, hD⟩ : ∃ D, T.bld C = D := ⟨_, rfl⟩
  obtain ⟨P, hP⟩ : ∃ P, places D C = P := ⟨_, rfl⟩
  have hDC : D.length ≤ C.length := by rw [← hD]; exact T.bld_len C
  have hPl : P.length = C.length := by rw [← hP, places_len]
  have hRise : T.Rise D := by rw [← hD]; exact T.rise_bld C
  have hDm : ∀ x ∈ D, x.length ≤ maxLen := fun x hx => hCs x (by rw [← hD, T.mem_bld] at hx; exact hx)
  obtain ⟨FE, hFE⟩ : ∃ F, cutTexts l1 = F := ⟨_, rfl⟩
  have hFEl : FE.length ≤ 40 := by rw [← hFE, cutTexts_len]; omega
  have hFEs : ∀ x ∈ FE, x.length ≤ maxLen := by intro x hx; rw [← hFE] at hx; have := cutTexts_short l1 x hx; unfold maxLen; omega
  obtain ⟨E, hE⟩ : ∃ E, T.bld FE = E := ⟨_, rfl⟩
  obtain ⟨PE, hPE⟩ : ∃ P, places E FE = P := ⟨_, rfl⟩
  have hEl : E.length ≤ 40 := by rw [← hE]; have := T.bld_len FE; omega
  have hREr : T.Rise E := by rw [← hE]; exact T.rise_bld FE
  have hEm : ∀ x ∈ E, x.length ≤ maxLen := fun x hx => hFEs x (by rw [← hE, T.mem_bld] at hx; exact hx)
  obtain ⟨AL, hAL⟩ : ∃ A, T.bld (flat [D, E]) = A := ⟨_, rfl⟩
  have hALl : AL.length ≤ D.length + E.length := two_len hAL
  have hMD : ∀ x ∈ D, x ∈ AL := by intro x hx; rw [← hAL, T.mem_bld]; simp [flat, hx]
  have hME : ∀ x ∈ E, x ∈ AL := by intro x hx; rw [← hAL, T.mem_bld]; simp [flat, hx]
  obtain ⟨f, hf⟩ : ∃ f, T.pos pre D = f := ⟨_, rfl⟩
  obtain ⟨t, ht⟩ : ∃ t, T.upto pre D = t := ⟨_, rfl⟩
  have hft : f ≤ t ∧ t ≤ D.length := by rw [← hf, ← ht]; exact T.upto_le pre D
  have hft1 := hft.1
  have hft2 := hft.2
  have H0 : Hid (Rd st w p0 c0 l0) := b0
  have HS0 : Hid (∀ x ∈ l0, x.length ≤ maxLen) := m0
  have H1 : Hid (Rd st w p1 c1 l1) := b1
  have HS1 : Hid (∀ x ∈ l1, x.length ≤ maxLen) := m1
  have HC : Hid (cutTexts l0 = C) := hC
  have HCm : Hid (∀ x ∈ C, x.length ≤ maxLen) := hCs
  have HD : Hid (T.bld C = D) := hD
  have HP : Hid (places D C = P) := hP
  have HRise : Hid (T.Rise D) := hRise
  have HDm : Hid (∀ x ∈ D, x.length ≤ maxLen) := hDm
  have HFE : Hid (cutTexts l1 = FE) := hFE
  have HFmE : Hid (∀ x ∈ FE, x.length ≤ maxLen) := hFEs
  have HE : Hid (T.bld FE = E) := hE
  have HPE : Hid (places E FE = PE) := hPE
  have HAL : Hid (T.bld (flat [D, E]) = AL) := hAL
  have HPAL : Hid ([D, E].map (places AL) = [places AL D, places AL E]) := (rfl : [D, E].map (places AL) = [places AL D, places AL E])
  have HMD : Hid (∀ x ∈ D, x ∈ AL) := hMD
  have HME : Hid (∀ x ∈ E, x ∈ AL) := hME
  have HMx : Hid (∀ l ∈ [D, E], ∀ x ∈ l, x.length ≤ maxLen) := (by
    intro l hl
    simp at hl
    rcases hl with rfl | rfl
    · exact hDm
    · exact hEm : ∀ l ∈ [D, E], ∀ x ∈ l, x.length ≤ maxLen)
  have HRx : Hid (∀ l ∈ [D, E], T.Rise l) := (by
    intro l hl
    simp at hl
    rcases hl with rfl | rfl
    · exact hRise
    · exact hREr : ∀ l ∈ [D, E], T.Rise l)
  have HF : Hid (T.pos pre D = f) := hf
  have HT : Hid (T.upto pre D = t) := ht
  have HPm : Hid (pre.length ≤ maxLen) := (by unfold maxLen; omega : pre.length ≤ maxLen)
  have hps : (str pre).size = pre.length := str_size pre
  have zp := str_toList pre
  have tP : ((P.length : Int) != (C.length : Int)) = false := by simp; omega
  have tD0 : decide ((C.length : Int) < (D.length : Int)) = false := decide_eq_false (by omega)
  have hPl1 : P.length ≤ C.length := by omega
  have hPl2 : C.length ≤ P.length := by omega
  have hcap0 := b0.1
  have hcap0m := b0.2.1
  have hcap1 := b1.1
  have hcap1m := b1.2.1
  unfold maxLen at hcap0m hcap1m
  clear b0 b1 m0 m1 hC hCs hD hP hRise hDm hFE hFEs hE hPE hREr hEm hAL hMD hME hf ht hft hPl
  go_enter Try.func4, Try.ntmps4
  go_wp2_with fail
  refine (few_is p0 _ c0 l0 _ rfl H0.out HS0.out C HC.out).mono ?_
  rintro e wa ⟨va, rfl, ⟨aa, c0', rfl, hba⟩, hxa⟩
  go_wp2_with fail
  refine (build_is aa _ c0' C _ rfl hba (by omega) HCm.out D HD.out P HP.out).mono ?_
  rintro e w1 ⟨v7, u8, rfl, ⟨a7, c7, rfl, hb7⟩, ⟨a8, c8, rfl, hb8⟩, hx1⟩
  have HW1 : Hid (Ex w w1) := hxa.trans hx1
  have HRC : Hid (Rd st w1 aa c0' C) := hba.below hx1
  have HRD1 : Hid (Rd st w1 a7 c7 D) := hb7
  have HRP : Hid (Rd z64 w1 a8 c8 P) := hb8
  have h7a := hb7.1
  have h7m := hb7.2.1
  have h8a := hb8.1
  have h8m := hb8.2.1
  have haa := hba.1
  have ham := hba.2.1
  unfold maxLen at h7m h8m ham
  clear hba hxa hb7 hb8 hx1
  go_wp2_with fail
  go_loopw [9] (fun i wr => ∃ k : Nat, k ≤ C.length ∧ i = .int .i64 k ∧ Hid (Ex w1 wr)) (fun i _ => C.length - (intOf i).toNat)
  case atStart => exact ⟨0, by omega, rfl, Ex.refl _⟩
  case round =>
    obtain ⟨k, hk, rfl, HEx⟩ := hrel
    by_cases hlt : k < C.length
    · have tk : decide ((k : Int) < (C.length : Int)) = true := by simp; omega
      obtain ⟨x, hx⟩ : ∃ x, x = C[k] := ⟨_, rfl⟩
      have hxD : x ∈ D := by rw [← HD.out, T.mem_bld, hx]; exact List.getElem_mem hlt
      obtain ⟨z, hz⟩ : ∃ z, z = T.place D x := ⟨_, rfl⟩
      have hzat : D[z]? = some x := by rw [hz]; exact T.place_at hxD
      have hzl : z < D.length := (List.getElem?_eq_some_iff.1 hzat).1
      have hPk : P[k]? = some (z : Int) := by
        rw [← HP.out]
        simp only [places, List.getElem?_map, List.getElem?_eq_getElem hlt, Option.map_some, ← hx, ← hz]
      have hkP : k < P.length := (List.getElem?_eq_some_iff.1 hPk).1
      obtain ⟨b0, o0, hb0, hcc⟩ := (HRC.out.below HEx.out).at hlt
      subst hb0
      rw [← hx] at hcc
      obtain ⟨b7, o7, hb7, hcd⟩ := (HRD1.out.below HEx.out).at hzl
      subst hb7
      have hDz : D[z] = x := by rw [List.getElem?_eq_getElem hzl] at hzat; simpa using hzat
      rw [hDz] at hcd
      obtain ⟨b8, o8, hb8, hcp⟩ := (HRP.out.below HEx.out).at hkP
      subst hb8
      have hPkk : P[k] = (z : Int) := by rw [List.getElem?_eq_getElem hkP] at hPk; simpa using hPk
      rw [hPkk] at hcp
      have HC0 : Hid (wr.cell? ⟨b0, o0 + k, none⟩ = some (.string (str x))) := hcc
      have HD7 : Hid (wr.cell? ⟨b7, o7 + z, none⟩ = some (.string (str x))) := hcd
      have HP8 : Hid (wr.cell? ⟨b8, o8 + k, none⟩ = some (.int .i64 (z : Int))) := hcp
      have hk1 : (k : Int) < (C.length : Int) := by omega
      have hk2 : (k : Int) < (P.length : Int) := by omega
      have hz1 : (z : Int) < (D.length : Int) := by omega
      clear hx hz hzat hxD hPk hcc hcd hDz hcp hPkk
      go_wp2_with fail
      have hre := Ex.refl
      refine Rg.wp_rows [.inl (Value.slice (some { block := b8, off := o8 }) P.length c8), .inl (Value.int IntKind.i64 ↑k), .inl (Value.pointer (some ⟨b8, o8 + k, none⟩)), .inl (Value.int IntKind.i64 ↑z), .inl (.bool false), .inl (.bool false), .inl (Value.slice (some { block := b8, off := o8 }) P.length c8), .inl (Value.int IntKind.i64 ↑k), .inl (Value.pointer (some ⟨b8, o8 + k, none⟩)), .inl (Value.int IntKind.i64 ↑z), .inl (Value.slice (some { block := b7, off := o7 }) D.length c7), .inl (Value.int IntKind.i64 ↑D.length), .inl (.bool false), .inl (.bool false), .inl (.bool false), .inl (Value.slice (some { block := b7, off := o7 }) D.length c7), .inl (Value.slice (some { block := b8, off := o8 }) P.length c8), .inl (Value.int IntKind.i64 ↑k), .inl (Value.pointer (some ⟨b8, o8 + k, none⟩)), .inl (Value.int IntKind.i64 ↑z), .inl (Value.pointer (some ⟨b7, o7 + z, none⟩)), .inl (Value.string (str x)), .inl (Value.slice (some { block := b0, off := o0 }) C.length c0'), .inl (Value.int IntKind.i64 ↑k), .inl (Value.pointer (some ⟨b0, o0 + k, none⟩)), .inl (Value.string (str x)), .inl (.bool false), .inl (.bool false)] (Ex wr) Ex 286 (by kernel_rfl) rfl (by kernel_rfl) ?st hre (Ex.drew _) ?goods ?fin
      case st => exact trivial
      case goods =>
        refine Rg.goods_cons (Rg.good_move hre rfl rfl rfl) ?_
        refine Rg.goods_cons (Rg.good_move hre rfl rfl rfl) ?_
        refine Rg.goods_cons (Rg.good_index hre rfl rfl rfl rfl (fun wx hC => by go_simp)) ?_
        refine Rg.goods_cons (Rg.good_load hre rfl rfl rfl (fun wx hC => by have hcz := cell_ex HP8.out hC; go_simp)) ?_
        refine Rg.goods_cons (Rg.good_bin hre rfl rfl rfl rfl (fun _ => rfl) (fun w => by go_simp; first | done | omega)) ?_
        refine Rg.goods_cons (Rg.good_move hre rfl rfl rfl) ?_
        refine Rg.goods_cons (Rg.good_move hre rfl rfl rfl) ?_
        refine Rg.goods_cons (Rg.good_move hre rfl rfl rfl) ?_
        refine Rg.goods_cons (Rg.good_index hre rfl rfl rfl rfl (fun wx hC => by go_simp)) ?_
        refine Rg.goods_cons (Rg.good_load hre rfl rfl rfl (fun wx hC => by have hcz := cell_ex HP8.out hC; go_simp)) ?_
        refine Rg.goods_cons (Rg.good_move hre rfl rfl rfl) ?_
        refine Rg.goods_cons (Rg.good_len hre rfl rfl (by rintro u w _ rfl; rfl)) ?_
        refine Rg.goods_cons (Rg.good_bin hre rfl rfl rfl rfl (fun _ => rfl) (fun w => by go_simp; first | done | omega)) ?_
        refine Rg.goods_cons (Rg.good_pick false hre rfl rfl rfl rfl) ?_
        refine Rg.goods_cons (Rg.good_move hre rfl rfl rfl) ?_
        refine Rg.goods_cons (Rg.good_move hre rfl rfl rfl) ?_
        refine Rg.goods_cons (Rg.good_move hre rfl rfl rfl) ?_
        refine Rg.goods_cons (Rg.good_move hre rfl rfl rfl) ?_
        refine Rg.goods_cons (Rg.good_index hre rfl rfl rfl rfl (fun wx hC => by go_simp)) ?_
        refine Rg.goods_cons (Rg.good_load hre rfl rfl rfl (fun wx hC => by have hcz := cell_ex HP8.out hC; go_simp)) ?_
        refine Rg.goods_cons (Rg.good_index hre rfl rfl rfl rfl (fun wx hC => by go_simp)) ?_
        refine Rg.goods_cons (Rg.good_load hre rfl rfl rfl (fun wx hC => by have hcz := cell_ex HD7.out hC; go_simp)) ?_
        refine Rg.goods_cons (Rg.good_move hre rfl rfl rfl) ?_
        refine Rg.goods_cons (Rg.good_move hre rfl rfl rfl) ?_
        refine Rg.goods_cons (Rg.good_index hre rfl rfl rfl rfl (fun wx hC => by go_simp)) ?_
        refine Rg.goods_cons (Rg.good_load hre rfl rfl rfl (fun wx hC => by have hcz := cell_ex HC0.out hC; go_simp)) ?_
        refine Rg.goods_cons (Rg.good_bin hre rfl rfl rfl rfl (fun _ => rfl) (fun w => by go_simp)) ?_
        refine Rg.goods_cons (Rg.good_pick false hre rfl rfl rfl rfl) ?_
        exact Rg.goods_nil
      case fin =>
        intro wx hx
        simp only [Rg.later, Act.put, List.setIfInBounds_toArray, List.set_cons_succ, List.set_cons_zero]
        have HXx : Hid (Ex w1 wx) := HEx.out.trans hx
        clear hx
        go_wp2
        go_roundw
        case rel => exact ⟨k + 1, by omega, by go_num, HXx⟩
        case measure => simp [intOf]; omega
    · have tk : decide ((k : Int) < (C.length : Int)) = false := by simp; omega
      have HW2e : Hid (Ex w wr) := HW1.out.trans HEx.out
      obtain ⟨w2, hw2⟩ : ∃ w2, w2 = wr := ⟨_, rfl⟩
      have hRD2 := HRD1.out.below HEx.out
      go_wp2_with fail
      refine (from_is a7 _ c7 D pre _ rfl hRD2 (by omega) HPm.out HDm.out HRise.out f t HF.out HT.out).mono ?_
      rintro e w2b ⟨rfl, hx2b⟩
      have HW2 : Hid (Ex w w2b) := HW2e.out.trans hx2b
      have HRD : Hid (Rd st w2b a7 c7 D) := hRD2.below hx2b
      have g1 : decide ((f : Int) < 0) = false := by simp
      have g2 : decide ((t : Int) < (f : Int)) = false := decide_eq_false (by omega)
      have g3 : decide ((D.length : Int) < (t : Int)) = false := decide_eq_false (by omega)
      clear hRD2 hx2b hw2 w2
      obtain ⟨w2, hw2⟩ : ∃ w2, w2 = w2b := ⟨_, rfl⟩
      rw [← hw2] at HW2 HRD ⊢
      clear hw2
      go_wp2_with fail
      go_loopw [12] (fun i wr => ∃ k : Nat, k ≤ D.length ∧ i = .int .i64 k ∧ Hid (Ex w2 wr)) (fun i _ => D.length - (intOf i).toNat)
      case atStart => exact ⟨0, by omega, rfl, Ex.refl _⟩
      case round =>
        obtain ⟨k, hk, rfl, HEx⟩ := hrel
        by_cases hlt : k < D.length
        · have tk : decide ((k : Int) < (D.length : Int)) = true := by simp; omega
          obtain ⟨b7, o7, rfl, hcx⟩ := (HRD.out.below HEx.out).at hlt
          obtain ⟨x, hx⟩ : ∃ x, x = D[k] := ⟨_, rfl⟩
          rw [← hx] at hcx
          have hDk : D[k]? = some x := by rw [hx]; exact List.getElem?_eq_getElem hlt
          have HX7 : Hid (wr.cell? ⟨b7, o7 + k, none⟩ = some (.string (str x))) := hcx
          have HIx : Hid (T.idx x D = some k) := T.idx_at HRise.out hDk
          have HXm : Hid (x.length ≤ maxLen) := HDm.out x (List.mem_of_getElem? hDk)
          have hxm := HXm.out
          unfold maxLen at hxm
          have HRange : Hid (T.begins pre x = (decide (f ≤ k) && decide (k < t))) := (by have h := T.begins_range HRise.out pre hDk; rw [HF.out, HT.out] at h; exact h : T.begins pre x = (decide (f ≤ k) && decide (k < t)))
          have hss : (str x).size = x.length := str_size x
          have hcut : (str x).extract 0 pre.length = str (x.take pre.length) := str_cut _ _
          have zx := str_toList (x.take pre.length)
          have hki : (k : Int) < (D.length : Int) := by omega
          by_cases hk0 : k = 0
          · have tz : decide (0 < (k : Int)) = false := decide_eq_false (by omega)
            have hkz : k ≤ 0 := by omega
            clear hcx hx hDk hk0
            go_wp2_with fail
            have hre := Ex.refl
            refine Rg.wp_rows [.inl (Value.int IntKind.i64 ↑k), .inl (.bool false), .inl (.bool false), .inl undef, .inl undef, .inl undef, .inl undef, .inl undef, .inl undef, .inl undef, .inl undef, .inl undef, .inl undef, .inl (Value.bool false)] (Ex wr) Ex 286 (by kernel_rfl) rfl (by kernel_rfl) ?st hre (Ex.drew _) ?goods ?fin
            case st => exact trivial
            case goods =>
              refine Rg.goods_cons (Rg.good_move hre rfl rfl rfl) ?_
              refine Rg.goods_cons (Rg.good_bin hre rfl rfl rfl rfl (fun _ => rfl) (fun w => by go_simp; first | done | omega)) ?_
              refine Rg.goods_cons (Rg.good_move hre rfl rfl rfl) ?_
              refine Rg.goods_cons (Rg.good_skip rfl) ?_
              refine Rg.goods_cons (Rg.good_skip rfl) ?_
              refine Rg.goods_cons (Rg.good_skip rfl) ?_
              refine Rg.goods_cons (Rg.good_skip rfl) ?_
              refine Rg.goods_cons (Rg.good_skip rfl) ?_
              refine Rg.goods_cons (Rg.good_skip rfl) ?_
              refine Rg.goods_cons (Rg.good_skip rfl) ?_
              refine Rg.goods_cons (Rg.good_skip rfl) ?_
              refine Rg.goods_cons (Rg.good_skip rfl) ?_
              refine Rg.goods_cons (Rg.good_skip rfl) ?_
              refine Rg.goods_cons (Rg.good_pick false hre rfl rfl rfl rfl) ?_
              exact Rg.goods_nil
            case fin =>
              intro wx hx
              simp only [Rg.later, Act.put, List.setIfInBounds_toArray, List.set_cons_succ, List.set_cons_zero]
              have HX12 : Hid (Ex w2 wx) := HEx.out.trans hx
              have hcx2 := cell_ex HX7.out hx
              clear hx
              go_wp2_with fail
              refine (find_is (some ⟨b7, o7, none⟩) _ c7 D x _ rfl (HRD.out.below HX12.out) (by omega) HDm.out HXm.out HRise.out (some k) HIx.out).mono ?_
              rintro e w8 ⟨rfl, hx8⟩
              simp only [Option.getD_some, Option.isSome_some]
              have hcx8 := cell_ex hcx2 hx8
              have HXx : Hid (Ex w2 w8) := HX12.out.trans hx8
              clear hx8 hcx2
              cases hbg : T.begins pre x with
              | true =>
                have hr := HRange.out
                rw [hbg] at hr
                have hr2 : f ≤ k ∧ k < t := by
                  have h := hr.symm
                  simp only [Bool.and_eq_true, decide_eq_true_eq] at h
                  exact h
                have q1 : decide ((f : Int) ≤ (k : Int)) = true := decide_eq_true (by omega)
                have q2 : decide ((k : Int) < (t : Int)) = true := decide_eq_true (by omega)
                have n1 : f ≤ k := hr2.1
                have n2 : k < t := hr2.2
                have n3 : decide (f ≤ k) = true := decide_eq_true n1
                have n4 : decide (k < t) = true := decide_eq_true n2
                unfold T.begins at hbg
                simp only [Bool.and_eq_true, decide_eq_true_eq] at hbg
                have q3 : decide ((pre.length : Int) ≤ (x.length : Int)) = true := decide_eq_true (by omega)
                have hpl : pre.length ≤ x.length := hbg.1
                have q4 : (x.take pre.length == pre) = true := by simpa using hbg.2
                clear hr hr2 hbg
                go_wp2
                go_roundw
                case rel => exact ⟨k + 1, by omega, by go_num, HXx⟩
                case measure => simp [intOf]; omega
              | false =>
                have hr := HRange.out
                rw [hbg] at hr
                have hr2 : ¬ (f ≤ k ∧ k < t) := by
                  intro h
                  have h2 := hr.symm
                  simp [h.1, h.2] at h2
                have hb2 : ¬ (pre.length ≤ x.length ∧ x.take pre.length = pre) := by
                  intro h
                  unfold T.begins at hbg
                  simp [h.1, h.2] at hbg
                clear hr hbg
                by_cases h1 : f ≤ k
                · have q1 : decide ((f : Int) ≤ (k : Int)) = true := decide_eq_true (by omega)
                  have q2 : decide ((k : Int) < (t : Int)) = false := decide_eq_false (by omega)
                  have n2 : ¬ k < t := by omega
                  have n3 : decide (f ≤ k) = true := decide_eq_true h1
                  have n4 : decide (k < t) = false := decide_eq_false n2
                  by_cases h2 : pre.length ≤ x.length
                  · have q3 : decide ((pre.length : Int) ≤ (x.length : Int)) = true := decide_eq_true (by omega)
                    have q4 : (x.take pre.length == pre) = false := by
                      rw [beq_eq_false_iff_ne]
                      intro h
                      exact hb2 ⟨h2, h⟩
                    clear hb2 hr2
                    go_wp2
                    go_roundw
                    case rel => exact ⟨k + 1, by omega, by go_num, HXx⟩
                    case measure => simp [intOf]; omega
                  · have q3 : decide ((pre.length : Int) ≤ (x.length : Int)) = false := decide_eq_false (by omega)
                    clear hb2 hr2
                    go_wp2
                    go_roundw
                    case rel => exact ⟨k + 1, by omega, by go_num, HXx⟩
                    case measure => simp [intOf]; omega
                · have q1 : decide ((f : Int) ≤ (k : Int)) = false := decide_eq_false (by omega)
                  have n3 : decide (f ≤ k) = false := decide_eq_false h1
                  by_cases h2 : pre.length ≤ x.length
                  · have q3 : decide ((pre.length : Int) ≤ (x.length : Int)) = true := decide_eq_true (by omega)
                    have q4 : (x.take pre.length == pre) = false := by
                      rw [beq_eq_false_iff_ne]
                      intro h
                      exact hb2 ⟨h2, h⟩
                    clear hb2 hr2
                    go_wp2
                    go_roundw
                    case rel => exact ⟨k + 1, by omega, by go_num, HXx⟩
                    case measure => simp [intOf]; omega
                  · have q3 : decide ((pre.length : Int) ≤ (x.length : Int)) = false := decide_eq_false (by omega)
                    clear hb2 hr2
                    go_wp2
                    go_roundw
                    case rel => exact ⟨k + 1, by omega, by go_num, HXx⟩
                    case measure => simp [intOf]; omega
          · obtain ⟨j, hj⟩ : ∃ j, k = j + 1 := ⟨k - 1, by omega⟩
            have hji : (k : Int) - 1 = (j : Int) := by omega
            have hjl : j < D.length := by omega
            obtain ⟨_, _, e7, hcy⟩ := (HRD.out.below HEx.out).at hjl
            simp only [Option.some.injEq, Addr.mk.injEq, and_true] at e7
            obtain ⟨rfl, rfl⟩ := e7
            obtain ⟨y, hy⟩ : ∃ y, y = D[j] := ⟨_, rfl⟩
            rw [← hy] at hcy
            have HY7 : Hid (wr.cell? ⟨b7, o7 + j, none⟩ = some (.string (str y))) := hcy
            have HLt : Hid (Op.bytesLess y x = true) := T.rise_at HRise.out (i := j) (j := k) (by rw [hy]; exact List.getElem?_eq_getElem hjl) hDk (by omega)
            have hjk : (j : Int) < (D.length : Int) := by omega
            have tz : decide (0 < (k : Int)) = true := decide_eq_true (by omega)
            have hkp : 1 ≤ k := by omega
            clear hcx hx hDk hk0 hj hcy hy
            go_wp2_with fail
            have hre := Ex.refl
            refine Rg.wp_rows [.inl (Value.int IntKind.i64 ↑k), .inl (.bool true), .inl (.bool true), .inl (Value.slice (some { block := b7, off := o7 }) D.length c7), .inl (Value.int IntKind.i64 ↑k), .inl (Value.int IntKind.i64 ↑j), .inl (Value.pointer (some ⟨b7, o7 + j, none⟩)), .inl (Value.string (str y)), .inl (Value.slice (some { block := b7, off := o7 }) D.length c7), .inl (Value.int IntKind.i64 ↑k), .inl (Value.pointer (some ⟨b7, o7 + k, none⟩)), .inl (Value.string (str x)), .inl (.bool false), .inl (.bool false)] (Ex wr) Ex 286 (by kernel_rfl) rfl (by kernel_rfl) ?st hre (Ex.drew _) ?goods ?fin
            case st => exact trivial
            case goods =>
              refine Rg.goods_cons (Rg.good_move hre rfl rfl rfl) ?_
              refine Rg.goods_cons (Rg.good_bin hre rfl rfl rfl rfl (fun _ => rfl) (fun w => by go_simp; first | done | omega)) ?_
              refine Rg.goods_cons (Rg.good_move hre rfl rfl rfl) ?_
              refine Rg.goods_cons (Rg.good_move hre rfl rfl rfl) ?_
              refine Rg.goods_cons (Rg.good_move hre rfl rfl rfl) ?_
              refine Rg.goods_cons (Rg.good_bin hre rfl rfl rfl rfl (fun _ => rfl) (fun w => by go_simp; first | done | exact I.wi64 _ (by omega) (by omega) | (rw [I.wi64 _ (by omega) (by omega)]; omega))) ?_
              refine Rg.goods_cons (Rg.good_index hre rfl rfl rfl rfl (fun wx hC => by go_simp)) ?_
              refine Rg.goods_cons (Rg.good_load hre rfl rfl rfl (fun wx hC => by have hcz := cell_ex HY7.out hC; go_simp)) ?_
              refine Rg.goods_cons (Rg.good_move hre rfl rfl rfl) ?_
              refine Rg.goods_cons (Rg.good_move hre rfl rfl rfl) ?_
              refine Rg.goods_cons (Rg.good_index hre rfl rfl rfl rfl (fun wx hC => by go_simp)) ?_
              refine Rg.goods_cons (Rg.good_load hre rfl rfl rfl (fun wx hC => by have hcz := cell_ex HX7.out hC; go_simp)) ?_
              refine Rg.goods_cons (Rg.good_bin hre rfl rfl rfl rfl (fun _ => rfl) (fun w => by go_simp; rw [str_toList, str_toList]; exact HLt.out)) ?_
              refine Rg.goods_cons (Rg.good_pick true hre rfl rfl rfl rfl) ?_
              exact Rg.goods_nil
            case fin =>
              intro wx hx
              simp only [Rg.later, Act.put, List.setIfInBounds_toArray, List.set_cons_succ, List.set_cons_zero]
              have HX12 : Hid (Ex w2 wx) := HEx.out.trans hx
              have hcx2 := cell_ex HX7.out hx
              clear hx
              go_wp2_with fail
              refine (find_is (some ⟨b7, o7, none⟩) _ c7 D x _ rfl (HRD.out.below HX12.out) (by omega) HDm.out HXm.out HRise.out (some k) HIx.out).mono ?_
              rintro e w8 ⟨rfl, hx8⟩
              simp only [Option.getD_some, Option.isSome_some]
              have hcx8 := cell_ex hcx2 hx8
              have HXx : Hid (Ex w2 w8) := HX12.out.trans hx8
              clear hx8 hcx2
              cases hbg : T.begins pre x with
              | true =>
                have hr := HRange.out
                rw [hbg] at hr
                have hr2 : f ≤ k ∧ k < t := by
                  have h := hr.symm
                  simp only [Bool.and_eq_true, decide_eq_true_eq] at h
                  exact h
                have q1 : decide ((f : Int) ≤ (k : Int)) = true := decide_eq_true (by omega)
                have q2 : decide ((k : Int) < (t : Int)) = true := decide_eq_true (by omega)
                have n1 : f ≤ k := hr2.1
                have n2 : k < t := hr2.2
                have n3 : decide (f ≤ k) = true := decide_eq_true n1
                have n4 : decide (k < t) = true := decide_eq_true n2
                unfold T.begins at hbg
                simp only [Bool.and_eq_true, decide_eq_true_eq] at hbg
                have q3 : decide ((pre.length : Int) ≤ (x.length : Int)) = true := decide_eq_true (by omega)
                have hpl : pre.length ≤ x.length := hbg.1
                have q4 : (x.take pre.length == pre) = true := by simpa using hbg.2
                clear hr hr2 hbg
                go_wp2
                go_roundw
                case rel => exact ⟨k + 1, by omega, by go_num, HXx⟩
                case measure => simp [intOf]; omega
              | false =>
                have hr := HRange.out
                rw [hbg] at hr
                have hr2 : ¬ (f ≤ k ∧ k < t) := by
                  intro h
                  have h2 := hr.symm
                  simp [h.1, h.2] at h2
                have hb2 : ¬ (pre.length ≤ x.length ∧ x.take pre.length = pre) := by
                  intro h
                  unfold T.begins at hbg
                  simp [h.1, h.2] at hbg
                clear hr hbg
                by_cases h1 : f ≤ k
                · have q1 : decide ((f : Int) ≤ (k : Int)) = true := decide_eq_true (by omega)
                  have q2 : decide ((k : Int) < (t : Int)) = false := decide_eq_false (by omega)
                  have n2 : ¬ k < t := by omega
                  have n3 : decide (f ≤ k) = true := decide_eq_true h1
                  have n4 : decide (k < t) = false := decide_eq_false n2
                  by_cases h2 : pre.length ≤ x.length
                  · have q3 : decide ((pre.length : Int) ≤ (x.length : Int)) = true := decide_eq_true (by omega)
                    have q4 : (x.take pre.length == pre) = false := by
                      rw [beq_eq_false_iff_ne]
                      intro h
                      exact hb2 ⟨h2, h⟩
                    clear hb2 hr2
                    go_wp2
                    go_roundw
                    case rel => exact ⟨k + 1, by omega, by go_num, HXx⟩
                    case measure => simp [intOf]; omega
                  · have q3 : decide ((pre.length : Int) ≤ (x.length : Int)) = false := decide_eq_false (by omega)
                    clear hb2 hr2
                    go_wp2
                    go_roundw
                    case rel => exact ⟨k + 1, by omega, by go_num, HXx⟩
                    case measure => simp [intOf]; omega
                · have q1 : decide ((f : Int) ≤ (k : Int)) = false := decide_eq_false (by omega)
                  have n3 : decide (f ≤ k) = false := decide_eq_false h1
                  by_cases h2 : pre.length ≤ x.length
                  · have q3 : decide ((pre.length : Int) ≤ (x.length : Int)) = true := decide_eq_true (by omega)
                    have q4 : (x.take pre.length == pre) = false := by
                      rw [beq_eq_false_iff_ne]
                      intro h
                      exact hb2 ⟨h2, h⟩
                    clear hb2 hr2
                    go_wp2
                    go_roundw
                    case rel => exact ⟨k + 1, by omega, by go_num, HXx⟩
                    case measure => simp [intOf]; omega
                  · have q3 : decide ((pre.length : Int) ≤ (x.length : Int)) = false := decide_eq_false (by omega)
                    clear hb2 hr2
                    go_wp2
                    go_roundw
                    case rel => exact ⟨k + 1, by omega, by go_num, HXx⟩
                    case measure => simp [intOf]; omega
        · have tk : decide ((k : Int) < (D.length : Int)) = false := by simp; omega
          have HWr : Hid (Ex w wr) := HW2.out.trans HEx.out
          go_wp2_with fail
          refine (few_is p1 _ c1 l1 _ rfl (H1.out.below HWr.out) HS1.out FE HFE.out).mono ?_
          rintro e wf ⟨vf, rfl, ⟨af, cf, rfl, hbf⟩, hxf⟩
          go_wp2_with fail
          refine (build_is af _ cf FE _ rfl hbf (by omega) HFmE.out E HE.out PE HPE.out).mono ?_
          rintro e w3 ⟨ve, ue, rfl, ⟨a16, c16, rfl, hb16⟩, ⟨a17, c17, rfl, hb17⟩, hx3⟩
          have hxr3 : Ex wr w3 := hxf.trans hx3
          have hRD3 := (HRD.out.below HEx.out).below hxr3
          have HW3 : Hid (Ex w w3) := HWr.out.trans hxr3
          have hE3 : EachN st w3 [(a7, D.length, c7), (a16, E.length, c16)] [D, E] := EachN.cons ⟨rfl, hRD3⟩ (EachN.cons ⟨rfl, hb16⟩ (EachN.nil _))
          have HN3 : Hid (RdN st (w3.alloc (.cells ([(a7, D.length, c7), (a16, E.length, c16)].map sv).toArray 22)) (some ⟨w3.heap.size, 0, none⟩) 2 [D, E]) := RdN.laid w3 22 _ _ hE3 (by simp)
          have HRD3 : Hid (Rd st w3 a7 c7 D) := hRD3
          have HRE3 : Hid (Rd st w3 a16 c16 E) := hb16
          have h16a := hb16.1
          have h16m := hb16.2.1
          unfold maxLen at h16m
          clear hbf hxf hb16 hb17 hx3 hxr3 hRD3 hE3
          go_wp2_with fail
          refine (merge_is _ 2 2 [D, E] _ rfl HN3.out (by simp [flat]; omega) (by simp) HMx.out HRx.out AL HAL.out [places AL D, places AL E] HPAL.out).mono ?_
          rintro e w5 ⟨v18, u19, rfl, ⟨a18, c18, rfl, hb18⟩, ⟨a19, c19, rfl, hb19⟩, hx5⟩
          have hx35 : Ex w3 w5 := Ex.trans ((Below.refl _ _).alloc (Nat.le_refl _) _) hx5
          have HW5 : Hid (Ex w w5) := HW3.out.trans hx35
          have HRD5 : Hid (Rd st w5 a7 c7 D) := HRD3.out.below hx35
          have HRE : Hid (Rd st w5 a16 c16 E) := HRE3.out.below hx35
          have HRAL : Hid (Rd st w5 a18 c18 AL) := hb18
          have h18a := hb18.1
          have h18m := hb18.2.1
          unfold maxLen at h18m
          have h19 := hb19.bounds
          have h19m := h19.2
          have h19a := h19.1
          unfold maxLen at h19m
          obtain ⟨b19, o19, q9, d9, rfl, hcD, hrD⟩ := hb19.at (k := 0) (by simp)
          obtain ⟨_, _, qE9, dE9, eE, hcE, hrE⟩ := hb19.at (k := 1) (by simp)
          simp only [Option.some.injEq, Addr.mk.injEq, and_true] at eE
          obtain ⟨rfl, rfl⟩ := eE
          have HCellD : Hid (w5.cell? ⟨b19, o19, none⟩ = some (.slice q9 (places AL D).length d9)) := hcD
          have HCellE : Hid (w5.cell? ⟨b19, o19 + 1, none⟩ = some (.slice qE9 (places AL E).length dE9)) := hcE
          have HRowD : Hid (Rd z64 w5 q9 d9 (places AL D)) := hrD
          have HRowE : Hid (Rd z64 w5 qE9 dE9 (places AL E)) := hrE
          have hplD : (places AL D).length = D.length := places_len AL D
          have hplE : (places AL E).length = E.length := places_len AL E
          obtain ⟨nD, hnD⟩ : ∃ n, n = (places AL D).length := ⟨_, rfl⟩
          obtain ⟨nE, hnE⟩ : ∃ n, n = (places AL E).length := ⟨_, rfl⟩
          have hc5D : w5.cell? ⟨b19, o19, none⟩ = some (.slice q9 nD d9) := by rw [hnD]; exact hcD
          have hc5E : w5.cell? ⟨b19, o19 + 1, none⟩ = some (.slice qE9 nE dE9) := by rw [hnE]; exact hcE
          have tD : ((nD : Int) != (D.length : Int)) = false := by simp; omega
          have tE : ((nE : Int) != (E.length : Int)) = false := by simp; omega
          have tA : decide ((D.length : Int) + (E.length : Int) < (AL.length : Int)) = false := by simp; omega
          have hnD1 : nD ≤ D.length := by omega
          have hnE1 : nE ≤ E.length := by omega
          clear hb18 hx5 hx35 hb19 h19 hcD hcE hrD hrE HN3 HRD3 HRE3 hplD hplE hnD hnE
          go_wp2_with fail
          go_loopw [20] (fun i wr => ∃ k : Nat, k ≤ D.length ∧ i = .int .i64 k ∧ Hid (Ex w5 wr)) (fun i _ => D.length - (intOf i).toNat)
          case atStart => exact ⟨0, by omega, rfl, Ex.refl _⟩
          case round =>
            obtain ⟨k, hk, rfl, HEx⟩ := hrel
            by_cases hlt : k < D.length
            · have tk : decide ((k : Int) < (D.length : Int)) = true := by simp; omega
              obtain ⟨x, hx⟩ : ∃ x, x = D[k] := ⟨_, rfl⟩
              obtain ⟨Q, hQ⟩ : ∃ Q, Q = places AL D := ⟨_, rfl⟩
              have hQl : Q.length = D.length := by rw [hQ, places_len]
              have hxA : x ∈ AL := HMD.out x (by rw [hx]; exact List.getElem_mem hlt)
              obtain ⟨z, hz⟩ : ∃ z, z = T.place AL x := ⟨_, rfl⟩
              have hzat : AL[z]? = some x := by rw [hz]; exact T.place_at hxA
              have hzl : z < AL.length := (List.getElem?_eq_some_iff.1 hzat).1
              have hQk : Q[k]? = some (z : Int) := by
                rw [hQ]
                simp only [places, List.getElem?_map, List.getElem?_eq_getElem hlt, Option.map_some, ← hx, ← hz]
              obtain ⟨bq, oq, hbq, hcx⟩ := (HRD5.out.below HEx.out).at hlt
              subst hbq
              rw [← hx] at hcx
              obtain ⟨b18, o18, hb18, hca⟩ := (HRAL.out.below HEx.out).at hzl
              subst hb18
              have hALz : AL[z] = x := by rw [List.getElem?_eq_getElem hzl] at hzat; simpa using hzat
              rw [hALz] at hca
              have hkQ : k < Q.length := by omega
              have hrq := HRowD.out.below HEx.out
              rw [← hQ] at hrq
              obtain ⟨g9, f9, hg9, hcz9⟩ := hrq.at hkQ
              subst hg9
              have hQkk : Q[k] = (z : Int) := by rw [List.getElem?_eq_getElem hkQ] at hQk; simpa using hQk
              rw [hQkk] at hcz9
              have hcl := HCellD.out
              rw [← hQ] at hcl
              have HL9 : Hid (wr.cell? ⟨b19, o19, none⟩ = some (.slice (some ⟨g9, f9, none⟩) Q.length d9)) := cell_ex hcl HEx.out
              have HZ9 : Hid (wr.cell? ⟨g9, f9 + k, none⟩ = some (.int .i64 (z : Int))) := hcz9
              have HA18 : Hid (wr.cell? ⟨b18, o18 + z, none⟩ = some (.string (str x))) := hca
              have HXq : Hid (wr.cell? ⟨bq, oq + k, none⟩ = some (.string (str x))) := hcx
              have hk1 : (k : Int) < (Q.length : Int) := by omega
              have hk2 : (k : Int) < (D.length : Int) := by omega
              have hz1 : (z : Int) < (AL.length : Int) := by omega
              clear hx hQ hz hzat hxA hQk hcx hca hALz hrq hcz9 hQkk hcl hQl
              go_wp2_with fail
              have hre := Ex.refl
              refine Rg.wp_rows [.inl (Value.slice (some { block := b19, off := o19 }) 2 c19), .inl (Value.pointer (some ⟨b19, o19, none⟩)), .inl (Value.slice (some { block := g9, off := f9 }) Q.length d9), .inl (Value.int IntKind.i64 ↑k), .inl (Value.pointer (some ⟨g9, f9 + k, none⟩)), .inl (Value.int IntKind.i64 ↑z), .inl (.bool false), .inl (.bool false), .inl (Value.slice (some { block := b19, off := o19 }) 2 c19), .inl (Value.pointer (some ⟨b19, o19, none⟩)), .inl (Value.slice (some { block := g9, off := f9 }) Q.length d9), .inl (Value.int IntKind.i64 ↑k), .inl (Value.pointer (some ⟨g9, f9 + k, none⟩)), .inl (Value.int IntKind.i64 ↑z), .inl (Value.slice (some { block := b18, off := o18 }) AL.length c18), .inl (Value.int IntKind.i64 ↑AL.length), .inl (.bool false), .inl (.bool false), .inl (.bool false), .inl (Value.slice (some { block := b18, off := o18 }) AL.length c18), .inl (Value.slice (some { block := b19, off := o19 }) 2 c19), .inl (Value.pointer (some ⟨b19, o19, none⟩)), .inl (Value.slice (some { block := g9, off := f9 }) Q.length d9), .inl (Value.int IntKind.i64 ↑k), .inl (Value.pointer (some ⟨g9, f9 + k, none⟩)), .inl (Value.int IntKind.i64 ↑z), .inl (Value.pointer (some ⟨b18, o18 + z, none⟩)), .inl (Value.string (str x)), .inl (Value.slice (some { block := bq, off := oq }) D.length c7), .inl (Value.int IntKind.i64 ↑k), .inl (Value.pointer (some ⟨bq, oq + k, none⟩)), .inl (Value.string (str x)), .inl (.bool false), .inl (.bool false)] (Ex wr) Ex 286 (by kernel_rfl) rfl (by kernel_rfl) ?st hre (Ex.drew _) ?goods ?fin
              case st => exact trivial
              case goods =>
                refine Rg.goods_cons (Rg.good_move hre rfl rfl rfl) ?_
                refine Rg.goods_cons (Rg.good_index hre rfl rfl rfl rfl (fun wx hC => by go_simp)) ?_
                refine Rg.goods_cons (Rg.good_load hre rfl rfl rfl (fun wx hC => by have hcz := cell_ex HL9.out hC; go_simp)) ?_
                refine Rg.goods_cons (Rg.good_move hre rfl rfl rfl) ?_
                refine Rg.goods_cons (Rg.good_index hre rfl rfl rfl rfl (fun wx hC => by go_simp)) ?_
                refine Rg.goods_cons (Rg.good_load hre rfl rfl rfl (fun wx hC => by have hcz := cell_ex HZ9.out hC; go_simp)) ?_
                refine Rg.goods_cons (Rg.good_bin hre rfl rfl rfl rfl (fun _ => rfl) (fun w => by go_simp; first | done | omega)) ?_
                refine Rg.goods_cons (Rg.good_move hre rfl rfl rfl) ?_
                refine Rg.goods_cons (Rg.good_move hre rfl rfl rfl) ?_
                refine Rg.goods_cons (Rg.good_index hre rfl rfl rfl rfl (fun wx hC => by go_simp)) ?_
                refine Rg.goods_cons (Rg.good_load hre rfl rfl rfl (fun wx hC => by have hcz := cell_ex HL9.out hC; go_simp)) ?_
                refine Rg.goods_cons (Rg.good_move hre rfl rfl rfl) ?_
                refine Rg.goods_cons (Rg.good_index hre rfl rfl rfl rfl (fun wx hC => by go_simp)) ?_
                refine Rg.goods_cons (Rg.good_load hre rfl rfl rfl (fun wx hC => by have hcz := cell_ex HZ9.out hC; go_simp)) ?_
                refine Rg.goods_cons (Rg.good_move hre rfl rfl rfl) ?_
                refine Rg.goods_cons (Rg.good_len hre rfl rfl (by rintro u w _ rfl; rfl)) ?_
                refine Rg.goods_cons (Rg.good_bin hre rfl rfl rfl rfl (fun _ => rfl) (fun w => by go_simp; first | done | omega)) ?_
                refine Rg.goods_cons (Rg.good_pick false hre rfl rfl rfl rfl) ?_
                refine Rg.goods_cons (Rg.good_move hre rfl rfl rfl) ?_
                refine Rg.goods_cons (Rg.good_move hre rfl rfl rfl) ?_
                refine Rg.goods_cons (Rg.good_move hre rfl rfl rfl) ?_
                refine Rg.goods_cons (Rg.good_index hre rfl rfl rfl rfl (fun wx hC => by go_simp)) ?_
                refine Rg.goods_cons (Rg.good_load hre rfl rfl rfl (fun wx hC => by have hcz := cell_ex HL9.out hC; go_simp)) ?_
                refine Rg.goods_cons (Rg.good_move hre rfl rfl rfl) ?_
                refine Rg.goods_cons (Rg.good_index hre rfl rfl rfl rfl (fun wx hC => by go_simp)) ?_
                refine Rg.goods_cons (Rg.good_load hre rfl rfl rfl (fun wx hC => by have hcz := cell_ex HZ9.out hC; go_simp)) ?_
                refine Rg.goods_cons (Rg.good_index hre rfl rfl rfl rfl (fun wx hC => by go_simp)) ?_
                refine Rg.goods_cons (Rg.good_load hre rfl rfl rfl (fun wx hC => by have hcz := cell_ex HA18.out hC; go_simp)) ?_
                refine Rg.goods_cons (Rg.good_move hre rfl rfl rfl) ?_
                refine Rg.goods_cons (Rg.good_move hre rfl rfl rfl) ?_
                refine Rg.goods_cons (Rg.good_index hre rfl rfl rfl rfl (fun wx hC => by go_simp)) ?_
                refine Rg.goods_cons (Rg.good_load hre rfl rfl rfl (fun wx hC => by have hcz := cell_ex HXq.out hC; go_simp)) ?_
                refine Rg.goods_cons (Rg.good_bin hre rfl rfl rfl rfl (fun _ => rfl) (fun w => by go_simp)) ?_
                refine Rg.goods_cons (Rg.good_pick false hre rfl rfl rfl rfl) ?_
                exact Rg.goods_nil
              case fin =>
                intro wx hx
                simp only [Rg.later, Act.put, List.setIfInBounds_toArray, List.set_cons_succ, List.set_cons_zero]
                have HXx : Hid (Ex w5 wx) := HEx.out.trans hx
                clear hx
                go_wp2
                go_roundw
                case rel => exact ⟨k + 1, by omega, by go_num, HXx⟩
                case measure => simp [intOf]; omega
            · have tk : decide ((k : Int) < (D.length : Int)) = false := by simp; omega
              have HE5 : Hid (Ex w5 wr) := HEx
              go_wp2_with fail
              go_loopw [21] (fun i wr => ∃ k : Nat, k ≤ E.length ∧ i = .int .i64 k ∧ Hid (Ex w5 wr)) (fun i _ => E.length - (intOf i).toNat)
              case atStart => exact ⟨0, by omega, rfl, HE5⟩
              case round =>
                obtain ⟨k, hk, rfl, HEx⟩ := hrel
                by_cases hlt : k < E.length
                · have tk : decide ((k : Int) < (E.length : Int)) = true := by simp; omega
                  obtain ⟨x, hx⟩ : ∃ x, x = E[k] := ⟨_, rfl⟩
                  obtain ⟨Q, hQ⟩ : ∃ Q, Q = places AL E := ⟨_, rfl⟩
                  have hQl : Q.length = E.length := by rw [hQ, places_len]
                  have hxA : x ∈ AL := HME.out x (by rw [hx]; exact List.getElem_mem hlt)
                  obtain ⟨z, hz⟩ : ∃ z, z = T.place AL x := ⟨_, rfl⟩
                  have hzat : AL[z]? = some x := by rw [hz]; exact T.place_at hxA
                  have hzl : z < AL.length := (List.getElem?_eq_some_iff.1 hzat).1
                  have hQk : Q[k]? = some (z : Int) := by
                    rw [hQ]
                    simp only [places, List.getElem?_map, List.getElem?_eq_getElem hlt, Option.map_some, ← hx, ← hz]
                  obtain ⟨bq, oq, hbq, hcx⟩ := (HRE.out.below HEx.out).at hlt
                  subst hbq
                  rw [← hx] at hcx
                  obtain ⟨b18, o18, hb18, hca⟩ := (HRAL.out.below HEx.out).at hzl
                  subst hb18
                  have hALz : AL[z] = x := by rw [List.getElem?_eq_getElem hzl] at hzat; simpa using hzat
                  rw [hALz] at hca
                  have hkQ : k < Q.length := by omega
                  have hrq := HRowE.out.below HEx.out
                  rw [← hQ] at hrq
                  obtain ⟨g9, f9, hg9, hcz9⟩ := hrq.at hkQ
                  subst hg9
                  have hQkk : Q[k] = (z : Int) := by rw [List.getElem?_eq_getElem hkQ] at hQk; simpa using hQk
                  rw [hQkk] at hcz9
                  have hcl := HCellE.out
                  rw [← hQ] at hcl
                  have HL9 : Hid (wr.cell? ⟨b19, o19 + 1, none⟩ = some (.slice (some ⟨g9, f9, none⟩) Q.length dE9)) := cell_ex hcl HEx.out
                  have HZ9 : Hid (wr.cell? ⟨g9, f9 + k, none⟩ = some (.int .i64 (z : Int))) := hcz9
                  have HA18 : Hid (wr.cell? ⟨b18, o18 + z, none⟩ = some (.string (str x))) := hca
                  have HXq : Hid (wr.cell? ⟨bq, oq + k, none⟩ = some (.string (str x))) := hcx
                  have hk1 : (k : Int) < (Q.length : Int) := by omega
                  have hk2 : (k : Int) < (E.length : Int) := by omega
                  have hz1 : (z : Int) < (AL.length : Int) := by omega
                  clear hx hQ hz hzat hxA hQk hcx hca hALz hrq hcz9 hQkk hcl hQl
                  go_wp2_with fail
                  have hre := Ex.refl
                  refine Rg.wp_rows [.inl (Value.slice (some { block := b19, off := o19 }) 2 c19), .inl (Value.pointer (some ⟨b19, o19 + 1, none⟩)), .inl (Value.slice (some { block := g9, off := f9 }) Q.length dE9), .inl (Value.int IntKind.i64 ↑k), .inl (Value.pointer (some ⟨g9, f9 + k, none⟩)), .inl (Value.int IntKind.i64 ↑z), .inl (.bool false), .inl (.bool false), .inl (Value.slice (some { block := b19, off := o19 }) 2 c19), .inl (Value.pointer (some ⟨b19, o19 + 1, none⟩)), .inl (Value.slice (some { block := g9, off := f9 }) Q.length dE9), .inl (Value.int IntKind.i64 ↑k), .inl (Value.pointer (some ⟨g9, f9 + k, none⟩)), .inl (Value.int IntKind.i64 ↑z), .inl (Value.slice (some { block := b18, off := o18 }) AL.length c18), .inl (Value.int IntKind.i64 ↑AL.length), .inl (.bool false), .inl (.bool false), .inl (.bool false), .inl (Value.slice (some { block := b18, off := o18 }) AL.length c18), .inl (Value.slice (some { block := b19, off := o19 }) 2 c19), .inl (Value.pointer (some ⟨b19, o19 + 1, none⟩)), .inl (Value.slice (some { block := g9, off := f9 }) Q.length dE9), .inl (Value.int IntKind.i64 ↑k), .inl (Value.pointer (some ⟨g9, f9 + k, none⟩)), .inl (Value.int IntKind.i64 ↑z), .inl (Value.pointer (some ⟨b18, o18 + z, none⟩)), .inl (Value.string (str x)), .inl (Value.slice (some { block := bq, off := oq }) E.length c16), .inl (Value.int IntKind.i64 ↑k), .inl (Value.pointer (some ⟨bq, oq + k, none⟩)), .inl (Value.string (str x)), .inl (.bool false), .inl (.bool false)] (Ex wr) Ex 286 (by kernel_rfl) rfl (by kernel_rfl) ?st hre (Ex.drew _) ?goods ?fin
                  case st => exact trivial
                  case goods =>
                    refine Rg.goods_cons (Rg.good_move hre rfl rfl rfl) ?_
                    refine Rg.goods_cons (Rg.good_index hre rfl rfl rfl rfl (fun wx hC => by go_simp)) ?_
                    refine Rg.goods_cons (Rg.good_load hre rfl rfl rfl (fun wx hC => by have hcz := cell_ex HL9.out hC; go_simp)) ?_
                    refine Rg.goods_cons (Rg.good_move hre rfl rfl rfl) ?_
                    refine Rg.goods_cons (Rg.good_index hre rfl rfl rfl rfl (fun wx hC => by go_simp)) ?_
                    refine Rg.goods_cons (Rg.good_load hre rfl rfl rfl (fun wx hC => by have hcz := cell_ex HZ9.out hC; go_simp)) ?_
                    refine Rg.goods_cons (Rg.good_bin hre rfl rfl rfl rfl (fun _ => rfl) (fun w => by go_simp; first | done | omega)) ?_
                    refine Rg.goods_cons (Rg.good_move hre rfl rfl rfl) ?_
                    refine Rg.goods_cons (Rg.good_move hre rfl rfl rfl) ?_
                    refine Rg.goods_cons (Rg.good_index hre rfl rfl rfl rfl (fun wx hC => by go_simp)) ?_
                    refine Rg.goods_cons (Rg.good_load hre rfl rfl rfl (fun wx hC => by have hcz := cell_ex HL9.out hC; go_simp)) ?_
                    refine Rg.goods_cons (Rg.good_move hre rfl rfl rfl) ?_
                    refine Rg.goods_cons (Rg.good_index hre rfl rfl rfl rfl (fun wx hC => by go_simp)) ?_
                    refine Rg.goods_cons (Rg.good_load hre rfl rfl rfl (fun wx hC => by have hcz := cell_ex HZ9.out hC; go_simp)) ?_
                    refine Rg.goods_cons (Rg.good_move hre rfl rfl rfl) ?_
                    refine Rg.goods_cons (Rg.good_len hre rfl rfl (by rintro u w _ rfl; rfl)) ?_
                    refine Rg.goods_cons (Rg.good_bin hre rfl rfl rfl rfl (fun _ => rfl) (fun w => by go_simp; first | done | omega)) ?_
                    refine Rg.goods_cons (Rg.good_pick false hre rfl rfl rfl rfl) ?_
                    refine Rg.goods_cons (Rg.good_move hre rfl rfl rfl) ?_
                    refine Rg.goods_cons (Rg.good_move hre rfl rfl rfl) ?_
                    refine Rg.goods_cons (Rg.good_move hre rfl rfl rfl) ?_
                    refine Rg.goods_cons (Rg.good_index hre rfl rfl rfl rfl (fun wx hC => by go_simp)) ?_
                    refine Rg.goods_cons (Rg.good_load hre rfl rfl rfl (fun wx hC => by have hcz := cell_ex HL9.out hC; go_simp)) ?_
                    refine Rg.goods_cons (Rg.good_move hre rfl rfl rfl) ?_
                    refine Rg.goods_cons (Rg.good_index hre rfl rfl rfl rfl (fun wx hC => by go_simp)) ?_
                    refine Rg.goods_cons (Rg.good_load hre rfl rfl rfl (fun wx hC => by have hcz := cell_ex HZ9.out hC; go_simp)) ?_
                    refine Rg.goods_cons (Rg.good_index hre rfl rfl rfl rfl (fun wx hC => by go_simp)) ?_
                    refine Rg.goods_cons (Rg.good_load hre rfl rfl rfl (fun wx hC => by have hcz := cell_ex HA18.out hC; go_simp)) ?_
                    refine Rg.goods_cons (Rg.good_move hre rfl rfl rfl) ?_
                    refine Rg.goods_cons (Rg.good_move hre rfl rfl rfl) ?_
                    refine Rg.goods_cons (Rg.good_index hre rfl rfl rfl rfl (fun wx hC => by go_simp)) ?_
                    refine Rg.goods_cons (Rg.good_load hre rfl rfl rfl (fun wx hC => by have hcz := cell_ex HXq.out hC; go_simp)) ?_
                    refine Rg.goods_cons (Rg.good_bin hre rfl rfl rfl rfl (fun _ => rfl) (fun w => by go_simp)) ?_
                    refine Rg.goods_cons (Rg.good_pick false hre rfl rfl rfl rfl) ?_
                    exact Rg.goods_nil
                  case fin =>
                    intro wx hx
                    simp only [Rg.later, Act.put, List.setIfInBounds_toArray, List.set_cons_succ, List.set_cons_zero]
                    have HXx : Hid (Ex w5 wx) := HEx.out.trans hx
                    clear hx
                    go_wp2
                    go_roundw
                    case rel => exact ⟨k + 1, by omega, by go_num, HXx⟩
                    case measure => simp [intOf]; omega
                · have tk : decide ((k : Int) < (E.length : Int)) = false := by simp; omega
                  go_wp2_with fail
                  refine (known_any _).mono ?_
                  rintro e w9 ⟨rfl, hx9⟩
                  go_wp2
                  go_ret
                  exact ⟨rfl, (HW5.out.trans HEx.out).trans hx9⟩
end Go.Proofs.Ytmnhoofjijiibaa.dictRules
