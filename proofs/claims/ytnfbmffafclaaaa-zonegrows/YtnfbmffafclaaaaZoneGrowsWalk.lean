/-
  The walk of ZoneGrows.
-/
import Derived.Test.YtnfbmffafclaaaaZoneBackWalk
import Derived.Test.YtnfbmffafclaaaaZgrow
import Derived.Test.YtnfbmffafclaaaaZten
namespace Go.Proofs.Ytnfbmffafclaaaa.zoneGrows
open Go.RowKit Go.Proofs.Ytnfbmffafclaaaa
set_option linter.unusedVariables false
set_option linter.unusedSimpArgs false
set_option maxHeartbeats 8000000 in
set_option maxRecDepth 100000 in
theorem walk (a0 : Int) (p1 : Option Addr) (c1 : Nat) (l1 : List Cel) (z2 : Cel) (w : World) (w0 : -9223372036854775808 ≤ a0 ∧ a0 ≤ 9223372036854775807) (b1 : RdC w p1 c1 l1) (m1 : ∀ c ∈ l1, CelOk c) (m2 : CelOk z2) :
    Calls Try.prog 7 #[.int .i64 a0, .slice p1 l1.length c1, cv z2] w fun e w' => e = .returned (.bool true) ∧ Below w.heap.size w w' := by
  obtain ⟨w01, w02⟩ := w0
  have hxb : Ex w (w.alloc (cb z2)) := (Below.refl _ _).alloc (Nat.le_refl _) _
  have HB1 : Hid (RdC (w.alloc (cb z2)) p1 c1 l1) := b1.below hxb
  have HXb : Hid (Ex w (w.alloc (cb z2))) := hxb
  have HC1 : Hid (CAt (w.alloc (cb z2)) w.heap.size z2) := CAt.new w z2
  obtain ⟨C, hC⟩ : ∃ C, C = Z.few l1 := ⟨_, rfl⟩
  have HC : Hid (C = Z.few l1) := hC
  have hCl : C.length ≤ 40 := by rw [hC]; exact Z.few_len _
  have hs1 : (w.alloc (cb z2)).heap.size = w.heap.size + 1 := by simp
  have HS1 : Hid ((w.alloc (cb z2)).heap.size = w.heap.size + 1) := hs1
  clear b1 hC m1 hxb hs1
  unfold cv
  go_enter Try.func7, Try.ntmps7
  go_wp2_with fail
  refine (within_any _ 1 _ (by omega) (by omega) (by omega) (by omega)).mono ?_
  rintro e wq ⟨r, hr1, rfl, hw'⟩
  have hw'' := hw'.symm
  clear hw'
  subst hw''
  obtain ⟨K, hK⟩ : ∃ K : Int, K = 1 + (r : Int) := ⟨_, rfl⟩
  have hKi : (1 : Int) + (r : Int) = K := hK.symm
  have hKb : 1 ≤ K ∧ K ≤ 2 := by omega
  have HKk : Hid (Z.Kind K) := (by unfold Z.Kind; omega : Z.Kind K)
  clear hK
  go_wp2_with fail
  refine (few_is p1 _ c1 l1 _ rfl HB1.out).mono ?_
  rintro e wa ⟨va, rfl, hoa, hxa⟩
  rw [← HC.out] at hoa
  have HOa : Hid (OwnC wa (w.heap.size + 1) va C) := (by have h := hoa; rw [HS1.out] at h; exact h : OwnC wa (w.heap.size + 1) va C)
  have HXa : Hid (Ex w wa) := HXb.out.trans hxa
  have HCa : Hid (CAt wa w.heap.size z2) := HC1.out.below hxa
  obtain ⟨x0, x1, x2, x3⟩ := HCa.out.all
  have HL : Hid (RdC (wa.alloc (.cells #[.string (str z2.col), .int .i64 z2.k, .int .i64 z2.n, .string (str z2.s)] 52)) (some ⟨wa.heap.size, 0, none⟩) 1 [z2]) := cell_laid wa z2
  have hxl : Ex wa (wa.alloc (.cells #[.string (str z2.col), .int .i64 z2.k, .int .i64 z2.n, .string (str z2.s)] 52)) := (Below.refl _ _).alloc (Nat.le_refl _) _
  have HXl : Hid (Ex wa (wa.alloc (.cells #[.string (str z2.col), .int .i64 z2.k, .int .i64 z2.n, .string (str z2.s)] 52))) := hxl
  clear hoa hxa hxl
  go_wp2_with fail
  refine (few_is _ _ 1 [z2] _ rfl HL.out).mono ?_
  rintro e wf ⟨vf, rfl, hof, hxf⟩
  obtain ⟨c, hc⟩ : ∃ c, c = Z.cut z2 := ⟨_, rfl⟩
  have hfew1 : Z.few [z2] = [c] := by rw [hc]; rfl
  rw [hfew1] at hof
  obtain ⟨af, cf, hvf, hrf⟩ := hof.rd
  subst hvf
  obtain ⟨bf, of, rfl, f0, f1, f2, f3⟩ := hrf.at (k := 0) (by simp)
  simp only [Nat.zero_mul, Nat.add_zero, List.getElem_cons_zero] at f0 f1 f2 f3
  have hcf := hrf.1
  have hcf2 := hrf.2.1
  unfold maxLen at hcf2
  have hxaf : Ex wa wf := HXl.out.trans hxf
  have HCf : Hid (CAt wf w.heap.size z2) := HCa.out.below hxaf
  obtain ⟨y0, y1, y2, y3⟩ := HCf.out.all
  obtain ⟨t0, t1, t2, t3⟩ := HCf.out.fro
  have HOf : Hid (OwnC wf (w.heap.size + 1) va C) := HOa.out.later hxaf
  have HXf : Hid (Ex w wf) := HXa.out.trans hxaf
  obtain ⟨w3, hw3⟩ : ∃ w3, w3 = cset wf w.heap.size c := ⟨_, rfl⟩
  have HO3 : Hid (OwnC w3 (w.heap.size + 1) va C) := (by rw [hw3]; exact HOf.out.cset (by omega) c : OwnC w3 (w.heap.size + 1) va C)
  have HC3 : Hid (CAt w3 w.heap.size c) := (by rw [hw3]; exact HCf.out.store c : CAt w3 w.heap.size c)
  have HX3 : Hid (Ex w w3) := (by rw [hw3]; exact Below.cset HXf.out (Nat.le_refl _) c : Ex w w3)
  have HW3 : Hid (cset wf w.heap.size c = w3) := hw3.symm
  clear hrf hof hxf hxaf hw3 hc hfew1
  obtain ⟨aC, cC, hvC, hrC⟩ := HO3.out.rd
  subst hvC
  have HRC : Hid (RdC w3 aC cC C) := hrC
  obtain ⟨A, hA⟩ : ∃ A, A = Z.build K C := ⟨_, rfl⟩
  have HA : Hid (Z.build K C = A) := hA.symm
  obtain ⟨F, hF⟩ : ∃ F, F = C ++ [c] := ⟨_, rfl⟩
  have HF : Hid (C ++ [c] = F) := hF.symm
  obtain ⟨B, hB⟩ : ∃ B, B = Z.build K F := ⟨_, rfl⟩
  have HB : Hid (Z.build K F = B) := hB.symm
  have hAk := Z.build_k HKk.out C
  have hBk := Z.build_k HKk.out F
  have hAu := Z.fold_u K C.length C
  rw [← hA] at hAk
  rw [← hB] at hBk
  have hAu' : 0 ≤ A.u ∧ A.u ≤ C.length := by rw [hA]; exact hAu
  have hFl : (F.length : Int) = C.length + 1 := by rw [hF]; simp
  have hcase : (c.k ≠ K ∧ B = { A with r := (C.length : Int) + 1, u := A.u + 1 }) ∨ (c.k = K ∧ K = 1 ∧ A.r = A.u ∧ B = { A with r := (C.length : Int) + 1, mn := c.n, mx := c.n }) ∨ (c.k = K ∧ K = 1 ∧ A.r ≠ A.u ∧ B = { A with r := (C.length : Int) + 1, mn := if c.n < A.mn then c.n else A.mn, mx := if A.mx < c.n then c.n else A.mx }) ∨
      (c.k = K ∧ K = 2 ∧ A.r = A.u ∧ B = { A with r := (C.length : Int) + 1, ms := c.s, xs := c.s }) ∨ (c.k = K ∧ K = 2 ∧ A.r ≠ A.u ∧ B = { A with r := (C.length : Int) + 1, ms := Z.mn2 Z.oT A.ms c.s, xs := Z.mx2 Z.oT A.xs c.s }) := by
    by_cases hk : c.k = K
    · rcases HKk.out with h1 | h1
      · rw [h1] at hk hA hB
        rcases Z.grow1 C hk with h | h
        · exact .inr (.inl ⟨by rw [h1]; exact hk, h1, by rw [hA]; exact h.1, by rw [hB, hF, h.2, hA]⟩)
        · exact .inr (.inr (.inl ⟨by rw [h1]; exact hk, h1, by rw [hA]; exact h.1, by rw [hB, hF, h.2, hA]⟩))
      · rw [h1] at hk hA hB
        rcases Z.grow2 C hk with h | h
        · exact .inr (.inr (.inr (.inl ⟨by rw [h1]; exact hk, h1, by rw [hA]; exact h.1, by rw [hB, hF, h.2, hA]⟩)))
        · exact .inr (.inr (.inr (.inr ⟨by rw [h1]; exact hk, h1, by rw [hA]; exact h.1, by rw [hB, hF, h.2, hA]⟩)))
    · exact .inl ⟨hk, by rw [hB, hF, Z.grow_null HKk.out C hk, hA]⟩
  have HCase : Hid _ := hcase
  obtain ⟨Ar, hAr⟩ : ∃ x : Int, x = A.r := ⟨_, rfl⟩
  have HAk : Hid (A.k = K ∧ A.r = C.length) := hAk
  have HBk : Hid (B.k = K ∧ B.r = C.length + 1) := ⟨hBk.1, by rw [hBk.2, hFl]⟩
  have HAu : Hid (0 ≤ A.u ∧ A.u ≤ C.length) := hAu'
  clear hcase hA hB hF hAk hBk hAu hAu' hFl hrC hAr
  simp only [cv]
  go_wp2_with fail
  have e3 := HW3.out
  unfold cset at e3
  rw [e3]
  clear e3
  refine (z_build K aC _ cC C _ rfl HRC.out).mono ?_
  rintro e wb ⟨rfl, hxb⟩
  rw [HA.out]
  obtain ⟨wc, hwc⟩ : ∃ wc, wc = wb.alloc (zb A 23) := ⟨_, rfl⟩
  have hxbc : Ex wb wc := by rw [hwc]; exact (Below.refl _ _).alloc (Nat.le_refl _) _
  have HX3c : Hid (Ex w3 wc) := hxb.trans hxbc
  have HXc : Hid (Ex w wc) := HX3.out.trans HX3c.out
  have HAz : Hid (ZAt wc wb.heap.size A 23) := (by rw [hwc]; exact ZAt.new wb A 23 : ZAt wc wb.heap.size A 23)
  have HCc : Hid (CAt wc w.heap.size c) := HC3.out.below HX3c.out
  have HRc : Hid (RdC wc aC cC C) := HRC.out.below HX3c.out
  have HWc : Hid (wb.alloc (zb A 23) = wc) := hwc.symm
  clear hxb hxbc hwc HX3c f0 f1 f2 f3 x0 x1 x2 x3 y0 y1 y2 y3 t0 t1 t2 t3
  simp only [zv]
  go_wp2_with fail
  have e4 := HWc.out
  rw [e4]
  clear e4
  refine Rg.wp_grow 247 (by kernel_rfl) K aC cC C w.heap.size c B _ _ _ _ _ _ _ _ _ _ rfl rfl (by omega) (by kernel_rfl) (by kernel_rfl) rfl rfl rfl rfl rfl rfl rfl rfl rfl rfl rfl rfl rfl rfl rfl rfl rfl rfl rfl rfl (by kernel_rfl) (by kernel_rfl) (by kernel_rfl) (by kernel_rfl) (by kernel_rfl) (by kernel_rfl) _ rfl rfl rfl rfl rfl rfl rfl rfl HRc.out (by omega) HCc.out ?hb ?fin
  case hb =>
    intro ad cap w1 hr1
    rw [HF.out] at hr1 ⊢
    rw [← HB.out]
    exact z_build K ad _ cap F w1 rfl hr1
  case fin =>
    intro w9 hx9
    simp only [Rg.later, Rg.T2, Act.put, List.setIfInBounds_toArray, List.set_cons_succ, List.set_cons_zero]
    intro v23 _ v25 _ v27 _ v28 _ v8 _ g hz9 hv8
    simp at hv8
    subst hv8
    have HX9 : Hid (Ex w w9) := HXc.out.trans hx9
    have HA9 : Hid (ZAt w9 wb.heap.size A 23) := HAz.out.below hx9
    have HC9 : Hid (CAt w9 w.heap.size c) := HCc.out.below hx9
    have HB9 : Hid (ZAt w9 g B 23) := hz9
    clear hx9 hz9
    obtain ⟨hA1, hA2⟩ := HAk.out
    obtain ⟨hu1, hu2⟩ := HAu.out
    have hr0 : 0 ≤ A.r := by omega
    have hr40 : A.r ≤ 40 := by omega
    have hu40 : A.u ≤ 40 := by omega
    have t1 : ((C.length : Int) + 1 != A.r + 1) = false := by simp; omega
    have t2 : (A.k != K) = false := by simp; omega
    obtain ⟨cc0, cc1, cc2, cc3⟩ := HC9.out.all
    obtain ⟨ac0, ac1, ac2, ac3, ac4, ac5, ac6⟩ := HA9.out.all
    clear hA1 hA2 hu2
    rcases HCase.out with ⟨hk, hBe⟩ | ⟨hk, hK1, hru, hBe⟩ | ⟨hk, hK1, hru, hBe⟩ | ⟨hk, hK1, hru, hBe⟩ | ⟨hk, hK1, hru, hBe⟩
    · subst hBe
      obtain ⟨bc0, bc1, bc2, bc3, bc4, bc5, bc6⟩ := HB9.out.all
      dsimp only at bc0 bc1 bc2 bc3 bc4 bc5 bc6
      have t5 : (c.k != K) = true := by simpa using hk
      clear hk
      go_wp2_with fail
      refine (known_any _).mono ?_
      rintro e wk ⟨rfl, hxk⟩
      go_wp2_with fail
      go_ret
      exact ⟨rfl, HX9.out.trans hxk⟩
    · subst hBe
      clear hKi
      subst hK1
      obtain ⟨bc0, bc1, bc2, bc3, bc4, bc5, bc6⟩ := HB9.out.all
      dsimp only at bc0 bc1 bc2 bc3 bc4 bc5 bc6
      have t5 : (c.k != 1) = false := by simpa using hk
      have t6 : (A.r == A.u) = true := by simpa using hru
      clear hk hru
      go_wp2_with fail
      refine (known_any _).mono ?_
      rintro e wk ⟨rfl, hxk⟩
      go_wp2_with fail
      go_ret
      exact ⟨rfl, HX9.out.trans hxk⟩
    · subst hBe
      clear hKi
      subst hK1
      obtain ⟨bc0, bc1, bc2, bc3, bc4, bc5, bc6⟩ := HB9.out.all
      dsimp only at bc0 bc1 bc2 bc3 bc4 bc5 bc6
      have t5 : (c.k != 1) = false := by simpa using hk
      have t6 : (A.r == A.u) = false := by simpa using hru
      clear hk hru
      by_cases h1 : c.n < A.mn <;> by_cases h2 : A.mx < c.n
      · have n1 := h1
        have n2 := h2
        rw [if_pos h1] at bc3
        rw [if_pos h2] at bc4
        have m10 : decide (c.n ≤ A.mn) = true := by simp; omega
        have m11 : decide (c.n < A.mn) = true := by simp; omega
        have m12 : decide (A.mn < c.n) = false := by simp; omega
        have m13 : decide (A.mn ≤ c.n) = false := by simp; omega
        have m14 : (c.n == A.mn) = false := by simp; omega
        have m15 : (A.mn == c.n) = false := by simp; omega
        have m16 : decide (A.mx ≤ c.n) = true := by simp; omega
        have m17 : decide (A.mx < c.n) = true := by simp; omega
        have m18 : decide (c.n < A.mx) = false := by simp; omega
        have m19 : decide (c.n ≤ A.mx) = false := by simp; omega
        have m20 : (c.n == A.mx) = false := by simp; omega
        have m21 : (A.mx == c.n) = false := by simp; omega
        clear n1 n2
        go_wp2_with fail
        refine (known_any _).mono ?_
        rintro e wk ⟨rfl, hxk⟩
        go_wp2_with fail
        go_ret
        exact ⟨rfl, HX9.out.trans hxk⟩
      · have n1 := h1
        have n2 := h2
        rw [if_pos h1] at bc3
        rw [if_neg h2] at bc4
        have m10 : decide (c.n ≤ A.mn) = true := by simp; omega
        have m11 : decide (c.n < A.mn) = true := by simp; omega
        have m12 : decide (A.mn < c.n) = false := by simp; omega
        have m13 : decide (A.mn ≤ c.n) = false := by simp; omega
        have m14 : (c.n == A.mn) = false := by simp; omega
        have m15 : (A.mn == c.n) = false := by simp; omega
        have m16 : decide (c.n ≤ A.mx) = true := by simp; omega
        have m17 : decide (A.mx < c.n) = false := by simp; omega
        clear n1 n2
        go_wp2_with fail
        refine (known_any _).mono ?_
        rintro e wk ⟨rfl, hxk⟩
        go_wp2_with fail
        go_ret
        exact ⟨rfl, HX9.out.trans hxk⟩
      · have n1 := h1
        have n2 := h2
        rw [if_neg h1] at bc3
        rw [if_pos h2] at bc4
        have m10 : decide (A.mn ≤ c.n) = true := by simp; omega
        have m11 : decide (c.n < A.mn) = false := by simp; omega
        have m12 : decide (A.mx ≤ c.n) = true := by simp; omega
        have m13 : decide (A.mx < c.n) = true := by simp; omega
        have m14 : decide (c.n < A.mx) = false := by simp; omega
        have m15 : decide (c.n ≤ A.mx) = false := by simp; omega
        have m16 : (c.n == A.mx) = false := by simp; omega
        have m17 : (A.mx == c.n) = false := by simp; omega
        clear n1 n2
        go_wp2_with fail
        refine (known_any _).mono ?_
        rintro e wk ⟨rfl, hxk⟩
        go_wp2_with fail
        go_ret
        exact ⟨rfl, HX9.out.trans hxk⟩
      · have n1 := h1
        have n2 := h2
        rw [if_neg h1] at bc3
        rw [if_neg h2] at bc4
        have m10 : decide (A.mn ≤ c.n) = true := by simp; omega
        have m11 : decide (c.n < A.mn) = false := by simp; omega
        have m12 : decide (c.n ≤ A.mx) = true := by simp; omega
        have m13 : decide (A.mx < c.n) = false := by simp; omega
        clear n1 n2
        go_wp2_with fail
        refine (known_any _).mono ?_
        rintro e wk ⟨rfl, hxk⟩
        go_wp2_with fail
        go_ret
        exact ⟨rfl, HX9.out.trans hxk⟩
    · subst hBe
      clear hKi
      subst hK1
      obtain ⟨bc0, bc1, bc2, bc3, bc4, bc5, bc6⟩ := HB9.out.all
      dsimp only at bc0 bc1 bc2 bc3 bc4 bc5 bc6
      have t5 : (c.k != 2) = false := by simpa using hk
      have t6 : (A.r == A.u) = true := by simpa using hru
      clear hk hru
      go_wp2_with fail
      refine (known_any _).mono ?_
      rintro e wk ⟨rfl, hxk⟩
      go_wp2_with fail
      go_ret
      exact ⟨rfl, HX9.out.trans hxk⟩
    · subst hBe
      clear hKi
      subst hK1
      obtain ⟨bc0, bc1, bc2, bc3, bc4, bc5, bc6⟩ := HB9.out.all
      dsimp only at bc0 bc1 bc2 bc3 bc4 bc5 bc6
      have t5 : (c.k != 2) = false := by simpa using hk
      have t6 : (A.r == A.u) = false := by simpa using hru
      clear hk hru
      have z1 := str_toList c.s
      have z2 := str_toList A.ms
      have z3 := str_toList A.xs
      have s0 : Op.bytesLess c.s c.s = false := T.lt_irrefl c.s
      rcases T.lt_total c.s A.ms with h1 | h1 | h1 <;> rcases T.lt_total A.xs c.s with h2 | h2 | h2
      · rw [show Z.mn2 Z.oT A.ms c.s = c.s from if_pos h1] at bc5
        rw [show Z.mx2 Z.oT A.xs c.s = c.s from if_pos h2] at bc6
        have s1 : Op.bytesLess c.s A.ms = true := h1
        have s2 : Op.bytesLess A.ms c.s = false := T.lt_asymm h1
        have s3 : ¬ c.s = A.ms := fun e => T.lt_ne h1 e
        have s4 : ¬ A.ms = c.s := fun e => T.lt_ne h1 e.symm
        have r1 : Op.bytesLess A.xs c.s = true := h2
        have r2 : Op.bytesLess c.s A.xs = false := T.lt_asymm h2
        have r3 : ¬ A.xs = c.s := fun e => T.lt_ne h2 e
        have r4 : ¬ c.s = A.xs := fun e => T.lt_ne h2 e.symm
        clear h1 h2
        go_wp2_with fail
        refine (known_any _).mono ?_
        rintro e wk ⟨rfl, hxk⟩
        go_wp2_with fail
        go_ret
        exact ⟨rfl, HX9.out.trans hxk⟩
      · rw [show Z.mn2 Z.oT A.ms c.s = c.s from if_pos h1] at bc5
        rw [show Z.mx2 Z.oT A.xs c.s = A.xs from if_neg (by rw [h2]; exact fun h => by rw [show Z.oT.lt _ _ = false from Z.oT.irr _] at h; cases h)] at bc6
        rw [h2] at bc6 ac6
        have s1 : Op.bytesLess c.s A.ms = true := h1
        have s2 : Op.bytesLess A.ms c.s = false := T.lt_asymm h1
        have s3 : ¬ c.s = A.ms := fun e => T.lt_ne h1 e
        have s4 : ¬ A.ms = c.s := fun e => T.lt_ne h1 e.symm
        clear h1 h2
        go_wp2_with fail
        refine (known_any _).mono ?_
        rintro e wk ⟨rfl, hxk⟩
        go_wp2_with fail
        go_ret
        exact ⟨rfl, HX9.out.trans hxk⟩
      · rw [show Z.mn2 Z.oT A.ms c.s = c.s from if_pos h1] at bc5
        rw [show Z.mx2 Z.oT A.xs c.s = A.xs from if_neg (fun h => by have h' := T.lt_asymm h2; rw [show T.lt A.xs c.s = true from h] at h'; cases h')] at bc6
        have s1 : Op.bytesLess c.s A.ms = true := h1
        have s2 : Op.bytesLess A.ms c.s = false := T.lt_asymm h1
        have s3 : ¬ c.s = A.ms := fun e => T.lt_ne h1 e
        have s4 : ¬ A.ms = c.s := fun e => T.lt_ne h1 e.symm
        have r1 : Op.bytesLess c.s A.xs = true := h2
        have r2 : Op.bytesLess A.xs c.s = false := T.lt_asymm h2
        have r3 : ¬ c.s = A.xs := fun e => T.lt_ne h2 e
        have r4 : ¬ A.xs = c.s := fun e => T.lt_ne h2 e.symm
        have r5 : Op.bytesLess A.xs A.xs = false := T.lt_irrefl A.xs
        clear h1 h2
        go_wp2_with fail
        refine (known_any _).mono ?_
        rintro e wk ⟨rfl, hxk⟩
        go_wp2_with fail
        go_ret
        exact ⟨rfl, HX9.out.trans hxk⟩
      · rw [show Z.mn2 Z.oT A.ms c.s = A.ms from if_neg (by rw [h1]; exact fun h => by rw [show Z.oT.lt _ _ = false from Z.oT.irr _] at h; cases h)] at bc5
        rw [← h1] at bc5 ac5
        rw [show Z.mx2 Z.oT A.xs c.s = c.s from if_pos h2] at bc6
        have r1 : Op.bytesLess A.xs c.s = true := h2
        have r2 : Op.bytesLess c.s A.xs = false := T.lt_asymm h2
        have r3 : ¬ A.xs = c.s := fun e => T.lt_ne h2 e
        have r4 : ¬ c.s = A.xs := fun e => T.lt_ne h2 e.symm
        clear h1 h2
        go_wp2_with fail
        refine (known_any _).mono ?_
        rintro e wk ⟨rfl, hxk⟩
        go_wp2_with fail
        go_ret
        exact ⟨rfl, HX9.out.trans hxk⟩
      · rw [show Z.mn2 Z.oT A.ms c.s = A.ms from if_neg (by rw [h1]; exact fun h => by rw [show Z.oT.lt _ _ = false from Z.oT.irr _] at h; cases h)] at bc5
        rw [← h1] at bc5 ac5
        rw [show Z.mx2 Z.oT A.xs c.s = A.xs from if_neg (by rw [h2]; exact fun h => by rw [show Z.oT.lt _ _ = false from Z.oT.irr _] at h; cases h)] at bc6
        rw [h2] at bc6 ac6
        clear h1 h2
        go_wp2_with fail
        refine (known_any _).mono ?_
        rintro e wk ⟨rfl, hxk⟩
        go_wp2_with fail
        go_ret
        exact ⟨rfl, HX9.out.trans hxk⟩
      · rw [show Z.mn2 Z.oT A.ms c.s = A.ms from if_neg (by rw [h1]; exact fun h => by rw [show Z.oT.lt _ _ = false from Z.oT.irr _] at h; cases h)] at bc5
        rw [← h1] at bc5 ac5
        rw [show Z.mx2 Z.oT A.xs c.s = A.xs from if_neg (fun h => by have h' := T.lt_asymm h2; rw [show T.lt A.xs c.s = true from h] at h'; cases h')] at bc6
        have r1 : Op.bytesLess c.s A.xs = true := h2
        have r2 : Op.bytesLess A.xs c.s = false := T.lt_asymm h2
        have r3 : ¬ c.s = A.xs := fun e => T.lt_ne h2 e
        have r4 : ¬ A.xs = c.s := fun e => T.lt_ne h2 e.symm
        have r5 : Op.bytesLess A.xs A.xs = false := T.lt_irrefl A.xs
        clear h1 h2
        go_wp2_with fail
        refine (known_any _).mono ?_
        rintro e wk ⟨rfl, hxk⟩
        go_wp2_with fail
        go_ret
        exact ⟨rfl, HX9.out.trans hxk⟩
      · rw [show Z.mn2 Z.oT A.ms c.s = A.ms from if_neg (fun h => by have h' := T.lt_asymm h1; rw [show T.lt c.s A.ms = true from h] at h'; cases h')] at bc5
        rw [show Z.mx2 Z.oT A.xs c.s = c.s from if_pos h2] at bc6
        have s1 : Op.bytesLess A.ms c.s = true := h1
        have s2 : Op.bytesLess c.s A.ms = false := T.lt_asymm h1
        have s3 : ¬ A.ms = c.s := fun e => T.lt_ne h1 e
        have s4 : ¬ c.s = A.ms := fun e => T.lt_ne h1 e.symm
        have s5 : Op.bytesLess A.ms A.ms = false := T.lt_irrefl A.ms
        have r1 : Op.bytesLess A.xs c.s = true := h2
        have r2 : Op.bytesLess c.s A.xs = false := T.lt_asymm h2
        have r3 : ¬ A.xs = c.s := fun e => T.lt_ne h2 e
        have r4 : ¬ c.s = A.xs := fun e => T.lt_ne h2 e.symm
        clear h1 h2
        go_wp2_with fail
        refine (known_any _).mono ?_
        rintro e wk ⟨rfl, hxk⟩
        go_wp2_with fail
        go_ret
        exact ⟨rfl, HX9.out.trans hxk⟩
      · rw [show Z.mn2 Z.oT A.ms c.s = A.ms from if_neg (fun h => by have h' := T.lt_asymm h1; rw [show T.lt c.s A.ms = true from h] at h'; cases h')] at bc5
        rw [show Z.mx2 Z.oT A.xs c.s = A.xs from if_neg (by rw [h2]; exact fun h => by rw [show Z.oT.lt _ _ = false from Z.oT.irr _] at h; cases h)] at bc6
        rw [h2] at bc6 ac6
        have s1 : Op.bytesLess A.ms c.s = true := h1
        have s2 : Op.bytesLess c.s A.ms = false := T.lt_asymm h1
        have s3 : ¬ A.ms = c.s := fun e => T.lt_ne h1 e
        have s4 : ¬ c.s = A.ms := fun e => T.lt_ne h1 e.symm
        have s5 : Op.bytesLess A.ms A.ms = false := T.lt_irrefl A.ms
        clear h1 h2
        go_wp2_with fail
        refine (known_any _).mono ?_
        rintro e wk ⟨rfl, hxk⟩
        go_wp2_with fail
        go_ret
        exact ⟨rfl, HX9.out.trans hxk⟩
      · rw [show Z.mn2 Z.oT A.ms c.s = A.ms from if_neg (fun h => by have h' := T.lt_asymm h1; rw [show T.lt c.s A.ms = true from h] at h'; cases h')] at bc5
        rw [show Z.mx2 Z.oT A.xs c.s = A.xs from if_neg (fun h => by have h' := T.lt_asymm h2; rw [show T.lt A.xs c.s = true from h] at h'; cases h')] at bc6
        have s1 : Op.bytesLess A.ms c.s = true := h1
        have s2 : Op.bytesLess c.s A.ms = false := T.lt_asymm h1
        have s3 : ¬ A.ms = c.s := fun e => T.lt_ne h1 e
        have s4 : ¬ c.s = A.ms := fun e => T.lt_ne h1 e.symm
        have s5 : Op.bytesLess A.ms A.ms = false := T.lt_irrefl A.ms
        have r1 : Op.bytesLess c.s A.xs = true := h2
        have r2 : Op.bytesLess A.xs c.s = false := T.lt_asymm h2
        have r3 : ¬ c.s = A.xs := fun e => T.lt_ne h2 e
        have r4 : ¬ A.xs = c.s := fun e => T.lt_ne h2 e.symm
        have r5 : Op.bytesLess A.xs A.xs = false := T.lt_irrefl A.xs
        clear h1 h2
        go_wp2_with fail
        refine (known_any _).mono ?_
        rintro e wk ⟨rfl, hxk⟩
        go_wp2_with fail
        go_ret
        exact ⟨rfl, HX9.out.trans hxk⟩
end Go.Proofs.Ytnfbmffafclaaaa.zoneGrows
