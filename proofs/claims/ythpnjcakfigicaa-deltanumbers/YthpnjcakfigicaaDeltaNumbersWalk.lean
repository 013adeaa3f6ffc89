/-
  The walk of the law DeltaNumbers: chapter 4's runs and one for each refusal come out as the document says.
-/
import Derived.Test.YthpnjcakfigicaaKnown
namespace Go.Proofs.Ythpnjcakfigicaa.deltaNumbers
open Go.RowKit
set_option linter.unusedVariables false

theorem f0 : D.dec [3, 1, 1, 1] 0 2 = ([], 0, 4) := by decide +kernel
theorem f1 : D.dec [3, 1, 1] 0 5 = ([], 0, 10) := by decide +kernel
theorem f2 : D.dec [1, 128, 0] 0 5 = ([], 0, 12) := by decide +kernel
theorem f3 : D.dec [] 1 5 = ([], 0, 1) := by decide +kernel
theorem f4 : D.dec [9, 3, 20, 20, 0, 7] 1 3 = ([10, 20, 30], 5, 0) := by decide +kernel
theorem far_ok : ∀ x ∈ ([-9223372036854775808, 9223372036854775807, -9223372036854775808, 0] : List Int), D.ok x := by simp [D.ok]
theorem f6 : D.dec (D.enc [-9223372036854775808, 9223372036854775807, -9223372036854775808, 0]) 0 4 = ([-9223372036854775808, 9223372036854775807, -9223372036854775808, 0], (D.enc [-9223372036854775808, 9223372036854775807, -9223372036854775808, 0]).length, 0) := by
  have := D.dec_enc far_ok (by decide) [] [] 4 (by decide)
  simpa using this
theorem f7 : D.dec [0] 0 (-5) = ([], 1, 0) := by decide +kernel

set_option maxRecDepth 100000 in
set_option maxHeartbeats 1000000 in
theorem walk0 (w0 : World) : Calls Try.prog 3 #[] w0 fun e w' => e = .returned (.bool true) ∧ Below w0.heap.size w0 w' := by
  obtain ⟨FE, hFE⟩ : ∃ E, D.enc [-9223372036854775808, 9223372036854775807, -9223372036854775808, 0] = E := ⟨_, rfl⟩
  have hFl : FE.length ≤ 50 := by rw [← hFE]; exact (D.enc_len _).2
  have HFE : Hid (D.enc [-9223372036854775808, 9223372036854775807, -9223372036854775808, 0] = FE) := hFE
  have h6 := f6
  rw [hFE] at h6
  have HF6 : Hid (D.dec FE 0 4 = ([-9223372036854775808, 9223372036854775807, -9223372036854775808, 0], FE.length, 0)) := h6
  clear hFE h6
  go_enter Try.func3, Try.ntmps3
  go_wp2_with fail
  refine (dec_is _ 4 4 [3, 1, 1, 1] 0 2 _ rfl (Byt.laid w0 [3, 1, 1, 1] (by simp)) (by simp) (by omega) (by omega) (by omega) (by omega) (Or.inl (by omega)) _ _ _ f0).mono ?_
  rintro e w1 ⟨v0, rfl, hv0, hx0⟩
  have X0 : Ex w0 w1 := Ex.trans ((Below.refl _ _).alloc (Nat.le_refl _) _) hx0
  clear hx0
  go_wp2_with fail
  refine (dec_is _ 3 3 [3, 1, 1] 0 5 _ rfl (Byt.laid w1 [3, 1, 1] (by simp)) (by simp) (by omega) (by omega) (by omega) (by omega) (Or.inl (by omega)) _ _ _ f1).mono ?_
  rintro e w2 ⟨v1, rfl, hv1, hx1⟩
  have X1 : Ex w1 w2 := Ex.trans ((Below.refl _ _).alloc (Nat.le_refl _) _) hx1
  clear hx1
  go_wp2_with fail
  refine (dec_is _ 3 3 [1, 128, 0] 0 5 _ rfl (Byt.laid w2 [1, 128, 0] (by simp)) (by simp) (by omega) (by omega) (by omega) (by omega) (Or.inl (by omega)) _ _ _ f2).mono ?_
  rintro e w3 ⟨v2, rfl, hv2, hx2⟩
  have X2 : Ex w2 w3 := Ex.trans ((Below.refl _ _).alloc (Nat.le_refl _) _) hx2
  clear hx2
  go_wp2_with fail
  refine (dec_is none 0 0 [] 1 5 _ rfl (Byt.nil _) (by simp) (by omega) (by omega) (by omega) (by omega) (Or.inl (by omega)) _ _ _ f3).mono ?_
  rintro e w4 ⟨v3, rfl, hv3, hx3⟩
  have X3 : Ex w3 w4 := hx3
  clear hx3
  go_wp2_with fail
  refine (dec_is _ 6 6 [9, 3, 20, 20, 0, 7] 1 3 _ rfl (Byt.laid w4 [9, 3, 20, 20, 0, 7] (by simp)) (by simp) (by omega) (by omega) (by omega) (by omega) (Or.inl (by omega)) _ _ _ f4).mono ?_
  rintro e w5 ⟨v4, rfl, hv4, hx4⟩
  have X4 : Ex w4 w5 := Ex.trans ((Below.refl _ _).alloc (Nat.le_refl _) _) hx4
  clear hx4
  go_wp2_with fail
  have hfar := Rd.laid (enc := z64) w5 2 [-9223372036854775808, 9223372036854775807, -9223372036854775808, 0] (by simp)
  refine (enc_is _ 4 4 [-9223372036854775808, 9223372036854775807, -9223372036854775808, 0] _ rfl hfar far_ok (by simp) _ HFE.out).mono ?_
  rintro e w6 ⟨v6, rfl, hv6, hx6⟩
  obtain ⟨a6, c6, rfl, hB6⟩ := hv6
  have X5 : Ex w5 w6 := Ex.trans ((Below.refl _ _).alloc (Nat.le_refl _) _) hx6
  have hfar6 := hfar.below hx6
  go_wp2_with fail
  refine (dec_is a6 _ c6 FE 0 4 _ rfl hB6 (by omega) (by omega) (by omega) (by omega) (by omega) (Or.inl (by omega)) _ _ _ HF6.out).mono ?_
  rintro e w7 ⟨v7, rfl, hv7, hx7⟩
  have hfar7 := hfar6.below hx7
  go_wp2_with fail
  refine (dec_is _ 1 1 [0] 0 (-5) _ rfl (Byt.laid w7 [0] (by simp)) (by simp) (by omega) (by omega) (by omega) (by omega) (Or.inl (by omega)) _ _ _ f7).mono ?_
  rintro e w8 ⟨v8, rfl, hv8, hx8⟩
  have X7 : Ex w7 w8 := Ex.trans ((Below.refl _ _).alloc (Nat.le_refl _) _) hx8
  have hfar8 := hfar7.below X7
  obtain ⟨a4, c4, rfl, hR4⟩ := IsRd.stands _ _ _ _ hv4 ((X5.trans hx7).trans X7)
  obtain ⟨a7, c7, rfl, hR7⟩ := IsRd.stands _ _ _ _ hv7 X7
  obtain ⟨a8, c8, rfl, _⟩ := hv8
  have XA : Ex w0 w8 := ((((((X0.trans X1).trans X2).trans X3).trans X4).trans X5).trans hx7).trans X7
  clear hv0 hv1 hv2 hv3 hv4 hv7 hfar hfar6 hfar7 X0 X1 X2 X3 X4 X5 X7 hx6 hx7 hx8 hB6
  go_wp2_with fail
  have h10 := Rd.laid (enc := z64) w8 2 [10, 20, 30] (by simp)
  refine (same64_any a4 _ c4 3 3 3 [10, 20, 30] [10, 20, 30] _ rfl rfl (hR4.below ((Below.refl _ _).alloc (Nat.le_refl _) _)) h10 true (by simp)).mono ?_
  rintro e w9 ⟨rfl, hx9⟩
  have X8 : Ex w8 w9 := Ex.trans ((Below.refl _ _).alloc (Nat.le_refl _) _) hx9
  clear h10 hx9
  go_wp2_with fail
  refine (same64_any a7 _ c7 4 4 4 [-9223372036854775808, 9223372036854775807, -9223372036854775808, 0] [-9223372036854775808, 9223372036854775807, -9223372036854775808, 0] _ rfl rfl (hR7.below X8) (hfar8.below X8) true (by simp)).mono ?_
  rintro e w10 ⟨rfl, hx10⟩
  go_wp2_with fail
  refine (known_any _).mono ?_
  rintro e w11 ⟨rfl, hx11⟩
  go_wp2
  go_ret
  exact ⟨rfl, ((XA.trans X8).trans hx10).trans hx11⟩
theorem walk (w : World) : Calls Try.prog 3 #[] w fun e w' => e = .returned (.bool true) ∧ Below w.heap.size w w' := walk0 w
end Go.Proofs.Ythpnjcakfigicaa.deltaNumbers
