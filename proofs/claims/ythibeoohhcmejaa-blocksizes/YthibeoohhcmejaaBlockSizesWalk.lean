/-
  The walk of the law BlockSizes: whatever two texts it is given, it returns true.
-/
import Derived.Test.YthibeoohhcmejaaAlike
namespace Go.Proofs.Ythibeoohhcmejaa.blockSizes
open Go.RowKit
set_option linter.unusedVariables false

set_option maxRecDepth 100000 in
set_option maxHeartbeats 1000000 in
theorem walk (s0 : List UInt8) (s1 : List UInt8) (w : World) (w0 : s0.length ≤ 140737488351232) (w1 : s1.length ≤ 140737488351232) :
    Calls Try.prog 8 #[.string (str s0), .string (str s1)] w fun e w' => e = .returned (.bool true) ∧ Below w.heap.size w w' := by
  obtain ⟨A, hA⟩ : ∃ A, s0.take 200 = A := ⟨_, rfl⟩
  obtain ⟨B, hB⟩ : ∃ B, s1.take 200 = B := ⟨_, rfl⟩
  have hAl : A.length ≤ 200 := by rw [← hA]; simp; omega
  have hBl : B.length ≤ 200 := by rw [← hB]; simp; omega
  obtain ⟨X, hX⟩ : ∃ X, K.frm A = X := ⟨_, rfl⟩
  obtain ⟨Y, hY⟩ : ∃ Y, K.frm B = Y := ⟨_, rfl⟩
  have hXl : X.length = A.length + 12 := by rw [← hX, K.frm_len]
  have hXp : (X.drop 8).take A.length = A := by rw [← hX]; simp [K.frm, K.four]
  have hXY : X = Y ↔ A = B := by
    rw [← hX, ← hY]
    exact ⟨K.frm_inj (by omega) (by omega), fun h => by rw [h]⟩
  have HA : Hid (s0.take 200 = A) := hA
  have HB : Hid (s1.take 200 = B) := hB
  have HX : Hid (K.frm A = X) := hX
  have HY : Hid (K.frm B = Y) := hY
  have HXp : Hid ((X.drop 8).take A.length = A) := hXp
  have HXY : Hid (X = Y ↔ A = B) := hXY
  have hl1 : X.length ≤ A.length + 12 := by omega
  have hl2 : A.length + 12 ≤ X.length := by omega
  have q1 : ((X.length : Int) != (A.length : Int) + 12) = false := by simp; omega
  have hss : (str A).size = A.length := str_size A
  clear hA hB hX hY hXp hXY hXl
  go_enter Try.func8, Try.ntmps8
  go_wp2_with fail
  refine (few_is s0 A _ (by unfold maxLen; omega) HA.out).mono ?_
  rintro e wq ⟨rfl, hw⟩
  have hw' := hw.symm; clear hw; subst hw'
  go_wp2_with fail
  refine (few_is s1 B _ (by unfold maxLen; omega) HB.out).mono ?_
  rintro e wq ⟨rfl, hw⟩
  have hw' := hw.symm; clear hw; subst hw'
  go_wp2_with (refine wpList_bytes_of rfl (.tmp 14) rfl A rfl (by unfold maxLen; omega) ?_; intro g1 c1 w1 hb1 hg1 hx1)
  refine (seal_is _ _ c1 A _ rfl hb1 (by omega) _ HX.out).mono ?_
  rintro e w2 ⟨v2, rfl, ⟨a2, c2, rfl, hb2⟩, hx2⟩
  have HX2 : Hid (Ex w w2) := hx1.trans hx2
  clear hb1 hg1 hx1 hx2
  go_wp2_with (refine wpList_bytes_of rfl (.tmp 20) rfl B rfl (by unfold maxLen; omega) ?_; intro g3 c3 w3 hb3 hg3 hx3)
  refine (seal_is _ _ c3 B _ rfl hb3 (by omega) _ HY.out).mono ?_
  rintro e w4 ⟨v4, rfl, ⟨a4, c4, rfl, hb4⟩, hx4⟩
  have HX4 : Hid (Ex w w4) := (HX2.out.trans hx3).trans hx4
  have hb2' := (hb2.below hx3).below hx4
  obtain ⟨q, off, rfl⟩ := hb2'.some_ (by omega)
  have hcc := hb2'.1
  have hcm := hb2'.2.1
  unfold maxLen at hcm
  have hne : ¬ c2 - 8 = 0 := by omega
  have hp := hb2'.part 8 A.length (by omega)
  rw [HXp.out] at hp
  have k1 := run_str (n := A.length) hp rfl
  have k2 := run_str (n := X.length) hb2' rfl
  have k3 := run_str (n := Y.length) hb4 rfl
  have z1 := str_toList A
  have z2 := str_toList B
  have z3 := str_toList X
  have z4 := str_toList Y
  have hc8 : 8 + (A.length : Int) ≤ (c2 : Int) := by omega
  clear hb2 hb3 hg3 hx3 hx4 hb2' hp hb4
  by_cases h : A = B
  · have h2 : X = Y := HXY.out.2 h
    subst h
    subst h2
    go_wp2_with fail
    refine (known_any _).mono ?_
    rintro e w5 ⟨rfl, hx5⟩
    go_wp2
    go_ret
    exact ⟨rfl, HX4.out.trans hx5⟩
  · have h2 : ¬ X = Y := fun hh => h (HXY.out.1 hh)
    have y1 : (X == Y) = false := by simpa using h2
    have y2 : (A == B) = false := by simpa using h
    go_wp2_with fail
    refine (known_any _).mono ?_
    rintro e w5 ⟨rfl, hx5⟩
    go_wp2
    go_ret
    exact ⟨rfl, HX4.out.trans hx5⟩
end Go.Proofs.Ythibeoohhcmejaa.blockSizes
