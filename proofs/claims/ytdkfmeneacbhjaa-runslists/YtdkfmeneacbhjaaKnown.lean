/-
  The contract of the statements' own 'known': chapter 5's runs hold.
-/
import Derived.Test.YtdkfmeneacbhjaaFace
import Derived.Test.YtdkfmeneacbhjaaBook
namespace Go.Proofs.Ytdkfmeneacbhjaa
open Go.RowKit
set_option linter.unusedVariables false

theorem enc_nine : R.encE [5, 5, 5, 5, 5, 5, 5, 5, 5] 3 = ([18, 5], 0) := by decide +kernel
theorem enc_two : R.encE [1, 2] 2 = ([3, 9, 0], 0) := by decide +kernel

set_option maxRecDepth 100000 in
theorem known_any (w : World) : Calls Try.prog 14 #[] w fun e w' => e = .returned (.bool true) ∧ Ex w w' := by
  go_enter Try.func14, Try.ntmps14
  go_wp2_with fail
  refine (enc_is _ 9 9 [5, 5, 5, 5, 5, 5, 5, 5, 5] 3 _ rfl (Rd.laid w 24 [5, 5, 5, 5, 5, 5, 5, 5, 5] (by simp)) (by decide) (by simp) [18, 5] 0 enc_nine).mono ?_
  rintro e w1 ⟨v1, rfl, hv1, hx1⟩
  have hx1' : Ex w w1 := Ex.trans ((Below.refl _ _).alloc (Nat.le_refl _) _) hx1
  clear hx1
  go_wp2_with fail
  refine (enc_is _ 2 2 [1, 2] 2 _ rfl (Rd.laid w1 24 [1, 2] (by simp)) (by decide) (by simp) [3, 9, 0] 0 enc_two).mono ?_
  rintro e w2 ⟨v2, rfl, hv2, hx2⟩
  have hx2' : Ex w1 w2 := Ex.trans ((Below.refl _ _).alloc (Nat.le_refl _) _) hx2
  have hcv := conv_row (IsByt.stands _ _ _ _ hv1 hx2')
  have hcw := conv_row hv2
  have hst := str_toList [18, 5]
  have hsu := str_toList [3, 9, 0]
  clear hx2 hv1 hv2
  go_wp2
  go_ret
  exact ⟨rfl, hx1'.trans hx2'⟩
end Go.Proofs.Ytdkfmeneacbhjaa
