/-
  The law's own 'known': some of chapter 8's runs.
-/
import Derived.Test.YtnfbmffafclaaaaFace
import Derived.Test.YtnfbmffafclaaaaFew
namespace Go.Proofs.Ytnfbmffafclaaaa
open Go.RowKit
set_option linter.unusedVariables false
set_option linter.unusedSimpArgs false
theorem build_three : Z.build 1 [⟨[], 1, 5, []⟩, ⟨[], 0, 0, []⟩, ⟨[], 1, 3, []⟩] = ⟨1, 3, 1, 3, 5, [], []⟩ := by rfl
theorem right_three : Z.right ⟨1, 3, 1, 3, 5, [], []⟩ = true := by decide +kernel
set_option maxHeartbeats 4000000 in
set_option maxRecDepth 100000 in
theorem known_any (w : World) : Calls Try.prog 19 #[] w fun e w' => e = .returned (.bool true) ∧ Ex w w' := by
  have h3 := RdC.laid w [⟨[], 1, 5, []⟩, ⟨[], 0, 0, []⟩, ⟨[], 1, 3, []⟩] (by simp)
  go_enter Try.func19, Try.ntmps19
  go_wp2_with fail
  refine (z_build 1 _ 3 3 [⟨[], 1, 5, []⟩, ⟨[], 0, 0, []⟩, ⟨[], 1, 3, []⟩] _ rfl h3).mono ?_
  rintro e w1 ⟨rfl, hx1⟩
  rw [build_three]
  have hx1' : Ex w w1 := Ex.trans ((Below.refl _ _).alloc (Nat.le_refl _) _) hx1
  clear hx1
  simp only [zv]
  go_wp2_with fail
  refine (in_is ⟨1, 3, 1, 3, 5, [], []⟩ _).mono ?_
  rintro e w2 ⟨rfl, hx2⟩
  have hz2 : ZAt w2 w1.heap.size ⟨1, 3, 1, 3, 5, [], []⟩ 23 := (ZAt.new w1 ⟨1, 3, 1, 3, 5, [], []⟩ 23).below hx2
  obtain ⟨c0, c1, c2, c3, c4, c5, c6⟩ := hz2.all
  have hx2' : Ex w w2 := hx1'.trans (Ex.trans ((Below.refl _ _).alloc (Nat.le_refl _) _) hx2)
  have hst := str_toList []
  clear hx2 hz2
  simp only [zv]
  go_wp2_with fail
  refine (z_right ⟨1, 3, 1, 3, 5, [], []⟩ _ (by simp [maxLen]) (by simp [maxLen]) (Z.W3.of_right right_three) true right_three).mono ?_
  rintro e w3 ⟨rfl, hx3⟩
  go_wp2_with fail
  go_ret
  exact ⟨rfl, hx2'.trans hx3⟩
end Go.Proofs.Ytnfbmffafclaaaa
