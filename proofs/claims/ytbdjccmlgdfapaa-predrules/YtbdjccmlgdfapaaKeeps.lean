/-
  Taken out of another text of mine: Keeps.
-/
import Derived.Test.YtbdjccmlgdfapaaKcel
namespace Go.Proofs.Ytbdjccmlgdfapaa
open Go.RowKit
set_option linter.unusedVariables false
set_option linter.unusedSimpArgs false
set_option maxHeartbeats 4000000 in
set_option maxRecDepth 100000 in
theorem num_is (s : List UInt8) (n : Int) (w : World) : Calls Try.prog 20 #[.string (str s), .int .i64 n] w fun e w' => e = .returned (cv ⟨s, 1, n, []⟩) ∧ Ex w w' := by
  go_enter Try.func20, Try.ntmps20
  go_wp2_with fail
  refine bodyPost_ret (v := cv ⟨s, 1, n, []⟩) ?_ rfl ⟨rfl, by (repeat' (first | exact Below.refl _ _ | refine Below.alloc ?_ (by simp <;> omega) _))⟩
  simp [results, Try.results20, go_sem, cv, str]
set_option maxHeartbeats 4000000 in
set_option maxRecDepth 100000 in
theorem strc_is (s t : List UInt8) (w : World) : Calls Try.prog 21 #[.string (str s), .string (str t)] w fun e w' => e = .returned (cv ⟨s, 2, 0, t⟩) ∧ Ex w w' := by
  go_enter Try.func21, Try.ntmps21
  go_wp2_with fail
  refine bodyPost_ret (v := cv ⟨s, 2, 0, t⟩) ?_ rfl ⟨rfl, by (repeat' (first | exact Below.refl _ _ | refine Below.alloc ?_ (by simp <;> omega) _))⟩
  simp [results, Try.results21, go_sem, cv]
end Go.Proofs.Ytbdjccmlgdfapaa
