/-
  The small functions of the landed zone: hasLeast, rightHead.
-/
import Derived.Test.YtnfbmffafclaaaaZval
import Derived.Test.YtnfbmffafclaaaaZtog
namespace Go.Proofs.Ytnfbmffafclaaaa
open Go.RowKit
set_option linter.unusedVariables false
set_option linter.unusedSimpArgs false
set_option maxHeartbeats 4000000 in
set_option maxRecDepth 100000 in
theorem least_is (z : Zn) (w : World) (r : Bool) (hr : Z.has z = r) : Calls Try.prog 24 #[zv z] w fun e w' => e = .returned (.bool r) ∧ w' = w.alloc (zb z 23) := by
  subst hr
  unfold zv
  go_enter Try.func24, Try.ntmps24
  go_wp2_with fail
  all_goals (go_ret; refine ⟨?_, rfl⟩; simp [Z.has])
/-- Are the three numbers of a zone so? -/
def Z.head (k r u : Int) : Bool := decide (k = 1 ∨ k = 2) && decide (r ≤ 1048576) && decide (u ≤ r)
set_option maxHeartbeats 4000000 in
set_option maxRecDepth 100000 in
theorem head_is (k r u : Int) (w : World) (o : Bool) (ho : Z.head k r u = o) : Calls Try.prog 30 #[.int .u64 k, .int .u64 r, .int .u64 u] w fun e w' => e = .returned (.bool o) ∧ w' = w := by
  subst ho
  go_enter Try.func30, Try.ntmps30
  go_wp2_with fail
  all_goals (go_ret; refine ⟨?_, rfl⟩; show Ending.returned (Value.bool _) = _; rw [Ending.returned.injEq, Value.bool.injEq, Bool.eq_iff_iff]; simp [Z.head] at *; omega)
end Go.Proofs.Ytnfbmffafclaaaa
