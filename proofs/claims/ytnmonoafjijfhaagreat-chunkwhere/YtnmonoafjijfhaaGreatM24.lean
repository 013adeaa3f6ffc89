/-
  The contracts of the statements' own Within, Same, Intact and Roomy.
-/
import Derived.Test.YtnmonoafjijfhaaGreatM04
namespace Go.Proofs.YtnmonoafjijfhaaGreat
open Go.RowKit
set_option linter.unusedVariables false
set_option maxRecDepth 100000 in
theorem within_any (n hi : Int) (w : World) (l1 : -9223372036854775808 ≤ n) (u1 : n ≤ 9223372036854775807) (h0 : 0 ≤ hi) (h1 : hi ≤ 1000000000) :
    Calls Tryz.prog 17 #[.int .i64 n, .int .i64 0, .int .i64 hi] w fun e w' => ∃ r : Nat, (r : Int) ≤ hi ∧ e = .returned (.int .i64 r) ∧ w' = w := by
  have hd : (hi + 1 == 0) = false := by simp; omega
  have hu := Int.tmod_lt_of_pos n (show 0 < hi + 1 by omega)
  have hl := Int.lt_tmod_of_pos n (show 0 < hi + 1 by omega)
  go_enter Tryz.func17, Tryz.ntmps17
  go_wp2
  · go_ret
    exact ⟨(n.tmod (hi + 1) + hi + 1).toNat, by omega, I.ret_int (by omega), rfl⟩
  · go_ret
    exact ⟨(n.tmod (hi + 1)).toNat, by omega, I.ret_int (by omega), rfl⟩
end Go.Proofs.YtnmonoafjijfhaaGreat
