/-
  The contracts of the statements' own 'few' and of Same over numbers.
-/
import Derived.Test.YtkhbkifofkjjnaaRunpack
namespace Go.Proofs.Ytkhbkifofkjjnaa
open Go.RowKit
set_option linter.unusedVariables false

theorem Ex.drewN' (w : World) (q : Nat) : Ex w (w.drewN q) := Ex.drewN w q
end Go.Proofs.Ytkhbkifofkjjnaa
