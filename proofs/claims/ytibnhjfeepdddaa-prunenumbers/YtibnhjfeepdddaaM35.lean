/-
  The books' Tame: a Right row with small numbers.
-/
import Derived.Test.YtibnhjfeepdddaaM33
namespace Go.Proofs.Ytibnhjfeepdddaa
open Go.RowKit
set_option linter.unusedVariables false
set_option linter.unusedSimpArgs false
namespace Rw
end Rw
/-- Cells that can be read. -/
def IsCs (base : Nat) (cs : List Ce) (v : Value) (w : World) : Prop := ∃ g, v = .slice (some ⟨g, 0, none⟩) cs.length cs.length ∧ base ≤ g ∧ RdC w (some ⟨g, 0, none⟩) cs.length cs
theorem IsCs.stands (base : Nat) (cs : List Ce) : ∀ v w w', IsCs base cs v w → Ex w w' → IsCs base cs v w' := by
 rintro v w w' ⟨g, h1, h0, h2⟩ hx
 exact ⟨g, h1, h0, RdW.below h2 hx⟩
end Go.Proofs.Ytibnhjfeepdddaa
