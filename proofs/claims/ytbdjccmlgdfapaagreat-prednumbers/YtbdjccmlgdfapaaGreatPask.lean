/-
  Taken out of another text of mine: Ropens. A row as it comes in, by value. Predicates as they come in. What the statements ask of Eval: predicates that are cut, or laid out; a variable for a predicate in a region whose order is open.
-/
import Derived.Test.YtbdjccmlgdfapaaGreatKtame
import Derived.Deep.Slices
import Derived.OpenShut
import Derived.Lib.SmallJoins
import Derived.WideShapes
import Derived.ChangeSlices
import Derived.Test.YtbdjccmlgdfapaaGreatLkn2
namespace Go.Proofs.YtbdjccmlgdfapaaGreat
open Go.RowKit Go.Deep Go.WideShapes
set_option linter.unusedVariables false
section
variable {H : Type} {enc : TypeId × Value → H} {w : World} {base : Nat} {held : Bool} {spare : Nat → Bool}
end
end Go.Proofs.YtbdjccmlgdfapaaGreat
namespace Go.Proofs.YtbdjccmlgdfapaaGreat
open Go.RowKit Go.Deep Go.WideShapes Go.ChangeShapes
set_option linter.unusedVariables false
end Go.Proofs.YtbdjccmlgdfapaaGreat
namespace Go.Proofs.YtbdjccmlgdfapaaGreat
open Go.RowKit Go.Deep Go.WideShapes Go.ChangeShapes
set_option linter.unusedVariables false
section
variable {H : Type} {enc : TypeId × Value → H} {w : World} {base : Nat} {held : Bool} {spare : Nat → Bool}
end
end Go.Proofs.YtbdjccmlgdfapaaGreat
namespace Go.Proofs.YtbdjccmlgdfapaaGreat
open Go.RowKit
set_option linter.unusedVariables false
set_option linter.unusedSimpArgs false
namespace Pd
end Pd
theorem ev_is (p : Pr) (r : Rw) (v : PV) (rv : RV) (w : World) (hL : Pd.Lay (fun _ => True) p w v) (hF : Pd.Fine p) (hr : RvOk w rv r) (hrs : ∀ c ∈ r.c, c.s.length ≤ maxLen) (hf : Pd.fit p 50 5000 = true) (o : Bool) (ho : Pd.ev r p = o) :
  Calls Tryz.prog 19 #[pvv v, rvv rv] w fun e w' => e = .returned (.bool o) ∧ Ex w w' := eval_is p r v rv w hL hF hr hrs o (by rw [hf, ho, Bool.true_and])
/-- A new variable for a predicate. -/
def IsNew (base : Nat) (v : Value) (w : World) : Prop := ∃ g, v = .pointer (some ⟨g, 0, none⟩) ∧ base ≤ g ∧ PAt w g PV.zero
theorem IsNew.stands (base : Nat) : ∀ v w w', IsNew base v w → Ex w w' → IsNew base v w' := by
 rintro v w w' ⟨g, rfl, h0, h1⟩ hx
 exact ⟨g, rfl, h0, h1.below hx⟩
end Go.Proofs.YtbdjccmlgdfapaaGreat
