/-
  Taken out of another text of mine: Finds.
-/
import Derived.Test.YtbdjccmlgdfapaaLparts
namespace Go.Proofs.Ytbdjccmlgdfapaa
open Go.RowKit
set_option linter.unusedVariables false

set_option maxRecDepth 100000 in
theorem begins45_is (x p : List UInt8) (w : World) (hx : x.length ≤ maxLen) (hp : p.length ≤ maxLen) (r : Bool) (hr : T.begins p x = r) :
    Calls Try.prog 82 #[.string (str x), .string (str p)] w fun e w' => e = .returned (.bool r) ∧ w' = w := by
  unfold maxLen at hx hp
  have h1 : (str x).size = x.length := str_size x
  have h2 : (str p).size = p.length := str_size p
  have zp := str_toList p
  unfold T.begins at hr
  by_cases hl : p.length ≤ x.length
  · have t1 : decide ((p.length : Int) ≤ (x.length : Int)) = true := by simp; omega
    have hcut : (str x).extract 0 p.length = str (x.take p.length) := str_cut _ _
    have zx := str_toList (x.take p.length)
    rw [decide_eq_true hl, Bool.true_and] at hr
    by_cases he : x.take p.length = p
    · rw [decide_eq_true he] at hr
      subst hr
      have hq : (x.take p.length == p) = true := by simpa using he
      have HE : Hid (x.take p.length = p) := he
      clear he
      go_enter Try.func82, Try.ntmps82
      go_wp2
      go_ret
      exact ⟨rfl, rfl⟩
    · rw [decide_eq_false he] at hr
      subst hr
      have hq : (x.take p.length == p) = false := by simpa using he
      clear he
      go_enter Try.func82, Try.ntmps82
      go_wp2
      go_ret
      exact ⟨rfl, rfl⟩
  · have t1 : decide ((p.length : Int) ≤ (x.length : Int)) = false := by simp; omega
    rw [decide_eq_false hl, Bool.false_and] at hr
    subst hr
    go_enter Try.func82, Try.ntmps82
    go_wp2
    go_ret
    exact ⟨rfl, rfl⟩
set_option maxRecDepth 100000 in
theorem hasPrefix_is (x p : List UInt8) (w : World) (hx : x.length ≤ maxLen) (hp : p.length ≤ maxLen) (r : Bool) (hr : T.begins p x = r) :
    Calls Try.prog 64 #[.string (str x), .string (str p)] w fun e w' => e = .returned (.bool r) ∧ w' = w := by
  go_enter Try.func64, Try.ntmps64
  go_wp2_with fail
  refine (begins45_is x p _ hx hp r hr).mono ?_
  rintro e wq ⟨rfl, hw⟩
  have hw' := hw.symm; clear hw; subst hw'
  go_wp2
  go_ret
  exact ⟨rfl, rfl⟩

end Go.Proofs.Ytbdjccmlgdfapaa
