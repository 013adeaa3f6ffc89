/-
  Taken out of another text of mine: Rname.
-/
import Derived.Test.YtbdjccmlgdfapaaKrows
namespace Go.Proofs.Ytbdjccmlgdfapaa
open Go.RowKit
set_option linter.unusedVariables false
set_option linter.unusedSimpArgs false
theorem str_at {s : List UInt8} {k : Nat} (h : k < (str s).size) (h2 : k < s.length) : ((str s)[k]'h).toNat = (s[k]'h2).toNat := by
  show ((str s).data[k]'h).toNat = _
  simp [str]
def Rw.small (b : UInt8) : Bool := decide (97 ≤ b.toNat) && decide (b.toNat ≤ 122)
theorem Rw.name_no {s : List UInt8} {x : UInt8} (h : x ∈ s) (hx : Rw.small x = false) : Rw.name s = false := by
  cases hn : Rw.name s with
  | false => rfl
  | true =>
    have := ((Rw.name_iff s).1 hn).1 x h
    unfold Rw.small at hx
    simp at hx
    omega
end Go.Proofs.Ytbdjccmlgdfapaa
