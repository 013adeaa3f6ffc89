/-
  The contract of the document's own Decode (layer 5) over the program.
-/
import Derived.Test.YtnmonoafjijfhaaGreatM21
import Derived.Test.YtnmonoafjijfhaaGreatM22
import Derived.Test.YtnmonoafjijfhaaGreatM24
namespace Go.Proofs.YtnmonoafjijfhaaGreat
open Go.RowKit
set_option linter.unusedVariables false

theorem unp_whole {D c : Nat} {p : List UInt8} (hD : D ≤ 64) (hc : 8 * c ≤ 16777216) (hp : p.length = c * D) : B.unp p ((8 * c : Nat) : Int) (D : Int) = (B.unpack D (8 * c) p, 0) := by
  have hsz : B.size (8 * c) D = c * D := by
    unfold B.size
    rw [show 8 * c * D = 8 * (c * D) by rw [Nat.mul_assoc]]; omega
  unfold B.unp
  rw [if_neg (by omega), if_neg (by omega)]
  simp only [Int.toNat_natCast]
  rw [if_neg (by omega), if_neg (by omega), if_neg]
  have : B.left D (8 * c) p = false := B.left_false.2 fun q h1 h2 => by
    rw [show 8 * c * D = 8 * (c * D) by rw [Nat.mul_assoc]] at h1; omega
  simp [this]

end Go.Proofs.YtnmonoafjijfhaaGreat
