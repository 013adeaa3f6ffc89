/-
  The walk of the law SumNumbers: chapter 2's runs come out as the document says.
-/
import Derived.Test.YtjokipdibbhmlaaKnown
namespace Go.Proofs.Ytjokipdibbhmlaa.sumNumbers
open Go.RowKit
set_option linter.unusedVariables false

set_option maxRecDepth 100000 in
theorem walk (w : World) : Calls Try.prog 3 #[] w fun e w' => e = .returned (.bool true) ∧ Below w.heap.size w w' := by
  go_enter Try.func3, Try.ntmps3
  go_wp2_with fail
  refine (crc_is none 0 0 [] 0 _ (Byt.nil _) rfl crc_none).mono ?_
  rintro e w1 ⟨rfl, rfl⟩
  go_wp2_with fail
  refine (fnv_is _ [] 14695981039346656037 _ rfl (by simp) fnv_none).mono ?_
  rintro e w2 ⟨rfl, rfl⟩
  go_wp2_with fail
  refine (fnv_is _ [102, 111, 111, 98, 97, 114] 9625390261332436968 _ rfl (by simp) fnv_foobar).mono ?_
  rintro e w3 ⟨rfl, rfl⟩
  go_wp2_with fail
  refine (known_any _).mono ?_
  rintro e w4 ⟨rfl, hx⟩
  go_wp2
  go_ret
  exact ⟨rfl, hx⟩
end Go.Proofs.Ytjokipdibbhmlaa.sumNumbers
