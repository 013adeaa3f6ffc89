/-
  A zone's bytes, plain; small facts.
-/
import Derived.Test.YtnfbmffafclaaaaZres
import Derived.Test.YtnfbmffafclaaaaZfold
import Derived.Test.YtnfbmffafclaaaaOpens
import Derived.Test.YtnfbmffafclaaaaZstep
import Derived.Test.YtnfbmffafclaaaaRvarint
namespace Go.Proofs.Ytnfbmffafclaaaa
open Go.RowKit
set_option linter.unusedVariables false
set_option linter.unusedSimpArgs false
theorem bne_b {x y : Int} {b : Bool} (h : (x != y) = b) : b = true ↔ x ≠ y := by rw [← h]; simp
/-- The bytes of a zone. -/
def Z.enc (z : Zn) : List UInt8 :=
  M.digs z.k.toNat ++ M.digs z.r.toNat ++ M.digs z.u.toNat ++ (if z.r = z.u then [] else if z.k = 1 then M.digs (M.zig z.mn).toNat ++ M.digs (M.zig z.mx).toNat else M.digs z.ms.length ++ z.ms ++ M.digs z.xs.length ++ z.xs)
def Z.encE (z : Zn) : List UInt8 × Nat := if Z.right z = true then (Z.enc z, 0) else ([], 12)
theorem zig_nat {n : Int} (h1 : -9223372036854775808 ≤ n) (h2 : n ≤ 9223372036854775807) : ∃ G : Nat, M.zig n = (G : Int) ∧ G < 18446744073709551616 := by
  have h : 0 ≤ M.zig n := by unfold M.zig; split <;> omega
  obtain ⟨G, hG⟩ := Int.eq_ofNat_of_zero_le h
  refine ⟨G, hG, ?_⟩
  have : M.zig n < 18446744073709551616 := by unfold M.zig; split <;> omega
  omega
theorem Z.right_all {z : Zn} (h : Z.right z = true) : (z.k = 1 ∨ z.k = 2) ∧ z.ms.length ≤ 40 ∧ z.xs.length ≤ 40 := by
  simp only [Z.right, Bool.and_eq_true] at h
  have hs := h.1
  simp [Z.shape] at hs
  exact ⟨hs.1.1.1.1.1, hs.1.2, hs.2⟩
end Go.Proofs.Ytnfbmffafclaaaa
