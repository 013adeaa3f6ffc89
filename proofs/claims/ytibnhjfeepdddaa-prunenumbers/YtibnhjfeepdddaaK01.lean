/-
  The law's own in and back: Stats of the program's kind and of the document's.
-/
import Derived.Test.YtibnhjfeepdddaaM38
import Derived.Test.YtibnhjfeepdddaaM20
import Derived.Test.YtibnhjfeepdddaaM26
import Derived.Test.YtibnhjfeepdddaaM19
namespace Go.Proofs.Ytibnhjfeepdddaa
open Go.RowKit
set_option linter.unusedVariables false
set_option linter.unusedSimpArgs false
set_option maxHeartbeats 1000000 in
theorem good_bc28 {ops : Array Oper} {specs : List Rg.Spec} {a0 : Act} {w1 : World} {o : Oper} {x y : Operand} {n : List UInt8} {z : Zn} (ho : o.op = .build 28 #[(0, x), (1, y)]) (hg : Rg.guardV ops specs a0 o = some true)
  (h0 : Rg.argS ops specs a0 x = .inl (.string (str n))) (h1 : Rg.argS ops specs a0 y = .inl (zv z)) : Rg.GoodOp Try.prog ops specs a0 (Ex w1) Ex o (.inl (zcw (n, z))) :=
 Rg.good_val Ex.refl hg fun a w hC hh => by
  have k0 := hh x (by rw [ho]; simp [Op.operands])
  have k1 := hh y (by rw [ho]; simp [Op.operands])
  rw [h0] at k0; rw [h1] at k1
  simp only [Rg.Spec.ok] at k0 k1
  refine ⟨_, ?_, rfl⟩
  obtain ⟨ρ, hρ⟩ : ∃ ρ, a.eval = ρ := ⟨_, rfl⟩
  rw [hρ] at k0 k1 ⊢
  simp [execOp, ho, k0, k1, go_sem, zv, zcw, zcc]
end Go.Proofs.Ytibnhjfeepdddaa
