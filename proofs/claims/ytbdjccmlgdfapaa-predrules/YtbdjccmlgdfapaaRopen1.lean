/-
  A row as it comes in, by value.
-/
import Derived.Test.YtbdjccmlgdfapaaRopens
import Derived.ChangeSlices
namespace Go.Proofs.Ytbdjccmlgdfapaa
open Go.RowKit Go.Deep Go.WideShapes Go.ChangeShapes
set_option linter.unusedVariables false
theorem array3' {α : Type} {a : Array α} (h : a.size = 3) : ∃ b c d, a = #[b, c, d] := by
  obtain ⟨l⟩ := a
  match l, h with
  | [b, c, d], _ => exact ⟨b, c, d, rfl⟩
set_option maxRecDepth 100000 in
theorem open_row {H : Type} {enc : TypeId × Value → H} {w : World} {r : Reach} {b0 : Nat} {v : Value} {d : DataW H} {p : List MemPlace} (hv : Value.okWide Try.prog w r b0 36 v) (h : DataW.Trod enc Try.prog w 0 (fun _ => true) true 36 v d p) :
    ∃ (u : RV) (x : Rw), v = rvv u ∧ RvOk w u x ∧ RowOk x ∧ ∃ m ∈ 0 :: d.weights Try.prog 36, x.c.length * 48 ≤ m := by
  obtain ⟨cs, rfl, hs⟩ := okWide_struct Try.underlying36 hv
  rw [show Try.prog.cellsOf 36 = 3 from by kernel_rfl] at hs
  obtain ⟨c0, c1, c2, rfl⟩ := array3' hs
  obtain ⟨fuel, hf⟩ := h
  have hf' : DataW.trod enc Try.prog w 0 (fun _ => true) true fuel 36 [c0, c1, c2] = some (d, p) := hf
  obtain ⟨u, x, hu, h1, h2, h3⟩ := open_row3 hf'
  refine ⟨u, x, ?_, h1, h2, h3⟩
  simp only [rc, List.cons.injEq, and_true] at hu
  obtain ⟨rfl, rfl, rfl⟩ := hu
  rfl
end Go.Proofs.Ytbdjccmlgdfapaa
