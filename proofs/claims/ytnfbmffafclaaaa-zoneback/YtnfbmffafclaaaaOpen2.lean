/-
  Zones and cells as they come in, by value.
-/
import Derived.Test.YtnfbmffafclaaaaOpens
import Derived.WideShapes
namespace Go.Proofs.Ytnfbmffafclaaaa
open Go.RowKit Go.Deep Go.WideShapes
set_option linter.unusedVariables false
theorem array7 {α : Type} {a : Array α} (h : a.size = 7) : ∃ b c d e f g i, a = #[b, c, d, e, f, g, i] := by
  obtain ⟨l⟩ := a
  match l, h with
  | [b, c, d, e, f, g, i], _ => exact ⟨b, c, d, e, f, g, i, rfl⟩
theorem array4' {α : Type} {a : Array α} (h : a.size = 4) : ∃ b c d e, a = #[b, c, d, e] := by
  obtain ⟨l⟩ := a
  match l, h with
  | [b, c, d, e], _ => exact ⟨b, c, d, e, rfl⟩
section
variable {H : Type} {enc : TypeId × Value → H} {w : World} {base : Nat} {held : Bool} {spare : Nat → Bool}
theorem open_zone {r : Reach} {b0 : Nat} {v : Value} {d : DataW H} {p : List MemPlace} (hv : Value.okWide Try.prog w r b0 23 v) (h : DataW.Trod enc Try.prog w base spare held 23 v d p) : ∃ z : Zn, v = zv z ∧ ZnOk z := by
  obtain ⟨cs, rfl, hs⟩ := okWide_struct Try.underlying23 hv
  rw [show Try.prog.cellsOf 23 = 7 from by kernel_rfl] at hs
  obtain ⟨c0, c1, c2, c3, c4, c5, c6, rfl⟩ := array7 hs
  obtain ⟨fuel, hf⟩ := h
  obtain ⟨z, hz, hk⟩ := open_zone7 (fuel := fuel) (v0 := c0) (v1 := c1) (v2 := c2) (v3 := c3) (v4 := c4) (v5 := c5) (v6 := c6) hf
  exact ⟨z, hz, hk⟩
theorem open_cell {r : Reach} {b0 : Nat} {v : Value} {d : DataW H} {p : List MemPlace} (hv : Value.okWide Try.prog w r b0 52 v) (h : DataW.Trod enc Try.prog w base spare held 52 v d p) : ∃ c : Cel, v = cv c ∧ CelOk c := by
  obtain ⟨cs, rfl, hs⟩ := okWide_struct Try.underlying52 hv
  rw [show Try.prog.cellsOf 52 = 4 from by kernel_rfl] at hs
  obtain ⟨c0, c1, c2, c3, rfl⟩ := array4' hs
  obtain ⟨fuel, hf⟩ := h
  obtain ⟨c, rfl, rfl, rfl, rfl, hk⟩ := open_cell4 (fuel := fuel) (v0 := c0) (v1 := c1) (v2 := c2) (v3 := c3) hf
  exact ⟨c, rfl, hk⟩
end
end Go.Proofs.Ytnfbmffafclaaaa
