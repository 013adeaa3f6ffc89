/-
  The document's own put, From, Rising, Fits (layer 7) over the program.
-/
import Derived.Test.YtnmonoafjijfhabGreatM31
import Derived.Test.YtnmonoafjijfhabGreatM02
namespace Go.Proofs.YtnmonoafjijfhabGreat
open Go.RowKit
set_option linter.unusedVariables false

theorem dcell_ex {w1 wx : World} {p : Addr} {v : Value} (h : w1.cell? p = some v) (hC : Ex w1 wx) : wx.cell? p = some v := by
  rw [Below.cell hC (World.block_lt_of_cell? w1 _ h)]; exact h
theorem I.wi64 (n : Int) (h1 : -9223372036854775808 ≤ n) (h2 : n ≤ 9223372036854775807) : IntKind.i64.wrap n = n := by
  simp only [IntKind.wrap, IntKind.bits, IntKind.signed]
  simp
  omega
end Go.Proofs.YtnmonoafjijfhabGreat
