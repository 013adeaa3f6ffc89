/-
  The contract of the document's own Encode (layer 5) over the program: what it writes.
-/
import Derived.Test.YtnmonoafjijfhabGreatM20
namespace Go.Proofs.YtnmonoafjijfhabGreat
open Go.RowKit
set_option linter.unusedVariables false

theorem cell_ex {w1 wx : World} {p : Addr} {v : Value} (h : w1.cell? p = some v) (hC : Ex w1 wx) : wx.cell? p = some v := by
  rw [Below.cell hC (World.block_lt_of_cell? w1 _ h)]; exact h
end Go.Proofs.YtnmonoafjijfhabGreat
