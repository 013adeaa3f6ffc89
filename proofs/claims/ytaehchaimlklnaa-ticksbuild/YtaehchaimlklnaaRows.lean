/-
  No cell of these rows narrows 'for every input' (looked for: loops, veiled, ifaces, maps, wideKeys, modest, calm, conditions, laid).
  DERIVED. THE GIVEN ROWS OF THIS SEAT. 6 by the template 'for every input the law returns true; each argument reads behind the call as it read before'; 0 by the template 'total and deterministic' (their statements: YtaehchaimlklnaaTotals.lean).
  GIVEN WITH THE SEED: the statements are not yours to turn. If you find one false, say at which input.
  Laid BY PROGRAM, IN A SANDBOX (cutbox-rows.mjs): the forced cells as the released guide's own fill.sh prints them over the translation 76583531cfb48385… (all of the seat's roots in one cut). By AI agents, Wed Nov 11 2026. No macro, syntax, notation, axiom, sorry.
-/
import Derived.Test.YtaehchaimlklnaaChecked
import GoSem.Claim
import GoSem.ClaimJoined
import GoSem.ClaimMapViews
import Derived.JoinedTies
import Derived.KernelRfl
namespace Go.Proofs.Ytaehchaimlklnaa
/- THE CELL 'sum', in the pinned program and in every row, IS THE sha256 OF THE DUMP (.gsa) THAT YtaehchaimlklnaaProg.lean LOADS. Nothing in Lean hashes anything: it is a label: what it is worth is what the hold of that sum in a sandbox is worth. -/
noncomputable def Try.pinned : Pinned := { name := "ytaehchaimlklnaa", sum := "76583531cfb48385638bb835f04febd27b13024474a1d6510abd9c1feee466f9", checked := Try.checked }
namespace Rows
def none {H : Type} : Left H := { results := [], args := [] }

/-- 'columbariumlaw10.TicksNumbers': WHATEVER THE INPUT: true; the input reads as it did. -/
def ticksNumbersSpec : ChangeSpec := { name := "ticksNumbers", fn := fun _ => fun
  | [] => { results := [.lit (.bool true)], args := [] }
  | _ => none }
def ticksNumbersRow : OpenClaim := { program := "ytaehchaimlklnaa", sum := "76583531cfb48385638bb835f04febd27b13024474a1d6510abd9c1feee466f9", func := "columbarium/columbariumlaw10.TicksNumbers", spec := "ticksNumbers", apart := false }
def TicksNumbersSaid : Prop := ticksNumbersRow.holds Try.pinned (OpenSpec.ofChange ticksNumbersSpec)

/-- ITS FALSE NEIGHBOUR: 'it returns false'. Refute it at one input. -/
def ticksNumbersWrong : ChangeSpec := { name := "ticksNumbers", fn := fun _ => fun
  | [] => { results := [.lit (.bool false)], args := [] }
  | _ => none }
def TicksNumbersWrongFalsely : Prop := ticksNumbersRow.holds Try.pinned (OpenSpec.ofChange ticksNumbersWrong)

/-- 'columbariumlaw10.TicksTells': WHATEVER THE INPUT: true; the input reads as it did. -/
def ticksTellsSpec : ChangeSpec := { name := "ticksTells", fn := fun _ => fun
  | [d1, d2, d3, d4, d5, d6] => { results := [.lit (.bool true)], args := [d1, d2, d3, d4, d5, d6] }
  | _ => none }
def ticksTellsRow : OpenClaim := { program := "ytaehchaimlklnaa", sum := "76583531cfb48385638bb835f04febd27b13024474a1d6510abd9c1feee466f9", func := "columbarium/columbariumlaw10.TicksTells", spec := "ticksTells", apart := false }
def TicksTellsSaid : Prop := ticksTellsRow.holds Try.pinned (OpenSpec.ofChange ticksTellsSpec)

/-- ITS FALSE NEIGHBOUR: 'it returns false'. Refute it at one input. -/
def ticksTellsWrong : ChangeSpec := { name := "ticksTells", fn := fun _ => fun
  | [d1, d2, d3, d4, d5, d6] => { results := [.lit (.bool false)], args := [d1, d2, d3, d4, d5, d6] }
  | _ => none }
def TicksTellsWrongFalsely : Prop := ticksTellsRow.holds Try.pinned (OpenSpec.ofChange ticksTellsWrong)

/-- 'columbariumlaw10.TicksSpan': WHATEVER THE INPUT: true; the input reads as it did. -/
def ticksSpanSpec : ChangeSpec := { name := "ticksSpan", fn := fun _ => fun
  | [d1, d2, d3, d4] => { results := [.lit (.bool true)], args := [d1, d2, d3, d4] }
  | _ => none }
def ticksSpanRow : OpenClaim := { program := "ytaehchaimlklnaa", sum := "76583531cfb48385638bb835f04febd27b13024474a1d6510abd9c1feee466f9", func := "columbarium/columbariumlaw10.TicksSpan", spec := "ticksSpan", apart := false }
def TicksSpanSaid : Prop := ticksSpanRow.holds Try.pinned (OpenSpec.ofChange ticksSpanSpec)

/-- ITS FALSE NEIGHBOUR: 'it returns false'. Refute it at one input. -/
def ticksSpanWrong : ChangeSpec := { name := "ticksSpan", fn := fun _ => fun
  | [d1, d2, d3, d4] => { results := [.lit (.bool false)], args := [d1, d2, d3, d4] }
  | _ => none }
def TicksSpanWrongFalsely : Prop := ticksSpanRow.holds Try.pinned (OpenSpec.ofChange ticksSpanWrong)

/-- 'columbariumlaw10.TicksBack': WHATEVER THE INPUT: true; the input reads as it did. -/
def ticksBackSpec : ChangeSpec := { name := "ticksBack", fn := fun _ => fun
  | [d1, d2, d3, d4] => { results := [.lit (.bool true)], args := [d1, d2, d3, d4] }
  | _ => none }
def ticksBackRow : OpenClaim := { program := "ytaehchaimlklnaa", sum := "76583531cfb48385638bb835f04febd27b13024474a1d6510abd9c1feee466f9", func := "columbarium/columbariumlaw10.TicksBack", spec := "ticksBack", apart := false }
def TicksBackSaid : Prop := ticksBackRow.holds Try.pinned (OpenSpec.ofChange ticksBackSpec)

/-- ITS FALSE NEIGHBOUR: 'it returns false'. Refute it at one input. -/
def ticksBackWrong : ChangeSpec := { name := "ticksBack", fn := fun _ => fun
  | [d1, d2, d3, d4] => { results := [.lit (.bool false)], args := [d1, d2, d3, d4] }
  | _ => none }
def TicksBackWrongFalsely : Prop := ticksBackRow.holds Try.pinned (OpenSpec.ofChange ticksBackWrong)

/-- 'columbariumlaw10.TicksNarrow': WHATEVER THE INPUT: true; the input reads as it did. -/
def ticksNarrowSpec : ChangeSpec := { name := "ticksNarrow", fn := fun _ => fun
  | [d1, d2, d3, d4, d5, d6] => { results := [.lit (.bool true)], args := [d1, d2, d3, d4, d5, d6] }
  | _ => none }
def ticksNarrowRow : OpenClaim := { program := "ytaehchaimlklnaa", sum := "76583531cfb48385638bb835f04febd27b13024474a1d6510abd9c1feee466f9", func := "columbarium/columbariumlaw10.TicksNarrow", spec := "ticksNarrow", apart := false }
def TicksNarrowSaid : Prop := ticksNarrowRow.holds Try.pinned (OpenSpec.ofChange ticksNarrowSpec)

/-- ITS FALSE NEIGHBOUR: 'it returns false'. Refute it at one input. -/
def ticksNarrowWrong : ChangeSpec := { name := "ticksNarrow", fn := fun _ => fun
  | [d1, d2, d3, d4, d5, d6] => { results := [.lit (.bool false)], args := [d1, d2, d3, d4, d5, d6] }
  | _ => none }
def TicksNarrowWrongFalsely : Prop := ticksNarrowRow.holds Try.pinned (OpenSpec.ofChange ticksNarrowWrong)

/-- 'columbariumlaw10.TicksBuild': WHATEVER THE INPUT: true; the input reads as it did. -/
def ticksBuildSpec : ChangeSpec := { name := "ticksBuild", fn := fun _ => fun
  | [d] => { results := [.lit (.bool true)], args := [d] }
  | _ => none }
def ticksBuildRow : OpenClaim := { program := "ytaehchaimlklnaa", sum := "76583531cfb48385638bb835f04febd27b13024474a1d6510abd9c1feee466f9", func := "columbarium/columbariumlaw10.TicksBuild", spec := "ticksBuild", apart := false }
def TicksBuildSaid : Prop := ticksBuildRow.holds Try.pinned (OpenSpec.ofChange ticksBuildSpec)

/-- ITS FALSE NEIGHBOUR: 'it returns false'. Refute it at one input. -/
def ticksBuildWrong : ChangeSpec := { name := "ticksBuild", fn := fun _ => fun
  | [d] => { results := [.lit (.bool false)], args := [d] }
  | _ => none }
def TicksBuildWrongFalsely : Prop := ticksBuildRow.holds Try.pinned (OpenSpec.ofChange ticksBuildWrong)

/- THE SECOND FORM. 'bulk': how many values and letters a reading holds, each counted each time it is reached (what is shared counts as often as it is met; a slice's spare places count too). A statement '..UptoSaid' is the law's where the arguments, and the package variables that the reading takes, are together of bulk at most 1048576: NARROWER than '..Said'. Prove '..Said' where nothing that the law and all that it calls make is longer than what came in: it says more and counts as full. Else prove '..UptoSaid'. A law counts once. -/
mutual
def uptoBulk {H : Type} : DataW H → Nat
  | .lit (.string bytes) => bytes.length + 1
  | .lit _ => 1
  | .nil => 1
  | .ptr d => uptoBulk d + 1
  | .slice elems spare => uptoBulkAll elems + uptoBulkAll spare + 1
  | .agg parts => uptoBulkAll parts + 1
  | .iface _ d => uptoBulk d + 1
  | .map entries => uptoBulkEntries entries + 1
  | .held _ => 1
def uptoBulkAll {H : Type} : List (DataW H) → Nat
  | [] => 0
  | d :: r => uptoBulk d + uptoBulkAll r
def uptoBulkEntries {H : Type} : List (Lit × DataW H) → Nat
  | [] => 0
  | x :: r => uptoBulkEntry x + uptoBulkEntries r
def uptoBulkEntry {H : Type} : Lit × DataW H → Nat
  | (.string bytes, d) => bytes.length + uptoBulk d + 1
  | (_, d) => uptoBulk d + 1
 end
def uptoSmall : (H : Type) → List (DataW H) → Bool := fun _ ds => decide (uptoBulkAll ds ≤ 1048576)
def OpenSpec.upto (s : _root_.Go.ChangeSpec) : _root_.Go.OpenSpec := { _root_.Go.OpenSpec.ofChange s with cond := some uptoSmall }

/-- 'columbariumlaw10.TicksNumbers', WHERE WHAT IT READS IS OF BULK AT MOST 1048576: true; the input reads as it did. -/
def ticksNumbersUptoRow : OpenClaim := { program := "ytaehchaimlklnaa", sum := "76583531cfb48385638bb835f04febd27b13024474a1d6510abd9c1feee466f9", func := "columbarium/columbariumlaw10.TicksNumbers", spec := "ticksNumbers", apart := false, narrowed := true }
def TicksNumbersUptoSaid : Prop := ticksNumbersUptoRow.holds Try.pinned (OpenSpec.upto ticksNumbersSpec)

/-- 'columbariumlaw10.TicksTells', WHERE WHAT IT READS IS OF BULK AT MOST 1048576: true; the input reads as it did. -/
def ticksTellsUptoRow : OpenClaim := { program := "ytaehchaimlklnaa", sum := "76583531cfb48385638bb835f04febd27b13024474a1d6510abd9c1feee466f9", func := "columbarium/columbariumlaw10.TicksTells", spec := "ticksTells", apart := false, narrowed := true }
def TicksTellsUptoSaid : Prop := ticksTellsUptoRow.holds Try.pinned (OpenSpec.upto ticksTellsSpec)

/-- 'columbariumlaw10.TicksSpan', WHERE WHAT IT READS IS OF BULK AT MOST 1048576: true; the input reads as it did. -/
def ticksSpanUptoRow : OpenClaim := { program := "ytaehchaimlklnaa", sum := "76583531cfb48385638bb835f04febd27b13024474a1d6510abd9c1feee466f9", func := "columbarium/columbariumlaw10.TicksSpan", spec := "ticksSpan", apart := false, narrowed := true }
def TicksSpanUptoSaid : Prop := ticksSpanUptoRow.holds Try.pinned (OpenSpec.upto ticksSpanSpec)

/-- 'columbariumlaw10.TicksBack', WHERE WHAT IT READS IS OF BULK AT MOST 1048576: true; the input reads as it did. -/
def ticksBackUptoRow : OpenClaim := { program := "ytaehchaimlklnaa", sum := "76583531cfb48385638bb835f04febd27b13024474a1d6510abd9c1feee466f9", func := "columbarium/columbariumlaw10.TicksBack", spec := "ticksBack", apart := false, narrowed := true }
def TicksBackUptoSaid : Prop := ticksBackUptoRow.holds Try.pinned (OpenSpec.upto ticksBackSpec)

/-- 'columbariumlaw10.TicksNarrow', WHERE WHAT IT READS IS OF BULK AT MOST 1048576: true; the input reads as it did. -/
def ticksNarrowUptoRow : OpenClaim := { program := "ytaehchaimlklnaa", sum := "76583531cfb48385638bb835f04febd27b13024474a1d6510abd9c1feee466f9", func := "columbarium/columbariumlaw10.TicksNarrow", spec := "ticksNarrow", apart := false, narrowed := true }
def TicksNarrowUptoSaid : Prop := ticksNarrowUptoRow.holds Try.pinned (OpenSpec.upto ticksNarrowSpec)

/-- 'columbariumlaw10.TicksBuild', WHERE WHAT IT READS IS OF BULK AT MOST 1048576: true; the input reads as it did. -/
def ticksBuildUptoRow : OpenClaim := { program := "ytaehchaimlklnaa", sum := "76583531cfb48385638bb835f04febd27b13024474a1d6510abd9c1feee466f9", func := "columbarium/columbariumlaw10.TicksBuild", spec := "ticksBuild", apart := false, narrowed := true }
def TicksBuildUptoSaid : Prop := ticksBuildUptoRow.holds Try.pinned (OpenSpec.upto ticksBuildSpec)

end Rows
end Go.Proofs.Ytaehchaimlklnaa
