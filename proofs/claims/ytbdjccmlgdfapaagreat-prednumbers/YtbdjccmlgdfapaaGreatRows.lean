/-
  NARROWER THAN 'FOR EVERY INPUT', by the rows' own cells (each row's printed sentence says how): PredTells: loops.
  DERIVED. THE GIVEN ROWS OF THIS SEAT. 2 by the template 'for every input the law returns true; each argument reads behind the call as it read before'; 0 by the template 'total and deterministic' (their statements: YtbdjccmlgdfapaaGreatTotals.lean).
  GIVEN WITH THE SEED: the statements are not yours to turn. If you find one false, say at which input.
  Laid BY PROGRAM, IN A SANDBOX (cutbox-rows.mjs): the forced cells as the released guide's own fill.sh prints them over the translation 5460717e84cde54e… (all of the seat's roots in one cut). By AI agents, Wed Nov 11 2026. No macro, syntax, notation, axiom, sorry.
-/
import Derived.Test.YtbdjccmlgdfapaaGreatChecked
import GoSem.Claim
import GoSem.ClaimJoined
import GoSem.ClaimMapViews
import Derived.JoinedTies
import Derived.KernelRfl
namespace Go.Proofs.YtbdjccmlgdfapaaGreat
/- THE CELL 'sum', in the pinned program and in every row, IS THE sha256 OF THE DUMP (.gsa) THAT YtbdjccmlgdfapaaGreatProg.lean LOADS. Nothing in Lean hashes anything: it is a label: what it is worth is what the hold of that sum in a sandbox is worth. -/
noncomputable def Tryz.pinned : Pinned := { name := "ytbdjccmlgdfapaagreat", sum := "5460717e84cde54ec80c5abffcd4c679196b37d97d1e022e14bcb7d9a2cde934", checked := Tryz.checked }
namespace Rows
def none {H : Type} : Left H := { results := [], args := [] }

/-- 'columbariumlaw13.PredNumbers': WHATEVER THE INPUT: true; the input reads as it did. -/
def predNumbersSpec : ChangeSpec := { name := "predNumbers", fn := fun _ => fun
  | [] => { results := [.lit (.bool true)], args := [] }
  | _ => none }
def predNumbersRow : OpenClaim := { program := "ytbdjccmlgdfapaagreat", sum := "5460717e84cde54ec80c5abffcd4c679196b37d97d1e022e14bcb7d9a2cde934", func := "columbarium/columbariumlaw13.PredNumbers", spec := "predNumbers", recurses := true, apart := false }
def PredNumbersSaid : Prop := predNumbersRow.holds Tryz.pinned (OpenSpec.ofChange predNumbersSpec)

/-- ITS FALSE NEIGHBOUR: 'it returns false'. Refute it at one input. -/
def predNumbersWrong : ChangeSpec := { name := "predNumbers", fn := fun _ => fun
  | [] => { results := [.lit (.bool false)], args := [] }
  | _ => none }
def PredNumbersWrongFalsely : Prop := predNumbersRow.holds Tryz.pinned (OpenSpec.ofChange predNumbersWrong)

/-- 'columbariumlaw13.PredTells': WHATEVER THE INPUT: true; the input reads as it did. -/
def predTellsSpec : ChangeSpec := { name := "predTells", fn := fun _ => fun
  | [d1, d2, d3, d4] => { results := [.lit (.bool true)], args := [d1, d2, d3, d4] }
  | _ => none }
def predTellsRow : OpenClaim := { program := "ytbdjccmlgdfapaagreat", sum := "5460717e84cde54ec80c5abffcd4c679196b37d97d1e022e14bcb7d9a2cde934", func := "columbarium/columbariumlaw13.PredTells", spec := "predTells", recurses := true, loops := true, apart := false }
def PredTellsSaid : Prop := predTellsRow.holds Tryz.pinned (OpenSpec.ofChange predTellsSpec)

/-- ITS FALSE NEIGHBOUR: 'it returns false'. Refute it at one input. -/
def predTellsWrong : ChangeSpec := { name := "predTells", fn := fun _ => fun
  | [d1, d2, d3, d4] => { results := [.lit (.bool false)], args := [d1, d2, d3, d4] }
  | _ => none }
def PredTellsWrongFalsely : Prop := predTellsRow.holds Tryz.pinned (OpenSpec.ofChange predTellsWrong)

/- THE SECOND FORM. 'bulk': how many values and letters a reading holds, each counted each time it is reached (what is shared counts as often as it is met; a slice's spare places count too). A statement '..UptoSaid' is the law's where the arguments, and the package variables that the reading takes, are together of bulk at most 1048576: NARROWER than '..Said'. Prove '..Said' where nothing that the law and all that it calls make is longer than what came in: it says more and counts as full. Else prove '..UptoSaid'. A law counts once. -/
mutual
def uptoBulk {H : Type} : DataW H → Nat
  | .lit (.string bytes) => bytes.length + 1
  | .lit _ => 1
  | .nil => 1
  | .ptr d => uptoBulk d + 1
  | .slice elems spare => uptoBulkAll elems + uptoBulkAll spare + 1
  | .agg parts => uptoBulkAll parts + 1
  | .iface _ d => uptoBulk d + 1
  | .map entries => uptoBulkEntries entries + 1
  | .held _ => 1
def uptoBulkAll {H : Type} : List (DataW H) → Nat
  | [] => 0
  | d :: r => uptoBulk d + uptoBulkAll r
def uptoBulkEntries {H : Type} : List (Lit × DataW H) → Nat
  | [] => 0
  | x :: r => uptoBulkEntry x + uptoBulkEntries r
def uptoBulkEntry {H : Type} : Lit × DataW H → Nat
  | (.string bytes, d) => bytes.length + uptoBulk d + 1
  | (_, d) => uptoBulk d + 1
 end
def uptoSmall : (H : Type) → List (DataW H) → Bool := fun _ ds => decide (uptoBulkAll ds ≤ 1048576)
def OpenSpec.upto (s : _root_.Go.ChangeSpec) : _root_.Go.OpenSpec := { _root_.Go.OpenSpec.ofChange s with cond := some uptoSmall }

/-- 'columbariumlaw13.PredNumbers', WHERE WHAT IT READS IS OF BULK AT MOST 1048576: true; the input reads as it did. -/
def predNumbersUptoRow : OpenClaim := { program := "ytbdjccmlgdfapaagreat", sum := "5460717e84cde54ec80c5abffcd4c679196b37d97d1e022e14bcb7d9a2cde934", func := "columbarium/columbariumlaw13.PredNumbers", spec := "predNumbers", recurses := true, apart := false, narrowed := true }
def PredNumbersUptoSaid : Prop := predNumbersUptoRow.holds Tryz.pinned (OpenSpec.upto predNumbersSpec)

/-- 'columbariumlaw13.PredTells', WHERE WHAT IT READS IS OF BULK AT MOST 1048576: true; the input reads as it did. -/
def predTellsUptoRow : OpenClaim := { program := "ytbdjccmlgdfapaagreat", sum := "5460717e84cde54ec80c5abffcd4c679196b37d97d1e022e14bcb7d9a2cde934", func := "columbarium/columbariumlaw13.PredTells", spec := "predTells", recurses := true, loops := true, apart := false, narrowed := true }
def PredTellsUptoSaid : Prop := predTellsUptoRow.holds Tryz.pinned (OpenSpec.upto predTellsSpec)

end Rows
end Go.Proofs.YtbdjccmlgdfapaaGreat
