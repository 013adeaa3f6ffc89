/-
  NARROWER THAN 'FOR EVERY INPUT', by the rows' own cells (each row's printed sentence says how): PruneTells: loops · PruneSound: loops · PruneNots: loops · PruneEmpty: loops.
  DERIVED. THE GIVEN ROWS OF THIS SEAT. 5 by the template 'for every input the law returns true; each argument reads behind the call as it read before'; 0 by the template 'total and deterministic' (their statements: YtibnhjfeepdddaaTotals.lean).
  GIVEN WITH THE SEED: the statements are not yours to turn. If you find one false, say at which input.
  Laid BY PROGRAM, IN A SANDBOX (cutbox-rows.mjs): the forced cells as the released guide's own fill.sh prints them over the translation e2129708213c6c1a… (all of the seat's roots in one cut). By AI agents, Wed Nov 11 2026. No macro, syntax, notation, axiom, sorry.
-/
import Derived.Test.YtibnhjfeepdddaaChecked
import GoSem.Claim
import GoSem.ClaimJoined
import GoSem.ClaimMapViews
import Derived.JoinedTies
import Derived.KernelRfl
namespace Go.Proofs.Ytibnhjfeepdddaa
/- THE CELL 'sum', in the pinned program and in every row, IS THE sha256 OF THE DUMP (.gsa) THAT YtibnhjfeepdddaaProg.lean LOADS. Nothing in Lean hashes anything: it is a label: what it is worth is what the hold of that sum in a sandbox is worth. -/
noncomputable def Try.pinned : Pinned := { name := "ytibnhjfeepdddaa", sum := "e2129708213c6c1ae004a97096c5d76ae00e5dc39efa7da3cd7b1c031856973b", checked := Try.checked }
namespace Rows
def none {H : Type} : Left H := { results := [], args := [] }

/-- 'columbariumlaw14.PruneNumbers': WHATEVER THE INPUT: true; the input reads as it did. -/
def pruneNumbersSpec : ChangeSpec := { name := "pruneNumbers", fn := fun _ => fun
  | [] => { results := [.lit (.bool true)], args := [] }
  | _ => none }
def pruneNumbersRow : OpenClaim := { program := "ytibnhjfeepdddaa", sum := "e2129708213c6c1ae004a97096c5d76ae00e5dc39efa7da3cd7b1c031856973b", func := "columbarium/columbariumlaw14.PruneNumbers", spec := "pruneNumbers", recurses := true, apart := false }
def PruneNumbersSaid : Prop := pruneNumbersRow.holds Try.pinned (OpenSpec.ofChange pruneNumbersSpec)

/-- ITS FALSE NEIGHBOUR: 'it returns false'. Refute it at one input. -/
def pruneNumbersWrong : ChangeSpec := { name := "pruneNumbers", fn := fun _ => fun
  | [] => { results := [.lit (.bool false)], args := [] }
  | _ => none }
def PruneNumbersWrongFalsely : Prop := pruneNumbersRow.holds Try.pinned (OpenSpec.ofChange pruneNumbersWrong)

/-- 'columbariumlaw14.PruneTells': WHATEVER THE INPUT: true; the input reads as it did. -/
def pruneTellsSpec : ChangeSpec := { name := "pruneTells", fn := fun _ => fun
  | [d1, d2, d3] => { results := [.lit (.bool true)], args := [d1, d2, d3] }
  | _ => none }
def pruneTellsRow : OpenClaim := { program := "ytibnhjfeepdddaa", sum := "e2129708213c6c1ae004a97096c5d76ae00e5dc39efa7da3cd7b1c031856973b", func := "columbarium/columbariumlaw14.PruneTells", spec := "pruneTells", recurses := true, loops := true, apart := false }
def PruneTellsSaid : Prop := pruneTellsRow.holds Try.pinned (OpenSpec.ofChange pruneTellsSpec)

/-- ITS FALSE NEIGHBOUR: 'it returns false'. Refute it at one input. -/
def pruneTellsWrong : ChangeSpec := { name := "pruneTells", fn := fun _ => fun
  | [d1, d2, d3] => { results := [.lit (.bool false)], args := [d1, d2, d3] }
  | _ => none }
def PruneTellsWrongFalsely : Prop := pruneTellsRow.holds Try.pinned (OpenSpec.ofChange pruneTellsWrong)

/-- 'columbariumlaw14.PruneSound': WHATEVER THE INPUT: true; the input reads as it did. -/
def pruneSoundSpec : ChangeSpec := { name := "pruneSound", fn := fun _ => fun
  | [d1, d2] => { results := [.lit (.bool true)], args := [d1, d2] }
  | _ => none }
def pruneSoundRow : OpenClaim := { program := "ytibnhjfeepdddaa", sum := "e2129708213c6c1ae004a97096c5d76ae00e5dc39efa7da3cd7b1c031856973b", func := "columbarium/columbariumlaw14.PruneSound", spec := "pruneSound", recurses := true, loops := true, apart := false }
def PruneSoundSaid : Prop := pruneSoundRow.holds Try.pinned (OpenSpec.ofChange pruneSoundSpec)

/-- ITS FALSE NEIGHBOUR: 'it returns false'. Refute it at one input. -/
def pruneSoundWrong : ChangeSpec := { name := "pruneSound", fn := fun _ => fun
  | [d1, d2] => { results := [.lit (.bool false)], args := [d1, d2] }
  | _ => none }
def PruneSoundWrongFalsely : Prop := pruneSoundRow.holds Try.pinned (OpenSpec.ofChange pruneSoundWrong)

/-- 'columbariumlaw14.PruneNots': WHATEVER THE INPUT: true; the input reads as it did. -/
def pruneNotsSpec : ChangeSpec := { name := "pruneNots", fn := fun _ => fun
  | [d1, d2, d3, d4] => { results := [.lit (.bool true)], args := [d1, d2, d3, d4] }
  | _ => none }
def pruneNotsRow : OpenClaim := { program := "ytibnhjfeepdddaa", sum := "e2129708213c6c1ae004a97096c5d76ae00e5dc39efa7da3cd7b1c031856973b", func := "columbarium/columbariumlaw14.PruneNots", spec := "pruneNots", recurses := true, loops := true, apart := false }
def PruneNotsSaid : Prop := pruneNotsRow.holds Try.pinned (OpenSpec.ofChange pruneNotsSpec)

/-- ITS FALSE NEIGHBOUR: 'it returns false'. Refute it at one input. -/
def pruneNotsWrong : ChangeSpec := { name := "pruneNots", fn := fun _ => fun
  | [d1, d2, d3, d4] => { results := [.lit (.bool false)], args := [d1, d2, d3, d4] }
  | _ => none }
def PruneNotsWrongFalsely : Prop := pruneNotsRow.holds Try.pinned (OpenSpec.ofChange pruneNotsWrong)

/-- 'columbariumlaw14.PruneEmpty': WHATEVER THE INPUT: true; the input reads as it did. -/
def pruneEmptySpec : ChangeSpec := { name := "pruneEmpty", fn := fun _ => fun
  | [d1, d2, d3] => { results := [.lit (.bool true)], args := [d1, d2, d3] }
  | _ => none }
def pruneEmptyRow : OpenClaim := { program := "ytibnhjfeepdddaa", sum := "e2129708213c6c1ae004a97096c5d76ae00e5dc39efa7da3cd7b1c031856973b", func := "columbarium/columbariumlaw14.PruneEmpty", spec := "pruneEmpty", recurses := true, loops := true, apart := false }
def PruneEmptySaid : Prop := pruneEmptyRow.holds Try.pinned (OpenSpec.ofChange pruneEmptySpec)

/-- ITS FALSE NEIGHBOUR: 'it returns false'. Refute it at one input. -/
def pruneEmptyWrong : ChangeSpec := { name := "pruneEmpty", fn := fun _ => fun
  | [d1, d2, d3] => { results := [.lit (.bool false)], args := [d1, d2, d3] }
  | _ => none }
def PruneEmptyWrongFalsely : Prop := pruneEmptyRow.holds Try.pinned (OpenSpec.ofChange pruneEmptyWrong)

/- THE SECOND FORM. 'bulk': how many values and letters a reading holds, each counted each time it is reached (what is shared counts as often as it is met; a slice's spare places count too). A statement '..UptoSaid' is the law's where the arguments, and the package variables that the reading takes, are together of bulk at most 1048576: NARROWER than '..Said'. Prove '..Said' where nothing that the law and all that it calls make is longer than what came in: it says more and counts as full. Else prove '..UptoSaid'. A law counts once. -/
mutual
def uptoBulk {H : Type} : DataW H → Nat
  | .lit (.string bytes) => bytes.length + 1
  | .lit _ => 1
  | .nil => 1
  | .ptr d => uptoBulk d + 1
  | .slice elems spare => uptoBulkAll elems + uptoBulkAll spare + 1
  | .agg parts => uptoBulkAll parts + 1
  | .iface _ d => uptoBulk d + 1
  | .map entries => uptoBulkEntries entries + 1
  | .held _ => 1
def uptoBulkAll {H : Type} : List (DataW H) → Nat
  | [] => 0
  | d :: r => uptoBulk d + uptoBulkAll r
def uptoBulkEntries {H : Type} : List (Lit × DataW H) → Nat
  | [] => 0
  | x :: r => uptoBulkEntry x + uptoBulkEntries r
def uptoBulkEntry {H : Type} : Lit × DataW H → Nat
  | (.string bytes, d) => bytes.length + uptoBulk d + 1
  | (_, d) => uptoBulk d + 1
 end
def uptoSmall : (H : Type) → List (DataW H) → Bool := fun _ ds => decide (uptoBulkAll ds ≤ 1048576)
def OpenSpec.upto (s : _root_.Go.ChangeSpec) : _root_.Go.OpenSpec := { _root_.Go.OpenSpec.ofChange s with cond := some uptoSmall }

/-- 'columbariumlaw14.PruneNumbers', WHERE WHAT IT READS IS OF BULK AT MOST 1048576: true; the input reads as it did. -/
def pruneNumbersUptoRow : OpenClaim := { program := "ytibnhjfeepdddaa", sum := "e2129708213c6c1ae004a97096c5d76ae00e5dc39efa7da3cd7b1c031856973b", func := "columbarium/columbariumlaw14.PruneNumbers", spec := "pruneNumbers", recurses := true, apart := false, narrowed := true }
def PruneNumbersUptoSaid : Prop := pruneNumbersUptoRow.holds Try.pinned (OpenSpec.upto pruneNumbersSpec)

/-- 'columbariumlaw14.PruneTells', WHERE WHAT IT READS IS OF BULK AT MOST 1048576: true; the input reads as it did. -/
def pruneTellsUptoRow : OpenClaim := { program := "ytibnhjfeepdddaa", sum := "e2129708213c6c1ae004a97096c5d76ae00e5dc39efa7da3cd7b1c031856973b", func := "columbarium/columbariumlaw14.PruneTells", spec := "pruneTells", recurses := true, loops := true, apart := false, narrowed := true }
def PruneTellsUptoSaid : Prop := pruneTellsUptoRow.holds Try.pinned (OpenSpec.upto pruneTellsSpec)

/-- 'columbariumlaw14.PruneSound', WHERE WHAT IT READS IS OF BULK AT MOST 1048576: true; the input reads as it did. -/
def pruneSoundUptoRow : OpenClaim := { program := "ytibnhjfeepdddaa", sum := "e2129708213c6c1ae004a97096c5d76ae00e5dc39efa7da3cd7b1c031856973b", func := "columbarium/columbariumlaw14.PruneSound", spec := "pruneSound", recurses := true, loops := true, apart := false, narrowed := true }
def PruneSoundUptoSaid : Prop := pruneSoundUptoRow.holds Try.pinned (OpenSpec.upto pruneSoundSpec)

/-- 'columbariumlaw14.PruneNots', WHERE WHAT IT READS IS OF BULK AT MOST 1048576: true; the input reads as it did. -/
def pruneNotsUptoRow : OpenClaim := { program := "ytibnhjfeepdddaa", sum := "e2129708213c6c1ae004a97096c5d76ae00e5dc39efa7da3cd7b1c031856973b", func := "columbarium/columbariumlaw14.PruneNots", spec := "pruneNots", recurses := true, loops := true, apart := false, narrowed := true }
def PruneNotsUptoSaid : Prop := pruneNotsUptoRow.holds Try.pinned (OpenSpec.upto pruneNotsSpec)

/-- 'columbariumlaw14.PruneEmpty', WHERE WHAT IT READS IS OF BULK AT MOST 1048576: true; the input reads as it did. -/
def pruneEmptyUptoRow : OpenClaim := { program := "ytibnhjfeepdddaa", sum := "e2129708213c6c1ae004a97096c5d76ae00e5dc39efa7da3cd7b1c031856973b", func := "columbarium/columbariumlaw14.PruneEmpty", spec := "pruneEmpty", recurses := true, loops := true, apart := false, narrowed := true }
def PruneEmptyUptoSaid : Prop := pruneEmptyUptoRow.holds Try.pinned (OpenSpec.upto pruneEmptySpec)

end Rows
end Go.Proofs.Ytibnhjfeepdddaa
