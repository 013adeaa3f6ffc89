/-
  A filter as it comes in, by value.
-/
import Derived.Test.YtadcbefgleiijaaFilt
import Derived.Deep.Slices
import Derived.OpenShut
import Derived.Lib.SmallJoins
import Derived.WideShapes
import Derived.ChangeSlices
namespace Go.Proofs.Ytadcbefgleiijaa
open Go.RowKit Go.Deep Go.WideShapes Go.ChangeShapes
set_option linter.unusedVariables false
theorem wf64' {n : Int} (h : (Lit.int .i64 n).wf = true) : In64 n := by
  have h1 : IntKind.i64.min = -9223372036854775808 := rfl
  have h2 : IntKind.i64.max = 9223372036854775807 := rfl
  simp only [Lit.wf, Bool.and_eq_true, decide_eq_true_eq] at h
  exact ⟨by omega, by omega⟩
theorem array2' {α : Type} {a : Array α} (h : a.size = 2) : ∃ b c, a = #[b, c] := by
  obtain ⟨l⟩ := a
  match l, h with
  | [b, c], _ => exact ⟨b, c, rfl⟩
theorem open_filter {H : Type} {enc : TypeId × Value → H} {w : World} {r : Reach} {b0 : Nat} {v : Value} {d : DataW H} {p : List MemPlace} (hv : Value.okWide Try.prog w r b0 25 v) (h : DataW.Trod enc Try.prog w 0 (fun _ => true) true 25 v d p) :
    ∃ (k : Int) (a : Option Addr) (cap : Nat) (l : List UInt8), v = fv k (.slice a l.length cap) ∧ In64 k ∧ Byt w a cap l := by
  obtain ⟨cs, rfl, hs⟩ := okWide_struct Try.underlying25 hv
  rw [show Try.prog.cellsOf 25 = 2 from by kernel_rfl] at hs
  obtain ⟨c0, c1, rfl⟩ := array2' hs
  obtain ⟨fuel, hf⟩ := h
  have hf' : DataW.trod enc Try.prog w 0 (fun _ => true) true fuel 25 [c0, c1] = some (d, p) := hf
  obtain ⟨xs, n, _, _, _, hl, hfs⟩ := DataW.trod_struct Try.underlying25 hf'
  match xs, hl with
  | [y0, y1], _ =>
    have e3 : Try.prog.cellsOf 3 = 1 := by kernel_rfl
    have e23 : Try.prog.cellsOf 23 = 1 := by kernel_rfl
    have g0 := hfs 0 _ rfl
    have g1 := hfs 1 _ rfl
    simp [e3, e23] at g0 g1
    obtain ⟨a1, e1, _, m1⟩ := DataW.trod_int Try.underlying3 g0
    simp at e1
    subst e1
    rcases open_ints Try.underlying23 Try.underlying5 (by kernel_rfl) g1 with ⟨hcs, _⟩ | ⟨x, l, c, zs, hcs, _, hl, hm, hz, hx, hcell, hwz⟩
    · simp at hcs
      subst hcs
      exact ⟨a1, none, 0, [], rfl, wf64' m1, Byt.nil _⟩
    · simp at hcs
      subst hcs
      have hz' : zs.length = c := by simpa using hz
      have hlen := rowBytes_len hl hz'
      refine ⟨a1, some x, c, rowBytes zs l, ?_, wf64' m1, byt_row hl hm hz' hcell hwz⟩
      rw [hlen]
      rfl
end Go.Proofs.Ytadcbefgleiijaa
