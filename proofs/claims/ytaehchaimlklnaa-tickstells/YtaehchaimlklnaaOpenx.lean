/-
  An index as it comes in, by value.
-/
import Derived.Test.YtaehchaimlklnaaIxat
import Derived.Deep.Slices
import Derived.OpenShut
import Derived.Lib.SmallJoins
import Derived.WideShapes
import Derived.ChangeSlices
namespace Go.Proofs.Ytaehchaimlklnaa
open Go.RowKit Go.Deep Go.WideShapes Go.ChangeShapes
set_option linter.unusedVariables false
theorem wf64' {n : Int} (h : (Lit.int .i64 n).wf = true) : In64 n := by
  have h1 : IntKind.i64.min = -9223372036854775808 := rfl
  have h2 : IntKind.i64.max = 9223372036854775807 := rfl
  simp only [Lit.wf, Bool.and_eq_true, decide_eq_true_eq] at h
  exact ⟨by omega, by omega⟩
theorem array3' {α : Type} {a : Array α} (h : a.size = 3) : ∃ b c d, a = #[b, c, d] := by
  obtain ⟨l⟩ := a
  match l, h with
  | [b, c, d], _ => exact ⟨b, c, d, rfl⟩
theorem open_index {H : Type} {enc : TypeId × Value → H} {w : World} {r : Reach} {b0 : Nat} {v : Value} {d : DataW H} {p : List MemPlace} (hv : Value.okWide Try.prog w r b0 24 v) (h : DataW.Trod enc Try.prog w 0 (fun _ => true) true 24 v d p) :
    ∃ (r m : Int) (a : Option Addr) (cap : Nat) (l : List Int), v = xv r m (.slice a l.length cap) ∧ In64 r ∧ In64 m ∧ Rd z64 w a cap l ∧ ∀ x ∈ l, In64 x := by
  obtain ⟨cs, rfl, hs⟩ := okWide_struct Try.underlying24 hv
  rw [show Try.prog.cellsOf 24 = 3 from by kernel_rfl] at hs
  obtain ⟨c0, c1, c2, rfl⟩ := array3' hs
  obtain ⟨fuel, hf⟩ := h
  have hf' : DataW.trod enc Try.prog w 0 (fun _ => true) true fuel 24 [c0, c1, c2] = some (d, p) := hf
  obtain ⟨xs, n, _, _, _, hl, hfs⟩ := DataW.trod_struct Try.underlying24 hf'
  match xs, hl with
  | [y0, y1, y2], _ =>
    have e3 : Try.prog.cellsOf 3 = 1 := by kernel_rfl
    have e2 : Try.prog.cellsOf 2 = 1 := by kernel_rfl
    have e22 : Try.prog.cellsOf 22 = 1 := by kernel_rfl
    have g0 := hfs 0 _ rfl
    have g1 := hfs 1 _ rfl
    have g2 := hfs 2 _ rfl
    simp [e3, e2, e22] at g0 g1 g2
    obtain ⟨a1, e1, _, m1⟩ := DataW.trod_int Try.underlying3 g0
    simp at e1
    subst e1
    obtain ⟨a2, e2', _, m2⟩ := DataW.trod_int Try.underlying2 g1
    simp at e2'
    subst e2'
    rcases open_ints Try.underlying22 Try.underlying2 (by kernel_rfl) g2 with ⟨hcs, _⟩ | ⟨x, l, c, zs, hcs, _, hl, hm, hz, hx, hcell, hwz⟩
    · simp at hcs
      subst hcs
      exact ⟨a1, a2, none, 0, [], rfl, wf64' m1, wf64' m2, Rd.nil _, by simp⟩
    · simp at hcs
      subst hcs
      have hz' : zs.length = c := by simpa using hz
      have hlen := rowInts_len hl hz'
      refine ⟨a1, a2, some x, c, rowInts zs l, ?_, wf64' m1, wf64' m2, rd_rowInts hl hm hz' hcell, rowInts_in hwz⟩
      rw [hlen]
      rfl
end Go.Proofs.Ytaehchaimlklnaa
