/-
  'b[k:]' of bytes, in a region whose order is open and outside.
-/
import Derived.Test.YthpnjcakfigicaaKnown
namespace Go.Proofs.Ythpnjcakfigicaa
open Go.RowKit
set_option linter.unusedVariables false

theorem slice_low (a : Option Addr) (cap k : Nat) (l : List UInt8) (w : World) (hB : Byt w a cap l) (hk : k ≤ l.length) :
    ∃ v, (Instr.sliceAt 26 (.slice a l.length cap) (some (.int .i64 k)) none none).run Try.prog w = .ok v w ∧ IsByt (l.drop k) v w := by
  have h1 := hB.1
  have h2 := hB.2.1
  unfold maxLen at h2
  have hs := hB.sub k (l.length - k) (by omega)
  have hd : (l.drop k).take (l.length - k) = l.drop k := by rw [List.take_of_length_le]; simp
  rw [hd] at hs
  have i1 : (k : Int) ≤ (l.length : Int) := by omega
  have i2 : (l.length : Int) ≤ (cap : Int) := by omega
  have i3 : cap ≤ 9223372036854775807 := by omega
  by_cases hck : cap = k
  · have hl0 : l.drop k = [] := by
      apply List.eq_nil_of_length_eq_zero
      simp; omega
    subst hck
    have hlc : l.length = cap := by omega
    refine ⟨.slice a 0 0, ?_, ⟨a, 0, by rw [hl0]; rfl, by rw [hl0]; exact Byt.none_ a⟩⟩
    rw [hlc]
    go_simp
  · refine ⟨.slice (Option.map (fun x => x.add k) a) (l.length - k) (cap - k), ?_, ⟨_, _, by simp, hs⟩⟩
    have hne : ¬ cap - k = 0 := by omega
    go_simp
namespace Rg
theorem good_slice1 {P : Program} {ops : Array Oper} {specs : List Spec} {a0 : Act} {C : World → Prop} {E : World → World → Prop} {o : Oper} {s : Spec} {t : TypeId} {x lo : Operand} {vl : Value} (hrefl : ∀ w, E w w) (ho : o.op = .slice t x (some lo) none none) (hg : guardV ops specs a0 o = some true) (hh : argS ops specs a0 lo = .inl vl)
    (h : ∀ u w, C w → (argS ops specs a0 x).ok u w → ∃ v, (Instr.sliceAt t u (some vl) none none).run P w = .ok v w ∧ s.ok v w) : GoodOp P ops specs a0 C E o s :=
  good_val hrefl hg fun a w hC hs => by
    obtain ⟨v, h1, h2⟩ := h _ w hC (hs x (by rw [ho]; simp [Op.operands]))
    have h3 := hs lo (by rw [ho]; simp [Op.operands])
    rw [hh] at h3
    simp only [Spec.ok] at h3
    refine ⟨v, ?_, h2⟩
    unfold execOp
    rw [ho]
    simp only [Option.map_some, Option.map_none, h3, Sem.run_bind, Result.andThen, h1, Sem.run_pure]
end Rg
end Go.Proofs.Ythpnjcakfigicaa
