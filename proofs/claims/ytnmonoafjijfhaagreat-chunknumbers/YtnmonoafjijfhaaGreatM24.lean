/-
  'b[j:k]' of bytes, in a region whose order is open and outside.
-/
import Derived.Test.YtnmonoafjijfhaaGreatM04
namespace Go.Proofs.YtnmonoafjijfhaaGreat
open Go.RowKit
set_option linter.unusedVariables false

theorem slice_mid (a : Option Addr) (cap j k : Nat) (l : List UInt8) (w : World) (hB : Byt w a cap l) (hj : j ≤ k) (hk : k ≤ l.length) :
    ∃ v, (Instr.sliceAt 22 (.slice a l.length cap) (some (.int .i64 j)) (some (.int .i64 k)) none).run Tryz.prog w = .ok v w ∧ IsByt ((l.drop j).take (k - j)) v w := by
  have h1 := hB.1
  have h2 := hB.2.1
  unfold maxLen at h2
  have hs := hB.sub j (k - j) (by omega)
  have hlen : ((l.drop j).take (k - j)).length = k - j := by simp; omega
  have i0 : (j : Int) ≤ (k : Int) := by omega
  have i1 : (k : Int) ≤ (cap : Int) := by omega
  have i3 : cap ≤ 9223372036854775807 := by omega
  by_cases hck : cap = j
  · have hl0 : (l.drop j).take (k - j) = [] := by
      apply List.eq_nil_of_length_eq_zero
      simp; omega
    have hkc : k = j := by omega
    subst hck
    subst hkc
    refine ⟨.slice a 0 0, ?_, ⟨a, 0, by rw [hl0]; rfl, by rw [hl0]; exact Byt.none_ a⟩⟩
    go_simp
  · refine ⟨.slice (Option.map (fun x => x.add j) a) (k - j) (cap - j), ?_, ⟨_, _, by rw [hlen], hs⟩⟩
    have hne : ¬ cap - j = 0 := by omega
    go_simp
namespace Rg
theorem good_slice3 {P : Program} {ops : Array Oper} {specs : List Spec} {a0 : Act} {C : World → Prop} {E : World → World → Prop} {o : Oper} {s : Spec} {t : TypeId} {x lo hi : Operand} {vl vh : Value} (hrefl : ∀ w, E w w) (ho : o.op = .slice t x (some lo) (some hi) none) (hg : guardV ops specs a0 o = some true) (hl : argS ops specs a0 lo = .inl vl) (hh : argS ops specs a0 hi = .inl vh)
    (h : ∀ u w, C w → (argS ops specs a0 x).ok u w → ∃ v, (Instr.sliceAt t u (some vl) (some vh) none).run P w = .ok v w ∧ s.ok v w) : GoodOp P ops specs a0 C E o s :=
  good_val hrefl hg fun a w hC hs => by
    obtain ⟨v, h1, h2⟩ := h _ w hC (hs x (by rw [ho]; simp [Op.operands]))
    have h3 := hs hi (by rw [ho]; simp [Op.operands])
    rw [hh] at h3
    have h4 := hs lo (by rw [ho]; simp [Op.operands])
    rw [hl] at h4
    simp only [Spec.ok] at h3 h4
    refine ⟨v, ?_, h2⟩
    unfold execOp
    rw [ho]
    simp only [Option.map_some, Option.map_none, h3, h4, Sem.run_bind, Result.andThen, h1, Sem.run_pure]
end Rg
end Go.Proofs.YtnmonoafjijfhaaGreat
