/-
  Cells that are read stay as they are where a row in a block of its own is written.
-/
import Derived.Test.YtghnbohplonhoaaKrows
import Derived.Test.YtghnbohplonhoaaSteps
namespace Go.Proofs.Ytghnbohplonhoaa
open Go.RowKit
set_option linter.unusedVariables false
theorem grown_set (w : World) (b i : Nat) (v : Value) : w.grownBy (w.setCell ⟨b, i, none⟩ v) (some b) := by
  refine ⟨rfl, rfl, rfl, by simp, fun k hk hne => ?_⟩
  exact heap_setCell_other w _ k v (by intro e; exact hne (by simpa using e))
/-- No cell of a list of cells lies in a row's block. -/
theorem RdC.off {w : World} {p : Option Addr} {c g : Nat} {l : List Ce} {v : RV} (h : RdC w p c l) (hL : LAt w g v) : 0 < l.length → ∀ b off, p = some ⟨b, off, none⟩ → some g ≠ some b := by
  intro h0 b off hp e
  simp only [Option.some.injEq] at e
  subst e
  obtain ⟨b', off', hp', hc, _⟩ := h.four (i := 0) h0
  rw [hp] at hp'
  simp only [Option.some.injEq, Addr.mk.injEq, and_true] at hp'
  obtain ⟨rfl, rfl⟩ := hp'
  rw [hL.cell] at hc
  simp only [Nat.zero_mul, Nat.add_zero] at hc
  rcases off with _ | _ | _ | off
  · simp [rc] at hc
  · simp [rc] at hc
  · simp [rc, sv] at hc
  · simp [rc] at hc
theorem RdC.lset {w : World} {p : Option Addr} {c g : Nat} {l : List Ce} {v : RV} (h : RdC w p c l) (hL : LAt w g v) (v' : RV) : RdC (lset w g v') p c l := by
  have hne := h.off hL
  exact ((h.far (grown_set w g 0 _) hne).far (grown_set _ g 1 _) hne).far (grown_set _ g 2 _) hne
theorem RdC.set2 {w : World} {p : Option Addr} {c g : Nat} {l : List Ce} {v : RV} (h : RdC w p c l) (hL : LAt w g v) (k : Nat) (u : Value) : RdC (w.setCell ⟨g, k, none⟩ u) p c l :=
  h.far (grown_set w g k u) (h.off hL)
/-- 'out[k:]' of cells. -/
theorem lo23 (a : Option Addr) (n cap j : Nat) (hj : j ≤ n) (hn : n ≤ cap) (hc : cap ≤ 9223372036854775807) : ∃ a', (∀ w, (Instr.sliceAt 23 (.slice a n cap) (some (.int .i64 (j : Int))) none none).run Try.prog w = .ok (.slice a' (n - j) (cap - j)) w) ∧ ∀ w (vs : List Ce), vs.length = n → RdW 4 cc w a cap vs → RdW 4 cc w a' (cap - j) (vs.drop j) := by
  have i0 : (j : Int) ≤ (n : Int) := by omega
  have i1 : (n : Int) ≤ (cap : Int) := by omega
  by_cases h : cap = j
  · refine ⟨a, fun w => ?_, fun w vs hl hr => ?_⟩
    · have hkc : n = j := by omega
      subst h
      subst hkc
      go_simp
    · have : vs.drop j = [] := List.drop_eq_nil_of_le (by omega)
      rw [this, h, Nat.sub_self]
      exact ⟨by simp, by simp [maxLen], fun _ => rfl, fun i x hi => by simp at hi⟩
  · refine ⟨a.map (fun x => x.add (j * 4)), fun w => ?_, fun w vs hl hr => ?_⟩
    · have hne : ¬ cap - j = 0 := by omega
      have hne2 : ¬ cap = j := h
      go_simp
    · cases a with
      | none => have := hr.2.2.1 rfl; omega
      | some ad =>
        cases hv : vs.drop j with
        | nil => exact ⟨by simp, by have := hr.2.1; omega, by simp, fun i x hi => by simp at hi⟩
        | cons y ys =>
          have hlen : 0 < vs.length := by
            cases vs with
            | nil => simp at hv
            | cons _ _ => simp
          obtain ⟨b, off, e, _⟩ := hr.at hlen
          simp at e
          subst e
          rw [← hv]
          have := hr.from j (by omega)
          simpa [add_none] using this
namespace Rg
section
variable {ops : Array Oper} {specs : List Spec} {a0 : Act} {o : Oper} {s : Spec} {ρ : Operand → Value} {w : World}
theorem q_bin {op : BinOp} {t u : TypeId} {x y : Operand} {vx vy v : Value} (ho : o.op = .binOp op t x y u) (hx : argS ops specs a0 x = .inl vx) (hy : argS ops specs a0 y = .inl vy) (hs : s = .inl v) (ha : ∀ x ∈ o.op.operands, (argS ops specs a0 x).ok (ρ x) w) (hq : (eqGuard op t x y vx vy).run Try.prog w = .ok () w) (h : (binOp op t vx vy).run Try.prog w = .ok v w) : ∃ v, (execOp ρ o).run Try.prog w = .ok (.value v) w ∧ s.ok v w := by
  have h1 := ha x (by rw [ho]; simp [Op.operands])
  have h2 := ha y (by rw [ho]; simp [Op.operands])
  rw [hx] at h1
  rw [hy] at h2
  simp only [Spec.ok] at h1 h2
  rw [hs]
  refine ⟨v, ?_, rfl⟩
  unfold execOp
  rw [ho]
  simp only [h1, h2, Sem.run_bind, Result.andThen, hq, h, Sem.run_pure]
theorem q_slice1 {t : TypeId} {x lo : Operand} {vx vl v : Value} (ho : o.op = .slice t x (some lo) none none) (hx : argS ops specs a0 x = .inl vx) (hh : argS ops specs a0 lo = .inl vl) (hs : s = .inl v) (ha : ∀ x ∈ o.op.operands, (argS ops specs a0 x).ok (ρ x) w) (h : (Instr.sliceAt t vx (some vl) none none).run Try.prog w = .ok v w) : ∃ v, (execOp ρ o).run Try.prog w = .ok (.value v) w ∧ s.ok v w := by
  have h1 := ha x (by rw [ho]; simp [Op.operands])
  have h3 := ha lo (by rw [ho]; simp [Op.operands])
  rw [hx] at h1
  rw [hh] at h3
  simp only [Spec.ok] at h1 h3
  rw [hs]
  refine ⟨v, ?_, rfl⟩
  unfold execOp
  rw [ho]
  simp only [Option.map_some, Option.map_none, h1, h3, Sem.run_bind, Result.andThen, h, Sem.run_pure]
end
end Rg
end Go.Proofs.Ytghnbohplonhoaa
