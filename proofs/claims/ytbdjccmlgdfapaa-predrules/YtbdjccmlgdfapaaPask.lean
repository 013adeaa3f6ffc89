/-
  What the statements ask of Eval: predicates that are cut, or laid out; a variable for a predicate in a region whose order is open.
-/
import Derived.Test.YtbdjccmlgdfapaaPopen
namespace Go.Proofs.Ytbdjccmlgdfapaa
open Go.RowKit
set_option linter.unusedVariables false
set_option linter.unusedSimpArgs false
namespace Pd
theorem fit_of {p : Pr} (h1 : deep p ≤ 50) (h2 : size p ≤ 5000) : fit p 50 5000 = true := by unfold fit; simp [h1, h2]
theorem fit_bare (h : Hd) : fit (Pr.mk' h []) 50 5000 = true := fit_of (by rw [deep_mk]; simp) (by rw [size_mk]; simp)
theorem deep_two (k : Int) (p q : Pr) : deep (Pr.mk' (hk k) [p, q]) ≤ max (deep p) (deep q) + 1 := by rw [deep_mk]; simp
theorem size_two (k : Int) (p q : Pr) : size (Pr.mk' (hk k) [p, q]) = 1 + (size p + size q) := by rw [size_mk]; simp
theorem fine_bare {k : Int} {c : List UInt8} {n m : Int} {s : List UInt8} (h1 : In64 k) (h2 : In64 n) (h3 : In64 m) (h4 : c.length ≤ 1000) (h5 : s.length ≤ 1000) : Fine (Pr.mk' ⟨k, c, n, m, s, []⟩ []) := by
  rw [fine_mk]
  exact ⟨⟨h1, h2, h3, h4, h5, by simp, by simp⟩, by simp, by simp⟩
end Pd
theorem ev_is (p : Pr) (r : Rw) (v : PV) (rv : RV) (w : World) (hL : Pd.Lay (fun _ => True) p w v) (hF : Pd.Fine p) (hr : RvOk w rv r) (hrs : ∀ c ∈ r.c, c.s.length ≤ maxLen) (hf : Pd.fit p 50 5000 = true) (o : Bool) (ho : Pd.ev r p = o) :
    Calls Try.prog 15 #[pvv v, rvv rv] w fun e w' => e = .returned (.bool o) ∧ Ex w w' := eval_is p r v rv w hL hF hr hrs o (by rw [hf, ho, Bool.true_and])
theorem tame_short (r : Rw) (q : Int) : ∀ c ∈ (Rw.tame r q).c, c.s.length ≤ maxLen := fun c hc => by
  have := (Rw.tms_s r.c 4 c hc).1
  unfold maxLen
  omega
/-- A new variable for a predicate. -/
def IsNew (base : Nat) (v : Value) (w : World) : Prop := ∃ g, v = .pointer (some ⟨g, 0, none⟩) ∧ base ≤ g ∧ PAt w g PV.zero
theorem IsNew.stands (base : Nat) : ∀ v w w', IsNew base v w → Ex w w' → IsNew base v w' := by
  rintro v w w' ⟨g, rfl, h0, h1⟩ hx
  exact ⟨g, rfl, h0, h1.below hx⟩
set_option maxHeartbeats 1000000 in
theorem run_alloc25 {o : Oper} (ρ : Operand → Value) (w : World) (ho : o.op = .alloc 25) : (execOp ρ o).run Try.prog w = .ok (.value (.pointer (some ⟨w.heap.size, 0, none⟩))) (w.alloc pb0) := by
  simp [execOp, ho, go_sem]
theorem Rg.good_alloc25 {ops : Array Oper} {specs : List Rg.Spec} {a0 : Act} {w1 : World} {o : Oper} (ho : o.op = .alloc 25) (hg : Rg.guardV ops specs a0 o = some true) : Rg.GoodOp Try.prog ops specs a0 (Ex w1) Ex o (.inr (IsNew w1.heap.size)) :=
  Rg.good_of hg fun Q a w hC hs => by
    have hX : Ex w (w.alloc pb0) := (Below.refl _ _).alloc (Nat.le_refl _) _
    exact Rg.Fr.wp_val (run_alloc25 _ w ho) ⟨_, rfl, ⟨w.heap.size, rfl, hC.size, PAt.new w PV.zero⟩, hX, hC.trans hX⟩
end Go.Proofs.Ytbdjccmlgdfapaa
