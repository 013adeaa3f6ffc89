/-
  The statements' own null, nots, known; the books' Everything. The statements' own known.
-/
import Derived.Test.YtibnhjfeepdddaaM24
import Derived.Test.YtibnhjfeepdddaaM26
import Derived.Test.YtibnhjfeepdddaaM29
namespace Go.Proofs.Ytibnhjfeepdddaa
open Go.RowKit
set_option linter.unusedVariables false
set_option linter.unusedSimpArgs false
/-- A part without Kids or texts, as it lies. -/
theorem lay_bare (B : Nat → Prop) (w : World) (k : Int) (c : List UInt8) (n m : Int) (s : List UInt8) : Pd.Lay B (Pr.mk' ⟨k, c, n, m, s, []⟩ []) w ⟨k, c, n, m, s, (none, 0, 0), none, 0, 0⟩ := by
 rw [Pd.lay_mk]
 exact ⟨⟨⟨rfl, rfl, rfl, rfl, rfl⟩, rfl, Rd.nil _, fun h0 => by simp at h0⟩, rfl, fun h0 => by simp at h0, [], RdW.nil _, Pd.Lays.nil _ _⟩
set_option maxHeartbeats 4000000 in
set_option maxRecDepth 100000 in
theorem every_is (w : World) : Calls Try.prog 13 #[] w fun e w' => ∃ u, e = .returned (pvv u) ∧ Pd.Lay (fun b => w.heap.size ≤ b) (Pr.mk' (Pd.hk 1) []) w' u ∧ Ex w w' := by
 go_enter Try.func13, Try.ntmps13
 go_wp2_with fail
 refine bodyPost_ret (v := pvv ⟨1, [], 0, 0, [], (none, 0, 0), none, 0, 0⟩) ?_ rfl ⟨_, rfl, lay_bare _ _ _ _ _ _ _, by (repeat' (first | exact Below.refl _ _ | refine Below.alloc ?_ (by simp <;> omega) _))⟩
 simp [results, Try.results13, go_sem, pvv, sv, str]
end Go.Proofs.Ytibnhjfeepdddaa
namespace Go.Proofs.Ytibnhjfeepdddaa
open Go.RowKit
set_option linter.unusedVariables false
set_option linter.unusedSimpArgs false
namespace Pd
/-- A predicate that the callees bear, one about the other. -/
theorem fine_hk (k : Int) (hk' : In64 k) {l : List Pr} (h1 : l.length ≤ 1000) (h : ∀ x ∈ l, Fine x) : Fine (Pr.mk' (hk k) l) := by
 rw [fine_mk]
 exact ⟨⟨hk', ⟨by simp [hk], by simp [hk]⟩, ⟨by simp [hk], by simp [hk]⟩, by simp [hk], by simp [hk], by simp [hk], by simp [hk]⟩, h1, h⟩
end Pd
set_option maxHeartbeats 1000000 in
theorem run_bk {o : Oper} (ρ : Operand → Value) (w : World) (x : Operand) (K : Int) (a : Option Addr) (n c : Nat) (ho : o.op = .build 40 #[(0, .const (.int .i64 K)), (6, x)]) (hc : ρ (.const (.int .i64 K)) = .int .i64 K) (hx : ρ x = .slice a n c) : (execOp ρ o).run Try.prog w = .ok (.value (pvv ⟨K, [], 0, 0, [], (none, 0, 0), a, n, c⟩)) w := by
 simp [execOp, ho, hx, hc, go_sem, pvv, sv, str]
end Go.Proofs.Ytibnhjfeepdddaa
