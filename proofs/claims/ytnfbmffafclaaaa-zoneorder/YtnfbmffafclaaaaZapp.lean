/-
  'append' of cells as one step of a region whose order is open.
-/
import Derived.Test.YtnfbmffafclaaaaFew
import Derived.Deep.RegionLaw
namespace Go.Proofs.Ytnfbmffafclaaaa
open Go.RowKit
set_option linter.unusedVariables false
theorem step_append_cells {ops : Array Oper} {o : Oper} {a : Act} {w : World} {K : Act → World → Prop} {Q : Exit → Act → World → Prop} {E : Prop} (hgd : o.guard = none) (s x : Operand)
    (ho : o.op = .call { callee := .builtin .append, args := #[s, x], argTypes := #[46, 46] }) (base : Nat)
    (v : Value) (xs : List Cel) (hs : a.eval s = v) (hown : OwnC w base v xs) (ad : Addr) (n c : Nat) (l : List Cel) (hx : a.eval x = .slice (some ad) n c) (hn : n = l.length) (hB : RdC w (some ad) c l)
    (h63 : xs.length + l.length ≤ 1000000) (hbase : base ≤ w.heap.size)
    (h : ∀ v' w', OwnC w' base v' (xs ++ l) → w.grownBy w' v.ownBlock → K (a.put o.dst v') w') : if Region.wanted o (yielded ops a.tmps) = true then Oper.wp Try.prog o a w K Q else E := by
  subst hn
  have hw : Region.wanted o (yielded ops a.tmps) = true := by simp [Region.wanted, hgd]
  rw [if_pos hw]
  obtain ⟨i0, hi, hz0, hz1, hz2⟩ := info_parts Try.info52
  refine wp_append_own _ s x 46 ho base 52 i0 _ 4 48 Try.underlying46 hi hz0 hz1 hz2 rfl (by decide) v xs.length (ccs xs) hs hown ad l.length c (ccs l) hx (by rw [ccs_len]) hB.cells (ccs_one l) (by unfold maxLen; omega) (by omega) hbase ?_
  intro v' w' ho' hg' _
  refine h v' w' ?_ hg'
  show w'.ownsRow base 52 4 v' (xs ++ l).length (ccs (xs ++ l))
  rw [ccs_append, List.length_append]
  exact ho'
end Go.Proofs.Ytnfbmffafclaaaa
