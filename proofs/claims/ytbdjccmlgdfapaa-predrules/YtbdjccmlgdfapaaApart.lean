/-
  A list that is appended to, beside another: the other is as it was, if it lies in a block of its own.
-/
import Derived.Test.YtbdjccmlgdfapaaLists
import Derived.Maps.AppendAt
import Derived.Deep.AppendLies
namespace Go.Proofs.Ytbdjccmlgdfapaa
open Go.RowKit
set_option linter.unusedVariables false

section
variable {α : Type} {enc : α → Value} {e : TypeId}
theorem Rd.far {w w' : World} {g off cap : Nat} {l : List α} {row : Option Nat} (h : Rd enc w (some ⟨g, off, none⟩) cap l) (hg : w.grownBy w' row) (hlt : g < w.heap.size) (hne : row ≠ some g) : Rd enc w' (some ⟨g, off, none⟩) cap l := by
  obtain ⟨h1, h2, h3, h4⟩ := h
  refine ⟨h1, h2, h3, fun i x hi => ?_⟩
  obtain ⟨b, o, hbo, hc⟩ := h4 i x hi
  simp only [Option.some.injEq, Addr.mk.injEq] at hbo
  obtain ⟨rfl, rfl, _⟩ := hbo
  exact ⟨g, off, rfl, by rw [hg.cell_far ⟨g, off + i, none⟩ hlt (Ne.symm hne)]; exact hc⟩
/-- 'append(out, l...)', as wpList_append_rd; and where the new slice lies. -/
theorem wpList_append_rd_at {w : World} {ops : Array Oper} {rest : List Oper} {o : Oper} {a : Act} {Q : Exit → Act → World → Prop} (hgd : o.guard = none) (s x : Operand) (t : TypeId)
    (ho : o.op = .call { callee := .builtin .append, args := #[s, x], argTypes := #[t, t] }) (z : α) (by_ : Nat) (ht : Try.prog.underlying t = some (.slice e)) (hinfo : (Try.prog.info? e).map (fun i => (i.zero, i.size, i.bytes)) = some (some (enc z), 1, by_)) (hz : (enc z).cells.size = 1) (hone : ∀ x : α, (enc x).oneCell' = true) (base : Nat)
    (v : Value) (xs : List α) (hs : a.eval s = v) (hown : OwnR e enc w base v xs) (p : Option Addr) (n c : Nat) (l : List α) (hx : a.eval x = .slice p n c) (hn : n = l.length) (hB : Rd enc w p c l)
    (h63 : xs.length + l.length ≤ maxLen) (hby : (xs.length + l.length) * by_ ≤ 140737488355328) (hbase : base ≤ w.heap.size)
    (h : ∀ v' w', OwnR e enc w' base v' (xs ++ l) → w.grownBy w' v.ownBlock → (v'.ownBlock = v.ownBlock ∨ v'.ownBlock = some w.heap.size) → wpList Try.prog ops Q rest (a.put o.dst v') w') : wpList Try.prog ops Q (o :: rest) a w := by
  subst hn
  obtain ⟨i0, hi, hz0, hz1, hz2⟩ := info_parts hinfo
  cases p with
  | none =>
    have hc := hB.2.2.1 rfl
    have hl : l = [] := List.eq_nil_of_length_eq_zero (by have := hB.1; omega)
    subst hl
    subst hc
    refine wpList_append_own_none hgd s x t ho base e i0 1 ht hi v xs.length (xs.map enc) hs hown hx ?_
    exact h v w (by simpa using hown) (World.grownBy.refl w _) (.inl rfl)
  | some ad =>
    refine wpList_append_own_at _ hgd s x t ho base e i0 (enc z) 1 by_ ht hi hz0 hz1 hz2 hz (by decide) v xs.length (xs.map enc) hs hown ad l.length c (l.map enc) hx (by simp) ?_ ?_ h63 hby hbase ?_
    · intro j u hu
      rw [List.getElem?_map] at hu
      obtain ⟨y, hy, rfl⟩ := Option.map_eq_some_iff.1 hu
      obtain ⟨b, off, hbo, hc⟩ := hB.2.2.2 j y hy
      simp at hbo
      subst hbo
      rw [add_none]
      exact hc
    · intro u hu
      obtain ⟨y, _, rfl⟩ := List.mem_map.1 hu
      exact hone y
    · intro v' w' ho' hg' _ hat
      refine h v' w' ?_ hg' hat
      show World.ownsRow _ _ _ _ _ _ _
      rw [List.map_append, List.length_append]
      exact ho'
end
end Go.Proofs.Ytbdjccmlgdfapaa
