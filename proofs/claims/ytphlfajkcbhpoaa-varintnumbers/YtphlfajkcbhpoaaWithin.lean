/-
  The contract of the statements' own 'Within': a number between two others.
-/
import Derived.Test.YtphlfajkcbhpoaaRuns
import Derived.Laws.AppendOwnNone
namespace Go.Proofs.Ytphlfajkcbhpoaa
open Go.RowKit
set_option linter.unusedVariables false

set_option maxRecDepth 100000 in
theorem within_any (n hi : Int) (w : World) (l1 : -9223372036854775808 ≤ n) (u1 : n ≤ 9223372036854775807) (h0 : 0 ≤ hi) (h1 : hi ≤ 1000000) :
    Calls Try.prog 24 #[.int .i64 n, .int .i64 0, .int .i64 hi] w fun e w' => ∃ r : Nat, (r : Int) ≤ hi ∧ e = .returned (.int .i64 r) ∧ w' = w := by
  have hd : (hi + 1 == 0) = false := by simp; omega
  have hu := Int.tmod_lt_of_pos n (show 0 < hi + 1 by omega)
  have hl := Int.lt_tmod_of_pos n (show 0 < hi + 1 by omega)
  go_enter Try.func24, Try.ntmps24
  go_wp2
  · go_ret
    exact ⟨(n.tmod (hi + 1) + hi + 1).toNat, by omega, I.ret_int (by omega), rfl⟩
  · go_ret
    exact ⟨(n.tmod (hi + 1)).toNat, by omega, I.ret_int (by omega), rfl⟩

/-- 'append(out, b...)', out the call's own, b whatever bytes that can be read, nil or not. -/
theorem wpList_append_byt {w : World} {ops : Array Oper} {rest : List Oper} {o : Oper} {a : Act} {Q : Exit → Act → World → Prop} (hgd : o.guard = none) (s x : Operand)
    (ho : o.op = .call { callee := .builtin .append, args := #[s, x], argTypes := #[22, 22] }) (base : Nat)
    (v : Value) (xs : List UInt8) (hs : a.eval s = v) (hown : Own w base v xs) (p : Option Addr) (n c : Nat) (l : List UInt8) (hx : a.eval x = .slice p n c) (hn : n = l.length) (hB : Byt w p c l)
    (h63 : xs.length + l.length ≤ 140737488355328) (hbase : base ≤ w.heap.size)
    (h : ∀ v' w', Own w' base v' (xs ++ l) → w.grownBy w' v.ownBlock → wpList Try.prog ops Q rest (a.put o.dst v') w') : wpList Try.prog ops Q (o :: rest) a w := by
  subst hn
  obtain ⟨i0, hi, hz0, hz1, hz2⟩ := info_parts Try.info5
  cases p with
  | none =>
    have hc := hB.2.2.1 rfl
    have hl : l = [] := List.eq_nil_of_length_eq_zero (by have := hB.1; omega)
    subst hl
    subst hc
    refine wpList_append_own_none hgd s x 22 ho base 5 i0 1 Try.underlying22 hi v xs.length (cs xs) hs hown hx ?_
    exact h v w (by simpa using hown) (World.grownBy.refl w _)
  | some ad =>
    refine wpList_append_own _ hgd s x 22 ho base 5 i0 (.int .u8 0) 1 1 Try.underlying22 hi hz0 hz1 hz2 rfl (by decide) v xs.length (cs xs) hs hown ad l.length c (cs l) hx (by simp [cs]) ?_ (cs_one l) (by unfold maxLen; omega) (by omega) hbase ?_
    · intro j u hu
      obtain ⟨hj, rfl⟩ := cs_get hu
      obtain ⟨b, off, hbo, hc⟩ := hB.2.2.2 j hj
      simp at hbo
      subst hbo
      rw [add_none]
      exact hc
    · intro v' w' ho' hg' _
      refine h v' w' ?_ hg'
      show w'.ownsRow base 5 1 v' (xs ++ l).length (cs (xs ++ l))
      rw [cs_append, List.length_append]
      exact ho'
/-- '[]byte{}'. -/
theorem own_empty (w : World) (base : Nat) (hb : base ≤ w.heap.size) : Own (w.alloc (.cells #[] 5)) base (.slice (some ⟨w.heap.size, 0, none⟩) 0 0) [] :=
  World.ownsRow_made w #[] 0 hb (by simp [maxLen]) (by simp)
end Go.Proofs.Ytphlfajkcbhpoaa
