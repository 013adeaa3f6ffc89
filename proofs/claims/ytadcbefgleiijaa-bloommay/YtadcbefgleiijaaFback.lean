/-
  What is written of a filter is read; what is read is what was written.
-/
import Derived.Test.YtadcbefgleiijaaKnown
import Derived.Deep.DeepAppendWide
namespace Go.Proofs.Ytadcbefgleiijaa
open Go.RowKit
set_option linter.unusedVariables false
theorem wpList_append_byt2 {w : World} {ops : Array Oper} {rest : List Oper} {o : Oper} {a : Act} {Q : Exit → Act → World → Prop} (hgd : o.guard = none) (s x : Operand)
    (ho : o.op = .call { callee := .builtin .append, args := #[s, x], argTypes := #[23, 23] }) (base : Nat)
    (v : Value) (xs : List UInt8) (hs : a.eval s = v) (hown : Own w base v xs) (p : Option Addr) (n c : Nat) (l : List UInt8) (hx : a.eval x = .slice p n c) (hn : n = l.length) (hB : Byt w p c l)
    (h63 : xs.length + l.length ≤ 200000000000000) (hbase : base ≤ w.heap.size)
    (h : ∀ v' w', Own w' base v' (xs ++ l) → w.grownBy w' v.ownBlock → wpList Try.prog ops Q rest (a.put o.dst v') w') : wpList Try.prog ops Q (o :: rest) a w := by
  subst hn
  obtain ⟨i0, hi, hz0, hz1, hz2⟩ := info_parts Try.info5
  cases p with
  | none =>
    have hc := hB.2.2.1 rfl
    have hl : l = [] := List.eq_nil_of_length_eq_zero (by have := hB.1; omega)
    subst hl
    subst hc
    refine wpList_append_own_none hgd s x 23 ho base 5 i0 1 Try.underlying23 hi v xs.length (cs xs) hs hown hx ?_
    exact h v w (by simpa using hown) (World.grownBy.refl w _)
  | some ad =>
    refine wpList_append_own_wide _ hgd s x 23 ho base 5 i0 (.int .u8 0) 1 1 Try.underlying23 hi hz0 hz1 hz2 rfl (by decide) v xs.length (cs xs) hs hown ad l.length c (cs l) hx (by simp [cs]) ?_ (cs_one l) (by unfold maxLen; omega) (by omega) hbase ?_
    · intro j u hu
      obtain ⟨hj, rfl⟩ := cs_get hu
      obtain ⟨b, off, hbo, hc⟩ := hB.2.2.2 j hj
      simp at hbo
      subst hbo
      rw [add_none]
      exact hc
    · intro v' w' ho' hg' _
      refine h v' w' ?_ hg'
      show w'.ownsRow base 5 1 v' (xs ++ l).length (cs (xs ++ l))
      rw [cs_append, List.length_append]
      exact ho'

theorem load_filI {w9 : World} {g n cap : Nat} {k : Int} {a : Option Addr} {t : TypeId} (ht : t = 25 ∨ t = 27) (h : FAt w9 g k (.slice a n cap) t) : (Instr.loadAt t (.pointer (some ⟨g, 0, none⟩))).run Try.prog w9 = .ok (fv k (.slice a n cap)) w9 := by
  obtain ⟨c0, c1⟩ := h.all
  clear h
  rcases ht with rfl | rfl
  · simp [go_sem, fv, c0, c1]
  · simp [go_sem, fv, c0, c1]
theorem ex_row {f : FuncId} {args : Array Value} {wx w1 : World} {v : Value} (h : Calls Try.prog f args wx fun e w' => e = .returned v ∧ Ex wx w') (hC : Ex w1 wx) :
    Calls Try.prog f args wx (fun e w' => ∃ u, e = .returned u ∧ Rg.Spec.ok (.inl v) u w' ∧ Ex wx w' ∧ Ex w1 w') :=
  h.mono fun e w' ⟨h1, h2⟩ => ⟨v, h1, rfl, h2, hC.trans h2⟩
theorem run_strs2 {o : Oper} (ρ : Operand → Value) (w : World) (x y : Operand) (s t : List UInt8) (ho : o.op = .buildSlice 22 2 #[(0, x), (1, y)]) (h1 : ρ x = .string (str s)) (h2 : ρ y = .string (str t)) :
    (execOp ρ o).run Try.prog w = .ok (.value (.slice (some ⟨w.heap.size, 0, none⟩) 2 2)) (w.alloc (.cells #[.string (str s), .string (str t)] 9)) := by
  simp [execOp, ho, h1, h2, go_sem]
theorem Rg.good_strs2 {ops : Array Oper} {specs : List Rg.Spec} {a0 : Act} {w1 : World} {o : Oper} {x y : Operand} {s t : List UInt8} (ho : o.op = .buildSlice 22 2 #[(0, x), (1, y)]) (hg : Rg.guardV ops specs a0 o = some true)
    (hx : Rg.argS ops specs a0 x = .inl (st s)) (hy : Rg.argS ops specs a0 y = .inl (st t)) : Rg.GoodOp Try.prog ops specs a0 (Ex w1) Ex o (.inr (IsRd st [s, t])) :=
  Rg.good_of hg fun Q a w hC hs => by
    have h1 := hs x (by rw [ho]; simp [Op.operands])
    have h2 := hs y (by rw [ho]; simp [Op.operands])
    rw [hx] at h1
    rw [hy] at h2
    have h1' : a.eval x = .string (str s) := h1
    have h2' : a.eval y = .string (str t) := h2
    have hr := run_strs2 a.eval w x y s t ho h1' h2'
    have hx' : Ex w (w.alloc (.cells #[.string (str s), .string (str t)] 9)) := (Below.refl _ _).alloc (Nat.le_refl _) _
    unfold Oper.wp
    rw [hr]
    exact ⟨_, rfl, ⟨_, 2, rfl, Rd.laid (enc := st) w 9 [s, t] (by simp)⟩, hx', hC.trans hx'⟩
namespace Fl
theorem right_div {k : Int} {n : Nat} (h : rightB k n = true) : ∃ m : Nat, k = (m : Int) ∧ 64 ≤ m ∧ m ≤ 65536 ∧ n = m / 8 ∧ rightB k (m / 8) = true := by
  obtain ⟨m, hm, h1, h2⟩ := right_iff.1 h
  have hb := hm.bounds
  exact ⟨m, h1, hb.1, hb.2.1, h2, by rw [← h2]; exact h⟩
theorem dec_enc (l B r : List UInt8) {m : Nat} (h : rightB (m : Int) B.length = true) : decE (l ++ M.digs m ++ (B ++ r)) (l.length : Int) = (m, B, l.length + (M.digs m).length + B.length, 0) := by
  obtain ⟨m', e, h1, h2, h3, h4⟩ := right_div h
  have e' : m' = m := by omega
  subst e'
  have hg := M.get_digs (n := m') (by omega) l (B ++ r)
  unfold decE
  rw [hg]
  simp only [ne_eq, not_true_eq_false, if_false]
  rw [if_neg (by rw [h4]; simp), if_neg (by simp; omega)]
  have e1 : (l ++ M.digs m' ++ (B ++ r)).drop (l.length + (M.digs m').length) = B ++ r := by
    rw [show l.length + (M.digs m').length = (l ++ M.digs m').length from by simp, List.drop_left]
  rw [e1, ← h3, List.take_left]
theorem dec_ok {b x : List UInt8} {N k : Nat} (h : decE b 0 = (N, x, k, 0)) : rightB (N : Int) x.length = true ∧ M.digs N ++ x = b.take k ∧ k ≤ b.length ∧ x.length ≤ 8192 := by
  unfold decE at h
  obtain ⟨⟨N1, k1, e1⟩, hg⟩ : ∃ z, M.get b 0 = z := ⟨_, rfl⟩
  rw [hg] at h
  simp only at h
  split at h
  · rename_i he
    simp only [Prod.mk.injEq] at h
    exact absurd h.2.2.2 he
  · rename_i he
    split at h
    · simp at h
    · rename_i hR
      split at h
      · simp at h
      · rename_i hl
        simp only [Prod.mk.injEq] at h
        obtain ⟨rfl, rfl, rfl, _⟩ := h
        have he0 : e1 = 0 := by simpa using he
        rw [he0] at hg
        obtain ⟨g1, g2, g3⟩ := M.get_back hg
        have hR' : rightB (N1 : Int) (N1 / 8) = true := by simpa using hR
        obtain ⟨m, hm1, hm2, hm3, _, _⟩ := right_div hR'
        have hlen : ((b.drop k1).take (N1 / 8)).length = N1 / 8 := by simp; omega
        refine ⟨by rw [hlen]; exact hR', ?_, by omega, by rw [hlen]; omega⟩
        rw [g3, List.take_add]
end Fl
end Go.Proofs.Ytadcbefgleiijaa
