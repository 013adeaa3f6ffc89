/-
  A list of cells that a call owns: read, appended to.
-/
import Derived.Test.YtnfbmffafclaaaaCells
namespace Go.Proofs.Ytnfbmffafclaaaa
open Go.RowKit
set_option linter.unusedVariables false
/-- The places of cells, one behind the other. -/
def ccs (l : List Cel) : List Value := l.flatMap cc
theorem ccs_nil : ccs [] = [] := rfl
theorem ccs_cons (c : Cel) (l : List Cel) : ccs (c :: l) = cc c ++ ccs l := rfl
theorem ccs_append (l m : List Cel) : ccs (l ++ m) = ccs l ++ ccs m := by simp [ccs]
theorem cc_len (c : Cel) : (cc c).length = 4 := rfl
theorem ccs_len (l : List Cel) : (ccs l).length = l.length * 4 := by
  induction l with
  | nil => rfl
  | cons c l ih => rw [ccs_cons, List.length_append, ih, cc_len, List.length_cons]; omega
theorem ccs_get : ∀ (l : List Cel) (i j : Nat) (c : Cel), l[i]? = some c → j < 4 → (ccs l)[i * 4 + j]? = (cc c)[j]?
  | [], i, j, c, h, _ => by simp at h
  | d :: l, 0, j, c, h, hj => by
    simp at h
    subst h
    rw [ccs_cons, List.getElem?_append_left (by rw [cc_len]; omega), Nat.zero_mul, Nat.zero_add]
  | d :: l, i + 1, j, c, h, hj => by
    simp at h
    rw [ccs_cons, List.getElem?_append_right (by rw [cc_len]; omega), cc_len, ← ccs_get l i j c h hj]
    congr 1
    omega
theorem ccs_one (l : List Cel) : ∀ u ∈ ccs l, u.oneCell' = true := by
  intro u hu
  obtain ⟨c, _, hc⟩ := List.mem_flatMap.1 hu
  simp only [cc, List.mem_cons, List.not_mem_nil, or_false] at hc
  rcases hc with rfl | rfl | rfl | rfl <;> rfl
theorem ccs_inv : ∀ (l : List Cel) (j : Nat) (u : Value), (ccs l)[j]? = some u → ∃ i k c, j = i * 4 + k ∧ k < 4 ∧ l[i]? = some c ∧ (cc c)[k]? = some u
  | [], j, u, h => by simp [ccs] at h
  | d :: l, j, u, h => by
    by_cases hj : j < 4
    · rw [ccs_cons, List.getElem?_append_left (by rw [cc_len]; omega)] at h
      exact ⟨0, j, d, by omega, hj, rfl, h⟩
    · rw [ccs_cons, List.getElem?_append_right (by rw [cc_len]; omega), cc_len] at h
      obtain ⟨i, k, c, h1, h2, h3, h4⟩ := ccs_inv l (j - 4) u h
      exact ⟨i + 1, k, c, by omega, h2, by simpa using h3, h4⟩
/-- A slice value owns the cells l. -/
def OwnC (w : World) (base : Nat) (v : Value) (l : List Cel) : Prop := w.ownsRow base 52 4 v l.length (ccs l)
theorem ownC_none (w : World) (base : Nat) : OwnC w base (.slice none 0 0) [] := World.ownsRow_nil w base 52 4
theorem RdC.of_cells {w : World} {b off cap : Nat} {l : List Cel} (h1 : l.length ≤ cap) (h2 : cap ≤ maxLen) (h : ∀ j u, (ccs l)[j]? = some u → w.cell? ⟨b, off + j, none⟩ = some u) : RdC w (some ⟨b, off, none⟩) cap l := by
  refine ⟨h1, h2, by simp, fun i c hi => ⟨b, off, rfl, ?_, ?_, ?_, ?_⟩⟩
  · have := h (i * 4 + 0) _ (ccs_get l i 0 c hi (by omega)); simpa using this
  · have := h (i * 4 + 1) _ (ccs_get l i 1 c hi (by omega)); rw [← Nat.add_assoc] at this; exact this
  · have := h (i * 4 + 2) _ (ccs_get l i 2 c hi (by omega)); rw [← Nat.add_assoc] at this; exact this
  · have := h (i * 4 + 3) _ (ccs_get l i 3 c hi (by omega)); rw [← Nat.add_assoc] at this; exact this
theorem RdC.cells {w : World} {ad : Addr} {cap : Nat} {l : List Cel} (h : RdC w (some ad) cap l) : ∀ j u, (ccs l)[j]? = some u → w.cell? (ad.add j) = some u := by
  intro j u hu
  obtain ⟨i, k, c, rfl, hk, hc, hcu⟩ := ccs_inv l j u hu
  obtain ⟨b, off, e, e0, e1, e2, e3⟩ := h.2.2.2 i c hc
  simp only [Option.some.injEq] at e
  subst e
  rw [add_none, ← Nat.add_assoc]
  match k, hk with
  | 0, _ => simp [cc] at hcu; subst hcu; exact e0
  | 1, _ => simp [cc] at hcu; subst hcu; exact e1
  | 2, _ => simp [cc] at hcu; subst hcu; exact e2
  | 3, _ => simp [cc] at hcu; subst hcu; exact e3
theorem OwnC.rd {w : World} {base : Nat} {v : Value} {l : List Cel} (h : OwnC w base v l) : ∃ a cap, v = .slice a l.length cap ∧ RdC w a cap l := by
  have h' := h
  obtain ⟨h1, h2⟩ := h
  rcases h2 with ⟨rfl, h0⟩ | ⟨g, cap, cur, rfl, hb, hg, hlc, hcm, hsz, htake⟩
  · have : l = [] := List.eq_nil_of_length_eq_zero h0
    subst this
    exact ⟨none, 0, rfl, RdC.nil w⟩
  · refine ⟨some ⟨g, 0, none⟩, cap, rfl, RdC.of_cells hlc hcm fun j u hu => ?_⟩
    have hc := World.ownsRow.cells h' (g := g) rfl j u hu
    rw [add_none] at hc
    exact hc
theorem OwnC.later {w w' : World} {base : Nat} {v : Value} {l : List Cel} (h : OwnC w base v l) (hx : Ex w w') : OwnC w' base v l := by
  obtain ⟨h1, h2⟩ := h
  refine ⟨h1, ?_⟩
  rcases h2 with h2 | ⟨g, cap, cur, hv, hb, hg, r⟩
  · exact .inl h2
  · exact .inr ⟨g, cap, cur, hv, hb, by rw [hx.block g (Array.getElem?_eq_some_iff.1 hg).1]; exact hg, r⟩
theorem OwnC.alloc {w : World} {base : Nat} {v : Value} {l : List Cel} (h : OwnC w base v l) (o : Obj) : OwnC (w.alloc o) base v l := World.ownsRow.alloc h o
theorem OwnC.mono {w : World} {base base' : Nat} {v : Value} {l : List Cel} (h : OwnC w base v l) (hb : base' ≤ base) : OwnC w base' v l := by
  obtain ⟨h1, h2⟩ := h
  refine ⟨h1, ?_⟩
  rcases h2 with h2 | ⟨g, cap, cur, hv, hb', r⟩
  · exact .inl h2
  · exact .inr ⟨g, cap, cur, hv, by omega, r⟩
theorem ownC_empty (w : World) (base : Nat) (hb : base ≤ w.heap.size) : OwnC (w.alloc (.cells #[] 52)) base (.slice (some ⟨w.heap.size, 0, none⟩) 0 0) [] :=
  World.ownsRow_made w #[] 0 hb (by simp [maxLen]) (by simp)
theorem step_belowC {base : Nat} {w wr w1 : World} {v : Value} {l : List Cel} (hbel : Below base w wr) (hsz : base ≤ wr.heap.size) (hown : OwnC wr base v l) (hg : wr.grownBy w1 v.ownBlock) : Below base w w1 :=
  hbel.grown hg hsz (fun k hk => (World.ownsRow.lt hown k hk).1)
/-- Cells that are written out. -/
theorem RdC.laid (w : World) (l : List Cel) (hl : l.length ≤ 1000) : RdC (w.alloc (.cells (ccs l).toArray 52)) (some ⟨w.heap.size, 0, none⟩) l.length l :=
  RdC.of_cells (Nat.le_refl _) (by unfold maxLen; omega) fun j u hu => by
    rw [cell_of_row _ w.heap.size (0 + j) _ 52 (0, 0) (heap_alloc_new w _), Nat.zero_add, List.getElem?_toArray]
    exact hu
theorem Try.info52 : (Try.prog.info? 52).map (fun i => (i.zero, i.size, i.bytes)) = some (some (.agg #[.string ⟨#[]⟩, .int .i64 0, .int .i64 0, .string ⟨#[]⟩]), 4, 48) := by kernel_rfl
/-- 'append(out, l...)', out the call's own, l whatever cells that can be read, nil or not. -/
theorem wpList_append_cells {w : World} {ops : Array Oper} {rest : List Oper} {o : Oper} {a : Act} {Q : Exit → Act → World → Prop} (hgd : o.guard = none) (s x : Operand)
    (ho : o.op = .call { callee := .builtin .append, args := #[s, x], argTypes := #[46, 46] }) (base : Nat)
    (v : Value) (xs : List Cel) (hs : a.eval s = v) (hown : OwnC w base v xs) (p : Option Addr) (n c : Nat) (l : List Cel) (hx : a.eval x = .slice p n c) (hn : n = l.length) (hB : RdC w p c l)
    (h63 : xs.length + l.length ≤ 1000000) (hbase : base ≤ w.heap.size)
    (h : ∀ v' w', OwnC w' base v' (xs ++ l) → w.grownBy w' v.ownBlock → wpList Try.prog ops Q rest (a.put o.dst v') w') : wpList Try.prog ops Q (o :: rest) a w := by
  subst hn
  obtain ⟨i0, hi, hz0, hz1, hz2⟩ := info_parts Try.info52
  cases p with
  | none =>
    have hc := hB.2.2.1 rfl
    have hl : l = [] := List.eq_nil_of_length_eq_zero (by have := hB.1; omega)
    subst hl
    subst hc
    refine wpList_append_own_none hgd s x 46 ho base 52 i0 4 Try.underlying46 hi v xs.length (ccs xs) hs hown hx ?_
    exact h v w (by simpa using hown) (World.grownBy.refl w _)
  | some ad =>
    refine wpList_append_own _ hgd s x 46 ho base 52 i0 _ 4 48 Try.underlying46 hi hz0 hz1 hz2 rfl (by decide) v xs.length (ccs xs) hs hown ad l.length c (ccs l) hx (by rw [ccs_len]) hB.cells (ccs_one l) (by unfold maxLen; omega) (by omega) hbase ?_
    intro v' w' ho' hg' _
    refine h v' w' ?_ hg'
    show w'.ownsRow base 52 4 v' (xs ++ l).length (ccs (xs ++ l))
    rw [ccs_append, List.length_append]
    exact ho'
end Go.Proofs.Ytnfbmffafclaaaa
