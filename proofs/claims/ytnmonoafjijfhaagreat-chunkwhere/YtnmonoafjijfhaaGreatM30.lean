/-
  Slices whose elements are structs of k places each: read, cut, laid, owned, appended to. No function of the program here. A call's own elements: one place written, some cut off. Slices of slices, whatever the inner elements are (one cell each): read and appended to. No function of the program here.
-/
import Derived.Test.YtnmonoafjijfhaaGreatM22
import Derived.Test.YtnmonoafjijfhaaGreatM09
namespace Go.Proofs.YtnmonoafjijfhaaGreat
open Go.RowKit
set_option linter.unusedVariables false
set_option linter.unusedSimpArgs false
/-- A slice reads as the elements l, each of which is laid in k places. -/
def RdW {α : Type} (k : Nat) (fl : α → List Value) (w : World) (a : Option Addr) (cap : Nat) (l : List α) : Prop :=
  l.length ≤ cap ∧ cap ≤ maxLen ∧ (a = none → cap = 0) ∧ ∀ i x, l[i]? = some x → ∃ b off, a = some ⟨b, off, none⟩ ∧ ∀ j u, (fl x)[j]? = some u → w.cell? ⟨b, off + i * k + j, none⟩ = some u
/-- The places of elements, one behind the other. -/
def flat {α : Type} (fl : α → List Value) (l : List α) : List Value := l.flatMap fl
section
variable {α : Type} {k : Nat} {fl : α → List Value}
theorem RdW.nil (w : World) : RdW k fl w none 0 [] := ⟨by simp, by simp [maxLen], fun _ => rfl, fun i x hi => by simp at hi⟩
theorem RdW.empty {w : World} {a : Option Addr} {cap : Nat} {l : List α} (h : RdW k fl w a cap l) : RdW k fl w a cap [] := ⟨by simp, h.2.1, h.2.2.1, fun i x hi => by simp at hi⟩
theorem RdW.at {w : World} {a : Option Addr} {cap : Nat} {l : List α} (h : RdW k fl w a cap l) {i : Nat} (hi : i < l.length) : ∃ b off, a = some ⟨b, off, none⟩ ∧ ∀ j u, (fl l[i])[j]? = some u → w.cell? ⟨b, off + i * k + j, none⟩ = some u :=
  h.2.2.2 i _ (List.getElem?_eq_getElem hi)
theorem RdW.below {w w' : World} {a : Option Addr} {cap : Nat} {l : List α} (h : RdW k fl w a cap l) (hb : Below w.heap.size w w') : RdW k fl w' a cap l := by
  obtain ⟨h1, h2, h3, h4⟩ := h
  refine ⟨h1, h2, h3, fun i x hi => ?_⟩
  obtain ⟨b, off, rfl, hc⟩ := h4 i x hi
  refine ⟨b, off, rfl, fun j u hu => ?_⟩
  have h := hc j u hu
  rw [hb.cell (p := ⟨b, off + i * k + j, none⟩) (World.block_lt_of_cell? w _ h)]
  exact h
theorem RdW.take {w : World} {a : Option Addr} {cap : Nat} {l : List α} (h : RdW k fl w a cap l) (n : Nat) : RdW k fl w a cap (l.take n) := by
  obtain ⟨h1, h2, h3, h4⟩ := h
  refine ⟨by simp; omega, h2, h3, fun i x hi => ?_⟩
  rw [List.getElem?_take] at hi
  split at hi
  · exact h4 i x hi
  · cases hi
theorem RdW.from {w : World} {b off cap : Nat} {l : List α} (h : RdW k fl w (some ⟨b, off, none⟩) cap l) (n : Nat) (hn : n ≤ l.length) : RdW k fl w (some ⟨b, off + n * k, none⟩) (cap - n) (l.drop n) := by
  obtain ⟨h1, h2, h3, h4⟩ := h
  refine ⟨by simp; omega, by omega, by simp, fun i x hi => ?_⟩
  rw [List.getElem?_drop] at hi
  obtain ⟨b', off', e, hc⟩ := h4 (n + i) x hi
  simp only [Option.some.injEq, Addr.mk.injEq, and_true] at e
  obtain ⟨rfl, rfl⟩ := e
  refine ⟨b, off + n * k, rfl, fun j u hu => ?_⟩
  have h := hc j u hu
  rw [Nat.add_mul] at h
  rw [show off + n * k + i * k + j = off + (n * k + i * k) + j by omega]
  exact h
/-- Far from a block that has grown. -/
theorem RdW.far {w w' : World} {a : Option Addr} {cap : Nat} {l : List α} {row : Option Nat} (h : RdW k fl w a cap l) (hg : w.grownBy w' row) (ha : 0 < l.length → ∀ b off, a = some ⟨b, off, none⟩ → row ≠ some b) : RdW k fl w' a cap l := by
  obtain ⟨h1, h2, h3, h4⟩ := h
  refine ⟨h1, h2, h3, fun i x hi => ?_⟩
  obtain ⟨b, off, rfl, hc⟩ := h4 i x hi
  refine ⟨b, off, rfl, fun j u hu => ?_⟩
  have hil := (List.getElem?_eq_some_iff.1 hi).1
  have hne := ha (by omega) b off rfl
  have h := hc j u hu
  rw [hg.cell_far ⟨b, off + i * k + j, none⟩ (World.block_lt_of_cell? w _ h) (Ne.symm hne)]
  exact h
theorem flat_cons (x : α) (l : List α) : flat fl (x :: l) = fl x ++ flat fl l := rfl
theorem flat_append (l m : List α) : flat fl (l ++ m) = flat fl l ++ flat fl m := by simp [flat]
theorem flat_len (hk : ∀ x, (fl x).length = k) (l : List α) : (flat fl l).length = l.length * k := by
  induction l with
  | nil => simp [flat]
  | cons x l ih => rw [flat_cons, List.length_append, ih, hk, List.length_cons, Nat.add_mul]; omega
theorem flat_get (hk : ∀ x, (fl x).length = k) : ∀ (l : List α) (i j : Nat) (x : α), l[i]? = some x → j < k → (flat fl l)[i * k + j]? = (fl x)[j]?
  | [], i, j, c, h, _ => by simp at h
  | d :: l, 0, j, c, h, hj => by
    simp at h
    subst h
    rw [flat_cons, List.getElem?_append_left (by rw [hk]; omega), Nat.zero_mul, Nat.zero_add]
  | d :: l, i + 1, j, c, h, hj => by
    simp at h
    rw [flat_cons, List.getElem?_append_right (by rw [hk, Nat.add_mul]; omega), hk, ← flat_get hk l i j c h hj]
    congr 1
    rw [Nat.add_mul]; omega
theorem flat_inv (hk : ∀ x, (fl x).length = k) : ∀ (l : List α) (j : Nat) (u : Value), (flat fl l)[j]? = some u → ∃ i m x, j = i * k + m ∧ m < k ∧ l[i]? = some x ∧ (fl x)[m]? = some u
  | [], j, u, h => by simp [flat] at h
  | d :: l, j, u, h => by
    by_cases hj : j < k
    · rw [flat_cons, List.getElem?_append_left (by rw [hk]; omega)] at h
      exact ⟨0, j, d, by omega, hj, rfl, h⟩
    · rw [flat_cons, List.getElem?_append_right (by rw [hk]; omega), hk] at h
      obtain ⟨i, m, c, h1, h2, h3, h4⟩ := flat_inv hk l (j - k) u h
      exact ⟨i + 1, m, c, by rw [Nat.add_mul]; omega, h2, by simpa using h3, h4⟩
theorem RdW.of_cells (hk : ∀ x, (fl x).length = k) {w : World} {b off cap : Nat} {l : List α} (h1 : l.length ≤ cap) (h2 : cap ≤ maxLen) (h : ∀ j u, (flat fl l)[j]? = some u → w.cell? ⟨b, off + j, none⟩ = some u) : RdW k fl w (some ⟨b, off, none⟩) cap l := by
  refine ⟨h1, h2, by simp, fun i x hi => ⟨b, off, rfl, fun j u hu => ?_⟩⟩
  have hj : j < k := by rw [← hk x]; exact (List.getElem?_eq_some_iff.1 hu).1
  have := h (i * k + j) u (by rw [flat_get hk l i j x hi hj]; exact hu)
  rw [← Nat.add_assoc] at this
  exact this
theorem RdW.cells (hk : ∀ x, (fl x).length = k) {w : World} {ad : Addr} {cap : Nat} {l : List α} (h : RdW k fl w (some ad) cap l) : ∀ j u, (flat fl l)[j]? = some u → w.cell? (ad.add j) = some u := by
  intro j u hu
  obtain ⟨i, m, c, rfl, hm, hc, hcu⟩ := flat_inv hk l j u hu
  obtain ⟨b, off, e, e0⟩ := h.2.2.2 i c hc
  simp only [Option.some.injEq] at e
  subst e
  rw [add_none, ← Nat.add_assoc]
  exact e0 m u hcu
/-- A slice value owns the elements l (t: their type). -/
def OwnW (t : TypeId) (k : Nat) (fl : α → List Value) (w : World) (base : Nat) (v : Value) (l : List α) : Prop := w.ownsRow base t k v l.length (flat fl l)
variable {t : TypeId}
theorem ownW_none (w : World) (base : Nat) : OwnW t k fl w base (.slice none 0 0) [] := World.ownsRow_nil w base t k
theorem OwnW.rd (hk : ∀ x, (fl x).length = k) {w : World} {base : Nat} {v : Value} {l : List α} (h : OwnW t k fl w base v l) : ∃ a cap, v = .slice a l.length cap ∧ RdW k fl w a cap l := by
  have h' := h
  obtain ⟨h1, h2⟩ := h
  rcases h2 with ⟨rfl, h0⟩ | ⟨g, cap, cur, rfl, hb, hg, hlc, hcm, hsz, htake⟩
  · have : l = [] := List.eq_nil_of_length_eq_zero h0
    subst this
    exact ⟨none, 0, rfl, RdW.nil w⟩
  · refine ⟨some ⟨g, 0, none⟩, cap, rfl, RdW.of_cells hk hlc hcm fun j u hu => ?_⟩
    have hc := World.ownsRow.cells h' (g := g) rfl j u hu
    rw [add_none] at hc
    exact hc
theorem OwnW.later {w w' : World} {base : Nat} {v : Value} {l : List α} (h : OwnW t k fl w base v l) (hx : Ex w w') : OwnW t k fl w' base v l := by
  obtain ⟨h1, h2⟩ := h
  refine ⟨h1, ?_⟩
  rcases h2 with h2 | ⟨g, cap, cur, hv, hb, hg, r⟩
  · exact .inl h2
  · exact .inr ⟨g, cap, cur, hv, hb, by rw [hx.block g (Array.getElem?_eq_some_iff.1 hg).1]; exact hg, r⟩
theorem OwnW.alloc {w : World} {base : Nat} {v : Value} {l : List α} (h : OwnW t k fl w base v l) (o : Obj) : OwnW t k fl (w.alloc o) base v l := World.ownsRow.alloc h o
theorem OwnW.mono {w : World} {base base' : Nat} {v : Value} {l : List α} (h : OwnW t k fl w base v l) (hb : base' ≤ base) : OwnW t k fl w base' v l := by
  obtain ⟨h1, h2⟩ := h
  refine ⟨h1, ?_⟩
  rcases h2 with h2 | ⟨g, cap, cur, hv, hb', r⟩
  · exact .inl h2
  · exact .inr ⟨g, cap, cur, hv, by omega, r⟩
theorem OwnW.lt {w : World} {base : Nat} {v : Value} {l : List α} (h : OwnW t k fl w base v l) : ∀ g, v.ownBlock = some g → base ≤ g ∧ g < w.heap.size := World.ownsRow.lt h
/-- Another block is written. -/
theorem OwnW.apart {w : World} {base g j : Nat} {v u : Value} {l : List α} (h : OwnW t k fl w base v l) (hg : v.ownBlock ≠ some g) : OwnW t k fl (w.setCell ⟨g, j, none⟩ u) base v l := by
  obtain ⟨h1, h2⟩ := h
  refine ⟨h1, ?_⟩
  rcases h2 with h2 | ⟨b, cap, cur, hv, hb, hr, r⟩
  · exact .inl h2
  · refine .inr ⟨b, cap, cur, hv, hb, ?_, r⟩
    rw [heap_setCell_other w _ b u]
    · exact hr
    · intro e
      have e' : b = g := e
      subst e'
      rw [hv] at hg
      simp [Value.ownBlock] at hg
theorem OwnW.other {w : World} {base g j : Nat} {v u : Value} {l : List α} (h : OwnW t k fl w base v l) (hg : g < base) : OwnW t k fl (w.setCell ⟨g, j, none⟩ u) base v l :=
  h.apart fun e => by have := h.lt g e; omega
/-- Elements that are written out. -/
theorem RdW.laid (hk : ∀ x, (fl x).length = k) (w : World) (l : List α) (hl : l.length ≤ 1000) : RdW k fl (w.alloc (.cells (flat fl l).toArray t)) (some ⟨w.heap.size, 0, none⟩) l.length l :=
  RdW.of_cells hk (Nat.le_refl _) (by unfold maxLen; omega) fun j u hu => by
    rw [cell_of_row _ w.heap.size (0 + j) _ t (0, 0) (heap_alloc_new w _), Nat.zero_add, List.getElem?_toArray]
    exact hu
/-- 'append(out, l...)', out the call's own, l whatever elements that can be read, nil or not (S: the slices' type). -/
theorem wpList_append_wide (hk : ∀ x, (fl x).length = k) (h1 : ∀ x, ∀ u ∈ fl x, u.oneCell' = true) {w : World} {ops : Array Oper} {rest : List Oper} {o : Oper} {a : Act} {Q : Exit → Act → World → Prop} (hgd : o.guard = none) (s x : Operand) (S : TypeId) (z : Value) (B : Nat)
    (ho : o.op = .call { callee := .builtin .append, args := #[s, x], argTypes := #[S, S] }) (hS : Tryz.prog.underlying S = some (.slice t)) (hinfo : (Tryz.prog.info? t).map (fun i => (i.zero, i.size, i.bytes)) = some (some z, k, B)) (hk0 : 0 < k) (hzc : z.cells.size = k) (base : Nat)
    (v : Value) (xs : List α) (hs : a.eval s = v) (hown : OwnW t k fl w base v xs) (p : Option Addr) (n c : Nat) (l : List α) (hx : a.eval x = .slice p n c) (hn : n = l.length) (hB : RdW k fl w p c l)
    (h63 : xs.length + l.length ≤ maxLen) (hby : (xs.length + l.length) * B ≤ 140737488355328) (hbase : base ≤ w.heap.size)
    (h : ∀ v' w', OwnW t k fl w' base v' (xs ++ l) → w.grownBy w' v.ownBlock → (v'.ownBlock = v.ownBlock ∨ v'.ownBlock = some w.heap.size) → wpList Tryz.prog ops Q rest (a.put o.dst v') w') : wpList Tryz.prog ops Q (o :: rest) a w := by
  subst hn
  have hone : ∀ u ∈ flat fl l, u.oneCell' = true := by
    intro u hu
    obtain ⟨c, _, hc⟩ := List.mem_flatMap.1 hu
    exact h1 c u hc
  obtain ⟨i0, hi, hz0, hz1, hz2⟩ := info_parts hinfo
  cases p with
  | none =>
    have hc := hB.2.2.1 rfl
    have hl : l = [] := List.eq_nil_of_length_eq_zero (by have := hB.1; omega)
    subst hl
    subst hc
    refine wpList_append_own_none hgd s x S ho base t i0 k hS hi v xs.length (flat fl xs) hs hown hx ?_
    exact h v w (by simpa using hown) (World.grownBy.refl w _) (.inl rfl)
  | some ad =>
    refine wpList_append_own_at _ hgd s x S ho base t i0 z k B hS hi hz0 hz1 hz2 hzc hk0 v xs.length (flat fl xs) hs hown ad l.length c (flat fl l) hx (by rw [flat_len hk]) (hB.cells hk) hone h63 hby hbase ?_
    intro v' w' ho' hg' _ hat
    refine h v' w' ?_ hg' hat
    show w'.ownsRow base t k v' (xs ++ l).length (flat fl (xs ++ l))
    rw [flat_append, List.length_append]
    exact ho'
end
end Go.Proofs.YtnmonoafjijfhaaGreat
namespace Go.Proofs.YtnmonoafjijfhaaGreat
open Go.RowKit
set_option linter.unusedVariables false
section
variable {α : Type} {k : Nat} {fl : α → List Value} {t : TypeId}
theorem flat_set (hk : ∀ x, (fl x).length = k) : ∀ (l : List α) (i j : Nat) (x y : α) (u : Value), l[i]? = some x → j < k → (fl x).set j u = fl y → flat fl (l.set i y) = (flat fl l).set (i * k + j) u
  | [], i, j, x, y, u, h, _, _ => by simp at h
  | d :: l, 0, j, x, y, u, h, hj, hy => by
    simp at h
    subst h
    rw [List.set_cons_zero, flat_cons, flat_cons, Nat.zero_mul, Nat.zero_add, List.set_append_left _ _ (by rw [hk]; omega), hy]
  | d :: l, i + 1, j, x, y, u, h, hj, hy => by
    simp at h
    rw [List.set_cons_succ, flat_cons, flat_cons, flat_set hk l i j x y u h hj hy, List.set_append_right _ _ (by rw [hk, Nat.add_mul]; omega), hk]
    congr 2
    rw [Nat.add_mul]; omega
theorem OwnW.set (hk : ∀ x, (fl x).length = k) {w : World} {base g n cap i j : Nat} {l : List α} {x y : α} {u : Value} (h : OwnW t k fl w base (.slice (some ⟨g, 0, none⟩) n cap) l) (hn : n = l.length) (hx : l[i]? = some x) (hj : j < k) (hy : (fl x).set j u = fl y) : OwnW t k fl (w.setCell ⟨g, i * k + j, none⟩ u) base (.slice (some ⟨g, 0, none⟩) n cap) (l.set i y) := by
  subst hn
  have h' := (World.ownsRow.stored (show w.ownsRow base t k (.slice (some ⟨g, 0, none⟩) l.length cap) l.length (flat fl l) from h) (i * k + j) u).1
  show World.ownsRow _ _ _ _ _ _ _
  rw [List.length_set, flat_set hk l i j x y u hx hj hy]
  exact h'
theorem OwnW.frozen {w : World} {base g n cap : Nat} (j : Nat) {l : List α} (h : OwnW t k fl w base (.slice (some ⟨g, 0, none⟩) n cap) l) (hn : n = l.length) : w.frozen? ⟨g, j, none⟩ = false := by
  subst hn
  exact World.ownsRow.frozenAt (show w.ownsRow base t k (.slice (some ⟨g, 0, none⟩) l.length cap) l.length (flat fl l) from h) j
theorem flat_take (hk : ∀ x, (fl x).length = k) : ∀ (l : List α) (n : Nat), flat fl (l.take n) = (flat fl l).take (n * k)
  | [], n => by simp [flat]
  | d :: l, 0 => by simp [flat]
  | d :: l, n + 1 => by
    rw [List.take_succ_cons, flat_cons, flat_cons, flat_take hk l n, List.take_append, hk, List.take_of_length_le (l := fl d) (by rw [hk, Nat.add_mul]; omega)]
    congr 2
    rw [Nat.add_mul]; omega
theorem OwnW.take (hk : ∀ x, (fl x).length = k) {w : World} {base cap m : Nat} {a : Option Addr} {l : List α} (h : OwnW t k fl w base (.slice a l.length cap) l) (n : Nat) (hn : n ≤ l.length) (hm : m = n) : OwnW t k fl w base (.slice a m cap) (l.take n) := by
  subst hm
  obtain ⟨h1, h2⟩ := h
  have hl : (l.take m).length = m := by simp; omega
  refine ⟨by rw [flat_len hk, hl], ?_⟩
  rcases h2 with ⟨he, h0⟩ | ⟨g, cap', cur, he, hb, hr, hlc, hcm, hsz, htake⟩
  · left
    have : m = 0 := by omega
    subst this
    simp only [Value.slice.injEq] at he
    obtain ⟨rfl, _, rfl⟩ := he
    exact ⟨rfl, by simp⟩
  · right
    simp only [Value.slice.injEq] at he
    obtain ⟨rfl, _, rfl⟩ := he
    refine ⟨g, cap, cur, by rw [hl], hb, hr, by omega, hcm, hsz, ?_⟩
    rw [hl, flat_take hk, ← htake, List.take_take, Nat.min_eq_left (Nat.mul_le_mul_right k hn)]
end
end Go.Proofs.YtnmonoafjijfhaaGreat
namespace Go.Proofs.YtnmonoafjijfhaaGreat
open Go.RowKit
set_option linter.unusedVariables false

/-- A slice value: where it begins, how long it is, how long it may grow. -/
abbrev SV := Option Addr × Nat × Nat
abbrev sv : SV → Value := fun s => .slice s.1 s.2.1 s.2.2
section
variable {β : Type} {enc : β → Value}
def ElemN (enc : β → Value) (w : World) (s : SV) (x : List β) : Prop := s.2.1 = x.length ∧ Rd enc w s.1 s.2.2 x
def EachN (enc : β → Value) (w : World) (vs : List SV) (L : List (List β)) : Prop := vs.length = L.length ∧ ∀ (i : Nat) (s : SV) (x : List β), vs[i]? = some s → L[i]? = some x → ElemN enc w s x
/-- A slice reads as the lists L. -/
def RdN (enc : β → Value) (w : World) (a : Option Addr) (cap : Nat) (L : List (List β)) : Prop := ∃ vs, Rd sv w a cap vs ∧ EachN enc w vs L
def IsRdN (enc : β → Value) (L : List (List β)) (v : Value) (w : World) : Prop := ∃ a cap, v = .slice a L.length cap ∧ RdN enc w a cap L
theorem ElemN.below {w w' : World} {s : SV} {x : List β} (h : ElemN enc w s x) (hx : Ex w w') : ElemN enc w' s x := ⟨h.1, h.2.below hx⟩
theorem EachN.below {w w' : World} {vs : List SV} {L : List (List β)} (h : EachN enc w vs L) (hx : Ex w w') : EachN enc w' vs L := ⟨h.1, fun i s x h1 h2 => (h.2 i s x h1 h2).below hx⟩
theorem RdN.below {w w' : World} {a : Option Addr} {cap : Nat} {L : List (List β)} (h : RdN enc w a cap L) (hx : Ex w w') : RdN enc w' a cap L := by
  obtain ⟨vs, h1, h2⟩ := h
  exact ⟨vs, h1.below hx, h2.below hx⟩
theorem IsRdN.stands (L : List (List β)) : ∀ v w w', IsRdN enc L v w → Ex w w' → IsRdN enc L v w' := by
  rintro v w w' ⟨a, cap, rfl, h⟩ hx
  exact ⟨a, cap, rfl, h.below hx⟩
theorem EachN.nil (w : World) : EachN enc w [] [] := ⟨rfl, fun i s x h _ => by simp at h⟩
theorem EachN.cons {w : World} {s : SV} {x : List β} {vs : List SV} {L : List (List β)} (h : ElemN enc w s x) (hE : EachN enc w vs L) : EachN enc w (s :: vs) (x :: L) := by
  refine ⟨by simp [hE.1], fun i t y h1 h2 => ?_⟩
  cases i with
  | zero => simp at h1 h2; rw [← h1, ← h2]; exact h
  | succ i => exact hE.2 i t y (by simpa using h1) (by simpa using h2)
theorem IsRdN.nil (w : World) : IsRdN enc [] (.slice none 0 0) w := ⟨none, 0, rfl, [], Rd.nil w, EachN.nil w⟩
/-- One of the lists. -/
theorem RdN.at {w : World} {a : Option Addr} {cap : Nat} {L : List (List β)} (h : RdN enc w a cap L) {k : Nat} (hk : k < L.length) :
    ∃ b off p c, a = some ⟨b, off, none⟩ ∧ w.cell? ⟨b, off + k, none⟩ = some (.slice p L[k].length c) ∧ Rd enc w p c L[k] := by
  obtain ⟨vs, h1, h2⟩ := h
  have hk' : k < vs.length := by rw [h2.1]; exact hk
  obtain ⟨b, off, rfl, hc⟩ := h1.at hk'
  obtain ⟨he, hb⟩ := h2.2 k _ _ (List.getElem?_eq_getElem hk') (List.getElem?_eq_getElem hk)
  exact ⟨b, off, vs[k].1, vs[k].2.2, rfl, by rw [hc]; simp only [sv, he], hb⟩
/-- No list that has elements lies in that block. -/
def Away (g : Option Nat) (vs : List SV) : Prop := ∀ s ∈ vs, 0 < s.2.1 → ∀ q, (sv s).ownBlock = some q → g ≠ some q
theorem Away.nil (g : Option Nat) : Away g [] := fun s h => by simp at h
theorem ElemN.block {w : World} {s : SV} {x : List β} (h : ElemN enc w s x) (h0 : 0 < s.2.1) : ∃ q off, s.1 = some ⟨q, off, none⟩ ∧ q < w.heap.size := by
  obtain ⟨h1, h2⟩ := h
  have h0' : 0 < x.length := by omega
  obtain ⟨q, off, e, hc⟩ := h2.at h0'
  exact ⟨q, off, e, World.block_lt_of_cell? w _ hc⟩
theorem ElemN.far {w w' : World} {s : SV} {x : List β} {row : Option Nat} (h : ElemN enc w s x) (hg : w.grownBy w' row) (ha : 0 < s.2.1 → ∀ q, (sv s).ownBlock = some q → row ≠ some q) : ElemN enc w' s x := by
  obtain ⟨h1, h2, h3, h4, h5⟩ := h
  refine ⟨h1, h2, h3, h4, fun i y hi => ?_⟩
  obtain ⟨q, off, e, hc⟩ := h5 i y hi
  refine ⟨q, off, e, ?_⟩
  have hil := (List.getElem?_eq_some_iff.1 hi).1
  have hne := ha (by omega) q (by simp [sv, e, Value.ownBlock])
  rw [hg.cell_far ⟨q, off + i, none⟩ (World.block_lt_of_cell? w _ hc) (Ne.symm hne)]
  exact hc
/-- A call's own slice of lists (E: the type of the inner slices). -/
def OwnN (E : TypeId) (enc : β → Value) (w : World) (base : Nat) (v : Value) (L : List (List β)) : Prop := ∃ vs, OwnR E sv w base v vs ∧ EachN enc w vs L ∧ Away v.ownBlock vs
theorem OwnN.nil {E : TypeId} (w : World) (base : Nat) : OwnN E enc w base (.slice none 0 0) [] := ⟨[], ⟨by simp, .inl ⟨rfl, rfl⟩⟩, EachN.nil w, Away.nil _⟩
theorem OwnN.later {E : TypeId} {w w' : World} {base : Nat} {v : Value} {L : List (List β)} (h : OwnN E enc w base v L) (hx : Ex w w') : OwnN E enc w' base v L := by
  obtain ⟨vs, h1, h2, h3⟩ := h
  exact ⟨vs, h1.later hx, h2.below hx, h3⟩
theorem OwnN.lt {E : TypeId} {w : World} {base : Nat} {v : Value} {L : List (List β)} (h : OwnN E enc w base v L) : ∀ g, v.ownBlock = some g → base ≤ g ∧ g < w.heap.size := by
  obtain ⟨vs, h1, _, _⟩ := h
  exact World.ownsRow.lt h1
/-- A literal slice of slices. -/
theorem RdN.laid (w : World) (E : TypeId) (vs : List SV) (L : List (List β)) (h : EachN enc w vs L) (hl : vs.length ≤ 1000) : RdN enc (w.alloc (.cells (vs.map sv).toArray E)) (some ⟨w.heap.size, 0, none⟩) vs.length L :=
  ⟨vs, Rd.laid w E vs hl, h.below ((Below.refl _ _).alloc (Nat.le_refl _) _)⟩
end
end Go.Proofs.YtnmonoafjijfhaaGreat
