/-
  Plain facts on columns as rows bring them. No program here. Columns as rows bring them, step by step: what the walk of Grow wants. No program here.
-/
import Derived.Test.YtghnbohplonhoaaRow
namespace Go.Proofs.Ytghnbohplonhoaa
set_option linter.unusedVariables false
set_option linter.unusedSimpArgs false
namespace Rw
def colOk (c : Co) : Bool := name c.nm && (decide (c.k = 1) || decide (c.k = 2))
def colsOk (l : List Co) : Bool := l.all colOk && T.adj (l.map Co.nm) && decide (l.length ≤ 12)
abbrev RiseN (l : List Co) : Prop := T.Rise (l.map Co.nm)
theorem colsOk_iff (l : List Co) : colsOk l = true ↔ (∀ c ∈ l, colOk c = true) ∧ RiseN l ∧ l.length ≤ 12 := by
  unfold colsOk
  simp only [Bool.and_eq_true, List.all_eq_true, T.adj_iff, decide_eq_true_eq]
  constructor
  · rintro ⟨⟨a, b⟩, c⟩; exact ⟨a, b, c⟩
  · rintro ⟨a, b, c⟩; exact ⟨⟨a, b⟩, c⟩
theorem riseN_cons {x : Co} {l : List Co} : RiseN (x :: l) ↔ (∀ y ∈ l, T.lt x.nm y.nm = true) ∧ RiseN l := by
  unfold RiseN
  rw [List.map_cons, T.rise_cons]
  constructor
  · rintro ⟨a, b⟩; exact ⟨fun y hy => a y.nm (List.mem_map.2 ⟨y, hy, rfl⟩), b⟩
  · rintro ⟨a, b⟩
    refine ⟨fun z hz => ?_, b⟩
    obtain ⟨y, hy, rfl⟩ := List.mem_map.1 hz
    exact a y hy
def co (c : Ce) : Co := ⟨c.col, c.k⟩
/-- One cell more. -/
def addC (c : Co) : List Co → Option (List Co)
  | [] => some [c]
  | y :: r => if T.lt y.nm c.nm = true then (addC c r).map (y :: ·) else if y.nm = c.nm then (if y.k = c.k then some (y :: r) else none) else some (c :: y :: r)
theorem addC_mem {c : Co} {o n : List Co} (h : addC c o = some n) (y : Co) : y ∈ n ↔ y ∈ o ∨ y = c := by
  induction o generalizing n with
  | nil => simp [addC] at h; subst h; simp
  | cons x r ih =>
    unfold addC at h
    split at h
    · obtain ⟨m, hm, rfl⟩ := Option.map_eq_some_iff.1 h
      rw [List.mem_cons, ih hm, List.mem_cons, or_assoc]
    · split at h
      · rename_i hn
        split at h
        · rename_i hk
          simp at h
          subst h
          have hx : x = c := by cases x; cases c; simp at hn hk; simp [hn, hk]
          subst hx
          simp only [List.mem_cons]
          constructor
          · exact .inl
          · rintro (h | h)
            · exact h
            · exact .inl h
        · cases h
      · simp at h
        subst h
        simp only [List.mem_cons]
        constructor
        · rintro (h | h | h)
          · exact .inr h
          · exact .inl (.inl h)
          · exact .inl (.inr h)
        · rintro ((h | h) | h)
          · exact .inr (.inl h)
          · exact .inr (.inr h)
          · exact .inl h
theorem addC_rise {c : Co} {o n : List Co} (hR : RiseN o) (h : addC c o = some n) : RiseN n := by
  induction o generalizing n with
  | nil => simp [addC] at h; subst h; simp [RiseN, T.Rise]
  | cons x r ih =>
    have hR' := riseN_cons.1 hR
    unfold addC at h
    split at h
    · rename_i hl
      obtain ⟨m, hm, rfl⟩ := Option.map_eq_some_iff.1 h
      rw [riseN_cons]
      refine ⟨fun y hy => ?_, ih hR'.2 hm⟩
      rcases (addC_mem hm y).1 hy with hy | rfl
      · exact hR'.1 y hy
      · exact hl
    · rename_i hl
      split at h
      · split at h
        · simp at h; subst h; exact hR
        · cases h
      · rename_i hn
        simp at h
        subst h
        have hcx : T.lt c.nm x.nm = true := by
          rcases T.ge_iff (Bool.eq_false_iff.2 hl) with h1 | h1
          · exact absurd h1 hn
          · exact h1
        rw [riseN_cons]
        refine ⟨fun y hy => ?_, hR⟩
        rcases List.mem_cons.1 hy with rfl | hy
        · exact hcx
        · exact T.lt_trans hcx (hR'.1 y hy)
theorem addC_len {c : Co} {o n : List Co} (h : addC c o = some n) : o.length ≤ n.length ∧ n.length ≤ o.length + 1 := by
  induction o generalizing n with
  | nil => simp [addC] at h; subst h; simp
  | cons x r ih =>
    unfold addC at h
    split at h
    · obtain ⟨m, hm, rfl⟩ := Option.map_eq_some_iff.1 h
      have := ih hm
      simp; omega
    · split at h
      · split at h
        · simp at h; subst h; simp
        · cases h
      · simp at h; subst h; simp
/-- A cell whose column is there brings nothing new. -/
theorem addC_same {c : Co} {o : List Co} (hR : RiseN o) (h : c ∈ o) : addC c o = some o := by
  induction o with
  | nil => simp at h
  | cons x r ih =>
    have hR' := riseN_cons.1 hR
    unfold addC
    rcases List.mem_cons.1 h with rfl | h
    · rw [if_neg (by rw [T.lt_irrefl]; simp), if_pos rfl, if_pos rfl]
    · rw [if_pos (hR'.1 c h), ih hR'.2 h]; rfl
def addR (o : List Co) : List Ce → Option (List Co)
  | [] => some o
  | c :: l => (addC (co c) o).bind fun n => addR n l
theorem addR_facts : ∀ (l : List Ce) (o n : List Co), RiseN o → addR o l = some n → RiseN n ∧ (∀ y, y ∈ n ↔ y ∈ o ∨ ∃ c ∈ l, y = co c) ∧ o.length ≤ n.length ∧ n.length ≤ o.length + l.length
  | [], o, n, hR, h => by simp [addR] at h; subst h; exact ⟨hR, by simp, by simp, by simp⟩
  | c :: l, o, n, hR, h => by
    unfold addR at h
    obtain ⟨m, hm, hn⟩ := Option.bind_eq_some_iff.1 h
    obtain ⟨a, b, d, e⟩ := addR_facts l m n (addC_rise hR hm) hn
    have hl := addC_len hm
    refine ⟨a, fun y => ?_, by omega, by simp; omega⟩
    rw [b, addC_mem hm]
    simp only [List.mem_cons, exists_eq_or_imp, or_assoc]
theorem addR_same : ∀ (l : List Ce) (o : List Co), RiseN o → (∀ c ∈ l, co c ∈ o) → addR o l = some o
  | [], o, _, _ => rfl
  | c :: l, o, hR, h => by
    unfold addR
    rw [addC_same hR (h c (by simp))]
    exact addR_same l o hR fun d hd => h d (by simp [hd])
def growF : Nat → List Co → List Rw → List Co × Nat × Nat
  | i, o, [] => (o, 0, 0)
  | i, o, r :: l =>
    if right r = true then
      match addR o r.c with
      | none => ([], 22, i)
      | some n => if n.length ≤ 12 then growF (i + 1) n l else ([], 4, i)
    else ([], 1, i)
def grow (cols : List Co) (l : List Rw) : List Co × Nat × Nat := if colsOk cols = true then growF 0 cols l else ([], 1, 0)
theorem growF_bad : ∀ (l : List Rw) (i : Nat) (o c : List Co) (e k : Nat), growF i o l = (c, e, k) → e ≠ 0 → c = [] ∧ i ≤ k ∧ k < i + l.length
  | [], i, o, c, e, k, h, he => by simp [growF] at h; exact absurd h.2.1.symm he
  | r :: l, i, o, c, e, k, h, he => by
    unfold growF at h
    split at h
    · split at h
      · simp only [Prod.mk.injEq] at h; exact ⟨h.1.symm, by omega, by simp; omega⟩
      · split at h
        · obtain ⟨a, b, d⟩ := growF_bad l (i + 1) _ c e k h he
          exact ⟨a, by omega, by simp; omega⟩
        · simp only [Prod.mk.injEq] at h; exact ⟨h.1.symm, by omega, by simp; omega⟩
    · simp only [Prod.mk.injEq] at h; exact ⟨h.1.symm, by omega, by simp; omega⟩
theorem growF_ok : ∀ (l : List Rw) (i : Nat) (o c : List Co) (k : Nat), colsOk o = true → growF i o l = (c, 0, k) → k = 0 ∧ colsOk c = true ∧ (∀ y, y ∈ c ↔ y ∈ o ∨ ∃ r ∈ l, ∃ x ∈ r.c, y = co x) ∧ ∀ r ∈ l, right r = true
  | [], i, o, c, k, ho, h => by simp [growF] at h; obtain ⟨rfl, rfl⟩ := h; exact ⟨rfl, ho, by simp, by simp⟩
  | r :: l, i, o, c, k, ho, h => by
    unfold growF at h
    split at h
    · rename_i hr
      split at h
      · simp at h
      · rename_i n hn
        split at h
        · rename_i h12
          obtain ⟨ho1, ho2, ho3⟩ := (colsOk_iff o).1 ho
          obtain ⟨a, b, _, _⟩ := addR_facts r.c o n ho2 hn
          have hnk : colsOk n = true := (colsOk_iff n).2 ⟨fun y hy => by
            rcases (b y).1 hy with hy | ⟨x, hx, rfl⟩
            · exact ho1 y hy
            · have := ((right_iff r).1 hr).2.1 x hx
              unfold celOk at this
              rw [Bool.and_eq_true, form_iff] at this
              unfold colOk co
              rw [Bool.and_eq_true]
              refine ⟨this.1, ?_⟩
              simp only [Bool.or_eq_true, decide_eq_true_eq]
              rcases this.2 with h | h
              · exact .inl h.1
              · exact .inr h.1, a, h12⟩
          obtain ⟨d1, d2, d3, d4⟩ := growF_ok l (i + 1) n c k hnk h
          refine ⟨d1, d2, fun y => ?_, ?_⟩
          · rw [d3, b]
            simp only [List.mem_cons, exists_eq_or_imp, or_assoc]
          · intro q hq
            rcases List.mem_cons.1 hq with rfl | hq
            · exact hr
            · exact d4 q hq
        · simp at h
    · simp at h
theorem growF_shift : ∀ (l : List Rw) (i j : Nat) (o c : List Co) (k : Nat), growF i o l = (c, 0, k) → growF j o l = (c, 0, k)
  | [], i, j, o, c, k, h => h
  | r :: l, i, j, o, c, k, h => by
    unfold growF at h ⊢
    split at h
    · rename_i hr
      rw [if_pos hr]
      cases hn : addR o r.c with
      | none => rw [hn] at h; simp at h
      | some n =>
        rw [hn] at h
        simp only at h ⊢
        split at h
        · rename_i h12
          rw [if_pos h12]
          exact growF_shift l (i + 1) (j + 1) n c k h
        · simp at h
    · simp at h
/-- In two steps they are the same. -/
theorem growF_cut : ∀ (l m : List Rw) (i : Nat) (o c : List Co) (k : Nat), growF i o (l ++ m) = (c, 0, k) → ∃ d, growF i o l = (d, 0, 0) ∧ growF (i + l.length) d m = (c, 0, k)
  | [], m, i, o, c, k, h => ⟨o, rfl, by simpa using h⟩
  | r :: l, m, i, o, c, k, h => by
    rw [List.cons_append] at h
    unfold growF at h
    split at h
    · rename_i hr
      cases hn : addR o r.c with
      | none => rw [hn] at h; simp at h
      | some n =>
        rw [hn] at h
        simp only at h
        split at h
        · rename_i h12
          obtain ⟨d, h1, h2⟩ := growF_cut l m (i + 1) n c k h
          refine ⟨d, ?_, by rw [List.length_cons, show i + (l.length + 1) = i + 1 + l.length from by omega]; exact h2⟩
          unfold growF
          rw [if_pos hr, hn]
          simp only
          rw [if_pos h12]
          exact h1
        · simp at h
    · simp at h
/-- A second time nothing is new. -/
theorem growF_again : ∀ (l : List Rw) (i : Nat) (o : List Co), colsOk o = true → (∀ r ∈ l, right r = true) → (∀ r ∈ l, ∀ x ∈ r.c, co x ∈ o) → growF i o l = (o, 0, 0)
  | [], i, o, _, _, _ => rfl
  | r :: l, i, o, ho, hr, hc => by
    obtain ⟨_, ho2, ho3⟩ := (colsOk_iff o).1 ho
    unfold growF
    rw [if_pos (hr r (by simp)), addR_same r.c o ho2 (hc r (by simp))]
    simp only
    rw [if_pos ho3]
    exact growF_again l (i + 1) o ho (fun q hq => hr q (by simp [hq])) (fun q hq => hc q (by simp [hq]))
theorem grow_ok {cols c : List Co} {l : List Rw} {k : Nat} (h : grow cols l = (c, 0, k)) : colsOk cols = true ∧ k = 0 ∧ colsOk c = true ∧ (∀ y, y ∈ c ↔ y ∈ cols ∨ ∃ r ∈ l, ∃ x ∈ r.c, y = co x) ∧ ∀ r ∈ l, right r = true := by
  unfold grow at h
  split at h
  · rename_i hc
    exact ⟨hc, growF_ok l 0 cols c k hc h⟩
  · simp at h
theorem grow_bad {cols c : List Co} {l : List Rw} {e k : Nat} (h : grow cols l = (c, e, k)) (he : e ≠ 0) : c = [] ∧ k ≤ l.length := by
  unfold grow at h
  split at h
  · obtain ⟨a, b, d⟩ := growF_bad l 0 cols c e k h he
    exact ⟨a, by omega⟩
  · simp only [Prod.mk.injEq] at h; exact ⟨h.1.symm, by omega⟩
theorem grow_cut {cols c : List Co} {l m : List Rw} {k : Nat} (h : grow cols (l ++ m) = (c, 0, k)) : ∃ d, grow cols l = (d, 0, 0) ∧ grow d m = (c, 0, 0) := by
  have hc := (grow_ok h).1
  have hk := (grow_ok h).2.1
  subst hk
  unfold grow at h
  rw [if_pos hc] at h
  obtain ⟨d, h1, h2⟩ := growF_cut l m 0 cols c 0 h
  have hd := (growF_ok l 0 cols d 0 hc h1).2.1
  refine ⟨d, by unfold grow; rw [if_pos hc]; exact h1, ?_⟩
  unfold grow
  rw [if_pos hd]
  exact growF_shift m _ 0 d c 0 h2
theorem grow_again {cols c : List Co} {l : List Rw} {k : Nat} (h : grow cols l = (c, 0, k)) : grow c l = (c, 0, 0) := by
  obtain ⟨_, _, hc, hm, hr⟩ := grow_ok h
  unfold grow
  rw [if_pos hc]
  exact growF_again l 0 c hc hr (fun r hr x hx => (hm _).2 (.inr ⟨r, hr, x, hx, rfl⟩))
end Rw
end Go.Proofs.Ytghnbohplonhoaa
namespace Go.Proofs.Ytghnbohplonhoaa
set_option linter.unusedVariables false
set_option linter.unusedSimpArgs false
namespace Rw
theorem addC_skip {c : Co} : ∀ (k : Nat) (o : List Co), k ≤ o.length → (∀ j y, j < k → o[j]? = some y → T.lt y.nm c.nm = true) → addC c o = (addC c (o.drop k)).map (o.take k ++ ·)
  | 0, o, _, _ => by simp
  | k + 1, [], h, _ => by simp at h
  | k + 1, x :: r, h, hl => by
    have h0 := hl 0 x (by omega) rfl
    rw [addC, if_pos h0, addC_skip k r (by simpa using h) (fun j y hj hy => hl (j + 1) y (by omega) (by simpa using hy))]
    simp [Option.map_map, Function.comp_def]
theorem addC_hit {c y : Co} {o : List Co} {k : Nat} (hl : ∀ j z, j < k → o[j]? = some z → T.lt z.nm c.nm = true) (hy : o[k]? = some y) (hn : y.nm = c.nm) : addC c o = if y.k = c.k then some o else none := by
  have hk : k < o.length := (List.getElem?_eq_some_iff.1 hy).1
  have e : o[k] = y := (List.getElem?_eq_some_iff.1 hy).2
  have hi : T.lt y.nm c.nm = false := by rw [hn]; exact T.lt_irrefl _
  rw [addC_skip k o (by omega) hl, List.drop_eq_getElem_cons hk, e, addC, hi, if_neg (by simp), if_pos hn]
  split
  · rw [Option.map_some, ← e, ← List.drop_eq_getElem_cons hk, List.take_append_drop]
  · rfl
theorem addC_new {c : Co} {o : List Co} {k : Nat} (hk : k ≤ o.length) (hl : ∀ j z, j < k → o[j]? = some z → T.lt z.nm c.nm = true) (hy : ∀ y, o[k]? = some y → T.lt y.nm c.nm = false ∧ y.nm ≠ c.nm) : addC c o = some (o.take k ++ c :: o.drop k) := by
  rw [addC_skip k o hk hl]
  cases hd : o.drop k with
  | nil => simp [addC]
  | cons y r =>
    have e : o[k]? = some y := by
      have : (o.drop k)[0]? = some y := by rw [hd]; rfl
      simpa using this
    obtain ⟨h1, h2⟩ := hy y e
    rw [addC, h1, if_neg (by simp), if_neg h2]
    rfl
theorem addR_step {o : List Co} {l : List Ce} {j : Nat} (h : j < l.length) : addR o (l.drop j) = (addC (co l[j]) o).bind (fun n => addR n (l.drop (j + 1))) := by
  rw [List.drop_eq_getElem_cons h, addR]
theorem addR_end {o : List Co} {l : List Ce} {j : Nat} (h : l.length ≤ j) : addR o (l.drop j) = some o := by
  rw [List.drop_eq_nil_of_le h, addR]
theorem growF_wrong {i : Nat} {o : List Co} {l : List Rw} (h : i < l.length) (hr : right l[i] = false) : growF i o (l.drop i) = ([], 1, i) := by
  rw [List.drop_eq_getElem_cons h, growF, hr, if_neg (by simp)]
theorem growF_other {i : Nat} {o : List Co} {l : List Rw} (h : i < l.length) (hr : right l[i] = true) (ha : addR o l[i].c = none) : growF i o (l.drop i) = ([], 22, i) := by
  rw [List.drop_eq_getElem_cons h, growF, if_pos hr, ha]
theorem growF_many {i : Nat} {o n : List Co} {l : List Rw} (h : i < l.length) (hr : right l[i] = true) (ha : addR o l[i].c = some n) (hn : 12 < n.length) : growF i o (l.drop i) = ([], 4, i) := by
  rw [List.drop_eq_getElem_cons h, growF, if_pos hr, ha]
  simp only []
  rw [if_neg (by omega)]
theorem growF_step {i : Nat} {o n : List Co} {l : List Rw} (h : i < l.length) (hr : right l[i] = true) (ha : addR o l[i].c = some n) (hn : n.length ≤ 12) : growF i o (l.drop i) = growF (i + 1) n (l.drop (i + 1)) := by
  rw [List.drop_eq_getElem_cons h, growF, if_pos hr, ha]
  simp only []
  rw [if_pos hn]
theorem growF_end {i : Nat} {o : List Co} {l : List Rw} (h : l.length ≤ i) : growF i o (l.drop i) = (o, 0, 0) := by
  rw [List.drop_eq_nil_of_le h, growF]
end Rw
end Go.Proofs.Ytghnbohplonhoaa
