/-
  Plain facts on columns as rows bring them. No program here. Columns as rows bring them, step by step: what the walk of Grow wants. No program here. Plain facts on what needn't be read: how a predicate is judged by what is known of some rows; what is Never is true of none of them, what is Always of each. No program here.
-/
import Derived.Test.YtibnhjfeepdddaaM06
import Derived.Test.YtibnhjfeepdddaaM07
import Derived.Test.YtibnhjfeepdddaaM08
namespace Go.Proofs.Ytibnhjfeepdddaa
set_option linter.unusedVariables false
set_option linter.unusedSimpArgs false
namespace Rw
def colOk (c : Co) : Bool := name c.nm && (decide (c.k = 1) || decide (c.k = 2))
def colsOk (l : List Co) : Bool := l.all colOk && T.adj (l.map Co.nm) && decide (l.length ≤ 12)
abbrev RiseN (l : List Co) : Prop := T.Rise (l.map Co.nm)
theorem colsOk_iff (l : List Co) : colsOk l = true ↔ (∀ c ∈ l, colOk c = true) ∧ RiseN l ∧ l.length ≤ 12 := by
 unfold colsOk
 simp only [Bool.and_eq_true, List.all_eq_true, T.adj_iff, decide_eq_true_eq]
 constructor
 ·rintro ⟨⟨a, b⟩, c⟩; exact ⟨a, b, c⟩
 ·rintro ⟨a, b, c⟩; exact ⟨⟨a, b⟩, c⟩
theorem riseN_cons {x : Co} {l : List Co} : RiseN (x :: l) ↔ (∀ y ∈ l, T.lt x.nm y.nm = true) ∧ RiseN l := by
 unfold RiseN
 rw [List.map_cons, T.rise_cons]
 constructor
 ·rintro ⟨a, b⟩; exact ⟨fun y hy => a y.nm (List.mem_map.2 ⟨y, hy, rfl⟩), b⟩
 ·rintro ⟨a, b⟩
  refine ⟨fun z hz => ?_, b⟩
  obtain ⟨y, hy, rfl⟩ := List.mem_map.1 hz
  exact a y hy
def co (c : Ce) : Co := ⟨c.col, c.k⟩
/-- One cell more. -/
def addC (c : Co) : List Co → Option (List Co)
 | [] => some [c]
 | y :: r => if T.lt y.nm c.nm = true then (addC c r).map (y :: ·) else if y.nm = c.nm then (if y.k = c.k then some (y :: r) else none) else some (c :: y :: r)
theorem addC_mem {c : Co} {o n : List Co} (h : addC c o = some n) (y : Co) : y ∈ n ↔ y ∈ o ∨ y = c := by
 induction o generalizing n with
 | nil => simp [addC] at h; subst h; simp
 | cons x r ih =>
  unfold addC at h
  split at h
  ·obtain ⟨m, hm, rfl⟩ := Option.map_eq_some_iff.1 h
   rw [List.mem_cons, ih hm, List.mem_cons, or_assoc]
  ·split at h
   ·rename_i hn
    split at h
    ·rename_i hk
     simp at h
     subst h
     have hx : x = c := by cases x; cases c; simp at hn hk; simp [hn, hk]
     subst hx
     simp only [List.mem_cons]
     constructor
     ·exact .inl
     ·rintro (h | h)
      ·exact h
      ·exact .inl h
    ·cases h
   ·simp at h
    subst h
    simp only [List.mem_cons]
    constructor
    ·rintro (h | h | h)
     ·exact .inr h
     ·exact .inl (.inl h)
     ·exact .inl (.inr h)
    ·rintro ((h | h) | h)
     ·exact .inr (.inl h)
     ·exact .inr (.inr h)
     ·exact .inl h
theorem addC_rise {c : Co} {o n : List Co} (hR : RiseN o) (h : addC c o = some n) : RiseN n := by
 induction o generalizing n with
 | nil => simp [addC] at h; subst h; simp [RiseN, T.Rise]
 | cons x r ih =>
  have hR' := riseN_cons.1 hR
  unfold addC at h
  split at h
  ·rename_i hl
   obtain ⟨m, hm, rfl⟩ := Option.map_eq_some_iff.1 h
   rw [riseN_cons]
   refine ⟨fun y hy => ?_, ih hR'.2 hm⟩
   rcases (addC_mem hm y).1 hy with hy | rfl
   ·exact hR'.1 y hy
   ·exact hl
  ·rename_i hl
   split at h
   ·split at h
    ·simp at h; subst h; exact hR
    ·cases h
   ·rename_i hn
    simp at h
    subst h
    have hcx : T.lt c.nm x.nm = true := by
     rcases T.ge_iff (Bool.eq_false_iff.2 hl) with h1 | h1
     ·exact absurd h1 hn
     ·exact h1
    rw [riseN_cons]
    refine ⟨fun y hy => ?_, hR⟩
    rcases List.mem_cons.1 hy with rfl | hy
    ·exact hcx
    ·exact T.lt_trans hcx (hR'.1 y hy)
theorem addC_len {c : Co} {o n : List Co} (h : addC c o = some n) : o.length ≤ n.length ∧ n.length ≤ o.length + 1 := by
 induction o generalizing n with
 | nil => simp [addC] at h; subst h; simp
 | cons x r ih =>
  unfold addC at h
  split at h
  ·obtain ⟨m, hm, rfl⟩ := Option.map_eq_some_iff.1 h
   have := ih hm
   simp; omega
  ·split at h
   ·split at h
    ·simp at h; subst h; simp
    ·cases h
   ·simp at h; subst h; simp
def addR (o : List Co) : List Ce → Option (List Co)
 | [] => some o
 | c :: l => (addC (co c) o).bind fun n => addR n l
theorem addR_facts : ∀ (l : List Ce) (o n : List Co), RiseN o → addR o l = some n → RiseN n ∧ (∀ y, y ∈ n ↔ y ∈ o ∨ ∃ c ∈ l, y = co c) ∧ o.length ≤ n.length ∧ n.length ≤ o.length + l.length
 | [], o, n, hR, h => by simp [addR] at h; subst h; exact ⟨hR, by simp, by simp, by simp⟩
 | c :: l, o, n, hR, h => by
  unfold addR at h
  obtain ⟨m, hm, hn⟩ := Option.bind_eq_some_iff.1 h
  obtain ⟨a, b, d, e⟩ := addR_facts l m n (addC_rise hR hm) hn
  have hl := addC_len hm
  refine ⟨a, fun y => ?_, by omega, by simp; omega⟩
  rw [b, addC_mem hm]
  simp only [List.mem_cons, exists_eq_or_imp, or_assoc]
def growF : Nat → List Co → List Rw → List Co × Nat × Nat
 | i, o, [] => (o, 0, 0)
 | i, o, r :: l =>
  if right r = true then
   match addR o r.c with
   | none => ([], 22, i)
   | some n => if n.length ≤ 12 then growF (i + 1) n l else ([], 4, i)
  else ([], 1, i)
def grow (cols : List Co) (l : List Rw) : List Co × Nat × Nat := if colsOk cols = true then growF 0 cols l else ([], 1, 0)
theorem growF_ok : ∀ (l : List Rw) (i : Nat) (o c : List Co) (k : Nat), colsOk o = true → growF i o l = (c, 0, k) → k = 0 ∧ colsOk c = true ∧ (∀ y, y ∈ c ↔ y ∈ o ∨ ∃ r ∈ l, ∃ x ∈ r.c, y = co x) ∧ ∀ r ∈ l, right r = true
 | [], i, o, c, k, ho, h => by simp [growF] at h; obtain ⟨rfl, rfl⟩ := h; exact ⟨rfl, ho, by simp, by simp⟩
 | r :: l, i, o, c, k, ho, h => by
  unfold growF at h
  split at h
  ·rename_i hr
   split at h
   ·simp at h
   ·rename_i n hn
    split at h
    ·rename_i h12
     obtain ⟨ho1, ho2, ho3⟩ := (colsOk_iff o).1 ho
     obtain ⟨a, b, _, _⟩ := addR_facts r.c o n ho2 hn
     have hnk : colsOk n = true := (colsOk_iff n).2 ⟨fun y hy => by
      rcases (b y).1 hy with hy | ⟨x, hx, rfl⟩
      ·exact ho1 y hy
      ·have := ((right_iff r).1 hr).2.1 x hx
       unfold celOk at this
       rw [Bool.and_eq_true, form_iff] at this
       unfold colOk co
       rw [Bool.and_eq_true]
       refine ⟨this.1, ?_⟩
       simp only [Bool.or_eq_true, decide_eq_true_eq]
       rcases this.2 with h | h
       ·exact .inl h.1
       ·exact .inr h.1, a, h12⟩
     obtain ⟨d1, d2, d3, d4⟩ := growF_ok l (i + 1) n c k hnk h
     refine ⟨d1, d2, fun y => ?_, ?_⟩
     ·rw [d3, b]
      simp only [List.mem_cons, exists_eq_or_imp, or_assoc]
     ·intro q hq
      rcases List.mem_cons.1 hq with rfl | hq
      ·exact hr
      ·exact d4 q hq
    ·simp at h
  ·simp at h
theorem grow_ok {cols c : List Co} {l : List Rw} {k : Nat} (h : grow cols l = (c, 0, k)) : colsOk cols = true ∧ k = 0 ∧ colsOk c = true ∧ (∀ y, y ∈ c ↔ y ∈ cols ∨ ∃ r ∈ l, ∃ x ∈ r.c, y = co x) ∧ ∀ r ∈ l, right r = true := by
 unfold grow at h
 split at h
 ·rename_i hc
  exact ⟨hc, growF_ok l 0 cols c k hc h⟩
 ·simp at h
end Rw
end Go.Proofs.Ytibnhjfeepdddaa
namespace Go.Proofs.Ytibnhjfeepdddaa
set_option linter.unusedVariables false
set_option linter.unusedSimpArgs false
namespace Rw
theorem addC_skip {c : Co} : ∀ (k : Nat) (o : List Co), k ≤ o.length → (∀ j y, j < k → o[j]? = some y → T.lt y.nm c.nm = true) → addC c o = (addC c (o.drop k)).map (o.take k ++ ·)
 | 0, o, _, _ => by simp
 | k + 1, [], h, _ => by simp at h
 | k + 1, x :: r, h, hl => by
  have h0 := hl 0 x (by omega) rfl
  rw [addC, if_pos h0, addC_skip k r (by simpa using h) (fun j y hj hy => hl (j + 1) y (by omega) (by simpa using hy))]
  simp [Option.map_map, Function.comp_def]
theorem addC_hit {c y : Co} {o : List Co} {k : Nat} (hl : ∀ j z, j < k → o[j]? = some z → T.lt z.nm c.nm = true) (hy : o[k]? = some y) (hn : y.nm = c.nm) : addC c o = if y.k = c.k then some o else none := by
 have hk : k < o.length := (List.getElem?_eq_some_iff.1 hy).1
 have e : o[k] = y := (List.getElem?_eq_some_iff.1 hy).2
 have hi : T.lt y.nm c.nm = false := by rw [hn]; exact T.lt_irrefl _
 rw [addC_skip k o (by omega) hl, List.drop_eq_getElem_cons hk, e, addC, hi, if_neg (by simp), if_pos hn]
 split
 ·rw [Option.map_some, ← e, ← List.drop_eq_getElem_cons hk, List.take_append_drop]
 ·rfl
theorem addC_new {c : Co} {o : List Co} {k : Nat} (hk : k ≤ o.length) (hl : ∀ j z, j < k → o[j]? = some z → T.lt z.nm c.nm = true) (hy : ∀ y, o[k]? = some y → T.lt y.nm c.nm = false ∧ y.nm ≠ c.nm) : addC c o = some (o.take k ++ c :: o.drop k) := by
 rw [addC_skip k o hk hl]
 cases hd : o.drop k with
 | nil => simp [addC]
 | cons y r =>
  have e : o[k]? = some y := by
   have : (o.drop k)[0]? = some y := by rw [hd]; rfl
   simpa using this
  obtain ⟨h1, h2⟩ := hy y e
  rw [addC, h1, if_neg (by simp), if_neg h2]
  rfl
theorem addR_step {o : List Co} {l : List Ce} {j : Nat} (h : j < l.length) : addR o (l.drop j) = (addC (co l[j]) o).bind (fun n => addR n (l.drop (j + 1))) := by
 rw [List.drop_eq_getElem_cons h, addR]
theorem addR_end {o : List Co} {l : List Ce} {j : Nat} (h : l.length ≤ j) : addR o (l.drop j) = some o := by
 rw [List.drop_eq_nil_of_le h, addR]
theorem growF_wrong {i : Nat} {o : List Co} {l : List Rw} (h : i < l.length) (hr : right l[i] = false) : growF i o (l.drop i) = ([], 1, i) := by
 rw [List.drop_eq_getElem_cons h, growF, hr, if_neg (by simp)]
theorem growF_other {i : Nat} {o : List Co} {l : List Rw} (h : i < l.length) (hr : right l[i] = true) (ha : addR o l[i].c = none) : growF i o (l.drop i) = ([], 22, i) := by
 rw [List.drop_eq_getElem_cons h, growF, if_pos hr, ha]
theorem growF_many {i : Nat} {o n : List Co} {l : List Rw} (h : i < l.length) (hr : right l[i] = true) (ha : addR o l[i].c = some n) (hn : 12 < n.length) : growF i o (l.drop i) = ([], 4, i) := by
 rw [List.drop_eq_getElem_cons h, growF, if_pos hr, ha]
 simp only []
 rw [if_neg (by omega)]
theorem growF_step {i : Nat} {o n : List Co} {l : List Rw} (h : i < l.length) (hr : right l[i] = true) (ha : addR o l[i].c = some n) (hn : n.length ≤ 12) : growF i o (l.drop i) = growF (i + 1) n (l.drop (i + 1)) := by
 rw [List.drop_eq_getElem_cons h, growF, if_pos hr, ha]
 simp only []
 rw [if_pos hn]
theorem growF_end {i : Nat} {o : List Co} {l : List Rw} (h : l.length ≤ i) : growF i o (l.drop i) = (o, 0, 0) := by
 rw [List.drop_eq_nil_of_le h, growF]
end Rw
end Go.Proofs.Ytibnhjfeepdddaa
namespace Go.Proofs.Ytibnhjfeepdddaa
/-- What is known of some rows. -/
structure St where
 rows : Int
 lo : Int
 hi : Int
 zs : List (List UInt8 × Zn)
 bs : List (List UInt8 × Int × List UInt8)
/-- Which flags are set: times, zones, filters. -/
structure Fg where
 tk : Bool
 zo : Bool
 bl : Bool
namespace Pu
def zoneOf (s : St) (c : List UInt8) : Zn := ((s.zs.find? fun x => decide (x.1 = c)).map (·.2)).getD ⟨0, s.rows, s.rows, 0, 0, [], []⟩
def mayB (s : St) (c t : List UInt8) : Bool := ((s.bs.find? fun x => decide (x.1 = c)).map fun x => Fl.may x.2.1 x.2.2 t).getD true
def nev (k n : Int) (t : List UInt8) (z : Zn) : Bool :=
 if k = 4 then decide (n ≤ z.mn) else if k = 5 then decide (n < z.mn) || decide (z.mx < n) else if k = 6 then T.lt t z.ms || T.lt z.xs t
 else if k = 8 then T.lt z.xs t || (T.lt t z.ms && !T.begins t z.ms) else false
def alw (k n : Int) (t : List UInt8) (z : Zn) : Bool :=
 if k = 4 then decide (z.mx < n) else if k = 5 then decide (z.mn = n) && decide (z.mx = n) else if k = 6 then decide (z.ms = t) && decide (z.xs = t)
 else if k = 8 then T.begins t z.ms && T.begins t z.xs else false
def zn (k n : Int) (t : List UInt8) (z : Zn) : Nat :=
 if k = 9 then (if z.u = z.r then 3 else if z.u = 0 then 1 else 2)
 else if z.u = z.r ∨ z.k ≠ (if k = 4 ∨ k = 5 then 1 else 2) then 1
 else if nev k n t z = true then 1 else if (alw k n t z && decide (z.u = 0)) = true then 3 else 2
def isJ (s : St) (f : Fg) (c t : List UInt8) : Nat := if (f.bl && !mayB s c t) = true then 1 else if f.zo = true then zn 6 0 t (zoneOf s c) else 2
def lo (l : List Nat) : Nat := l.foldl (fun o k => if k < o then k else o) 3
def hi (l : List Nat) : Nat := l.foldl (fun o k => if o < k then k else o) 1
def leafJ (s : St) (f : Fg) (h : Hd) : Nat :=
 if h.k = 7 then hi (h.set.map (isJ s f h.col))
 else if h.k = 10 then (if f.tk = false then 2 else if h.m < h.n ∨ s.hi < h.n ∨ h.m < s.lo then 1 else if h.n ≤ s.lo ∧ s.hi ≤ h.m then 3 else 2)
 else if h.k = 6 then isJ s f h.col h.s
 else if f.zo = true then zn h.k h.n h.s (zoneOf s h.col) else 2
def jd (s : St) (f : Fg) : Pr → Nat := Pd.rec' fun h _ a => if h.k = 1 then lo a else if h.k = 2 then hi a else if h.k = 3 then 4 - a.headD 0 else leafJ s f h
theorem jd_mk (s : St) (f : Fg) (h : Hd) (l : List Pr) : jd s f (Pr.mk' h l) = if h.k = 1 then lo (l.map (jd s f)) else if h.k = 2 then hi (l.map (jd s f)) else if h.k = 3 then 4 - (l.map (jd s f)).headD 0 else leafJ s f h := Pd.rec_mk _ h l
def judge (s : St) (f : Fg) (p : Pr) : Nat := if Pd.right p = true then (if s.rows = 0 then 1 else jd s f (Pd.nrm p false)) else 2
theorem lo_fold : ∀ (l : List Nat) (o : Nat), (l.foldl (fun o k => if k < o then k else o) o = o ∨ l.foldl (fun o k => if k < o then k else o) o ∈ l) ∧ l.foldl (fun o k => if k < o then k else o) o ≤ o ∧ ∀ x ∈ l, l.foldl (fun o k => if k < o then k else o) o ≤ x
 | [], o => ⟨.inl rfl, Nat.le_refl _, fun x hx => by simp at hx⟩
 | y :: l, o => by
  simp only [List.foldl_cons]
  obtain ⟨h1, h2, h3⟩ := lo_fold l (if y < o then y else o)
  by_cases hy : y < o
  ·rw [if_pos hy] at h1 h2 h3 ⊢
   refine ⟨.inr ?_, by omega, fun x hx => ?_⟩
   ·rcases h1 with h1 | h1
    ·rw [h1]; simp
    ·exact List.mem_cons_of_mem _ h1
   ·rcases List.mem_cons.1 hx with rfl | hx
    ·exact h2
    ·exact h3 x hx
  ·rw [if_neg hy] at h1 h2 h3 ⊢
   refine ⟨?_, h2, fun x hx => ?_⟩
   ·rcases h1 with h1 | h1
    ·exact .inl h1
    ·exact .inr (List.mem_cons_of_mem _ h1)
   ·rcases List.mem_cons.1 hx with rfl | hx
    ·omega
    ·exact h3 x hx
theorem hi_fold : ∀ (l : List Nat) (o : Nat), (l.foldl (fun o k => if o < k then k else o) o = o ∨ l.foldl (fun o k => if o < k then k else o) o ∈ l) ∧ o ≤ l.foldl (fun o k => if o < k then k else o) o ∧ ∀ x ∈ l, x ≤ l.foldl (fun o k => if o < k then k else o) o
 | [], o => ⟨.inl rfl, Nat.le_refl _, fun x hx => by simp at hx⟩
 | y :: l, o => by
  simp only [List.foldl_cons]
  obtain ⟨h1, h2, h3⟩ := hi_fold l (if o < y then y else o)
  by_cases hy : o < y
  ·rw [if_pos hy] at h1 h2 h3 ⊢
   refine ⟨.inr ?_, by omega, fun x hx => ?_⟩
   ·rcases h1 with h1 | h1
    ·rw [h1]; simp
    ·exact List.mem_cons_of_mem _ h1
   ·rcases List.mem_cons.1 hx with rfl | hx
    ·exact h2
    ·exact h3 x hx
  ·rw [if_neg hy] at h1 h2 h3 ⊢
   refine ⟨?_, h2, fun x hx => ?_⟩
   ·rcases h1 with h1 | h1
    ·exact .inl h1
    ·exact .inr (List.mem_cons_of_mem _ h1)
   ·rcases List.mem_cons.1 hx with rfl | hx
    ·omega
    ·exact h3 x hx
/-- One cell of a column that a zone tells of. -/
structure Dc (z : Zn) (x : Ce) : Prop where
 kind : x.k = 0 ∨ (x.k = z.k ∧ (z.k = 1 ∨ z.k = 2))
 all : z.u = z.r → x.k = 0
 none_ : z.u = 0 → z.u ≠ z.r → x.k ≠ 0
 ints : x.k = 1 → z.mn ≤ x.n ∧ x.n ≤ z.mx
 txts : x.k = 2 → T.lt x.s z.ms = false ∧ T.lt z.xs x.s = false
/-- What a leaf asks of a cell. -/
def cellP (k n : Int) (t : List UInt8) (x : Ce) : Bool :=
 if k = 4 then decide (x.k = 1 ∧ x.n < n) else if k = 5 then decide (x.k = 1 ∧ x.n = n) else if k = 6 then decide (x.k = 2 ∧ x.s = t)
 else if k = 8 then decide (x.k = 2) && T.begins t x.s else decide (x.k = 0)
theorem begins_mid {p a x : List UInt8} (h1 : T.lt p a = true) (h2 : T.begins p a = false) (h3 : T.lt x a = false) : T.begins p x = false := by
 rcases T.ge_iff h3 with rfl | h4
 ·exact h2
 ·exact T.begins_above (T.lt_asymm h1) h2 h4
theorem begins_both {p a c x : List UInt8} (h1 : T.begins p a = true) (h2 : T.begins p c = true) (h3 : T.lt x a = false) (h4 : T.lt c x = false) : T.begins p x = true := by
 cases e : T.begins p x with
 | true => rfl
 | false =>
  have hx : T.lt x p = false := by
   cases e2 : T.lt x p with
   | false => rfl
   | true =>
    rcases T.ge_iff h3 with h | h
    ·rw [h] at e2; rw [T.begins_ge h1] at e2; exact e2.symm
    ·have := T.lt_trans h e2; rw [T.begins_ge h1] at this; exact this.symm
  rcases T.ge_iff h4 with h | h
  ·rw [h] at h2; rw [h2] at e; exact e.symm
  ·have := T.begins_above hx e h; rw [this] at h2; exact h2
theorem zn_range (k n : Int) (t : List UInt8) (z : Zn) : 1 ≤ zn k n t z ∧ zn k n t z ≤ 3 := by
 unfold zn
 repeat' split
 all_goals omega
theorem zn_sound {k n : Int} {t : List UInt8} {z : Zn} {x : Ce} (hk : k = 4 ∨ k = 5 ∨ k = 6 ∨ k = 8 ∨ k = 9) (h : Dc z x) : (zn k n t z = 1 → cellP k n t x = false) ∧ (zn k n t z = 3 → cellP k n t x = true) := by
 by_cases h9 : k = 9
 ·subst h9
  have e : cellP 9 n t x = decide (x.k = 0) := by unfold cellP; rw [if_neg (by decide), if_neg (by decide), if_neg (by decide), if_neg (by decide)]
  rw [e]
  unfold zn
  rw [if_pos rfl]
  by_cases h1 : z.u = z.r
  ·rw [if_pos h1]
   exact ⟨fun h => by omega, fun _ => by simpa using h.all h1⟩
  ·rw [if_neg h1]
   by_cases h2 : z.u = 0
   ·rw [if_pos h2]
    exact ⟨fun _ => by simpa using h.none_ h2 h1, fun h => by omega⟩
   ·rw [if_neg h2]
    exact ⟨fun h => by omega, fun h => by omega⟩
 unfold zn
 rw [if_neg h9]
 by_cases h1 : z.u = z.r ∨ z.k ≠ (if k = 4 ∨ k = 5 then 1 else 2)
 ·rw [if_pos h1]
  refine ⟨fun _ => ?_, fun h => by omega⟩
  have hx : x.k = 0 ∨ x.k ≠ (if k = 4 ∨ k = 5 then 1 else 2) := by
   rcases h1 with h1 | h1
   ·exact .inl (h.all h1)
   ·rcases h.kind with h2 | h2
    ·exact .inl h2
    ·rw [h2.1]; exact .inr h1
  unfold cellP
  rcases hk with rfl | rfl | rfl | rfl | rfl
  ·simp at hx ⊢; omega
  ·simp at hx ⊢; omega
  ·simp at hx ⊢; omega
  ·simp at hx ⊢; omega
  ·exact absurd rfl h9
 rw [if_neg h1]
 have h1a : z.u ≠ z.r := fun e => h1 (.inl e)
 have h1b : z.k = (if k = 4 ∨ k = 5 then 1 else 2) := Classical.byContradiction fun e => h1 (.inr e)
 by_cases h2 : nev k n t z = true
 ·rw [if_pos h2]
  refine ⟨fun _ => ?_, fun h => by omega⟩
  unfold nev at h2
  unfold cellP
  rcases hk with rfl | rfl | rfl | rfl | rfl
  ·simp at h2 ⊢
   intro hx
   have := h.ints hx
   omega
  ·simp at h2 ⊢
   intro hx
   have := h.ints hx
   omega
  ·simp at h2 ⊢
   intro hx e
   have := h.txts hx
   rw [e] at this
   rw [this.1, this.2] at h2
   simp at h2
  ·simp at h2 ⊢
   intro hx
   have ht := h.txts hx
   rcases h2 with h2 | ⟨h2, h3⟩
   ·cases e : T.begins t x.s with
    | false => rfl
    | true =>
     have h5 := T.begins_ge e
     have h6 := T.ge_lt ht.2 h2
     rw [h6] at h5
     exact h5
   ·exact begins_mid h2 h3 ht.1
  ·exact absurd rfl h9
 rw [if_neg h2]
 by_cases h3 : (alw k n t z && decide (z.u = 0)) = true
 ·rw [if_pos h3]
  refine ⟨fun h => by omega, fun _ => ?_⟩
  rw [Bool.and_eq_true, decide_eq_true_eq] at h3
  have hx0 := h.none_ h3.2 h1a
  have hxk : x.k = (if k = 4 ∨ k = 5 then 1 else 2) := by
   rcases h.kind with h4 | h4
   ·exact absurd h4 hx0
   ·rw [h4.1, h1b]
  have h3 := h3.1
  unfold alw at h3
  unfold cellP
  rcases hk with rfl | rfl | rfl | rfl | rfl
  ·simp at h3 hxk ⊢
   have := h.ints hxk
   omega
  ·simp at h3 hxk ⊢
   have := h.ints hxk
   omega
  ·simp at h3 hxk ⊢
   have := h.txts hxk
   rw [h3.1, h3.2] at this
   refine ⟨hxk, ?_⟩
   rcases T.ge_iff this.1 with e | e
   ·exact e
   ·rw [this.2] at e; cases e
  ·simp at h3 hxk ⊢
   have := h.txts hxk
   exact ⟨hxk, begins_both h3.1 h3.2 this.1 this.2⟩
  ·exact absurd rfl h9
 ·rw [if_neg h3]
  exact ⟨fun h => by omega, fun h => by omega⟩
/-- What is known is so of these rows. -/
structure Tells (s : St) (R : List Rw) : Prop where
 time : ∀ r ∈ R, s.lo ≤ r.t ∧ r.t ≤ s.hi
 zone : ∀ c, ∀ r ∈ R, Dc (zoneOf s c) (Rw.cell r.c c)
 may : ∀ c, ∀ r ∈ R, (Rw.cell r.c c).k = 2 → mayB s c (Rw.cell r.c c).s = true
theorem isJ_range (s : St) (f : Fg) (c t : List UInt8) : 1 ≤ isJ s f c t ∧ isJ s f c t ≤ 3 := by
 unfold isJ
 have := zn_range 6 0 t (zoneOf s c)
 repeat' split
 all_goals omega
theorem isJ_sound {s : St} {R : List Rw} (h : Tells s R) (f : Fg) (c t : List UInt8) {r : Rw} (hr : r ∈ R) : (isJ s f c t = 1 → ¬ ((Rw.cell r.c c).k = 2 ∧ (Rw.cell r.c c).s = t)) ∧ (isJ s f c t = 3 → (Rw.cell r.c c).k = 2 ∧ (Rw.cell r.c c).s = t) := by
 unfold isJ
 by_cases h1 : (f.bl && !mayB s c t) = true
 ·rw [if_pos h1]
  refine ⟨fun _ hx => ?_, fun h => by omega⟩
  have := h.may c r hr hx.1
  rw [hx.2] at this
  rw [this] at h1
  simp at h1
 ·rw [if_neg h1]
  by_cases h2 : f.zo = true
  ·rw [if_pos h2]
   have hz := zn_sound (k := 6) (n := 0) (t := t) (by omega) (h.zone c r hr)
   have e : cellP 6 0 t (Rw.cell r.c c) = decide ((Rw.cell r.c c).k = 2 ∧ (Rw.cell r.c c).s = t) := rfl
   rw [e] at hz
   exact ⟨fun h3 => by have := hz.1 h3; simpa using this, fun h3 => by have := hz.2 h3; simpa using this⟩
  ·rw [if_neg h2]
   exact ⟨fun h => by omega, fun h => by omega⟩
theorem lo_all (l : List Nat) : (lo l = 3 ∨ lo l ∈ l) ∧ lo l ≤ 3 ∧ ∀ x ∈ l, lo l ≤ x := lo_fold l 3
theorem hi_all (l : List Nat) : (hi l = 1 ∨ hi l ∈ l) ∧ 1 ≤ hi l ∧ ∀ x ∈ l, x ≤ hi l := hi_fold l 1
theorem leafJ_range (s : St) (f : Fg) (h : Hd) : 1 ≤ leafJ s f h ∧ leafJ s f h ≤ 3 := by
 unfold leafJ
 have h1 := zn_range h.k h.n h.s (zoneOf s h.col)
 have h2 := isJ_range s f h.col h.s
 have h3 := hi_all (h.set.map (isJ s f h.col))
 split
 ·refine ⟨h3.2.1, ?_⟩
  rcases h3.1 with e | e
  ·omega
  ·obtain ⟨x, _, hx⟩ := List.mem_map.1 e
   rw [← hx]
   exact (isJ_range s f h.col x).2
 repeat' split
 all_goals omega
theorem leafJ_sound {s : St} {R : List Rw} (ht : Tells s R) (f : Fg) {h : Hd} {n : Nat} (hp : Pd.part h n = true) (hk : 4 ≤ h.k) {r : Rw} (hr : r ∈ R) : (leafJ s f h = 1 → Pd.leaf r h = false) ∧ (leafJ s f h = 3 → Pd.leaf r h = true) := by
 have hkk := Pd.part_kind hp
 unfold leafJ
 by_cases h7 : h.k = 7
 ·rw [if_pos h7]
  have e : Pd.leaf r h = decide ((Rw.cell r.c h.col).k = 2 ∧ (Rw.cell r.c h.col).s ∈ h.set) := by unfold Pd.leaf; rw [if_neg (by omega), if_neg (by omega), if_neg (by omega), if_pos h7]
  rw [e]
  have ha := hi_all (h.set.map (isJ s f h.col))
  refine ⟨fun e1 => ?_, fun e3 => ?_⟩
  ·rw [decide_eq_false_iff_not]
   rintro ⟨hx, hm⟩
   have h1 := ha.2.2 _ (List.mem_map.2 ⟨_, hm, rfl⟩)
   have h2 := isJ_range s f h.col (Rw.cell r.c h.col).s
   exact (isJ_sound ht f h.col (Rw.cell r.c h.col).s hr).1 (by omega) ⟨hx, rfl⟩
  ·rw [decide_eq_true_eq]
   rcases ha.1 with h1 | h1
   ·omega
   ·obtain ⟨t, hm, h2⟩ := List.mem_map.1 h1
    have h3 := (isJ_sound ht f h.col t hr).2 (by omega)
    exact ⟨h3.1, by rw [h3.2]; exact hm⟩
 rw [if_neg h7]
 by_cases h10 : h.k = 10
 ·rw [if_pos h10]
  have e : Pd.leaf r h = decide (h.n ≤ r.t ∧ r.t ≤ h.m) := by unfold Pd.leaf; rw [if_neg (by omega), if_neg (by omega), if_neg (by omega), if_neg (by omega), if_neg (by omega), if_neg (by omega), if_pos h10]
  rw [e]
  have h1 := ht.time r hr
  split
  ·exact ⟨fun h => by omega, fun h => by omega⟩
  split
  ·exact ⟨fun _ => by rw [decide_eq_false_iff_not]; omega, fun h => by omega⟩
  split
  ·exact ⟨fun h => by omega, fun _ => by rw [decide_eq_true_eq]; omega⟩
  ·exact ⟨fun h => by omega, fun h => by omega⟩
 rw [if_neg h10]
 by_cases h6 : h.k = 6
 ·rw [if_pos h6]
  have e : Pd.leaf r h = decide ((Rw.cell r.c h.col).k = 2 ∧ (Rw.cell r.c h.col).s = h.s) := by unfold Pd.leaf; rw [if_neg (by omega), if_neg (by omega), if_pos h6]
  rw [e]
  have := isJ_sound ht f h.col h.s hr
  exact ⟨fun h1 => by rw [decide_eq_false_iff_not]; exact this.1 h1, fun h1 => by rw [decide_eq_true_eq]; exact this.2 h1⟩
 rw [if_neg h6]
 by_cases hz : f.zo = true
 ·rw [if_pos hz]
  have hs := zn_sound (k := h.k) (n := h.n) (t := h.s) (by omega) (ht.zone h.col r hr)
  have e : Pd.leaf r h = cellP h.k h.n h.s (Rw.cell r.c h.col) := by
   unfold Pd.leaf cellP
   by_cases q4 : h.k = 4
   ·rw [if_pos q4, if_pos q4]
   rw [if_neg q4, if_neg q4]
   by_cases q5 : h.k = 5
   ·rw [if_pos q5, if_pos q5]
   rw [if_neg q5, if_neg q5, if_neg h6, if_neg h6, if_neg h7]
   by_cases q8 : h.k = 8
   ·rw [if_pos q8, if_pos q8]
   rw [if_neg q8, if_neg q8, if_pos (by omega)]
  rw [e]
  exact hs
 ·rw [if_neg hz]
  exact ⟨fun h => by omega, fun h => by omega⟩
/-- P14.2: what is Never is true of none, what is Always of each. -/
theorem jd_sound {s : St} {R : List Rw} (ht : Tells s R) (f : Fg) : ∀ p, Pd.form p = true → (1 ≤ jd s f p ∧ jd s f p ≤ 3) ∧ ∀ r ∈ R, (jd s f p = 1 → Pd.ev r p = false) ∧ (jd s f p = 3 → Pd.ev r p = true) := by
 refine Pd.tree ?_
 intro h l ih hf
 rw [Pd.form_mk, Bool.and_eq_true, List.all_eq_true] at hf
 obtain ⟨hp, hl⟩ := hf
 have hkk := Pd.part_kind hp
 have ih' : ∀ k ∈ l, (1 ≤ jd s f k ∧ jd s f k ≤ 3) ∧ ∀ r ∈ R, (jd s f k = 1 → Pd.ev r k = false) ∧ (jd s f k = 3 → Pd.ev r k = true) := fun k hk => ih k hk (hl k hk)
 rw [jd_mk]
 by_cases h1 : h.k = 1
 ·rw [if_pos h1]
  have ha := lo_all (l.map (jd s f))
  refine ⟨⟨?_, ha.2.1⟩, fun r hr => ?_⟩
  ·rcases ha.1 with e | e
   ·omega
   ·obtain ⟨k, hk, e2⟩ := List.mem_map.1 e
    rw [← e2]; exact (ih' k hk).1.1
  ·rw [Pd.ev_mk, if_pos h1]
   refine ⟨fun e => ?_, fun e => ?_⟩
   ·rcases ha.1 with e2 | e2
    ·omega
    ·obtain ⟨k, hk, e3⟩ := List.mem_map.1 e2
     have := ((ih' k hk).2 r hr).1 (by omega)
     rw [List.all_eq_false]
     exact ⟨k, hk, by rw [this]; simp⟩
   ·rw [List.all_eq_true]
    intro k hk
    have h2 := ha.2.2 _ (List.mem_map.2 ⟨k, hk, rfl⟩)
    exact ((ih' k hk).2 r hr).2 (by have := (ih' k hk).1.2; omega)
 rw [if_neg h1]
 by_cases h2 : h.k = 2
 ·rw [if_pos h2]
  have ha := hi_all (l.map (jd s f))
  refine ⟨⟨ha.2.1, ?_⟩, fun r hr => ?_⟩
  ·rcases ha.1 with e | e
   ·omega
   ·obtain ⟨k, hk, e2⟩ := List.mem_map.1 e
    rw [← e2]; exact (ih' k hk).1.2
  ·rw [Pd.ev_mk, if_neg h1, if_pos h2]
   refine ⟨fun e => ?_, fun e => ?_⟩
   ·rw [List.any_eq_false]
    intro k hk
    have h3 := ha.2.2 _ (List.mem_map.2 ⟨k, hk, rfl⟩)
    rw [((ih' k hk).2 r hr).1 (by have := (ih' k hk).1.1; omega)]
    simp
   ·rcases ha.1 with e2 | e2
    ·omega
    ·obtain ⟨k, hk, e3⟩ := List.mem_map.1 e2
     rw [List.any_eq_true]
     exact ⟨k, hk, ((ih' k hk).2 r hr).2 (by omega)⟩
 rw [if_neg h2]
 by_cases h3 : h.k = 3
 ·rw [if_pos h3]
  obtain ⟨_, hn⟩ := Pd.part_not h3 hp
  obtain ⟨k, rfl⟩ := Pd.one_of hn
  have hk := ih' k (by simp)
  simp only [List.map_cons, List.map_nil, List.headD_cons]
  refine ⟨by omega, fun r hr => ?_⟩
  rw [Pd.ev_mk, if_neg h1, if_neg h2, if_pos h3]
  simp only [List.map_cons, List.map_nil, Pd.notB]
  refine ⟨fun e => ?_, fun e => ?_⟩
  ·rw [(hk.2 r hr).2 (by omega)]; rfl
  ·rw [(hk.2 r hr).1 (by omega)]; rfl
 rw [if_neg h3]
 refine ⟨leafJ_range s f h, fun r hr => ?_⟩
 rw [Pd.ev_mk, if_neg h1, if_neg h2, if_neg h3]
 exact leafJ_sound ht f hp (by omega) hr
end Pu
end Go.Proofs.Ytibnhjfeepdddaa
