/-
  Plain facts on columns as rows bring them. No program here. Columns as rows bring them, step by step: what the walk of Grow wants. No program here. Plain facts on what needn't be read: how a predicate is judged by what is known of some rows; what is Never is true of none of them, what is Always of each. No program here.
-/
import Derived.Test.YtibnhjfeepdddaaM06
import Derived.Test.YtibnhjfeepdddaaM07
import Derived.Test.YtibnhjfeepdddaaM08
namespace Go.Proofs.Ytibnhjfeepdddaa
set_option linter.unusedVariables false
set_option linter.unusedSimpArgs false
namespace Rw
def colOk (c : Co) : Bool := name c.nm && (decide (c.k = 1) || decide (c.k = 2))
def colsOk (l : List Co) : Bool := l.all colOk && T.adj (l.map Co.nm) && decide (l.length ≤ 12)
def co (c : Ce) : Co := ⟨c.col, c.k⟩
/-- One cell more. -/
def addC (c : Co) : List Co → Option (List Co)
 | [] => some [c]
 | y :: r => if T.lt y.nm c.nm = true then (addC c r).map (y :: ·) else if y.nm = c.nm then (if y.k = c.k then some (y :: r) else none) else some (c :: y :: r)
def addR (o : List Co) : List Ce → Option (List Co)
 | [] => some o
 | c :: l => (addC (co c) o).bind fun n => addR n l
def growF : Nat → List Co → List Rw → List Co × Nat × Nat
 | i, o, [] => (o, 0, 0)
 | i, o, r :: l =>
  if right r = true then
   match addR o r.c with
   | none => ([], 22, i)
   | some n => if n.length ≤ 12 then growF (i + 1) n l else ([], 4, i)
  else ([], 1, i)
def grow (cols : List Co) (l : List Rw) : List Co × Nat × Nat := if colsOk cols = true then growF 0 cols l else ([], 1, 0)
end Rw
end Go.Proofs.Ytibnhjfeepdddaa
namespace Go.Proofs.Ytibnhjfeepdddaa
set_option linter.unusedVariables false
set_option linter.unusedSimpArgs false
namespace Rw
end Rw
end Go.Proofs.Ytibnhjfeepdddaa
namespace Go.Proofs.Ytibnhjfeepdddaa
/-- What is known of some rows. -/
structure St where
 rows : Int
 lo : Int
 hi : Int
 zs : List (List UInt8 × Zn)
 bs : List (List UInt8 × Int × List UInt8)
/-- Which flags are set: times, zones, filters. -/
structure Fg where
 tk : Bool
 zo : Bool
 bl : Bool
namespace Pu
def zoneOf (s : St) (c : List UInt8) : Zn := ((s.zs.find? fun x => decide (x.1 = c)).map (·.2)).getD ⟨0, s.rows, s.rows, 0, 0, [], []⟩
def mayB (s : St) (c t : List UInt8) : Bool := ((s.bs.find? fun x => decide (x.1 = c)).map fun x => Fl.may x.2.1 x.2.2 t).getD true
def nev (k n : Int) (t : List UInt8) (z : Zn) : Bool :=
 if k = 4 then decide (n ≤ z.mn) else if k = 5 then decide (n < z.mn) || decide (z.mx < n) else if k = 6 then T.lt t z.ms || T.lt z.xs t
 else if k = 8 then T.lt z.xs t || (T.lt t z.ms && !T.begins t z.ms) else false
def alw (k n : Int) (t : List UInt8) (z : Zn) : Bool :=
 if k = 4 then decide (z.mx < n) else if k = 5 then decide (z.mn = n) && decide (z.mx = n) else if k = 6 then decide (z.ms = t) && decide (z.xs = t)
 else if k = 8 then T.begins t z.ms && T.begins t z.xs else false
def zn (k n : Int) (t : List UInt8) (z : Zn) : Nat :=
 if k = 9 then (if z.u = z.r then 3 else if z.u = 0 then 1 else 2)
 else if z.u = z.r ∨ z.k ≠ (if k = 4 ∨ k = 5 then 1 else 2) then 1
 else if nev k n t z = true then 1 else if (alw k n t z && decide (z.u = 0)) = true then 3 else 2
def isJ (s : St) (f : Fg) (c t : List UInt8) : Nat := if (f.bl && !mayB s c t) = true then 1 else if f.zo = true then zn 6 0 t (zoneOf s c) else 2
def lo (l : List Nat) : Nat := l.foldl (fun o k => if k < o then k else o) 3
def hi (l : List Nat) : Nat := l.foldl (fun o k => if o < k then k else o) 1
def leafJ (s : St) (f : Fg) (h : Hd) : Nat :=
 if h.k = 7 then hi (h.set.map (isJ s f h.col))
 else if h.k = 10 then (if f.tk = false then 2 else if h.m < h.n ∨ s.hi < h.n ∨ h.m < s.lo then 1 else if h.n ≤ s.lo ∧ s.hi ≤ h.m then 3 else 2)
 else if h.k = 6 then isJ s f h.col h.s
 else if f.zo = true then zn h.k h.n h.s (zoneOf s h.col) else 2
def jd (s : St) (f : Fg) : Pr → Nat := Pd.rec' fun h _ a => if h.k = 1 then lo a else if h.k = 2 then hi a else if h.k = 3 then 4 - a.headD 0 else leafJ s f h
theorem jd_mk (s : St) (f : Fg) (h : Hd) (l : List Pr) : jd s f (Pr.mk' h l) = if h.k = 1 then lo (l.map (jd s f)) else if h.k = 2 then hi (l.map (jd s f)) else if h.k = 3 then 4 - (l.map (jd s f)).headD 0 else leafJ s f h := Pd.rec_mk _ h l
def judge (s : St) (f : Fg) (p : Pr) : Nat := if Pd.right p = true then (if s.rows = 0 then 1 else jd s f (Pd.nrm p false)) else 2
theorem lo_fold : ∀ (l : List Nat) (o : Nat), (l.foldl (fun o k => if k < o then k else o) o = o ∨ l.foldl (fun o k => if k < o then k else o) o ∈ l) ∧ l.foldl (fun o k => if k < o then k else o) o ≤ o ∧ ∀ x ∈ l, l.foldl (fun o k => if k < o then k else o) o ≤ x
 | [], o => ⟨.inl rfl, Nat.le_refl _, fun x hx => by simp at hx⟩
 | y :: l, o => by
  simp only [List.foldl_cons]
  obtain ⟨h1, h2, h3⟩ := lo_fold l (if y < o then y else o)
  by_cases hy : y < o
  ·rw [if_pos hy] at h1 h2 h3 ⊢
   refine ⟨.inr ?_, by omega, fun x hx => ?_⟩
   ·rcases h1 with h1 | h1
    ·rw [h1]; simp
    ·exact List.mem_cons_of_mem _ h1
   ·rcases List.mem_cons.1 hx with rfl | hx
    ·exact h2
    ·exact h3 x hx
  ·rw [if_neg hy] at h1 h2 h3 ⊢
   refine ⟨?_, h2, fun x hx => ?_⟩
   ·rcases h1 with h1 | h1
    ·exact .inl h1
    ·exact .inr (List.mem_cons_of_mem _ h1)
   ·rcases List.mem_cons.1 hx with rfl | hx
    ·omega
    ·exact h3 x hx
theorem hi_fold : ∀ (l : List Nat) (o : Nat), (l.foldl (fun o k => if o < k then k else o) o = o ∨ l.foldl (fun o k => if o < k then k else o) o ∈ l) ∧ o ≤ l.foldl (fun o k => if o < k then k else o) o ∧ ∀ x ∈ l, x ≤ l.foldl (fun o k => if o < k then k else o) o
 | [], o => ⟨.inl rfl, Nat.le_refl _, fun x hx => by simp at hx⟩
 | y :: l, o => by
  simp only [List.foldl_cons]
  obtain ⟨h1, h2, h3⟩ := hi_fold l (if o < y then y else o)
  by_cases hy : o < y
  ·rw [if_pos hy] at h1 h2 h3 ⊢
   refine ⟨.inr ?_, by omega, fun x hx => ?_⟩
   ·rcases h1 with h1 | h1
    ·rw [h1]; simp
    ·exact List.mem_cons_of_mem _ h1
   ·rcases List.mem_cons.1 hx with rfl | hx
    ·exact h2
    ·exact h3 x hx
  ·rw [if_neg hy] at h1 h2 h3 ⊢
   refine ⟨?_, h2, fun x hx => ?_⟩
   ·rcases h1 with h1 | h1
    ·exact .inl h1
    ·exact .inr (List.mem_cons_of_mem _ h1)
   ·rcases List.mem_cons.1 hx with rfl | hx
    ·omega
    ·exact h3 x hx
theorem zn_range (k n : Int) (t : List UInt8) (z : Zn) : 1 ≤ zn k n t z ∧ zn k n t z ≤ 3 := by
 unfold zn
 repeat' split
 all_goals omega
theorem isJ_range (s : St) (f : Fg) (c t : List UInt8) : 1 ≤ isJ s f c t ∧ isJ s f c t ≤ 3 := by
 unfold isJ
 have := zn_range 6 0 t (zoneOf s c)
 repeat' split
 all_goals omega
theorem lo_all (l : List Nat) : (lo l = 3 ∨ lo l ∈ l) ∧ lo l ≤ 3 ∧ ∀ x ∈ l, lo l ≤ x := lo_fold l 3
theorem hi_all (l : List Nat) : (hi l = 1 ∨ hi l ∈ l) ∧ 1 ≤ hi l ∧ ∀ x ∈ l, x ≤ hi l := hi_fold l 1
theorem leafJ_range (s : St) (f : Fg) (h : Hd) : 1 ≤ leafJ s f h ∧ leafJ s f h ≤ 3 := by
 unfold leafJ
 have h1 := zn_range h.k h.n h.s (zoneOf s h.col)
 have h2 := isJ_range s f h.col h.s
 have h3 := hi_all (h.set.map (isJ s f h.col))
 split
 ·refine ⟨h3.2.1, ?_⟩
  rcases h3.1 with e | e
  ·omega
  ·obtain ⟨x, _, hx⟩ := List.mem_map.1 e
   rw [← hx]
   exact (isJ_range s f h.col x).2
 repeat' split
 all_goals omega
end Pu
end Go.Proofs.Ytibnhjfeepdddaa
