/-
  Plain facts on predicates: judged, reckoned, asked of rows, made normal. No program here. Plain facts on zones: what a zone is, when it is Right, how one is built of cells, joined. No program here. Plain facts on zones of cells: the least and the greatest of what is there, in whatever order and grouping. No program here.
-/
import Derived.Test.YtibnhjfeepdddaaM06
namespace Go.Proofs.Ytibnhjfeepdddaa
set_option linter.unusedVariables false
set_option linter.unusedSimpArgs false
namespace Pd
def hk (k : Int) : Hd := ⟨k, [], 0, 0, [], []⟩
def zero : Pr := Pr.mk' (hk 0) []
/-- Is a part what its kind asks, so many Kids beneath it? -/
def part (h : Hd) (n : Nat) : Bool :=
 if h.k = 1 ∨ h.k = 2 then decide (h.col = [] ∧ h.n = 0 ∧ h.m = 0 ∧ h.s = [] ∧ h.set = [])
 else if h.k = 3 then decide (h.col = [] ∧ h.n = 0 ∧ h.m = 0 ∧ h.s = [] ∧ h.set = [] ∧ n = 1)
 else if h.k = 4 ∨ h.k = 5 then Rw.name h.col && decide (h.m = 0 ∧ h.s = [] ∧ h.set = [] ∧ n = 0)
 else if h.k = 6 ∨ h.k = 8 then Rw.name h.col && decide (h.n = 0 ∧ h.m = 0 ∧ h.s.length ≤ 40 ∧ h.set = [] ∧ n = 0)
 else if h.k = 7 then Rw.name h.col && decide (h.n = 0 ∧ h.m = 0 ∧ h.s = [] ∧ n = 0 ∧ h.set.length ≤ 8) && T.adj h.set && h.set.all (fun s => decide (s.length ≤ 40))
 else if h.k = 9 then Rw.name h.col && decide (h.n = 0 ∧ h.m = 0 ∧ h.s = [] ∧ h.set = [] ∧ n = 0)
 else if h.k = 10 then decide (h.col = [] ∧ h.s = [] ∧ h.set = [] ∧ n = 0)
 else false
def size : Pr → Nat := rec' fun _ _ a => 1 + a.sum
def deep : Pr → Nat := rec' fun _ _ a => a.foldr max 0 + 1
def form : Pr → Bool := rec' fun h l a => part h l.length && a.all id
def right (p : Pr) : Bool := decide (deep p ≤ 6) && decide (size p ≤ 40) && form p
def own (h : Hd) : List (List UInt8) := if h.col = [] then [] else [h.col]
def cols : Pr → List (List UInt8) := rec' fun h _ a => T.bld (own h ++ a.flatten)
def leaf (r : Rw) (h : Hd) : Bool :=
 if h.k = 4 then decide ((Rw.cell r.c h.col).k = 1 ∧ (Rw.cell r.c h.col).n < h.n)
 else if h.k = 5 then decide ((Rw.cell r.c h.col).k = 1 ∧ (Rw.cell r.c h.col).n = h.n)
 else if h.k = 6 then decide ((Rw.cell r.c h.col).k = 2 ∧ (Rw.cell r.c h.col).s = h.s)
 else if h.k = 7 then decide ((Rw.cell r.c h.col).k = 2 ∧ (Rw.cell r.c h.col).s ∈ h.set)
 else if h.k = 8 then decide ((Rw.cell r.c h.col).k = 2) && T.begins h.s (Rw.cell r.c h.col).s
 else if h.k = 9 then decide ((Rw.cell r.c h.col).k = 0)
 else if h.k = 10 then decide (h.n ≤ r.t ∧ r.t ≤ h.m)
 else false
theorem size_mk (h : Hd) (l : List Pr) : size (Pr.mk' h l) = 1 + (l.map size).sum := rec_mk _ h l
theorem deep_mk (h : Hd) (l : List Pr) : deep (Pr.mk' h l) = (l.map deep).foldr max 0 + 1 := rec_mk _ h l
theorem form_mk (h : Hd) (l : List Pr) : form (Pr.mk' h l) = (part h l.length && l.all form) := by
 rw [form, rec_mk]; simp [List.all_map]
/-- Normal. -/
def put (k : Int) (p : Pr) : List Pr := if p.h.k = k then p.ks else [p]
def one (k : Int) (l : List Pr) : Pr := if l.length = 1 then l.headD zero else Pr.mk' (hk k) l
def fst (a : List (Bool → Pr)) (b : Bool) : Pr := a.headD (fun _ => zero) b
def turn (k : Int) (b : Bool) : Int := if b = true then 3 - k else k
def nrm : Pr → Bool → Pr := rec' fun h l a b =>
 if h.k = 3 then fst a (!b)
 else if h.k = 1 ∨ h.k = 2 then one (turn h.k b) (a.flatMap fun x => put (turn h.k b) (x b))
 else if b = true then Pr.mk' (hk 3) [Pr.mk' h l] else Pr.mk' h l
def normal (p : Pr) : Pr := if right p = true then nrm p false else p
theorem nrm_mk (h : Hd) (l : List Pr) (b : Bool) : nrm (Pr.mk' h l) b = if h.k = 3 then fst (l.map nrm) (!b) else if h.k = 1 ∨ h.k = 2 then one (turn h.k b) (l.flatMap fun x => put (turn h.k b) (nrm x b)) else if b = true then Pr.mk' (hk 3) [Pr.mk' h l] else Pr.mk' h l := by
 rw [nrm, rec_mk]
 simp only [List.flatMap_map]
theorem part_kind {h : Hd} {n : Nat} (e : part h n = true) : 1 ≤ h.k ∧ h.k ≤ 10 := by
 unfold part at e
 split at e
 ·omega
 split at e
 ·omega
 split at e
 ·omega
 split at e
 ·omega
 split at e
 ·omega
 split at e
 ·omega
 split at e
 ·omega
 cases e
theorem part_not {h : Hd} {n : Nat} (hk' : h.k = 3) (e : part h n = true) : h = hk 3 ∧ n = 1 := by
 unfold part at e
 rw [if_neg (by omega), if_pos hk'] at e
 have e := of_decide_eq_true e
 obtain ⟨k, c, x, m, s, t⟩ := h
 simp only at e hk'
 obtain ⟨rfl, rfl, rfl, rfl, rfl, rfl⟩ := e
 subst hk'
 exact ⟨rfl, rfl⟩
theorem one_of {l : List Pr} (h : l.length = 1) : ∃ x, l = [x] := by
 match l, h with
 | [x], _ => exact ⟨x, rfl⟩
/-- As true as its Kids are. -/
def both (k : Int) (l : List Bool) : Bool := if k = 1 then l.all id else l.any id
/-- Is it normal, beneath a part of a kind? -/
def nots (l : List Pr) : Bool :=
 match l with
 | [x] => decide (3 < x.h.k)
 | _ => false
def flat : Pr → Int → Bool := rec' fun h l a u => if h.k = 3 then nots l else if h.k = 1 ∨ h.k = 2 then decide (h.k ≠ u) && decide (l.length ≠ 1) && a.all (fun x => x h.k) else true
end Pd
end Go.Proofs.Ytibnhjfeepdddaa
namespace Go.Proofs.Ytibnhjfeepdddaa
/-- A zone. -/
structure Zn where
 k : Int
 r : Int
 u : Int
 mn : Int
 mx : Int
 ms : List UInt8
 xs : List UInt8
abbrev Cel := Ce
namespace Z
abbrev le (x y : List UInt8) : Bool := !T.lt y x
def zero : Zn := ⟨0, 0, 0, 0, 0, [], []⟩
def shape (z : Zn) : Bool := decide (z.k = 1 ∨ z.k = 2) && decide (0 ≤ z.u) && decide (z.u ≤ z.r) && decide (z.r ≤ 1048576) && decide (z.ms.length ≤ 40) && decide (z.xs.length ≤ 40)
def nums (z : Zn) : Bool := decide (z.mn = 0) && decide (z.mx = 0)
def texts (z : Zn) : Bool := decide (z.ms = []) && decide (z.xs = [])
def right (z : Zn) : Bool := shape z && (if z.r = z.u then nums z && texts z else if z.k = 1 then texts z && decide (z.mn ≤ z.mx) else nums z && le z.ms z.xs)
/-- One cell more. -/
def step (k : Int) (z : Zn × Bool) (c : Cel) : Zn × Bool :=
 if c.k ≠ k ∨ c.k = 0 then ({ z.1 with u := z.1.u + 1 }, z.2)
 else if k = 1 then ({ z.1 with mn := if z.2 = true ∨ c.n < z.1.mn then c.n else z.1.mn, mx := if z.2 = true ∨ z.1.mx < c.n then c.n else z.1.mx }, false)
 else if k = 2 then ({ z.1 with ms := if z.2 = true ∨ T.lt c.s z.1.ms = true then c.s else z.1.ms, xs := if z.2 = true ∨ T.lt z.1.xs c.s = true then c.s else z.1.xs }, false)
 else (z.1, false)
def fold (k : Int) (n : Int) (l : List Cel) : Zn × Bool := l.foldl (step k) (⟨k, n, 0, 0, 0, [], []⟩, true)
def build (k : Int) (l : List Cel) : Zn := (fold k l.length l).1
/-- Both columns, one behind the other. -/
def both (a b : Zn) : Zn :=
 let z := if a.r = a.u then b else a
 let y := if a.u < a.r ∧ b.u < b.r then { z with mn := if b.mn < z.mn then b.mn else z.mn, mx := if z.mx < b.mx then b.mx else z.mx, ms := if T.lt b.ms z.ms = true then b.ms else z.ms, xs := if T.lt z.xs b.xs = true then b.xs else z.xs } else z
 { y with r := a.r + b.r, u := a.u + b.u }
end Z
end Go.Proofs.Ytibnhjfeepdddaa
namespace Go.Proofs.Ytibnhjfeepdddaa.Z
open Go.Proofs.Ytibnhjfeepdddaa
theorem snoc_ind {α : Type} {P : List α → Prop} (h0 : P []) (hs : ∀ l a, P l → P (l ++ [a])) : ∀ (n : Nat) (l : List α), l.length = n → P l
 | 0, l, h => by rw [List.eq_nil_of_length_eq_zero h]; exact h0
 | n + 1, l, h => by
  have hne : l ≠ [] := by intro e; rw [e] at h; simp at h
  rw [← List.dropLast_concat_getLast hne]
  exact hs _ _ (snoc_ind h0 hs n _ (by simp; omega))
/-- An order, as a Boolean. -/
structure Ord' (α : Type) where
 lt : α → α → Bool
 irr : ∀ a, lt a a = false
 tr : ∀ a b c, lt a b = true → lt b c = true → lt a c = true
 tot : ∀ a b, lt a b = true ∨ a = b ∨ lt b a = true
section
variable {α : Type} (o : Ord' α)
theorem Ord'.asy {a b : α} (h : o.lt a b = true) : o.lt b a = false := by
 cases hb : o.lt b a with
 | false => rfl
 | true => have := o.tr a b a h hb; rw [o.irr] at this; cases this
def mn2 (a b : α) : α := if o.lt b a = true then b else a
def mx2 (a b : α) : α := if o.lt a b = true then b else a
theorem mn2_self (a : α) : mn2 o a a = a := by simp [mn2, o.irr]
theorem mx2_self (a : α) : mx2 o a a = a := by simp [mx2, o.irr]
theorem mn2_comm (a b : α) : mn2 o a b = mn2 o b a := by
 unfold mn2
 rcases o.tot a b with h | h | h
 ·simp [h, o.asy h]
 ·subst h; rfl
 ·simp [h, o.asy h]
theorem mx2_comm (a b : α) : mx2 o a b = mx2 o b a := by
 unfold mx2
 rcases o.tot a b with h | h | h
 ·simp [h, o.asy h]
 ·subst h; rfl
 ·simp [h, o.asy h]
theorem mn2_assoc (a b c : α) : mn2 o (mn2 o a b) c = mn2 o a (mn2 o b c) := by
 unfold mn2
 cases h1 : o.lt b a with
 | true =>
  simp only [if_true]
  cases h2 : o.lt c b with
  | true => simp [o.tr c b a h2 h1]
  | false => simp [h1]
 | false =>
  simp only [Bool.false_eq_true, if_false]
  cases h2 : o.lt c b with
  | true => rfl
  | false =>
   simp only [Bool.false_eq_true, if_false, h1]
   cases h3 : o.lt c a with
   | false => simp
   | true =>
    exfalso
    rcases o.tot a b with h | h | h
    ·have := o.tr c a b h3 h; rw [h2] at this; cases this
    ·subst h; rw [h2] at h3; cases h3
    ·rw [h1] at h; cases h
theorem mx2_assoc (a b c : α) : mx2 o (mx2 o a b) c = mx2 o a (mx2 o b c) := by
 unfold mx2
 cases h1 : o.lt a b with
 | true =>
  simp only [if_true]
  cases h2 : o.lt b c with
  | true => simp [o.tr a b c h1 h2]
  | false => simp [h1]
 | false =>
  simp only [Bool.false_eq_true, if_false]
  cases h2 : o.lt b c with
  | true => rfl
  | false =>
   simp only [Bool.false_eq_true, if_false, h1]
   cases h3 : o.lt a c with
   | false => simp
   | true =>
    exfalso
    rcases o.tot a b with h | h | h
    ·rw [h1] at h; cases h
    ·subst h; rw [h2] at h3; cases h3
    ·have := o.tr b a c h h3; rw [h2] at this; cases this
/-- The least and the greatest of two lots, of which one may be empty. -/
def comb : Option (α × α) → Option (α × α) → Option (α × α)
 | none, y => y
 | some x, none => some x
 | some x, some y => some (mn2 o x.1 y.1, mx2 o x.2 y.2)
theorem comb_none (x : Option (α × α)) : comb o x none = x := by cases x <;> rfl
theorem comb_comm (x y : Option (α × α)) : comb o x y = comb o y x := by
 cases x <;> cases y <;> simp [comb]
 exact ⟨mn2_comm o _ _, mx2_comm o _ _⟩
theorem comb_assoc (x y z : Option (α × α)) : comb o (comb o x y) z = comb o x (comb o y z) := by
 cases x <;> cases y <;> cases z <;> simp [comb]
 exact ⟨mn2_assoc o _ _ _, mx2_assoc o _ _ _⟩
theorem comb_self (x : Option (α × α)) : comb o x x = x := by cases x <;> simp [comb, mn2_self, mx2_self]
/-- The least and the greatest of a list. -/
def ends (l : List α) : Option (α × α) := l.foldl (fun s x => comb o s (some (x, x))) none
theorem ends_snoc (l : List α) (x : α) : ends o (l ++ [x]) = comb o (ends o l) (some (x, x)) := by simp [ends]
theorem ends_append (l m : List α) : ends o (l ++ m) = comb o (ends o l) (ends o m) :=
 snoc_ind (P := fun m => ends o (l ++ m) = comb o (ends o l) (ends o m)) (by simp [ends, comb_none]) (fun m x ih => by
  rw [← List.append_assoc, ends_snoc, ih, ends_snoc, comb_assoc]) m.length m rfl
theorem ends_none (l : List α) : ends o l = none ↔ l = [] := by
 constructor
 ·intro h
  refine Decidable.byContradiction fun hne => ?_
  rw [← List.dropLast_concat_getLast hne, ends_snoc] at h
  cases hx : ends o l.dropLast <;> rw [hx] at h <;> simp [comb] at h
 ·rintro rfl; rfl
theorem ends_le (l : List α) : ∀ p, ends o l = some p → o.lt p.2 p.1 = false ∧ ∀ x ∈ l, o.lt x p.1 = false ∧ o.lt p.2 x = false :=
 snoc_ind (P := fun l => ∀ p, ends o l = some p → o.lt p.2 p.1 = false ∧ ∀ x ∈ l, o.lt x p.1 = false ∧ o.lt p.2 x = false) (by intro p h; simp [ends] at h) (fun l x ih p h => by
  rw [ends_snoc] at h
  cases hl : ends o l with
  | none =>
   have h0 := (ends_none o l).1 hl
   subst h0
   rw [hl] at h
   simp [comb] at h
   subst h
   simp [o.irr]
  | some q =>
   rw [hl] at h
   simp only [comb, Option.some.injEq] at h
   subst h
   obtain ⟨i1, i2⟩ := ih q hl
   have ge : ∀ {a b c : α}, o.lt b a = false → o.lt c b = false → o.lt c a = false := fun {a b c} h1 h2 => by
    cases h3 : o.lt c a with
    | false => rfl
    | true =>
     rcases o.tot b c with h | h | h
     ·have := o.tr b c a h h3; rw [h1] at this; cases this
     ·subst h; rw [h1] at h3; cases h3
     ·rw [h2] at h; cases h
   have m1 : o.lt q.1 (mn2 o q.1 x) = false ∧ o.lt x (mn2 o q.1 x) = false := by
    unfold mn2
    cases hq : o.lt x q.1 with
    | true => simp [o.irr, o.asy hq]
    | false => simp [o.irr, hq]
   have m2 : o.lt (mx2 o q.2 x) q.2 = false ∧ o.lt (mx2 o q.2 x) x = false := by
    unfold mx2
    cases hq : o.lt q.2 x with
    | true => simp [o.irr, o.asy hq]
    | false => simp [o.irr, hq]
   refine ⟨?_, fun y hy => ?_⟩
   ·exact ge (ge m1.1 i1) m2.1
   ·rcases List.mem_append.1 hy with hy | hy
    ·exact ⟨ge m1.1 (i2 y hy).1, ge (i2 y hy).2 m2.1⟩
    ·simp at hy
     subst hy
     exact ⟨m1.2, m2.2⟩) l.length l rfl
end
def oI : Ord' Int := ⟨fun a b => decide (a < b), by simp, by simp; omega, by simp; omega⟩
def oT : Ord' (List UInt8) := ⟨T.lt, T.lt_irrefl, fun _ _ _ => T.lt_trans, T.lt_total⟩
end Go.Proofs.Ytibnhjfeepdddaa.Z
