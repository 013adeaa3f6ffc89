/-
  Plain facts on predicates: judged, reckoned, asked of rows, made normal. No program here. Plain facts on zones: what a zone is, when it is Right, how one is built of cells, joined. No program here. Plain facts on zones of cells: the least and the greatest of what is there, in whatever order and grouping. No program here. What Build answers: the least and the greatest of the cells that count. No program here.
-/
import Derived.Test.YtibnhjfeepdddaaM06
namespace Go.Proofs.Ytibnhjfeepdddaa
set_option linter.unusedVariables false
set_option linter.unusedSimpArgs false
namespace Pd
def hk (k : Int) : Hd := ⟨k, [], 0, 0, [], []⟩
def zero : Pr := Pr.mk' (hk 0) []
/-- Is a part what its kind asks, so many Kids beneath it? -/
def part (h : Hd) (n : Nat) : Bool :=
 if h.k = 1 ∨ h.k = 2 then decide (h.col = [] ∧ h.n = 0 ∧ h.m = 0 ∧ h.s = [] ∧ h.set = [])
 else if h.k = 3 then decide (h.col = [] ∧ h.n = 0 ∧ h.m = 0 ∧ h.s = [] ∧ h.set = [] ∧ n = 1)
 else if h.k = 4 ∨ h.k = 5 then Rw.name h.col && decide (h.m = 0 ∧ h.s = [] ∧ h.set = [] ∧ n = 0)
 else if h.k = 6 ∨ h.k = 8 then Rw.name h.col && decide (h.n = 0 ∧ h.m = 0 ∧ h.s.length ≤ 40 ∧ h.set = [] ∧ n = 0)
 else if h.k = 7 then Rw.name h.col && decide (h.n = 0 ∧ h.m = 0 ∧ h.s = [] ∧ n = 0 ∧ h.set.length ≤ 8) && T.adj h.set && h.set.all (fun s => decide (s.length ≤ 40))
 else if h.k = 9 then Rw.name h.col && decide (h.n = 0 ∧ h.m = 0 ∧ h.s = [] ∧ h.set = [] ∧ n = 0)
 else if h.k = 10 then decide (h.col = [] ∧ h.s = [] ∧ h.set = [] ∧ n = 0)
 else false
def size : Pr → Nat := rec' fun _ _ a => 1 + a.sum
def deep : Pr → Nat := rec' fun _ _ a => a.foldr max 0 + 1
def form : Pr → Bool := rec' fun h l a => part h l.length && a.all id
def right (p : Pr) : Bool := decide (deep p ≤ 6) && decide (size p ≤ 40) && form p
def own (h : Hd) : List (List UInt8) := if h.col = [] then [] else [h.col]
def cols : Pr → List (List UInt8) := rec' fun h _ a => T.bld (own h ++ a.flatten)
def leaf (r : Rw) (h : Hd) : Bool :=
 if h.k = 4 then decide ((Rw.cell r.c h.col).k = 1 ∧ (Rw.cell r.c h.col).n < h.n)
 else if h.k = 5 then decide ((Rw.cell r.c h.col).k = 1 ∧ (Rw.cell r.c h.col).n = h.n)
 else if h.k = 6 then decide ((Rw.cell r.c h.col).k = 2 ∧ (Rw.cell r.c h.col).s = h.s)
 else if h.k = 7 then decide ((Rw.cell r.c h.col).k = 2 ∧ (Rw.cell r.c h.col).s ∈ h.set)
 else if h.k = 8 then decide ((Rw.cell r.c h.col).k = 2) && T.begins h.s (Rw.cell r.c h.col).s
 else if h.k = 9 then decide ((Rw.cell r.c h.col).k = 0)
 else if h.k = 10 then decide (h.n ≤ r.t ∧ r.t ≤ h.m)
 else false
def notB : List Bool → Bool
 | [] => false
 | b :: _ => !b
def ev (r : Rw) : Pr → Bool := rec' fun h _ a => if h.k = 1 then a.all id else if h.k = 2 then a.any id else if h.k = 3 then notB a else leaf r h
theorem size_mk (h : Hd) (l : List Pr) : size (Pr.mk' h l) = 1 + (l.map size).sum := rec_mk _ h l
theorem deep_mk (h : Hd) (l : List Pr) : deep (Pr.mk' h l) = (l.map deep).foldr max 0 + 1 := rec_mk _ h l
theorem form_mk (h : Hd) (l : List Pr) : form (Pr.mk' h l) = (part h l.length && l.all form) := by
 rw [form, rec_mk]; simp [List.all_map]
theorem ev_mk (r : Rw) (h : Hd) (l : List Pr) : ev r (Pr.mk' h l) = if h.k = 1 then l.all (ev r) else if h.k = 2 then l.any (ev r) else if h.k = 3 then notB (l.map (ev r)) else leaf r h := by
 rw [ev, rec_mk]; simp [List.all_map, List.any_map]
/-- Normal. -/
def put (k : Int) (p : Pr) : List Pr := if p.h.k = k then p.ks else [p]
def one (k : Int) (l : List Pr) : Pr := if l.length = 1 then l.headD zero else Pr.mk' (hk k) l
def fst (a : List (Bool → Pr)) (b : Bool) : Pr := a.headD (fun _ => zero) b
def turn (k : Int) (b : Bool) : Int := if b = true then 3 - k else k
def nrm : Pr → Bool → Pr := rec' fun h l a b =>
 if h.k = 3 then fst a (!b)
 else if h.k = 1 ∨ h.k = 2 then one (turn h.k b) (a.flatMap fun x => put (turn h.k b) (x b))
 else if b = true then Pr.mk' (hk 3) [Pr.mk' h l] else Pr.mk' h l
def normal (p : Pr) : Pr := if right p = true then nrm p false else p
theorem nrm_mk (h : Hd) (l : List Pr) (b : Bool) : nrm (Pr.mk' h l) b = if h.k = 3 then fst (l.map nrm) (!b) else if h.k = 1 ∨ h.k = 2 then one (turn h.k b) (l.flatMap fun x => put (turn h.k b) (nrm x b)) else if b = true then Pr.mk' (hk 3) [Pr.mk' h l] else Pr.mk' h l := by
 rw [nrm, rec_mk]
 simp only [List.flatMap_map]
theorem part_kind {h : Hd} {n : Nat} (e : part h n = true) : 1 ≤ h.k ∧ h.k ≤ 10 := by
 unfold part at e
 split at e
 ·omega
 split at e
 ·omega
 split at e
 ·omega
 split at e
 ·omega
 split at e
 ·omega
 split at e
 ·omega
 split at e
 ·omega
 cases e
theorem part_not {h : Hd} {n : Nat} (hk' : h.k = 3) (e : part h n = true) : h = hk 3 ∧ n = 1 := by
 unfold part at e
 rw [if_neg (by omega), if_pos hk'] at e
 have e := of_decide_eq_true e
 obtain ⟨k, c, x, m, s, t⟩ := h
 simp only at e hk'
 obtain ⟨rfl, rfl, rfl, rfl, rfl, rfl⟩ := e
 subst hk'
 exact ⟨rfl, rfl⟩
theorem one_of {l : List Pr} (h : l.length = 1) : ∃ x, l = [x] := by
 match l, h with
 | [x], _ => exact ⟨x, rfl⟩
/-- As true as its Kids are. -/
def both (k : Int) (l : List Bool) : Bool := if k = 1 then l.all id else l.any id
theorem ev_kids (r : Rw) {p : Pr} (h : p.h.k = 1 ∨ p.h.k = 2) : ev r p = both p.h.k (p.ks.map (ev r)) := by
 rw [← mk_ks p, ev_mk, h_mk, ks_mk]
 unfold both
 rcases h with h | h
 ·rw [if_pos h, if_pos h]; simp [List.all_map]
 ·rw [if_neg (by omega), if_pos h, if_neg (by omega)]; simp [List.any_map]
theorem both_append (k : Int) (a b : List Bool) : both k (a ++ b) = if k = 1 then both k a && both k b else both k a || both k b := by
 unfold both; split <;> simp
theorem both_one (k : Int) (x : Bool) : both k [x] = x := by unfold both; split <;> simp
theorem ev_put (r : Rw) {k : Int} (hk' : k = 1 ∨ k = 2) (p : Pr) : both k ((put k p).map (ev r)) = ev r p := by
 unfold put
 split
 ·rename_i h
  subst h
  rw [ev_kids r hk']
 ·rw [List.map_cons, List.map_nil, both_one]
theorem ev_one (r : Rw) {k : Int} (hk' : k = 1 ∨ k = 2) (l : List Pr) : ev r (one k l) = both k (l.map (ev r)) := by
 unfold one
 split
 ·rename_i h
  obtain ⟨x, rfl⟩ := one_of h
  rw [List.map_cons, List.map_nil, both_one]
  rfl
 ·rw [ev_kids r (by rw [h_mk]; exact hk'), ks_mk, h_mk]
  rfl
theorem ev_puts (r : Rw) {k : Int} (hk' : k = 1 ∨ k = 2) (l : List Pr) : both k ((l.flatMap (put k)).map (ev r)) = both k (l.map (ev r)) := by
 induction l with
 | nil => rfl
 | cons x t ih =>
  rw [List.flatMap_cons, List.map_append, both_append, ev_put r hk', ih, List.map_cons, show ev r x :: t.map (ev r) = [ev r x] ++ t.map (ev r) from rfl, both_append, both_one]
theorem both_turn {k : Int} (hk' : k = 1 ∨ k = 2) (b : Bool) (l : List Bool) : both (turn k b) (l.map fun x => x != b) = (both k l != b) := by
 unfold turn both
 cases b with
 | false => simp
 | true =>
  rcases hk' with rfl | rfl
  ·simp only [if_true]
   rw [if_neg (by decide)]
   induction l with
   | nil => rfl
   | cons x t ih => cases x <;> simp_all
  ·simp only [if_true]
   rw [if_pos (by decide), if_neg (by decide)]
   induction l with
   | nil => rfl
   | cons x t ih => cases x <;> simp_all
/-- P13.5: a normal one is as true as the one that it is of. -/
theorem ev_nrm (r : Rw) : ∀ p, form p = true → ∀ b, ev r (nrm p b) = (ev r p != b) := by
 refine tree ?_
 intro h l ih hf b
 rw [form_mk, Bool.and_eq_true, List.all_eq_true] at hf
 obtain ⟨hp, hl⟩ := hf
 rw [nrm_mk]
 split
 ·rename_i h3
  obtain ⟨_, h1⟩ := part_not h3 hp
  obtain ⟨x, rfl⟩ := one_of h1
  rw [ev_mk, if_neg (by omega), if_neg (by omega), if_pos h3]
  show ev r (nrm x (!b)) = _
  rw [ih x (by simp) (hl x (by simp))]
  simp only [List.map_cons, List.map_nil, notB]
  cases ev r x <;> cases b <;> rfl
 rename_i h3
 split
 ·rename_i h12
  have ht : turn h.k b = 1 ∨ turn h.k b = 2 := by unfold turn; split <;> omega
  rw [ev_one r ht, show (l.flatMap fun x => put (turn h.k b) (nrm x b)) = (l.map fun x => nrm x b).flatMap (put (turn h.k b)) from by rw [List.flatMap_map], ev_puts r ht, List.map_map, ev_kids r (p := Pr.mk' h l) (by rw [h_mk]; exact h12), h_mk, ks_mk, ← both_turn h12, List.map_map]
  congr 1
  refine List.map_congr_left fun x hx => ?_
  exact ih x hx (hl x hx) b
 ·rename_i h12
  split
  ·rename_i hb
   subst hb
   rw [ev_mk]
   rw [show (hk 3).k = 3 from rfl, if_neg (by decide), if_neg (by decide), if_pos rfl]
   simp [notB]
  ·rename_i hb
   have : b = false := by cases b <;> simp_all
   subst this
   simp
/-- Is it normal, beneath a part of a kind? -/
def nots (l : List Pr) : Bool :=
 match l with
 | [x] => decide (3 < x.h.k)
 | _ => false
def flat : Pr → Int → Bool := rec' fun h l a u => if h.k = 3 then nots l else if h.k = 1 ∨ h.k = 2 then decide (h.k ≠ u) && decide (l.length ≠ 1) && a.all (fun x => x h.k) else true
end Pd
end Go.Proofs.Ytibnhjfeepdddaa
namespace Go.Proofs.Ytibnhjfeepdddaa
/-- A zone. -/
structure Zn where
 k : Int
 r : Int
 u : Int
 mn : Int
 mx : Int
 ms : List UInt8
 xs : List UInt8
abbrev Cel := Ce
namespace Z
abbrev le (x y : List UInt8) : Bool := !T.lt y x
def zero : Zn := ⟨0, 0, 0, 0, 0, [], []⟩
def shape (z : Zn) : Bool := decide (z.k = 1 ∨ z.k = 2) && decide (0 ≤ z.u) && decide (z.u ≤ z.r) && decide (z.r ≤ 1048576) && decide (z.ms.length ≤ 40) && decide (z.xs.length ≤ 40)
def nums (z : Zn) : Bool := decide (z.mn = 0) && decide (z.mx = 0)
def texts (z : Zn) : Bool := decide (z.ms = []) && decide (z.xs = [])
def right (z : Zn) : Bool := shape z && (if z.r = z.u then nums z && texts z else if z.k = 1 then texts z && decide (z.mn ≤ z.mx) else nums z && le z.ms z.xs)
/-- One cell more. -/
def step (k : Int) (z : Zn × Bool) (c : Cel) : Zn × Bool :=
 if c.k ≠ k ∨ c.k = 0 then ({ z.1 with u := z.1.u + 1 }, z.2)
 else if k = 1 then ({ z.1 with mn := if z.2 = true ∨ c.n < z.1.mn then c.n else z.1.mn, mx := if z.2 = true ∨ z.1.mx < c.n then c.n else z.1.mx }, false)
 else if k = 2 then ({ z.1 with ms := if z.2 = true ∨ T.lt c.s z.1.ms = true then c.s else z.1.ms, xs := if z.2 = true ∨ T.lt z.1.xs c.s = true then c.s else z.1.xs }, false)
 else (z.1, false)
def fold (k : Int) (n : Int) (l : List Cel) : Zn × Bool := l.foldl (step k) (⟨k, n, 0, 0, 0, [], []⟩, true)
def build (k : Int) (l : List Cel) : Zn := (fold k l.length l).1
theorem fold_snoc (k n : Int) (l : List Cel) (c : Cel) : fold k n (l ++ [c]) = step k (fold k n l) c := by simp [fold]
/-- Both columns, one behind the other. -/
def both (a b : Zn) : Zn :=
 let z := if a.r = a.u then b else a
 let y := if a.u < a.r ∧ b.u < b.r then { z with mn := if b.mn < z.mn then b.mn else z.mn, mx := if z.mx < b.mx then b.mx else z.mx, ms := if T.lt b.ms z.ms = true then b.ms else z.ms, xs := if T.lt z.xs b.xs = true then b.xs else z.xs } else z
 { y with r := a.r + b.r, u := a.u + b.u }
end Z
end Go.Proofs.Ytibnhjfeepdddaa
namespace Go.Proofs.Ytibnhjfeepdddaa.Z
open Go.Proofs.Ytibnhjfeepdddaa
theorem snoc_ind {α : Type} {P : List α → Prop} (h0 : P []) (hs : ∀ l a, P l → P (l ++ [a])) : ∀ (n : Nat) (l : List α), l.length = n → P l
 | 0, l, h => by rw [List.eq_nil_of_length_eq_zero h]; exact h0
 | n + 1, l, h => by
  have hne : l ≠ [] := by intro e; rw [e] at h; simp at h
  rw [← List.dropLast_concat_getLast hne]
  exact hs _ _ (snoc_ind h0 hs n _ (by simp; omega))
/-- An order, as a Boolean. -/
structure Ord' (α : Type) where
 lt : α → α → Bool
 irr : ∀ a, lt a a = false
 tr : ∀ a b c, lt a b = true → lt b c = true → lt a c = true
 tot : ∀ a b, lt a b = true ∨ a = b ∨ lt b a = true
section
variable {α : Type} (o : Ord' α)
theorem Ord'.asy {a b : α} (h : o.lt a b = true) : o.lt b a = false := by
 cases hb : o.lt b a with
 | false => rfl
 | true => have := o.tr a b a h hb; rw [o.irr] at this; cases this
def mn2 (a b : α) : α := if o.lt b a = true then b else a
def mx2 (a b : α) : α := if o.lt a b = true then b else a
/-- The least and the greatest of two lots, of which one may be empty. -/
def comb : Option (α × α) → Option (α × α) → Option (α × α)
 | none, y => y
 | some x, none => some x
 | some x, some y => some (mn2 o x.1 y.1, mx2 o x.2 y.2)
/-- The least and the greatest of a list. -/
def ends (l : List α) : Option (α × α) := l.foldl (fun s x => comb o s (some (x, x))) none
theorem ends_snoc (l : List α) (x : α) : ends o (l ++ [x]) = comb o (ends o l) (some (x, x)) := by simp [ends]
theorem ends_none (l : List α) : ends o l = none ↔ l = [] := by
 constructor
 ·intro h
  refine Decidable.byContradiction fun hne => ?_
  rw [← List.dropLast_concat_getLast hne, ends_snoc] at h
  cases hx : ends o l.dropLast <;> rw [hx] at h <;> simp [comb] at h
 ·rintro rfl; rfl
theorem ends_le (l : List α) : ∀ p, ends o l = some p → o.lt p.2 p.1 = false ∧ ∀ x ∈ l, o.lt x p.1 = false ∧ o.lt p.2 x = false :=
 snoc_ind (P := fun l => ∀ p, ends o l = some p → o.lt p.2 p.1 = false ∧ ∀ x ∈ l, o.lt x p.1 = false ∧ o.lt p.2 x = false) (by intro p h; simp [ends] at h) (fun l x ih p h => by
  rw [ends_snoc] at h
  cases hl : ends o l with
  | none =>
   have h0 := (ends_none o l).1 hl
   subst h0
   rw [hl] at h
   simp [comb] at h
   subst h
   simp [o.irr]
  | some q =>
   rw [hl] at h
   simp only [comb, Option.some.injEq] at h
   subst h
   obtain ⟨i1, i2⟩ := ih q hl
   have ge : ∀ {a b c : α}, o.lt b a = false → o.lt c b = false → o.lt c a = false := fun {a b c} h1 h2 => by
    cases h3 : o.lt c a with
    | false => rfl
    | true =>
     rcases o.tot b c with h | h | h
     ·have := o.tr b c a h h3; rw [h1] at this; cases this
     ·subst h; rw [h1] at h3; cases h3
     ·rw [h2] at h; cases h
   have m1 : o.lt q.1 (mn2 o q.1 x) = false ∧ o.lt x (mn2 o q.1 x) = false := by
    unfold mn2
    cases hq : o.lt x q.1 with
    | true => simp [o.irr, o.asy hq]
    | false => simp [o.irr, hq]
   have m2 : o.lt (mx2 o q.2 x) q.2 = false ∧ o.lt (mx2 o q.2 x) x = false := by
    unfold mx2
    cases hq : o.lt q.2 x with
    | true => simp [o.irr, o.asy hq]
    | false => simp [o.irr, hq]
   refine ⟨?_, fun y hy => ?_⟩
   ·exact ge (ge m1.1 i1) m2.1
   ·rcases List.mem_append.1 hy with hy | hy
    ·exact ⟨ge m1.1 (i2 y hy).1, ge (i2 y hy).2 m2.1⟩
    ·simp at hy
     subst hy
     exact ⟨m1.2, m2.2⟩) l.length l rfl
end
def oI : Ord' Int := ⟨fun a b => decide (a < b), by simp, by simp; omega, by simp; omega⟩
def oT : Ord' (List UInt8) := ⟨T.lt, T.lt_irrefl, fun _ _ _ => T.lt_trans, T.lt_total⟩
end Go.Proofs.Ytibnhjfeepdddaa.Z
namespace Go.Proofs.Ytibnhjfeepdddaa.Z
open Go.Proofs.Ytibnhjfeepdddaa
set_option linter.unusedVariables false
set_option linter.unusedSimpArgs false
def ints (l : List Cel) : List Int := (l.filter (fun c => c.k == 1)).map (·.n)
def txts (l : List Cel) : List (List UInt8) := (l.filter (fun c => c.k == 2)).map (·.s)
theorem ints_append (l m : List Cel) : ints (l ++ m) = ints l ++ ints m := by simp [ints]
theorem txts_append (l m : List Cel) : txts (l ++ m) = txts l ++ txts m := by simp [txts]
theorem ints_len (l : List Cel) : (ints l).length ≤ l.length := by simp only [ints, List.length_map]; exact List.length_filter_le _ _
theorem txts_len (l : List Cel) : (txts l).length ≤ l.length := by simp only [txts, List.length_map]; exact List.length_filter_le _ _
def eI (l : List Cel) : Int × Int := (ends oI (ints l)).getD (0, 0)
def eT (l : List Cel) : List UInt8 × List UInt8 := (ends oT (txts l)).getD ([], [])
theorem fold1 (n : Int) (l : List Cel) : fold 1 n l = (⟨1, n, ((l.length - (ints l).length : Nat) : Int), (eI l).1, (eI l).2, [], []⟩, (ints l).isEmpty) :=
 snoc_ind (P := fun l => fold 1 n l = (⟨1, n, ((l.length - (ints l).length : Nat) : Int), (eI l).1, (eI l).2, [], []⟩, (ints l).isEmpty)) (by simp [fold, ints, eI, ends]) (fun l c ih => by
  have hl := ints_len l
  rw [fold_snoc, ih]
  by_cases hc : c.k = 1
  ·have hi : ints (l ++ [c]) = ints l ++ [c.n] := by rw [ints_append]; simp [ints, hc]
   have he : ends oI (ints (l ++ [c])) = comb oI (ends oI (ints l)) (some (c.n, c.n)) := by rw [hi, ends_snoc]
   unfold step
   rw [if_neg (by rw [hc]; simp), if_pos rfl]
   have hn : ((l ++ [c]).length - (ints (l ++ [c])).length : Nat) = l.length - (ints l).length := by rw [hi]; simp
   have hem : (ints (l ++ [c])).isEmpty = false := by rw [hi]; simp
   rw [hn, hem]
   cases hx : ends oI (ints l) with
   | none =>
    have h0 := (ends_none oI _).1 hx
    have e1 : eI l = (0, 0) := by simp only [eI, hx]; rfl
    have e2 : eI (l ++ [c]) = (c.n, c.n) := by simp only [eI, he, hx, comb]; rfl
    rw [e1, e2, h0]
    simp
   | some p =>
    have hne : (ints l).isEmpty = false := by
     cases hb : ints l with
     | nil => rw [hb] at hx; simp [ends] at hx
     | cons a r => rfl
    have e1 : eI l = p := by simp only [eI, hx]; rfl
    have e2 : eI (l ++ [c]) = (mn2 oI p.1 c.n, mx2 oI p.2 c.n) := by simp only [eI, he, hx, comb]; rfl
    rw [e1, e2, hne]
    simp [mn2, mx2, oI]
  ·have hi : ints (l ++ [c]) = ints l := by rw [ints_append]; simp [ints, hc]
   unfold step
   rw [if_pos (.inl hc)]
   have hn : ((l ++ [c]).length - (ints (l ++ [c])).length : Nat) = (l.length - (ints l).length) + 1 := by rw [hi]; simp; omega
   rw [hn]
   simp [eI, hi]) l.length l rfl
theorem fold2 (n : Int) (l : List Cel) : fold 2 n l = (⟨2, n, ((l.length - (txts l).length : Nat) : Int), 0, 0, (eT l).1, (eT l).2⟩, (txts l).isEmpty) :=
 snoc_ind (P := fun l => fold 2 n l = (⟨2, n, ((l.length - (txts l).length : Nat) : Int), 0, 0, (eT l).1, (eT l).2⟩, (txts l).isEmpty)) (by simp [fold, txts, eT, ends]) (fun l c ih => by
  have hl := txts_len l
  rw [fold_snoc, ih]
  by_cases hc : c.k = 2
  ·have hi : txts (l ++ [c]) = txts l ++ [c.s] := by rw [txts_append]; simp [txts, hc]
   have he : ends oT (txts (l ++ [c])) = comb oT (ends oT (txts l)) (some (c.s, c.s)) := by rw [hi, ends_snoc]
   unfold step
   rw [if_neg (by rw [hc]; simp), if_neg (by omega), if_pos rfl]
   have hn : ((l ++ [c]).length - (txts (l ++ [c])).length : Nat) = l.length - (txts l).length := by rw [hi]; simp
   have hem : (txts (l ++ [c])).isEmpty = false := by rw [hi]; simp
   rw [hn, hem]
   cases hx : ends oT (txts l) with
   | none =>
    have h0 := (ends_none oT _).1 hx
    have e1 : eT l = ([], []) := by simp only [eT, hx]; rfl
    have e2 : eT (l ++ [c]) = (c.s, c.s) := by simp only [eT, he, hx, comb]; rfl
    rw [e1, e2, h0]
    simp
   | some p =>
    have hne : (txts l).isEmpty = false := by
     cases hb : txts l with
     | nil => rw [hb] at hx; simp [ends] at hx
     | cons a r => rfl
    have e1 : eT l = p := by simp only [eT, hx]; rfl
    have e2 : eT (l ++ [c]) = (mn2 oT p.1 c.s, mx2 oT p.2 c.s) := by simp only [eT, he, hx, comb]; rfl
    rw [e1, e2, hne]
    simp [mn2, mx2, oT]
    refine ⟨?_, ?_⟩ <;> (split <;> rename_i h <;> simp [h])
  ·have hi : txts (l ++ [c]) = txts l := by rw [txts_append]; simp [txts, hc]
   unfold step
   rw [if_pos (.inl hc)]
   have hn : ((l ++ [c]).length - (txts (l ++ [c])).length : Nat) = (l.length - (txts l).length) + 1 := by rw [hi]; simp; omega
   rw [hn]
   simp [eT, hi]) l.length l rfl
theorem build1 (l : List Cel) : build 1 l = ⟨1, l.length, ((l.length - (ints l).length : Nat) : Int), (eI l).1, (eI l).2, [], []⟩ := by rw [build, fold1]
theorem build2 (l : List Cel) : build 2 l = ⟨2, l.length, ((l.length - (txts l).length : Nat) : Int), 0, 0, (eT l).1, (eT l).2⟩ := by rw [build, fold2]
end Go.Proofs.Ytibnhjfeepdddaa.Z
