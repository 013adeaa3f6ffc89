/-
  Plain facts on rows of cells, and on columns: judged, told, sorted, grown, written and read. No program here. Predicates as trees: a part's head and the list of its Kids. No program here.
-/
import Derived.Test.YtibnhjfeepdddaaM02
import Derived.Test.YtibnhjfeepdddaaM05
import Derived.Deep.Trees
namespace Go.Proofs.Ytibnhjfeepdddaa
set_option linter.unusedVariables false
set_option linter.unusedSimpArgs false
structure Ce where
 col : List UInt8
 k : Int
 n : Int
 s : List UInt8
structure Rw where
 t : Int
 q : Int
 c : List Ce
structure Co where
 nm : List UInt8
 k : Int
namespace Rw
def name (s : List UInt8) : Bool := s.all (fun b => decide (97 ≤ b.toNat) && decide (b.toNat ≤ 122)) && decide (1 ≤ s.length) && decide (s.length ≤ 12)
def form (c : Ce) : Bool := decide (c.k = 1) && decide (c.s = []) || decide (c.k = 2) && decide (c.n = 0) && decide (c.s.length ≤ 40)
def celOk (c : Ce) : Bool := name c.col && form c
def head (r : Rw) : Bool := decide (-1099511627776 ≤ r.t) && decide (r.t ≤ 1099511627776) && decide (0 ≤ r.q) && decide (r.q ≤ 1073741824) && decide (r.c.length ≤ 8)
def right (r : Rw) : Bool := head r && r.c.all celOk && T.adj (r.c.map Ce.col)
def none_ : Ce := ⟨[], 0, 0, []⟩
def zero : Rw := ⟨0, 0, []⟩
def cell (c : List Ce) (col : List UInt8) : Ce :=
 match c with
 | [] => none_
 | x :: r => if x.col = col then x else cell r col
def less (a b : Rw) : Bool := decide (a.t < b.t) || decide (a.t = b.t) && decide (a.q < b.q)
theorem right_iff (r : Rw) : right r = true ↔ (-1099511627776 ≤ r.t ∧ r.t ≤ 1099511627776 ∧ 0 ≤ r.q ∧ r.q ≤ 1073741824 ∧ r.c.length ≤ 8) ∧ (∀ c ∈ r.c, celOk c = true) ∧ T.Rise (r.c.map Ce.col) := by
 unfold right head
 simp only [Bool.and_eq_true, decide_eq_true_eq, List.all_eq_true, T.adj_iff]
 constructor
 ·rintro ⟨⟨⟨⟨⟨⟨a, b⟩, c⟩, d⟩, e⟩, f⟩, g⟩; exact ⟨⟨a, b, c, d, e⟩, f, g⟩
 ·rintro ⟨⟨a, b, c, d, e⟩, f, g⟩; exact ⟨⟨⟨⟨⟨⟨a, b⟩, c⟩, d⟩, e⟩, f⟩, g⟩
theorem name_iff (s : List UInt8) : name s = true ↔ (∀ b ∈ s, 97 ≤ b.toNat ∧ b.toNat ≤ 122) ∧ 1 ≤ s.length ∧ s.length ≤ 12 := by
 unfold name
 simp only [Bool.and_eq_true, decide_eq_true_eq, List.all_eq_true]
 constructor
 ·rintro ⟨⟨a, b⟩, c⟩; exact ⟨a, b, c⟩
 ·rintro ⟨a, b, c⟩; exact ⟨⟨a, b⟩, c⟩
/-- As bytes. -/
def encC (c : Ce) : List UInt8 := T.ptext c.col ++ M.digs c.k.toNat ++ (if c.k = 1 then M.digs (M.zig c.n).toNat else T.ptext c.s)
def encCs (l : List Ce) : List UInt8 := l.flatMap encC
def enc (r : Rw) : List UInt8 := M.digs (M.zig r.t).toNat ++ M.digs r.q.toNat ++ M.digs r.c.length ++ encCs r.c
def fin (r : Rw) (k : Nat) : Rw × Nat × Nat := if right r = true then (r, k, 0) else (zero, 0, 12)
theorem text_at (l s r : List UInt8) (m : Int) (h : (s.length : Int) ≤ m) (h2 : s.length < 18446744073709551616) : M.getText (l ++ T.ptext s ++ r) (l.length : Int) m = (s, (l ++ T.ptext s).length, 0) := by
 unfold M.getText T.ptext
 have e1 : l ++ (M.digs s.length ++ s) ++ r = l ++ M.digs s.length ++ (s ++ r) := by simp
 rw [e1, M.get_digs h2 l (s ++ r)]
 simp only
 rw [if_neg (by simp), if_neg (by omega), if_neg (by simp; omega)]
 have e : (l ++ M.digs s.length ++ (s ++ r)).drop (l.length + (M.digs s.length).length) = s ++ r := by
  rw [← List.length_append]; simp
 rw [e]
 simp
 omega
end Rw
end Go.Proofs.Ytibnhjfeepdddaa
namespace Go.Proofs.Ytibnhjfeepdddaa
open Go.Deep (BT)
set_option linter.unusedVariables false
set_option linter.unusedSimpArgs false
/-- What a part asks, its Kids aside. -/
structure Hd where
 k : Int
 col : List UInt8
 n : Int
 m : Int
 s : List UInt8
 set : List (List UInt8)
structure Hr where
 col : List UInt8
 m : Int
 s : List UInt8
 set : List (List UInt8)
namespace Pd
/-- Whole numbers as counts, one to one. -/
def zg (i : Int) : Nat := if 0 ≤ i then 2 * i.toNat else 2 * (-i).toNat - 1
def zb (n : Nat) : Int := if n % 2 = 0 then ((n / 2 : Nat) : Int) else -(((n + 1) / 2 : Nat) : Int)
theorem zb_zg (i : Int) : zb (zg i) = i := by unfold zb zg; split <;> split <;> omega
theorem zg_zb (n : Nat) : zg (zb n) = n := by unfold zb zg; split <;> split <;> omega
/-- Kids: the first one's Kids, its head (two of its numbers lie where the library's tree keeps two), the others. -/
abbrev Fo := BT Hr
def cons (h : Hd) (l r : Fo) : Fo := .node (zg h.k) (zg h.n) ⟨h.col, h.m, h.s, h.set⟩ l r
def hd (b o : Nat) (a : Hr) : Hd := ⟨zb b, a.col, zb o, a.m, a.s, a.set⟩
theorem cons_hd (b o : Nat) (a : Hr) (l r : Fo) : cons (hd b o a) l r = .node b o a l r := by
 unfold cons hd; simp only [zg_zb]
theorem hd_cons (h : Hd) : hd (zg h.k) (zg h.n) ⟨h.col, h.m, h.s, h.set⟩ = h := by
 unfold hd; simp only [zb_zg]
def fold {β : Type} (z : β) (f : Hd → Fo → β → β → β) : Fo → β
 | .nil => z
 | .node b o a l r => f (hd b o a) l (fold z f l) (fold z f r)
theorem fold_cons {β : Type} (z : β) (f : Hd → Fo → β → β → β) (h : Hd) (l r : Fo) : fold z f (cons h l r) = f h l (fold z f l) (fold z f r) := by
 rw [cons, fold, hd_cons]
theorem ind {P : Fo → Prop} (z : P .nil) (s : ∀ h l r, P l → P r → P (cons h l r)) : ∀ f, P f
 | .nil => z
 | .node b o a l r => by rw [← cons_hd]; exact s _ l r (ind z s l) (ind z s r)
end Pd
/-- A predicate. -/
structure Pr where
 h : Hd
 f : Pd.Fo
namespace Pd
def kl (f : Fo) : List Pr := fold [] (fun h l _ r => ⟨h, l⟩ :: r) f
def ofl : List Pr → Fo
 | [] => .nil
 | p :: t => cons p.h p.f (ofl t)
theorem kl_nil : kl .nil = [] := rfl
theorem kl_cons (h : Hd) (l r : Fo) : kl (cons h l r) = ⟨h, l⟩ :: kl r := by rw [kl, fold_cons]; rfl
theorem kl_ofl (l : List Pr) : kl (ofl l) = l := by
 induction l with
 | nil => rfl
 | cons p t ih => rw [ofl, kl_cons, ih]
theorem ofl_kl (f : Fo) : ofl (kl f) = f := by
 refine ind (P := fun f => ofl (kl f) = f) rfl ?_ f
 intro h l r _ hr
 rw [kl_cons, ofl, hr]
end Pd
/-- A predicate of a head and a list of Kids. -/
def Pr.mk' (h : Hd) (l : List Pr) : Pr := ⟨h, Pd.ofl l⟩
def Pr.ks (p : Pr) : List Pr := Pd.kl p.f
namespace Pd
theorem h_mk (h : Hd) (l : List Pr) : (Pr.mk' h l).h = h := rfl
theorem ks_mk (h : Hd) (l : List Pr) : (Pr.mk' h l).ks = l := kl_ofl l
theorem mk_ks (p : Pr) : Pr.mk' p.h p.ks = p := by unfold Pr.mk' Pr.ks; rw [ofl_kl]
/-- By its Kids. -/
theorem tree {P : Pr → Prop} (s : ∀ h l, (∀ k ∈ l, P k) → P (Pr.mk' h l)) : ∀ p, P p := by
 have all : ∀ f, ∀ k ∈ kl f, P k := by
  refine ind (P := fun f => ∀ k ∈ kl f, P k) (by simp [kl_nil]) ?_
  intro h l r hl hr k hk
  rw [kl_cons] at hk
  rcases List.mem_cons.1 hk with rfl | hk
  ·have := s h (kl l) hl
   rw [Pr.mk', ofl_kl] at this
   exact this
  ·exact hr k hk
 intro p
 rw [← mk_ks p]
 exact s _ _ (all p.f)
/-- Reckoned of a head, the Kids, and what is reckoned of the Kids. -/
def each {β : Type} (g : Hd → List Pr → List β → β) (f : Fo) : List β := fold [] (fun h l a r => g h (kl l) a :: r) f
def rec' {β : Type} (g : Hd → List Pr → List β → β) (p : Pr) : β := g p.h p.ks (each g p.f)
theorem each_eq {β : Type} (g : Hd → List Pr → List β → β) (f : Fo) : each g f = (kl f).map (rec' g) := by
 refine ind (P := fun f => each g f = (kl f).map (rec' g)) rfl ?_ f
 intro h l r _ hr
 rw [kl_cons, List.map_cons, ← hr, each, fold_cons]
 rfl
theorem rec_mk {β : Type} (g : Hd → List Pr → List β → β) (h : Hd) (l : List Pr) : rec' g (Pr.mk' h l) = g h l (l.map (rec' g)) := by
 unfold rec'
 rw [each_eq, ks_mk, h_mk]
 show g h l ((kl (ofl l)).map _) = _
 rw [kl_ofl]
 rfl
end Pd
end Go.Proofs.Ytibnhjfeepdddaa
