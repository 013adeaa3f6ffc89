/-
  Plain facts on rows of cells, and on columns: judged, told, sorted, grown, written and read. No program here. Predicates as trees: a part's head and the list of its Kids. No program here. Plain facts on predicates: judged, reckoned, asked of rows, made normal. No program here. Plain facts on predicates: the columns that they name, how they are written and read. No program here. Plain facts on predicates: cut ones, how great they are, Nots one about the other, Kids side by side. No program here.
-/
import Derived.Test.YtbdjccmlgdfapaaGreatWords
import Derived.Test.YtbdjccmlgdfapaaGreatKinds
import Derived.Deep.Trees
namespace Go.Proofs.YtbdjccmlgdfapaaGreat
set_option linter.unusedVariables false
set_option linter.unusedSimpArgs false
structure Ce where
 col : List UInt8
 k : Int
 n : Int
 s : List UInt8
structure Rw where
 t : Int
 q : Int
 c : List Ce
namespace Rw
def name (s : List UInt8) : Bool := s.all (fun b => decide (97 ≤ b.toNat) && decide (b.toNat ≤ 122)) && decide (1 ≤ s.length) && decide (s.length ≤ 12)
def form (c : Ce) : Bool := decide (c.k = 1) && decide (c.s = []) || decide (c.k = 2) && decide (c.n = 0) && decide (c.s.length ≤ 40)
def celOk (c : Ce) : Bool := name c.col && form c
def head (r : Rw) : Bool := decide (-1099511627776 ≤ r.t) && decide (r.t ≤ 1099511627776) && decide (0 ≤ r.q) && decide (r.q ≤ 1073741824) && decide (r.c.length ≤ 8)
def right (r : Rw) : Bool := head r && r.c.all celOk && T.adj (r.c.map Ce.col)
def none_ : Ce := ⟨[], 0, 0, []⟩
def zero : Rw := ⟨0, 0, []⟩
def cell (c : List Ce) (col : List UInt8) : Ce :=
 match c with
 | [] => none_
 | x :: r => if x.col = col then x else cell r col
def less (a b : Rw) : Bool := decide (a.t < b.t) || decide (a.t = b.t) && decide (a.q < b.q)
theorem right_iff (r : Rw) : right r = true ↔ (-1099511627776 ≤ r.t ∧ r.t ≤ 1099511627776 ∧ 0 ≤ r.q ∧ r.q ≤ 1073741824 ∧ r.c.length ≤ 8) ∧ (∀ c ∈ r.c, celOk c = true) ∧ T.Rise (r.c.map Ce.col) := by
 unfold right head
 simp only [Bool.and_eq_true, decide_eq_true_eq, List.all_eq_true, T.adj_iff]
 constructor
 ·rintro ⟨⟨⟨⟨⟨⟨a, b⟩, c⟩, d⟩, e⟩, f⟩, g⟩; exact ⟨⟨a, b, c, d, e⟩, f, g⟩
 ·rintro ⟨⟨a, b, c, d, e⟩, f, g⟩; exact ⟨⟨⟨⟨⟨⟨a, b⟩, c⟩, d⟩, e⟩, f⟩, g⟩
theorem name_iff (s : List UInt8) : name s = true ↔ (∀ b ∈ s, 97 ≤ b.toNat ∧ b.toNat ≤ 122) ∧ 1 ≤ s.length ∧ s.length ≤ 12 := by
 unfold name
 simp only [Bool.and_eq_true, decide_eq_true_eq, List.all_eq_true]
 constructor
 ·rintro ⟨⟨a, b⟩, c⟩; exact ⟨a, b, c⟩
 ·rintro ⟨a, b, c⟩; exact ⟨⟨a, b⟩, c⟩
theorem form_iff (c : Ce) : form c = true ↔ (c.k = 1 ∧ c.s = []) ∨ (c.k = 2 ∧ c.n = 0 ∧ c.s.length ≤ 40) := by
 unfold form
 simp only [Bool.or_eq_true, Bool.and_eq_true, decide_eq_true_eq]
 constructor
 ·rintro (h | ⟨⟨a, b⟩, c⟩)
  ·exact .inl h
  ·exact .inr ⟨a, b, c⟩
 ·rintro (h | ⟨a, b, c⟩)
  ·exact .inl h
  ·exact .inr ⟨⟨a, b⟩, c⟩
theorem cell_out {l : List Ce} {s : List UInt8} (h : ∀ c ∈ l, c.col ≠ s) : cell l s = none_ := by
 induction l with
 | nil => rfl
 | cons x r ih =>
  unfold cell
  rw [if_neg (h x (by simp))]
  exact ih fun c hc => h c (by simp [hc])
/-- As bytes. -/
def encC (c : Ce) : List UInt8 := T.ptext c.col ++ M.digs c.k.toNat ++ (if c.k = 1 then M.digs (M.zig c.n).toNat else T.ptext c.s)
def encCs (l : List Ce) : List UInt8 := l.flatMap encC
def enc (r : Rw) : List UInt8 := M.digs (M.zig r.t).toNat ++ M.digs r.q.toNat ++ M.digs r.c.length ++ encCs r.c
def encE (r : Rw) : List UInt8 × Nat := if right r = true then (enc r, 0) else ([], 12)
theorem encCs_cons (c : Ce) (l : List Ce) : encCs (c :: l) = encC c ++ encCs l := rfl
theorem encC_len {c : Ce} (h : celOk c = true) : (encC c).length ≤ 100 := by
 unfold celOk at h
 rw [Bool.and_eq_true, name_iff, form_iff] at h
 have h1 := M.digs_len c.col.length
 have h2 := M.digs_len c.k.toNat
 have h3 := M.digs_len (M.zig c.n).toNat
 have h4 := M.digs_len c.s.length
 unfold encC T.ptext
 simp only [List.length_append]
 split
 ·omega
 ·simp only [List.length_append]
  rcases h.2 with ⟨a, b⟩ | ⟨a, b, d⟩
  ·rename_i hk; exact absurd a hk
  ·omega
theorem encCs_len {l : List Ce} (h : ∀ c ∈ l, celOk c = true) : (encCs l).length ≤ 100 * l.length := by
 induction l with
 | nil => simp [encCs]
 | cons c r ih =>
  have h1 := encC_len (h c (by simp))
  have h2 := ih fun d hd => h d (by simp [hd])
  rw [encCs_cons, List.length_append, List.length_cons]
  omega
theorem enc_len {r : Rw} (h : right r = true) : (enc r).length ≤ 900 := by
 obtain ⟨⟨_, _, _, _, h8⟩, hc, _⟩ := (right_iff r).1 h
 have h1 := M.digs_len (M.zig r.t).toNat
 have h2 := M.digs_len r.q.toNat
 have h3 := M.digs_len r.c.length
 have h4 := encCs_len hc
 unfold enc
 simp only [List.length_append]
 omega
/-- Of bytes. -/
def rdC (b : List UInt8) (k : Nat) : Ce × Nat × Nat :=
 if (M.getText b k 12).2.2 ≠ 0 then (none_, 0, (M.getText b k 12).2.2) else
 if (M.get b (M.getText b k 12).2.1).2.2 ≠ 0 then (none_, 0, (M.get b (M.getText b k 12).2.1).2.2) else
 if (M.get b (M.getText b k 12).2.1).1 ≠ 1 ∧ (M.get b (M.getText b k 12).2.1).1 ≠ 2 then (none_, 0, 12) else
 if (M.get b (M.getText b k 12).2.1).1 = 1 then
  (if (M.get b (M.get b (M.getText b k 12).2.1).2.1).2.2 ≠ 0 then (none_, 0, (M.get b (M.get b (M.getText b k 12).2.1).2.1).2.2) else
   (⟨(M.getText b k 12).1, 1, M.zag ((M.get b (M.get b (M.getText b k 12).2.1).2.1).1 : Int), []⟩, (M.get b (M.get b (M.getText b k 12).2.1).2.1).2.1, 0))
 else
  (if (M.getText b (M.get b (M.getText b k 12).2.1).2.1 40).2.2 ≠ 0 then (none_, 0, (M.getText b (M.get b (M.getText b k 12).2.1).2.1 40).2.2) else
   (⟨(M.getText b k 12).1, 2, 0, (M.getText b (M.get b (M.getText b k 12).2.1).2.1 40).1⟩, (M.getText b (M.get b (M.getText b k 12).2.1).2.1 40).2.1, 0))
def rdCs (b : List UInt8) : Nat → Nat → List Ce → List Ce × Nat × Nat
 | 0, k, o => (o, k, 0)
 | n + 1, k, o => if (rdC b k).2.2 ≠ 0 then ([], 0, (rdC b k).2.2) else rdCs b n (rdC b k).2.1 (o ++ [(rdC b k).1])
def fin (r : Rw) (k : Nat) : Rw × Nat × Nat := if right r = true then (r, k, 0) else (zero, 0, 12)
def dec3 (b : List UInt8) (t q n k : Nat) : Rw × Nat × Nat :=
 if 1073741824 < q ∨ 8 < n then (zero, 0, 12) else
 if (rdCs b n k []).2.2 ≠ 0 then (zero, 0, (rdCs b n k []).2.2) else fin ⟨M.zag (t : Int), (q : Int), (rdCs b n k []).1⟩ (rdCs b n k []).2.1
def dec (b : List UInt8) (p : Int) : Rw × Nat × Nat :=
 if (M.get b p).2.2 ≠ 0 then (zero, 0, (M.get b p).2.2) else
 if (M.get b (M.get b p).2.1).2.2 ≠ 0 then (zero, 0, (M.get b (M.get b p).2.1).2.2) else
 if (M.get b (M.get b (M.get b p).2.1).2.1).2.2 ≠ 0 then (zero, 0, (M.get b (M.get b (M.get b p).2.1).2.1).2.2) else
 dec3 b (M.get b p).1 (M.get b (M.get b p).2.1).1 (M.get b (M.get b (M.get b p).2.1).2.1).1 (M.get b (M.get b (M.get b p).2.1).2.1).2.1
theorem text_at (l s r : List UInt8) (m : Int) (h : (s.length : Int) ≤ m) (h2 : s.length < 18446744073709551616) : M.getText (l ++ T.ptext s ++ r) (l.length : Int) m = (s, (l ++ T.ptext s).length, 0) := by
 unfold M.getText T.ptext
 have e1 : l ++ (M.digs s.length ++ s) ++ r = l ++ M.digs s.length ++ (s ++ r) := by simp
 rw [e1, M.get_digs h2 l (s ++ r)]
 simp only
 rw [if_neg (by simp), if_neg (by omega), if_neg (by simp; omega)]
 have e : (l ++ M.digs s.length ++ (s ++ r)).drop (l.length + (M.digs s.length).length) = s ++ r := by
  rw [← List.length_append]; simp
 rw [e]
 simp
 omega
theorem zig_lt {n : Int} (h : In64 n) : (M.zig n).toNat < 18446744073709551616 ∧ 0 ≤ M.zig n := by
 obtain ⟨h1, h2⟩ := h
 unfold M.zig
 split <;> omega
theorem zag_in {n : Nat} (h : n < 18446744073709551616) : In64 (M.zag (n : Int)) := by
 unfold M.zag In64
 split <;> omega
end Rw
end Go.Proofs.YtbdjccmlgdfapaaGreat
namespace Go.Proofs.YtbdjccmlgdfapaaGreat
open Go.Deep (BT)
set_option linter.unusedVariables false
set_option linter.unusedSimpArgs false
/-- What a part asks, its Kids aside. -/
structure Hd where
 k : Int
 col : List UInt8
 n : Int
 m : Int
 s : List UInt8
 set : List (List UInt8)
structure Hr where
 col : List UInt8
 m : Int
 s : List UInt8
 set : List (List UInt8)
namespace Pd
/-- Whole numbers as counts, one to one. -/
def zg (i : Int) : Nat := if 0 ≤ i then 2 * i.toNat else 2 * (-i).toNat - 1
def zb (n : Nat) : Int := if n % 2 = 0 then ((n / 2 : Nat) : Int) else -(((n + 1) / 2 : Nat) : Int)
theorem zb_zg (i : Int) : zb (zg i) = i := by unfold zb zg; split <;> split <;> omega
theorem zg_zb (n : Nat) : zg (zb n) = n := by unfold zb zg; split <;> split <;> omega
/-- Kids: the first one's Kids, its head (two of its numbers lie where the library's tree keeps two), the others. -/
abbrev Fo := BT Hr
def cons (h : Hd) (l r : Fo) : Fo := .node (zg h.k) (zg h.n) ⟨h.col, h.m, h.s, h.set⟩ l r
def hd (b o : Nat) (a : Hr) : Hd := ⟨zb b, a.col, zb o, a.m, a.s, a.set⟩
theorem cons_hd (b o : Nat) (a : Hr) (l r : Fo) : cons (hd b o a) l r = .node b o a l r := by
 unfold cons hd; simp only [zg_zb]
theorem hd_cons (h : Hd) : hd (zg h.k) (zg h.n) ⟨h.col, h.m, h.s, h.set⟩ = h := by
 unfold hd; simp only [zb_zg]
def fold {β : Type} (z : β) (f : Hd → Fo → β → β → β) : Fo → β
 | .nil => z
 | .node b o a l r => f (hd b o a) l (fold z f l) (fold z f r)
theorem fold_cons {β : Type} (z : β) (f : Hd → Fo → β → β → β) (h : Hd) (l r : Fo) : fold z f (cons h l r) = f h l (fold z f l) (fold z f r) := by
 rw [cons, fold, hd_cons]
theorem ind {P : Fo → Prop} (z : P .nil) (s : ∀ h l r, P l → P r → P (cons h l r)) : ∀ f, P f
 | .nil => z
 | .node b o a l r => by rw [← cons_hd]; exact s _ l r (ind z s l) (ind z s r)
end Pd
/-- A predicate. -/
structure Pr where
 h : Hd
 f : Pd.Fo
namespace Pd
def kl (f : Fo) : List Pr := fold [] (fun h l _ r => ⟨h, l⟩ :: r) f
def ofl : List Pr → Fo
 | [] => .nil
 | p :: t => cons p.h p.f (ofl t)
theorem kl_nil : kl .nil = [] := rfl
theorem kl_cons (h : Hd) (l r : Fo) : kl (cons h l r) = ⟨h, l⟩ :: kl r := by rw [kl, fold_cons]; rfl
theorem kl_ofl (l : List Pr) : kl (ofl l) = l := by
 induction l with
 | nil => rfl
 | cons p t ih => rw [ofl, kl_cons, ih]
theorem ofl_kl (f : Fo) : ofl (kl f) = f := by
 refine ind (P := fun f => ofl (kl f) = f) rfl ?_ f
 intro h l r _ hr
 rw [kl_cons, ofl, hr]
end Pd
/-- A predicate of a head and a list of Kids. -/
def Pr.mk' (h : Hd) (l : List Pr) : Pr := ⟨h, Pd.ofl l⟩
def Pr.ks (p : Pr) : List Pr := Pd.kl p.f
namespace Pd
theorem h_mk (h : Hd) (l : List Pr) : (Pr.mk' h l).h = h := rfl
theorem ks_mk (h : Hd) (l : List Pr) : (Pr.mk' h l).ks = l := kl_ofl l
theorem mk_ks (p : Pr) : Pr.mk' p.h p.ks = p := by unfold Pr.mk' Pr.ks; rw [ofl_kl]
theorem mk_inj {h h2 : Hd} {l l2 : List Pr} (e : Pr.mk' h l = Pr.mk' h2 l2) : h = h2 ∧ l = l2 :=
 ⟨congrArg Pr.h e, by rw [← ks_mk h l, e, ks_mk]⟩
/-- By its Kids. -/
theorem tree {P : Pr → Prop} (s : ∀ h l, (∀ k ∈ l, P k) → P (Pr.mk' h l)) : ∀ p, P p := by
 have all : ∀ f, ∀ k ∈ kl f, P k := by
  refine ind (P := fun f => ∀ k ∈ kl f, P k) (by simp [kl_nil]) ?_
  intro h l r hl hr k hk
  rw [kl_cons] at hk
  rcases List.mem_cons.1 hk with rfl | hk
  ·have := s h (kl l) hl
   rw [Pr.mk', ofl_kl] at this
   exact this
  ·exact hr k hk
 intro p
 rw [← mk_ks p]
 exact s _ _ (all p.f)
/-- Reckoned of a head, the Kids, and what is reckoned of the Kids. -/
def each {β : Type} (g : Hd → List Pr → List β → β) (f : Fo) : List β := fold [] (fun h l a r => g h (kl l) a :: r) f
def rec' {β : Type} (g : Hd → List Pr → List β → β) (p : Pr) : β := g p.h p.ks (each g p.f)
theorem each_eq {β : Type} (g : Hd → List Pr → List β → β) (f : Fo) : each g f = (kl f).map (rec' g) := by
 refine ind (P := fun f => each g f = (kl f).map (rec' g)) rfl ?_ f
 intro h l r _ hr
 rw [kl_cons, List.map_cons, ← hr, each, fold_cons]
 rfl
theorem rec_mk {β : Type} (g : Hd → List Pr → List β → β) (h : Hd) (l : List Pr) : rec' g (Pr.mk' h l) = g h l (l.map (rec' g)) := by
 unfold rec'
 rw [each_eq, ks_mk, h_mk]
 show g h l ((kl (ofl l)).map _) = _
 rw [kl_ofl]
 rfl
end Pd
end Go.Proofs.YtbdjccmlgdfapaaGreat
namespace Go.Proofs.YtbdjccmlgdfapaaGreat
set_option linter.unusedVariables false
set_option linter.unusedSimpArgs false
namespace Pd
def hk (k : Int) : Hd := ⟨k, [], 0, 0, [], []⟩
def zero : Pr := Pr.mk' (hk 0) []
/-- Is a part what its kind asks, so many Kids beneath it? -/
def part (h : Hd) (n : Nat) : Bool :=
 if h.k = 1 ∨ h.k = 2 then decide (h.col = [] ∧ h.n = 0 ∧ h.m = 0 ∧ h.s = [] ∧ h.set = [])
 else if h.k = 3 then decide (h.col = [] ∧ h.n = 0 ∧ h.m = 0 ∧ h.s = [] ∧ h.set = [] ∧ n = 1)
 else if h.k = 4 ∨ h.k = 5 then Rw.name h.col && decide (h.m = 0 ∧ h.s = [] ∧ h.set = [] ∧ n = 0)
 else if h.k = 6 ∨ h.k = 8 then Rw.name h.col && decide (h.n = 0 ∧ h.m = 0 ∧ h.s.length ≤ 40 ∧ h.set = [] ∧ n = 0)
 else if h.k = 7 then Rw.name h.col && decide (h.n = 0 ∧ h.m = 0 ∧ h.s = [] ∧ n = 0 ∧ h.set.length ≤ 8) && T.adj h.set && h.set.all (fun s => decide (s.length ≤ 40))
 else if h.k = 9 then Rw.name h.col && decide (h.n = 0 ∧ h.m = 0 ∧ h.s = [] ∧ h.set = [] ∧ n = 0)
 else if h.k = 10 then decide (h.col = [] ∧ h.s = [] ∧ h.set = [] ∧ n = 0)
 else false
def size : Pr → Nat := rec' fun _ _ a => 1 + a.sum
def deep : Pr → Nat := rec' fun _ _ a => a.foldr max 0 + 1
def form : Pr → Bool := rec' fun h l a => part h l.length && a.all id
def right (p : Pr) : Bool := decide (deep p ≤ 6) && decide (size p ≤ 40) && form p
def own (h : Hd) : List (List UInt8) := if h.col = [] then [] else [h.col]
def cols : Pr → List (List UInt8) := rec' fun h _ a => T.bld (own h ++ a.flatten)
def leaf (r : Rw) (h : Hd) : Bool :=
 if h.k = 4 then decide ((Rw.cell r.c h.col).k = 1 ∧ (Rw.cell r.c h.col).n < h.n)
 else if h.k = 5 then decide ((Rw.cell r.c h.col).k = 1 ∧ (Rw.cell r.c h.col).n = h.n)
 else if h.k = 6 then decide ((Rw.cell r.c h.col).k = 2 ∧ (Rw.cell r.c h.col).s = h.s)
 else if h.k = 7 then decide ((Rw.cell r.c h.col).k = 2 ∧ (Rw.cell r.c h.col).s ∈ h.set)
 else if h.k = 8 then decide ((Rw.cell r.c h.col).k = 2) && T.begins h.s (Rw.cell r.c h.col).s
 else if h.k = 9 then decide ((Rw.cell r.c h.col).k = 0)
 else if h.k = 10 then decide (h.n ≤ r.t ∧ r.t ≤ h.m)
 else false
def notB : List Bool → Bool
 | [] => false
 | b :: _ => !b
def ev (r : Rw) : Pr → Bool := rec' fun h _ a => if h.k = 1 then a.all id else if h.k = 2 then a.any id else if h.k = 3 then notB a else leaf r h
theorem size_mk (h : Hd) (l : List Pr) : size (Pr.mk' h l) = 1 + (l.map size).sum := rec_mk _ h l
theorem deep_mk (h : Hd) (l : List Pr) : deep (Pr.mk' h l) = (l.map deep).foldr max 0 + 1 := rec_mk _ h l
theorem form_mk (h : Hd) (l : List Pr) : form (Pr.mk' h l) = (part h l.length && l.all form) := by
 rw [form, rec_mk]; simp [List.all_map]
theorem cols_mk (h : Hd) (l : List Pr) : cols (Pr.mk' h l) = T.bld (own h ++ (l.map cols).flatten) := rec_mk _ h l
theorem ev_mk (r : Rw) (h : Hd) (l : List Pr) : ev r (Pr.mk' h l) = if h.k = 1 then l.all (ev r) else if h.k = 2 then l.any (ev r) else if h.k = 3 then notB (l.map (ev r)) else leaf r h := by
 rw [ev, rec_mk]; simp [List.all_map, List.any_map]
/-- Normal. -/
def put (k : Int) (p : Pr) : List Pr := if p.h.k = k then p.ks else [p]
def one (k : Int) (l : List Pr) : Pr := if l.length = 1 then l.headD zero else Pr.mk' (hk k) l
def fst (a : List (Bool → Pr)) (b : Bool) : Pr := a.headD (fun _ => zero) b
def turn (k : Int) (b : Bool) : Int := if b = true then 3 - k else k
def nrm : Pr → Bool → Pr := rec' fun h l a b =>
 if h.k = 3 then fst a (!b)
 else if h.k = 1 ∨ h.k = 2 then one (turn h.k b) (a.flatMap fun x => put (turn h.k b) (x b))
 else if b = true then Pr.mk' (hk 3) [Pr.mk' h l] else Pr.mk' h l
def normal (p : Pr) : Pr := if right p = true then nrm p false else p
theorem nrm_mk (h : Hd) (l : List Pr) (b : Bool) : nrm (Pr.mk' h l) b = if h.k = 3 then fst (l.map nrm) (!b) else if h.k = 1 ∨ h.k = 2 then one (turn h.k b) (l.flatMap fun x => put (turn h.k b) (nrm x b)) else if b = true then Pr.mk' (hk 3) [Pr.mk' h l] else Pr.mk' h l := by
 rw [nrm, rec_mk]
 simp only [List.flatMap_map]
theorem part_kind {h : Hd} {n : Nat} (e : part h n = true) : 1 ≤ h.k ∧ h.k ≤ 10 := by
 unfold part at e
 split at e
 ·omega
 split at e
 ·omega
 split at e
 ·omega
 split at e
 ·omega
 split at e
 ·omega
 split at e
 ·omega
 split at e
 ·omega
 cases e
theorem part_all {h : Hd} {n : Nat} (hk' : h.k = 1 ∨ h.k = 2) (e : part h n = true) : h = hk h.k := by
 unfold part at e
 rw [if_pos hk'] at e
 have e := of_decide_eq_true e
 obtain ⟨k, c, x, m, s, t⟩ := h
 simp only at e
 obtain ⟨rfl, rfl, rfl, rfl, rfl⟩ := e
 rfl
theorem part_not {h : Hd} {n : Nat} (hk' : h.k = 3) (e : part h n = true) : h = hk 3 ∧ n = 1 := by
 unfold part at e
 rw [if_neg (by omega), if_pos hk'] at e
 have e := of_decide_eq_true e
 obtain ⟨k, c, x, m, s, t⟩ := h
 simp only at e hk'
 obtain ⟨rfl, rfl, rfl, rfl, rfl, rfl⟩ := e
 subst hk'
 exact ⟨rfl, rfl⟩
theorem one_of {l : List Pr} (h : l.length = 1) : ∃ x, l = [x] := by
 match l, h with
 | [x], _ => exact ⟨x, rfl⟩
/-- Is it normal, beneath a part of a kind? -/
def nots (l : List Pr) : Bool :=
 match l with
 | [x] => decide (3 < x.h.k)
 | _ => false
def flat : Pr → Int → Bool := rec' fun h l a u => if h.k = 3 then nots l else if h.k = 1 ∨ h.k = 2 then decide (h.k ≠ u) && decide (l.length ≠ 1) && a.all (fun x => x h.k) else true
end Pd
end Go.Proofs.YtbdjccmlgdfapaaGreat
namespace Go.Proofs.YtbdjccmlgdfapaaGreat
set_option linter.unusedVariables false
set_option linter.unusedSimpArgs false
namespace Pd
/-- Bytes that lie in others, from a place on. -/
def Lies (b : List UInt8) (k : Nat) (E : List UInt8) : Prop := ∃ P Z, b = P ++ E ++ Z ∧ P.length = k
theorem Lies.get {b : List UInt8} {k n : Nat} (h : Lies b k (M.digs n)) (hn : n < 18446744073709551616) : M.get b (k : Int) = (n, k + (M.digs n).length, 0) := by
 obtain ⟨P, Z, rfl, rfl⟩ := h
 exact M.get_digs hn P Z
theorem Lies.text {b s : List UInt8} {k : Nat} {m : Int} (h : Lies b k (T.ptext s)) (hm : (s.length : Int) ≤ m) (hs : s.length < 18446744073709551616) : M.getText b (k : Int) m = (s, k + (T.ptext s).length, 0) := by
 obtain ⟨P, Z, rfl, rfl⟩ := h
 rw [Rw.text_at P s Z m hm hs, List.length_append]
/-- As bytes. -/
def encH (h : Hd) (n : Nat) : List UInt8 :=
 M.digs h.k.toNat ++ (if h.k = 1 ∨ h.k = 2 then M.digs n else if h.k = 3 then [] else if h.k = 10 then M.digs (M.zig h.n).toNat ++ M.digs (M.zig h.m).toNat
  else T.ptext h.col ++ (if h.k = 4 ∨ h.k = 5 then M.digs (M.zig h.n).toNat else if h.k = 6 ∨ h.k = 8 then T.ptext h.s else if h.k = 7 then M.digs h.set.length ++ T.texts h.set else []))
def enc : Pr → List UInt8 := rec' fun h l a => encH h l.length ++ a.flatten
def encE (p : Pr) : List UInt8 × Nat := if right p = true then (enc p, 0) else ([], 12)
theorem enc_mk (h : Hd) (l : List Pr) : enc (Pr.mk' h l) = encH h l.length ++ (l.map enc).flatten := rec_mk _ h l
/-- Numbers that an int64 bears. -/
def num : Pr → Prop := rec' fun h _ a => (In64 h.n ∧ In64 h.m) ∧ ∀ x ∈ a, x
theorem num_mk (h : Hd) (l : List Pr) : num (Pr.mk' h l) ↔ (In64 h.n ∧ In64 h.m) ∧ ∀ x ∈ l, num x := by
 rw [num, rec_mk]
 simp only [List.mem_map, forall_exists_index, and_imp, forall_apply_eq_imp_iff₂]
/-- Of bytes: texts, a head, a predicate. What is answered: what was read, where it ends, (how many parts there were,) why it is refused. -/
def rdT (b : List UInt8) : Nat → Nat → List (List UInt8) → List (List UInt8) × Nat × Nat
 | 0, k, o => (o, k, 0)
 | n + 1, k, o => if (M.getText b k 40).2.2 ≠ 0 then ([], 0, (M.getText b k 40).2.2) else rdT b n (M.getText b k 40).2.1 (o ++ [(M.getText b k 40).1])
def rdC2 (b : List UInt8) (K : Nat) (c : List UInt8) (k : Nat) : Hd × Nat × Nat × Nat :=
 if K = 4 ∨ K = 5 then (if (M.get b k).2.2 ≠ 0 then (hk 0, 0, 0, (M.get b k).2.2) else (⟨K, c, M.zag ((M.get b k).1 : Int), 0, [], []⟩, 0, (M.get b k).2.1, 0))
 else if K = 6 ∨ K = 8 then (if (M.getText b k 40).2.2 ≠ 0 then (hk 0, 0, 0, (M.getText b k 40).2.2) else (⟨K, c, 0, 0, (M.getText b k 40).1, []⟩, 0, (M.getText b k 40).2.1, 0))
 else if K = 7 then (if (M.get b k).2.2 ≠ 0 then (hk 0, 0, 0, (M.get b k).2.2) else if 8 < (M.get b k).1 then (hk 0, 0, 0, 4) else
  if (rdT b (M.get b k).1 (M.get b k).2.1 []).2.2 ≠ 0 then (hk 0, 0, 0, (rdT b (M.get b k).1 (M.get b k).2.1 []).2.2) else (⟨K, c, 0, 0, [], (rdT b (M.get b k).1 (M.get b k).2.1 []).1⟩, 0, (rdT b (M.get b k).1 (M.get b k).2.1 []).2.1, 0))
 else (⟨K, c, 0, 0, [], []⟩, 0, k, 0)
def rdH (b : List UInt8) (K k : Nat) : Hd × Nat × Nat × Nat :=
 if K = 1 ∨ K = 2 then (if (M.get b k).2.2 ≠ 0 then (hk 0, 0, 0, (M.get b k).2.2) else if 40 < (M.get b k).1 then (hk 0, 0, 0, 4) else (hk K, (M.get b k).1, (M.get b k).2.1, 0))
 else if K = 3 then (hk 3, 1, k, 0)
 else if K = 10 then (if (M.get b k).2.2 ≠ 0 then (hk 0, 0, 0, (M.get b k).2.2) else if (M.get b (M.get b k).2.1).2.2 ≠ 0 then (hk 0, 0, 0, (M.get b (M.get b k).2.1).2.2) else
  (⟨10, [], M.zag ((M.get b k).1 : Int), M.zag ((M.get b (M.get b k).2.1).1 : Int), [], []⟩, 0, (M.get b (M.get b k).2.1).2.1, 0))
 else (if (M.getText b k 12).2.2 ≠ 0 then (hk 0, 0, 0, (M.getText b k 12).2.2) else rdC2 b K (M.getText b k 12).1 (M.getText b k 12).2.1)
def rdK (R : Nat → Nat → Pr × Nat × Nat × Nat) : Nat → Nat → Nat → List Pr → List Pr × Nat × Nat × Nat
 | 0, k, c, o => (o, k, c, 0)
 | n + 1, k, c, o => if (R k c).2.2.2 ≠ 0 then ([], 0, 0, (R k c).2.2.2) else rdK R n (R k c).2.1 (R k c).2.2.1 (o ++ [(R k c).1])
def rd4 (R : Nat → Nat → Pr × Nat × Nat × Nat) (c : Nat) (x : Hd × Nat × Nat × Nat) : Pr × Nat × Nat × Nat :=
 if x.2.2.2 ≠ 0 then (zero, 0, 0, x.2.2.2) else
 if (rdK R x.2.1 x.2.2.1 c []).2.2.2 ≠ 0 then (zero, 0, 0, (rdK R x.2.1 x.2.2.1 c []).2.2.2) else
 (Pr.mk' x.1 (rdK R x.2.1 x.2.2.1 c []).1, (rdK R x.2.1 x.2.2.1 c []).2.1, (rdK R x.2.1 x.2.2.1 c []).2.2.1, 0)
def rd (b : List UInt8) : Nat → Int → Nat → Pr × Nat × Nat × Nat
 | 0, _, _ => (zero, 0, 0, 24)
 | f + 1, k, c =>
  if 40 < c + 1 then (zero, 0, 0, 4) else
  if (M.get b k).2.2 ≠ 0 then (zero, 0, 0, (M.get b k).2.2) else
  if (M.get b k).1 < 1 ∨ 10 < (M.get b k).1 then (zero, 0, 0, 12) else
  rd4 (fun k c => rd b f (k : Int) c) (c + 1) (rdH b (M.get b k).1 (M.get b k).2.1)
def dec (b : List UInt8) (p : Int) : Pr × Nat × Nat :=
 if (rd b 6 p 0).2.2.2 ≠ 0 then (zero, 0, (rd b 6 p 0).2.2.2) else
 if right (rd b 6 p 0).1 = true then ((rd b 6 p 0).1, (rd b 6 p 0).2.1, 0) else (zero, 0, 12)
/-- What each kind asks, said out. -/
theorem part_cases {h : Hd} {n : Nat} (e : part h n = true) :
  (∃ k, (k = 1 ∨ k = 2) ∧ h = hk k) ∨ (h = hk 3 ∧ n = 1) ∨
  (∃ k c x, (k = 4 ∨ k = 5) ∧ Rw.name c = true ∧ h = ⟨k, c, x, 0, [], []⟩ ∧ n = 0) ∨
  (∃ k c s, (k = 6 ∨ k = 8) ∧ Rw.name c = true ∧ s.length ≤ 40 ∧ h = ⟨k, c, 0, 0, s, []⟩ ∧ n = 0) ∨
  (∃ c t, Rw.name c = true ∧ t.length ≤ 8 ∧ T.adj t = true ∧ (∀ s ∈ t, s.length ≤ 40) ∧ h = ⟨7, c, 0, 0, [], t⟩ ∧ n = 0) ∨
  (∃ c, Rw.name c = true ∧ h = ⟨9, c, 0, 0, [], []⟩ ∧ n = 0) ∨ (∃ x y, h = ⟨10, [], x, y, [], []⟩ ∧ n = 0) := by
 have e0 := e
 unfold part at e
 split at e
 ·rename_i h1; exact .inl ⟨h.k, h1, part_all h1 e0⟩
 split at e
 ·rename_i h1; exact .inr (.inl (part_not h1 e0))
 obtain ⟨k, c, x, m, s, t⟩ := h
 simp only at e
 split at e
 ·rename_i h1
  simp only [Bool.and_eq_true, decide_eq_true_eq] at e
  obtain ⟨hc, rfl, rfl, rfl, rfl⟩ := e
  exact .inr (.inr (.inl ⟨k, c, x, h1, hc, rfl, rfl⟩))
 split at e
 ·rename_i h1
  simp only [Bool.and_eq_true, decide_eq_true_eq] at e
  obtain ⟨hc, rfl, rfl, hs, rfl, rfl⟩ := e
  exact .inr (.inr (.inr (.inl ⟨k, c, s, h1, hc, hs, rfl, rfl⟩)))
 split at e
 ·rename_i h1
  simp only [Bool.and_eq_true, decide_eq_true_eq, List.all_eq_true] at e
  obtain ⟨⟨⟨hc, rfl, rfl, rfl, rfl, ht⟩, ha⟩, hs⟩ := e
  subst h1
  exact .inr (.inr (.inr (.inr (.inl ⟨c, t, hc, ht, ha, hs, rfl, rfl⟩))))
 split at e
 ·rename_i h1
  simp only [Bool.and_eq_true, decide_eq_true_eq] at e
  obtain ⟨hc, rfl, rfl, rfl, rfl, rfl⟩ := e
  subst h1
  exact .inr (.inr (.inr (.inr (.inr (.inl ⟨c, hc, rfl, rfl⟩)))))
 split at e
 ·rename_i h1
  simp only [decide_eq_true_eq] at e
  obtain ⟨rfl, rfl, rfl, rfl⟩ := e
  subst h1
  exact .inr (.inr (.inr (.inr (.inr (.inr ⟨x, m, rfl, rfl⟩)))))
 ·cases e
theorem name_len {s : List UInt8} (h : Rw.name s = true) : s.length ≤ 12 := ((Rw.name_iff s).1 h).2.2
theorem size_pos : ∀ p, 1 ≤ size p := by
 refine tree ?_
 intro h l _
 rw [size_mk]; omega
theorem sum_len : ∀ (l : List Pr), l.length ≤ (l.map size).sum
 | [] => by simp
 | x :: l => by
  have h1 := size_pos x
  have h2 := sum_len l
  rw [List.map_cons, List.sum_cons, List.length_cons]; omega
theorem deep_in {l : List Pr} {x : Pr} (h : x ∈ l) : deep x ≤ (l.map deep).foldr max 0 := by
 induction l with
 | nil => simp at h
 | cons y t ih =>
  rw [List.map_cons, List.foldr_cons]
  rcases List.mem_cons.1 h with rfl | h
  ·omega
  ·have := ih h; omega
theorem in0 : In64 0 := ⟨by decide, by decide⟩
end Pd
end Go.Proofs.YtbdjccmlgdfapaaGreat
namespace Go.Proofs.YtbdjccmlgdfapaaGreat
set_option linter.unusedVariables false
set_option linter.unusedSimpArgs false
namespace Pd
/-- A predicate that is not too deep or wide. -/
def cutH (h : Hd) : Hd := ⟨h.k, h.col.take 20, h.n, h.m, h.s.take 41, (h.set.take 9).map fun s => s.take 41⟩
def cut : Pr → Nat → Pr := rec' fun h l a d => Pr.mk' (cutH h) (if d = 0 then [] else (a.take 4).map fun x => x (d - 1))
theorem cut_mk (h : Hd) (l : List Pr) (d : Nat) : cut (Pr.mk' h l) d = Pr.mk' (cutH h) (if d = 0 then [] else (l.take 4).map fun x => cut x (d - 1)) := by
 rw [cut, rec_mk]
 congr 1
 split
 ·rfl
 ·rw [← List.map_take, List.map_map]
  rfl
theorem mem_take {α : Type} {l : List α} {n : Nat} {x : α} (h : x ∈ l.take n) : x ∈ l := (List.take_subset n l) h
theorem foldr_le {l : List Nat} {n : Nat} (h : ∀ x ∈ l, x ≤ n) : l.foldr max 0 ≤ n := by
 induction l with
 | nil => simp
 | cons y t ih =>
  rw [List.foldr_cons]
  have h1 := h y (by simp)
  have h2 := ih fun x hx => h x (by simp [hx])
  omega
theorem cut_deep : ∀ p d, deep (cut p d) ≤ d + 1 := by
 refine tree ?_
 intro h l ih d
 rw [cut_mk, deep_mk]
 split
 ·simp
 ·rename_i hd
  have : ((List.map (fun x => cut x (d - 1)) (l.take 4)).map deep).foldr max 0 ≤ d := by
   refine foldr_le ?_
   intro x hx
   rw [List.map_map] at hx
   obtain ⟨y, hy, rfl⟩ := List.mem_map.1 hx
   have := ih y (mem_take hy) (d - 1)
   simp only [Function.comp]
   omega
  omega
theorem sum_le {l : List Nat} {n : Nat} (h : ∀ x ∈ l, x ≤ n) : l.sum ≤ l.length * n := by
 induction l with
 | nil => simp
 | cons y t ih =>
  rw [List.sum_cons, List.length_cons]
  have h1 := h y (by simp)
  have h2 := ih fun x hx => h x (by simp [hx])
  rw [Nat.add_mul]
  omega
/-- So many parts at most. -/
def most : Nat → Nat
 | 0 => 1
 | d + 1 => 1 + 4 * most d
theorem cut_size : ∀ p d, size (cut p d) ≤ most d := by
 refine tree ?_
 intro h l ih d
 rw [cut_mk, size_mk]
 cases d with
 | zero => simp [most]
 | succ d =>
  rw [if_neg (by omega), List.map_map, most]
  have h1 : ((l.take 4).map (size ∘ fun x => cut x (d + 1 - 1))).sum ≤ ((l.take 4).map (size ∘ fun x => cut x (d + 1 - 1))).length * most d := by
   refine sum_le ?_
   intro x hx
   obtain ⟨y, hy, rfl⟩ := List.mem_map.1 hx
   exact ih y (mem_take hy) d
  have h2 : ((l.take 4).map (size ∘ fun x => cut x (d + 1 - 1))).length ≤ 4 := by simp; omega
  have h3 := Nat.mul_le_mul_right (most d) h2
  omega
/-- Nots about a predicate. -/
def nt (p : Pr) : Pr := Pr.mk' (hk 3) [p]
def ntN : Nat → Pr → Pr
 | 0, p => p
 | n + 1, p => nt (ntN n p)
def nullP (c : List UInt8) : Pr := Pr.mk' ⟨9, c, 0, 0, [], []⟩ []
/-- How many parts may it have? -/
def wide (c : List UInt8) (n : Nat) : Pr := Pr.mk' (hk 2) (List.replicate n (nullP c))
/-- How many bytes. -/
theorem texts_le {d : List (List UInt8)} (h : ∀ s ∈ d, s.length ≤ 40) : (T.texts d).length ≤ d.length * 50 := by
 induction d with
 | nil => simp [T.texts]
 | cons s t ih =>
  have h1 := h s (by simp)
  have h2 := ih fun x hx => h x (by simp [hx])
  have h3 := M.digs_len s.length
  rw [T.texts_cons, List.length_append, T.ptext, List.length_append, List.length_cons, Nat.add_mul]
  omega
theorem encH_len {h : Hd} {n : Nat} (hp : part h n = true) : (encH h n).length ≤ 500 := by
 have z : ∀ x, (M.digs x).length ≤ 10 := fun x => (M.digs_len x).2
 have z1 := z h.k.toNat
 have z2 := z n
 have z3 := z (M.zig h.n).toNat
 have z4 := z (M.zig h.m).toNat
 have z5 := z h.set.length
 have z6 := z h.s.length
 have z7 := z h.col.length
 have hb : h.s.length ≤ 40 ∧ h.col.length ≤ 12 ∧ (T.texts h.set).length ≤ 400 := by
  rcases part_cases hp with ⟨K, hK, rfl⟩ | ⟨rfl, rfl⟩ | ⟨K, c, x, hK, hc, rfl, rfl⟩ | ⟨K, c, s, hK, hc, hs, rfl, rfl⟩ | ⟨c, t, hc, ht, ha, hs, rfl, rfl⟩ | ⟨c, hc, rfl, rfl⟩ | ⟨x, y, rfl, rfl⟩
  ·exact ⟨by simp [hk], by simp [hk], by simp [hk, T.texts]⟩
  ·exact ⟨by simp [hk], by simp [hk], by simp [hk, T.texts]⟩
  ·exact ⟨by simp, name_len hc, by simp [T.texts]⟩
  ·exact ⟨hs, name_len hc, by simp [T.texts]⟩
  ·refine ⟨by simp, name_len hc, ?_⟩
   have := texts_le hs
   simp only
   omega
  ·exact ⟨by simp, name_len hc, by simp [T.texts]⟩
  ·exact ⟨by simp, by simp, by simp [T.texts]⟩
 obtain ⟨b1, b2, b3⟩ := hb
 unfold encH T.ptext
 rw [List.length_append]
 repeat' split
 all_goals first | omega | (simp only [List.length_append, List.length_nil]; omega)
theorem enc_len : ∀ p, form p = true → (enc p).length ≤ 500 * size p := by
 refine tree ?_
 intro h l ih hf
 rw [form_mk, Bool.and_eq_true, List.all_eq_true] at hf
 obtain ⟨hp, hl⟩ := hf
 have h1 := encH_len hp
 rw [enc_mk, size_mk, List.length_append]
 have : ((l.map enc).flatten).length ≤ 500 * (l.map size).sum := by
  clear hp h1
  induction l with
  | nil => simp
  | cons x t iht =>
   have a := ih x (by simp) (hl x (by simp))
   have b := iht (fun k hk => ih k (by simp [hk])) (fun k hk => hl k (by simp [hk]))
   rw [List.map_cons, List.flatten_cons, List.length_append, List.map_cons, List.sum_cons]
   omega
 omega
end Pd
end Go.Proofs.YtbdjccmlgdfapaaGreat
