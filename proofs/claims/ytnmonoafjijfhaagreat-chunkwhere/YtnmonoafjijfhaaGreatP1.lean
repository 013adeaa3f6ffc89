/-
  Predicates as trees: a part's head and the list of its Kids. No program here. Plain facts on predicates: judged, reckoned, asked of rows, made normal. No program here. Plain facts on predicates: the columns that they name, how they are written and read. No program here. Plain facts on predicates: cut ones, how great they are, Nots one about the other, Kids side by side. No program here. Predicates in memory: seven places each, the last two slices (texts; Kids). No function of the program here. A predicate in a block of its own: read, stored, kept, handed back. No function of the program here.
-/
import Derived.Test.YtnmonoafjijfhaaGreatM10
import Derived.Deep.Trees
import Derived.Test.YtnmonoafjijfhaaGreatM29
import Derived.Test.YtnmonoafjijfhaaGreatM30
import Derived.Test.YtnmonoafjijfhaaGreatM28
import Derived.Test.YtnmonoafjijfhaaGreatM07
import Derived.Test.YtnmonoafjijfhaaGreatM02
import Derived.Test.YtnmonoafjijfhaaGreatM05
import Derived.Deep.DeepCutAuto
import Derived.Deep.Light
namespace Go.Proofs.YtnmonoafjijfhaaGreat
open Go.Deep (BT)
set_option linter.unusedVariables false
set_option linter.unusedSimpArgs false
/-- What a part asks, its Kids aside. -/
structure Hd where
  k : Int
  col : List UInt8
  n : Int
  m : Int
  s : List UInt8
  set : List (List UInt8)
structure Hr where
  col : List UInt8
  m : Int
  s : List UInt8
  set : List (List UInt8)
namespace Pd
/-- Whole numbers as counts, one to one. -/
def zg (i : Int) : Nat := if 0 ≤ i then 2 * i.toNat else 2 * (-i).toNat - 1
def zb (n : Nat) : Int := if n % 2 = 0 then ((n / 2 : Nat) : Int) else -(((n + 1) / 2 : Nat) : Int)
theorem zb_zg (i : Int) : zb (zg i) = i := by unfold zb zg; split <;> split <;> omega
theorem zg_zb (n : Nat) : zg (zb n) = n := by unfold zb zg; split <;> split <;> omega
/-- Kids: the first one's Kids, its head (two of its numbers lie where the library's tree keeps two), the others. -/
abbrev Fo := BT Hr
def cons (h : Hd) (l r : Fo) : Fo := .node (zg h.k) (zg h.n) ⟨h.col, h.m, h.s, h.set⟩ l r
def hd (b o : Nat) (a : Hr) : Hd := ⟨zb b, a.col, zb o, a.m, a.s, a.set⟩
theorem cons_hd (b o : Nat) (a : Hr) (l r : Fo) : cons (hd b o a) l r = .node b o a l r := by
  unfold cons hd; simp only [zg_zb]
theorem hd_cons (h : Hd) : hd (zg h.k) (zg h.n) ⟨h.col, h.m, h.s, h.set⟩ = h := by
  unfold hd; simp only [zb_zg]
def fold {β : Type} (z : β) (f : Hd → Fo → β → β → β) : Fo → β
  | .nil => z
  | .node b o a l r => f (hd b o a) l (fold z f l) (fold z f r)
theorem fold_cons {β : Type} (z : β) (f : Hd → Fo → β → β → β) (h : Hd) (l r : Fo) : fold z f (cons h l r) = f h l (fold z f l) (fold z f r) := by
  rw [cons, fold, hd_cons]
theorem ind {P : Fo → Prop} (z : P .nil) (s : ∀ h l r, P l → P r → P (cons h l r)) : ∀ f, P f
  | .nil => z
  | .node b o a l r => by rw [← cons_hd]; exact s _ l r (ind z s l) (ind z s r)
end Pd
/-- A predicate. -/
structure Pr where
  h : Hd
  f : Pd.Fo
namespace Pd
def kl (f : Fo) : List Pr := fold [] (fun h l _ r => ⟨h, l⟩ :: r) f
def ofl : List Pr → Fo
  | [] => .nil
  | p :: t => cons p.h p.f (ofl t)
theorem kl_nil : kl .nil = [] := rfl
theorem kl_cons (h : Hd) (l r : Fo) : kl (cons h l r) = ⟨h, l⟩ :: kl r := by rw [kl, fold_cons]; rfl
theorem kl_ofl (l : List Pr) : kl (ofl l) = l := by
  induction l with
  | nil => rfl
  | cons p t ih => rw [ofl, kl_cons, ih]
theorem ofl_kl (f : Fo) : ofl (kl f) = f := by
  refine ind (P := fun f => ofl (kl f) = f) rfl ?_ f
  intro h l r _ hr
  rw [kl_cons, ofl, hr]
end Pd
/-- A predicate of a head and a list of Kids. -/
def Pr.mk' (h : Hd) (l : List Pr) : Pr := ⟨h, Pd.ofl l⟩
def Pr.ks (p : Pr) : List Pr := Pd.kl p.f
namespace Pd
theorem h_mk (h : Hd) (l : List Pr) : (Pr.mk' h l).h = h := rfl
theorem ks_mk (h : Hd) (l : List Pr) : (Pr.mk' h l).ks = l := kl_ofl l
theorem mk_ks (p : Pr) : Pr.mk' p.h p.ks = p := by unfold Pr.mk' Pr.ks; rw [ofl_kl]
/-- By its Kids. -/
theorem tree {P : Pr → Prop} (s : ∀ h l, (∀ k ∈ l, P k) → P (Pr.mk' h l)) : ∀ p, P p := by
  have all : ∀ f, ∀ k ∈ kl f, P k := by
    refine ind (P := fun f => ∀ k ∈ kl f, P k) (by simp [kl_nil]) ?_
    intro h l r hl hr k hk
    rw [kl_cons] at hk
    rcases List.mem_cons.1 hk with rfl | hk
    · have := s h (kl l) hl
      rw [Pr.mk', ofl_kl] at this
      exact this
    · exact hr k hk
  intro p
  rw [← mk_ks p]
  exact s _ _ (all p.f)
/-- Reckoned of a head, the Kids, and what is reckoned of the Kids. -/
def each {β : Type} (g : Hd → List Pr → List β → β) (f : Fo) : List β := fold [] (fun h l a r => g h (kl l) a :: r) f
def rec' {β : Type} (g : Hd → List Pr → List β → β) (p : Pr) : β := g p.h p.ks (each g p.f)
theorem each_eq {β : Type} (g : Hd → List Pr → List β → β) (f : Fo) : each g f = (kl f).map (rec' g) := by
  refine ind (P := fun f => each g f = (kl f).map (rec' g)) rfl ?_ f
  intro h l r _ hr
  rw [kl_cons, List.map_cons, ← hr, each, fold_cons]
  rfl
theorem rec_mk {β : Type} (g : Hd → List Pr → List β → β) (h : Hd) (l : List Pr) : rec' g (Pr.mk' h l) = g h l (l.map (rec' g)) := by
  unfold rec'
  rw [each_eq, ks_mk, h_mk]
  show g h l ((kl (ofl l)).map _) = _
  rw [kl_ofl]
  rfl
end Pd
end Go.Proofs.YtnmonoafjijfhaaGreat
namespace Go.Proofs.YtnmonoafjijfhaaGreat
set_option linter.unusedVariables false
set_option linter.unusedSimpArgs false
namespace Pd
def hk (k : Int) : Hd := ⟨k, [], 0, 0, [], []⟩
def zero : Pr := Pr.mk' (hk 0) []
/-- Is a part what its kind asks, so many Kids beneath it? -/
def part (h : Hd) (n : Nat) : Bool :=
  if h.k = 1 ∨ h.k = 2 then decide (h.col = [] ∧ h.n = 0 ∧ h.m = 0 ∧ h.s = [] ∧ h.set = [])
  else if h.k = 3 then decide (h.col = [] ∧ h.n = 0 ∧ h.m = 0 ∧ h.s = [] ∧ h.set = [] ∧ n = 1)
  else if h.k = 4 ∨ h.k = 5 then Rw.name h.col && decide (h.m = 0 ∧ h.s = [] ∧ h.set = [] ∧ n = 0)
  else if h.k = 6 ∨ h.k = 8 then Rw.name h.col && decide (h.n = 0 ∧ h.m = 0 ∧ h.s.length ≤ 40 ∧ h.set = [] ∧ n = 0)
  else if h.k = 7 then Rw.name h.col && decide (h.n = 0 ∧ h.m = 0 ∧ h.s = [] ∧ n = 0 ∧ h.set.length ≤ 8) && T.adj h.set && h.set.all (fun s => decide (s.length ≤ 40))
  else if h.k = 9 then Rw.name h.col && decide (h.n = 0 ∧ h.m = 0 ∧ h.s = [] ∧ h.set = [] ∧ n = 0)
  else if h.k = 10 then decide (h.col = [] ∧ h.s = [] ∧ h.set = [] ∧ n = 0)
  else false
def size : Pr → Nat := rec' fun _ _ a => 1 + a.sum
def deep : Pr → Nat := rec' fun _ _ a => a.foldr max 0 + 1
def form : Pr → Bool := rec' fun h l a => part h l.length && a.all id
def right (p : Pr) : Bool := decide (deep p ≤ 6) && decide (size p ≤ 40) && form p
def own (h : Hd) : List (List UInt8) := if h.col = [] then [] else [h.col]
def leaf (r : Rw) (h : Hd) : Bool :=
  if h.k = 4 then decide ((Rw.cell r.c h.col).k = 1 ∧ (Rw.cell r.c h.col).n < h.n)
  else if h.k = 5 then decide ((Rw.cell r.c h.col).k = 1 ∧ (Rw.cell r.c h.col).n = h.n)
  else if h.k = 6 then decide ((Rw.cell r.c h.col).k = 2 ∧ (Rw.cell r.c h.col).s = h.s)
  else if h.k = 7 then decide ((Rw.cell r.c h.col).k = 2 ∧ (Rw.cell r.c h.col).s ∈ h.set)
  else if h.k = 8 then decide ((Rw.cell r.c h.col).k = 2) && T.begins h.s (Rw.cell r.c h.col).s
  else if h.k = 9 then decide ((Rw.cell r.c h.col).k = 0)
  else if h.k = 10 then decide (h.n ≤ r.t ∧ r.t ≤ h.m)
  else false
def notB : List Bool → Bool
  | [] => false
  | b :: _ => !b
def ev (r : Rw) : Pr → Bool := rec' fun h _ a => if h.k = 1 then a.all id else if h.k = 2 then a.any id else if h.k = 3 then notB a else leaf r h
theorem size_mk (h : Hd) (l : List Pr) : size (Pr.mk' h l) = 1 + (l.map size).sum := rec_mk _ h l
theorem deep_mk (h : Hd) (l : List Pr) : deep (Pr.mk' h l) = (l.map deep).foldr max 0 + 1 := rec_mk _ h l
theorem form_mk (h : Hd) (l : List Pr) : form (Pr.mk' h l) = (part h l.length && l.all form) := by
  rw [form, rec_mk]; simp [List.all_map]
theorem ev_mk (r : Rw) (h : Hd) (l : List Pr) : ev r (Pr.mk' h l) = if h.k = 1 then l.all (ev r) else if h.k = 2 then l.any (ev r) else if h.k = 3 then notB (l.map (ev r)) else leaf r h := by
  rw [ev, rec_mk]; simp [List.all_map, List.any_map]
/-- Normal. -/
def put (k : Int) (p : Pr) : List Pr := if p.h.k = k then p.ks else [p]
def one (k : Int) (l : List Pr) : Pr := if l.length = 1 then l.headD zero else Pr.mk' (hk k) l
def fst (a : List (Bool → Pr)) (b : Bool) : Pr := a.headD (fun _ => zero) b
def turn (k : Int) (b : Bool) : Int := if b = true then 3 - k else k
def nrm : Pr → Bool → Pr := rec' fun h l a b =>
  if h.k = 3 then fst a (!b)
  else if h.k = 1 ∨ h.k = 2 then one (turn h.k b) (a.flatMap fun x => put (turn h.k b) (x b))
  else if b = true then Pr.mk' (hk 3) [Pr.mk' h l] else Pr.mk' h l
def normal (p : Pr) : Pr := if right p = true then nrm p false else p
theorem part_kind {h : Hd} {n : Nat} (e : part h n = true) : 1 ≤ h.k ∧ h.k ≤ 10 := by
  unfold part at e
  split at e
  · omega
  split at e
  · omega
  split at e
  · omega
  split at e
  · omega
  split at e
  · omega
  split at e
  · omega
  split at e
  · omega
  cases e
theorem part_all {h : Hd} {n : Nat} (hk' : h.k = 1 ∨ h.k = 2) (e : part h n = true) : h = hk h.k := by
  unfold part at e
  rw [if_pos hk'] at e
  have e := of_decide_eq_true e
  obtain ⟨k, c, x, m, s, t⟩ := h
  simp only at e
  obtain ⟨rfl, rfl, rfl, rfl, rfl⟩ := e
  rfl
theorem part_not {h : Hd} {n : Nat} (hk' : h.k = 3) (e : part h n = true) : h = hk 3 ∧ n = 1 := by
  unfold part at e
  rw [if_neg (by omega), if_pos hk'] at e
  have e := of_decide_eq_true e
  obtain ⟨k, c, x, m, s, t⟩ := h
  simp only at e hk'
  obtain ⟨rfl, rfl, rfl, rfl, rfl, rfl⟩ := e
  subst hk'
  exact ⟨rfl, rfl⟩
/-- Is it normal, beneath a part of a kind? -/
def nots (l : List Pr) : Bool :=
  match l with
  | [x] => decide (3 < x.h.k)
  | _ => false
def flat : Pr → Int → Bool := rec' fun h l a u => if h.k = 3 then nots l else if h.k = 1 ∨ h.k = 2 then decide (h.k ≠ u) && decide (l.length ≠ 1) && a.all (fun x => x h.k) else true
end Pd
end Go.Proofs.YtnmonoafjijfhaaGreat
namespace Go.Proofs.YtnmonoafjijfhaaGreat
set_option linter.unusedVariables false
set_option linter.unusedSimpArgs false
namespace Pd
/-- Bytes that lie in others, from a place on. -/
def Lies (b : List UInt8) (k : Nat) (E : List UInt8) : Prop := ∃ P Z, b = P ++ E ++ Z ∧ P.length = k
theorem Lies.app {b E F : List UInt8} {k : Nat} (h : Lies b k (E ++ F)) : Lies b k E ∧ Lies b (k + E.length) F := by
  obtain ⟨P, Z, rfl, rfl⟩ := h
  exact ⟨⟨P, F ++ Z, by simp, rfl⟩, ⟨P ++ E, Z, by simp, by simp⟩⟩
theorem Lies.get {b : List UInt8} {k n : Nat} (h : Lies b k (M.digs n)) (hn : n < 18446744073709551616) : M.get b (k : Int) = (n, k + (M.digs n).length, 0) := by
  obtain ⟨P, Z, rfl, rfl⟩ := h
  exact M.get_digs hn P Z
theorem Lies.text {b s : List UInt8} {k : Nat} {m : Int} (h : Lies b k (T.ptext s)) (hm : (s.length : Int) ≤ m) (hs : s.length < 18446744073709551616) : M.getText b (k : Int) m = (s, k + (T.ptext s).length, 0) := by
  obtain ⟨P, Z, rfl, rfl⟩ := h
  rw [Rw.text_at P s Z m hm hs, List.length_append]
/-- As bytes. -/
def encH (h : Hd) (n : Nat) : List UInt8 :=
  M.digs h.k.toNat ++ (if h.k = 1 ∨ h.k = 2 then M.digs n else if h.k = 3 then [] else if h.k = 10 then M.digs (M.zig h.n).toNat ++ M.digs (M.zig h.m).toNat
    else T.ptext h.col ++ (if h.k = 4 ∨ h.k = 5 then M.digs (M.zig h.n).toNat else if h.k = 6 ∨ h.k = 8 then T.ptext h.s else if h.k = 7 then M.digs h.set.length ++ T.texts h.set else []))
def enc : Pr → List UInt8 := rec' fun h l a => encH h l.length ++ a.flatten
def encE (p : Pr) : List UInt8 × Nat := if right p = true then (enc p, 0) else ([], 12)
theorem enc_mk (h : Hd) (l : List Pr) : enc (Pr.mk' h l) = encH h l.length ++ (l.map enc).flatten := rec_mk _ h l
/-- Numbers that an int64 bears. -/
def num : Pr → Prop := rec' fun h _ a => (In64 h.n ∧ In64 h.m) ∧ ∀ x ∈ a, x
theorem num_mk (h : Hd) (l : List Pr) : num (Pr.mk' h l) ↔ (In64 h.n ∧ In64 h.m) ∧ ∀ x ∈ l, num x := by
  rw [num, rec_mk]
  simp only [List.mem_map, forall_exists_index, and_imp, forall_apply_eq_imp_iff₂]
/-- Of bytes: texts, a head, a predicate. What is answered: what was read, where it ends, (how many parts there were,) why it is refused. -/
def rdT (b : List UInt8) : Nat → Nat → List (List UInt8) → List (List UInt8) × Nat × Nat
  | 0, k, o => (o, k, 0)
  | n + 1, k, o => if (M.getText b k 40).2.2 ≠ 0 then ([], 0, (M.getText b k 40).2.2) else rdT b n (M.getText b k 40).2.1 (o ++ [(M.getText b k 40).1])
def rdC2 (b : List UInt8) (K : Nat) (c : List UInt8) (k : Nat) : Hd × Nat × Nat × Nat :=
  if K = 4 ∨ K = 5 then (if (M.get b k).2.2 ≠ 0 then (hk 0, 0, 0, (M.get b k).2.2) else (⟨K, c, M.zag ((M.get b k).1 : Int), 0, [], []⟩, 0, (M.get b k).2.1, 0))
  else if K = 6 ∨ K = 8 then (if (M.getText b k 40).2.2 ≠ 0 then (hk 0, 0, 0, (M.getText b k 40).2.2) else (⟨K, c, 0, 0, (M.getText b k 40).1, []⟩, 0, (M.getText b k 40).2.1, 0))
  else if K = 7 then (if (M.get b k).2.2 ≠ 0 then (hk 0, 0, 0, (M.get b k).2.2) else if 8 < (M.get b k).1 then (hk 0, 0, 0, 4) else
    if (rdT b (M.get b k).1 (M.get b k).2.1 []).2.2 ≠ 0 then (hk 0, 0, 0, (rdT b (M.get b k).1 (M.get b k).2.1 []).2.2) else (⟨K, c, 0, 0, [], (rdT b (M.get b k).1 (M.get b k).2.1 []).1⟩, 0, (rdT b (M.get b k).1 (M.get b k).2.1 []).2.1, 0))
  else (⟨K, c, 0, 0, [], []⟩, 0, k, 0)
def rdH (b : List UInt8) (K k : Nat) : Hd × Nat × Nat × Nat :=
  if K = 1 ∨ K = 2 then (if (M.get b k).2.2 ≠ 0 then (hk 0, 0, 0, (M.get b k).2.2) else if 40 < (M.get b k).1 then (hk 0, 0, 0, 4) else (hk K, (M.get b k).1, (M.get b k).2.1, 0))
  else if K = 3 then (hk 3, 1, k, 0)
  else if K = 10 then (if (M.get b k).2.2 ≠ 0 then (hk 0, 0, 0, (M.get b k).2.2) else if (M.get b (M.get b k).2.1).2.2 ≠ 0 then (hk 0, 0, 0, (M.get b (M.get b k).2.1).2.2) else
    (⟨10, [], M.zag ((M.get b k).1 : Int), M.zag ((M.get b (M.get b k).2.1).1 : Int), [], []⟩, 0, (M.get b (M.get b k).2.1).2.1, 0))
  else (if (M.getText b k 12).2.2 ≠ 0 then (hk 0, 0, 0, (M.getText b k 12).2.2) else rdC2 b K (M.getText b k 12).1 (M.getText b k 12).2.1)
def rdK (R : Nat → Nat → Pr × Nat × Nat × Nat) : Nat → Nat → Nat → List Pr → List Pr × Nat × Nat × Nat
  | 0, k, c, o => (o, k, c, 0)
  | n + 1, k, c, o => if (R k c).2.2.2 ≠ 0 then ([], 0, 0, (R k c).2.2.2) else rdK R n (R k c).2.1 (R k c).2.2.1 (o ++ [(R k c).1])
def rd4 (R : Nat → Nat → Pr × Nat × Nat × Nat) (c : Nat) (x : Hd × Nat × Nat × Nat) : Pr × Nat × Nat × Nat :=
  if x.2.2.2 ≠ 0 then (zero, 0, 0, x.2.2.2) else
  if (rdK R x.2.1 x.2.2.1 c []).2.2.2 ≠ 0 then (zero, 0, 0, (rdK R x.2.1 x.2.2.1 c []).2.2.2) else
  (Pr.mk' x.1 (rdK R x.2.1 x.2.2.1 c []).1, (rdK R x.2.1 x.2.2.1 c []).2.1, (rdK R x.2.1 x.2.2.1 c []).2.2.1, 0)
def rd (b : List UInt8) : Nat → Int → Nat → Pr × Nat × Nat × Nat
  | 0, _, _ => (zero, 0, 0, 24)
  | f + 1, k, c =>
    if 40 < c + 1 then (zero, 0, 0, 4) else
    if (M.get b k).2.2 ≠ 0 then (zero, 0, 0, (M.get b k).2.2) else
    if (M.get b k).1 < 1 ∨ 10 < (M.get b k).1 then (zero, 0, 0, 12) else
    rd4 (fun k c => rd b f (k : Int) c) (c + 1) (rdH b (M.get b k).1 (M.get b k).2.1)
def dec (b : List UInt8) (p : Int) : Pr × Nat × Nat :=
  if (rd b 6 p 0).2.2.2 ≠ 0 then (zero, 0, (rd b 6 p 0).2.2.2) else
  if right (rd b 6 p 0).1 = true then ((rd b 6 p 0).1, (rd b 6 p 0).2.1, 0) else (zero, 0, 12)
theorem rdT_at {b : List UInt8} : ∀ (d : List (List UInt8)) (k : Nat) (o : List (List UInt8)), (∀ s ∈ d, s.length ≤ 40) → Lies b k (T.texts d) → rdT b d.length k o = (o ++ d, k + (T.texts d).length, 0)
  | [], k, o, _, _ => by simp [rdT, T.texts]
  | s :: d, k, o, hs, h => by
    rw [T.texts_cons] at h
    obtain ⟨h1, h2⟩ := h.app
    have hl := hs s (by simp)
    have g := h1.text (m := 40) (by omega) (by omega)
    rw [List.length_cons, rdT, g]
    simp only
    rw [if_neg (by simp), rdT_at d _ _ (fun x hx => hs x (by simp [hx])) h2, T.texts_cons]
    simp [Nat.add_assoc]
/-- What each kind asks, said out. -/
theorem part_cases {h : Hd} {n : Nat} (e : part h n = true) :
    (∃ k, (k = 1 ∨ k = 2) ∧ h = hk k) ∨ (h = hk 3 ∧ n = 1) ∨
    (∃ k c x, (k = 4 ∨ k = 5) ∧ Rw.name c = true ∧ h = ⟨k, c, x, 0, [], []⟩ ∧ n = 0) ∨
    (∃ k c s, (k = 6 ∨ k = 8) ∧ Rw.name c = true ∧ s.length ≤ 40 ∧ h = ⟨k, c, 0, 0, s, []⟩ ∧ n = 0) ∨
    (∃ c t, Rw.name c = true ∧ t.length ≤ 8 ∧ T.adj t = true ∧ (∀ s ∈ t, s.length ≤ 40) ∧ h = ⟨7, c, 0, 0, [], t⟩ ∧ n = 0) ∨
    (∃ c, Rw.name c = true ∧ h = ⟨9, c, 0, 0, [], []⟩ ∧ n = 0) ∨ (∃ x y, h = ⟨10, [], x, y, [], []⟩ ∧ n = 0) := by
  have e0 := e
  unfold part at e
  split at e
  · rename_i h1; exact .inl ⟨h.k, h1, part_all h1 e0⟩
  split at e
  · rename_i h1; exact .inr (.inl (part_not h1 e0))
  obtain ⟨k, c, x, m, s, t⟩ := h
  simp only at e
  split at e
  · rename_i h1
    simp only [Bool.and_eq_true, decide_eq_true_eq] at e
    obtain ⟨hc, rfl, rfl, rfl, rfl⟩ := e
    exact .inr (.inr (.inl ⟨k, c, x, h1, hc, rfl, rfl⟩))
  split at e
  · rename_i h1
    simp only [Bool.and_eq_true, decide_eq_true_eq] at e
    obtain ⟨hc, rfl, rfl, hs, rfl, rfl⟩ := e
    exact .inr (.inr (.inr (.inl ⟨k, c, s, h1, hc, hs, rfl, rfl⟩)))
  split at e
  · rename_i h1
    simp only [Bool.and_eq_true, decide_eq_true_eq, List.all_eq_true] at e
    obtain ⟨⟨⟨hc, rfl, rfl, rfl, rfl, ht⟩, ha⟩, hs⟩ := e
    subst h1
    exact .inr (.inr (.inr (.inr (.inl ⟨c, t, hc, ht, ha, hs, rfl, rfl⟩))))
  split at e
  · rename_i h1
    simp only [Bool.and_eq_true, decide_eq_true_eq] at e
    obtain ⟨hc, rfl, rfl, rfl, rfl, rfl⟩ := e
    subst h1
    exact .inr (.inr (.inr (.inr (.inr (.inl ⟨c, hc, rfl, rfl⟩)))))
  split at e
  · rename_i h1
    simp only [decide_eq_true_eq] at e
    obtain ⟨rfl, rfl, rfl, rfl⟩ := e
    subst h1
    exact .inr (.inr (.inr (.inr (.inr (.inr ⟨x, m, rfl, rfl⟩)))))
  · cases e
theorem name_len {s : List UInt8} (h : Rw.name s = true) : s.length ≤ 12 := ((Rw.name_iff s).1 h).2.2
theorem rdH_at {b : List UInt8} {h : Hd} {n k : Nat} (hp : part h n = true) (hx : In64 h.n) (hm : In64 h.m) (hn : n ≤ 40) (hl : Lies b k (encH h n)) :
    M.get b (k : Int) = (h.k.toNat, k + (M.digs h.k.toNat).length, 0) ∧ rdH b h.k.toNat (k + (M.digs h.k.toNat).length) = (h, n, k + (encH h n).length, 0) := by
  have hkk := part_kind hp
  unfold encH at hl
  obtain ⟨h1, h2⟩ := hl.app
  refine ⟨h1.get (by omega), ?_⟩
  rw [encH, List.length_append, ← Nat.add_assoc]
  obtain ⟨q, hq⟩ : ∃ q, k + (M.digs h.k.toNat).length = q := ⟨_, rfl⟩
  rw [hq] at h2 ⊢
  clear hl h1 hq
  rcases part_cases hp with ⟨K, hK, rfl⟩ | ⟨rfl, rfl⟩ | ⟨K, c, x, hK, hc, rfl, rfl⟩ | ⟨K, c, s, hK, hc, hs, rfl, rfl⟩ | ⟨c, t, hc, ht, ha, hs, rfl, rfl⟩ | ⟨c, hc, rfl, rfl⟩ | ⟨x, y, rfl, rfl⟩
  · have hK' : (hk K).k = K := rfl
    rw [hK', if_pos hK] at h2
    have g := h2.get (by omega)
    rw [hK', if_pos hK, rdH, if_pos (by omega), g]
    simp only
    rw [if_neg (by simp), if_neg (by omega), show ((K.toNat : Nat) : Int) = K by omega]
  · rw [show (hk 3).k = 3 from rfl, rdH, if_neg (by decide), if_pos (by decide), if_neg (by decide), if_pos rfl]
    simp
  · simp only at h2 hx ⊢
    rw [if_neg (by omega), if_neg (by omega), if_neg (by omega), if_pos hK] at h2 ⊢
    obtain ⟨h3, h4⟩ := h2.app
    have hcl := name_len hc
    have hz := Rw.zig_lt hx
    have g1 := h3.text (m := 12) (by omega) (by omega)
    have g2 := h4.get hz.1
    rw [rdH, if_neg (by omega), if_neg (by omega), if_neg (by omega), g1]
    simp only
    rw [if_neg (by simp), rdC2, if_pos (by omega), g2]
    simp only
    rw [if_neg (by simp), Int.toNat_of_nonneg hz.2, M.zag_zig, show ((K.toNat : Nat) : Int) = K by omega]
    simp [Nat.add_assoc]
  · simp only at h2 ⊢
    rw [if_neg (by omega), if_neg (by omega), if_neg (by omega), if_neg (by omega), if_pos hK] at h2 ⊢
    obtain ⟨h3, h4⟩ := h2.app
    have hcl := name_len hc
    have g1 := h3.text (m := 12) (by omega) (by omega)
    have g2 := h4.text (m := 40) (by omega) (by omega)
    rw [rdH, if_neg (by omega), if_neg (by omega), if_neg (by omega), g1]
    simp only
    rw [if_neg (by simp), rdC2, if_neg (by omega), if_pos (by omega), g2]
    simp only
    rw [if_neg (by simp), show ((K.toNat : Nat) : Int) = K by omega]
    simp [Nat.add_assoc]
  · simp only at h2 ⊢
    rw [if_neg (by omega), if_neg (by omega), if_neg (by omega), if_neg (by omega), if_neg (by omega), if_pos trivial] at h2 ⊢
    obtain ⟨h3, h4⟩ := h2.app
    obtain ⟨h5, h6⟩ := h4.app
    have hcl := name_len hc
    have g1 := h3.text (m := 12) (by omega) (by omega)
    have g2 := h5.get (by omega)
    have g3 := rdT_at t _ [] hs h6
    rw [rdH, if_neg (by decide), if_neg (by decide), if_neg (by decide), g1]
    simp only
    rw [if_neg (by simp), rdC2, if_neg (by decide), if_neg (by decide), if_pos (by decide), g2]
    simp only
    rw [if_neg (by simp), if_neg (by omega), g3]
    simp only
    rw [if_neg (by simp)]
    simp [Nat.add_assoc]
  · simp only at h2 ⊢
    rw [if_neg (by omega), if_neg (by omega), if_neg (by omega), if_neg (by omega), if_neg (by omega), if_neg (by omega)] at h2 ⊢
    rw [List.append_nil] at h2 ⊢
    have hcl := name_len hc
    have g1 := h2.text (m := 12) (by omega) (by omega)
    rw [rdH, if_neg (by decide), if_neg (by decide), if_neg (by decide), g1]
    simp only
    rw [if_neg (by simp), rdC2, if_neg (by decide), if_neg (by decide), if_neg (by decide)]
    rfl
  · simp only at h2 hx hm ⊢
    rw [if_neg (by omega), if_neg (by omega), if_pos trivial] at h2 ⊢
    obtain ⟨h3, h4⟩ := h2.app
    have hz := Rw.zig_lt hx
    have hy := Rw.zig_lt hm
    have g1 := h3.get hz.1
    have g2 := h4.get hy.1
    rw [rdH, if_neg (by decide), if_neg (by decide), if_pos (by decide), g1]
    simp only
    rw [if_neg (by simp), g2]
    simp only
    rw [if_neg (by simp), Int.toNat_of_nonneg hz.2, M.zag_zig, Int.toNat_of_nonneg hy.2, M.zag_zig]
    simp [Nat.add_assoc]
theorem rdK_at {b : List UInt8} {R : Nat → Nat → Pr × Nat × Nat × Nat} : ∀ (l : List Pr), (∀ x ∈ l, ∀ k c, c + size x ≤ 40 → Lies b k (enc x) → R k c = (x, k + (enc x).length, c + size x, 0)) →
    ∀ (k c : Nat) (o : List Pr), c + (l.map size).sum ≤ 40 → Lies b k (l.map enc).flatten → rdK R l.length k c o = (o ++ l, k + (l.map enc).flatten.length, c + (l.map size).sum, 0)
  | [], _, k, c, o, _, _ => by simp [rdK]
  | x :: l, hR, k, c, o, hc, hl => by
    rw [List.map_cons, List.flatten_cons] at hl
    rw [List.map_cons, List.sum_cons] at hc
    obtain ⟨h1, h2⟩ := hl.app
    have g := hR x (by simp) k c (by omega) h1
    rw [List.length_cons, rdK, g]
    simp only
    rw [if_neg (by simp), rdK_at l (fun y hy => hR y (by simp [hy])) _ _ _ (by omega) h2]
    simp [Nat.add_assoc]
theorem size_pos : ∀ p, 1 ≤ size p := by
  refine tree ?_
  intro h l _
  rw [size_mk]; omega
theorem sum_len : ∀ (l : List Pr), l.length ≤ (l.map size).sum
  | [] => by simp
  | x :: l => by
    have h1 := size_pos x
    have h2 := sum_len l
    rw [List.map_cons, List.sum_cons, List.length_cons]; omega
theorem deep_in {l : List Pr} {x : Pr} (h : x ∈ l) : deep x ≤ (l.map deep).foldr max 0 := by
  induction l with
  | nil => simp at h
  | cons y t ih =>
    rw [List.map_cons, List.foldr_cons]
    rcases List.mem_cons.1 h with rfl | h
    · omega
    · have := ih h; omega
theorem rd_at {b : List UInt8} : ∀ p, form p = true → num p → ∀ f k c, deep p ≤ f → c + size p ≤ 40 → Lies b k (enc p) → rd b f (k : Int) c = (p, k + (enc p).length, c + size p, 0) := by
  refine tree ?_
  intro h l ih hf hn f k c hd hs hl
  rw [form_mk, Bool.and_eq_true, List.all_eq_true] at hf
  obtain ⟨hp, hk2⟩ := hf
  rw [num_mk] at hn
  obtain ⟨⟨hn1, hn2⟩, hn3⟩ := hn
  rw [deep_mk] at hd
  rw [size_mk] at hs ⊢
  rw [enc_mk] at hl ⊢
  obtain ⟨h1, h2⟩ := hl.app
  have hlen := sum_len l
  obtain ⟨g1, g2⟩ := rdH_at hp hn1 hn2 (by omega) h1
  have hkk := part_kind hp
  cases f with
  | zero => omega
  | succ f =>
    rw [rd, if_neg (by omega), g1]
    simp only
    rw [if_neg (by simp), if_neg (by omega), g2, rd4]
    simp only
    have g3 := rdK_at (b := b) (R := fun k c => rd b f (k : Int) c) l (fun x hx k c hc hE => ih x hx (hk2 x hx) (hn3 x hx) f k c (by have := deep_in hx; omega) hc hE) (k + (encH h l.length).length) (c + 1) [] (by omega) h2
    rw [if_neg (by simp), g3]
    simp only
    rw [if_neg (by simp), List.nil_append, List.length_append, Nat.add_assoc, Nat.add_assoc]
/-- What is written is read, behind whatever. -/
theorem dec_enc {b : List UInt8} {p : Pr} {k : Nat} (h : right p = true) (hn : num p) (hl : Lies b k (enc p)) : dec b (k : Int) = (p, k + (enc p).length, 0) := by
  have h0 := h
  unfold right at h
  simp only [Bool.and_eq_true, decide_eq_true_eq] at h
  obtain ⟨⟨h1, h2⟩, h3⟩ := h
  have g := rd_at p h3 hn 6 k 0 h1 (by omega) hl
  unfold dec
  rw [g]
  simp only
  rw [if_neg (by simp), if_pos h0]
theorem rdT_back {b : List UInt8} : ∀ (n p : Nat) (o l : List (List UInt8)) (k : Nat), p ≤ b.length → rdT b n p o = (l, k, 0) → p ≤ k ∧ k ≤ b.length ∧ ∃ m, l = o ++ m ∧ m.length = n ∧ b.take k = b.take p ++ T.texts m
  | 0, p, o, l, k, hp, h => by
    simp only [rdT, Prod.mk.injEq, and_true] at h
    obtain ⟨rfl, rfl⟩ := h
    exact ⟨Nat.le_refl _, hp, [], by simp, rfl, by simp [T.texts]⟩
  | n + 1, p, o, l, k, hp, h => by
    rw [rdT] at h
    split at h
    · rename_i e; simp only [Prod.mk.injEq] at h; exact absurd h.2.2 e
    rename_i e1
    obtain ⟨s, k1, g1⟩ : ∃ v m, M.getText b (p : Int) 40 = (v, m, 0) := ⟨_, _, Prod.ext rfl (Prod.ext rfl (Decidable.not_not.1 e1))⟩
    rw [g1] at h
    simp only at h
    obtain ⟨a1, a2, a3, a4⟩ := Rw.text_back g1
    obtain ⟨b1, b2, m, hm, hml, hbt⟩ := rdT_back n k1 (o ++ [s]) l k a2 h
    refine ⟨by omega, b2, s :: m, by rw [hm]; simp, by simp [hml], ?_⟩
    rw [hbt, a3, T.texts_cons]
    simp
theorem in0 : In64 0 := ⟨by decide, by decide⟩
theorem rdC2_back {b : List UInt8} {K k n k' : Nat} {c : List UInt8} {h : Hd} (hK : 4 ≤ K ∧ K ≤ 9) (hk0 : k ≤ b.length) (e : rdC2 b K c k = (h, n, k', 0)) :
    k ≤ k' ∧ k' ≤ b.length ∧ b.take k' ++ [] = b.take k ++ (if h.k = 4 ∨ h.k = 5 then M.digs (M.zig h.n).toNat else if h.k = 6 ∨ h.k = 8 then T.ptext h.s else if h.k = 7 then M.digs h.set.length ++ T.texts h.set else []) ∧ h.k = (K : Int) ∧ h.col = c ∧ n = 0 ∧ In64 h.n ∧ In64 h.m := by
  unfold rdC2 at e
  split at e
  · rename_i h1
    split at e
    · rename_i e1; simp only [Prod.mk.injEq] at e; exact absurd e.2.2.2 e1
    rename_i e1
    obtain ⟨x, k1, g1⟩ : ∃ v m, M.get b (k : Int) = (v, m, 0) := ⟨_, _, Prod.ext rfl (Prod.ext rfl (Decidable.not_not.1 e1))⟩
    rw [g1] at e
    simp only [Prod.mk.injEq, and_true] at e
    obtain ⟨rfl, rfl, rfl⟩ := e
    obtain ⟨a1, a2, a3, a4⟩ := Rw.get_at g1
    refine ⟨a1, a2, ?_, rfl, rfl, rfl, Rw.zag_in a4, in0⟩
    simp only
    rw [if_pos (by omega), List.append_nil, a3, M.zig_zag _ (by omega)]
    simp
  split at e
  · rename_i h0 h1
    split at e
    · rename_i e1; simp only [Prod.mk.injEq] at e; exact absurd e.2.2.2 e1
    rename_i e1
    obtain ⟨x, k1, g1⟩ : ∃ v m, M.getText b (k : Int) 40 = (v, m, 0) := ⟨_, _, Prod.ext rfl (Prod.ext rfl (Decidable.not_not.1 e1))⟩
    rw [g1] at e
    simp only [Prod.mk.injEq, and_true] at e
    obtain ⟨rfl, rfl, rfl⟩ := e
    obtain ⟨a1, a2, a3, a4⟩ := Rw.text_back g1
    refine ⟨a1, a2, ?_, rfl, rfl, rfl, in0, in0⟩
    simp only
    rw [if_neg (by omega), if_pos (by omega), List.append_nil, a3]
  split at e
  · rename_i h0 h1 h7
    split at e
    · rename_i e1; simp only [Prod.mk.injEq] at e; exact absurd e.2.2.2 e1
    rename_i e1
    obtain ⟨x, k1, g1⟩ : ∃ v m, M.get b (k : Int) = (v, m, 0) := ⟨_, _, Prod.ext rfl (Prod.ext rfl (Decidable.not_not.1 e1))⟩
    rw [g1] at e
    simp only at e
    split at e
    · simp at e
    split at e
    · rename_i e2; simp only [Prod.mk.injEq] at e; exact absurd e.2.2.2 e2
    rename_i e2
    obtain ⟨d, k2, g2⟩ : ∃ v m, rdT b x k1 [] = (v, m, 0) := ⟨_, _, Prod.ext rfl (Prod.ext rfl (Decidable.not_not.1 e2))⟩
    rw [g2] at e
    simp only [Prod.mk.injEq, and_true] at e
    obtain ⟨rfl, rfl, rfl⟩ := e
    obtain ⟨a1, a2, a3, a4⟩ := Rw.get_at g1
    obtain ⟨b1, b2, m, hm, hml, hbt⟩ := rdT_back x k1 [] d k2 a2 g2
    rw [List.nil_append] at hm
    subst hm
    refine ⟨by omega, b2, ?_, rfl, rfl, rfl, in0, in0⟩
    simp only
    rw [if_neg (by omega), if_neg (by omega), if_pos (by omega), List.append_nil, hbt, a3, hml, List.append_assoc]
  · rename_i h0 h1 h7
    simp only [Prod.mk.injEq, and_true] at e
    obtain ⟨rfl, rfl, rfl⟩ := e
    refine ⟨Nat.le_refl _, hk0, ?_, rfl, rfl, rfl, in0, in0⟩
    simp only
    rw [if_neg (by omega), if_neg (by omega), if_neg (by omega)]
theorem rdH_back {b : List UInt8} {K k0 k n k' : Nat} {h : Hd} (hK : 1 ≤ K ∧ K ≤ 10) (g0 : M.get b (k0 : Int) = (K, k, 0)) (e : rdH b K k = (h, n, k', 0)) :
    k0 ≤ k' ∧ k' ≤ b.length ∧ b.take k' = b.take k0 ++ encH h n ∧ In64 h.n ∧ In64 h.m := by
  obtain ⟨z1, z2, z3, z4⟩ := Rw.get_at g0
  unfold rdH at e
  split at e
  · rename_i h1
    split at e
    · rename_i e1; simp only [Prod.mk.injEq] at e; exact absurd e.2.2.2 e1
    rename_i e1
    obtain ⟨x, k1, g1⟩ : ∃ v m, M.get b (k : Int) = (v, m, 0) := ⟨_, _, Prod.ext rfl (Prod.ext rfl (Decidable.not_not.1 e1))⟩
    rw [g1] at e
    simp only at e
    split at e
    · simp at e
    simp only [Prod.mk.injEq, and_true] at e
    obtain ⟨rfl, rfl, rfl⟩ := e
    obtain ⟨a1, a2, a3, a4⟩ := Rw.get_at g1
    refine ⟨by omega, a2, ?_, in0, in0⟩
    rw [a3, z3, encH, show (hk (K : Int)).k = (K : Int) from rfl, if_pos (by omega), Int.toNat_natCast, List.append_assoc]
  split at e
  · rename_i h1 h3
    simp only [Prod.mk.injEq, and_true] at e
    obtain ⟨rfl, rfl, rfl⟩ := e
    subst h3
    refine ⟨by omega, z2, ?_, in0, in0⟩
    rw [z3, encH, show (hk 3).k = 3 from rfl, if_neg (by decide), if_pos rfl, List.append_nil]
    rfl
  split at e
  · rename_i h1 h3 h10
    split at e
    · rename_i e1; simp only [Prod.mk.injEq] at e; exact absurd e.2.2.2 e1
    rename_i e1
    obtain ⟨x, k1, g1⟩ : ∃ v m, M.get b (k : Int) = (v, m, 0) := ⟨_, _, Prod.ext rfl (Prod.ext rfl (Decidable.not_not.1 e1))⟩
    rw [g1] at e
    simp only at e
    split at e
    · rename_i e1; simp only [Prod.mk.injEq] at e; exact absurd e.2.2.2 e1
    rename_i e2
    obtain ⟨y, k2, g2⟩ : ∃ v m, M.get b (k1 : Int) = (v, m, 0) := ⟨_, _, Prod.ext rfl (Prod.ext rfl (Decidable.not_not.1 e2))⟩
    rw [g2] at e
    simp only [Prod.mk.injEq, and_true] at e
    obtain ⟨rfl, rfl, rfl⟩ := e
    subst h10
    obtain ⟨a1, a2, a3, a4⟩ := Rw.get_at g1
    obtain ⟨b1, b2, b3, b4⟩ := Rw.get_at g2
    refine ⟨by omega, b2, ?_, Rw.zag_in a4, Rw.zag_in b4⟩
    rw [b3, a3, z3, encH]
    simp only
    rw [if_neg (by decide), if_neg (by decide), if_pos trivial, M.zig_zag _ (by omega), M.zig_zag _ (by omega)]
    simp
  · rename_i h1 h3 h10
    split at e
    · rename_i e1; simp only [Prod.mk.injEq] at e; exact absurd e.2.2.2 e1
    rename_i e1
    obtain ⟨c, k1, g1⟩ : ∃ v m, M.getText b (k : Int) 12 = (v, m, 0) := ⟨_, _, Prod.ext rfl (Prod.ext rfl (Decidable.not_not.1 e1))⟩
    rw [g1] at e
    simp only at e
    obtain ⟨a1, a2, a3, a4⟩ := Rw.text_back g1
    obtain ⟨b1, b2, b3, b4, b5, b6, b7, b8⟩ := rdC2_back (by omega) a2 e
    refine ⟨by omega, b2, ?_, b7, b8⟩
    rw [List.append_nil] at b3
    rw [b3, a3, z3, encH]
    rw [if_neg (show ¬ (h.k = 1 ∨ h.k = 2) by omega), if_neg (show ¬ h.k = 3 by omega), if_neg (show ¬ h.k = 10 by omega), b5, show h.k.toNat = K by omega]
    simp only [List.append_assoc]
theorem rdK_back {b : List UInt8} {R : Nat → Nat → Pr × Nat × Nat × Nat} (hR : ∀ k c p k' c', k ≤ b.length → R k c = (p, k', c', 0) → k ≤ k' ∧ k' ≤ b.length ∧ b.take k' = b.take k ++ enc p ∧ num p) :
    ∀ (n k c : Nat) (o l : List Pr) (k' c' : Nat), k ≤ b.length → rdK R n k c o = (l, k', c', 0) → k ≤ k' ∧ k' ≤ b.length ∧ ∃ m, l = o ++ m ∧ m.length = n ∧ b.take k' = b.take k ++ (m.map enc).flatten ∧ ∀ x ∈ m, num x
  | 0, k, c, o, l, k', c', hk, h => by
    simp only [rdK, Prod.mk.injEq, and_true] at h
    obtain ⟨rfl, rfl, rfl⟩ := h
    exact ⟨Nat.le_refl _, hk, [], by simp, rfl, by simp, by simp⟩
  | n + 1, k, c, o, l, k', c', hk, h => by
    rw [rdK] at h
    split at h
    · rename_i e; simp only [Prod.mk.injEq] at h; exact absurd h.2.2.2 e
    rename_i e1
    obtain ⟨p, k1, c1, g1⟩ : ∃ v m d, R k c = (v, m, d, 0) := ⟨_, _, _, Prod.ext rfl (Prod.ext rfl (Prod.ext rfl (Decidable.not_not.1 e1)))⟩
    rw [g1] at h
    simp only at h
    obtain ⟨a1, a2, a3, a4⟩ := hR k c p k1 c1 hk g1
    obtain ⟨b1, b2, m, hm, hml, hbt, hn⟩ := rdK_back hR n k1 c1 (o ++ [p]) l k' c' a2 h
    refine ⟨by omega, b2, p :: m, by rw [hm]; simp, by simp [hml], ?_, ?_⟩
    · rw [hbt, a3]; simp
    · intro x hx
      rcases List.mem_cons.1 hx with rfl | hx
      · exact a4
      · exact hn x hx
theorem rd_back {b : List UInt8} : ∀ (f k c : Nat) (p : Pr) (k' c' : Nat), rd b f (k : Int) c = (p, k', c', 0) → k ≤ k' ∧ k' ≤ b.length ∧ b.take k' = b.take k ++ enc p ∧ num p
  | 0, k, c, p, k', c', h => by simp [rd] at h
  | f + 1, k, c, p, k', c', h => by
    rw [rd] at h
    split at h
    · simp at h
    split at h
    · rename_i e; simp only [Prod.mk.injEq] at h; exact absurd h.2.2.2 e
    rename_i e1
    obtain ⟨K, k1, g1⟩ : ∃ v m, M.get b (k : Int) = (v, m, 0) := ⟨_, _, Prod.ext rfl (Prod.ext rfl (Decidable.not_not.1 e1))⟩
    rw [g1] at h
    simp only at h
    split at h
    · simp at h
    rename_i hK
    obtain ⟨hd', n, k2, y, g2⟩ : ∃ a d m y, rdH b K k1 = (a, d, m, y) := ⟨_, _, _, _, rfl⟩
    rw [g2, rd4] at h
    simp only at h
    split at h
    · rename_i e; simp only [Prod.mk.injEq] at h; exact absurd h.2.2.2 e
    rename_i e2
    have e2 := Decidable.not_not.1 e2
    subst e2
    split at h
    · rename_i e; simp only [Prod.mk.injEq] at h; exact absurd h.2.2.2 e
    rename_i e3
    obtain ⟨l, k3, c3, g3⟩ : ∃ v m d, rdK (fun k c => rd b f (k : Int) c) n k2 (c + 1) [] = (v, m, d, 0) := ⟨_, _, _, Prod.ext rfl (Prod.ext rfl (Prod.ext rfl (Decidable.not_not.1 e3)))⟩
    rw [g3] at h
    simp only [Prod.mk.injEq, and_true] at h
    obtain ⟨rfl, rfl, rfl⟩ := h
    obtain ⟨a1, a2, a3, a4, a5⟩ := rdH_back (by omega) g1 g2
    obtain ⟨b1, b2, m, hm, hml, hbt, hn⟩ := rdK_back (b := b) (fun k c p k' c' _ h => rd_back f k c p k' c' h) n k2 (c + 1) [] l k3 c3 a2 g3
    rw [List.nil_append] at hm
    subst hm
    refine ⟨by omega, b2, ?_, (num_mk _ _).2 ⟨⟨a4, a5⟩, hn⟩⟩
    rw [hbt, a3, enc_mk, hml, List.append_assoc]
/-- What is read is Right, and its bytes are those that are written. -/
theorem dec_ok {b : List UInt8} {k k' : Nat} {p : Pr} (h : dec b (k : Int) = (p, k', 0)) : right p = true ∧ k ≤ k' ∧ k' ≤ b.length ∧ b.take k' = b.take k ++ enc p ∧ num p := by
  unfold dec at h
  split at h
  · rename_i e; simp only [Prod.mk.injEq] at h; exact absurd h.2.2 e
  rename_i e1
  obtain ⟨q, k1, c1, g1⟩ : ∃ v m d, rd b 6 (k : Int) 0 = (v, m, d, 0) := ⟨_, _, _, Prod.ext rfl (Prod.ext rfl (Prod.ext rfl (Decidable.not_not.1 e1)))⟩
  rw [g1] at h
  simp only at h
  split at h
  · rename_i hr
    simp only [Prod.mk.injEq, and_true] at h
    obtain ⟨rfl, rfl⟩ := h
    obtain ⟨a1, a2, a3, a4⟩ := rd_back 6 k 0 q k1 c1 g1
    exact ⟨hr, a1, a2, a3, a4⟩
  · simp at h
end Pd
end Go.Proofs.YtnmonoafjijfhaaGreat
namespace Go.Proofs.YtnmonoafjijfhaaGreat
set_option linter.unusedVariables false
set_option linter.unusedSimpArgs false
namespace Pd
/-- A predicate that is not too deep or wide. -/
def cutH (h : Hd) : Hd := ⟨h.k, h.col.take 20, h.n, h.m, h.s.take 41, (h.set.take 9).map fun s => s.take 41⟩
def cut : Pr → Nat → Pr := rec' fun h l a d => Pr.mk' (cutH h) (if d = 0 then [] else (a.take 4).map fun x => x (d - 1))
theorem cut_mk (h : Hd) (l : List Pr) (d : Nat) : cut (Pr.mk' h l) d = Pr.mk' (cutH h) (if d = 0 then [] else (l.take 4).map fun x => cut x (d - 1)) := by
  rw [cut, rec_mk]
  congr 1
  split
  · rfl
  · rw [← List.map_take, List.map_map]
    rfl
theorem mem_take {α : Type} {l : List α} {n : Nat} {x : α} (h : x ∈ l.take n) : x ∈ l := (List.take_subset n l) h
theorem foldr_le {l : List Nat} {n : Nat} (h : ∀ x ∈ l, x ≤ n) : l.foldr max 0 ≤ n := by
  induction l with
  | nil => simp
  | cons y t ih =>
    rw [List.foldr_cons]
    have h1 := h y (by simp)
    have h2 := ih fun x hx => h x (by simp [hx])
    omega
/-- So many parts at most. -/
def most : Nat → Nat
  | 0 => 1
  | d + 1 => 1 + 4 * most d
/-- Nots about a predicate. -/
def nt (p : Pr) : Pr := Pr.mk' (hk 3) [p]
def nullP (c : List UInt8) : Pr := Pr.mk' ⟨9, c, 0, 0, [], []⟩ []
/-- How many parts may it have? -/
def wide (c : List UInt8) (n : Nat) : Pr := Pr.mk' (hk 2) (List.replicate n (nullP c))
/-- How many bytes. -/
theorem texts_le {d : List (List UInt8)} (h : ∀ s ∈ d, s.length ≤ 40) : (T.texts d).length ≤ d.length * 50 := by
  induction d with
  | nil => simp [T.texts]
  | cons s t ih =>
    have h1 := h s (by simp)
    have h2 := ih fun x hx => h x (by simp [hx])
    have h3 := M.digs_len s.length
    rw [T.texts_cons, List.length_append, T.ptext, List.length_append, List.length_cons, Nat.add_mul]
    omega
theorem encH_len {h : Hd} {n : Nat} (hp : part h n = true) : (encH h n).length ≤ 500 := by
  have z : ∀ x, (M.digs x).length ≤ 10 := fun x => (M.digs_len x).2
  have z1 := z h.k.toNat
  have z2 := z n
  have z3 := z (M.zig h.n).toNat
  have z4 := z (M.zig h.m).toNat
  have z5 := z h.set.length
  have z6 := z h.s.length
  have z7 := z h.col.length
  have hb : h.s.length ≤ 40 ∧ h.col.length ≤ 12 ∧ (T.texts h.set).length ≤ 400 := by
    rcases part_cases hp with ⟨K, hK, rfl⟩ | ⟨rfl, rfl⟩ | ⟨K, c, x, hK, hc, rfl, rfl⟩ | ⟨K, c, s, hK, hc, hs, rfl, rfl⟩ | ⟨c, t, hc, ht, ha, hs, rfl, rfl⟩ | ⟨c, hc, rfl, rfl⟩ | ⟨x, y, rfl, rfl⟩
    · exact ⟨by simp [hk], by simp [hk], by simp [hk, T.texts]⟩
    · exact ⟨by simp [hk], by simp [hk], by simp [hk, T.texts]⟩
    · exact ⟨by simp, name_len hc, by simp [T.texts]⟩
    · exact ⟨hs, name_len hc, by simp [T.texts]⟩
    · refine ⟨by simp, name_len hc, ?_⟩
      have := texts_le hs
      simp only
      omega
    · exact ⟨by simp, name_len hc, by simp [T.texts]⟩
    · exact ⟨by simp, by simp, by simp [T.texts]⟩
  obtain ⟨b1, b2, b3⟩ := hb
  unfold encH T.ptext
  rw [List.length_append]
  repeat' split
  all_goals first | omega | (simp only [List.length_append, List.length_nil]; omega)
theorem enc_len : ∀ p, form p = true → (enc p).length ≤ 500 * size p := by
  refine tree ?_
  intro h l ih hf
  rw [form_mk, Bool.and_eq_true, List.all_eq_true] at hf
  obtain ⟨hp, hl⟩ := hf
  have h1 := encH_len hp
  rw [enc_mk, size_mk, List.length_append]
  have : ((l.map enc).flatten).length ≤ 500 * (l.map size).sum := by
    clear hp h1
    induction l with
    | nil => simp
    | cons x t iht =>
      have a := ih x (by simp) (hl x (by simp))
      have b := iht (fun k hk => ih k (by simp [hk])) (fun k hk => hl k (by simp [hk]))
      rw [List.map_cons, List.flatten_cons, List.length_append, List.map_cons, List.sum_cons]
      omega
  omega
end Pd
end Go.Proofs.YtnmonoafjijfhaaGreat
namespace Go.Proofs.YtnmonoafjijfhaaGreat
open Go.RowKit
set_option linter.unusedVariables false
set_option linter.unusedSimpArgs false
/-- A predicate as it lies. -/
structure PV where
  k : Int
  col : List UInt8
  n : Int
  m : Int
  s : List UInt8
  set : SV
  kids : SV
def pc (v : PV) : List Value := [.int .i64 v.k, .string (str v.col), .int .i64 v.n, .int .i64 v.m, .string (str v.s), sv v.set, sv v.kids]
def pvv (v : PV) : Value := .agg #[.int .i64 v.k, .string (str v.col), .int .i64 v.n, .int .i64 v.m, .string (str v.s), sv v.set, sv v.kids]
theorem pc_len (v : PV) : (pc v).length = 7 := rfl
theorem pc_one (v : PV) : ∀ u ∈ pc v, u.oneCell' = true := by
  intro u hu
  simp only [pc, List.mem_cons, List.not_mem_nil, or_false] at hu
  rcases hu with rfl | rfl | rfl | rfl | rfl | rfl | rfl <;> rfl
/-- A slice that has elements lies in such a block. -/
def InB (B : Nat → Prop) (s : SV) : Prop := 0 < s.2.1 → ∀ b off, s.1 = some ⟨b, off, none⟩ → B b
/-- The head as it lies, its texts. -/
def HdOk (B : Nat → Prop) (w : World) (v : PV) (h : Hd) : Prop :=
  (v.k = h.k ∧ v.col = h.col ∧ v.n = h.n ∧ v.m = h.m ∧ v.s = h.s) ∧ v.set.2.1 = h.set.length ∧ Rd st w v.set.1 v.set.2.2 h.set ∧ InB B v.set
namespace Pd
/-- It reads as the predicate, and lies in such blocks. -/
def Lay (B : Nat → Prop) : Pr → World → PV → Prop := rec' fun h l a w v => HdOk B w v h ∧ v.kids.2.1 = l.length ∧ InB B v.kids ∧ ∃ vs, RdW 7 pc w v.kids.1 v.kids.2.2 vs ∧ vs.length = l.length ∧ ∀ (i : Nat) x g, vs[i]? = some x → a[i]? = some g → g w x
/-- Such predicates, one for one. -/
def Lays (B : Nat → Prop) (w : World) (vs : List PV) (l : List Pr) : Prop := vs.length = l.length ∧ ∀ (i : Nat) x p, vs[i]? = some x → l[i]? = some p → Lay B p w x
theorem lay_mk (B : Nat → Prop) (h : Hd) (l : List Pr) (w : World) (v : PV) : Lay B (Pr.mk' h l) w v ↔ HdOk B w v h ∧ v.kids.2.1 = l.length ∧ InB B v.kids ∧ ∃ vs, RdW 7 pc w v.kids.1 v.kids.2.2 vs ∧ Lays B w vs l := by
  rw [Lay, rec_mk]
  constructor
  · rintro ⟨h1, h2, h3, vs, h4, h5, h6⟩
    refine ⟨h1, h2, h3, vs, h4, h5, fun i x p hx hp => h6 i x _ hx ?_⟩
    rw [List.getElem?_map, hp]
    rfl
  · rintro ⟨h1, h2, h3, vs, h4, h5, h6⟩
    refine ⟨h1, h2, h3, vs, h4, h5, fun i x g hx hg => ?_⟩
    rw [List.getElem?_map] at hg
    cases hp : l[i]? with
    | none => rw [hp] at hg; cases hg
    | some p =>
      rw [hp] at hg
      cases hg
      exact h6 i x p hx hp
end Pd
theorem InB.mono {B C : Nat → Prop} (hB : ∀ b, B b → C b) {s : SV} (h : InB B s) : InB C s := fun h0 b off e => hB b (h h0 b off e)
theorem HdOk.mono {B C : Nat → Prop} (hB : ∀ b, B b → C b) {w : World} {v : PV} {h : Hd} (x : HdOk B w v h) : HdOk C w v h := ⟨x.1, x.2.1, x.2.2.1, x.2.2.2.mono hB⟩
theorem HdOk.below {B : Nat → Prop} {w w' : World} {v : PV} {h : Hd} (x : HdOk B w v h) (hx : Ex w w') : HdOk B w' v h := ⟨x.1, x.2.1, x.2.2.1.below hx, x.2.2.2⟩
theorem HdOk.far {B : Nat → Prop} {w w' : World} {v : PV} {h : Hd} {row : Option Nat} (x : HdOk B w v h) (hg : w.grownBy w' row) (ha : ∀ b, B b → row ≠ some b) : HdOk B w' v h :=
  ⟨x.1, x.2.1, rd_far x.2.2.1 hg fun h0 b off e => ha b (x.2.2.2 (by rw [x.2.1]; exact h0) b off e), x.2.2.2⟩
namespace Pd
theorem Lay.mono {B C : Nat → Prop} (hB : ∀ b, B b → C b) : ∀ p {w : World} {v : PV}, Lay B p w v → Lay C p w v := by
  refine tree ?_
  intro h l ih w v hl
  rw [lay_mk] at hl ⊢
  obtain ⟨h1, h2, h3, vs, h4, h5, h6⟩ := hl
  exact ⟨h1.mono hB, h2, h3.mono hB, vs, h4, h5, fun i x p hx hp => ih p (List.mem_of_getElem? hp) (h6 i x p hx hp)⟩
theorem Lay.below {B : Nat → Prop} : ∀ p {w w' : World} {v : PV}, Lay B p w v → Ex w w' → Lay B p w' v := by
  refine tree ?_
  intro h l ih w w' v hl hx
  rw [lay_mk] at hl ⊢
  obtain ⟨h1, h2, h3, vs, h4, h5, h6⟩ := hl
  exact ⟨h1.below hx, h2, h3, vs, h4.below hx, h5, fun i x p hi hp => ih p (List.mem_of_getElem? hp) (h6 i x p hi hp) hx⟩
/-- Nothing of it lies in the block that has grown. -/
theorem Lay.far {B : Nat → Prop} {row : Option Nat} (ha : ∀ b, B b → row ≠ some b) : ∀ p {w w' : World} {v : PV}, Lay B p w v → w.grownBy w' row → Lay B p w' v := by
  refine tree ?_
  intro h l ih w w' v hl hg
  rw [lay_mk] at hl ⊢
  obtain ⟨h1, h2, h3, vs, h4, h5, h6⟩ := hl
  refine ⟨h1.far hg ha, h2, h3, vs, h4.far hg fun h0 b off e => ha b (h3 (by omega) b off e), h5, fun i x p hi hp => ih p (List.mem_of_getElem? hp) (h6 i x p hi hp) hg⟩
/-- It lies in blocks that there are. -/
theorem Lay.lt {B : Nat → Prop} : ∀ p {w : World} {v : PV}, Lay B p w v → Lay (fun b => B b ∧ b < w.heap.size) p w v := by
  refine tree ?_
  intro h l ih w v hl
  rw [lay_mk] at hl ⊢
  obtain ⟨h1, h2, h3, vs, h4, h5, h6⟩ := hl
  refine ⟨⟨h1.1, h1.2.1, h1.2.2.1, fun h0 b off e => ⟨h1.2.2.2 h0 b off e, ?_⟩⟩, h2, fun h0 b off e => ⟨h3 h0 b off e, ?_⟩, vs, h4, h5, fun i x p hi hp => ih p (List.mem_of_getElem? hp) (h6 i x p hi hp)⟩
  · obtain ⟨b', off', e', hc⟩ := h1.2.2.1.at (k := 0) (by rw [← h1.2.1]; exact h0)
    rw [e] at e'
    cases e'
    exact World.block_lt_of_cell? w _ hc
  · obtain ⟨b', off', e', hc⟩ := h4.at (i := 0) (by omega)
    rw [e] at e'
    cases e'
    exact World.block_lt_of_cell? w _ (hc 0 _ rfl)
theorem Lays.nil (B : Nat → Prop) (w : World) : Lays B w [] [] := ⟨rfl, fun i x p h _ => by simp at h⟩
theorem Lays.mono {B C : Nat → Prop} (hB : ∀ b, B b → C b) {w : World} {vs : List PV} {l : List Pr} (h : Lays B w vs l) : Lays C w vs l := ⟨h.1, fun i x p h1 h2 => Lay.mono hB p (h.2 i x p h1 h2)⟩
theorem Lays.below {B : Nat → Prop} {w w' : World} {vs : List PV} {l : List Pr} (h : Lays B w vs l) (hx : Ex w w') : Lays B w' vs l := ⟨h.1, fun i x p h1 h2 => Lay.below p (h.2 i x p h1 h2) hx⟩
theorem Lays.far {B : Nat → Prop} {row : Option Nat} (ha : ∀ b, B b → row ≠ some b) {w w' : World} {vs : List PV} {l : List Pr} (h : Lays B w vs l) (hg : w.grownBy w' row) : Lays B w' vs l := ⟨h.1, fun i x p h1 h2 => Lay.far ha p (h.2 i x p h1 h2) hg⟩
theorem Lays.lt {B : Nat → Prop} {w : World} {vs : List PV} {l : List Pr} (h : Lays B w vs l) : Lays (fun b => B b ∧ b < w.heap.size) w vs l := ⟨h.1, fun i x p h1 h2 => Lay.lt p (h.2 i x p h1 h2)⟩
theorem Lays.one {B : Nat → Prop} {w : World} {v : PV} {p : Pr} (h : Lay B p w v) : Lays B w [v] [p] := by
  refine ⟨rfl, fun i x q hx hq => ?_⟩
  cases i with
  | zero => simp at hx hq; subst hx; subst hq; exact h
  | succ i => simp at hx
theorem Lays.append {B : Nat → Prop} {w : World} {vs us : List PV} {l m : List Pr} (h : Lays B w vs l) (h' : Lays B w us m) : Lays B w (vs ++ us) (l ++ m) := by
  refine ⟨by simp [h.1, h'.1], fun i v r hv hr => ?_⟩
  by_cases hi : i < vs.length
  · rw [List.getElem?_append_left hi] at hv
    rw [List.getElem?_append_left (by rw [← h.1]; exact hi)] at hr
    exact h.2 i v r hv hr
  · rw [List.getElem?_append_right (by omega)] at hv
    rw [List.getElem?_append_right (by rw [← h.1]; omega), ← h.1] at hr
    exact h'.2 _ v r hv hr
/-- A slice that reads as predicates. -/
def RdP (w : World) (a : Option Addr) (cap : Nat) (l : List Pr) : Prop := ∃ vs, RdW 7 pc w a cap vs ∧ Lays (fun _ => True) w vs l
theorem RdP.below {w w' : World} {a : Option Addr} {cap : Nat} {l : List Pr} (h : RdP w a cap l) (hx : Ex w w') : RdP w' a cap l := by
  obtain ⟨vs, h1, h2⟩ := h
  exact ⟨vs, h1.below hx, h2.below hx⟩
/-- The seven places of one of them. -/
theorem RdP.at {w : World} {a : Option Addr} {cap : Nat} {l : List Pr} (h : RdP w a cap l) {i : Nat} (hi : i < l.length) : ∃ b off v, a = some ⟨b, off, none⟩ ∧ Lay (fun _ => True) l[i] w v ∧ ∀ j u, (pc v)[j]? = some u → w.cell? ⟨b, off + i * 7 + j, none⟩ = some u := by
  obtain ⟨vs, h1, h2⟩ := h
  have hi' : i < vs.length := by rw [h2.1]; exact hi
  obtain ⟨b, off, e, hc⟩ := h1.at hi'
  exact ⟨b, off, vs[i], e, h2.2 i _ _ (List.getElem?_eq_getElem hi') (List.getElem?_eq_getElem hi), hc⟩
/-- One's Kids. -/
theorem Lay.kids {B : Nat → Prop} {p : Pr} {w : World} {v : PV} (h : Lay B p w v) : HdOk B w v p.h ∧ v.kids.2.1 = p.ks.length ∧ RdP w v.kids.1 v.kids.2.2 p.ks := by
  rw [← mk_ks p, lay_mk] at h
  obtain ⟨h1, h2, h3, vs, h4, h5⟩ := h
  exact ⟨h1, h2, vs, h4, h5.mono fun _ _ => trivial⟩
/-- A call's own predicates, what is in them elsewhere. -/
def OwnP (t : TypeId) (w : World) (base : Nat) (v : Value) (l : List Pr) : Prop := ∃ vs, OwnW t 7 pc w base v vs ∧ Lays (fun b => v.ownBlock ≠ some b) w vs l
theorem OwnP.rd {t : TypeId} {w : World} {base : Nat} {v : Value} {l : List Pr} (h : OwnP t w base v l) : ∃ a cap, v = .slice a l.length cap ∧ RdP w a cap l := by
  obtain ⟨vs, h1, h2⟩ := h
  obtain ⟨a, cap, rfl, h3⟩ := h1.rd pc_len
  exact ⟨a, cap, by rw [h2.1], vs, h3, h2.mono fun _ _ => trivial⟩
theorem OwnP.nil (t : TypeId) (w : World) (base : Nat) : OwnP t w base (.slice none 0 0) [] := ⟨[], ownW_none w base, Lays.nil _ w⟩
theorem OwnP.later {t : TypeId} {w w' : World} {base : Nat} {v : Value} {l : List Pr} (h : OwnP t w base v l) (hx : Ex w w') : OwnP t w' base v l := by
  obtain ⟨vs, h1, h2⟩ := h
  exact ⟨vs, h1.later hx, h2.below hx⟩
end Pd
end Go.Proofs.YtnmonoafjijfhaaGreat
namespace Go.Proofs.YtnmonoafjijfhaaGreat
open Go.RowKit
set_option linter.unusedVariables false
set_option linter.unusedSimpArgs false
abbrev pb (v : PV) : Obj := .cells #[.int .i64 v.k, .string (str v.col), .int .i64 v.n, .int .i64 v.m, .string (str v.s), .slice v.set.1 v.set.2.1 v.set.2.2, .slice v.kids.1 v.kids.2.1 v.kids.2.2] 54
/-- A predicate of nothing in a block, as the walk spells it. -/
abbrev pb0 : Obj := .cells #[.int .i64 0, .string { data := #[] }, .int .i64 0, .int .i64 0, .string { data := #[] }, .slice none 0 0, .slice none 0 0] 54
def PV.zero : PV := ⟨0, [], 0, 0, [], (none, 0, 0), (none, 0, 0)⟩
def PAt (w : World) (g : Nat) (v : PV) : Prop := w.heap[g]? = some (.cells (pc v).toArray 54 (0, 0))
theorem PAt.lt {w : World} {g : Nat} {v : PV} (h : PAt w g v) : g < w.heap.size := (Array.getElem?_eq_some_iff.1 h).1
theorem PAt.below {w w' : World} {g : Nat} {v : PV} (h : PAt w g v) (hb : Below w.heap.size w w') : PAt w' g v := by
  unfold PAt; rw [hb.block g h.lt]; exact h
theorem PAt.alloc {w : World} {g : Nat} {v : PV} (h : PAt w g v) (o : Obj) : PAt (w.alloc o) g v := h.below ((Below.refl _ _).alloc (Nat.le_refl _) _)
theorem PAt.new (w : World) (v : PV) : PAt (w.alloc (pb v)) w.heap.size v := heap_alloc_new w _
theorem PAt.newat (w : World) (g : Nat) (v : PV) (hg : g = w.heap.size) : PAt (w.alloc (pb v)) g v := by subst hg; exact PAt.new w v
theorem PAt.cell {w : World} {g : Nat} {v : PV} (h : PAt w g v) (k : Nat) : w.cell? ⟨g, k, none⟩ = (pc v)[k]? := by
  rw [cell_of_row w g k _ 54 (0, 0) h, List.getElem?_toArray]
theorem PAt.all {w : World} {g : Nat} {v : PV} (h : PAt w g v) : w.cell? ⟨g, 0, none⟩ = some (.int .i64 v.k) ∧ w.cell? ⟨g, 1, none⟩ = some (.string (str v.col)) ∧ w.cell? ⟨g, 2, none⟩ = some (.int .i64 v.n) ∧ w.cell? ⟨g, 3, none⟩ = some (.int .i64 v.m) ∧
    w.cell? ⟨g, 4, none⟩ = some (.string (str v.s)) ∧ w.cell? ⟨g, 5, none⟩ = some (.slice v.set.1 v.set.2.1 v.set.2.2) ∧ w.cell? ⟨g, 6, none⟩ = some (.slice v.kids.1 v.kids.2.1 v.kids.2.2) := ⟨h.cell 0, h.cell 1, h.cell 2, h.cell 3, h.cell 4, h.cell 5, h.cell 6⟩
theorem PAt.frozen {w : World} {g : Nat} {v : PV} (h : PAt w g v) (k : Nat) : w.frozen? ⟨g, k, none⟩ = false := frozen_of_row _ _ _ _ _ h
theorem PAt.fro {w : World} {g : Nat} {v : PV} (h : PAt w g v) : w.frozen? ⟨g, 0, none⟩ = false ∧ w.frozen? ⟨g, 1, none⟩ = false ∧ w.frozen? ⟨g, 2, none⟩ = false ∧ w.frozen? ⟨g, 3, none⟩ = false ∧ w.frozen? ⟨g, 4, none⟩ = false ∧ w.frozen? ⟨g, 5, none⟩ = false ∧ w.frozen? ⟨g, 6, none⟩ = false :=
  ⟨h.frozen 0, h.frozen 1, h.frozen 2, h.frozen 3, h.frozen 4, h.frozen 5, h.frozen 6⟩
theorem PAt.set {w : World} {g k : Nat} {v v' : PV} {u : Value} (h : PAt w g v) (hz : (pc v).set k u = pc v') : PAt (w.setCell ⟨g, k, none⟩ u) g v' := by
  unfold PAt
  rw [heap_setCell_same w g k _ 54 _ h, List.setIfInBounds_toArray, hz]
theorem PAt.other {w : World} {g q k : Nat} {v : PV} {u : Value} (h : PAt w g v) (hne : g ≠ q) : PAt (w.setCell ⟨q, k, none⟩ u) g v := by
  unfold PAt
  rw [heap_setCell_other w _ g u (by simpa using hne)]; exact h
theorem PAt.far {w w' : World} {g : Nat} {v : PV} {row : Option Nat} (h : PAt w g v) (hg : w.grownBy w' row) (hne : row ≠ some g) : PAt w' g v := by
  unfold PAt; rw [hg.block g h.lt (Ne.symm hne)]; exact h
/-- A predicate is stored into a block. -/
abbrev pset (w : World) (g : Nat) (v : PV) : World := ((((((w.setCell ⟨g, 0, none⟩ (.int .i64 v.k)).setCell ⟨g, 1, none⟩ (.string (str v.col))).setCell ⟨g, 2, none⟩ (.int .i64 v.n)).setCell ⟨g, 3, none⟩ (.int .i64 v.m)).setCell ⟨g, 4, none⟩ (.string (str v.s))).setCell ⟨g, 5, none⟩ (.slice v.set.1 v.set.2.1 v.set.2.2)).setCell ⟨g, 6, none⟩ (.slice v.kids.1 v.kids.2.1 v.kids.2.2)
theorem PAt.store {w : World} {g : Nat} {v0 : PV} (h : PAt w g v0) (v : PV) : PAt (pset w g v) g v :=
  ((((((h.set (k := 0) (v' := { v0 with k := v.k }) rfl).set (k := 1) (v' := { v0 with k := v.k, col := v.col }) rfl).set (k := 2) (v' := { v0 with k := v.k, col := v.col, n := v.n }) rfl).set (k := 3) (v' := { v0 with k := v.k, col := v.col, n := v.n, m := v.m }) rfl).set (k := 4) (v' := { v0 with k := v.k, col := v.col, n := v.n, m := v.m, s := v.s }) rfl).set (k := 5) (v' := { v0 with k := v.k, col := v.col, n := v.n, m := v.m, s := v.s, set := v.set }) rfl).set (k := 6) rfl
theorem Below.pset {B : Nat} {a w : World} (h : Below B a w) {g : Nat} (hg : B ≤ g) (v : PV) : Below B a (pset w g v) :=
  Below.setCell (Below.setCell (Below.setCell (Below.setCell (Below.setCell (Below.setCell (Below.setCell h (p := ⟨g, 0, none⟩) hg _) (p := ⟨g, 1, none⟩) hg _) (p := ⟨g, 2, none⟩) hg _) (p := ⟨g, 3, none⟩) hg _) (p := ⟨g, 4, none⟩) hg _) (p := ⟨g, 5, none⟩) hg _) (p := ⟨g, 6, none⟩) hg _
theorem grown_pset (w : World) (g : Nat) (v : PV) : w.grownBy (pset w g v) (some g) :=
  grown_tr (grown_tr (grown_tr (grown_tr (grown_tr (grown_tr (grown_set1 w g 0 _) (grown_set1 _ g 1 _)) (grown_set1 _ g 2 _)) (grown_set1 _ g 3 _)) (grown_set1 _ g 4 _)) (grown_set1 _ g 5 _)) (grown_set1 _ g 6 _)
set_option maxHeartbeats 1000000 in
theorem load_pred {w9 : World} {g : Nat} {v : PV} (h : PAt w9 g v) : (loadVar 54 ⟨g, 0, none⟩).run Tryz.prog w9 = .ok (pvv v) w9 := by
  obtain ⟨c0, c1, c2, c3, c4, c5, c6⟩ := h.all
  clear h
  simp [go_sem, pvv, sv, c0, c1, c2, c3, c4, c5, c6]
theorem res_pred {fn : Func} {tmps : Array Value} {w9 : World} {g i : Nat} {v : PV} (hfn : fn.results = #[ResultVar.cell i 54]) (ht : tmps.getD i undef = .pointer (some ⟨g, 0, none⟩)) (h : PAt w9 g v) : (results fn tmps).run Tryz.prog w9 = .ok (pvv v) w9 := by
  have hl := load_pred h
  have ht' : tmps[i]?.getD undef = .pointer (some ⟨g, 0, none⟩) := by simpa using ht
  simp [results, hfn, ht', asAddr, Sem.run_bind, Result.andThen, hl]
set_option maxHeartbeats 1000000 in
theorem loadI_pred {w9 : World} {b off : Nat} {v : PV} (c0 : w9.cell? ⟨b, off, none⟩ = some (.int .i64 v.k)) (c1 : w9.cell? ⟨b, off + 1, none⟩ = some (.string (str v.col))) (c2 : w9.cell? ⟨b, off + 2, none⟩ = some (.int .i64 v.n)) (c3 : w9.cell? ⟨b, off + 3, none⟩ = some (.int .i64 v.m))
    (c4 : w9.cell? ⟨b, off + 4, none⟩ = some (.string (str v.s))) (c5 : w9.cell? ⟨b, off + 5, none⟩ = some (sv v.set)) (c6 : w9.cell? ⟨b, off + 6, none⟩ = some (sv v.kids)) :
    (Instr.loadAt 54 (.pointer (some ⟨b, off, none⟩))).run Tryz.prog w9 = .ok (pvv v) w9 := by
  simp [go_sem, pvv, c0, c1, c2, c3, c4, c5, c6]
theorem PAt.loadI {w9 : World} {g : Nat} {v : PV} (h : PAt w9 g v) : (Instr.loadAt 54 (.pointer (some ⟨g, 0, none⟩))).run Tryz.prog w9 = .ok (pvv v) w9 := by
  obtain ⟨c0, c1, c2, c3, c4, c5, c6⟩ := h.all
  exact loadI_pred (off := 0) c0 c1 c2 c3 c4 c5 c6
/-- The seven places of a Kid, spelled. -/
theorem Pd.RdP.seven {w : World} {a : Option Addr} {cap : Nat} {l : List Pr} (h : Pd.RdP w a cap l) {i : Nat} (hi : i < l.length) : ∃ b off v, a = some ⟨b, off, none⟩ ∧ Pd.Lay (fun _ => True) l[i] w v ∧
    w.cell? ⟨b, off + i * 7, none⟩ = some (.int .i64 v.k) ∧ w.cell? ⟨b, off + i * 7 + 1, none⟩ = some (.string (str v.col)) ∧ w.cell? ⟨b, off + i * 7 + 2, none⟩ = some (.int .i64 v.n) ∧ w.cell? ⟨b, off + i * 7 + 3, none⟩ = some (.int .i64 v.m) ∧
    w.cell? ⟨b, off + i * 7 + 4, none⟩ = some (.string (str v.s)) ∧ w.cell? ⟨b, off + i * 7 + 5, none⟩ = some (.slice v.set.1 v.set.2.1 v.set.2.2) ∧ w.cell? ⟨b, off + i * 7 + 6, none⟩ = some (.slice v.kids.1 v.kids.2.1 v.kids.2.2) := by
  obtain ⟨b, off, v, e, hl, hc⟩ := h.at hi
  exact ⟨b, off, v, e, hl, hc 0 _ rfl, hc 1 _ rfl, hc 2 _ rfl, hc 3 _ rfl, hc 4 _ rfl, hc 5 _ rfl, hc 6 _ rfl⟩
/-- The head and the Kids as they lie. -/
theorem Pd.Lay.head {B : Nat → Prop} {h : Hd} {l : List Pr} {w : World} {v : PV} (H : Pd.Lay B (Pr.mk' h l) w v) : HdOk B w v h ∧ v.kids.2.1 = l.length ∧ InB B v.kids ∧ l.length ≤ v.kids.2.2 ∧ v.kids.2.2 ≤ maxLen ∧ (v.kids.1 = none → v.kids.2.2 = 0) := by
  rw [Pd.lay_mk] at H
  obtain ⟨h1, h2, h3, vs, h4, h5⟩ := H
  exact ⟨h1, h2, h3, by rw [← h5.1]; exact h4.1, h4.2.1, h4.2.2.1⟩
theorem Pd.Lay.kid {B : Nat → Prop} {h : Hd} {l : List Pr} {w : World} {v : PV} (H : Pd.Lay B (Pr.mk' h l) w v) {i : Nat} (hi : i < l.length) : ∃ b off u, v.kids.1 = some ⟨b, off, none⟩ ∧ B b ∧ Pd.Lay B l[i] w u ∧
    w.cell? ⟨b, off + i * 7, none⟩ = some (.int .i64 u.k) ∧ w.cell? ⟨b, off + i * 7 + 1, none⟩ = some (.string (str u.col)) ∧ w.cell? ⟨b, off + i * 7 + 2, none⟩ = some (.int .i64 u.n) ∧ w.cell? ⟨b, off + i * 7 + 3, none⟩ = some (.int .i64 u.m) ∧
    w.cell? ⟨b, off + i * 7 + 4, none⟩ = some (.string (str u.s)) ∧ w.cell? ⟨b, off + i * 7 + 5, none⟩ = some (.slice u.set.1 u.set.2.1 u.set.2.2) ∧ w.cell? ⟨b, off + i * 7 + 6, none⟩ = some (.slice u.kids.1 u.kids.2.1 u.kids.2.2) := by
  rw [Pd.lay_mk] at H
  obtain ⟨h1, h2, h3, vs, h4, h5⟩ := H
  have hi' : i < vs.length := by rw [h5.1]; exact hi
  obtain ⟨b, off, e, hc⟩ := h4.at hi'
  exact ⟨b, off, vs[i], e, h3 (by omega) b off e, h5.2 i _ _ (List.getElem?_eq_getElem hi') (List.getElem?_eq_getElem hi), hc 0 _ rfl, hc 1 _ rfl, hc 2 _ rfl, hc 3 _ rfl, hc 4 _ rfl, hc 5 _ rfl, hc 6 _ rfl⟩
/-- A number in a block. -/
def IAt (w : World) (g : Nat) (n : Int) : Prop := w.heap[g]? = some (.cells #[.int .i64 n] 3 (0, 0))
theorem IAt.lt {w : World} {g : Nat} {n : Int} (h : IAt w g n) : g < w.heap.size := (Array.getElem?_eq_some_iff.1 h).1
theorem IAt.cell {w : World} {g : Nat} {n : Int} (h : IAt w g n) : w.cell? ⟨g, 0, none⟩ = some (.int .i64 n) := by
  rw [cell_of_row w g 0 _ 3 (0, 0) h]; rfl
theorem IAt.frozen {w : World} {g : Nat} {n : Int} (h : IAt w g n) : w.frozen? ⟨g, 0, none⟩ = false := frozen_of_row _ _ _ _ _ h
theorem IAt.set {w : World} {g : Nat} {n : Int} (h : IAt w g n) (m : Int) : IAt (w.setCell ⟨g, 0, none⟩ (.int .i64 m)) g m := by
  unfold IAt
  rw [heap_setCell_same w g 0 _ 3 _ h]; rfl
theorem IAt.below {w w' : World} {g : Nat} {n : Int} (h : IAt w g n) (hb : Below w.heap.size w w') : IAt w' g n := by
  unfold IAt; rw [hb.block g h.lt]; exact h
theorem IAt.new (w : World) (n : Int) : IAt (w.alloc (.cells #[.int .i64 n] 3)) w.heap.size n := heap_alloc_new w _
end Go.Proofs.YtnmonoafjijfhaaGreat
