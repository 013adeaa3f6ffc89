/-
  Predicates in memory: seven places each, the last two slices (texts; Kids). No function of the program here. A predicate in a block of its own: read, stored, kept, handed back. No function of the program here.
-/
import Derived.Test.YtbdjccmlgdfapaaGreatPmore
import Derived.Test.YtbdjccmlgdfapaaGreatStrs
import Derived.Test.YtbdjccmlgdfapaaGreatVarint
import Derived.Deep.DeepCutAuto
import Derived.Deep.Light
namespace Go.Proofs.YtbdjccmlgdfapaaGreat
open Go.RowKit
set_option linter.unusedVariables false
set_option linter.unusedSimpArgs false
/-- A predicate as it lies. -/
structure PV where
 k : Int
 col : List UInt8
 n : Int
 m : Int
 s : List UInt8
 set : SV
 kids : SV
def pc (v : PV) : List Value := [.int .i64 v.k, .string (str v.col), .int .i64 v.n, .int .i64 v.m, .string (str v.s), sv v.set, sv v.kids]
def pvv (v : PV) : Value := .agg #[.int .i64 v.k, .string (str v.col), .int .i64 v.n, .int .i64 v.m, .string (str v.s), sv v.set, sv v.kids]
theorem pc_len (v : PV) : (pc v).length = 7 := rfl
theorem pc_one (v : PV) : ∀ u ∈ pc v, u.oneCell' = true := by
 intro u hu
 simp only [pc, List.mem_cons, List.not_mem_nil, or_false] at hu
 rcases hu with rfl | rfl | rfl | rfl | rfl | rfl | rfl <;> rfl
/-- A slice that has elements lies in such a block. -/
def InB (B : Nat → Prop) (s : SV) : Prop := 0 < s.2.1 → ∀ b off, s.1 = some ⟨b, off, none⟩ → B b
/-- The head as it lies, its texts. -/
def HdOk (B : Nat → Prop) (w : World) (v : PV) (h : Hd) : Prop :=
 (v.k = h.k ∧ v.col = h.col ∧ v.n = h.n ∧ v.m = h.m ∧ v.s = h.s) ∧ v.set.2.1 = h.set.length ∧ Rd st w v.set.1 v.set.2.2 h.set ∧ InB B v.set
namespace Pd
/-- It reads as the predicate, and lies in such blocks. -/
def Lay (B : Nat → Prop) : Pr → World → PV → Prop := rec' fun h l a w v => HdOk B w v h ∧ v.kids.2.1 = l.length ∧ InB B v.kids ∧ ∃ vs, RdW 7 pc w v.kids.1 v.kids.2.2 vs ∧ vs.length = l.length ∧ ∀ (i : Nat) x g, vs[i]? = some x → a[i]? = some g → g w x
/-- Such predicates, one for one. -/
def Lays (B : Nat → Prop) (w : World) (vs : List PV) (l : List Pr) : Prop := vs.length = l.length ∧ ∀ (i : Nat) x p, vs[i]? = some x → l[i]? = some p → Lay B p w x
theorem lay_mk (B : Nat → Prop) (h : Hd) (l : List Pr) (w : World) (v : PV) : Lay B (Pr.mk' h l) w v ↔ HdOk B w v h ∧ v.kids.2.1 = l.length ∧ InB B v.kids ∧ ∃ vs, RdW 7 pc w v.kids.1 v.kids.2.2 vs ∧ Lays B w vs l := by
 rw [Lay, rec_mk]
 constructor
 ·rintro ⟨h1, h2, h3, vs, h4, h5, h6⟩
  refine ⟨h1, h2, h3, vs, h4, h5, fun i x p hx hp => h6 i x _ hx ?_⟩
  rw [List.getElem?_map, hp]
  rfl
 ·rintro ⟨h1, h2, h3, vs, h4, h5, h6⟩
  refine ⟨h1, h2, h3, vs, h4, h5, fun i x g hx hg => ?_⟩
  rw [List.getElem?_map] at hg
  cases hp : l[i]? with
  | none => rw [hp] at hg; cases hg
  | some p =>
   rw [hp] at hg
   cases hg
   exact h6 i x p hx hp
end Pd
theorem InB.mono {B C : Nat → Prop} (hB : ∀ b, B b → C b) {s : SV} (h : InB B s) : InB C s := fun h0 b off e => hB b (h h0 b off e)
theorem HdOk.mono {B C : Nat → Prop} (hB : ∀ b, B b → C b) {w : World} {v : PV} {h : Hd} (x : HdOk B w v h) : HdOk C w v h := ⟨x.1, x.2.1, x.2.2.1, x.2.2.2.mono hB⟩
theorem HdOk.below {B : Nat → Prop} {w w' : World} {v : PV} {h : Hd} (x : HdOk B w v h) (hx : Ex w w') : HdOk B w' v h := ⟨x.1, x.2.1, x.2.2.1.below hx, x.2.2.2⟩
/-- Texts far from a block that has grown. -/
theorem rd_far {w w' : World} {a : Option Addr} {cap : Nat} {l : List (List UInt8)} {row : Option Nat} (h : Rd st w a cap l) (hg : w.grownBy w' row) (ha : 0 < l.length → ∀ b off, a = some ⟨b, off, none⟩ → row ≠ some b) : Rd st w' a cap l := by
 by_cases h0 : 0 < l.length
 ·obtain ⟨b, off, e, hc⟩ := h.at h0
  subst e
  exact h.far hg (World.block_lt_of_cell? w _ hc) (ha h0 b off rfl)
 ·have : l = [] := List.length_eq_zero_iff.1 (by omega)
  subst this
  exact ⟨by simp, h.2.1, h.2.2.1, fun i x hi => by simp at hi⟩
theorem HdOk.far {B : Nat → Prop} {w w' : World} {v : PV} {h : Hd} {row : Option Nat} (x : HdOk B w v h) (hg : w.grownBy w' row) (ha : ∀ b, B b → row ≠ some b) : HdOk B w' v h :=
 ⟨x.1, x.2.1, rd_far x.2.2.1 hg fun h0 b off e => ha b (x.2.2.2 (by rw [x.2.1]; exact h0) b off e), x.2.2.2⟩
namespace Pd
theorem Lay.mono {B C : Nat → Prop} (hB : ∀ b, B b → C b) : ∀ p {w : World} {v : PV}, Lay B p w v → Lay C p w v := by
 refine tree ?_
 intro h l ih w v hl
 rw [lay_mk] at hl ⊢
 obtain ⟨h1, h2, h3, vs, h4, h5, h6⟩ := hl
 exact ⟨h1.mono hB, h2, h3.mono hB, vs, h4, h5, fun i x p hx hp => ih p (List.mem_of_getElem? hp) (h6 i x p hx hp)⟩
theorem Lay.below {B : Nat → Prop} : ∀ p {w w' : World} {v : PV}, Lay B p w v → Ex w w' → Lay B p w' v := by
 refine tree ?_
 intro h l ih w w' v hl hx
 rw [lay_mk] at hl ⊢
 obtain ⟨h1, h2, h3, vs, h4, h5, h6⟩ := hl
 exact ⟨h1.below hx, h2, h3, vs, h4.below hx, h5, fun i x p hi hp => ih p (List.mem_of_getElem? hp) (h6 i x p hi hp) hx⟩
/-- Nothing of it lies in the block that has grown. -/
theorem Lay.far {B : Nat → Prop} {row : Option Nat} (ha : ∀ b, B b → row ≠ some b) : ∀ p {w w' : World} {v : PV}, Lay B p w v → w.grownBy w' row → Lay B p w' v := by
 refine tree ?_
 intro h l ih w w' v hl hg
 rw [lay_mk] at hl ⊢
 obtain ⟨h1, h2, h3, vs, h4, h5, h6⟩ := hl
 refine ⟨h1.far hg ha, h2, h3, vs, h4.far hg fun h0 b off e => ha b (h3 (by omega) b off e), h5, fun i x p hi hp => ih p (List.mem_of_getElem? hp) (h6 i x p hi hp) hg⟩
/-- It lies in blocks that there are. -/
theorem Lay.lt {B : Nat → Prop} : ∀ p {w : World} {v : PV}, Lay B p w v → Lay (fun b => B b ∧ b < w.heap.size) p w v := by
 refine tree ?_
 intro h l ih w v hl
 rw [lay_mk] at hl ⊢
 obtain ⟨h1, h2, h3, vs, h4, h5, h6⟩ := hl
 refine ⟨⟨h1.1, h1.2.1, h1.2.2.1, fun h0 b off e => ⟨h1.2.2.2 h0 b off e, ?_⟩⟩, h2, fun h0 b off e => ⟨h3 h0 b off e, ?_⟩, vs, h4, h5, fun i x p hi hp => ih p (List.mem_of_getElem? hp) (h6 i x p hi hp)⟩
 ·obtain ⟨b', off', e', hc⟩ := h1.2.2.1.at (k := 0) (by rw [← h1.2.1]; exact h0)
  rw [e] at e'
  cases e'
  exact World.block_lt_of_cell? w _ hc
 ·obtain ⟨b', off', e', hc⟩ := h4.at (i := 0) (by omega)
  rw [e] at e'
  cases e'
  exact World.block_lt_of_cell? w _ (hc 0 _ rfl)
theorem Lays.nil (B : Nat → Prop) (w : World) : Lays B w [] [] := ⟨rfl, fun i x p h _ => by simp at h⟩
theorem Lays.mono {B C : Nat → Prop} (hB : ∀ b, B b → C b) {w : World} {vs : List PV} {l : List Pr} (h : Lays B w vs l) : Lays C w vs l := ⟨h.1, fun i x p h1 h2 => Lay.mono hB p (h.2 i x p h1 h2)⟩
theorem Lays.below {B : Nat → Prop} {w w' : World} {vs : List PV} {l : List Pr} (h : Lays B w vs l) (hx : Ex w w') : Lays B w' vs l := ⟨h.1, fun i x p h1 h2 => Lay.below p (h.2 i x p h1 h2) hx⟩
theorem Lays.far {B : Nat → Prop} {row : Option Nat} (ha : ∀ b, B b → row ≠ some b) {w w' : World} {vs : List PV} {l : List Pr} (h : Lays B w vs l) (hg : w.grownBy w' row) : Lays B w' vs l := ⟨h.1, fun i x p h1 h2 => Lay.far ha p (h.2 i x p h1 h2) hg⟩
theorem Lays.lt {B : Nat → Prop} {w : World} {vs : List PV} {l : List Pr} (h : Lays B w vs l) : Lays (fun b => B b ∧ b < w.heap.size) w vs l := ⟨h.1, fun i x p h1 h2 => Lay.lt p (h.2 i x p h1 h2)⟩
theorem Lays.one {B : Nat → Prop} {w : World} {v : PV} {p : Pr} (h : Lay B p w v) : Lays B w [v] [p] := by
 refine ⟨rfl, fun i x q hx hq => ?_⟩
 cases i with
 | zero => simp at hx hq; subst hx; subst hq; exact h
 | succ i => simp at hx
theorem Lays.append {B : Nat → Prop} {w : World} {vs us : List PV} {l m : List Pr} (h : Lays B w vs l) (h' : Lays B w us m) : Lays B w (vs ++ us) (l ++ m) := by
 refine ⟨by simp [h.1, h'.1], fun i v r hv hr => ?_⟩
 by_cases hi : i < vs.length
 ·rw [List.getElem?_append_left hi] at hv
  rw [List.getElem?_append_left (by rw [← h.1]; exact hi)] at hr
  exact h.2 i v r hv hr
 ·rw [List.getElem?_append_right (by omega)] at hv
  rw [List.getElem?_append_right (by rw [← h.1]; omega), ← h.1] at hr
  exact h'.2 _ v r hv hr
/-- A slice that reads as predicates. -/
def RdP (w : World) (a : Option Addr) (cap : Nat) (l : List Pr) : Prop := ∃ vs, RdW 7 pc w a cap vs ∧ Lays (fun _ => True) w vs l
theorem RdP.below {w w' : World} {a : Option Addr} {cap : Nat} {l : List Pr} (h : RdP w a cap l) (hx : Ex w w') : RdP w' a cap l := by
 obtain ⟨vs, h1, h2⟩ := h
 exact ⟨vs, h1.below hx, h2.below hx⟩
theorem RdP.bounds {w : World} {a : Option Addr} {cap : Nat} {l : List Pr} (h : RdP w a cap l) : l.length ≤ cap ∧ cap ≤ maxLen ∧ (a = none → cap = 0) := by
 obtain ⟨vs, h1, h2⟩ := h
 exact ⟨by rw [← h2.1]; exact h1.1, h1.2.1, h1.2.2.1⟩
/-- The seven places of one of them. -/
theorem RdP.at {w : World} {a : Option Addr} {cap : Nat} {l : List Pr} (h : RdP w a cap l) {i : Nat} (hi : i < l.length) : ∃ b off v, a = some ⟨b, off, none⟩ ∧ Lay (fun _ => True) l[i] w v ∧ ∀ j u, (pc v)[j]? = some u → w.cell? ⟨b, off + i * 7 + j, none⟩ = some u := by
 obtain ⟨vs, h1, h2⟩ := h
 have hi' : i < vs.length := by rw [h2.1]; exact hi
 obtain ⟨b, off, e, hc⟩ := h1.at hi'
 exact ⟨b, off, vs[i], e, h2.2 i _ _ (List.getElem?_eq_getElem hi') (List.getElem?_eq_getElem hi), hc⟩
/-- One's Kids. -/
theorem Lay.kids {B : Nat → Prop} {p : Pr} {w : World} {v : PV} (h : Lay B p w v) : HdOk B w v p.h ∧ v.kids.2.1 = p.ks.length ∧ RdP w v.kids.1 v.kids.2.2 p.ks := by
 rw [← mk_ks p, lay_mk] at h
 obtain ⟨h1, h2, h3, vs, h4, h5⟩ := h
 exact ⟨h1, h2, vs, h4, h5.mono fun _ _ => trivial⟩
/-- A call's own predicates, what is in them elsewhere. -/
def OwnP (t : TypeId) (w : World) (base : Nat) (v : Value) (l : List Pr) : Prop := ∃ vs, OwnW t 7 pc w base v vs ∧ Lays (fun b => v.ownBlock ≠ some b) w vs l
theorem OwnP.rd {t : TypeId} {w : World} {base : Nat} {v : Value} {l : List Pr} (h : OwnP t w base v l) : ∃ a cap, v = .slice a l.length cap ∧ RdP w a cap l := by
 obtain ⟨vs, h1, h2⟩ := h
 obtain ⟨a, cap, rfl, h3⟩ := h1.rd pc_len
 exact ⟨a, cap, by rw [h2.1], vs, h3, h2.mono fun _ _ => trivial⟩
theorem OwnP.nil (t : TypeId) (w : World) (base : Nat) : OwnP t w base (.slice none 0 0) [] := ⟨[], ownW_none w base, Lays.nil _ w⟩
theorem OwnP.later {t : TypeId} {w w' : World} {base : Nat} {v : Value} {l : List Pr} (h : OwnP t w base v l) (hx : Ex w w') : OwnP t w' base v l := by
 obtain ⟨vs, h1, h2⟩ := h
 exact ⟨vs, h1.later hx, h2.below hx⟩
end Pd
end Go.Proofs.YtbdjccmlgdfapaaGreat
namespace Go.Proofs.YtbdjccmlgdfapaaGreat
open Go.RowKit
set_option linter.unusedVariables false
set_option linter.unusedSimpArgs false
abbrev pb (v : PV) : Obj := .cells #[.int .i64 v.k, .string (str v.col), .int .i64 v.n, .int .i64 v.m, .string (str v.s), .slice v.set.1 v.set.2.1 v.set.2.2, .slice v.kids.1 v.kids.2.1 v.kids.2.2] 32
/-- A predicate of nothing in a block, as the walk spells it. -/
abbrev pb0 : Obj := .cells #[.int .i64 0, .string { data := #[] }, .int .i64 0, .int .i64 0, .string { data := #[] }, .slice none 0 0, .slice none 0 0] 32
def PV.zero : PV := ⟨0, [], 0, 0, [], (none, 0, 0), (none, 0, 0)⟩
def PAt (w : World) (g : Nat) (v : PV) : Prop := w.heap[g]? = some (.cells (pc v).toArray 32 (0, 0))
theorem PAt.lt {w : World} {g : Nat} {v : PV} (h : PAt w g v) : g < w.heap.size := (Array.getElem?_eq_some_iff.1 h).1
theorem PAt.below {w w' : World} {g : Nat} {v : PV} (h : PAt w g v) (hb : Below w.heap.size w w') : PAt w' g v := by
 unfold PAt; rw [hb.block g h.lt]; exact h
theorem PAt.alloc {w : World} {g : Nat} {v : PV} (h : PAt w g v) (o : Obj) : PAt (w.alloc o) g v := h.below ((Below.refl _ _).alloc (Nat.le_refl _) _)
theorem PAt.new (w : World) (v : PV) : PAt (w.alloc (pb v)) w.heap.size v := heap_alloc_new w _
theorem PAt.newat (w : World) (g : Nat) (v : PV) (hg : g = w.heap.size) : PAt (w.alloc (pb v)) g v := by subst hg; exact PAt.new w v
theorem PAt.cell {w : World} {g : Nat} {v : PV} (h : PAt w g v) (k : Nat) : w.cell? ⟨g, k, none⟩ = (pc v)[k]? := by
 rw [cell_of_row w g k _ 32 (0, 0) h, List.getElem?_toArray]
theorem PAt.all {w : World} {g : Nat} {v : PV} (h : PAt w g v) : w.cell? ⟨g, 0, none⟩ = some (.int .i64 v.k) ∧ w.cell? ⟨g, 1, none⟩ = some (.string (str v.col)) ∧ w.cell? ⟨g, 2, none⟩ = some (.int .i64 v.n) ∧ w.cell? ⟨g, 3, none⟩ = some (.int .i64 v.m) ∧
  w.cell? ⟨g, 4, none⟩ = some (.string (str v.s)) ∧ w.cell? ⟨g, 5, none⟩ = some (.slice v.set.1 v.set.2.1 v.set.2.2) ∧ w.cell? ⟨g, 6, none⟩ = some (.slice v.kids.1 v.kids.2.1 v.kids.2.2) := ⟨h.cell 0, h.cell 1, h.cell 2, h.cell 3, h.cell 4, h.cell 5, h.cell 6⟩
theorem PAt.frozen {w : World} {g : Nat} {v : PV} (h : PAt w g v) (k : Nat) : w.frozen? ⟨g, k, none⟩ = false := frozen_of_row _ _ _ _ _ h
theorem PAt.fro {w : World} {g : Nat} {v : PV} (h : PAt w g v) : w.frozen? ⟨g, 0, none⟩ = false ∧ w.frozen? ⟨g, 1, none⟩ = false ∧ w.frozen? ⟨g, 2, none⟩ = false ∧ w.frozen? ⟨g, 3, none⟩ = false ∧ w.frozen? ⟨g, 4, none⟩ = false ∧ w.frozen? ⟨g, 5, none⟩ = false ∧ w.frozen? ⟨g, 6, none⟩ = false :=
 ⟨h.frozen 0, h.frozen 1, h.frozen 2, h.frozen 3, h.frozen 4, h.frozen 5, h.frozen 6⟩
theorem PAt.set {w : World} {g k : Nat} {v v' : PV} {u : Value} (h : PAt w g v) (hz : (pc v).set k u = pc v') : PAt (w.setCell ⟨g, k, none⟩ u) g v' := by
 unfold PAt
 rw [heap_setCell_same w g k _ 32 _ h, List.setIfInBounds_toArray, hz]
theorem PAt.other {w : World} {g q k : Nat} {v : PV} {u : Value} (h : PAt w g v) (hne : g ≠ q) : PAt (w.setCell ⟨q, k, none⟩ u) g v := by
 unfold PAt
 rw [heap_setCell_other w _ g u (by simpa using hne)]; exact h
theorem PAt.far {w w' : World} {g : Nat} {v : PV} {row : Option Nat} (h : PAt w g v) (hg : w.grownBy w' row) (hne : row ≠ some g) : PAt w' g v := by
 unfold PAt; rw [hg.block g h.lt (Ne.symm hne)]; exact h
/-- A predicate is stored into a block. -/
abbrev pset (w : World) (g : Nat) (v : PV) : World := ((((((w.setCell ⟨g, 0, none⟩ (.int .i64 v.k)).setCell ⟨g, 1, none⟩ (.string (str v.col))).setCell ⟨g, 2, none⟩ (.int .i64 v.n)).setCell ⟨g, 3, none⟩ (.int .i64 v.m)).setCell ⟨g, 4, none⟩ (.string (str v.s))).setCell ⟨g, 5, none⟩ (.slice v.set.1 v.set.2.1 v.set.2.2)).setCell ⟨g, 6, none⟩ (.slice v.kids.1 v.kids.2.1 v.kids.2.2)
theorem PAt.store {w : World} {g : Nat} {v0 : PV} (h : PAt w g v0) (v : PV) : PAt (pset w g v) g v :=
 ((((((h.set (k := 0) (v' := { v0 with k := v.k }) rfl).set (k := 1) (v' := { v0 with k := v.k, col := v.col }) rfl).set (k := 2) (v' := { v0 with k := v.k, col := v.col, n := v.n }) rfl).set (k := 3) (v' := { v0 with k := v.k, col := v.col, n := v.n, m := v.m }) rfl).set (k := 4) (v' := { v0 with k := v.k, col := v.col, n := v.n, m := v.m, s := v.s }) rfl).set (k := 5) (v' := { v0 with k := v.k, col := v.col, n := v.n, m := v.m, s := v.s, set := v.set }) rfl).set (k := 6) rfl
theorem Below.pset {B : Nat} {a w : World} (h : Below B a w) {g : Nat} (hg : B ≤ g) (v : PV) : Below B a (pset w g v) :=
 Below.setCell (Below.setCell (Below.setCell (Below.setCell (Below.setCell (Below.setCell (Below.setCell h (p := ⟨g, 0, none⟩) hg _) (p := ⟨g, 1, none⟩) hg _) (p := ⟨g, 2, none⟩) hg _) (p := ⟨g, 3, none⟩) hg _) (p := ⟨g, 4, none⟩) hg _) (p := ⟨g, 5, none⟩) hg _) (p := ⟨g, 6, none⟩) hg _
/-- A block that is written is the one that has grown. -/
theorem grown_set1 (w : World) (b i : Nat) (v : Value) : w.grownBy (w.setCell ⟨b, i, none⟩ v) (some b) :=
 ⟨rfl, rfl, rfl, by simp, fun k _ hne => Below.heap_setCell w _ v k (by intro e; exact hne (by rw [e]))⟩
theorem grown_tr {a b c : World} {row : Option Nat} (h : a.grownBy b row) (k : b.grownBy c row) : a.grownBy c row :=
 ⟨k.os.trans h.os, k.tape.trans h.tape, k.output.trans h.output, Nat.le_trans h.size k.size, fun j hj hn => by rw [k.block j (Nat.lt_of_lt_of_le hj h.size) hn]; exact h.block j hj hn⟩
theorem Ex.grownBy {a b : World} (h : Ex a b) (row : Option Nat) : a.grownBy b row := ⟨h.os, h.tape, h.output, h.size, fun k hk _ => h.block k hk⟩
/-- A block that is new to the first world may be written. -/
theorem grown_trN {a b c : World} {row row' : Option Nat} (h : a.grownBy b row) (k : b.grownBy c row') (hr : ∀ j, row' = some j → row = some j ∨ a.heap.size ≤ j) : a.grownBy c row :=
 ⟨k.os.trans h.os, k.tape.trans h.tape, k.output.trans h.output, Nat.le_trans h.size k.size, fun j hj hn => by
  rw [k.block j (Nat.lt_of_lt_of_le hj h.size) (fun e => by rcases hr j e.symm with h1 | h1; exact hn h1.symm; omega)]; exact h.block j hj hn⟩
theorem grown_pset (w : World) (g : Nat) (v : PV) : w.grownBy (pset w g v) (some g) :=
 grown_tr (grown_tr (grown_tr (grown_tr (grown_tr (grown_tr (grown_set1 w g 0 _) (grown_set1 _ g 1 _)) (grown_set1 _ g 2 _)) (grown_set1 _ g 3 _)) (grown_set1 _ g 4 _)) (grown_set1 _ g 5 _)) (grown_set1 _ g 6 _)
set_option maxHeartbeats 1000000 in
theorem load_pred {w9 : World} {g : Nat} {v : PV} (h : PAt w9 g v) : (loadVar 32 ⟨g, 0, none⟩).run Tryz.prog w9 = .ok (pvv v) w9 := by
 obtain ⟨c0, c1, c2, c3, c4, c5, c6⟩ := h.all
 clear h
 simp [go_sem, pvv, sv, c0, c1, c2, c3, c4, c5, c6]
theorem res_pred {fn : Func} {tmps : Array Value} {w9 : World} {g i : Nat} {v : PV} (hfn : fn.results = #[ResultVar.cell i 32]) (ht : tmps.getD i undef = .pointer (some ⟨g, 0, none⟩)) (h : PAt w9 g v) : (results fn tmps).run Tryz.prog w9 = .ok (pvv v) w9 := by
 have hl := load_pred h
 have ht' : tmps[i]?.getD undef = .pointer (some ⟨g, 0, none⟩) := by simpa using ht
 simp [results, hfn, ht', asAddr, Sem.run_bind, Result.andThen, hl]
theorem res_pred3 {fn : Func} {tmps : Array Value} {w9 : World} {g i j k : Nat} {v : PV} {d e : Value} (hfn : fn.results = #[ResultVar.cell i 32, ResultVar.tmp j, ResultVar.tmp k]) (ht : tmps.getD i undef = .pointer (some ⟨g, 0, none⟩)) (hj : tmps.getD j undef = d) (hk : tmps.getD k undef = e) (h : PAt w9 g v) : (results fn tmps).run Tryz.prog w9 = .ok (.tuple #[pvv v, d, e]) w9 := by
 have hl := load_pred h
 have ht' : tmps[i]?.getD undef = .pointer (some ⟨g, 0, none⟩) := by simpa using ht
 have hj' : tmps[j]?.getD undef = d := by simpa using hj
 have hk' : tmps[k]?.getD undef = e := by simpa using hk
 simp [results, hfn, ht', hj', hk', asAddr, Sem.run_bind, Result.andThen, hl]
set_option maxHeartbeats 1000000 in
theorem loadI_pred {w9 : World} {b off : Nat} {v : PV} (c0 : w9.cell? ⟨b, off, none⟩ = some (.int .i64 v.k)) (c1 : w9.cell? ⟨b, off + 1, none⟩ = some (.string (str v.col))) (c2 : w9.cell? ⟨b, off + 2, none⟩ = some (.int .i64 v.n)) (c3 : w9.cell? ⟨b, off + 3, none⟩ = some (.int .i64 v.m))
  (c4 : w9.cell? ⟨b, off + 4, none⟩ = some (.string (str v.s))) (c5 : w9.cell? ⟨b, off + 5, none⟩ = some (sv v.set)) (c6 : w9.cell? ⟨b, off + 6, none⟩ = some (sv v.kids)) :
  (Instr.loadAt 32 (.pointer (some ⟨b, off, none⟩))).run Tryz.prog w9 = .ok (pvv v) w9 := by
 simp [go_sem, pvv, c0, c1, c2, c3, c4, c5, c6]
theorem PAt.loadI {w9 : World} {g : Nat} {v : PV} (h : PAt w9 g v) : (Instr.loadAt 32 (.pointer (some ⟨g, 0, none⟩))).run Tryz.prog w9 = .ok (pvv v) w9 := by
 obtain ⟨c0, c1, c2, c3, c4, c5, c6⟩ := h.all
 exact loadI_pred (off := 0) c0 c1 c2 c3 c4 c5 c6
/-- The seven places of a Kid, spelled. -/
theorem Pd.RdP.seven {w : World} {a : Option Addr} {cap : Nat} {l : List Pr} (h : Pd.RdP w a cap l) {i : Nat} (hi : i < l.length) : ∃ b off v, a = some ⟨b, off, none⟩ ∧ Pd.Lay (fun _ => True) l[i] w v ∧
  w.cell? ⟨b, off + i * 7, none⟩ = some (.int .i64 v.k) ∧ w.cell? ⟨b, off + i * 7 + 1, none⟩ = some (.string (str v.col)) ∧ w.cell? ⟨b, off + i * 7 + 2, none⟩ = some (.int .i64 v.n) ∧ w.cell? ⟨b, off + i * 7 + 3, none⟩ = some (.int .i64 v.m) ∧
  w.cell? ⟨b, off + i * 7 + 4, none⟩ = some (.string (str v.s)) ∧ w.cell? ⟨b, off + i * 7 + 5, none⟩ = some (.slice v.set.1 v.set.2.1 v.set.2.2) ∧ w.cell? ⟨b, off + i * 7 + 6, none⟩ = some (.slice v.kids.1 v.kids.2.1 v.kids.2.2) := by
 obtain ⟨b, off, v, e, hl, hc⟩ := h.at hi
 exact ⟨b, off, v, e, hl, hc 0 _ rfl, hc 1 _ rfl, hc 2 _ rfl, hc 3 _ rfl, hc 4 _ rfl, hc 5 _ rfl, hc 6 _ rfl⟩
/-- The head and the Kids as they lie. -/
theorem Pd.Lay.head {B : Nat → Prop} {h : Hd} {l : List Pr} {w : World} {v : PV} (H : Pd.Lay B (Pr.mk' h l) w v) : HdOk B w v h ∧ v.kids.2.1 = l.length ∧ InB B v.kids ∧ l.length ≤ v.kids.2.2 ∧ v.kids.2.2 ≤ maxLen ∧ (v.kids.1 = none → v.kids.2.2 = 0) := by
 rw [Pd.lay_mk] at H
 obtain ⟨h1, h2, h3, vs, h4, h5⟩ := H
 exact ⟨h1, h2, h3, by rw [← h5.1]; exact h4.1, h4.2.1, h4.2.2.1⟩
theorem Pd.Lay.kid {B : Nat → Prop} {h : Hd} {l : List Pr} {w : World} {v : PV} (H : Pd.Lay B (Pr.mk' h l) w v) {i : Nat} (hi : i < l.length) : ∃ b off u, v.kids.1 = some ⟨b, off, none⟩ ∧ B b ∧ Pd.Lay B l[i] w u ∧
  w.cell? ⟨b, off + i * 7, none⟩ = some (.int .i64 u.k) ∧ w.cell? ⟨b, off + i * 7 + 1, none⟩ = some (.string (str u.col)) ∧ w.cell? ⟨b, off + i * 7 + 2, none⟩ = some (.int .i64 u.n) ∧ w.cell? ⟨b, off + i * 7 + 3, none⟩ = some (.int .i64 u.m) ∧
  w.cell? ⟨b, off + i * 7 + 4, none⟩ = some (.string (str u.s)) ∧ w.cell? ⟨b, off + i * 7 + 5, none⟩ = some (.slice u.set.1 u.set.2.1 u.set.2.2) ∧ w.cell? ⟨b, off + i * 7 + 6, none⟩ = some (.slice u.kids.1 u.kids.2.1 u.kids.2.2) := by
 rw [Pd.lay_mk] at H
 obtain ⟨h1, h2, h3, vs, h4, h5⟩ := H
 have hi' : i < vs.length := by rw [h5.1]; exact hi
 obtain ⟨b, off, e, hc⟩ := h4.at hi'
 exact ⟨b, off, vs[i], e, h3 (by omega) b off e, h5.2 i _ _ (List.getElem?_eq_getElem hi') (List.getElem?_eq_getElem hi), hc 0 _ rfl, hc 1 _ rfl, hc 2 _ rfl, hc 3 _ rfl, hc 4 _ rfl, hc 5 _ rfl, hc 6 _ rfl⟩
/-- A number in a block. -/
def IAt (w : World) (g : Nat) (n : Int) : Prop := w.heap[g]? = some (.cells #[.int .i64 n] 3 (0, 0))
theorem IAt.lt {w : World} {g : Nat} {n : Int} (h : IAt w g n) : g < w.heap.size := (Array.getElem?_eq_some_iff.1 h).1
theorem IAt.cell {w : World} {g : Nat} {n : Int} (h : IAt w g n) : w.cell? ⟨g, 0, none⟩ = some (.int .i64 n) := by
 rw [cell_of_row w g 0 _ 3 (0, 0) h]; rfl
theorem IAt.frozen {w : World} {g : Nat} {n : Int} (h : IAt w g n) : w.frozen? ⟨g, 0, none⟩ = false := frozen_of_row _ _ _ _ _ h
theorem IAt.set {w : World} {g : Nat} {n : Int} (h : IAt w g n) (m : Int) : IAt (w.setCell ⟨g, 0, none⟩ (.int .i64 m)) g m := by
 unfold IAt
 rw [heap_setCell_same w g 0 _ 3 _ h]; rfl
theorem IAt.below {w w' : World} {g : Nat} {n : Int} (h : IAt w g n) (hb : Below w.heap.size w w') : IAt w' g n := by
 unfold IAt; rw [hb.block g h.lt]; exact h
theorem IAt.new (w : World) (n : Int) : IAt (w.alloc (.cells #[.int .i64 n] 3)) w.heap.size n := heap_alloc_new w _
end Go.Proofs.YtbdjccmlgdfapaaGreat
