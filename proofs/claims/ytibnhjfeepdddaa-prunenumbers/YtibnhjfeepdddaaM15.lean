/-
  Plain facts on predicates: cut ones, how great they are, Nots one about the other, Kids side by side. No program here. Predicates in memory: seven places each, the last two slices (texts; Kids). No function of the program here.
-/
import Derived.Test.YtibnhjfeepdddaaM14
import Derived.Test.YtibnhjfeepdddaaM10
import Derived.Test.YtibnhjfeepdddaaM12
namespace Go.Proofs.Ytibnhjfeepdddaa
set_option linter.unusedVariables false
set_option linter.unusedSimpArgs false
namespace Pd
/-- A predicate that is not too deep or wide. -/
def cutH (h : Hd) : Hd := ⟨h.k, h.col.take 20, h.n, h.m, h.s.take 41, (h.set.take 9).map fun s => s.take 41⟩
def cut : Pr → Nat → Pr := rec' fun h l a d => Pr.mk' (cutH h) (if d = 0 then [] else (a.take 4).map fun x => x (d - 1))
theorem foldr_le {l : List Nat} {n : Nat} (h : ∀ x ∈ l, x ≤ n) : l.foldr max 0 ≤ n := by
 induction l with
 | nil => simp
 | cons y t ih =>
  rw [List.foldr_cons]
  have h1 := h y (by simp)
  have h2 := ih fun x hx => h x (by simp [hx])
  omega
/-- So many parts at most. -/
def most : Nat → Nat
 | 0 => 1
 | d + 1 => 1 + 4 * most d
def nullP (c : List UInt8) : Pr := Pr.mk' ⟨9, c, 0, 0, [], []⟩ []
/-- How many parts may it have? -/
def wide (c : List UInt8) (n : Nat) : Pr := Pr.mk' (hk 2) (List.replicate n (nullP c))
end Pd
end Go.Proofs.Ytibnhjfeepdddaa
namespace Go.Proofs.Ytibnhjfeepdddaa
open Go.RowKit
set_option linter.unusedVariables false
set_option linter.unusedSimpArgs false
/-- A predicate as it lies. -/
structure PV where
 k : Int
 col : List UInt8
 n : Int
 m : Int
 s : List UInt8
 set : SV
 kids : SV
def pc (v : PV) : List Value := [.int .i64 v.k, .string (str v.col), .int .i64 v.n, .int .i64 v.m, .string (str v.s), sv v.set, sv v.kids]
def pvv (v : PV) : Value := .agg #[.int .i64 v.k, .string (str v.col), .int .i64 v.n, .int .i64 v.m, .string (str v.s), sv v.set, sv v.kids]
theorem pc_len (v : PV) : (pc v).length = 7 := rfl
theorem pc_one (v : PV) : ∀ u ∈ pc v, u.oneCell' = true := by
 intro u hu
 simp only [pc, List.mem_cons, List.not_mem_nil, or_false] at hu
 rcases hu with rfl | rfl | rfl | rfl | rfl | rfl | rfl <;> rfl
/-- A slice that has elements lies in such a block. -/
def InB (B : Nat → Prop) (s : SV) : Prop := 0 < s.2.1 → ∀ b off, s.1 = some ⟨b, off, none⟩ → B b
/-- The head as it lies, its texts. -/
def HdOk (B : Nat → Prop) (w : World) (v : PV) (h : Hd) : Prop :=
 (v.k = h.k ∧ v.col = h.col ∧ v.n = h.n ∧ v.m = h.m ∧ v.s = h.s) ∧ v.set.2.1 = h.set.length ∧ Rd st w v.set.1 v.set.2.2 h.set ∧ InB B v.set
namespace Pd
/-- It reads as the predicate, and lies in such blocks. -/
def Lay (B : Nat → Prop) : Pr → World → PV → Prop := rec' fun h l a w v => HdOk B w v h ∧ v.kids.2.1 = l.length ∧ InB B v.kids ∧ ∃ vs, RdW 7 pc w v.kids.1 v.kids.2.2 vs ∧ vs.length = l.length ∧ ∀ (i : Nat) x g, vs[i]? = some x → a[i]? = some g → g w x
/-- Such predicates, one for one. -/
def Lays (B : Nat → Prop) (w : World) (vs : List PV) (l : List Pr) : Prop := vs.length = l.length ∧ ∀ (i : Nat) x p, vs[i]? = some x → l[i]? = some p → Lay B p w x
theorem lay_mk (B : Nat → Prop) (h : Hd) (l : List Pr) (w : World) (v : PV) : Lay B (Pr.mk' h l) w v ↔ HdOk B w v h ∧ v.kids.2.1 = l.length ∧ InB B v.kids ∧ ∃ vs, RdW 7 pc w v.kids.1 v.kids.2.2 vs ∧ Lays B w vs l := by
 rw [Lay, rec_mk]
 constructor
 ·rintro ⟨h1, h2, h3, vs, h4, h5, h6⟩
  refine ⟨h1, h2, h3, vs, h4, h5, fun i x p hx hp => h6 i x _ hx ?_⟩
  rw [List.getElem?_map, hp]
  rfl
 ·rintro ⟨h1, h2, h3, vs, h4, h5, h6⟩
  refine ⟨h1, h2, h3, vs, h4, h5, fun i x g hx hg => ?_⟩
  rw [List.getElem?_map] at hg
  cases hp : l[i]? with
  | none => rw [hp] at hg; cases hg
  | some p =>
   rw [hp] at hg
   cases hg
   exact h6 i x p hx hp
end Pd
theorem InB.mono {B C : Nat → Prop} (hB : ∀ b, B b → C b) {s : SV} (h : InB B s) : InB C s := fun h0 b off e => hB b (h h0 b off e)
theorem HdOk.mono {B C : Nat → Prop} (hB : ∀ b, B b → C b) {w : World} {v : PV} {h : Hd} (x : HdOk B w v h) : HdOk C w v h := ⟨x.1, x.2.1, x.2.2.1, x.2.2.2.mono hB⟩
theorem HdOk.below {B : Nat → Prop} {w w' : World} {v : PV} {h : Hd} (x : HdOk B w v h) (hx : Ex w w') : HdOk B w' v h := ⟨x.1, x.2.1, x.2.2.1.below hx, x.2.2.2⟩
/-- Texts far from a block that has grown. -/
theorem rd_far {w w' : World} {a : Option Addr} {cap : Nat} {l : List (List UInt8)} {row : Option Nat} (h : Rd st w a cap l) (hg : w.grownBy w' row) (ha : 0 < l.length → ∀ b off, a = some ⟨b, off, none⟩ → row ≠ some b) : Rd st w' a cap l := by
 by_cases h0 : 0 < l.length
 ·obtain ⟨b, off, e, hc⟩ := h.at h0
  subst e
  exact h.far hg (World.block_lt_of_cell? w _ hc) (ha h0 b off rfl)
 ·have : l = [] := List.length_eq_zero_iff.1 (by omega)
  subst this
  exact ⟨by simp, h.2.1, h.2.2.1, fun i x hi => by simp at hi⟩
theorem HdOk.far {B : Nat → Prop} {w w' : World} {v : PV} {h : Hd} {row : Option Nat} (x : HdOk B w v h) (hg : w.grownBy w' row) (ha : ∀ b, B b → row ≠ some b) : HdOk B w' v h :=
 ⟨x.1, x.2.1, rd_far x.2.2.1 hg fun h0 b off e => ha b (x.2.2.2 (by rw [x.2.1]; exact h0) b off e), x.2.2.2⟩
namespace Pd
theorem Lay.mono {B C : Nat → Prop} (hB : ∀ b, B b → C b) : ∀ p {w : World} {v : PV}, Lay B p w v → Lay C p w v := by
 refine tree ?_
 intro h l ih w v hl
 rw [lay_mk] at hl ⊢
 obtain ⟨h1, h2, h3, vs, h4, h5, h6⟩ := hl
 exact ⟨h1.mono hB, h2, h3.mono hB, vs, h4, h5, fun i x p hx hp => ih p (List.mem_of_getElem? hp) (h6 i x p hx hp)⟩
theorem Lay.below {B : Nat → Prop} : ∀ p {w w' : World} {v : PV}, Lay B p w v → Ex w w' → Lay B p w' v := by
 refine tree ?_
 intro h l ih w w' v hl hx
 rw [lay_mk] at hl ⊢
 obtain ⟨h1, h2, h3, vs, h4, h5, h6⟩ := hl
 exact ⟨h1.below hx, h2, h3, vs, h4.below hx, h5, fun i x p hi hp => ih p (List.mem_of_getElem? hp) (h6 i x p hi hp) hx⟩
/-- Nothing of it lies in the block that has grown. -/
theorem Lay.far {B : Nat → Prop} {row : Option Nat} (ha : ∀ b, B b → row ≠ some b) : ∀ p {w w' : World} {v : PV}, Lay B p w v → w.grownBy w' row → Lay B p w' v := by
 refine tree ?_
 intro h l ih w w' v hl hg
 rw [lay_mk] at hl ⊢
 obtain ⟨h1, h2, h3, vs, h4, h5, h6⟩ := hl
 refine ⟨h1.far hg ha, h2, h3, vs, h4.far hg fun h0 b off e => ha b (h3 (by omega) b off e), h5, fun i x p hi hp => ih p (List.mem_of_getElem? hp) (h6 i x p hi hp) hg⟩
/-- It lies in blocks that there are. -/
theorem Lay.lt {B : Nat → Prop} : ∀ p {w : World} {v : PV}, Lay B p w v → Lay (fun b => B b ∧ b < w.heap.size) p w v := by
 refine tree ?_
 intro h l ih w v hl
 rw [lay_mk] at hl ⊢
 obtain ⟨h1, h2, h3, vs, h4, h5, h6⟩ := hl
 refine ⟨⟨h1.1, h1.2.1, h1.2.2.1, fun h0 b off e => ⟨h1.2.2.2 h0 b off e, ?_⟩⟩, h2, fun h0 b off e => ⟨h3 h0 b off e, ?_⟩, vs, h4, h5, fun i x p hi hp => ih p (List.mem_of_getElem? hp) (h6 i x p hi hp)⟩
 ·obtain ⟨b', off', e', hc⟩ := h1.2.2.1.at (k := 0) (by rw [← h1.2.1]; exact h0)
  rw [e] at e'
  cases e'
  exact World.block_lt_of_cell? w _ hc
 ·obtain ⟨b', off', e', hc⟩ := h4.at (i := 0) (by omega)
  rw [e] at e'
  cases e'
  exact World.block_lt_of_cell? w _ (hc 0 _ rfl)
theorem Lays.nil (B : Nat → Prop) (w : World) : Lays B w [] [] := ⟨rfl, fun i x p h _ => by simp at h⟩
theorem Lays.mono {B C : Nat → Prop} (hB : ∀ b, B b → C b) {w : World} {vs : List PV} {l : List Pr} (h : Lays B w vs l) : Lays C w vs l := ⟨h.1, fun i x p h1 h2 => Lay.mono hB p (h.2 i x p h1 h2)⟩
theorem Lays.below {B : Nat → Prop} {w w' : World} {vs : List PV} {l : List Pr} (h : Lays B w vs l) (hx : Ex w w') : Lays B w' vs l := ⟨h.1, fun i x p h1 h2 => Lay.below p (h.2 i x p h1 h2) hx⟩
theorem Lays.far {B : Nat → Prop} {row : Option Nat} (ha : ∀ b, B b → row ≠ some b) {w w' : World} {vs : List PV} {l : List Pr} (h : Lays B w vs l) (hg : w.grownBy w' row) : Lays B w' vs l := ⟨h.1, fun i x p h1 h2 => Lay.far ha p (h.2 i x p h1 h2) hg⟩
theorem Lays.lt {B : Nat → Prop} {w : World} {vs : List PV} {l : List Pr} (h : Lays B w vs l) : Lays (fun b => B b ∧ b < w.heap.size) w vs l := ⟨h.1, fun i x p h1 h2 => Lay.lt p (h.2 i x p h1 h2)⟩
theorem Lays.one {B : Nat → Prop} {w : World} {v : PV} {p : Pr} (h : Lay B p w v) : Lays B w [v] [p] := by
 refine ⟨rfl, fun i x q hx hq => ?_⟩
 cases i with
 | zero => simp at hx hq; subst hx; subst hq; exact h
 | succ i => simp at hx
theorem Lays.append {B : Nat → Prop} {w : World} {vs us : List PV} {l m : List Pr} (h : Lays B w vs l) (h' : Lays B w us m) : Lays B w (vs ++ us) (l ++ m) := by
 refine ⟨by simp [h.1, h'.1], fun i v r hv hr => ?_⟩
 by_cases hi : i < vs.length
 ·rw [List.getElem?_append_left hi] at hv
  rw [List.getElem?_append_left (by rw [← h.1]; exact hi)] at hr
  exact h.2 i v r hv hr
 ·rw [List.getElem?_append_right (by omega)] at hv
  rw [List.getElem?_append_right (by rw [← h.1]; omega), ← h.1] at hr
  exact h'.2 _ v r hv hr
/-- A slice that reads as predicates. -/
def RdP (w : World) (a : Option Addr) (cap : Nat) (l : List Pr) : Prop := ∃ vs, RdW 7 pc w a cap vs ∧ Lays (fun _ => True) w vs l
theorem RdP.below {w w' : World} {a : Option Addr} {cap : Nat} {l : List Pr} (h : RdP w a cap l) (hx : Ex w w') : RdP w' a cap l := by
 obtain ⟨vs, h1, h2⟩ := h
 exact ⟨vs, h1.below hx, h2.below hx⟩
theorem RdP.bounds {w : World} {a : Option Addr} {cap : Nat} {l : List Pr} (h : RdP w a cap l) : l.length ≤ cap ∧ cap ≤ maxLen ∧ (a = none → cap = 0) := by
 obtain ⟨vs, h1, h2⟩ := h
 exact ⟨by rw [← h2.1]; exact h1.1, h1.2.1, h1.2.2.1⟩
/-- The seven places of one of them. -/
theorem RdP.at {w : World} {a : Option Addr} {cap : Nat} {l : List Pr} (h : RdP w a cap l) {i : Nat} (hi : i < l.length) : ∃ b off v, a = some ⟨b, off, none⟩ ∧ Lay (fun _ => True) l[i] w v ∧ ∀ j u, (pc v)[j]? = some u → w.cell? ⟨b, off + i * 7 + j, none⟩ = some u := by
 obtain ⟨vs, h1, h2⟩ := h
 have hi' : i < vs.length := by rw [h2.1]; exact hi
 obtain ⟨b, off, e, hc⟩ := h1.at hi'
 exact ⟨b, off, vs[i], e, h2.2 i _ _ (List.getElem?_eq_getElem hi') (List.getElem?_eq_getElem hi), hc⟩
/-- One's Kids. -/
theorem Lay.kids {B : Nat → Prop} {p : Pr} {w : World} {v : PV} (h : Lay B p w v) : HdOk B w v p.h ∧ v.kids.2.1 = p.ks.length ∧ RdP w v.kids.1 v.kids.2.2 p.ks := by
 rw [← mk_ks p, lay_mk] at h
 obtain ⟨h1, h2, h3, vs, h4, h5⟩ := h
 exact ⟨h1, h2, vs, h4, h5.mono fun _ _ => trivial⟩
/-- A call's own predicates, what is in them elsewhere. -/
def OwnP (t : TypeId) (w : World) (base : Nat) (v : Value) (l : List Pr) : Prop := ∃ vs, OwnW t 7 pc w base v vs ∧ Lays (fun b => v.ownBlock ≠ some b) w vs l
theorem OwnP.rd {t : TypeId} {w : World} {base : Nat} {v : Value} {l : List Pr} (h : OwnP t w base v l) : ∃ a cap, v = .slice a l.length cap ∧ RdP w a cap l := by
 obtain ⟨vs, h1, h2⟩ := h
 obtain ⟨a, cap, rfl, h3⟩ := h1.rd pc_len
 exact ⟨a, cap, by rw [h2.1], vs, h3, h2.mono fun _ _ => trivial⟩
theorem OwnP.nil (t : TypeId) (w : World) (base : Nat) : OwnP t w base (.slice none 0 0) [] := ⟨[], ownW_none w base, Lays.nil _ w⟩
theorem OwnP.later {t : TypeId} {w w' : World} {base : Nat} {v : Value} {l : List Pr} (h : OwnP t w base v l) (hx : Ex w w') : OwnP t w' base v l := by
 obtain ⟨vs, h1, h2⟩ := h
 exact ⟨vs, h1.later hx, h2.below hx⟩
end Pd
end Go.Proofs.Ytibnhjfeepdddaa
