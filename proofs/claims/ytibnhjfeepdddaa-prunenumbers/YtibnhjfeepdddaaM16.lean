/-
  A predicate in a block of its own: read, stored, kept, handed back. No function of the program here. The landed fits, Size, bounded.
-/
import Derived.Test.YtibnhjfeepdddaaM15
import Derived.Test.YtibnhjfeepdddaaM13
import Derived.Test.YtibnhjfeepdddaaM04
import Derived.Deep.DeepCutAuto
import Derived.Deep.Light
namespace Go.Proofs.Ytibnhjfeepdddaa
open Go.RowKit
set_option linter.unusedVariables false
set_option linter.unusedSimpArgs false
abbrev pb (v : PV) : Obj := .cells #[.int .i64 v.k, .string (str v.col), .int .i64 v.n, .int .i64 v.m, .string (str v.s), .slice v.set.1 v.set.2.1 v.set.2.2, .slice v.kids.1 v.kids.2.1 v.kids.2.2] 40
/-- A predicate of nothing in a block, as the walk spells it. -/
abbrev pb0 : Obj := .cells #[.int .i64 0, .string { data := #[] }, .int .i64 0, .int .i64 0, .string { data := #[] }, .slice none 0 0, .slice none 0 0] 40
def PV.zero : PV := ⟨0, [], 0, 0, [], (none, 0, 0), (none, 0, 0)⟩
def PAt (w : World) (g : Nat) (v : PV) : Prop := w.heap[g]? = some (.cells (pc v).toArray 40 (0, 0))
theorem PAt.lt {w : World} {g : Nat} {v : PV} (h : PAt w g v) : g < w.heap.size := (Array.getElem?_eq_some_iff.1 h).1
theorem PAt.below {w w' : World} {g : Nat} {v : PV} (h : PAt w g v) (hb : Below w.heap.size w w') : PAt w' g v := by
 unfold PAt; rw [hb.block g h.lt]; exact h
theorem PAt.alloc {w : World} {g : Nat} {v : PV} (h : PAt w g v) (o : Obj) : PAt (w.alloc o) g v := h.below ((Below.refl _ _).alloc (Nat.le_refl _) _)
theorem PAt.new (w : World) (v : PV) : PAt (w.alloc (pb v)) w.heap.size v := heap_alloc_new w _
theorem PAt.newat (w : World) (g : Nat) (v : PV) (hg : g = w.heap.size) : PAt (w.alloc (pb v)) g v := by subst hg; exact PAt.new w v
theorem PAt.cell {w : World} {g : Nat} {v : PV} (h : PAt w g v) (k : Nat) : w.cell? ⟨g, k, none⟩ = (pc v)[k]? := by
 rw [cell_of_row w g k _ 40 (0, 0) h, List.getElem?_toArray]
theorem PAt.all {w : World} {g : Nat} {v : PV} (h : PAt w g v) : w.cell? ⟨g, 0, none⟩ = some (.int .i64 v.k) ∧ w.cell? ⟨g, 1, none⟩ = some (.string (str v.col)) ∧ w.cell? ⟨g, 2, none⟩ = some (.int .i64 v.n) ∧ w.cell? ⟨g, 3, none⟩ = some (.int .i64 v.m) ∧
  w.cell? ⟨g, 4, none⟩ = some (.string (str v.s)) ∧ w.cell? ⟨g, 5, none⟩ = some (.slice v.set.1 v.set.2.1 v.set.2.2) ∧ w.cell? ⟨g, 6, none⟩ = some (.slice v.kids.1 v.kids.2.1 v.kids.2.2) := ⟨h.cell 0, h.cell 1, h.cell 2, h.cell 3, h.cell 4, h.cell 5, h.cell 6⟩
theorem PAt.frozen {w : World} {g : Nat} {v : PV} (h : PAt w g v) (k : Nat) : w.frozen? ⟨g, k, none⟩ = false := frozen_of_row _ _ _ _ _ h
theorem PAt.fro {w : World} {g : Nat} {v : PV} (h : PAt w g v) : w.frozen? ⟨g, 0, none⟩ = false ∧ w.frozen? ⟨g, 1, none⟩ = false ∧ w.frozen? ⟨g, 2, none⟩ = false ∧ w.frozen? ⟨g, 3, none⟩ = false ∧ w.frozen? ⟨g, 4, none⟩ = false ∧ w.frozen? ⟨g, 5, none⟩ = false ∧ w.frozen? ⟨g, 6, none⟩ = false :=
 ⟨h.frozen 0, h.frozen 1, h.frozen 2, h.frozen 3, h.frozen 4, h.frozen 5, h.frozen 6⟩
theorem PAt.set {w : World} {g k : Nat} {v v' : PV} {u : Value} (h : PAt w g v) (hz : (pc v).set k u = pc v') : PAt (w.setCell ⟨g, k, none⟩ u) g v' := by
 unfold PAt
 rw [heap_setCell_same w g k _ 40 _ h, List.setIfInBounds_toArray, hz]
theorem PAt.other {w : World} {g q k : Nat} {v : PV} {u : Value} (h : PAt w g v) (hne : g ≠ q) : PAt (w.setCell ⟨q, k, none⟩ u) g v := by
 unfold PAt
 rw [heap_setCell_other w _ g u (by simpa using hne)]; exact h
theorem PAt.far {w w' : World} {g : Nat} {v : PV} {row : Option Nat} (h : PAt w g v) (hg : w.grownBy w' row) (hne : row ≠ some g) : PAt w' g v := by
 unfold PAt; rw [hg.block g h.lt (Ne.symm hne)]; exact h
/-- A predicate is stored into a block. -/
abbrev pset (w : World) (g : Nat) (v : PV) : World := ((((((w.setCell ⟨g, 0, none⟩ (.int .i64 v.k)).setCell ⟨g, 1, none⟩ (.string (str v.col))).setCell ⟨g, 2, none⟩ (.int .i64 v.n)).setCell ⟨g, 3, none⟩ (.int .i64 v.m)).setCell ⟨g, 4, none⟩ (.string (str v.s))).setCell ⟨g, 5, none⟩ (.slice v.set.1 v.set.2.1 v.set.2.2)).setCell ⟨g, 6, none⟩ (.slice v.kids.1 v.kids.2.1 v.kids.2.2)
theorem PAt.store {w : World} {g : Nat} {v0 : PV} (h : PAt w g v0) (v : PV) : PAt (pset w g v) g v :=
 ((((((h.set (k := 0) (v' := { v0 with k := v.k }) rfl).set (k := 1) (v' := { v0 with k := v.k, col := v.col }) rfl).set (k := 2) (v' := { v0 with k := v.k, col := v.col, n := v.n }) rfl).set (k := 3) (v' := { v0 with k := v.k, col := v.col, n := v.n, m := v.m }) rfl).set (k := 4) (v' := { v0 with k := v.k, col := v.col, n := v.n, m := v.m, s := v.s }) rfl).set (k := 5) (v' := { v0 with k := v.k, col := v.col, n := v.n, m := v.m, s := v.s, set := v.set }) rfl).set (k := 6) rfl
theorem Below.pset {B : Nat} {a w : World} (h : Below B a w) {g : Nat} (hg : B ≤ g) (v : PV) : Below B a (pset w g v) :=
 Below.setCell (Below.setCell (Below.setCell (Below.setCell (Below.setCell (Below.setCell (Below.setCell h (p := ⟨g, 0, none⟩) hg _) (p := ⟨g, 1, none⟩) hg _) (p := ⟨g, 2, none⟩) hg _) (p := ⟨g, 3, none⟩) hg _) (p := ⟨g, 4, none⟩) hg _) (p := ⟨g, 5, none⟩) hg _) (p := ⟨g, 6, none⟩) hg _
/-- A block that is written is the one that has grown. -/
theorem grown_set1 (w : World) (b i : Nat) (v : Value) : w.grownBy (w.setCell ⟨b, i, none⟩ v) (some b) :=
 ⟨rfl, rfl, rfl, by simp, fun k _ hne => Below.heap_setCell w _ v k (by intro e; exact hne (by rw [e]))⟩
theorem grown_tr {a b c : World} {row : Option Nat} (h : a.grownBy b row) (k : b.grownBy c row) : a.grownBy c row :=
 ⟨k.os.trans h.os, k.tape.trans h.tape, k.output.trans h.output, Nat.le_trans h.size k.size, fun j hj hn => by rw [k.block j (Nat.lt_of_lt_of_le hj h.size) hn]; exact h.block j hj hn⟩
theorem Ex.grownBy {a b : World} (h : Ex a b) (row : Option Nat) : a.grownBy b row := ⟨h.os, h.tape, h.output, h.size, fun k hk _ => h.block k hk⟩
theorem grown_pset (w : World) (g : Nat) (v : PV) : w.grownBy (pset w g v) (some g) :=
 grown_tr (grown_tr (grown_tr (grown_tr (grown_tr (grown_tr (grown_set1 w g 0 _) (grown_set1 _ g 1 _)) (grown_set1 _ g 2 _)) (grown_set1 _ g 3 _)) (grown_set1 _ g 4 _)) (grown_set1 _ g 5 _)) (grown_set1 _ g 6 _)
set_option maxHeartbeats 1000000 in
theorem load_pred {w9 : World} {g : Nat} {v : PV} (h : PAt w9 g v) : (loadVar 40 ⟨g, 0, none⟩).run Try.prog w9 = .ok (pvv v) w9 := by
 obtain ⟨c0, c1, c2, c3, c4, c5, c6⟩ := h.all
 clear h
 simp [go_sem, pvv, sv, c0, c1, c2, c3, c4, c5, c6]
theorem res_pred {fn : Func} {tmps : Array Value} {w9 : World} {g i : Nat} {v : PV} (hfn : fn.results = #[ResultVar.cell i 40]) (ht : tmps.getD i undef = .pointer (some ⟨g, 0, none⟩)) (h : PAt w9 g v) : (results fn tmps).run Try.prog w9 = .ok (pvv v) w9 := by
 have hl := load_pred h
 have ht' : tmps[i]?.getD undef = .pointer (some ⟨g, 0, none⟩) := by simpa using ht
 simp [results, hfn, ht', asAddr, Sem.run_bind, Result.andThen, hl]
set_option maxHeartbeats 1000000 in
theorem loadI_pred {w9 : World} {b off : Nat} {v : PV} (c0 : w9.cell? ⟨b, off, none⟩ = some (.int .i64 v.k)) (c1 : w9.cell? ⟨b, off + 1, none⟩ = some (.string (str v.col))) (c2 : w9.cell? ⟨b, off + 2, none⟩ = some (.int .i64 v.n)) (c3 : w9.cell? ⟨b, off + 3, none⟩ = some (.int .i64 v.m))
  (c4 : w9.cell? ⟨b, off + 4, none⟩ = some (.string (str v.s))) (c5 : w9.cell? ⟨b, off + 5, none⟩ = some (sv v.set)) (c6 : w9.cell? ⟨b, off + 6, none⟩ = some (sv v.kids)) :
  (Instr.loadAt 40 (.pointer (some ⟨b, off, none⟩))).run Try.prog w9 = .ok (pvv v) w9 := by
 simp [go_sem, pvv, c0, c1, c2, c3, c4, c5, c6]
theorem PAt.loadI {w9 : World} {g : Nat} {v : PV} (h : PAt w9 g v) : (Instr.loadAt 40 (.pointer (some ⟨g, 0, none⟩))).run Try.prog w9 = .ok (pvv v) w9 := by
 obtain ⟨c0, c1, c2, c3, c4, c5, c6⟩ := h.all
 exact loadI_pred (off := 0) c0 c1 c2 c3 c4 c5 c6
/-- The seven places of a Kid, spelled. -/
theorem Pd.RdP.seven {w : World} {a : Option Addr} {cap : Nat} {l : List Pr} (h : Pd.RdP w a cap l) {i : Nat} (hi : i < l.length) : ∃ b off v, a = some ⟨b, off, none⟩ ∧ Pd.Lay (fun _ => True) l[i] w v ∧
  w.cell? ⟨b, off + i * 7, none⟩ = some (.int .i64 v.k) ∧ w.cell? ⟨b, off + i * 7 + 1, none⟩ = some (.string (str v.col)) ∧ w.cell? ⟨b, off + i * 7 + 2, none⟩ = some (.int .i64 v.n) ∧ w.cell? ⟨b, off + i * 7 + 3, none⟩ = some (.int .i64 v.m) ∧
  w.cell? ⟨b, off + i * 7 + 4, none⟩ = some (.string (str v.s)) ∧ w.cell? ⟨b, off + i * 7 + 5, none⟩ = some (.slice v.set.1 v.set.2.1 v.set.2.2) ∧ w.cell? ⟨b, off + i * 7 + 6, none⟩ = some (.slice v.kids.1 v.kids.2.1 v.kids.2.2) := by
 obtain ⟨b, off, v, e, hl, hc⟩ := h.at hi
 exact ⟨b, off, v, e, hl, hc 0 _ rfl, hc 1 _ rfl, hc 2 _ rfl, hc 3 _ rfl, hc 4 _ rfl, hc 5 _ rfl, hc 6 _ rfl⟩
/-- The head and the Kids as they lie. -/
theorem Pd.Lay.head {B : Nat → Prop} {h : Hd} {l : List Pr} {w : World} {v : PV} (H : Pd.Lay B (Pr.mk' h l) w v) : HdOk B w v h ∧ v.kids.2.1 = l.length ∧ InB B v.kids ∧ l.length ≤ v.kids.2.2 ∧ v.kids.2.2 ≤ maxLen ∧ (v.kids.1 = none → v.kids.2.2 = 0) := by
 rw [Pd.lay_mk] at H
 obtain ⟨h1, h2, h3, vs, h4, h5⟩ := H
 exact ⟨h1, h2, h3, by rw [← h5.1]; exact h4.1, h4.2.1, h4.2.2.1⟩
theorem Pd.Lay.kid {B : Nat → Prop} {h : Hd} {l : List Pr} {w : World} {v : PV} (H : Pd.Lay B (Pr.mk' h l) w v) {i : Nat} (hi : i < l.length) : ∃ b off u, v.kids.1 = some ⟨b, off, none⟩ ∧ B b ∧ Pd.Lay B l[i] w u ∧
  w.cell? ⟨b, off + i * 7, none⟩ = some (.int .i64 u.k) ∧ w.cell? ⟨b, off + i * 7 + 1, none⟩ = some (.string (str u.col)) ∧ w.cell? ⟨b, off + i * 7 + 2, none⟩ = some (.int .i64 u.n) ∧ w.cell? ⟨b, off + i * 7 + 3, none⟩ = some (.int .i64 u.m) ∧
  w.cell? ⟨b, off + i * 7 + 4, none⟩ = some (.string (str u.s)) ∧ w.cell? ⟨b, off + i * 7 + 5, none⟩ = some (.slice u.set.1 u.set.2.1 u.set.2.2) ∧ w.cell? ⟨b, off + i * 7 + 6, none⟩ = some (.slice u.kids.1 u.kids.2.1 u.kids.2.2) := by
 rw [Pd.lay_mk] at H
 obtain ⟨h1, h2, h3, vs, h4, h5⟩ := H
 have hi' : i < vs.length := by rw [h5.1]; exact hi
 obtain ⟨b, off, e, hc⟩ := h4.at hi'
 exact ⟨b, off, vs[i], e, h3 (by omega) b off e, h5.2 i _ _ (List.getElem?_eq_getElem hi') (List.getElem?_eq_getElem hi), hc 0 _ rfl, hc 1 _ rfl, hc 2 _ rfl, hc 3 _ rfl, hc 4 _ rfl, hc 5 _ rfl, hc 6 _ rfl⟩
/-- A number in a block. -/
def IAt (w : World) (g : Nat) (n : Int) : Prop := w.heap[g]? = some (.cells #[.int .i64 n] 3 (0, 0))
theorem IAt.lt {w : World} {g : Nat} {n : Int} (h : IAt w g n) : g < w.heap.size := (Array.getElem?_eq_some_iff.1 h).1
theorem IAt.cell {w : World} {g : Nat} {n : Int} (h : IAt w g n) : w.cell? ⟨g, 0, none⟩ = some (.int .i64 n) := by
 rw [cell_of_row w g 0 _ 3 (0, 0) h]; rfl
theorem IAt.frozen {w : World} {g : Nat} {n : Int} (h : IAt w g n) : w.frozen? ⟨g, 0, none⟩ = false := frozen_of_row _ _ _ _ _ h
theorem IAt.set {w : World} {g : Nat} {n : Int} (h : IAt w g n) (m : Int) : IAt (w.setCell ⟨g, 0, none⟩ (.int .i64 m)) g m := by
 unfold IAt
 rw [heap_setCell_same w g 0 _ 3 _ h]; rfl
theorem IAt.below {w w' : World} {g : Nat} {n : Int} (h : IAt w g n) (hb : Below w.heap.size w w') : IAt w' g n := by
 unfold IAt; rw [hb.block g h.lt]; exact h
theorem IAt.new (w : World) (n : Int) : IAt (w.alloc (.cells #[.int .i64 n] 3)) w.heap.size n := heap_alloc_new w _
end Go.Proofs.Ytibnhjfeepdddaa
namespace Go.Proofs.Ytibnhjfeepdddaa
open Go.RowKit
set_option linter.unusedVariables false
set_option linter.unusedSimpArgs false
namespace Pd
theorem sum_take (l : List Pr) (i : Nat) : ((l.take i).map size).sum ≤ (l.map size).sum := by
 induction l generalizing i with
 | nil => simp
 | cons x t ih =>
  cases i with
  | zero => simp
  | succ i =>
   have := ih i
   simp only [List.take_succ_cons, List.map_cons, List.sum_cons]
   omega
/-- It is no deeper, and of no more parts. -/
def fit (p : Pr) (d L : Nat) : Bool := decide (deep p ≤ d) && decide (size p ≤ L)
theorem fit_mk (h : Hd) (l : List Pr) (d L : Nat) : fit (Pr.mk' h l) d L = true ↔ (1 ≤ d ∧ 1 ≤ L) ∧ (∀ k ∈ l, deep k ≤ d - 1) ∧ (l.map size).sum ≤ L - 1 := by
 unfold fit
 rw [deep_mk, size_mk]
 simp only [Bool.and_eq_true, decide_eq_true_eq]
 constructor
 ·rintro ⟨h1, h2⟩
  refine ⟨⟨by omega, by omega⟩, fun k hk => ?_, by omega⟩
  have := deep_in hk
  omega
 ·rintro ⟨⟨h1, h2⟩, h3, h4⟩
  refine ⟨?_, by omega⟩
  have : (l.map deep).foldr max 0 ≤ d - 1 := by
   refine foldr_le fun x hx => ?_
   obtain ⟨y, hy, rfl⟩ := List.mem_map.1 hx
   exact h3 y hy
  omega
end Pd
/-- What fits leaves behind. -/
def FitsR (p : Pr) (d L g : Nat) (w w' : World) : Prop := ∃ L' : Nat, IAt w' g L' ∧ (Pd.fit p d L = true → L' = L - Pd.size p) ∧ w.grownBy w' (some g)
set_option maxHeartbeats 4000000 in
set_option maxRecDepth 100000 in
theorem fits_is : ∀ (p : Pr) (v : PV) (d L g : Nat) (w : World), Pd.Lay (fun b => b ≠ g) p w v → IAt w g L → d ≤ 1000 → L ≤ 1000000 →
  Calls Try.prog 33 #[pvv v, .int .i64 d, .pointer (some ⟨g, 0, none⟩)] w fun e w' => e = .returned (.bool (Pd.fit p d L)) ∧ FitsR p d L g w w' := by
 refine Pd.tree ?_
 intro h l ih v d L g w hL hI hd hLL
 obtain ⟨hHd, hkn, hkB, hkc, hkm, hk0⟩ := hL.head
 obtain ⟨vk, vcol, vn, vm, vs, vset, ⟨p, n, cap⟩⟩ := v
 simp only at hkn hkB hkc hkm hk0
 subst hkn
 unfold maxLen at hkm
 obtain ⟨o, ho⟩ : ∃ o, Pd.fit (Pr.mk' h l) d L = o := ⟨_, rfl⟩
 have HO : Hid (Pd.fit (Pr.mk' h l) d L = o) := ho
 have HIH : Hid (∀ k ∈ l, ∀ (v : PV) (d L g : Nat) (w : World), Pd.Lay (fun b => b ≠ g) k w v → IAt w g L → d ≤ 1000 → L ≤ 1000000 →
  Calls Try.prog 33 #[pvv v, .int .i64 d, .pointer (some ⟨g, 0, none⟩)] w fun e w' => e = .returned (.bool (Pd.fit k d L)) ∧ FitsR k d L g w w') := ih
 rw [ho]
 have HF := (Pd.fit_mk h l d L)
 have HFM : Hid (o = true ↔ (1 ≤ d ∧ 1 ≤ L) ∧ (∀ k ∈ l, Pd.deep k ≤ d - 1) ∧ (l.map Pd.size).sum ≤ L - 1) := (by rw [← ho]; exact HF : o = true ↔ _)
 have HLw : Hid (Pd.Lay (fun b => b ≠ g) (Pr.mk' h l) w ⟨vk, vcol, vn, vm, vs, vset, p, l.length, cap⟩) := hL
 obtain ⟨W, hW⟩ : ∃ W, w.alloc (pb ⟨vk, vcol, vn, vm, vs, vset, p, l.length, cap⟩) = W := ⟨_, rfl⟩
 have hXW : Ex w W := by rw [← hW]; exact (Below.refl _ _).alloc (Nat.le_refl _) _
 have HIW : Hid (IAt W g L) := hI.below hXW
 have HXW : Hid (Ex w W) := hXW
 have HP : Hid (PAt W w.heap.size ⟨vk, vcol, vn, vm, vs, vset, p, l.length, cap⟩) := (by rw [← hW]; exact PAt.new w _ : PAt W w.heap.size _)
 have hgw : w.heap.size ≠ g := by have := hI.lt; omega
 have i0 := HIW.out.cell
 have i1 := HIW.out.frozen
 clear hL hI hHd hkB ho HF ih hXW
 unfold pvv
 simp only [sv]
 go_enter Try.func33, Try.ntmps33
 by_cases hd0 : d = 0
 ·subst hd0
  have HFF : Hid (o = false) := (by cases o with | false => rfl | true => exact absurd (HFM.out.1 rfl).1.1 (by omega) : o = false)
  go_wp2_with fail
  go_ret
  exact ⟨by rw [HFF.out]; rfl, L, by simpa using HIW.out, by rw [HO.out, HFF.out]; simp, HXW.out.grownBy _⟩
 have t1 : ((d : Int) == 0) = false := beq_eq_false_iff_ne.2 (by omega)
 by_cases hL0 : L = 0
 ·subst hL0
  have HFF : Hid (o = false) := (by cases o with | false => rfl | true => exact absurd (HFM.out.1 rfl).1.2 (by omega) : o = false)
  go_wp2_with fail
  go_ret
  exact ⟨by rw [HFF.out]; rfl, 0, by simpa using HIW.out, by rw [HO.out, HFF.out]; simp, HXW.out.grownBy _⟩
 have t2 : ((L : Int) == 0) = false := beq_eq_false_iff_ne.2 (by omega)
 obtain ⟨L1, hL1⟩ : ∃ L1, L1 + 1 = L := ⟨L - 1, by omega⟩
 obtain ⟨d1, hd1⟩ : ∃ d1, d1 + 1 = d := ⟨d - 1, by omega⟩
 have HL1 : Hid (L1 + 1 = L) := hL1
 have HD1 : Hid (d1 + 1 = d) := hd1
 have t3 : (L : Int) - 1 = (L1 : Int) := by omega
 have t4 : (d : Int) - 1 = (d1 : Int) := by omega
 clear hL1 hd1
 obtain ⟨W2, hW2⟩ : ∃ W2, W.setCell ⟨g, 0, none⟩ (.int .i64 (L1 : Int)) = W2 := ⟨_, rfl⟩
 have HI2 : Hid (IAt W2 g L1) := (by rw [← hW2]; exact HIW.out.set _ : IAt W2 g L1)
 have HG2 : Hid (w.grownBy W2 (some g)) := (by rw [← hW2]; exact grown_tr (HXW.out.grownBy _) (grown_set1 _ _ _ _) : w.grownBy W2 (some g))
 have HP2 : Hid (PAt W2 w.heap.size ⟨vk, vcol, vn, vm, vs, vset, p, l.length, cap⟩) := (by rw [← hW2]; exact HP.out.other hgw : PAt W2 w.heap.size _)
 obtain ⟨p0, p1, p2, p3, p4, p5, p6⟩ := HP2.out.all
 simp only at p0 p1 p2 p3 p4 p5 p6
 go_wp2_with fail
 go_loopw [25, 8] (fun iv kv wr => ∃ i : Nat, i ≤ l.length ∧ iv = .int .i64 i ∧ Hid (∀ k ∈ l.take i, Pd.deep k ≤ d1) ∧ Hid (∃ M : Nat, M + ((l.take i).map Pd.size).sum = L1 ∧ IAt wr g M) ∧ Hid (w.grownBy wr (some g))) (fun iv kv wr => l.length - (intOf iv).toNat)
 case atStart => exact ⟨0, by omega, rfl, (by simp : ∀ k ∈ l.take 0, Pd.deep k ≤ d1), (⟨L1, by simp, HI2.out⟩ : ∃ M : Nat, M + ((l.take 0).map Pd.size).sum = L1 ∧ IAt _ g M), HG2⟩
 case round =>
  obtain ⟨i, hi, rfl, HA, HM, HGr⟩ := hrel
  by_cases hlt : i < l.length
  ·have hti : (i : Int) < (l.length : Int) := by omega
   have hLr := Pd.Lay.far (row := some g) (fun b hb e => hb (by simpa using e.symm)) _ HLw.out HGr.out
   obtain ⟨b, off, u, hpp, hbg, hLk, e0, e1, e2, e3, e4, e5, e6⟩ := hLr.kid hlt
   simp only at hpp
   obtain ⟨k, hk⟩ : ∃ k, l[i] = k := ⟨_, rfl⟩
   rw [hk] at hLk
   have HK : Hid (k ∈ l) := (by rw [← hk]; exact List.getElem_mem hlt : k ∈ l)
   have HNX : Hid (l.take (i + 1) = l.take i ++ [k]) := (by rw [List.take_add_one, List.getElem?_eq_getElem hlt, hk]; rfl : l.take (i + 1) = l.take i ++ [k])
   obtain ⟨M, hM, hIM⟩ := HM.out
   have HMs : Hid (M + ((l.take i).map Pd.size).sum = L1) := hM
   have hMl : M ≤ 1000000 := by have := HL1.out; omega
   have hdl : d1 ≤ 1000 := by have := HD1.out; omega
   obtain ⟨w1, hw1⟩ : ∃ w1, wr.alloc (pb u) = w1 := ⟨_, rfl⟩
   have hX1 : Ex wr w1 := by rw [← hw1]; exact (Below.refl _ _).alloc (Nat.le_refl _) _
   have HG1 : Hid (w.grownBy w1 (some g)) := (grown_tr HGr.out (hX1.grownBy _) : w.grownBy w1 (some g))
   have HC : Hid (Calls Try.prog 33 #[pvv u, .int .i64 d1, .pointer (some ⟨g, 0, none⟩)] w1 fun e w' => e = .returned (.bool (Pd.fit k d1 M)) ∧ FitsR k d1 M g w1 w') := HIH.out k HK.out u d1 M g w1 (Pd.Lay.below _ hLk hX1) (hIM.below hX1) hdl hMl
   have HP1 : Hid (PAt w1 wr.heap.size u) := (by rw [← hw1]; exact PAt.new wr u : PAt w1 wr.heap.size u)
   obtain ⟨q0, q1, q2, q3, q4, q5, q6⟩ := HP1.out.all
   subst hpp
   clear hLr hLk hk hIM hM hX1 hbg
   have HFK : Hid (∃ x, Pd.fit k d1 M = x) := (⟨_, rfl⟩ : ∃ x, Pd.fit k d1 M = x)
   go_wp2_with fail
   go_at_call 33
   refine Calls.mono HC.out ?_
   rintro e w2 ⟨rfl, M2, hI2, hM2, hG2⟩
   have HG3 : Hid (w.grownBy w2 (some g)) := (grown_tr HG1.out hG2 : w.grownBy w2 (some g))
   obtain ⟨x, hx⟩ := HFK.out
   rw [hx]
   rw [hx] at hM2
   cases x with
   | true =>
    have hM3 := hM2 rfl
    have hfk : Pd.deep k ≤ d1 ∧ Pd.size k ≤ M := by unfold Pd.fit at hx; simpa using hx
    have HA2 : Hid (∀ c ∈ l.take (i + 1), Pd.deep c ≤ d1) := (by
     intro c hc
     rw [HNX.out] at hc
     rcases List.mem_append.1 hc with hc | hc
     ·exact HA.out c hc
     ·rw [List.mem_singleton] at hc; subst hc; exact hfk.1 : ∀ c ∈ l.take (i + 1), Pd.deep c ≤ d1)
    have HMM : Hid (∃ Q : Nat, Q + ((l.take (i + 1)).map Pd.size).sum = L1 ∧ IAt w2 g Q) := (⟨M2, by
     have h1 := HMs.out
     rw [HNX.out, List.map_append, List.sum_append]
     simp only [List.map_cons, List.map_nil, List.sum_cons, List.sum_nil]
     omega, hI2⟩ : ∃ Q : Nat, Q + ((l.take (i + 1)).map Pd.size).sum = L1 ∧ IAt w2 g Q)
    clear hI2 hM2 hG2 hx hM3 hfk HC
    go_wp2_with fail
    go_roundw
    case rel => exact ⟨i + 1, by omega, by go_num, HA2, HMM, HG3⟩
    case measure => simp [intOf]; omega
   | false =>
    have HFF : Hid (o = false) := (by
     cases o with
     | false => rfl
     | true =>
      exfalso
      obtain ⟨h1, h2, h3⟩ := HFM.out.1 rfl
      have h4 := h2 k HK.out
      have h5 := Pd.sum_take l (i + 1)
      have h6 := HMs.out
      have h7 := HL1.out
      have h8 := HD1.out
      rw [HNX.out, List.map_append, List.sum_append] at h5
      simp only [List.map_cons, List.map_nil, List.sum_cons, List.sum_nil] at h5
      unfold Pd.fit at hx
      simp at hx
      omega : o = false)
    have HI9 : Hid (IAt w2 g M2) := hI2
    clear hI2 hM2 hG2 hx HC
    go_wp2_with fail
    go_ret
    exact ⟨by rw [HFF.out]; rfl, M2, HI9.out, by rw [HO.out, HFF.out]; simp, HG3.out⟩
  ·have hti : ¬ (i : Int) < (l.length : Int) := by omega
   obtain ⟨M, hM, hIM⟩ := HM.out
   have hil : l.take i = l := List.take_of_length_le (by omega)
   have HFT : Hid (o = true ∧ M = L - Pd.size (Pr.mk' h l)) := (by
    have h1 := HA.out
    have h7 := HL1.out
    have h8 := HD1.out
    rw [hil] at h1 hM
    refine ⟨HFM.out.2 ⟨⟨by omega, by omega⟩, fun k hk => ?_, by omega⟩, ?_⟩
    ·have := h1 k hk; omega
    ·rw [Pd.size_mk]; omega : o = true ∧ M = L - Pd.size (Pr.mk' h l))
   have HI9 : Hid (IAt wr g M) := hIM
   clear hM hIM hil
   go_wp2_with fail
   go_ret
   exact ⟨by rw [HFT.out.1]; rfl, M, HI9.out, fun _ => HFT.out.2, HGr.out⟩
set_option maxHeartbeats 1000000 in
set_option maxRecDepth 100000 in
/-- Size. -/
def Pd.sizeB (p : Pr) : Nat := if Pd.fit p 50 5000 = true then Pd.size p else 0
theorem size_is (p : Pr) (v : PV) (w : World) (h : Pd.Lay (fun _ => True) p w v) : Calls Try.prog 64 #[pvv v] w fun e w' => e = .returned (.int .i64 (Pd.sizeB p : Int)) ∧ Ex w w' := by
 obtain ⟨vk, vcol, vn, vm, vs, vset, vkids⟩ := v
 obtain ⟨W, hW⟩ : ∃ W, (w.alloc (pb ⟨vk, vcol, vn, vm, vs, vset, vkids⟩)).alloc (.cells #[.int .i64 5000] 3) = W := ⟨_, rfl⟩
 have hX1 : Ex w (w.alloc (pb ⟨vk, vcol, vn, vm, vs, vset, vkids⟩)) := (Below.refl _ _).alloc (Nat.le_refl _) _
 have hXW : Ex w W := by rw [← hW]; exact Below.alloc hX1 (by simp) _
 have hsz : (w.alloc (pb ⟨vk, vcol, vn, vm, vs, vset, vkids⟩)).heap.size = w.heap.size + 1 := by simp
 have HIW : Hid (IAt W (w.heap.size + 1) 5000) := (by rw [← hW, ← hsz]; exact IAt.new _ _ : IAt W (w.heap.size + 1) 5000)
 have HXW : Hid (Ex w W) := hXW
 have HP : Hid (PAt W w.heap.size ⟨vk, vcol, vn, vm, vs, vset, vkids⟩) := (by rw [← hW]; exact (PAt.new w _).alloc _ : PAt W w.heap.size _)
 have HC : Hid (Calls Try.prog 33 #[pvv ⟨vk, vcol, vn, vm, vs, vset, vkids⟩, .int .i64 (50 : Nat), .pointer (some ⟨w.heap.size + 1, 0, none⟩)] W fun e w' => e = .returned (.bool (Pd.fit p 50 5000)) ∧ FitsR p 50 5000 (w.heap.size + 1) W w') :=
  fits_is p _ 50 5000 (w.heap.size + 1) W (Pd.Lay.mono (fun b hb => by have := hb.2; omega) _ (Pd.Lay.below _ h.lt hXW)) HIW.out (by omega) (by omega)
 obtain ⟨p0, p1, p2, p3, p4, p5, p6⟩ := HP.out.all
 have i0 := HIW.out.cell
 have i1 := HIW.out.frozen
 obtain ⟨x, hx⟩ : ∃ x, Pd.fit p 50 5000 = x := ⟨_, rfl⟩
 have HFX : Hid (Pd.fit p 50 5000 = x) := hx
 clear h hX1 hXW hsz hx
 unfold pvv
 simp only [sv]
 go_enter Try.func64, Try.ntmps64
 go_wp2_with fail
 go_at_call 33
 refine Calls.mono HC.out ?_
 rintro e w2 ⟨rfl, M, hIM, hM, hG⟩
 rw [HFX.out] at hM ⊢
 have HX2 : Hid (Ex w w2) := (Below.grown HXW.out hG HXW.out.size (fun k hk => by simp at hk; omega) : Ex w w2)
 cases x with
 | false =>
  have HS : Hid (Pd.sizeB p = 0) := (by unfold Pd.sizeB; rw [HFX.out]; rfl : Pd.sizeB p = 0)
  clear hIM hM hG HC
  go_wp2_with fail
  go_ret
  exact ⟨by rw [HS.out]; rfl, HX2.out⟩
 | true =>
  have hs : Pd.size p ≤ 5000 := by have := HFX.out; unfold Pd.fit at this; simp at this; exact this.2
  have HS : Hid (Pd.sizeB p = Pd.size p) := (by unfold Pd.sizeB; rw [HFX.out]; rfl : Pd.sizeB p = Pd.size p)
  have hMm := hM rfl
  obtain ⟨S, hS⟩ : ∃ S, Pd.size p = S := ⟨_, rfl⟩
  have HS2 : Hid (Pd.size p = S) := hS
  have t9 : (5000 : Int) - (M : Int) = (S : Int) := by omega
  have hM5 : (M : Int) ≤ 5000 := by omega
  have i9 := hIM.cell
  clear hIM hM hG HC hs hMm hS i0 i1
  go_wp2_with fail
  go_ret
  exact ⟨by rw [HS.out, HS2.out]; rfl, HX2.out⟩
theorem size_of {p : Pr} : decide (0 < Pd.sizeB p) = Pd.fit p 50 5000 := by
 unfold Pd.sizeB
 have := Pd.size_pos p
 cases Pd.fit p 50 5000 with
 | true => simp; omega
 | false => simp
set_option maxHeartbeats 1000000 in
set_option maxRecDepth 100000 in
theorem bounded_is (p : Pr) (v : PV) (w : World) (h : Pd.Lay (fun _ => True) p w v) (o : Bool) (ho : Pd.fit p 50 5000 = o) : Calls Try.prog 39 #[pvv v] w fun e w' => e = .returned (.bool o) ∧ Ex w w' := by
 obtain ⟨vk, vcol, vn, vm, vs, vset, vkids⟩ := v
 obtain ⟨W, hW⟩ : ∃ W, w.alloc (pb ⟨vk, vcol, vn, vm, vs, vset, vkids⟩) = W := ⟨_, rfl⟩
 have hXW : Ex w W := by rw [← hW]; exact (Below.refl _ _).alloc (Nat.le_refl _) _
 have HXW : Hid (Ex w W) := hXW
 have HP : Hid (PAt W w.heap.size ⟨vk, vcol, vn, vm, vs, vset, vkids⟩) := (by rw [← hW]; exact PAt.new w _ : PAt W w.heap.size _)
 have HC : Hid (Calls Try.prog 64 #[pvv ⟨vk, vcol, vn, vm, vs, vset, vkids⟩] W fun e w' => e = .returned (.int .i64 (Pd.sizeB p : Int)) ∧ Ex W w') := size_is p _ W (Pd.Lay.below _ h hXW)
 obtain ⟨p0, p1, p2, p3, p4, p5, p6⟩ := HP.out.all
 obtain ⟨S, hS⟩ : ∃ S, Pd.sizeB p = S := ⟨_, rfl⟩
 have hd : decide (0 < S) = o := by rw [← hS, size_of, ho]
 have hd2 : decide ((0 : Int) < (S : Int)) = o := by rw [← hd]; congr 1; exact propext (by omega)
 rw [hS] at HC
 clear h hXW ho hS
 unfold pvv
 simp only [sv]
 go_enter Try.func39, Try.ntmps39
 go_wp2_with fail
 go_at_call 64
 refine Calls.mono HC.out ?_
 rintro e w2 ⟨rfl, hx⟩
 have HX2 : Hid (Ex w w2) := (HXW.out.trans hx : Ex w w2)
 clear hx HC
 go_wp2_with fail
 go_ret
 exact ⟨rfl, HX2.out⟩
end Go.Proofs.Ytibnhjfeepdddaa
