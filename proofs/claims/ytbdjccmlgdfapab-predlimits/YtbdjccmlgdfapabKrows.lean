/-
  Taken out of another text of mine: Krows.
-/
import Derived.Test.YtbdjccmlgdfapabKcel
namespace Go.Proofs.Ytbdjccmlgdfapab
open Go.RowKit
set_option linter.unusedVariables false
set_option linter.unusedSimpArgs false
theorem ex_row {f : FuncId} {args : Array Value} {wx w1 : World} {v : Value} (h : Calls Try.prog f args wx fun e w' => e = .returned v ∧ Ex wx w') (hC : Ex w1 wx) :
    Calls Try.prog f args wx (fun e w' => ∃ u, e = .returned u ∧ Rg.Spec.ok (.inl v) u w' ∧ Ex wx w' ∧ Ex w1 w') :=
  h.mono fun e w' ⟨h1, h2⟩ => ⟨v, h1, rfl, h2, hC.trans h2⟩
/-- A row in a block. -/
def LAt (w : World) (g : Nat) (v : RV) : Prop := w.heap[g]? = some (.cells (rc v).toArray 46 (0, 0))
theorem LAt.lt {w : World} {g : Nat} {v : RV} (h : LAt w g v) : g < w.heap.size := (Array.getElem?_eq_some_iff.1 h).1
theorem LAt.below {w w' : World} {g : Nat} {v : RV} (h : LAt w g v) (hb : Below w.heap.size w w') : LAt w' g v := by
  unfold LAt; rw [hb.block g h.lt]; exact h
theorem LAt.alloc {w : World} {g : Nat} {v : RV} (h : LAt w g v) (o : Obj) : LAt (w.alloc o) g v := h.below ((Below.refl _ _).alloc (Nat.le_refl _) _)
theorem LAt.new (w : World) (v : RV) : LAt (w.alloc (rb v)) w.heap.size v := heap_alloc_new w _
theorem LAt.newat (w : World) (g : Nat) (v : RV) (hg : g = w.heap.size) : LAt (w.alloc (rb v)) g v := by subst hg; exact LAt.new w v
theorem LAt.cell {w : World} {g : Nat} {v : RV} (h : LAt w g v) (k : Nat) : w.cell? ⟨g, k, none⟩ = (rc v)[k]? := by
  rw [cell_of_row w g k _ 46 (0, 0) h, List.getElem?_toArray]
theorem LAt.all {w : World} {g : Nat} {v : RV} (h : LAt w g v) : w.cell? ⟨g, 0, none⟩ = some (.int .i64 v.t) ∧ w.cell? ⟨g, 1, none⟩ = some (.int .i64 v.q) ∧ w.cell? ⟨g, 2, none⟩ = some (.slice v.s.1 v.s.2.1 v.s.2.2) := ⟨h.cell 0, h.cell 1, h.cell 2⟩
theorem LAt.frozen {w : World} {g : Nat} {v : RV} (h : LAt w g v) (k : Nat) : w.frozen? ⟨g, k, none⟩ = false := frozen_of_row _ _ _ _ _ h
theorem LAt.fro {w : World} {g : Nat} {v : RV} (h : LAt w g v) : w.frozen? ⟨g, 0, none⟩ = false ∧ w.frozen? ⟨g, 1, none⟩ = false ∧ w.frozen? ⟨g, 2, none⟩ = false := ⟨h.frozen 0, h.frozen 1, h.frozen 2⟩
theorem LAt.set {w : World} {g k : Nat} {v v' : RV} {u : Value} (h : LAt w g v) (hz : (rc v).set k u = rc v') : LAt (w.setCell ⟨g, k, none⟩ u) g v' := by
  unfold LAt
  rw [heap_setCell_same w g k _ 46 _ h, List.setIfInBounds_toArray, hz]
theorem LAt.other {w : World} {g q k : Nat} {v : RV} {u : Value} (h : LAt w g v) (hne : g ≠ q) : LAt (w.setCell ⟨q, k, none⟩ u) g v := by
  unfold LAt
  rw [heap_setCell_other w _ g u (by simpa using hne)]; exact h
/-- A row is stored into a block. -/
abbrev lset (w : World) (g : Nat) (v : RV) : World := ((w.setCell ⟨g, 0, none⟩ (.int .i64 v.t)).setCell ⟨g, 1, none⟩ (.int .i64 v.q)).setCell ⟨g, 2, none⟩ (.slice v.s.1 v.s.2.1 v.s.2.2)
theorem LAt.store {w : World} {g : Nat} {v0 : RV} (h : LAt w g v0) (v : RV) : LAt (lset w g v) g v :=
  ((h.set (k := 0) (v' := { v0 with t := v.t }) rfl).set (k := 1) (v' := { v0 with t := v.t, q := v.q }) rfl).set (k := 2) rfl
theorem Below.lset {B : Nat} {a w : World} (h : Below B a w) {g : Nat} (hg : B ≤ g) (v : RV) : Below B a (lset w g v) :=
  Below.setCell (Below.setCell (Below.setCell h (p := ⟨g, 0, none⟩) hg _) (p := ⟨g, 1, none⟩) hg _) (p := ⟨g, 2, none⟩) hg _
theorem LAt.far {w w' : World} {g : Nat} {v : RV} {row : Option Nat} (h : LAt w g v) (hg : w.grownBy w' row) (hne : row ≠ some g) : LAt w' g v := by
  unfold LAt; rw [hg.block g h.lt (Ne.symm hne)]; exact h
set_option maxHeartbeats 1000000 in
theorem load_row {w9 : World} {g : Nat} {v : RV} (h : LAt w9 g v) : (loadVar 46 ⟨g, 0, none⟩).run Try.prog w9 = .ok (rvv v) w9 := by
  obtain ⟨c0, c1, c2⟩ := h.all
  clear h
  simp [go_sem, rvv, sv, c0, c1, c2]
theorem res_row {fn : Func} {tmps : Array Value} {w9 : World} {g i : Nat} {v : RV} (hfn : fn.results = #[ResultVar.cell i 46]) (ht : tmps.getD i undef = .pointer (some ⟨g, 0, none⟩)) (h : LAt w9 g v) : (results fn tmps).run Try.prog w9 = .ok (rvv v) w9 := by
  have hl := load_row h
  have ht' : tmps[i]?.getD undef = .pointer (some ⟨g, 0, none⟩) := by simpa using ht
  simp [results, hfn, ht', asAddr, Sem.run_bind, Result.andThen, hl]
theorem res_row3 {fn : Func} {tmps : Array Value} {w9 : World} {g i j k : Nat} {v : RV} {d e : Value} (hfn : fn.results = #[ResultVar.cell i 46, ResultVar.tmp j, ResultVar.tmp k]) (ht : tmps.getD i undef = .pointer (some ⟨g, 0, none⟩)) (hj : tmps.getD j undef = d) (hk : tmps.getD k undef = e) (h : LAt w9 g v) : (results fn tmps).run Try.prog w9 = .ok (.tuple #[rvv v, d, e]) w9 := by
  have hl := load_row h
  have ht' : tmps[i]?.getD undef = .pointer (some ⟨g, 0, none⟩) := by simpa using ht
  have hj' : tmps[j]?.getD undef = d := by simpa using hj
  have hk' : tmps[k]?.getD undef = e := by simpa using hk
  simp [results, hfn, ht', hj', hk', asAddr, Sem.run_bind, Result.andThen, hl]
end Go.Proofs.Ytbdjccmlgdfapab
