/-
  Taken out of another text of mine: Rcell.
-/
import Derived.Test.YtbdjccmlgdfapaaKrows
namespace Go.Proofs.Ytbdjccmlgdfapaa
open Go.RowKit
set_option linter.unusedVariables false
set_option linter.unusedSimpArgs false
/-- A cell in a block. -/
def EAt (w : World) (g : Nat) (c : Ce) : Prop := w.heap[g]? = some (.cells (cc c).toArray 50 (0, 0))
theorem EAt.lt {w : World} {g : Nat} {c : Ce} (h : EAt w g c) : g < w.heap.size := (Array.getElem?_eq_some_iff.1 h).1
theorem EAt.below {w w' : World} {g : Nat} {c : Ce} (h : EAt w g c) (hb : Below w.heap.size w w') : EAt w' g c := by
  unfold EAt; rw [hb.block g h.lt]; exact h
theorem EAt.alloc {w : World} {g : Nat} {c : Ce} (h : EAt w g c) (o : Obj) : EAt (w.alloc o) g c := h.below ((Below.refl _ _).alloc (Nat.le_refl _) _)
theorem EAt.new (w : World) (c : Ce) : EAt (w.alloc (cb c)) w.heap.size c := heap_alloc_new w _
theorem EAt.newat (w : World) (g : Nat) (c : Ce) (hg : g = w.heap.size) : EAt (w.alloc (cb c)) g c := by subst hg; exact EAt.new w c
theorem EAt.cell {w : World} {g : Nat} {c : Ce} (h : EAt w g c) (k : Nat) : w.cell? ⟨g, k, none⟩ = (cc c)[k]? := by
  rw [cell_of_row w g k _ 50 (0, 0) h, List.getElem?_toArray]
theorem EAt.all {w : World} {g : Nat} {c : Ce} (h : EAt w g c) : w.cell? ⟨g, 0, none⟩ = some (.string (str c.col)) ∧ w.cell? ⟨g, 1, none⟩ = some (.int .i64 c.k) ∧ w.cell? ⟨g, 2, none⟩ = some (.int .i64 c.n) ∧ w.cell? ⟨g, 3, none⟩ = some (.string (str c.s)) := ⟨h.cell 0, h.cell 1, h.cell 2, h.cell 3⟩
theorem EAt.frozen {w : World} {g : Nat} {c : Ce} (h : EAt w g c) (k : Nat) : w.frozen? ⟨g, k, none⟩ = false := frozen_of_row _ _ _ _ _ h
theorem EAt.fro {w : World} {g : Nat} {c : Ce} (h : EAt w g c) : w.frozen? ⟨g, 0, none⟩ = false ∧ w.frozen? ⟨g, 1, none⟩ = false ∧ w.frozen? ⟨g, 2, none⟩ = false ∧ w.frozen? ⟨g, 3, none⟩ = false := ⟨h.frozen 0, h.frozen 1, h.frozen 2, h.frozen 3⟩
theorem EAt.set {w : World} {g k : Nat} {c c' : Ce} {u : Value} (h : EAt w g c) (hz : (cc c).set k u = cc c') : EAt (w.setCell ⟨g, k, none⟩ u) g c' := by
  unfold EAt
  rw [heap_setCell_same w g k _ 50 _ h, List.setIfInBounds_toArray, hz]
theorem EAt.other {w : World} {g q k : Nat} {c : Ce} {u : Value} (h : EAt w g c) (hne : g ≠ q) : EAt (w.setCell ⟨q, k, none⟩ u) g c := by
  unfold EAt
  rw [heap_setCell_other w _ g u (by simpa using hne)]; exact h
/-- A cell of nothing in a block, as the walk spells it. -/
abbrev ecb0 : Obj := .cells #[.string { data := #[] }, .int .i64 0, .int .i64 0, .string { data := #[] }] 50
abbrev eset (w : World) (g : Nat) (c : Ce) : World := (((w.setCell ⟨g, 0, none⟩ (.string (str c.col))).setCell ⟨g, 1, none⟩ (.int .i64 c.k)).setCell ⟨g, 2, none⟩ (.int .i64 c.n)).setCell ⟨g, 3, none⟩ (.string (str c.s))
theorem EAt.store {w : World} {g : Nat} {c0 : Ce} (h : EAt w g c0) (c : Ce) : EAt (eset w g c) g c :=
  (((h.set (k := 0) (c' := { c0 with col := c.col }) rfl).set (k := 1) (c' := { c0 with col := c.col, k := c.k }) rfl).set (k := 2) (c' := { c0 with col := c.col, k := c.k, n := c.n }) rfl).set (k := 3) rfl
theorem Below.eset {B : Nat} {a w : World} (h : Below B a w) {g : Nat} (hg : B ≤ g) (c : Ce) : Below B a (eset w g c) :=
  Below.setCell (Below.setCell (Below.setCell (Below.setCell h (p := ⟨g, 0, none⟩) hg _) (p := ⟨g, 1, none⟩) hg _) (p := ⟨g, 2, none⟩) hg _) (p := ⟨g, 3, none⟩) hg _
set_option maxHeartbeats 1000000 in
theorem load_cell {w9 : World} {g : Nat} {c : Ce} (h : EAt w9 g c) : (loadVar 50 ⟨g, 0, none⟩).run Try.prog w9 = .ok (cv c) w9 := by
  obtain ⟨c0, c1, c2, c3⟩ := h.all
  clear h
  simp [go_sem, cv, c0, c1, c2, c3]
theorem res_cell {fn : Func} {tmps : Array Value} {w9 : World} {g i : Nat} {c : Ce} (hfn : fn.results = #[ResultVar.cell i 50]) (ht : tmps.getD i undef = .pointer (some ⟨g, 0, none⟩)) (h : EAt w9 g c) : (results fn tmps).run Try.prog w9 = .ok (cv c) w9 := by
  have hl := load_cell h
  have ht' : tmps[i]?.getD undef = .pointer (some ⟨g, 0, none⟩) := by simpa using ht
  simp [results, hfn, ht', asAddr, Sem.run_bind, Result.andThen, hl]
theorem Rw.cell_skip {l m : List Ce} {s : List UInt8} {d : Ce} (h : ∀ e ∈ l, e.col ≠ s) (hd : d.col = s) : Rw.cell (l ++ d :: m) s = d := by
  induction l with
  | nil => simp [Rw.cell, hd]
  | cons x l ih =>
    rw [List.cons_append, Rw.cell, if_neg (h x (by simp))]
    exact ih fun e he => h e (by simp [he])
end Go.Proofs.Ytbdjccmlgdfapaa
