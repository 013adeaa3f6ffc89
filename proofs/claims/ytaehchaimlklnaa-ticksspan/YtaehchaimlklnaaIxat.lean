/-
  An index as a value, and in a block of its own.
-/
import Derived.Test.YtaehchaimlklnaaTicks
import Derived.Test.YtaehchaimlklnaaKinds
import Derived.Test.YtaehchaimlklnaaTail
namespace Go.Proofs.Ytaehchaimlklnaa
open Go.RowKit
set_option linter.unusedVariables false
set_option linter.unusedSimpArgs false
def xv (r m : Int) (v : Value) : Value := .agg #[.int .i64 r, .int .i64 m, v]
abbrev xb (r m : Int) (v : Value) (t : TypeId) : Obj := .cells #[.int .i64 r, .int .i64 m, v] t
/-- An index lies in a block. -/
def XAt (w : World) (g : Nat) (r m : Int) (v : Value) (t : TypeId) : Prop := w.heap[g]? = some (.cells [.int .i64 r, .int .i64 m, v].toArray t (0, 0))
section
variable {w w' : World} {g : Nat} {r m : Int} {v : Value} {t : TypeId}
theorem XAt.lt (h : XAt w g r m v t) : g < w.heap.size := (Array.getElem?_eq_some_iff.1 h).1
theorem XAt.below (h : XAt w g r m v t) (hb : Ex w w') : XAt w' g r m v t := by unfold XAt; rw [hb.block g h.lt]; exact h
theorem XAt.new (w : World) (r m : Int) (v : Value) (t : TypeId) : XAt (w.alloc (xb r m v t)) w.heap.size r m v t := heap_alloc_new w _
theorem XAt.cell (h : XAt w g r m v t) (j : Nat) : w.cell? ⟨g, j, none⟩ = [.int .i64 r, .int .i64 m, v][j]? := by
  rw [cell_of_row w g j _ t (0, 0) h, List.getElem?_toArray]
theorem XAt.all (h : XAt w g r m v t) : w.cell? ⟨g, 0, none⟩ = some (.int .i64 r) ∧ w.cell? ⟨g, 1, none⟩ = some (.int .i64 m) ∧ w.cell? ⟨g, 2, none⟩ = some v := ⟨h.cell 0, h.cell 1, h.cell 2⟩
theorem XAt.fro (h : XAt w g r m v t) : w.frozen? ⟨g, 0, none⟩ = false ∧ w.frozen? ⟨g, 1, none⟩ = false ∧ w.frozen? ⟨g, 2, none⟩ = false := ⟨frozen_of_row _ _ _ _ _ h, frozen_of_row _ _ _ _ _ h, frozen_of_row _ _ _ _ _ h⟩
theorem XAt.set0 (h : XAt w g r m v t) (x : Int) : XAt (w.setCell ⟨g, 0, none⟩ (.int .i64 x)) g x m v t := by
  unfold XAt; rw [heap_setCell_same w g 0 _ t _ h, List.setIfInBounds_toArray]; rfl
theorem XAt.set1 (h : XAt w g r m v t) (x : Int) : XAt (w.setCell ⟨g, 1, none⟩ (.int .i64 x)) g r x v t := by
  unfold XAt; rw [heap_setCell_same w g 1 _ t _ h, List.setIfInBounds_toArray]; rfl
theorem XAt.set2 (h : XAt w g r m v t) (u : Value) : XAt (w.setCell ⟨g, 2, none⟩ u) g r m u t := by
  unfold XAt; rw [heap_setCell_same w g 2 _ t _ h, List.setIfInBounds_toArray]; rfl
theorem XAt.other (h : XAt w g r m v t) {q j : Nat} {u : Value} (hne : g ≠ q) : XAt (w.setCell ⟨q, j, none⟩ u) g r m v t := by
  unfold XAt; rw [heap_setCell_other w _ g u (by simpa using hne)]; exact h
theorem XAt.put3 (h : XAt w g r m v t) (x y : Int) (u : Value) : XAt (((w.setCell ⟨g, 0, none⟩ (.int .i64 x)).setCell ⟨g, 1, none⟩ (.int .i64 y)).setCell ⟨g, 2, none⟩ u) g x y u t := ((h.set0 x).set1 y).set2 u
end
theorem Below.xset {B : Nat} {a w : World} (h : Below B a w) {g : Nat} (hg : B ≤ g) (x y z : Value) : Below B a (((w.setCell ⟨g, 0, none⟩ x).setCell ⟨g, 1, none⟩ y).setCell ⟨g, 2, none⟩ z) :=
  Below.setCell (Below.setCell (Below.setCell h (p := ⟨g, 0, none⟩) hg _) (p := ⟨g, 1, none⟩) hg _) (p := ⟨g, 2, none⟩) hg _
set_option maxHeartbeats 1000000 in
theorem load_ix {w9 : World} {g n cap : Nat} {r m : Int} {a : Option Addr} {t : TypeId} (ht : t = 24 ∨ t = 28) (h : XAt w9 g r m (.slice a n cap) t) : (loadVar t ⟨g, 0, none⟩).run Try.prog w9 = .ok (xv r m (.slice a n cap)) w9 := by
  obtain ⟨c0, c1, c2⟩ := h.all
  clear h
  rcases ht with rfl | rfl
  · simp [go_sem, xv, c0, c1, c2]
  · simp [go_sem, xv, c0, c1, c2]
set_option maxHeartbeats 1000000 in
theorem load_ixI {w9 : World} {g n cap : Nat} {r m : Int} {a : Option Addr} {t : TypeId} (ht : t = 24 ∨ t = 28) (h : XAt w9 g r m (.slice a n cap) t) : (Instr.loadAt t (.pointer (some ⟨g, 0, none⟩))).run Try.prog w9 = .ok (xv r m (.slice a n cap)) w9 := by
  obtain ⟨c0, c1, c2⟩ := h.all
  clear h
  rcases ht with rfl | rfl
  · simp [go_sem, xv, c0, c1, c2]
  · simp [go_sem, xv, c0, c1, c2]
theorem res_ix2 {fn : Func} {tmps : Array Value} {w9 : World} {g i j n cap : Nat} {r m : Int} {a : Option Addr} {t : TypeId} {d : Value} (ht : t = 24 ∨ t = 28) (hfn : fn.results = #[ResultVar.cell i t, ResultVar.tmp j]) (htm : tmps.getD i undef = .pointer (some ⟨g, 0, none⟩)) (hj : tmps.getD j undef = d) (h : XAt w9 g r m (.slice a n cap) t) : (results fn tmps).run Try.prog w9 = .ok (.tuple #[xv r m (.slice a n cap), d]) w9 := by
  have hl := load_ix ht h
  have ht' : tmps[i]?.getD undef = .pointer (some ⟨g, 0, none⟩) := by simpa using htm
  have hj' : tmps[j]?.getD undef = d := by simpa using hj
  simp [results, hfn, ht', hj', asAddr, Sem.run_bind, Result.andThen, hl]
theorem res_ix3 {fn : Func} {tmps : Array Value} {w9 : World} {g i j l n cap : Nat} {r m : Int} {a : Option Addr} {t : TypeId} {d e : Value} (ht : t = 24 ∨ t = 28) (hfn : fn.results = #[ResultVar.cell i t, ResultVar.tmp j, ResultVar.tmp l]) (htm : tmps.getD i undef = .pointer (some ⟨g, 0, none⟩)) (hj : tmps.getD j undef = d) (hk : tmps.getD l undef = e) (h : XAt w9 g r m (.slice a n cap) t) : (results fn tmps).run Try.prog w9 = .ok (.tuple #[xv r m (.slice a n cap), d, e]) w9 := by
  have hl := load_ix ht h
  have ht' : tmps[i]?.getD undef = .pointer (some ⟨g, 0, none⟩) := by simpa using htm
  have hj' : tmps[j]?.getD undef = d := by simpa using hj
  have hk' : tmps[l]?.getD undef = e := by simpa using hk
  simp [results, hfn, ht', hj', hk', asAddr, Sem.run_bind, Result.andThen, hl]
theorem Rd.at0 {w : World} {a : Option Addr} {cap : Nat} {l : List Int} (h : Rd z64 w a cap l) {k : Nat} (hk : k < l.length) : ∃ b off, a = some ⟨b, off, none⟩ ∧ w.cell? ⟨b, off + k, none⟩ = some (.int .i64 (Tk.at0 l k)) := by
  obtain ⟨b, off, h1, h2⟩ := h.2.2.2 k l[k] (List.getElem?_eq_getElem hk)
  exact ⟨b, off, h1, by rw [h2, Tk.at0_eq hk]⟩
end Go.Proofs.Ytaehchaimlklnaa
