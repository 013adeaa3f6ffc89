/-
  A zone that lies in a block of its own: read, written field by field.
-/
import Derived.Test.YtnfbmffafclaaaaCells
namespace Go.Proofs.Ytnfbmffafclaaaa
open Go.RowKit
set_option linter.unusedVariables false
/-- A zone's seven places. -/
def zc (z : Zn) : List Value := [.int .i64 z.k, .int .i64 z.r, .int .i64 z.u, .int .i64 z.mn, .int .i64 z.mx, .string (str z.ms), .string (str z.xs)]
/-- A zone lies in a block. -/
def ZAt (w : World) (g : Nat) (z : Zn) (t : TypeId) : Prop := w.heap[g]? = some (.cells (zc z).toArray t (0, 0))
theorem ZAt.lt {w : World} {g : Nat} {z : Zn} {t : TypeId} (h : ZAt w g z t) : g < w.heap.size := (Array.getElem?_eq_some_iff.1 h).1
theorem ZAt.below {w w' : World} {g : Nat} {z : Zn} {t : TypeId} (h : ZAt w g z t) (hb : Below w.heap.size w w') : ZAt w' g z t := by
  unfold ZAt; rw [hb.block g h.lt]; exact h
theorem ZAt.alloc {w : World} {g : Nat} {z : Zn} {t : TypeId} (h : ZAt w g z t) (o : Obj) : ZAt (w.alloc o) g z t := h.below ((Below.refl _ _).alloc (Nat.le_refl _) _)
theorem ZAt.new (w : World) (z : Zn) (t : TypeId) : ZAt (w.alloc (zb z t)) w.heap.size z t := heap_alloc_new w _
theorem ZAt.cell {w : World} {g : Nat} {z : Zn} {t : TypeId} (h : ZAt w g z t) (k : Nat) : w.cell? ⟨g, k, none⟩ = (zc z)[k]? := by
  rw [cell_of_row w g k _ t (0, 0) h, List.getElem?_toArray]
theorem ZAt.frozen {w : World} {g : Nat} {z : Zn} {t : TypeId} (h : ZAt w g z t) (k : Nat) : w.frozen? ⟨g, k, none⟩ = false := frozen_of_row _ _ _ _ _ h
theorem ZAt.set {w : World} {g k : Nat} {z z' : Zn} {t : TypeId} {v : Value} (h : ZAt w g z t) (hz : (zc z).set k v = zc z') : ZAt (w.setCell ⟨g, k, none⟩ v) g z' t := by
  unfold ZAt
  rw [heap_setCell_same w g k _ t _ h, List.setIfInBounds_toArray, hz]
theorem ZAt.other {w : World} {g q k : Nat} {z : Zn} {t : TypeId} {v : Value} (h : ZAt w g z t) (hne : g ≠ q) : ZAt (w.setCell ⟨q, k, none⟩ v) g z t := by
  unfold ZAt
  rw [heap_setCell_other w _ g v (by simpa using hne)]; exact h
end Go.Proofs.Ytnfbmffafclaaaa
