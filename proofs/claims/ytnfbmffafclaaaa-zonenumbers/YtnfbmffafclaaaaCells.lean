/-
  Cells: as values, in memory; a slice that reads as a list of cells (four places each).
-/
import Derived.Test.YtnfbmffafclaaaaZval
namespace Go.Proofs.Ytnfbmffafclaaaa
open Go.RowKit
set_option linter.unusedVariables false
/-- A cell's four places. -/
def cc (c : Cel) : List Value := [.string (str c.col), .int .i64 c.k, .int .i64 c.n, .string (str c.s)]
/-- A cell as a value. -/
def cv (c : Cel) : Value := .agg #[.string (str c.col), .int .i64 c.k, .int .i64 c.n, .string (str c.s)]
/-- .. in memory. -/
abbrev cb (c : Cel) : Obj := .cells #[.string (str c.col), .int .i64 c.k, .int .i64 c.n, .string (str c.s)] 52
/-- A slice reads as the cells l. -/
def RdC (w : World) (a : Option Addr) (cap : Nat) (l : List Cel) : Prop :=
  l.length ≤ cap ∧ cap ≤ maxLen ∧ (a = none → cap = 0) ∧ ∀ i c, l[i]? = some c → ∃ b off, a = some ⟨b, off, none⟩ ∧ w.cell? ⟨b, off + i * 4, none⟩ = some (.string (str c.col)) ∧ w.cell? ⟨b, off + i * 4 + 1, none⟩ = some (.int .i64 c.k) ∧
    w.cell? ⟨b, off + i * 4 + 2, none⟩ = some (.int .i64 c.n) ∧ w.cell? ⟨b, off + i * 4 + 3, none⟩ = some (.string (str c.s))
theorem RdC.nil (w : World) : RdC w none 0 [] := ⟨by simp, by simp [maxLen], fun _ => rfl, fun i x hi => by simp at hi⟩
theorem RdC.below {w w' : World} {a : Option Addr} {cap : Nat} {l : List Cel} (h : RdC w a cap l) (hb : Below w.heap.size w w') : RdC w' a cap l := by
  obtain ⟨h1, h2, h3, h4⟩ := h
  refine ⟨h1, h2, h3, fun i x hi => ?_⟩
  obtain ⟨b, off, rfl, e0, e1, e2, e3⟩ := h4 i x hi
  have hlt := World.block_lt_of_cell? w _ e0
  have key : ∀ o, w'.cell? ⟨b, o, none⟩ = w.cell? ⟨b, o, none⟩ := fun o => hb.cell (p := ⟨b, o, none⟩) hlt
  exact ⟨b, off, rfl, by rw [key]; exact e0, by rw [key]; exact e1, by rw [key]; exact e2, by rw [key]; exact e3⟩
theorem RdC.at {w : World} {a : Option Addr} {cap : Nat} {l : List Cel} (h : RdC w a cap l) {k : Nat} (hk : k < l.length) : ∃ b off, a = some ⟨b, off, none⟩ ∧ w.cell? ⟨b, off + k * 4, none⟩ = some (.string (str l[k].col)) ∧ w.cell? ⟨b, off + k * 4 + 1, none⟩ = some (.int .i64 l[k].k) ∧
    w.cell? ⟨b, off + k * 4 + 2, none⟩ = some (.int .i64 l[k].n) ∧ w.cell? ⟨b, off + k * 4 + 3, none⟩ = some (.string (str l[k].s)) :=
  h.2.2.2 k _ (List.getElem?_eq_getElem hk)
theorem RdC.take {w : World} {a : Option Addr} {cap : Nat} {l : List Cel} (h : RdC w a cap l) (k : Nat) : RdC w a cap (l.take k) := by
  obtain ⟨h1, h2, h3, h4⟩ := h
  refine ⟨by simp; omega, h2, h3, fun i x hi => ?_⟩
  rw [List.getElem?_take] at hi
  split at hi
  · exact h4 i x hi
  · cases hi
theorem RdC.from {w : World} {b off cap : Nat} {l : List Cel} (h : RdC w (some ⟨b, off, none⟩) cap l) (k : Nat) (hk : k ≤ l.length) : RdC w (some ⟨b, off + k * 4, none⟩) (cap - k) (l.drop k) := by
  obtain ⟨h1, h2, h3, h4⟩ := h
  refine ⟨by simp; omega, by omega, by simp, fun i x hi => ?_⟩
  rw [List.getElem?_drop] at hi
  obtain ⟨b', off', e, e0, e1, e2, e3⟩ := h4 (k + i) x hi
  simp only [Option.some.injEq, Addr.mk.injEq, and_true] at e
  obtain ⟨rfl, rfl⟩ := e
  have he : off + k * 4 + i * 4 = off + (k + i) * 4 := by omega
  exact ⟨b, off + k * 4, rfl, by rw [he]; exact e0, by rw [he]; exact e1, by rw [he]; exact e2, by rw [he]; exact e3⟩
end Go.Proofs.Ytnfbmffafclaaaa
