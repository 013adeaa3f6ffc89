/-
  Taken out of another text of mine: Kcel.
-/
import Derived.Test.YtnmonoafjijfhaaGreatM31
import Derived.Test.YtnmonoafjijfhaaGreatM02
import Derived.Test.YtnmonoafjijfhaaGreatM05
import Derived.Deep.DeepCutAuto
import Derived.Deep.Light
namespace Go.Proofs.YtnmonoafjijfhaaGreat
open Go.RowKit
set_option linter.unusedVariables false
set_option linter.unusedSimpArgs false
set_option maxHeartbeats 1000000 in
theorem loadI_cell {w9 : World} {b off : Nat} {c : Ce} (c0 : w9.cell? ⟨b, off, none⟩ = some (.string (str c.col))) (c1 : w9.cell? ⟨b, off + 1, none⟩ = some (.int .i64 c.k)) (c2 : w9.cell? ⟨b, off + 2, none⟩ = some (.int .i64 c.n)) (c3 : w9.cell? ⟨b, off + 3, none⟩ = some (.string (str c.s))) :
    (Instr.loadAt 28 (.pointer (some ⟨b, off, none⟩))).run Tryz.prog w9 = .ok (cv c) w9 := by
  simp [go_sem, cv, c0, c1, c2, c3]
set_option maxHeartbeats 1000000 in
theorem loadI_row {w9 : World} {b off : Nat} {t q : Int} {p : Option Addr} {n c : Nat} (c0 : w9.cell? ⟨b, off, none⟩ = some (.int .i64 t)) (c1 : w9.cell? ⟨b, off + 1, none⟩ = some (.int .i64 q)) (c2 : w9.cell? ⟨b, off + 2, none⟩ = some (.slice p n c)) :
    (Instr.loadAt 59 (.pointer (some ⟨b, off, none⟩))).run Tryz.prog w9 = .ok (rvv ⟨t, q, p, n, c⟩) w9 := by
  simp [go_sem, rvv, sv, c0, c1, c2]
theorem Ce.ext' {a b : Ce} (h1 : a.col = b.col) (h2 : a.k = b.k) (h3 : a.n = b.n) (h4 : a.s = b.s) : a = b := by cases a; cases b; simp_all
theorem Rw.ext' {a b : Rw} (h1 : a.t = b.t) (h2 : a.q = b.q) (h3 : a.c = b.c) : a = b := by cases a; cases b; simp_all
set_option maxHeartbeats 1000000 in
theorem guard_cell (op : BinOp) (x y : Operand) (a b : Ce) (w : World) : (eqGuard op 28 x y (cv a) (cv b)).run Tryz.prog w = .ok () w := by
  cases op <;> simp [eqGuard, go_sem, cv]
set_option maxHeartbeats 1000000 in
theorem neq_cell (c d : Ce) (r : Bool) (hr : r = true ↔ ¬ c = d) (w : World) : (binOp .neq 28 (cv c) (cv d)).run Tryz.prog w = .ok (.bool r) w := by
  simp [go_sem, cv]
  simp only [str_toList]
  by_cases h : c = d
  · subst h
    have h1 : r = false := by cases r with | false => rfl | true => exact absurd rfl (hr.1 rfl)
    subst h1
    simp
  · have h1 : r = true := by exact hr.2 h
    subst h1
    by_cases q1 : c.col = d.col
    · by_cases q2 : c.k = d.k
      · by_cases q3 : c.n = d.n
        · by_cases q4 : c.s = d.s
          · exact absurd (Ce.ext' q1 q2 q3 q4) h
          · simp [q1, q2, q3, q4]
        · simp [q1, q2, q3]
      · simp [q1, q2]
    · simp [q1]
end Go.Proofs.YtnmonoafjijfhaaGreat
