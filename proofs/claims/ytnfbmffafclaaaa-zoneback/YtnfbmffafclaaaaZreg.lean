/-
  Zones in a region whose order is open: loaded whole, held against one another, handed to 'in'.
-/
import Derived.Test.YtnfbmffafclaaaaZres
import Derived.Test.YtnfbmffafclaaaaZstep
namespace Go.Proofs.Ytnfbmffafclaaaa
open Go.RowKit
set_option linter.unusedVariables false
set_option linter.unusedSimpArgs false
set_option maxHeartbeats 1000000 in
theorem loadI_zone {w9 : World} {g : Nat} {z : Zn} (h : ZAt w9 g z 23) : (Instr.loadAt 23 (.pointer (some ⟨g, 0, none⟩))).run Try.prog w9 = .ok (zv z) w9 := by
  obtain ⟨c0, c1, c2, c3, c4, c5, c6⟩ := h.all
  clear h
  simp [go_sem, zv, c0, c1, c2, c3, c4, c5, c6]
set_option maxHeartbeats 1000000 in
theorem eql_zone (z : Zn) (w : World) : (binOp .eql 31 (zv z) (zv z)).run Try.prog w = .ok (.bool true) w := by
  simp [go_sem, zv]
set_option maxHeartbeats 1000000 in
theorem neq_zone (z : Zn) (w : World) : (binOp .neq 31 (zv z) (zv z)).run Try.prog w = .ok (.bool false) w := by
  simp [go_sem, zv]
set_option maxHeartbeats 1000000 in
theorem guard_zone (op : BinOp) (x y : Operand) (a b : Zn) (w : World) : (eqGuard op 31 x y (zv a) (zv b)).run Try.prog w = .ok () w := by
  cases op <;> simp [eqGuard, go_sem, zv]
theorem ex_row {f : FuncId} {args : Array Value} {wx w1 : World} {v : Value} (h : Calls Try.prog f args wx fun e w' => e = .returned v ∧ Ex wx w') (hC : Ex w1 wx) :
    Calls Try.prog f args wx (fun e w' => ∃ u, e = .returned u ∧ Rg.Spec.ok (.inl v) u w' ∧ Ex wx w' ∧ Ex w1 w') :=
  h.mono fun e w' ⟨h1, h2⟩ => ⟨v, h1, rfl, h2, hC.trans h2⟩
set_option maxHeartbeats 1000000 in
theorem rloadI_zone {w9 : World} {g : Nat} {z : Zn} (h : ZAt w9 g z 31) : (Instr.loadAt 31 (.pointer (some ⟨g, 0, none⟩))).run Try.prog w9 = .ok (zv z) w9 := by
  obtain ⟨c0, c1, c2, c3, c4, c5, c6⟩ := h.all
  clear h
  simp [go_sem, zv, c0, c1, c2, c3, c4, c5, c6]
namespace Rg
theorem good_extract {P : Program} {ops : Array Oper} {specs : List Spec} {a0 : Act} {C : World → Prop} {E : World → World → Prop} {o : Oper} {x : Operand} {k : Nat} {vx v : Value} (hrefl : ∀ w, E w w) (ho : o.op = .extract x k) (hg : guardV ops specs a0 o = some true)
    (hx : argS ops specs a0 x = .inl vx) (h : ∀ w, (Instr.extract vx k).run P w = .ok v w) : GoodOp P ops specs a0 C E o (.inl v) :=
  good_val hrefl hg fun a w hC hh => by
    have h1 := hh x (by rw [ho]; simp [Op.operands])
    rw [hx] at h1
    simp only [Spec.ok] at h1
    refine ⟨v, ?_, rfl⟩
    unfold execOp
    rw [ho]
    simp only [h1, Sem.run_bind, Result.andThen, h w, Sem.run_pure]
end Rg
/-- The places of zones, one behind the other. -/
def zcs (l : List Zn) : List Value := l.flatMap zc
theorem zcs_cons (z : Zn) (l : List Zn) : zcs (z :: l) = zc z ++ zcs l := rfl
theorem zcs_get : ∀ (l : List Zn) (i j : Nat) (z : Zn), l[i]? = some z → j < 7 → (zcs l)[i * 7 + j]? = (zc z)[j]?
  | [], i, j, z, h, _ => by simp at h
  | d :: l, 0, j, z, h, hj => by
    simp at h
    subst h
    rw [zcs_cons, List.getElem?_append_left (by show _ < 7; omega), Nat.zero_mul, Nat.zero_add]
  | d :: l, i + 1, j, z, h, hj => by
    simp at h
    rw [zcs_cons, List.getElem?_append_right (by show 7 ≤ _; omega), ← zcs_get l i j z h hj]
    show _ = _
    congr 1
    show (i + 1) * 7 + j - 7 = _
    omega
/-- Zones in a block. -/
def ZsAt (w : World) (g : Nat) (l : List Zn) : Prop := w.heap[g]? = some (.cells (zcs l).toArray 23 (0, 0))
theorem ZsAt.below {w w' : World} {g : Nat} {l : List Zn} (h : ZsAt w g l) (hb : Below w.heap.size w w') : ZsAt w' g l := by
  unfold ZsAt; rw [hb.block g (Array.getElem?_eq_some_iff.1 h).1]; exact h
theorem ZsAt.cells {w : World} {g : Nat} {l : List Zn} (h : ZsAt w g l) {i : Nat} {z : Zn} (hi : l[i]? = some z) : w.cell? ⟨g, i * 7, none⟩ = some (.int .i64 z.k) ∧ w.cell? ⟨g, i * 7 + 1, none⟩ = some (.int .i64 z.r) ∧ w.cell? ⟨g, i * 7 + 2, none⟩ = some (.int .i64 z.u) ∧ w.cell? ⟨g, i * 7 + 3, none⟩ = some (.int .i64 z.mn) ∧ w.cell? ⟨g, i * 7 + 4, none⟩ = some (.int .i64 z.mx) ∧ w.cell? ⟨g, i * 7 + 5, none⟩ = some (.string (str z.ms)) ∧ w.cell? ⟨g, i * 7 + 6, none⟩ = some (.string (str z.xs)) := by
  have key : ∀ j, j < 7 → w.cell? ⟨g, i * 7 + j, none⟩ = (zc z)[j]? := fun j hj => by
    rw [cell_of_row w g _ _ 23 (0, 0) h, List.getElem?_toArray, zcs_get l i j z hi hj]
  exact ⟨key 0 (by omega), key 1 (by omega), key 2 (by omega), key 3 (by omega), key 4 (by omega), key 5 (by omega), key 6 (by omega)⟩
end Go.Proofs.Ytnfbmffafclaaaa
