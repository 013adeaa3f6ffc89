/-
  Filters that are written out, made and laid in a row: each as one step of a region whose order is open.
-/
import Derived.Test.YtadcbefgleiijaaFback
namespace Go.Proofs.Ytadcbefgleiijaa
open Go.RowKit
set_option linter.unusedVariables false
set_option linter.unusedSimpArgs false
/-- n bytes, whatever they are. -/
def IsBytN (n : Nat) (v : Value) (w : World) : Prop := ∃ a c l, v = .slice a n c ∧ List.length l = n ∧ Byt w a c l
/-- A filter, whatever it holds. -/
def IsFil (v : Value) (w : World) : Prop := ∃ k a c l, v = fv k (.slice a (List.length l) c) ∧ Byt w a c l ∧ l.length ≤ 16384 ∧ Fl.I6 k
/-- Filters in a row. -/
def RowF (m : Nat) (g : Nat) (w : World) : Prop := ∀ j, j < m → ∃ (kx : Int) (ax : Option Addr) (cx : Nat) (lx : List UInt8), w.cell? ⟨g, j * 2, none⟩ = some (.int .i64 kx) ∧ w.cell? ⟨g, j * 2 + 1, none⟩ = some (.slice ax lx.length cx) ∧ Byt w ax cx lx ∧ lx.length ≤ 16384 ∧ Fl.I6 kx
def IsRowF (v : Value) (w : World) : Prop := ∃ g, v = .slice (some ⟨g, 0, none⟩) 8 8 ∧ RowF 8 g w
theorem IsBytN.stands (n : Nat) : ∀ v w w', IsBytN n v w → Ex w w' → IsBytN n v w' := by
  rintro v w w' ⟨a, c, l, h1, h2, h3⟩ hx
  exact ⟨a, c, l, h1, h2, h3.below hx⟩
theorem IsFil.stands : ∀ v w w', IsFil v w → Ex w w' → IsFil v w' := by
  rintro v w w' ⟨k, a, c, l, h1, h2, h3⟩ hx
  exact ⟨k, a, c, l, h1, h2.below hx, h3⟩
theorem RowF.below {m g : Nat} {w w' : World} (h : RowF m g w) (hx : Ex w w') : RowF m g w' := fun j hj => by
  obtain ⟨k, a, c, l, h1, h2, h3, h4⟩ := h j hj
  exact ⟨k, a, c, l, cell_ex h1 hx, cell_ex h2 hx, h3.below hx, h4⟩
theorem IsRowF.stands : ∀ v w w', IsRowF v w → Ex w w' → IsRowF v w' := by
  rintro v w w' ⟨g, h1, h2⟩ hx
  exact ⟨g, h1, h2.below hx⟩
theorem run_fil0 {o : Oper} (ρ : Operand → Value) (w : World) (h : o.op = .build 25 #[]) : (execOp ρ o).run Try.prog w = .ok (.value (fv 0 (.slice none 0 0))) w := by
  simp [execOp, h, fv, go_sem]
theorem run_fil1 {o : Oper} (ρ : Operand → Value) (w : World) (x : Operand) (k : Int) (h : o.op = .build 25 #[(0, x)]) (hx : ρ x = .int .i64 k) : (execOp ρ o).run Try.prog w = .ok (.value (fv k (.slice none 0 0))) w := by
  simp [execOp, h, hx, fv, go_sem]
theorem run_fil2 {o : Oper} (ρ : Operand → Value) (w : World) (x y : Operand) (k : Int) (a : Option Addr) (n c : Nat) (h : o.op = .build 25 #[(0, x), (1, y)]) (hx : ρ x = .int .i64 k) (hy : ρ y = .slice a n c) : (execOp ρ o).run Try.prog w = .ok (.value (fv k (.slice a n c))) w := by
  simp [execOp, h, hx, hy, fv, go_sem]
theorem run_mk {o : Oper} (ρ : Operand → Value) (w : World) (x : Operand) (n : Nat) (hn : n ≤ 1000000) (h : o.op = .makeSlice 23 x x) (hx : ρ x = .int .i64 n) :
    ∃ w', (execOp ρ o).run Try.prog w = .ok (.value (.slice (some ⟨w.heap.size, 0, none⟩) n n)) w' ∧ RowAt ub 5 w' w.heap.size (List.replicate n 0) ∧ Ex w w' := by
  obtain ⟨i0, hi, hz0, hz1, hz2⟩ := info_parts Try.info5
  have hrun := run_make (P := Try.prog) w 23 5 i0 (.int .u8 0) Try.underlying23 hi hz0 .i64 .i64 (n : Int) (n : Int) (by omega) (by omega) (by rw [hz2]; omega) (by omega)
  simp only [Int.toNat_natCast] at hrun
  refine ⟨w.alloc (Obj.cells (madeCells (Value.int IntKind.u8 0).cells (n * i0.size)) 5), by simp [execOp, h, hx, hrun, Result.andThen], ?_, (Below.refl _ _).alloc (Nat.le_refl _) _⟩
  unfold RowAt
  rw [hz1, heap_alloc_new, Nat.mul_one]
  have e : (madeCells (Value.int .u8 0).cells n).toList = cs (List.replicate n 0) := by rw [cs_zero]; exact made_zero n
  have e2 : (List.replicate n (0 : UInt8)).map ub = (madeCells (Value.int .u8 0).cells n).toList := by rw [e]; rfl
  rw [e2]
set_option maxHeartbeats 4000000 in
theorem run_row8 {o : Oper} (ρ : Operand → Value) (w : World) (x0 x1 x2 x3 x4 x5 x6 x7 : Operand) (k0 k1 k2 k3 k4 k5 k6 k7 : Int) (a0 a1 a2 a3 a4 a5 a6 a7 : Option Addr) (n0 c0 n1 c1 n2 c2 n3 c3 n4 c4 n5 c5 n6 c6 n7 c7 : Nat) (h : o.op = .buildSlice 29 8 #[(0, x0), (1, x1), (2, x2), (3, x3), (4, x4), (5, x5), (6, x6), (7, x7)]) (h0 : ρ x0 = fv k0 (.slice a0 n0 c0)) (h1 : ρ x1 = fv k1 (.slice a1 n1 c1)) (h2 : ρ x2 = fv k2 (.slice a2 n2 c2)) (h3 : ρ x3 = fv k3 (.slice a3 n3 c3)) (h4 : ρ x4 = fv k4 (.slice a4 n4 c4)) (h5 : ρ x5 = fv k5 (.slice a5 n5 c5)) (h6 : ρ x6 = fv k6 (.slice a6 n6 c6)) (h7 : ρ x7 = fv k7 (.slice a7 n7 c7)) :
    (execOp ρ o).run Try.prog w = .ok (.value (.slice (some ⟨w.heap.size, 0, none⟩) 8 8)) (w.alloc (.cells #[Value.int .i64 k0, Value.slice a0 n0 c0, Value.int .i64 k1, Value.slice a1 n1 c1, Value.int .i64 k2, Value.slice a2 n2 c2, Value.int .i64 k3, Value.slice a3 n3 c3, Value.int .i64 k4, Value.slice a4 n4 c4, Value.int .i64 k5, Value.slice a5 n5 c5, Value.int .i64 k6, Value.slice a6 n6 c6, Value.int .i64 k7, Value.slice a7 n7 c7] 25)) := by
  simp [execOp, h, h0, h1, h2, h3, h4, h5, h6, h7, fv, go_sem]
namespace Rg
section
variable {ops : Array Oper} {specs : List Spec} {a0 : Act} {w1 : World} {o : Oper}
theorem good_fil0 (ho : o.op = .build 25 #[]) (hg : guardV ops specs a0 o = some true) : GoodOp Try.prog ops specs a0 (Ex w1) Ex o (.inr IsFil) :=
  good_of hg fun Q a w hC hs => by
    unfold Oper.wp
    rw [run_fil0 a.eval w ho]
    exact ⟨_, rfl, ⟨0, none, 0, [], rfl, Byt.nil _, by simp, by omega, by omega⟩, Ex.refl _, hC⟩
theorem good_fil1 {k : Int} (ho : o.op = .build 25 #[(0, .const (.int .i64 k))]) (hg : guardV ops specs a0 o = some true) (hk : Fl.I6 k) : GoodOp Try.prog ops specs a0 (Ex w1) Ex o (.inr IsFil) :=
  good_of hg fun Q a w hC hs => by
    unfold Oper.wp
    rw [run_fil1 a.eval w _ k ho rfl]
    exact ⟨_, rfl, ⟨k, none, 0, [], rfl, Byt.nil _, by simp, hk⟩, Ex.refl _, hC⟩
theorem good_fil2 {k : Int} {x : Operand} (n : Nat) (hn : n ≤ 16384) (ho : o.op = .build 25 #[(0, .const (.int .i64 k)), (1, x)]) (hg : guardV ops specs a0 o = some true) (hx : argS ops specs a0 x = .inr (IsBytN n)) (hk : Fl.I6 k) : GoodOp Try.prog ops specs a0 (Ex w1) Ex o (.inr IsFil) :=
  good_of hg fun Q a w hC hs => by
    have h1 := hs x (by rw [ho]; simp [Op.operands])
    rw [hx] at h1
    obtain ⟨a', c', l, h2, h3, h4⟩ := h1
    unfold Oper.wp
    rw [run_fil2 a.eval w _ x k a' n c' ho rfl h2]
    subst h3
    exact ⟨_, rfl, ⟨k, a', c', l, rfl, h4, hn, hk⟩, Ex.refl _, hC⟩
theorem good_mk (n : Nat) (hn : n ≤ 16384) (ho : o.op = .makeSlice 23 (.const (.int .i64 n)) (.const (.int .i64 n))) (hg : guardV ops specs a0 o = some true) : GoodOp Try.prog ops specs a0 (Ex w1) Ex o (.inr (IsBytN n)) :=
  good_of hg fun Q a w hC hs => by
    obtain ⟨w', h1, h2, h3⟩ := run_mk a.eval w (.const (.int .i64 n)) n (by omega) ho rfl
    unfold Oper.wp
    rw [h1]
    refine ⟨_, rfl, ⟨some ⟨w.heap.size, 0, none⟩, n, List.replicate n 0, rfl, by simp, ?_⟩, h3, hC.trans h3⟩
    have h := RowAt.byt (n := n) h2 (by simp) (by omega)
    exact h
set_option maxHeartbeats 4000000 in
theorem good_row8 {x0 x1 x2 x3 x4 x5 x6 x7 : Operand} (ho : o.op = .buildSlice 29 8 #[(0, x0), (1, x1), (2, x2), (3, x3), (4, x4), (5, x5), (6, x6), (7, x7)]) (hg : guardV ops specs a0 o = some true) (g0 : argS ops specs a0 x0 = .inr IsFil) (g1 : argS ops specs a0 x1 = .inr IsFil) (g2 : argS ops specs a0 x2 = .inr IsFil) (g3 : argS ops specs a0 x3 = .inr IsFil) (g4 : argS ops specs a0 x4 = .inr IsFil) (g5 : argS ops specs a0 x5 = .inr IsFil) (g6 : argS ops specs a0 x6 = .inr IsFil) (g7 : argS ops specs a0 x7 = .inr IsFil) : GoodOp Try.prog ops specs a0 (Ex w1) Ex o (.inr IsRowF) :=
  good_of hg fun Q a w hC hs => by
    have q0 := hs x0 (by rw [ho]; simp [Op.operands])
    rw [g0] at q0
    obtain ⟨k0, a0, c0, l0, e0, b0, m0⟩ := q0
    have q1 := hs x1 (by rw [ho]; simp [Op.operands])
    rw [g1] at q1
    obtain ⟨k1, a1, c1, l1, e1, b1, m1⟩ := q1
    have q2 := hs x2 (by rw [ho]; simp [Op.operands])
    rw [g2] at q2
    obtain ⟨k2, a2, c2, l2, e2, b2, m2⟩ := q2
    have q3 := hs x3 (by rw [ho]; simp [Op.operands])
    rw [g3] at q3
    obtain ⟨k3, a3, c3, l3, e3, b3, m3⟩ := q3
    have q4 := hs x4 (by rw [ho]; simp [Op.operands])
    rw [g4] at q4
    obtain ⟨k4, a4, c4, l4, e4, b4, m4⟩ := q4
    have q5 := hs x5 (by rw [ho]; simp [Op.operands])
    rw [g5] at q5
    obtain ⟨k5, a5, c5, l5, e5, b5, m5⟩ := q5
    have q6 := hs x6 (by rw [ho]; simp [Op.operands])
    rw [g6] at q6
    obtain ⟨k6, a6, c6, l6, e6, b6, m6⟩ := q6
    have q7 := hs x7 (by rw [ho]; simp [Op.operands])
    rw [g7] at q7
    obtain ⟨k7, a7, c7, l7, e7, b7, m7⟩ := q7
    have hr := run_row8 a.eval w x0 x1 x2 x3 x4 x5 x6 x7 _ _ _ _ _ _ _ _ _ _ _ _ _ _ _ _ _ _ _ _ _ _ _ _ _ _ _ _ _ _ _ _ ho e0 e1 e2 e3 e4 e5 e6 e7
    have hx := (Below.refl w.heap.size w).alloc (Nat.le_refl _) (.cells #[Value.int .i64 k0, Value.slice a0 l0.length c0, Value.int .i64 k1, Value.slice a1 l1.length c1, Value.int .i64 k2, Value.slice a2 l2.length c2, Value.int .i64 k3, Value.slice a3 l3.length c3, Value.int .i64 k4, Value.slice a4 l4.length c4, Value.int .i64 k5, Value.slice a5 l5.length c5, Value.int .i64 k6, Value.slice a6 l6.length c6, Value.int .i64 k7, Value.slice a7 l7.length c7] 25)
    have hX : Ex w (w.alloc (.cells #[Value.int .i64 k0, Value.slice a0 l0.length c0, Value.int .i64 k1, Value.slice a1 l1.length c1, Value.int .i64 k2, Value.slice a2 l2.length c2, Value.int .i64 k3, Value.slice a3 l3.length c3, Value.int .i64 k4, Value.slice a4 l4.length c4, Value.int .i64 k5, Value.slice a5 l5.length c5, Value.int .i64 k6, Value.slice a6 l6.length c6, Value.int .i64 k7, Value.slice a7 l7.length c7] 25)) := hx
    unfold Oper.wp
    rw [hr]
    have hblk := heap_alloc_new w (.cells [Value.int .i64 k0, Value.slice a0 l0.length c0, Value.int .i64 k1, Value.slice a1 l1.length c1, Value.int .i64 k2, Value.slice a2 l2.length c2, Value.int .i64 k3, Value.slice a3 l3.length c3, Value.int .i64 k4, Value.slice a4 l4.length c4, Value.int .i64 k5, Value.slice a5 l5.length c5, Value.int .i64 k6, Value.slice a6 l6.length c6, Value.int .i64 k7, Value.slice a7 l7.length c7].toArray 25)
    refine ⟨_, rfl, ⟨w.heap.size, rfl, fun j hj => ?_⟩, hX, hC.trans hX⟩
    have hcel : ∀ k, (w.alloc (.cells #[Value.int .i64 k0, Value.slice a0 l0.length c0, Value.int .i64 k1, Value.slice a1 l1.length c1, Value.int .i64 k2, Value.slice a2 l2.length c2, Value.int .i64 k3, Value.slice a3 l3.length c3, Value.int .i64 k4, Value.slice a4 l4.length c4, Value.int .i64 k5, Value.slice a5 l5.length c5, Value.int .i64 k6, Value.slice a6 l6.length c6, Value.int .i64 k7, Value.slice a7 l7.length c7] 25)).cell? ⟨w.heap.size, k, none⟩ = [Value.int .i64 k0, Value.slice a0 l0.length c0, Value.int .i64 k1, Value.slice a1 l1.length c1, Value.int .i64 k2, Value.slice a2 l2.length c2, Value.int .i64 k3, Value.slice a3 l3.length c3, Value.int .i64 k4, Value.slice a4 l4.length c4, Value.int .i64 k5, Value.slice a5 l5.length c5, Value.int .i64 k6, Value.slice a6 l6.length c6, Value.int .i64 k7, Value.slice a7 l7.length c7][k]? := fun k => by
      rw [cell_of_row _ _ k _ 25 (0, 0) hblk, List.getElem?_toArray]
    match j, hj with
    | 0, _ => exact ⟨k0, a0, c0, l0, hcel 0, hcel 1, b0.below hX, m0⟩
    | 1, _ => exact ⟨k1, a1, c1, l1, hcel 2, hcel 3, b1.below hX, m1⟩
    | 2, _ => exact ⟨k2, a2, c2, l2, hcel 4, hcel 5, b2.below hX, m2⟩
    | 3, _ => exact ⟨k3, a3, c3, l3, hcel 6, hcel 7, b3.below hX, m3⟩
    | 4, _ => exact ⟨k4, a4, c4, l4, hcel 8, hcel 9, b4.below hX, m4⟩
    | 5, _ => exact ⟨k5, a5, c5, l5, hcel 10, hcel 11, b5.below hX, m5⟩
    | 6, _ => exact ⟨k6, a6, c6, l6, hcel 12, hcel 13, b6.below hX, m6⟩
    | 7, _ => exact ⟨k7, a7, c7, l7, hcel 14, hcel 15, b7.below hX, m7⟩
end
end Rg
end Go.Proofs.Ytadcbefgleiijaa
