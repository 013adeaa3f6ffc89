/-
  Literals of predicates and of Stats in regions whose order is open, with a variable that is made anywhere and stored into last. What PruneNumbers asks besides.
-/
import Derived.Test.YtibnhjfeepdddaaL01
import Derived.Test.YtibnhjfeepdddaaK02
import Derived.Test.YtibnhjfeepdddaaK01
import Derived.Test.YtibnhjfeepdddaaM23
import Derived.Test.YtibnhjfeepdddaaM48
namespace Go.Proofs.Ytibnhjfeepdddaa
open Go.RowKit
set_option linter.unusedVariables false
set_option linter.unusedSimpArgs false
/-- A list of predicates in a block of its own. -/
def IsBl (us : List PV) (v : Value) (w : World) : Prop := ∃ g, v = .slice (some ⟨g, 0, none⟩) us.length us.length ∧ w.heap[g]? = some (.cells (flat pc us).toArray 40 (0, 0)) ∧ RdW 7 pc w (some ⟨g, 0, none⟩) us.length us
theorem IsBl.stands (us : List PV) : ∀ v w w', IsBl us v w → Ex w w' → IsBl us v w' := by
 rintro v w w' ⟨g, rfl, h1, h2⟩ hx
 exact ⟨g, rfl, by rw [hx.block g (Array.getElem?_eq_some_iff.1 h1).1]; exact h1, h2.below hx⟩
/-- A predicate with such a list of Kids. -/
def IsKd (k : Int) (us : List PV) (v : Value) (w : World) : Prop := ∃ g, v = pvv ⟨k, [], 0, 0, [], (none, 0, 0), some ⟨g, 0, none⟩, us.length, us.length⟩ ∧ w.heap[g]? = some (.cells (flat pc us).toArray 40 (0, 0)) ∧ RdW 7 pc w (some ⟨g, 0, none⟩) us.length us
theorem IsKd.stands (k : Int) (us : List PV) : ∀ v w w', IsKd k us v w → Ex w w' → IsKd k us v w' := by
 rintro v w w' ⟨g, rfl, h1, h2⟩ hx
 exact ⟨g, rfl, by rw [hx.block g (Array.getElem?_eq_some_iff.1 h1).1]; exact h1, h2.below hx⟩
section
variable {ops : Array Oper} {specs : List Rg.Spec} {a0 : Act} {w1 : World} {o : Oper}
theorem good_bl2 {x y : Operand} {u z : PV} (ho : o.op = .buildSlice 22 2 #[(0, x), (1, y)]) (hg : Rg.guardV ops specs a0 o = some true)
  (hx : Rg.argS ops specs a0 x = .inl (pvv u)) (hy : Rg.argS ops specs a0 y = .inl (pvv z)) : Rg.GoodOp Try.prog ops specs a0 (Ex w1) Ex o (.inr (IsBl [u, z])) :=
 Rg.good_of hg fun Q a w hC hh => by
  have h1 := hh x (by rw [ho]; simp [Op.operands])
  have h2 := hh y (by rw [ho]; simp [Op.operands])
  rw [hx] at h1; rw [hy] at h2
  simp only [Rg.Spec.ok] at h1 h2
  have hal : Ex w (w.alloc (.cells (flat pc [u, z]).toArray 40)) := (Below.refl _ _).alloc (Nat.le_refl _) _
  refine Rg.Fr.wp_val (run_pred2 _ w x y u z ho h1 h2) ⟨.slice (some ⟨w.heap.size, 0, none⟩) 2 2, rfl, ?_, hal, hC.trans hal⟩
  exact ⟨w.heap.size, rfl, heap_alloc_new w _, RdW.laid pc_len w [u, z] (by simp)⟩
set_option maxHeartbeats 2000000 in
theorem good_bl4 {x y x3 x4 : Operand} {u z u3 u4 : PV} (ho : o.op = .buildSlice 22 4 #[(0, x), (1, y), (2, x3), (3, x4)]) (hg : Rg.guardV ops specs a0 o = some true)
  (hx : Rg.argS ops specs a0 x = .inl (pvv u)) (hy : Rg.argS ops specs a0 y = .inl (pvv z)) (hx3 : Rg.argS ops specs a0 x3 = .inl (pvv u3)) (hx4 : Rg.argS ops specs a0 x4 = .inl (pvv u4)) : Rg.GoodOp Try.prog ops specs a0 (Ex w1) Ex o (.inr (IsBl [u, z, u3, u4])) :=
 Rg.good_of hg fun Q a w hC hh => by
  have h1 := hh x (by rw [ho]; simp [Op.operands])
  have h2 := hh y (by rw [ho]; simp [Op.operands])
  have h3 := hh x3 (by rw [ho]; simp [Op.operands])
  have h4 := hh x4 (by rw [ho]; simp [Op.operands])
  rw [hx] at h1; rw [hy] at h2; rw [hx3] at h3; rw [hx4] at h4
  simp only [Rg.Spec.ok] at h1 h2 h3 h4
  have hal : Ex w (w.alloc (.cells (flat pc [u, z, u3, u4]).toArray 40)) := (Below.refl _ _).alloc (Nat.le_refl _) _
  have hr : (execOp a.eval o).run Try.prog w = .ok (.value (.slice (some ⟨w.heap.size, 0, none⟩) 4 4)) (w.alloc (.cells (flat pc [u, z, u3, u4]).toArray 40)) := by
   obtain ⟨ρ, hρ⟩ : ∃ ρ, a.eval = ρ := ⟨_, rfl⟩
   rw [hρ] at h1 h2 h3 h4 ⊢
   simp [execOp, ho, h1, h2, h3, h4, go_sem, pvv, sv, flat, pc]
  refine Rg.Fr.wp_val hr ⟨.slice (some ⟨w.heap.size, 0, none⟩) 4 4, rfl, ?_, hal, hC.trans hal⟩
  exact ⟨w.heap.size, rfl, heap_alloc_new w _, RdW.laid pc_len w [u, z, u3, u4] (by simp)⟩
theorem good_kd {x : Operand} {K : Int} {us : List PV} (ho : o.op = .build 40 #[(0, .const (.int .i64 K)), (6, x)]) (hg : Rg.guardV ops specs a0 o = some true)
  (hx : Rg.argS ops specs a0 x = .inr (IsBl us)) : Rg.GoodOp Try.prog ops specs a0 (Ex w1) Ex o (.inr (IsKd K us)) :=
 Rg.good_of hg fun Q a w hC hh => by
  have h1 := hh x (by rw [ho]; simp [Op.operands])
  rw [hx] at h1
  obtain ⟨g, hu, hH, hR⟩ := h1
  exact Rg.Fr.wp_val (run_bk _ w x K _ _ _ ho rfl hu) ⟨_, rfl, ⟨g, rfl, hH, hR⟩, Ex.refl _, hC⟩
end
/-- Behind the store: the variable reads as the predicate. -/
theorem kd_stored {w wx : World} {g g' : Nat} {a b : PV} {p q : Pr} (K : Int) (hx : Ex w wx) (ha : Pd.Lay (fun _ => True) p w a) (hb : Pd.Lay (fun _ => True) q w b) (hH : wx.heap[g']? = some (.cells (flat pc [a, b]).toArray 40 (0, 0))) (hR : RdW 7 pc wx (some ⟨g', 0, none⟩) 2 [a, b]) (hg : w.heap.size ≤ g) (hz : PAt wx g PV.zero) :
  PAt (pset wx g ⟨K, [], 0, 0, [], (none, 0, 0), some ⟨g', 0, none⟩, 2, 2⟩) g ⟨K, [], 0, 0, [], (none, 0, 0), some ⟨g', 0, none⟩, 2, 2⟩ ∧ Pd.Lay (fun _ => True) (Pr.mk' (Pd.hk K) [p, q]) (pset wx g ⟨K, [], 0, 0, [], (none, 0, 0), some ⟨g', 0, none⟩, 2, 2⟩) ⟨K, [], 0, 0, [], (none, 0, 0), some ⟨g', 0, none⟩, 2, 2⟩ ∧ Ex w (pset wx g ⟨K, [], 0, 0, [], (none, 0, 0), some ⟨g', 0, none⟩, 2, 2⟩) := by
 have hne : g ≠ g' := by
  intro e
  subst e
  have h := hz.symm.trans hH
  simp only [Option.some.injEq, Obj.cells.injEq] at h
  have h2 := congrArg Array.size h.1
  simp [pc, flat] at h2
 have hgr := grown_pset wx g ⟨K, [], 0, 0, [], (none, 0, 0), some ⟨g', 0, none⟩, 2, 2⟩
 have hlt : ∀ c, (True ∧ c < w.heap.size) → some g ≠ some c := by
  intro c hc e
  simp only [Option.some.injEq] at e
  have := hc.2
  omega
 refine ⟨hz.store _, ?_, Below.grown hx hgr hx.size (fun c hc => by simp at hc; omega)⟩
 rw [Pd.lay_mk]
 refine ⟨⟨⟨rfl, rfl, rfl, rfl, rfl⟩, rfl, Rd.nil _, fun h0 => by simp at h0⟩, rfl, fun _ _ _ _ => trivial, [a, b], hR.far hgr (fun _ c off e => by simp at e; rw [← e.1]; simpa using hne), ?_⟩
 have h1 := Pd.Lay.mono (C := fun _ => True) (fun _ _ => trivial) p (Pd.Lay.far hlt p (Pd.Lay.below p (Pd.Lay.lt p ha) hx) hgr)
 have h2 := Pd.Lay.mono (C := fun _ => True) (fun _ _ => trivial) q (Pd.Lay.far hlt q (Pd.Lay.below q (Pd.Lay.lt q hb) hx) hgr)
 exact (Pd.Lays.one h1).append (Pd.Lays.one h2)
/-- Two columns' zones in a block of their own. -/
def IsZ2 (c d : List UInt8 × Zn) (v : Value) (w : World) : Prop := ∃ g, v = .slice (some ⟨g, 0, none⟩) 2 2 ∧ (∃ cs, w.heap[g]? = some (.cells cs 28 (0, 0))) ∧ RdZ w (some ⟨g, 0, none⟩) 2 [c, d]
theorem IsZ2.stands (c d : List UInt8 × Zn) : ∀ v w w', IsZ2 c d v w → Ex w w' → IsZ2 c d v w' := by
 rintro v w w' ⟨g, rfl, ⟨cs, h1⟩, h2⟩ hx
 exact ⟨g, rfl, ⟨cs, by rw [hx.block g (Array.getElem?_eq_some_iff.1 h1).1]; exact h1⟩, h2.below hx⟩
def IsG1 (base : Nat) (n : List UInt8) (k : Int) (B : List UInt8) (v : Value) (w : World) : Prop := ∃ (g : Nat) (s : SV), v = .slice (some ⟨g, 0, none⟩) 1 1 ∧ (∃ cs, w.heap[g]? = some (.cells cs 35 (0, 0))) ∧ RdW 3 bc w (some ⟨g, 0, none⟩) 1 [⟨n, k, s⟩] ∧ Own w base (sv s) B
theorem IsG1.stands (base : Nat) (n : List UInt8) (k : Int) (B : List UInt8) : ∀ v w w', IsG1 base n k B v w → Ex w w' → IsG1 base n k B v w' := by
 rintro v w w' ⟨g, s, rfl, ⟨cs, h1⟩, h2, h3⟩ hx
 exact ⟨g, s, rfl, ⟨cs, by rw [hx.block g (Array.getElem?_eq_some_iff.1 h1).1]; exact h1⟩, h2.below hx, owns_later h3 hx⟩
def IsS1 (base : Nat) (r lo hi : Int) (c d : List UInt8 × Zn) (n : List UInt8) (k : Int) (B : List UInt8) (v : Value) (w : World) : Prop := ∃ (gz gb : Nat) (s : SV), v = tvv ⟨r, lo, hi, (some ⟨gz, 0, none⟩, 2, 2), (some ⟨gb, 0, none⟩, 1, 1)⟩ ∧ ((∃ cs, w.heap[gz]? = some (.cells cs 28 (0, 0))) ∧ RdZ w (some ⟨gz, 0, none⟩) 2 [c, d]) ∧ (∃ cs, w.heap[gb]? = some (.cells cs 35 (0, 0))) ∧ RdW 3 bc w (some ⟨gb, 0, none⟩) 1 [⟨n, k, s⟩] ∧ Own w base (sv s) B
theorem IsS1.stands (base : Nat) (r lo hi : Int) (c d : List UInt8 × Zn) (n : List UInt8) (k : Int) (B : List UInt8) : ∀ v w w', IsS1 base r lo hi c d n k B v w → Ex w w' → IsS1 base r lo hi c d n k B v w' := by
 rintro v w w' ⟨gz, gb, s, rfl, ⟨⟨cs, h1⟩, h2⟩, ⟨cs', h3⟩, h4, h5⟩ hx
 exact ⟨gz, gb, s, rfl, ⟨⟨cs, by rw [hx.block gz (Array.getElem?_eq_some_iff.1 h1).1]; exact h1⟩, h2.below hx⟩, ⟨cs', by rw [hx.block gb (Array.getElem?_eq_some_iff.1 h3).1]; exact h3⟩, h4.below hx, owns_later h5 hx⟩
/-- A new variable for Stats. -/
def IsNewT (base : Nat) (v : Value) (w : World) : Prop := ∃ g, v = .pointer (some ⟨g, 0, none⟩) ∧ base ≤ g ∧ TAt w g TV.zero 38
theorem IsNewT.stands (base : Nat) : ∀ v w w', IsNewT base v w → Ex w w' → IsNewT base v w' := by
 rintro v w w' ⟨g, rfl, h0, h1⟩ hx
 exact ⟨g, rfl, h0, h1.below hx⟩
theorem grown_tset (w : World) (g : Nat) (v : TV) : w.grownBy (tset w g v) (some g) :=
 grown_tr (grown_tr (grown_tr (grown_tr (grown_set1 w g 0 _) (grown_set1 _ g 1 _)) (grown_set1 _ g 2 _)) (grown_set1 _ g 3 _)) (grown_set1 _ g 4 _)
section
variable {ops : Array Oper} {specs : List Rg.Spec} {a0 : Act} {w1 : World} {o : Oper}
set_option maxHeartbeats 1000000 in
theorem good_newT (ho : o.op = .alloc 38) (hg : Rg.guardV ops specs a0 o = some true) : Rg.GoodOp Try.prog ops specs a0 (Ex w1) Ex o (.inr (IsNewT w1.heap.size)) :=
 Rg.good_of hg fun Q a w hC hs => by
  have hX : Ex w (w.alloc (tb TV.zero 38)) := (Below.refl _ _).alloc (Nat.le_refl _) _
  have hr : (execOp a.eval o).run Try.prog w = .ok (.value (.pointer (some ⟨w.heap.size, 0, none⟩))) (w.alloc (tb TV.zero 38)) := by
   simp [execOp, ho, go_sem, TV.zero, sv]
  exact Rg.Fr.wp_val hr ⟨_, rfl, ⟨w.heap.size, rfl, hC.size, TAt.new w TV.zero 38⟩, hX, hC.trans hX⟩
set_option maxHeartbeats 1000000 in
theorem good_z2 {x y : Operand} {c d : List UInt8 × Zn} (ho : o.op = .buildSlice 29 2 #[(0, x), (1, y)]) (hg : Rg.guardV ops specs a0 o = some true)
  (hx : Rg.argS ops specs a0 x = .inl (zcw c)) (hy : Rg.argS ops specs a0 y = .inl (zcw d)) : Rg.GoodOp Try.prog ops specs a0 (Ex w1) Ex o (.inr (IsZ2 c d)) :=
 Rg.good_of hg fun Q a w hC hh => by
  have h1 := hh x (by rw [ho]; simp [Op.operands])
  have h2 := hh y (by rw [ho]; simp [Op.operands])
  rw [hx] at h1; rw [hy] at h2
  simp only [Rg.Spec.ok] at h1 h2
  have hal : Ex w (w.alloc (.cells (flat zcc [c, d]).toArray 28)) := (Below.refl _ _).alloc (Nat.le_refl _) _
  have hr : (execOp a.eval o).run Try.prog w = .ok (.value (.slice (some ⟨w.heap.size, 0, none⟩) 2 2)) (w.alloc (.cells (flat zcc [c, d]).toArray 28)) := by
   obtain ⟨ρ, hρ⟩ : ∃ ρ, a.eval = ρ := ⟨_, rfl⟩
   rw [hρ] at h1 h2 ⊢
   simp [execOp, ho, h1, h2, go_sem, zcw, flat, zcc]
  refine Rg.Fr.wp_val hr ⟨.slice (some ⟨w.heap.size, 0, none⟩) 2 2, rfl, ?_, hal, hC.trans hal⟩
  exact ⟨w.heap.size, rfl, ⟨_, heap_alloc_new w _⟩, RdW.laid zcc_len w [c, d] (by simp)⟩
set_option maxHeartbeats 1000000 in
theorem good_st2 {x y : Operand} {s t : List UInt8} (ho : o.op = .buildSlice 26 2 #[(0, x), (1, y)]) (hg : Rg.guardV ops specs a0 o = some true)
  (hx : Rg.argS ops specs a0 x = .inl (.string (str s))) (hy : Rg.argS ops specs a0 y = .inl (.string (str t))) : Rg.GoodOp Try.prog ops specs a0 (Ex w1) Ex o (.inr (IsRd st [s, t])) :=
 Rg.good_of hg fun Q a w hC hh => by
  have h1 := hh x (by rw [ho]; simp [Op.operands])
  have h2 := hh y (by rw [ho]; simp [Op.operands])
  rw [hx] at h1; rw [hy] at h2
  simp only [Rg.Spec.ok] at h1 h2
  have hal : Ex w (w.alloc (.cells #[.string (str s), .string (str t)] 9)) := (Below.refl _ _).alloc (Nat.le_refl _) _
  have hr : (execOp a.eval o).run Try.prog w = .ok (.value (.slice (some ⟨w.heap.size, 0, none⟩) 2 2)) (w.alloc (.cells #[.string (str s), .string (str t)] 9)) := by
   obtain ⟨ρ, hρ⟩ : ∃ ρ, a.eval = ρ := ⟨_, rfl⟩
   rw [hρ] at h1 h2 ⊢
   simp [execOp, ho, h1, h2, go_sem]
  refine Rg.Fr.wp_val hr ⟨.slice (some ⟨w.heap.size, 0, none⟩) 2 2, rfl, ?_, hal, hC.trans hal⟩
  exact ⟨some ⟨w.heap.size, 0, none⟩, 2, rfl, Rd.laid w 9 [s, t] (by simp)⟩
set_option maxHeartbeats 1000000 in
theorem good_fc35 {x y : Operand} {n : List UInt8} {k : Int} {B : List UInt8} {base : Nat} (ho : o.op = .build 35 #[(0, x), (1, y)]) (hg : Rg.guardV ops specs a0 o = some true)
  (h0 : Rg.argS ops specs a0 x = .inl (.string (str n))) (h1 : Rg.argS ops specs a0 y = .inr (IsF base k B)) : Rg.GoodOp Try.prog ops specs a0 (Ex w1) Ex o (.inr (IsFc base n k B)) :=
 Rg.good_val Ex.refl hg fun a w hC hh => by
  have k0 := hh x (by rw [ho]; simp [Op.operands])
  have k1 := hh y (by rw [ho]; simp [Op.operands])
  rw [h0] at k0; rw [h1] at k1
  obtain ⟨s, k1, hs⟩ := k1
  simp only [Rg.Spec.ok] at k0
  refine ⟨bcw ⟨n, k, s⟩, ?_, s, rfl, hs⟩
  obtain ⟨ρ, hρ⟩ : ∃ ρ, a.eval = ρ := ⟨_, rfl⟩
  rw [hρ] at k0 k1 ⊢
  simp [execOp, ho, k0, k1, go_sem, fv, sv, bcw, bc]
set_option maxHeartbeats 1000000 in
theorem good_g1 {x : Operand} {n : List UInt8} {k : Int} {B : List UInt8} {base : Nat} (ho : o.op = .buildSlice 36 1 #[(0, x)]) (hg : Rg.guardV ops specs a0 o = some true)
  (hx : Rg.argS ops specs a0 x = .inr (IsFc base n k B)) : Rg.GoodOp Try.prog ops specs a0 (Ex w1) Ex o (.inr (IsG1 base n k B)) :=
 Rg.good_of hg fun Q a w hC hh => by
  have h1 := hh x (by rw [ho]; simp [Op.operands])
  rw [hx] at h1
  obtain ⟨s, h1, hs⟩ := h1
  have hal : Ex w (w.alloc (.cells (flat bc [⟨n, k, s⟩]).toArray 35)) := (Below.refl _ _).alloc (Nat.le_refl _) _
  have hr : (execOp a.eval o).run Try.prog w = .ok (.value (.slice (some ⟨w.heap.size, 0, none⟩) 1 1)) (w.alloc (.cells (flat bc [⟨n, k, s⟩]).toArray 35)) := by
   obtain ⟨ρ, hρ⟩ : ∃ ρ, a.eval = ρ := ⟨_, rfl⟩
   rw [hρ] at h1 ⊢
   simp [execOp, ho, h1, go_sem, bcw, flat, bc, sv]
  refine Rg.Fr.wp_val hr ⟨.slice (some ⟨w.heap.size, 0, none⟩) 1 1, rfl, ?_, hal, hC.trans hal⟩
  exact ⟨w.heap.size, s, rfl, ⟨_, heap_alloc_new w _⟩, RdW.laid bc_len w [⟨n, k, s⟩] (by simp), owns_later hs hal⟩
set_option maxHeartbeats 1000000 in
theorem good_s1 {x y z : Operand} {r lo hi : Int} {c d : List UInt8 × Zn} {n : List UInt8} {k : Int} {B : List UInt8} {base : Nat} (ho : o.op = .build 38 #[(0, .const (.int .i64 r)), (1, .const (.int .i64 lo)), (2, x), (3, y), (4, z)]) (hg : Rg.guardV ops specs a0 o = some true)
  (hx : Rg.argS ops specs a0 x = .inl (.int .i64 hi)) (hy : Rg.argS ops specs a0 y = .inr (IsZ2 c d)) (hz : Rg.argS ops specs a0 z = .inr (IsG1 base n k B)) : Rg.GoodOp Try.prog ops specs a0 (Ex w1) Ex o (.inr (IsS1 base r lo hi c d n k B)) :=
 Rg.good_val Ex.refl hg fun a w hC hh => by
  have k0 := hh x (by rw [ho]; simp [Op.operands])
  have k1 := hh y (by rw [ho]; simp [Op.operands])
  have k2 := hh z (by rw [ho]; simp [Op.operands])
  have k3 : a.eval (.const (.int .i64 r)) = .int .i64 r := rfl
  have k4 : a.eval (.const (.int .i64 lo)) = .int .i64 lo := rfl
  rw [hx] at k0; rw [hy] at k1; rw [hz] at k2
  obtain ⟨gz, k1, f1⟩ := k1
  obtain ⟨gb, s, k2, f2⟩ := k2
  simp only [Rg.Spec.ok] at k0
  refine ⟨_, ?_, gz, gb, s, rfl, f1, f2⟩
  obtain ⟨ρ, hρ⟩ : ∃ ρ, a.eval = ρ := ⟨_, rfl⟩
  rw [hρ] at k0 k1 k2 k3 k4 ⊢
  simp [execOp, ho, k0, k1, k2, k3, k4, go_sem, tvv, sv]
end
theorem fil_row9 (a : Option Addr) (n cap : Nat) (l : List (List UInt8)) (wx : World) {w1 : World} (hn : n = l.length) (hB : Rd st wx a cap l) (hl : l.length ≤ 500) (hx : ∀ x ∈ l, x.length ≤ 9223372036854775807) (hC : Ex w1 wx) :
  Calls Try.prog 9 #[.slice a n cap] wx (fun e w' => ∃ u, e = .returned u ∧ Rg.Spec.ok (.inr (IsF w1.heap.size (Fl.bits l : Int) (Fl.bytes l))) u w' ∧ Ex wx w' ∧ Ex w1 w') := by
 refine (fil_is a n cap l wx hn hB hl hx).mono ?_
 rintro e w' ⟨v, rfl, hO, hxx⟩
 have hO1 : Own w' w1.heap.size v (Fl.bytes l) := owns_mono hO hC.size
 obtain ⟨a', c', rfl, _⟩ := hO1.byt
 exact ⟨_, rfl, ⟨(a', (Fl.bytes l).length, c'), rfl, hO1⟩, hxx, hC.trans hxx⟩
/-- Behind the store: the variable reads as the Stats. -/
theorem s1_stored {w wx : World} {base g gz gb : Nat} {s : SV} {r lo hi : Int} {c d : List UInt8 × Zn} {n : List UInt8} {k : Int} {B : List UInt8} (hx : Ex w wx) (h1 : (∃ cs, wx.heap[gz]? = some (.cells cs 28 (0, 0))) ∧ RdZ wx (some ⟨gz, 0, none⟩) 2 [c, d]) (h2 : ∃ cs, wx.heap[gb]? = some (.cells cs 35 (0, 0))) (h3 : RdW 3 bc wx (some ⟨gb, 0, none⟩) 1 [⟨n, k, s⟩]) (h4 : Own wx base (sv s) B) (hg : w.heap.size ≤ g) (hz : TAt wx g TV.zero 38) :
  TAt (tset wx g ⟨r, lo, hi, (some ⟨gz, 0, none⟩, 2, 2), (some ⟨gb, 0, none⟩, 1, 1)⟩) g ⟨r, lo, hi, (some ⟨gz, 0, none⟩, 2, 2), (some ⟨gb, 0, none⟩, 1, 1)⟩ 38 ∧ StOk (tset wx g ⟨r, lo, hi, (some ⟨gz, 0, none⟩, 2, 2), (some ⟨gb, 0, none⟩, 1, 1)⟩) ⟨r, lo, hi, (some ⟨gz, 0, none⟩, 2, 2), (some ⟨gb, 0, none⟩, 1, 1)⟩ ⟨r, lo, hi, [c, d], [(n, k, B)]⟩ ∧ Ex w (tset wx g ⟨r, lo, hi, (some ⟨gz, 0, none⟩, 2, 2), (some ⟨gb, 0, none⟩, 1, 1)⟩) := by
 have hgr := grown_tset wx g ⟨r, lo, hi, (some ⟨gz, 0, none⟩, 2, 2), (some ⟨gb, 0, none⟩, 1, 1)⟩
 obtain ⟨⟨cz, hcz⟩, hZ⟩ := h1
 obtain ⟨cb, hcb⟩ := h2
 have hn1 : g ≠ gz := by
  intro e; subst e
  have h := hz.symm.trans hcz
  simp at h
 have hn2 : g ≠ gb := by
  intro e; subst e
  have h := hz.symm.trans hcb
  simp at h
 have hO : Own (tset wx g ⟨r, lo, hi, (some ⟨gz, 0, none⟩, 2, 2), (some ⟨gb, 0, none⟩, 1, 1)⟩) base (sv s) B := by
  refine owns_other h4 hgr ?_
  intro q hq e
  simp only [Option.some.injEq] at e
  subst e
  obtain ⟨_, h5⟩ := h4
  rcases h5 with ⟨e2, _⟩ | ⟨g2, cap, cur, e2, _, hh, _⟩
  ·rw [e2] at hq; simp [Value.ownBlock] at hq
  ·rw [e2] at hq
   simp only [Value.ownBlock, Option.some.injEq] at hq
   subst hq
   have h := hz.symm.trans hh
   simp at h
 refine ⟨hz.store _, ⟨⟨rfl, rfl, rfl⟩, ⟨rfl, hZ.far hgr (fun _ c off e => by simp at e; rw [← e.1]; simpa using hn1)⟩, rfl, [⟨n, k, s⟩], h3.far hgr (fun _ c off e => by simp at e; rw [← e.1]; simpa using hn2), rfl, ?_⟩, Below.grown hx hgr hx.size (fun c hc => by simp at hc; omega)⟩
 intro i v x e1 e2
 cases i with
 | succ i => simp at e1
 | zero =>
  simp only [List.getElem?_cons_zero, Option.some.injEq] at e1 e2
  subst e1; subst e2
  obtain ⟨a', c', es, hB⟩ := hO.byt
  obtain ⟨sa, sn, sc⟩ := s
  simp only [sv, Value.slice.injEq] at es
  obtain ⟨rfl, rfl, rfl⟩ := es
  exact ⟨rfl, rfl, rfl, hB⟩
end Go.Proofs.Ytibnhjfeepdddaa
namespace Go.Proofs.Ytibnhjfeepdddaa
open Go.RowKit
set_option linter.unusedVariables false
set_option linter.unusedSimpArgs false
def IsSx (s : St) (v : Value) (w : World) : Prop := ∃ u, v = tvv u ∧ StOk w u s
theorem IsSx.stands (s : St) : ∀ v w w', IsSx s v w → Ex w w' → IsSx s v w' := by
 rintro v w w' ⟨u, rfl, h⟩ hx
 exact ⟨u, rfl, h.below hx⟩
theorem in_rowx (s : St) {wx w1 : World} (v : TV) (h : StOk wx v s) (h1 : s.zs.length ≤ 1000) (h2 : s.bs.length ≤ 1000) (hC : Ex w1 wx) : Calls Try.prog 12 #[tvv v] wx (fun e w' => ∃ u, e = .returned u ∧ Rg.Spec.ok (.inr (IsSx s)) u w' ∧ Ex wx w' ∧ Ex w1 w') := by
 refine (in_is v s wx h h1 h2).mono ?_
 rintro e w' ⟨u, rfl, hs, hx⟩
 exact ⟨_, rfl, ⟨u, rfl, hs⟩, hx, hC.trans hx⟩
set_option maxHeartbeats 1000000 in
theorem loadI_zone25 {w9 : World} {g : Nat} {z : Zn} (h : ZAt w9 g z 25) : (Instr.loadAt 25 (.pointer (some ⟨g, 0, none⟩))).run Try.prog w9 = .ok (zv z) w9 := by
 obtain ⟨c0, c1, c2, c3, c4, c5, c6⟩ := h.all
 clear h
 simp [go_sem, zv, c0, c1, c2, c3, c4, c5, c6]
/-- 'l[i:i+1]' of predicates. -/
theorem mid22 (b off n cap j : Nat) (hj : j < n) (hn : n ≤ cap) (hc : cap ≤ 9223372036854775807) (w : World) : (Instr.sliceAt 22 (.slice (some ⟨b, off, none⟩) n cap) (some (.int .i64 (j : Int))) (some (.int .i64 ((j : Int) + 1))) none).run Try.prog w = .ok (.slice (some ⟨b, off + j * 7, none⟩) 1 (cap - j)) w := by
 have i0 : (j : Int) ≤ (j : Int) + 1 := by omega
 have i1 : (j : Int) + 1 ≤ (cap : Int) := by omega
 have hne : ¬ cap - j = 0 := by omega
 have hne2 : ¬ cap = j := by omega
 have e1 : ((j : Int) + 1 - (j : Int)).toNat = 1 := by omega
 go_simp
theorem kid_mid {w : World} {b off cap : Nat} {L : List Pr} (h : Pd.RdP w (some ⟨b, off, none⟩) cap L) {i : Nat} (hi : i < L.length) (K : Int) : Pd.Lay (fun _ => True) (Pr.mk' (Pd.hk K) [L[i]]) w ⟨K, [], 0, 0, [], (none, 0, 0), some ⟨b, off + i * 7, none⟩, 1, cap - i⟩ := by
 obtain ⟨vs, hR, hL⟩ := h
 have hiv : i < vs.length := by rw [hL.1]; exact hi
 have h1 := (hR.from i (Nat.le_of_lt hiv)).take 1
 have e : (vs.drop i).take 1 = [vs[i]] := by
  rw [List.drop_eq_getElem_cons hiv]; rfl
 rw [e] at h1
 rw [Pd.lay_mk]
 exact ⟨⟨⟨rfl, rfl, rfl, rfl, rfl⟩, rfl, Rd.nil _, fun h0 => by simp at h0⟩, rfl, fun _ _ _ _ => trivial, [vs[i]], h1, Pd.Lays.one (hL.2 i _ _ (List.getElem?_eq_getElem hiv) (List.getElem?_eq_getElem hi))⟩
/-- The four that are asked of each leaf. -/
def four (p q : Pr) : List Pr := [p, Pr.mk' (Pd.hk 3) [p], Pr.mk' (Pd.hk 1) [p, q], Pr.mk' (Pd.hk 2) [p, Pr.mk' (Pd.hk 3) [p]]]
theorem four_fine {p q : Pr} (hp : Pd.Fine p ∧ Pd.size p ≤ 10) (hq : Pd.Fine q ∧ Pd.size q ≤ 10) : ∀ x ∈ four p q, Pd.Fine x ∧ Pd.size x ≤ 1000000000 := by
 have hn : Pd.Fine (Pr.mk' (Pd.hk 3) [p]) ∧ Pd.size (Pr.mk' (Pd.hk 3) [p]) ≤ 11 := by
  refine ⟨Pd.fine_hk 3 ⟨by decide, by decide⟩ (by simp) (by intro x hx; simp at hx; subst hx; exact hp.1), ?_⟩
  rw [Pd.size_mk]; simp; omega
 intro x hx
 simp only [four, List.mem_cons, List.not_mem_nil, or_false] at hx
 rcases hx with rfl | rfl | rfl | rfl
 ·exact ⟨hp.1, by omega⟩
 ·exact ⟨hn.1, by omega⟩
 ·refine ⟨Pd.fine_hk 1 ⟨by decide, by decide⟩ (by simp) (by intro x hx; simp at hx; rcases hx with rfl | rfl; exact hp.1; exact hq.1), ?_⟩
  rw [Pd.size_mk]; simp; omega
 ·refine ⟨Pd.fine_hk 2 ⟨by decide, by decide⟩ (by simp) (by intro x hx; simp at hx; rcases hx with rfl | rfl; exact hp.1; exact hn.1), ?_⟩
  rw [Pd.size_mk]; simp only [List.map_cons, List.map_nil, List.sum_cons, List.sum_nil]; omega
def nS (n4 : Int) (zs zx : Zn) (sk : List UInt8) : St := ⟨4, 4, n4, [([115], zs), ([120], zx)], [([115], (Fl.bits [[98], sk] : Int), Fl.bytes [[98], sk])]⟩
theorem nS_fine {n4 : Int} {zs zx : Zn} {sk : List UInt8} (h1 : zs.ms.length ≤ 40 ∧ zs.xs.length ≤ 40) (h2 : zx.ms.length ≤ 40 ∧ zx.xs.length ≤ 40) : StFine (nS n4 zs zx sk) := by
 have hm : (40 : Nat) ≤ maxLen := by decide
 constructor
 ·intro x hx
  simp only [nS, List.mem_cons, List.not_mem_nil, or_false] at hx
  rcases hx with rfl | rfl
  ·exact ⟨Nat.le_trans (by simp) hm, Nat.le_trans h1.1 hm, Nat.le_trans h1.2 hm⟩
  ·exact ⟨Nat.le_trans (by simp) hm, Nat.le_trans h2.1 hm, Nat.le_trans h2.2 hm⟩
 ·intro x hx
  simp only [nS, List.mem_cons, List.not_mem_nil, or_false] at hx
  subst hx
  have hb := (Fl.bits_is [[98], sk]).bounds
  have hl := Fl.bytes_len [[98], sk]
  exact ⟨Nat.le_trans (by simp) hm, by simp only; omega, ⟨by simp only; omega, by simp only; omega⟩⟩
def St0n : St := ⟨0, 0, 0, [], []⟩
theorem st0n_ok (w : World) : StOk w TV.zero St0n := ⟨⟨rfl, rfl, rfl⟩, ⟨rfl, RdW.nil w⟩, rfl, RdF.nil w⟩
theorem st0n_fine : StFine St0n := ⟨fun x hx => by simp [St0n] at hx, fun x hx => by simp [St0n] at hx⟩
theorem Pu.judge0n {f : Fg} {p : Pr} (h : Pd.right p = true) : Pu.judge St0n f p = 1 := by unfold Pu.judge; rw [if_pos h]; rfl
def skL : List (List UInt8) := [[98], [98, 97], [98, 98], [99], [99, 99]]
end Go.Proofs.Ytibnhjfeepdddaa
