/-
  A zone as a value, and in memory; the law's own 'in'.
-/
import Derived.Test.YtnfbmffafclaaaaZone
import Derived.Test.YtnfbmffafclaaaaKinds
import Derived.Deep.DeepCutAuto
import Derived.Deep.Light
namespace Go.Proofs.Ytnfbmffafclaaaa
open Go.RowKit
set_option linter.unusedVariables false
/-- A zone as a value. -/
def zv (z : Zn) : Value := .agg #[.int .i64 z.k, .int .i64 z.r, .int .i64 z.u, .int .i64 z.mn, .int .i64 z.mx, .string (str z.ms), .string (str z.xs)]
/-- .. in memory. -/
abbrev zb (z : Zn) (t : TypeId) : Obj := .cells #[.int .i64 z.k, .int .i64 z.r, .int .i64 z.u, .int .i64 z.mn, .int .i64 z.mx, .string (str z.ms), .string (str z.xs)] t
theorem Z.right_rows {z : Zn} (h : Z.right z = true) : 0 ≤ z.u ∧ z.u ≤ z.r ∧ z.r ≤ 1048576 := by
  simp only [Z.right, Bool.and_eq_true] at h
  have hs := h.1
  simp [Z.shape] at hs
  omega
theorem le_form (x y : List UInt8) : (Op.bytesLess x y || x == y) = !T.lt y x := by
  rcases T.lt_total x y with h | h | h
  · have h' : Op.bytesLess x y = true := h
    rw [T.lt_asymm h, h']; rfl
  · subst h
    have h' := T.lt_irrefl x
    rw [h']; simp
  · have h' : Op.bytesLess x y = false := T.lt_asymm h
    rw [h, h']
    have hne : ¬ x = y := fun e => T.lt_ne h e.symm
    simp [hne]
set_option maxHeartbeats 4000000 in
set_option maxRecDepth 100000 in
theorem in_is (z : Zn) (w : World) : Calls Try.prog 11 #[zv z] w fun e w' => e = .returned (zv z) ∧ Ex w w' := by
  unfold zv
  go_enter Try.func11, Try.ntmps11
  go_wp2_with fail
  exact bodyPost_ret (v := zv z) (by simp [results, Try.results11, go_sem, zv]) rfl ⟨rfl, ((Below.refl _ _).alloc (Nat.le_refl _) _).alloc (by simp) _⟩
end Go.Proofs.Ytnfbmffafclaaaa
