/-
  The contract of the statements' own 'known': chapter 3's runs hold.
-/
import Derived.Test.YtljfbgnefmikpaaFace
import Derived.Test.YtljfbgnefmikpaaBook
namespace Go.Proofs.Ytljfbgnefmikpaa
open Go.RowKit
set_option linter.unusedVariables false

/-- Numbers that are written out. -/
theorem Rd.laid {α : Type} {enc : α → Value} (w : World) (e : TypeId) (l : List α) (hl : l.length ≤ 1000) : Rd enc (w.alloc (.cells (l.map enc).toArray e)) (some ⟨w.heap.size, 0, none⟩) l.length l :=
  RowAt.rd (e := e) (heap_alloc_new w _) rfl (by omega)
theorem pck_known : B.pck [1, 2, 3] 2 = ([57], 0) := by decide +kernel
theorem pck_four : B.pck [4] 2 = ([], 15) := by decide +kernel

set_option maxRecDepth 100000 in
theorem known_any (w : World) : Calls Try.prog 13 #[] w fun e w' => e = .returned (.bool true) ∧ Ex w w' := by
  go_enter Try.func13, Try.ntmps13
  go_wp2_with fail
  refine (pack_is _ 3 3 [1, 2, 3] 2 _ rfl (Rd.laid w 26 [1, 2, 3] (by simp)) (by decide) (by simp) (by omega) (by omega) [57] 0 pck_known).mono ?_
  rintro e w1 ⟨v1, rfl, hv1, hx1⟩
  have hx1' : Ex w w1 := Ex.trans ((Below.refl _ _).alloc (Nat.le_refl _) _) hx1
  clear hx1
  go_wp2_with fail
  refine (pack_is _ 1 1 [4] 2 _ rfl (Rd.laid w1 26 [4] (by simp)) (by decide) (by simp) (by omega) (by omega) [] 15 pck_four).mono ?_
  rintro e w2 ⟨v2, rfl, hv2, hx2⟩
  have hx2' : Ex w1 w2 := Ex.trans ((Below.refl _ _).alloc (Nat.le_refl _) _) hx2
  have hcv := conv_row (IsByt.stands _ _ _ _ hv1 hx2')
  have hst := str_toList [57]
  clear hx2 hv1 hv2
  go_wp2
  go_ret
  exact ⟨rfl, hx1'.trans hx2'⟩
end Go.Proofs.Ytljfbgnefmikpaa
