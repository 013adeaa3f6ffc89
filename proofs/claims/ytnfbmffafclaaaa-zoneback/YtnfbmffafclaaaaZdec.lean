/-
  What Decode of a zone answers; what stands ready for its walk.
-/
import Derived.Test.YtnfbmffafclaaaaZbase
namespace Go.Proofs.Ytnfbmffafclaaaa
open Go.RowKit
set_option linter.unusedVariables false
namespace Z
def fin (z : Zn) (k : Int) : Zn × Nat × Nat := if right z = true then (z, k.toNat, 0) else (zero, 0, 12)
/-- A bound: a number, a text, where it ends, why not. -/
def it (b : List UInt8) (K : Int) (k : Int) : Nat × List UInt8 × Nat × Nat :=
  if K = 1 then ((M.get b k).1, [], (M.get b k).2.1, (M.get b k).2.2) else (0, (M.getText b k 40).1, (M.getText b k 40).2.1, (M.getText b k 40).2.2)
def dec3 (b : List UInt8) : Nat → Zn → Int → Zn × Nat × Nat
  | 0, z, k => fin z k
  | n + 1, z, k => if z.r ≤ z.u then fin z k else if (it b z.k k).2.2.2 ≠ 0 then (zero, 0, (it b z.k k).2.2.2) else
      dec3 b n (if n = 1 then { z with mn := M.zag (it b z.k k).1, ms := (it b z.k k).2.1 } else { z with mx := M.zag (it b z.k k).1, xs := (it b z.k k).2.1 }) (it b z.k k).2.2.1
def dec2 (b : List UInt8) (L : List Nat) (k : Int) : Zn × Nat × Nat :=
  if (L.getD 0 0 ≠ 1 ∧ L.getD 0 0 ≠ 2) ∨ 1048576 < L.getD 1 0 ∨ L.getD 1 0 < L.getD 2 0 then (zero, 0, 12) else dec3 b 2 ⟨L.getD 0 0, L.getD 1 0, L.getD 2 0, 0, 0, [], []⟩ k
def dec1 (b : List UInt8) : Nat → List Nat → Int → Zn × Nat × Nat
  | 0, L, k => dec2 b L k
  | n + 1, L, k => if (M.get b k).2.2 ≠ 0 then (zero, 0, (M.get b k).2.2) else dec1 b n (L ++ [(M.get b k).1]) (M.get b k).2.1
/-- What Decode answers. -/
def dec (b : List UInt8) (at' : Int) : Zn × Nat × Nat := dec1 b 3 [] at'
theorem dec1_bad {b : List UInt8} {n : Nat} {L : List Nat} {k : Int} (h : (M.get b k).2.2 ≠ 0) : dec1 b (n + 1) L k = (zero, 0, (M.get b k).2.2) := by rw [dec1, if_pos h]
theorem dec1_step {b : List UInt8} {n : Nat} {L : List Nat} {k : Int} (h : (M.get b k).2.2 = 0) : dec1 b (n + 1) L k = dec1 b n (L ++ [(M.get b k).1]) (M.get b k).2.1 := by rw [dec1, if_neg (by simp [h])]
theorem it_text {b : List UInt8} {K k : Int} : (it b K k).2.1.length ≤ 40 := by
  unfold it
  split
  · simp
  · unfold M.getText
    split
    · simp
    · split
      · simp
      · split
        · simp
        · simp; omega
theorem it_num {b : List UInt8} {K k : Int} : (it b K k).1 < 18446744073709551616 := by
  unfold it
  split
  · exact (M.get_all b k).1
  · simp
end Z
/-- Numbers of a row that is filled from its beginning on. -/
theorem fill3 {L : List Nat} {i : Nat} (hi : L.length = i) (h : i < 3) (x : Nat) : (L ++ List.replicate (3 - i) 0).set i x = (L ++ [x]) ++ List.replicate (3 - (i + 1)) 0 := by
  rw [show 3 - i = (3 - (i + 1)) + 1 by omega, List.replicate_succ, List.set_append_right _ _ (by omega), hi, Nat.sub_self, List.set_cons_zero]
  simp
/-- A zone is stored into a block. -/
abbrev zset (w : World) (g : Nat) (z : Zn) : World :=
  ((((((w.setCell ⟨g, 0, none⟩ (.int .i64 z.k)).setCell ⟨g, 1, none⟩ (.int .i64 z.r)).setCell ⟨g, 2, none⟩ (.int .i64 z.u)).setCell ⟨g, 3, none⟩ (.int .i64 z.mn)).setCell ⟨g, 4, none⟩ (.int .i64 z.mx)).setCell ⟨g, 5, none⟩ (.string (str z.ms))).setCell ⟨g, 6, none⟩ (.string (str z.xs))
theorem ZAt.store {w : World} {g : Nat} {z0 : Zn} {t : TypeId} (h : ZAt w g z0 t) (z : Zn) : ZAt (zset w g z) g z t :=
  ((((((h.set (k := 0) (z' := { z0 with k := z.k }) rfl).set (k := 1) (z' := { z0 with k := z.k, r := z.r }) rfl).set (k := 2) (z' := { z0 with k := z.k, r := z.r, u := z.u }) rfl).set (k := 3) (z' := { z0 with k := z.k, r := z.r, u := z.u, mn := z.mn }) rfl).set (k := 4) (z' := { z0 with k := z.k, r := z.r, u := z.u, mn := z.mn, mx := z.mx }) rfl).set (k := 5) (z' := { z0 with k := z.k, r := z.r, u := z.u, mn := z.mn, mx := z.mx, ms := z.ms }) rfl).set (k := 6) (z' := z) rfl
theorem Below.zset {B : Nat} {a w : World} (h : Below B a w) {g : Nat} (hg : B ≤ g) (z : Zn) : Below B a (zset w g z) :=
  Below.setCell (Below.setCell (Below.setCell (Below.setCell (Below.setCell (Below.setCell (Below.setCell h (p := ⟨g, 0, none⟩) hg _) (p := ⟨g, 1, none⟩) hg _) (p := ⟨g, 2, none⟩) hg _) (p := ⟨g, 3, none⟩) hg _) (p := ⟨g, 4, none⟩) hg _) (p := ⟨g, 5, none⟩) hg _) (p := ⟨g, 6, none⟩) hg _
theorem ZAt.fro {w : World} {g : Nat} {z : Zn} {t : TypeId} (h : ZAt w g z t) : w.frozen? ⟨g, 0, none⟩ = false ∧ w.frozen? ⟨g, 1, none⟩ = false ∧ w.frozen? ⟨g, 2, none⟩ = false ∧ w.frozen? ⟨g, 3, none⟩ = false ∧ w.frozen? ⟨g, 4, none⟩ = false ∧ w.frozen? ⟨g, 5, none⟩ = false ∧ w.frozen? ⟨g, 6, none⟩ = false :=
  ⟨h.frozen 0, h.frozen 1, h.frozen 2, h.frozen 3, h.frozen 4, h.frozen 5, h.frozen 6⟩
end Go.Proofs.Ytnfbmffafclaaaa
