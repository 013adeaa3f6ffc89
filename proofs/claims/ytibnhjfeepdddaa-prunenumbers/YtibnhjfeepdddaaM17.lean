/-
  The books' own At and Rows. Taken out of another text of mine: Rname. Taken out of another text of mine: Rcell. Taken out of another text of mine: Lrow.
-/
import Derived.Test.YtibnhjfeepdddaaM11
import Derived.Test.YtibnhjfeepdddaaM13
import Derived.Test.YtibnhjfeepdddaaM04
import Derived.Deep.DeepCutAuto
import Derived.Deep.Light
namespace Go.Proofs.Ytibnhjfeepdddaa
open Go.RowKit
set_option linter.unusedVariables false
set_option linter.unusedSimpArgs false
/-- A row in a block. -/
def LAt (w : World) (g : Nat) (v : RV) : Prop := w.heap[g]? = some (.cells (rc v).toArray 61 (0, 0))
theorem LAt.lt {w : World} {g : Nat} {v : RV} (h : LAt w g v) : g < w.heap.size := (Array.getElem?_eq_some_iff.1 h).1
theorem LAt.below {w w' : World} {g : Nat} {v : RV} (h : LAt w g v) (hb : Below w.heap.size w w') : LAt w' g v := by
 unfold LAt; rw [hb.block g h.lt]; exact h
theorem LAt.alloc {w : World} {g : Nat} {v : RV} (h : LAt w g v) (o : Obj) : LAt (w.alloc o) g v := h.below ((Below.refl _ _).alloc (Nat.le_refl _) _)
theorem LAt.new (w : World) (v : RV) : LAt (w.alloc (rb v)) w.heap.size v := heap_alloc_new w _
theorem LAt.newat (w : World) (g : Nat) (v : RV) (hg : g = w.heap.size) : LAt (w.alloc (rb v)) g v := by subst hg; exact LAt.new w v
theorem LAt.cell {w : World} {g : Nat} {v : RV} (h : LAt w g v) (k : Nat) : w.cell? ⟨g, k, none⟩ = (rc v)[k]? := by
 rw [cell_of_row w g k _ 61 (0, 0) h, List.getElem?_toArray]
theorem LAt.all {w : World} {g : Nat} {v : RV} (h : LAt w g v) : w.cell? ⟨g, 0, none⟩ = some (.int .i64 v.t) ∧ w.cell? ⟨g, 1, none⟩ = some (.int .i64 v.q) ∧ w.cell? ⟨g, 2, none⟩ = some (.slice v.s.1 v.s.2.1 v.s.2.2) := ⟨h.cell 0, h.cell 1, h.cell 2⟩
theorem LAt.frozen {w : World} {g : Nat} {v : RV} (h : LAt w g v) (k : Nat) : w.frozen? ⟨g, k, none⟩ = false := frozen_of_row _ _ _ _ _ h
theorem LAt.fro {w : World} {g : Nat} {v : RV} (h : LAt w g v) : w.frozen? ⟨g, 0, none⟩ = false ∧ w.frozen? ⟨g, 1, none⟩ = false ∧ w.frozen? ⟨g, 2, none⟩ = false := ⟨h.frozen 0, h.frozen 1, h.frozen 2⟩
theorem LAt.set {w : World} {g k : Nat} {v v' : RV} {u : Value} (h : LAt w g v) (hz : (rc v).set k u = rc v') : LAt (w.setCell ⟨g, k, none⟩ u) g v' := by
 unfold LAt
 rw [heap_setCell_same w g k _ 61 _ h, List.setIfInBounds_toArray, hz]
theorem LAt.other {w : World} {g q k : Nat} {v : RV} {u : Value} (h : LAt w g v) (hne : g ≠ q) : LAt (w.setCell ⟨q, k, none⟩ u) g v := by
 unfold LAt
 rw [heap_setCell_other w _ g u (by simpa using hne)]; exact h
/-- A row is stored into a block. -/
abbrev lset (w : World) (g : Nat) (v : RV) : World := ((w.setCell ⟨g, 0, none⟩ (.int .i64 v.t)).setCell ⟨g, 1, none⟩ (.int .i64 v.q)).setCell ⟨g, 2, none⟩ (.slice v.s.1 v.s.2.1 v.s.2.2)
theorem LAt.store {w : World} {g : Nat} {v0 : RV} (h : LAt w g v0) (v : RV) : LAt (lset w g v) g v :=
 ((h.set (k := 0) (v' := { v0 with t := v.t }) rfl).set (k := 1) (v' := { v0 with t := v.t, q := v.q }) rfl).set (k := 2) rfl
theorem Below.lset {B : Nat} {a w : World} (h : Below B a w) {g : Nat} (hg : B ≤ g) (v : RV) : Below B a (lset w g v) :=
 Below.setCell (Below.setCell (Below.setCell h (p := ⟨g, 0, none⟩) hg _) (p := ⟨g, 1, none⟩) hg _) (p := ⟨g, 2, none⟩) hg _
theorem LAt.far {w w' : World} {g : Nat} {v : RV} {row : Option Nat} (h : LAt w g v) (hg : w.grownBy w' row) (hne : row ≠ some g) : LAt w' g v := by
 unfold LAt; rw [hg.block g h.lt (Ne.symm hne)]; exact h
end Go.Proofs.Ytibnhjfeepdddaa
namespace Go.Proofs.Ytibnhjfeepdddaa
open Go.RowKit
set_option linter.unusedVariables false
set_option linter.unusedSimpArgs false
theorem str_at {s : List UInt8} {k : Nat} (h : k < (str s).size) (h2 : k < s.length) : ((str s)[k]'h).toNat = (s[k]'h2).toNat := by
 show ((str s).data[k]'h).toNat = _
 simp [str]
def Rw.small (b : UInt8) : Bool := decide (97 ≤ b.toNat) && decide (b.toNat ≤ 122)
theorem Rw.name_no {s : List UInt8} {x : UInt8} (h : x ∈ s) (hx : Rw.small x = false) : Rw.name s = false := by
 cases hn : Rw.name s with
 | false => rfl
 | true =>
  have := ((Rw.name_iff s).1 hn).1 x h
  unfold Rw.small at hx
  simp at hx
  omega
end Go.Proofs.Ytibnhjfeepdddaa
namespace Go.Proofs.Ytibnhjfeepdddaa
open Go.RowKit
set_option linter.unusedVariables false
set_option linter.unusedSimpArgs false
/-- A cell in a block. -/
def EAt (w : World) (g : Nat) (c : Ce) : Prop := w.heap[g]? = some (.cells (cc c).toArray 90 (0, 0))
theorem EAt.lt {w : World} {g : Nat} {c : Ce} (h : EAt w g c) : g < w.heap.size := (Array.getElem?_eq_some_iff.1 h).1
theorem EAt.below {w w' : World} {g : Nat} {c : Ce} (h : EAt w g c) (hb : Below w.heap.size w w') : EAt w' g c := by
 unfold EAt; rw [hb.block g h.lt]; exact h
theorem EAt.alloc {w : World} {g : Nat} {c : Ce} (h : EAt w g c) (o : Obj) : EAt (w.alloc o) g c := h.below ((Below.refl _ _).alloc (Nat.le_refl _) _)
theorem EAt.new (w : World) (c : Ce) : EAt (w.alloc (cb c)) w.heap.size c := heap_alloc_new w _
theorem EAt.newat (w : World) (g : Nat) (c : Ce) (hg : g = w.heap.size) : EAt (w.alloc (cb c)) g c := by subst hg; exact EAt.new w c
theorem EAt.cell {w : World} {g : Nat} {c : Ce} (h : EAt w g c) (k : Nat) : w.cell? ⟨g, k, none⟩ = (cc c)[k]? := by
 rw [cell_of_row w g k _ 90 (0, 0) h, List.getElem?_toArray]
theorem EAt.all {w : World} {g : Nat} {c : Ce} (h : EAt w g c) : w.cell? ⟨g, 0, none⟩ = some (.string (str c.col)) ∧ w.cell? ⟨g, 1, none⟩ = some (.int .i64 c.k) ∧ w.cell? ⟨g, 2, none⟩ = some (.int .i64 c.n) ∧ w.cell? ⟨g, 3, none⟩ = some (.string (str c.s)) := ⟨h.cell 0, h.cell 1, h.cell 2, h.cell 3⟩
theorem EAt.frozen {w : World} {g : Nat} {c : Ce} (h : EAt w g c) (k : Nat) : w.frozen? ⟨g, k, none⟩ = false := frozen_of_row _ _ _ _ _ h
theorem EAt.fro {w : World} {g : Nat} {c : Ce} (h : EAt w g c) : w.frozen? ⟨g, 0, none⟩ = false ∧ w.frozen? ⟨g, 1, none⟩ = false ∧ w.frozen? ⟨g, 2, none⟩ = false ∧ w.frozen? ⟨g, 3, none⟩ = false := ⟨h.frozen 0, h.frozen 1, h.frozen 2, h.frozen 3⟩
theorem EAt.set {w : World} {g k : Nat} {c c' : Ce} {u : Value} (h : EAt w g c) (hz : (cc c).set k u = cc c') : EAt (w.setCell ⟨g, k, none⟩ u) g c' := by
 unfold EAt
 rw [heap_setCell_same w g k _ 90 _ h, List.setIfInBounds_toArray, hz]
theorem EAt.other {w : World} {g q k : Nat} {c : Ce} {u : Value} (h : EAt w g c) (hne : g ≠ q) : EAt (w.setCell ⟨q, k, none⟩ u) g c := by
 unfold EAt
 rw [heap_setCell_other w _ g u (by simpa using hne)]; exact h
abbrev eset (w : World) (g : Nat) (c : Ce) : World := (((w.setCell ⟨g, 0, none⟩ (.string (str c.col))).setCell ⟨g, 1, none⟩ (.int .i64 c.k)).setCell ⟨g, 2, none⟩ (.int .i64 c.n)).setCell ⟨g, 3, none⟩ (.string (str c.s))
theorem EAt.store {w : World} {g : Nat} {c0 : Ce} (h : EAt w g c0) (c : Ce) : EAt (eset w g c) g c :=
 (((h.set (k := 0) (c' := { c0 with col := c.col }) rfl).set (k := 1) (c' := { c0 with col := c.col, k := c.k }) rfl).set (k := 2) (c' := { c0 with col := c.col, k := c.k, n := c.n }) rfl).set (k := 3) rfl
theorem Below.eset {B : Nat} {a w : World} (h : Below B a w) {g : Nat} (hg : B ≤ g) (c : Ce) : Below B a (eset w g c) :=
 Below.setCell (Below.setCell (Below.setCell (Below.setCell h (p := ⟨g, 0, none⟩) hg _) (p := ⟨g, 1, none⟩) hg _) (p := ⟨g, 2, none⟩) hg _) (p := ⟨g, 3, none⟩) hg _
end Go.Proofs.Ytibnhjfeepdddaa
namespace Go.Proofs.Ytibnhjfeepdddaa
open Go.RowKit
set_option linter.unusedVariables false
set_option linter.unusedSimpArgs false
set_option maxHeartbeats 4000000 in
set_option maxRecDepth 100000 in
theorem sname_is (s : List UInt8) (w : World) (hs : s.length ≤ maxLen) (r : Bool) (hr : Rw.name s = r) : Calls Try.prog 80 #[.string (str s)] w fun e w' => e = .returned (.bool r) ∧ w' = w := by
 have HR : Hid (Rw.name s = r) := hr
 have hss : (str s).size = s.length := str_size s
 unfold maxLen at hs
 clear hr
 go_enter Try.func80, Try.ntmps80
 by_cases h1 : 1 ≤ s.length
 ·by_cases h2 : s.length ≤ 12
  ·have t1 : ((s.length : Int) == 0) = false := beq_eq_false_iff_ne.2 (by omega)
   have t2 : decide (12 < (s.length : Int)) = false := by simp; omega
   have t3 : decide (12 < s.length) = false := by simp; omega
   go_wp2_with fail
   go_loopw [14] (fun iv wr => ∃ i : Nat, i ≤ s.length ∧ iv = .int .i64 i ∧ Hid ((s.take i).all Rw.small = true) ∧ wr = w) (fun iv wr => s.length - (intOf iv).toNat)
   case atStart => exact ⟨0, by omega, rfl, (by simp : (s.take 0).all Rw.small = true), rfl⟩
   case round =>
    obtain ⟨i, hi, rfl, HA, hwr⟩ := hrel
    have hwr := hwr.symm
    subst hwr
    by_cases hlt : i < s.length
    ·have hti : (i : Int) < (s.length : Int) := by omega
     have hti2 : i < (str s).size := by omega
     obtain ⟨x, hx⟩ : ∃ x, s[i]'hlt = x := ⟨_, rfl⟩
     have hb : ((str s)[i]'hti2).toNat = x.toNat := by rw [← hx]; exact str_at hti2 hlt
     have hx256 := x.toNat_lt
     have hnx : s.take (i + 1) = s.take i ++ [x] := by rw [List.take_add_one, List.getElem?_eq_getElem hlt, hx]; rfl
     have HNX : Hid (s.take (i + 1) = s.take i ++ [x]) := hnx
     have HM : Hid (x ∈ s) := (by rw [← hx]; exact List.getElem_mem hlt : x ∈ s)
     clear hx hnx
     by_cases h3 : x.toNat < 97
     ·have t4 : decide ((x.toNat : Int) < 97) = true := by simp; omega
      have t5 : decide (x.toNat < 97) = true := by simp; omega
      go_wp2_with fail
      go_ret
      refine ⟨?_, rfl⟩
      rw [← HR.out, Rw.name_no HM.out (by unfold Rw.small; simp; omega)]; rfl
     ·by_cases h4 : 122 < x.toNat
      ·have t4 : decide ((x.toNat : Int) < 97) = false := by simp; omega
       have t5 : decide (x.toNat < 97) = false := by simp; omega
       have t6 : decide (122 < (x.toNat : Int)) = true := by simp; omega
       have t7 : decide (122 < x.toNat) = true := by simp; omega
       go_wp2_with fail
       go_ret
       refine ⟨?_, rfl⟩
       rw [← HR.out, Rw.name_no HM.out (by unfold Rw.small; simp; omega)]; rfl
      ·have t4 : decide ((x.toNat : Int) < 97) = false := by simp; omega
       have t5 : decide (x.toNat < 97) = false := by simp; omega
       have t6 : decide (122 < (x.toNat : Int)) = false := by simp; omega
       have t7 : decide (122 < x.toNat) = false := by simp; omega
       have HA2 : Hid ((s.take (i + 1)).all Rw.small = true) := (by rw [HNX.out, List.all_append, HA.out]; simp [Rw.small]; omega : (s.take (i + 1)).all Rw.small = true)
       go_wp2_with fail
       go_roundw
       case rel => exact ⟨i + 1, by omega, by go_num, HA2, by simp⟩
       case measure => simp [intOf]; omega
    ·have hti : ¬ (i : Int) < (s.length : Int) := by omega
     have HN : Hid (r = true) := (by
      rw [← HR.out, Rw.name_iff]
      have hA := HA.out
      rw [List.take_of_length_le (by omega), List.all_eq_true] at hA
      refine ⟨fun b hb => ?_, h1, h2⟩
      have := hA b hb
      unfold Rw.small at this
      simpa using this : r = true)
     go_wp2_with fail
     go_ret
     exact ⟨by rw [HN.out]; rfl, rfl⟩
  ·have t1 : ((s.length : Int) == 0) = false := beq_eq_false_iff_ne.2 (by omega)
   have t2 : decide (12 < (s.length : Int)) = true := by simp; omega
   have t3 : decide (12 < s.length) = true := by simp; omega
   have HN : Hid (r = false) := (by rw [← HR.out]; unfold Rw.name; rw [show decide (s.length ≤ 12) = false by simp [h2], Bool.and_false] : r = false)
   go_wp2_with fail
   go_ret
   exact ⟨by rw [HN.out]; rfl, rfl⟩
 ·have t1 : ((s.length : Int) == 0) = true := beq_iff_eq.2 (by omega)
  have HN : Hid (r = false) := (by rw [← HR.out]; unfold Rw.name; rw [show decide (1 ≤ s.length) = false by simp [h1], Bool.and_false, Bool.false_and] : r = false)
  go_wp2_with fail
  go_ret
  exact ⟨by rw [HN.out]; rfl, rfl⟩
end Go.Proofs.Ytibnhjfeepdddaa
namespace Go.Proofs.Ytibnhjfeepdddaa
open Go.RowKit
set_option linter.unusedVariables false
set_option linter.unusedSimpArgs false
end Go.Proofs.Ytibnhjfeepdddaa
namespace Go.Proofs.Ytibnhjfeepdddaa
open Go.RowKit
set_option linter.unusedVariables false
set_option linter.unusedSimpArgs false
end Go.Proofs.Ytibnhjfeepdddaa
namespace Go.Proofs.Ytibnhjfeepdddaa
open Go.RowKit
set_option linter.unusedVariables false
set_option linter.unusedSimpArgs false
end Go.Proofs.Ytibnhjfeepdddaa
namespace Go.Proofs.Ytibnhjfeepdddaa
open Go.RowKit
set_option linter.unusedVariables false
set_option linter.unusedSimpArgs false
namespace Rw
end Rw
end Go.Proofs.Ytibnhjfeepdddaa
namespace Go.Proofs.Ytibnhjfeepdddaa
open Go.RowKit
set_option linter.unusedVariables false
set_option linter.unusedSimpArgs false
end Go.Proofs.Ytibnhjfeepdddaa
