/-
  Plain facts on what Build counts. Build over the program.
-/
import Derived.Test.YtibnhjfeepdddaaM07
import Derived.Test.YtibnhjfeepdddaaM11
import Derived.Test.YtibnhjfeepdddaaM19
namespace Go.Proofs.Ytibnhjfeepdddaa.Z
theorem step_u (k : Int) (p : Zn × Bool) (c : Cel) : p.1.u ≤ (step k p c).1.u ∧ (step k p c).1.u ≤ p.1.u + 1 := by
 unfold step
 split
 ·simp only; omega
 ·split
  ·simp only; omega
  ·split <;> (simp only; omega)
theorem fold_u' (k : Int) (l : List Cel) (p : Zn × Bool) : p.1.u ≤ (l.foldl (step k) p).1.u ∧ (l.foldl (step k) p).1.u ≤ p.1.u + l.length := by
 induction l generalizing p with
 | nil => simp
 | cons c l ih =>
  have h1 := step_u k p c
  have h2 := ih (step k p c)
  simp only [List.foldl_cons, List.length_cons]
  omega
theorem fold_u (k n : Int) (l : List Cel) : 0 ≤ (fold k n l).1.u ∧ (fold k n l).1.u ≤ l.length := by
 have h := fold_u' k l (⟨k, n, 0, 0, 0, [], []⟩, true)
 simp only [fold]
 simp at h
 omega
end Go.Proofs.Ytibnhjfeepdddaa.Z
namespace Go.Proofs.Ytibnhjfeepdddaa
open Go.RowKit
set_option linter.unusedVariables false
set_option linter.unusedSimpArgs false
set_option maxHeartbeats 4000000 in
set_option maxRecDepth 100000 in
theorem zbuild_is (k : Int) (a : Option Addr) (n cap : Nat) (l : List Cel) (w : World) (hn : n = l.length) (hB : RdC w a cap l) :
  Calls Try.prog 37 #[.int .i64 k, .slice a n cap] w fun e w' => e = .returned (zv (Z.build k l)) ∧ Ex w w' := by
 subst hn
 have HB : Hid (RdC w a cap l) := hB
 have hcl := hB.1
 have hcm := hB.2.1
 unfold maxLen at hcm
 clear hB
 go_enter Try.func37, Try.ntmps37
 go_wp2_with fail
 go_loopw [6, 7, 8] (fun f i c wr => ∃ j : Nat, j ≤ l.length ∧ i = .int .i64 j ∧ f = .bool (Z.fold k l.length (l.take j)).2 ∧ Hid (ZAt wr w.heap.size Z.zero 74) ∧ Hid (ZAt wr (w.heap.size + 1) (Z.fold k l.length (l.take j)).1 74) ∧ Hid (Ex w wr)) (fun f i c wr => l.length - (intOf i).toNat)
 case atStart =>
  refine ⟨0, by omega, by go_num, by simp [Z.fold], ?_, ?_, ?_⟩
  ·exact (ZAt.new w Z.zero 74).alloc _
  ·have h := ZAt.new (w.alloc (zb Z.zero 74)) ⟨k, l.length, 0, 0, 0, [], []⟩ 74
   have hs : (w.alloc (zb Z.zero 74)).heap.size = w.heap.size + 1 := by simp
   rw [hs] at h
   exact h
  ·show Ex _ _
   (repeat' (first | exact Below.refl _ _ | refine Below.alloc ?_ (by simp <;> omega) _))
 case round =>
  obtain ⟨j, hj, rfl, rfl, HZ, HV, HX⟩ := hrel
  by_cases hjl : j < l.length
  ·obtain ⟨b, off, rfl, e0, e1, e2, e3⟩ := RdC.four (HB.out.below HX.out) hjl
   obtain ⟨c, hc⟩ : ∃ c, l[j] = c := ⟨_, rfl⟩
   rw [hc] at e0 e1 e2 e3
   obtain ⟨⟨z, fb⟩, hz⟩ : ∃ p, Z.fold k l.length (l.take j) = p := ⟨_, rfl⟩
   rw [hz] at HV ⊢
   have hstep : Z.fold k l.length (l.take (j + 1)) = Z.step k (z, fb) c := by
    rw [List.take_add_one, List.getElem?_eq_getElem hjl, hc, Option.toList_some, Z.fold_snoc, hz]
   have hu := Z.fold_u k l.length (l.take j)
   rw [hz] at hu
   have hlt : (l.take j).length ≤ j := by simp; omega
   have hw64 : wrap64 (z.u + 1) = z.u + 1 := by
    have h1 := hu.1
    have h2 := hu.2
    unfold wrap64; simp only at h1 h2; omega
   clear hu hlt
   have HS : Hid (Z.fold k l.length (l.take (j + 1)) = Z.step k (z, fb) c) := hstep
   obtain ⟨w1, hw1⟩ : ∃ w1, w1 = wr.alloc (cb c) := ⟨_, rfl⟩
   have hV1 : ZAt w1 (w.heap.size + 1) z 74 := by rw [hw1]; exact HV.out.alloc _
   have hZ1 : ZAt w1 w.heap.size Z.zero 74 := by rw [hw1]; exact HZ.out.alloc _
   have hX1 : Ex w w1 := by rw [hw1]; exact HX.out.trans ((Below.refl _ _).alloc (Nat.le_refl _) _)
   have y2 : (wr.alloc (cb c)).cell? ⟨w.heap.size + 1, 2, none⟩ = some (.int .i64 z.u) := by rw [← hw1]; exact hV1.cell 2
   have y3 : (wr.alloc (cb c)).cell? ⟨w.heap.size + 1, 3, none⟩ = some (.int .i64 z.mn) := by rw [← hw1]; exact hV1.cell 3
   have y4 : (wr.alloc (cb c)).cell? ⟨w.heap.size + 1, 4, none⟩ = some (.int .i64 z.mx) := by rw [← hw1]; exact hV1.cell 4
   have y5 : (wr.alloc (cb c)).cell? ⟨w.heap.size + 1, 5, none⟩ = some (.string (str z.ms)) := by rw [← hw1]; exact hV1.cell 5
   have y6 : (wr.alloc (cb c)).cell? ⟨w.heap.size + 1, 6, none⟩ = some (.string (str z.xs)) := by rw [← hw1]; exact hV1.cell 6
   have r2 : (wr.alloc (cb c)).frozen? ⟨w.heap.size + 1, 2, none⟩ = false := by rw [← hw1]; exact hV1.frozen 2
   have r3 : (wr.alloc (cb c)).frozen? ⟨w.heap.size + 1, 3, none⟩ = false := by rw [← hw1]; exact hV1.frozen 3
   have r4 : (wr.alloc (cb c)).frozen? ⟨w.heap.size + 1, 4, none⟩ = false := by rw [← hw1]; exact hV1.frozen 4
   have r5 : (wr.alloc (cb c)).frozen? ⟨w.heap.size + 1, 5, none⟩ = false := by rw [← hw1]; exact hV1.frozen 5
   have r6 : (wr.alloc (cb c)).frozen? ⟨w.heap.size + 1, 6, none⟩ = false := by rw [← hw1]; exact hV1.frozen 6
   have Y2 : wr.cell? ⟨w.heap.size + 1, 2, none⟩ = some (.int .i64 z.u) := HV.out.cell 2
   have R2 : wr.frozen? ⟨w.heap.size + 1, 2, none⟩ = false := HV.out.frozen 2
   have Y3 : wr.cell? ⟨w.heap.size + 1, 3, none⟩ = some (.int .i64 z.mn) := HV.out.cell 3
   have R3 : wr.frozen? ⟨w.heap.size + 1, 3, none⟩ = false := HV.out.frozen 3
   have Y4 : wr.cell? ⟨w.heap.size + 1, 4, none⟩ = some (.int .i64 z.mx) := HV.out.cell 4
   have R4 : wr.frozen? ⟨w.heap.size + 1, 4, none⟩ = false := HV.out.frozen 4
   have Y5 : wr.cell? ⟨w.heap.size + 1, 5, none⟩ = some (.string (str z.ms)) := HV.out.cell 5
   have R5 : wr.frozen? ⟨w.heap.size + 1, 5, none⟩ = false := HV.out.frozen 5
   have Y6 : wr.cell? ⟨w.heap.size + 1, 6, none⟩ = some (.string (str z.xs)) := HV.out.cell 6
   have R6 : wr.frozen? ⟨w.heap.size + 1, 6, none⟩ = false := HV.out.frozen 6
   have HW1 : Hid (w1 = wr.alloc (cb c)) := hw1
   have HV1 : Hid (ZAt w1 (w.heap.size + 1) z 74) := hV1
   have HZ1 : Hid (ZAt w1 w.heap.size Z.zero 74) := hZ1
   have HX1 : Hid (Ex w w1) := hX1
   have hlt1 : w.heap.size + 1 < wr.heap.size := HV.out.lt
   have hji : (j : Int) < (l.length : Int) := by omega
   obtain ⟨b1, hb1⟩ : ∃ x, (c.k != k) = x := ⟨_, rfl⟩
   obtain ⟨b2, hb2⟩ : ∃ x, (c.k == 0) = x := ⟨_, rfl⟩
   have B1 : Hid ((c.k != k) = b1) := hb1
   have B2 : Hid ((c.k == 0) = b2) := hb2
   clear hc hz hstep hw1 hV1 hZ1 hX1 
   cases b1 with
   | true =>
    go_wp2_with fail
    go_roundw
    case rel =>
     have hS : Z.step k (z, fb) c = ({ z with u := z.u + 1 }, fb) := by
      have h1 := B1.out
      have h2 := B2.out
      simp at h1 h2
      rw [Z.step, if_pos (Or.inl h1)]
     refine ⟨j + 1, by omega, by go_num, by rw [HS.out, hS], ?_, ?_, ?_⟩
     ·exact (HZ.out.other (by omega)).alloc _
     ·rw [HS.out, hS]
      exact (HV.out.set (z' := { z with u := z.u + 1 }) rfl).alloc _
     ·exact ((Below.setCell HX.out (by simp) _).alloc (by first | exact HX.out.size | (simp; exact HX.out.size)) _)
    case measure => simp [intOf]; omega
   | false =>
    cases b2 with
    | true =>
     go_wp2_with fail
     go_roundw
     case rel =>
      have hS : Z.step k (z, fb) c = ({ z with u := z.u + 1 }, fb) := by
       have h1 := B1.out
       have h2 := B2.out
       simp at h1 h2
       rw [Z.step, if_pos (Or.inr h2)]
      refine ⟨j + 1, by omega, by go_num, by rw [HS.out, hS], ?_, ?_, ?_⟩
      ·exact (HZ.out.other (by omega)).alloc _
      ·rw [HS.out, hS]
       exact (HV.out.set (z' := { z with u := z.u + 1 }) rfl).alloc _
      ·exact ((Below.setCell HX.out (by simp) _).alloc (by first | exact HX.out.size | (simp; exact HX.out.size)) _)
     case measure => simp [intOf]; omega
    | false =>
     obtain ⟨t1, ht1⟩ : ∃ x, (k == 1) = x := ⟨_, rfl⟩
     obtain ⟨t2, ht2⟩ : ∃ x, (k == 2) = x := ⟨_, rfl⟩
     have T1 : Hid ((k == 1) = t1) := ht1
     have T2 : Hid ((k == 2) = t2) := ht2
     have z1 := str_toList c.s
     have z2 := str_toList z.ms
     have z3 := str_toList z.xs
     have g4 := le_form c.s z.xs
     cases t1 with
     | true =>
      have hk1 : k = 1 := by simpa using T1.out
      have ht2' : t2 = false := by rw [← ht2, hk1]; rfl
      have HK1 : Hid (k = 1) := hk1
      subst ht2'
      clear hk1 g4
      cases fb with
      | true =>
       go_wp2_with fail
       go_roundw
       case rel =>
        have hS : Z.step k (z, true) c = ({ z with mn := c.n, mx := c.n }, false) := by
         have h1 := B1.out
         have h2 := B2.out
         simp at h1 h2
         rw [Z.step, if_neg (fun h => h.elim (fun h => h h1) h2), if_pos HK1.out]; simp
        refine ⟨j + 1, by omega, by go_num, by rw [HS.out, hS], ?_, ?_, ?_⟩
        ·exact ((HZ.out.other (by omega)).other (by omega)).alloc _
        ·rw [HS.out, hS]
         exact ((HV.out.set (z' := { z with mn := c.n }) rfl).set (z' := { z with mn := c.n, mx := c.n }) rfl).alloc _
        ·exact ((Below.setCell (Below.setCell HX.out (by simp) _) (by simp) _).alloc (by first | exact HX.out.size | (simp; exact HX.out.size)) _)
       case measure => simp [intOf]; omega
      | false =>
       by_cases q1 : c.n < z.mn
       ·by_cases q2 : z.mx < c.n
        ·go_wp2_with fail
         go_roundw
         case rel =>
          have hS : Z.step k (z, false) c = ({ z with mn := c.n, mx := c.n }, false) := by
           have h1 := B1.out
           have h2 := B2.out
           simp at h1 h2
           rw [Z.step, if_neg (fun h => h.elim (fun h => h h1) h2), if_pos HK1.out]; simp [q1, q2]
          refine ⟨j + 1, by omega, by go_num, by rw [HS.out, hS], ?_, ?_, ?_⟩
          ·exact ((HZ.out.other (by omega)).other (by omega)).alloc _
          ·rw [HS.out, hS]
           exact ((HV.out.set (z' := { z with mn := c.n }) rfl).set (z' := { z with mn := c.n, mx := c.n }) rfl).alloc _
          ·exact ((Below.setCell (Below.setCell HX.out (by simp) _) (by simp) _).alloc (by first | exact HX.out.size | (simp; exact HX.out.size)) _)
         case measure => simp [intOf]; omega
        ·go_wp2_with fail
         go_roundw
         case rel =>
          have hS : Z.step k (z, false) c = ({ z with mn := c.n }, false) := by
           have h1 := B1.out
           have h2 := B2.out
           simp at h1 h2
           rw [Z.step, if_neg (fun h => h.elim (fun h => h h1) h2), if_pos HK1.out]; simp [q1, q2]
          refine ⟨j + 1, by omega, by go_num, by rw [HS.out, hS], ?_, ?_, ?_⟩
          ·exact (HZ.out.other (by omega)).alloc _
          ·rw [HS.out, hS]
           exact (HV.out.set (z' := { z with mn := c.n }) rfl).alloc _
          ·exact ((Below.setCell HX.out (by simp) _).alloc (by first | exact HX.out.size | (simp; exact HX.out.size)) _)
         case measure => simp [intOf]; omega
       ·by_cases q2 : z.mx < c.n
        ·go_wp2_with fail
         go_roundw
         case rel =>
          have hS : Z.step k (z, false) c = ({ z with mx := c.n }, false) := by
           have h1 := B1.out
           have h2 := B2.out
           simp at h1 h2
           rw [Z.step, if_neg (fun h => h.elim (fun h => h h1) h2), if_pos HK1.out]; simp [q1, q2]
          refine ⟨j + 1, by omega, by go_num, by rw [HS.out, hS], ?_, ?_, ?_⟩
          ·exact (HZ.out.other (by omega)).alloc _
          ·rw [HS.out, hS]
           exact (HV.out.set (z' := { z with mx := c.n }) rfl).alloc _
          ·exact ((Below.setCell HX.out (by simp) _).alloc (by first | exact HX.out.size | (simp; exact HX.out.size)) _)
         case measure => simp [intOf]; omega
        ·go_wp2_with fail
         go_roundw
         case rel =>
          have hS : Z.step k (z, false) c = (z, false) := by
           have h1 := B1.out
           have h2 := B2.out
           simp at h1 h2
           rw [Z.step, if_neg (fun h => h.elim (fun h => h h1) h2), if_pos HK1.out]; simp [q1, q2]
          refine ⟨j + 1, by omega, by go_num, by rw [HS.out, hS], ?_, ?_, ?_⟩
          ·exact HZ.out.alloc _
          ·rw [HS.out, hS]
           exact HV.out.alloc _
          ·exact (HX.out.alloc (by first | exact HX.out.size | (simp; exact HX.out.size)) _)
         case measure => simp [intOf]; omega
     | false =>
      have hk1 : ¬ k = 1 := by simpa using T1.out
      have HK1 : Hid (¬ k = 1) := hk1
      cases t2 with
      | true =>
       have hk2 : k = 2 := by simpa using T2.out
       have HK2 : Hid (k = 2) := hk2
       clear hk1 hk2
       cases fb with
       | true =>
        clear g4
        go_wp2_with fail
        go_roundw
        case rel =>
         have hS : Z.step k (z, true) c = ({ z with ms := c.s, xs := c.s }, false) := by
          have h1 := B1.out
          have h2 := B2.out
          simp at h1 h2
          rw [Z.step, if_neg (fun h => h.elim (fun h => h h1) h2), if_neg HK1.out, if_pos HK2.out]; simp
         refine ⟨j + 1, by omega, by go_num, by rw [HS.out, hS], ?_, ?_, ?_⟩
         ·exact ((HZ.out.other (by omega)).other (by omega)).alloc _
         ·rw [HS.out, hS]
          exact ((HV.out.set (z' := { z with ms := c.s }) rfl).set (z' := { z with ms := c.s, xs := c.s }) rfl).alloc _
         ·exact ((Below.setCell (Below.setCell HX.out (by simp) _) (by simp) _).alloc (by first | exact HX.out.size | (simp; exact HX.out.size)) _)
        case measure => simp [intOf]; omega
       | false =>
        cases q1 : Op.bytesLess c.s z.ms
        ·cases q2 : Op.bytesLess z.xs c.s
         ·simp only [T.lt, q2, Bool.not_true, Bool.not_false] at g4
          go_wp2_with fail
          go_roundw
          case rel =>
           have hS : Z.step k (z, false) c = (z, false) := by
            have h1 := B1.out
            have h2 := B2.out
            simp at h1 h2
            rw [Z.step, if_neg (fun h => h.elim (fun h => h h1) h2), if_neg HK1.out, if_pos HK2.out]; simp [T.lt, q1, q2]
           refine ⟨j + 1, by omega, by go_num, by rw [HS.out, hS], ?_, ?_, ?_⟩
           ·exact HZ.out.alloc _
           ·rw [HS.out, hS]
            exact HV.out.alloc _
           ·exact (HX.out.alloc (by first | exact HX.out.size | (simp; exact HX.out.size)) _)
          case measure => simp [intOf]; omega
         ·simp only [T.lt, q2, Bool.not_true, Bool.not_false] at g4
          go_wp2_with fail
          go_roundw
          case rel =>
           have hS : Z.step k (z, false) c = ({ z with xs := c.s }, false) := by
            have h1 := B1.out
            have h2 := B2.out
            simp at h1 h2
            rw [Z.step, if_neg (fun h => h.elim (fun h => h h1) h2), if_neg HK1.out, if_pos HK2.out]; simp [T.lt, q1, q2]
           refine ⟨j + 1, by omega, by go_num, by rw [HS.out, hS], ?_, ?_, ?_⟩
           ·exact (HZ.out.other (by omega)).alloc _
           ·rw [HS.out, hS]
            exact (HV.out.set (z' := { z with xs := c.s }) rfl).alloc _
           ·exact ((Below.setCell HX.out (by simp) _).alloc (by first | exact HX.out.size | (simp; exact HX.out.size)) _)
          case measure => simp [intOf]; omega
        ·cases q2 : Op.bytesLess z.xs c.s
         ·simp only [T.lt, q2, Bool.not_true, Bool.not_false] at g4
          go_wp2_with fail
          go_roundw
          case rel =>
           have hS : Z.step k (z, false) c = ({ z with ms := c.s }, false) := by
            have h1 := B1.out
            have h2 := B2.out
            simp at h1 h2
            rw [Z.step, if_neg (fun h => h.elim (fun h => h h1) h2), if_neg HK1.out, if_pos HK2.out]; simp [T.lt, q1, q2]
           refine ⟨j + 1, by omega, by go_num, by rw [HS.out, hS], ?_, ?_, ?_⟩
           ·exact (HZ.out.other (by omega)).alloc _
           ·rw [HS.out, hS]
            exact (HV.out.set (z' := { z with ms := c.s }) rfl).alloc _
           ·exact ((Below.setCell HX.out (by simp) _).alloc (by first | exact HX.out.size | (simp; exact HX.out.size)) _)
          case measure => simp [intOf]; omega
         ·simp only [T.lt, q2, Bool.not_true, Bool.not_false] at g4
          go_wp2_with fail
          go_roundw
          case rel =>
           have hS : Z.step k (z, false) c = ({ z with ms := c.s, xs := c.s }, false) := by
            have h1 := B1.out
            have h2 := B2.out
            simp at h1 h2
            rw [Z.step, if_neg (fun h => h.elim (fun h => h h1) h2), if_neg HK1.out, if_pos HK2.out]; simp [T.lt, q1, q2]
           refine ⟨j + 1, by omega, by go_num, by rw [HS.out, hS], ?_, ?_, ?_⟩
           ·exact ((HZ.out.other (by omega)).other (by omega)).alloc _
           ·rw [HS.out, hS]
            exact ((HV.out.set (z' := { z with ms := c.s }) rfl).set (z' := { z with ms := c.s, xs := c.s }) rfl).alloc _
           ·exact ((Below.setCell (Below.setCell HX.out (by simp) _) (by simp) _).alloc (by first | exact HX.out.size | (simp; exact HX.out.size)) _)
          case measure => simp [intOf]; omega
      | false =>
       have hk2 : ¬ k = 2 := by simpa using T2.out
       have HK2 : Hid (¬ k = 2) := hk2
       clear hk1 hk2 g4
       go_wp2_with fail
       go_roundw
       case rel =>
        have hS : Z.step k (z, fb) c = (z, false) := by
         have h1 := B1.out
         have h2 := B2.out
         simp at h1 h2
         rw [Z.step, if_neg (fun h => h.elim (fun h => h h1) h2), if_neg HK1.out, if_neg HK2.out]
        refine ⟨j + 1, by omega, by go_num, by rw [HS.out, hS], ?_, ?_, ?_⟩
        ·exact HZ.out.alloc _
        ·rw [HS.out, hS]
         exact HV.out.alloc _
        ·exact (HX.out.alloc (by first | exact HX.out.size | (simp; exact HX.out.size)) _)
       case measure => simp [intOf]; omega
  ·have hje : j = l.length := by omega
   have hji : ¬ (j : Int) < (l.length : Int) := by omega
   subst hje
   rw [List.take_length] at HV ⊢
   obtain ⟨⟨z, fb⟩, hz⟩ : ∃ p, Z.fold k l.length l = p := ⟨_, rfl⟩
   rw [hz] at HV ⊢
   have hzz : Z.build k l = z := by rw [Z.build, hz]
   have HZZ : Hid (Z.build k l = z) := hzz
   have Y0 : wr.cell? ⟨w.heap.size + 1, 0, none⟩ = some (.int .i64 z.k) := HV.out.cell 0
   have X0 : wr.cell? ⟨w.heap.size, 0, none⟩ = some (.int .i64 0) := HZ.out.cell 0
   have R0 : wr.frozen? ⟨w.heap.size, 0, none⟩ = false := HZ.out.frozen 0
   have Y1 : wr.cell? ⟨w.heap.size + 1, 1, none⟩ = some (.int .i64 z.r) := HV.out.cell 1
   have X1 : wr.cell? ⟨w.heap.size, 1, none⟩ = some (.int .i64 0) := HZ.out.cell 1
   have R1 : wr.frozen? ⟨w.heap.size, 1, none⟩ = false := HZ.out.frozen 1
   have Y2 : wr.cell? ⟨w.heap.size + 1, 2, none⟩ = some (.int .i64 z.u) := HV.out.cell 2
   have X2 : wr.cell? ⟨w.heap.size, 2, none⟩ = some (.int .i64 0) := HZ.out.cell 2
   have R2 : wr.frozen? ⟨w.heap.size, 2, none⟩ = false := HZ.out.frozen 2
   have Y3 : wr.cell? ⟨w.heap.size + 1, 3, none⟩ = some (.int .i64 z.mn) := HV.out.cell 3
   have X3 : wr.cell? ⟨w.heap.size, 3, none⟩ = some (.int .i64 0) := HZ.out.cell 3
   have R3 : wr.frozen? ⟨w.heap.size, 3, none⟩ = false := HZ.out.frozen 3
   have Y4 : wr.cell? ⟨w.heap.size + 1, 4, none⟩ = some (.int .i64 z.mx) := HV.out.cell 4
   have X4 : wr.cell? ⟨w.heap.size, 4, none⟩ = some (.int .i64 0) := HZ.out.cell 4
   have R4 : wr.frozen? ⟨w.heap.size, 4, none⟩ = false := HZ.out.frozen 4
   have Y5 : wr.cell? ⟨w.heap.size + 1, 5, none⟩ = some (.string (str z.ms)) := HV.out.cell 5
   have X5 : wr.cell? ⟨w.heap.size, 5, none⟩ = some (.string (str [])) := HZ.out.cell 5
   have R5 : wr.frozen? ⟨w.heap.size, 5, none⟩ = false := HZ.out.frozen 5
   have Y6 : wr.cell? ⟨w.heap.size + 1, 6, none⟩ = some (.string (str z.xs)) := HV.out.cell 6
   have X6 : wr.cell? ⟨w.heap.size, 6, none⟩ = some (.string (str [])) := HZ.out.cell 6
   have R6 : wr.frozen? ⟨w.heap.size, 6, none⟩ = false := HZ.out.frozen 6
   clear hz hzz
   go_wp2_with fail
   have hZ9 := (((((((HZ.out.set (k := 0) (v := .int .i64 z.k) (z' := ⟨z.k, 0, 0, 0, 0, [], []⟩) rfl).set (k := 1) (v := .int .i64 z.r) (z' := ⟨z.k, z.r, 0, 0, 0, [], []⟩) rfl).set (k := 2) (v := .int .i64 z.u) (z' := ⟨z.k, z.r, z.u, 0, 0, [], []⟩) rfl).set (k := 3) (v := .int .i64 z.mn) (z' := ⟨z.k, z.r, z.u, z.mn, 0, [], []⟩) rfl).set (k := 4) (v := .int .i64 z.mx) (z' := ⟨z.k, z.r, z.u, z.mn, z.mx, [], []⟩) rfl).set (k := 5) (v := .string (str z.ms)) (z' := ⟨z.k, z.r, z.u, z.mn, z.mx, z.ms, []⟩) rfl).set (k := 6) (v := .string (str z.xs)) (z' := z) rfl)
   have hX9 := Below.setCell (Below.setCell (Below.setCell (Below.setCell (Below.setCell (Below.setCell (Below.setCell HX.out (p := ⟨w.heap.size, 0, none⟩) (Nat.le_refl _) (.int .i64 z.k)) (p := ⟨w.heap.size, 1, none⟩) (Nat.le_refl _) (.int .i64 z.r)) (p := ⟨w.heap.size, 2, none⟩) (Nat.le_refl _) (.int .i64 z.u)) (p := ⟨w.heap.size, 3, none⟩) (Nat.le_refl _) (.int .i64 z.mn)) (p := ⟨w.heap.size, 4, none⟩) (Nat.le_refl _) (.int .i64 z.mx)) (p := ⟨w.heap.size, 5, none⟩) (Nat.le_refl _) (.string (str z.ms))) (p := ⟨w.heap.size, 6, none⟩) (Nat.le_refl _) (.string (str z.xs))
   refine bodyPost_ret (v := zv z) (rres_zone Try.results37 rfl hZ9) rfl ⟨by rw [HZZ.out], hX9⟩
end Go.Proofs.Ytibnhjfeepdddaa
