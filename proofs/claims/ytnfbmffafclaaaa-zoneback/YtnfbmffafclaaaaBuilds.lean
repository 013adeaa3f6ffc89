/-
  Of the landed zone: Build.
-/
import Derived.Test.YtnfbmffafclaaaaTogs
import Derived.Test.YtnfbmffafclaaaaOnes
import Derived.Test.YtnfbmffafclaaaaZreg
namespace Go.Proofs.Ytnfbmffafclaaaa
open Go.RowKit
set_option linter.unusedVariables false
set_option linter.unusedSimpArgs false
theorem Z.build_ru (k : Int) (l : List Cel) : (Z.build k l).r = l.length ∧ 0 ≤ (Z.build k l).u ∧ (Z.build k l).u ≤ l.length := by
  have h := Z.fold_inv k l.length l
  have h2 := Z.fold_u k l.length l
  exact ⟨h.2.1, h2⟩
theorem Z.one_ru (k : Int) (c : Cel) : (Z.one k c).r = 1 ∧ 0 ≤ (Z.one k c).u ∧ (Z.one k c).u ≤ 1 := by
  unfold Z.one
  split
  · simp
  · split
    · simp
    · split <;> simp
set_option maxHeartbeats 1000000 in
theorem loadI_cell {w9 : World} {g : Nat} {c : Cel} (h : w9.heap[g]? = some (.cells (cc c).toArray 52 (0, 0))) : (Instr.loadAt 52 (.pointer (some ⟨g, 0, none⟩))).run Try.prog w9 = .ok (cv c) w9 := by
  have key : ∀ k, w9.cell? ⟨g, k, none⟩ = (cc c)[k]? := fun k => by rw [cell_of_row w9 g k _ 52 (0, 0) h, List.getElem?_toArray]
  have c0 : w9.cell? ⟨g, 0, none⟩ = some (.string (str c.col)) := key 0
  have c1 : w9.cell? ⟨g, 1, none⟩ = some (.int .i64 c.k) := key 1
  have c2 : w9.cell? ⟨g, 2, none⟩ = some (.int .i64 c.n) := key 2
  have c3 : w9.cell? ⟨g, 3, none⟩ = some (.string (str c.s)) := key 3
  clear h key
  simp [go_sem, cv, c0, c1, c2, c3]
theorem ZAt.zother {w : World} {g q : Nat} {z : Zn} {t : TypeId} (h : ZAt w g z t) (hne : g ≠ q) (y : Zn) : ZAt (zset w q y) g z t := ((((((h.other hne).other hne).other hne).other hne).other hne).other hne).other hne
set_option maxHeartbeats 4000000 in
set_option maxRecDepth 100000 in
theorem build_is (k : Int) (a : Option Addr) (n cap : Nat) (l : List Cel) (w : World) (hn : n = l.length) (hB : RdC w a cap l) :
    Calls Try.prog 18 #[.int .i64 k, .slice a n cap] w fun e w' => e = .returned (zv (Z.build k l)) ∧ Ex w w' := by
  subst hn
  have HB : Hid (RdC w a cap l) := hB
  have hcl := hB.1
  have hcm := hB.2.1
  unfold maxLen at hcm
  clear hB
  go_enter Try.func18, Try.ntmps18
  go_wp2_with fail
  go_loopw [7, 12] (fun c i wr => ∃ j : Nat, j ≤ l.length ∧ i = .int .i64 j ∧ Hid (ZAt wr w.heap.size Z.zero 23) ∧ Hid (ZAt wr (w.heap.size + 1) (Z.build k (l.take j)) 23) ∧ Hid (Ex w wr)) (fun c i wr => l.length - (intOf i).toNat)
  case atStart =>
    refine ⟨0, by omega, by go_num, ?_, ?_, ?_⟩
    · exact (ZAt.new w Z.zero 23).alloc _
    · exact ZAt.newat _ (w.heap.size + 1) ⟨k, 0, 0, 0, 0, [], []⟩ (by simp)
    · show Ex _ _
      (repeat' (first | exact Below.refl _ _ | refine Below.alloc ?_ (by simp <;> omega) _))
  case round =>
    obtain ⟨j, hj, rfl, HZ, HV, HX⟩ := hrel
    by_cases hjl : j < l.length
    · obtain ⟨b, off, rfl, e0, e1, e2, e3⟩ := (HB.out.below HX.out).at hjl
      obtain ⟨c, hc⟩ : ∃ c, l[j] = c := ⟨_, rfl⟩
      rw [hc] at e0 e1 e2 e3
      obtain ⟨z, hz⟩ : ∃ p, Z.build k (l.take j) = p := ⟨_, rfl⟩
      rw [hz] at HV
      have hstep : Z.build k (l.take (j + 1)) = Z.tog z (Z.one k c) := by
        rw [List.take_add_one, List.getElem?_eq_getElem hjl, hc, Option.toList_some, Z.build_snoc, hz]
      have hu := Z.build_ru k (l.take j)
      rw [hz] at hu
      have hlt : (l.take j).length = j := by simp; omega
      rw [hlt] at hu
      have ho := Z.one_ru k c
      have HR : Hid (In64 (z.r + (Z.one k c).r)) := (by unfold In64; omega : In64 (z.r + (Z.one k c).r))
      have HU : Hid (In64 (z.u + (Z.one k c).u)) := (by unfold In64; omega : In64 (z.u + (Z.one k c).u))
      clear hu hlt ho hz
      have HS : Hid (Z.build k (l.take (j + 1)) = Z.tog z (Z.one k c)) := hstep
      obtain ⟨w1, hw1⟩ : ∃ w1, w1 = wr.alloc (cb c) := ⟨_, rfl⟩
      have HV1 : Hid (ZAt w1 (w.heap.size + 1) z 23) := (by rw [hw1]; exact HV.out.alloc _ : ZAt w1 (w.heap.size + 1) z 23)
      have HZ1 : Hid (ZAt w1 w.heap.size Z.zero 23) := (by rw [hw1]; exact HZ.out.alloc _ : ZAt w1 w.heap.size Z.zero 23)
      have HX1 : Hid (Ex w w1) := (by rw [hw1]; exact HX.out.trans ((Below.refl _ _).alloc (Nat.le_refl _) _) : Ex w w1)
      have HC1 : Hid (w1.heap[wr.heap.size]? = some (.cells (cc c).toArray 52 (0, 0))) := (by rw [hw1]; exact heap_alloc_new wr _ : w1.heap[wr.heap.size]? = some (.cells (cc c).toArray 52 (0, 0)))
      have HW1 : Hid (w1 = wr.alloc (cb c)) := hw1
      have hlt1 : w.heap.size + 1 < wr.heap.size := HV.out.lt
      have hji : (j : Int) < (l.length : Int) := by omega
      clear hc hstep hw1
      go_wp2_with fail
      rw [← HW1.out]
      have hre := Ex.refl
      refine Rg.wp_rows_tail (List.take 5 _) (List.drop 5 _) (List.take_append_drop 5 _).symm [.inl (zv z), .inl (.int .i64 k), .inl (cv c), .inl (zv (Z.one k c)), .inl (zv (Z.tog z (Z.one k c)))] (Ex w1) Ex 23 (by kernel_rfl) rfl (by kernel_rfl) (by kernel_rfl) (by kernel_rfl) (by decide) (by kernel_rfl) ?st hre (Ex.drew _) ?goods ?fin
      case st => exact trivial
      case goods =>
        refine Rg.goods_cons (Rg.good_load hre rfl rfl rfl (fun wx hC => loadI_zone (HV1.out.below hC))) ?_
        refine Rg.goods_cons (Rg.good_move hre rfl rfl rfl) ?_
        refine Rg.goods_cons (Rg.good_load hre rfl rfl rfl (fun wx hC => loadI_cell (by rw [hC.block _ (Array.getElem?_eq_some_iff.1 HC1.out).1]; exact HC1.out))) ?_
        refine Rg.goods_cons (Rg.good_call2 rfl rfl rfl rfl rfl (by rintro u u2 wx hC rfl rfl; exact ex_row (one_is k c wx _ rfl) hC)) ?_
        refine Rg.goods_cons (Rg.good_call2 rfl rfl rfl rfl rfl (by rintro u u2 wx hC rfl rfl; exact ex_row (tog_is z (Z.one k c) wx HR.out HU.out _ rfl) hC)) ?_
        exact Rg.goods_nil
      case fin =>
        intro wx hx
        simp only [Rg.later, List.take_succ_cons, List.take_zero, List.drop_succ_cons, List.drop_zero, Act.put, List.setIfInBounds_toArray, List.set_cons_succ, List.set_cons_zero]
        have HVx : Hid (ZAt wx (w.heap.size + 1) z 23) := HV1.out.below hx
        have HZx : Hid (ZAt wx w.heap.size Z.zero 23) := HZ1.out.below hx
        have HXx : Hid (Ex w wx) := HX1.out.trans hx
        clear hx
        obtain ⟨j0, j1, j2, j3, j4, j5, j6⟩ := HVx.out.all
        obtain ⟨k0, k1, k2, k3, k4, k5, k6⟩ := HVx.out.fro
        simp only [zv]
        go_wp2_with fail
        go_roundw
        case rel =>
          refine ⟨j + 1, by omega, by go_num, ?_, ?_, ?_⟩
          · exact HZx.out.zother (by omega) _
          · rw [HS.out]
            exact HVx.out.store _
          · exact Below.zset HXx.out (by omega) _
        case measure => simp [intOf]; omega
    · have hje : j = l.length := by omega
      have hji : ¬ (j : Int) < (l.length : Int) := by omega
      subst hje
      rw [List.take_length] at HV
      obtain ⟨z, hz⟩ : ∃ p, Z.build k l = p := ⟨_, rfl⟩
      rw [hz] at HV
      have HZZ : Hid (Z.build k l = z) := hz
      clear hz
      obtain ⟨i0, i1, i2, i3, i4, i5, i6⟩ := HV.out.all
      obtain ⟨j0, j1, j2, j3, j4, j5, j6⟩ := HZ.out.all
      obtain ⟨k0, k1, k2, k3, k4, k5, k6⟩ := HZ.out.fro
      go_wp2_with fail
      exact bodyPost_ret (res_zone (g := w.heap.size) (z := z) rfl rfl (HZ.out.store z)) rfl ⟨by rw [HZZ.out], Below.zset HX.out (Nat.le_refl _) z⟩
end Go.Proofs.Ytnfbmffafclaaaa
