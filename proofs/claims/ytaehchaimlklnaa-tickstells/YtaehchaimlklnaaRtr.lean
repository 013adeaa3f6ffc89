/-
  The document's own Right (layer 10), over the program.
-/
import Derived.Test.YtaehchaimlklnaaIxat
namespace Go.Proofs.Ytaehchaimlklnaa
open Go.RowKit
set_option linter.unusedVariables false
set_option linter.unusedSimpArgs false
set_option maxRecDepth 100000 in
set_option maxHeartbeats 4000000 in
theorem rtr_is (r m : Int) (a : Option Addr) (n cap : Nat) (A : List Int) (w : World) (hn : n = A.length) (hB : Rd z64 w a cap A) (hr1 : -9223372036854775808 ≤ r) (hr2 : r ≤ 9223372036854775807) (b : Bool) (hb : Tk.right ⟨r, m, A⟩ = b) :
    Calls Try.prog 18 #[xv r m (.slice a n cap)] w fun e w' => e = .returned (.bool b) ∧ Ex w w' := by
  subst hn
  have hcl := hB.1
  have hcm := hB.2.1
  unfold maxLen at hcm
  have HB : Hid (Rd z64 w a cap A) := hB
  have hxa : Ex w (w.alloc (xb r m (.slice a A.length cap) 28)) := (Below.refl _ _).alloc (Nat.le_refl _) _
  have hF := XAt.new w r m (.slice a A.length cap) 28
  obtain ⟨wa, hwa⟩ : ∃ wa, w.alloc (Obj.cells #[Value.int IntKind.i64 r, Value.int IntKind.i64 m, Value.slice a A.length cap] 28) = wa := ⟨_, rfl⟩
  have HXa : Hid (Ex w wa) := (by rw [← hwa]; exact hxa : Ex w wa)
  have HF : Hid (XAt wa w.heap.size r m (.slice a A.length cap) 28) := (by rw [← hwa]; exact hF : XAt wa w.heap.size r m (.slice a A.length cap) 28)
  obtain ⟨f0, f1, f2⟩ := HF.out.all
  unfold Tk.right at hb
  simp only at hb
  clear hB hxa hF
  by_cases c1 : r < 0
  · have hbf : b = false := by rw [← hb, decide_eq_false (by omega)]; rfl
    subst hbf
    have t1 : decide (r < 0) = true := decide_eq_true c1
    unfold xv
    go_enter Try.func18, Try.ntmps18
    go_wp2_with fail
    go_ret
    exact ⟨rfl, HXa.out⟩
  · have t1 : decide (r < 0) = false := decide_eq_false c1
    by_cases c2 : 1048576 < r
    · have hbf : b = false := by rw [← hb, decide_eq_false (by omega)]; rfl
      subst hbf
      have t2 : decide (1048576 < r) = true := decide_eq_true c2
      unfold xv
      go_enter Try.func18, Try.ntmps18
      go_wp2_with fail
      go_ret
      exact ⟨rfl, HXa.out⟩
    · have t2 : decide (1048576 < r) = false := decide_eq_false c2
      obtain ⟨q, hq⟩ : ∃ q : Nat, (r + 3) / 4 = (q : Int) := ⟨((r + 3) / 4).toNat, by omega⟩
      have hqb : q ≤ 262144 := by omega
      have hq1 : (r + 4 - 1) / 4 = (q : Int) := by rw [← hq]; congr 1; omega
      by_cases c3 : A.length = q
      · have t3 : ((A.length : Int) != (q : Int)) = false := by simp; omega
        have hd : decide (0 ≤ r ∧ r ≤ 1048576 ∧ (A.length : Int) = (r + 3) / 4) = true := decide_eq_true (by omega)
        rw [hd, Bool.true_and] at hb
        have c3a : A.length ≤ q := by omega
        have c3b : q ≤ A.length := by omega
        clear c3
        by_cases c0 : r = 0
        · have t4 : (r == 0) = true := by simpa using c0
          rw [if_pos c0] at hb
          have HBm : Hid (decide (m = 0) = b) := hb
          clear c0 hd hb hq
          unfold xv
          go_enter Try.func18, Try.ntmps18
          go_wp2_with fail
          go_ret
          refine ⟨I.ret_bool ?_, HXa.out⟩
          rw [← HBm.out]
          rfl
        · have t4 : (r == 0) = false := by simpa using c0
          rw [if_neg c0] at hb
          have hq0 : 1 ≤ q := by omega
          obtain ⟨bb, off, rfl, _⟩ := HB.out.at0 (k := 0) (by omega)
          obtain ⟨z, hz⟩ : ∃ z, Tk.lst A = z := ⟨_, rfl⟩
          rw [hz] at hb
          have HZ : Hid (Tk.at0 A (A.length - 1) = z) := hz
          obtain ⟨r4, hr4⟩ : ∃ r4 : Int, r % 4 = r4 := ⟨_, rfl⟩
          rw [hr4] at hb
          have HBb : Hid ((decide (Tk.Rise A) && decide (z ≤ m) && (decide (r4 ≠ 1) || decide (z = m))) = b) := hb
          have hr4t : r.tmod 4 = r4 := by rw [Int.tmod_eq_emod_of_nonneg (by omega)]; exact hr4
          have hAq : (A.length : Int) ≤ 262144 := by omega
          have hA1 : 1 ≤ A.length := by omega
          clear hd hb hq hz
          unfold xv
          go_enter Try.func18, Try.ntmps18
          go_wp2_with fail
          go_loopw [3] (fun i wr => ∃ j : Nat, 1 ≤ j ∧ j ≤ A.length ∧ i = .int .i64 j ∧ Hid (Tk.Rise (A.take j)) ∧ Hid (Ex wa wr)) (fun i _ => A.length - (intOf i).toNat)
          case atStart => exact ⟨1, by omega, hA1, rfl, (fun j hj => by rw [List.length_take] at hj; omega : Tk.Rise (A.take 1)), Ex.refl _⟩
          case round =>
            obtain ⟨j, hj1, hj, rfl, HRi, HXr⟩ := hrel
            obtain ⟨g0, g1, g2⟩ := (HF.out.below HXr.out).all
            by_cases hlt : j < A.length
            · obtain ⟨_, _, e1, hc1⟩ := (HB.out.below (HXa.out.trans HXr.out)).at0 hlt
              simp only [Option.some.injEq, Addr.mk.injEq, and_true] at e1
              obtain ⟨rfl, rfl⟩ := e1
              obtain ⟨j1, hj1'⟩ : ∃ j1 : Nat, j1 = j - 1 := ⟨_, rfl⟩
              have hj1i : (j : Int) - 1 = (j1 : Int) := by omega
              have hj1l : j1 < A.length := by omega
              obtain ⟨_, _, e2, hc2⟩ := (HB.out.below (HXa.out.trans HXr.out)).at0 hj1l
              simp only [Option.some.injEq, Addr.mk.injEq, and_true] at e2
              obtain ⟨rfl, rfl⟩ := e2
              have hnx := Tk.rise_next (l := A) hlt
              rw [← hj1'] at hnx
              obtain ⟨x, hx⟩ : ∃ x, Tk.at0 A j = x := ⟨_, rfl⟩
              obtain ⟨y, hy⟩ : ∃ y, Tk.at0 A j1 = y := ⟨_, rfl⟩
              rw [hx] at hc1 hnx
              rw [hy] at hc2 hnx
              have HNx : Hid (Tk.Rise (A.take (j + 1)) ↔ Tk.Rise (A.take j) ∧ (0 < j → y ≤ x)) := hnx
              have tj : decide ((j : Int) < (A.length : Int)) = true := by simp; omega
              clear hnx hx hy hj1'
              by_cases hlt2 : x < y
              · have hbf : b = false := by
                  rw [← HBb.out]
                  have hnr : ¬ Tk.Rise A := fun h => by
                    have h2 := (HNx.out.1 (Tk.rise_take h (j + 1))).2 (by omega)
                    omega
                  rw [decide_eq_false hnr]; rfl
                subst hbf
                have t5 : decide (x < y) = true := decide_eq_true hlt2
                go_wp2_with fail
                go_quiet (fail)
                go_wp2_with fail
                go_ret
                exact ⟨rfl, (HXa.out.trans HXr.out).trans (Ex.drewN _ _)⟩
              · have t5 : decide (x < y) = false := decide_eq_false hlt2
                have HR2 : Hid (Tk.Rise (A.take (j + 1))) := HNx.out.2 ⟨HRi.out, fun _ => by omega⟩
                go_wp2_with fail
                go_quiet (fail)
                go_wp2_with fail
                go_roundw
                case rel => exact ⟨j + 1, by omega, by omega, by go_num, HR2, HXr.out.trans (Ex.drewN _ _)⟩
                case measure => simp [intOf]; omega
            · obtain rfl : j = A.length := by omega
              have hRA : Tk.Rise A := by have h := HRi.out; rw [List.take_length] at h; exact h
              obtain ⟨j1, hj1'⟩ : ∃ j1 : Nat, j1 = A.length - 1 := ⟨_, rfl⟩
              have hj1i : (A.length : Int) - 1 = (j1 : Int) := by omega
              have hj1l : j1 < A.length := by omega
              obtain ⟨_, _, e2, hc2⟩ := (HB.out.below (HXa.out.trans HXr.out)).at0 hj1l
              simp only [Option.some.injEq, Addr.mk.injEq, and_true] at e2
              obtain ⟨rfl, rfl⟩ := e2
              have hzz := HZ.out
              rw [← hj1'] at hzz
              rw [hzz] at hc2
              have hbv := HBb.out
              rw [decide_eq_true hRA, Bool.true_and] at hbv
              have tj : decide ((A.length : Int) < (A.length : Int)) = false := by simp
              clear hzz hj1' hRA
              by_cases d1 : z ≤ m
              · have t6 : decide (z ≤ m) = true := decide_eq_true d1
                by_cases d2 : r4 = 1
                · have t7 : (r4 != 1) = false := by simpa using d2
                  have hbe : b = (z == m) := by rw [← hbv, t6, d2]; simp; rfl
                  clear hbv d2
                  subst hbe
                  go_wp2_with fail
                  go_quiet (fail)
                  go_wp2_with fail
                  go_ret
                  exact ⟨rfl, (HXa.out.trans HXr.out).trans (Ex.drewN _ _)⟩
                · have t7 : (r4 != 1) = true := by simpa using d2
                  have hbe : b = true := by rw [← hbv, t6]; simp [d2]
                  subst hbe
                  clear hbv
                  go_wp2_with fail
                  go_quiet (fail)
                  go_wp2_with fail
                  go_ret
                  exact ⟨rfl, (HXa.out.trans HXr.out).trans (Ex.drewN _ _)⟩
              · have t6 : decide (z ≤ m) = false := decide_eq_false d1
                have hbe : b = false := by rw [← hbv, t6]; rfl
                subst hbe
                clear hbv
                go_wp2_with fail
                go_quiet (fail)
                go_wp2_with fail
                go_ret
                exact ⟨rfl, (HXa.out.trans HXr.out).trans (Ex.drewN _ _)⟩
      · have hbf : b = false := by rw [← hb, decide_eq_false (by omega)]; rfl
        subst hbf
        have t3 : ((A.length : Int) != (q : Int)) = true := by simp; omega
        clear hq
        unfold xv
        go_enter Try.func18, Try.ntmps18
        go_wp2_with fail
        go_ret
        exact ⟨rfl, HXa.out⟩
end Go.Proofs.Ytaehchaimlklnaa
