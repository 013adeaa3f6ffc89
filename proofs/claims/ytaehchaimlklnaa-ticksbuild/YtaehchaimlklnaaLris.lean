/-
  Of the landed ticks: rises, timesFor, rightRows.
-/
import Derived.Test.YtaehchaimlklnaaRtr
namespace Go.Proofs.Ytaehchaimlklnaa
open Go.RowKit
set_option linter.unusedVariables false
set_option linter.unusedSimpArgs false
set_option maxRecDepth 100000 in
set_option maxHeartbeats 2000000 in
theorem rises_is (a : Option Addr) (n cap : Nat) (l : List Int) (w : World) (hn : n = l.length) (hB : Rd z64 w a cap l) (b : Bool) (hb : decide (Tk.Rise l) = b) :
    Calls Try.prog 24 #[.slice a n cap] w fun e w' => e = .returned (.bool b) ∧ ∃ m, w' = w.drewN m := by
  subst hn
  have hcl := hB.1
  have hcm := hB.2.1
  unfold maxLen at hcm
  have HB : Hid (Rd z64 w a cap l) := hB
  have HBb : Hid (decide (Tk.Rise l) = b) := hb
  clear hB hb
  go_enter Try.func24, Try.ntmps24
  go_wp2_with fail
  go_loopw [3] (fun i wr => ∃ j : Nat, 1 ≤ j ∧ (j ≤ l.length ∨ j = 1) ∧ i = .int .i64 j ∧ Hid (Tk.Rise (l.take j)) ∧ Hid (∃ m, wr = w.drewN m)) (fun i _ => l.length - (intOf i).toNat)
  case atStart => exact ⟨1, by omega, .inr rfl, rfl, (fun j hj => by rw [List.length_take] at hj; omega : Tk.Rise (l.take 1)), ⟨0, rfl⟩⟩
  case round =>
    obtain ⟨j, hj1, hj, rfl, HRi, HXr⟩ := hrel
    obtain ⟨m, hm⟩ := HXr.out
    have HM : Hid (wr = w.drewN m) := hm
    have hxr : Ex w wr := by rw [hm]; exact Ex.drewN _ _
    clear hm
    by_cases hlt : j < l.length
    · obtain ⟨bb, off, rfl, hc1⟩ := (HB.out.below hxr).at0 hlt
      obtain ⟨j1, hj1'⟩ : ∃ j1 : Nat, j1 = j - 1 := ⟨_, rfl⟩
      have hj1i : (j : Int) - 1 = (j1 : Int) := by omega
      have hj1l : j1 < l.length := by omega
      obtain ⟨_, _, e2, hc2⟩ := (HB.out.below hxr).at0 hj1l
      simp only [Option.some.injEq, Addr.mk.injEq, and_true] at e2
      obtain ⟨rfl, rfl⟩ := e2
      have hnx := Tk.rise_next (l := l) hlt
      rw [← hj1'] at hnx
      obtain ⟨x, hx⟩ : ∃ x, Tk.at0 l j = x := ⟨_, rfl⟩
      obtain ⟨y, hy⟩ : ∃ y, Tk.at0 l j1 = y := ⟨_, rfl⟩
      rw [hx] at hc1 hnx
      rw [hy] at hc2 hnx
      have HNx : Hid (Tk.Rise (l.take (j + 1)) ↔ Tk.Rise (l.take j) ∧ (0 < j → y ≤ x)) := hnx
      have tj : decide ((j : Int) < (l.length : Int)) = true := by simp; omega
      clear hnx hx hy hj1' hxr
      by_cases hlt2 : x < y
      · have hbf : b = false := by
          rw [← HBb.out]
          have hnr : ¬ Tk.Rise l := fun h => by
            have h2 := (HNx.out.1 (Tk.rise_take h (j + 1))).2 (by omega)
            omega
          rw [decide_eq_false hnr]
        subst hbf
        have t5 : decide (x < y) = true := decide_eq_true hlt2
        go_wp2_with fail
        go_quiet (fail)
        go_wp2_with fail
        go_ret
        exact ⟨rfl, m + nq, by rw [HM.out, World.drewN_drewN]⟩
      · have t5 : decide (x < y) = false := decide_eq_false hlt2
        have HR2 : Hid (Tk.Rise (l.take (j + 1))) := HNx.out.2 ⟨HRi.out, fun _ => by omega⟩
        go_wp2_with fail
        go_quiet (fail)
        go_wp2_with fail
        go_roundw
        case rel => exact ⟨j + 1, by omega, .inl (by omega), by go_num, HR2, ⟨m + nq, by rw [HM.out, World.drewN_drewN]⟩⟩
        case measure => simp [intOf]; omega
    · have hRA : Tk.Rise l := by have h := HRi.out; rw [List.take_of_length_le (by omega)] at h; exact h
      have hbt : b = true := by rw [← HBb.out, decide_eq_true hRA]
      subst hbt
      have tj : decide ((j : Int) < (l.length : Int)) = false := by simp; omega
      clear hxr
      go_wp2_with fail
      go_ret
      exact ⟨rfl, m, HM.out⟩
theorem times_is (r : Int) (w : World) (h0 : 0 ≤ r) (h1 : r ≤ 1048576) (q : Int) (hq : (r + 3) / 4 = q) :
    Calls Try.prog 25 #[.int .i64 r] w fun e w' => e = .returned (.int .i64 q) ∧ w' = w := by
  have hq1 : (r + 4 - 1) / 4 = q := by rw [← hq]; congr 1; omega
  clear hq
  go_enter Try.func25, Try.ntmps25
  go_wp2_with fail
  go_ret
  exact ⟨by rw [← hq1]; rfl, rfl⟩
theorem rrows_is (n : Int) (w : World) (b : Bool) (hb : decide (n ≤ 1048576) = b) :
    Calls Try.prog 35 #[.int .u64 n] w fun e w' => e = .returned (.bool b) ∧ w' = w := by
  go_enter Try.func35, Try.ntmps35
  go_wp2_with fail
  go_ret
  exact ⟨by rw [← hb]; rfl, rfl⟩
end Go.Proofs.Ytaehchaimlklnaa
