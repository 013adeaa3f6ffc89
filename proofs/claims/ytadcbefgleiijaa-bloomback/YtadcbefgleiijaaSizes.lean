/-
  Package bloom's sizeFor, mask, rightSize and Right, over the program.
-/
import Derived.Test.YtadcbefgleiijaaRfil
import Derived.Test.YtadcbefgleiijaaPows
namespace Go.Proofs.Ytadcbefgleiijaa
open Go.RowKit
set_option linter.unusedVariables false
set_option linter.unusedSimpArgs false
set_option maxRecDepth 100000 in
set_option maxHeartbeats 2000000 in
theorem size_is (d : Nat) (w : World) (hd : d ≤ 500) (W : Nat) (hW : Fl.width d = W) :
    Calls Try.prog 23 #[.int .i64 d] w fun e w' => e = .returned (.int .i64 W) ∧ w' = w := by
  have HW : Hid (Fl.wid 10 d 64 = W) := hW
  clear hW
  go_enter Try.func23, Try.ntmps23
  go_wp2_with fail
  go_loopw [3] (fun i wr => wr = w ∧ ∃ f m : Nat, f ≤ 10 ∧ 64 ≤ m ∧ m ≤ 65536 ∧ i = .int .i64 m ∧ Hid (m = 64 * 2 ^ (10 - f)) ∧ Hid (Fl.wid f d m = W)) (fun i _ => 65536 - (intOf i).toNat)
  case atStart => exact ⟨rfl, 10, 64, by omega, by omega, by omega, rfl, (rfl : 64 = 64 * 2 ^ (10 - 10)), HW⟩
  case round =>
    obtain ⟨hw, f, m, hf, hm1, hm2, rfl, HM, HWf⟩ := hrel
    have hw' := hw.symm; clear hw; subst hw'
    by_cases hc2 : m < 65536
    · have t2 : decide ((m : Int) < 65536) = true := by simp; omega
      have t4 : decide (m < 65536) = true := by simp; omega
      by_cases hc1 : m < 8 * d
      · have hc : m < 8 * d ∧ m < 65536 := ⟨hc1, hc2⟩
        obtain ⟨f', rfl, h2, h3⟩ := Fl.wid_go hf HM.out hc
        have t1 : decide ((m : Int) < 8 * (d : Int)) = true := by simp; omega
        have t3 : decide (m < 8 * d) = true := by simp; omega
        have HM' : Hid (m * 2 = 64 * 2 ^ (10 - f')) := (by omega : m * 2 = 64 * 2 ^ (10 - f'))
        have HWf' : Hid (Fl.wid f' d (m * 2) = W) := (by rw [Nat.mul_comm, ← h3]; exact HWf.out : Fl.wid f' d (m * 2) = W)
        have hm3 : m * 2 ≤ 65536 := by have := Fl.IsW.bounds (n := 2 * m) ⟨10 - f', by omega, h2⟩; omega
        clear h2 h3 HM HWf hc
        go_wp2_with fail
        go_roundw
        case rel => exact ⟨trivial, f', m * 2, by omega, by omega, hm3, by go_num, HM', HWf'⟩
        case measure => simp [intOf]; omega
      · have hmW : m = W := by rw [← HWf.out]; exact (Fl.wid_end (by omega)).symm
        have t1 : decide ((m : Int) < 8 * (d : Int)) = false := by simp; omega
        have t3 : decide (m < 8 * d) = false := by simp; omega
        clear HM HWf HW
        subst hmW
        go_wp2_with fail
        go_ret
        exact ⟨rfl, rfl⟩
    · have hmW : m = W := by rw [← HWf.out]; exact (Fl.wid_end (by omega)).symm
      have t2 : decide ((m : Int) < 65536) = false := by simp; omega
      have t4 : decide (m < 65536) = false := by simp; omega
      clear HM HWf HW
      subst hmW
      go_wp2_with fail
      go_ret
      exact ⟨rfl, rfl⟩
theorem pow_small {r : Nat} (h : r < 8) : 2 ^ r < 256 := Nat.lt_of_lt_of_le (Nat.pow_lt_pow_right (by omega) h) (by decide)
set_option maxRecDepth 100000 in
set_option maxHeartbeats 2000000 in
theorem mask_is (p : Nat) (w : World) (hp : p < 65536) (sh : Nat) (hsh : 2 ^ (p % 8) = sh) :
    Calls Try.prog 26 #[.int .u64 p] w fun e w' => e = .returned (.int .u8 sh) ∧ w' = w := by
  obtain ⟨pr, hpr⟩ : ∃ pr, pr = p % 8 := ⟨_, rfl⟩
  have hpr8 : pr < 8 := by omega
  have hpri : (p : Int) % 8 = (pr : Int) := by omega
  rw [← hpr] at hsh
  have hsh8 : sh < 256 := by rw [← hsh]; exact pow_small hpr8
  have hshi : (2 : Int) ^ pr % 256 = (sh : Int) := by
    have e : (2 : Int) ^ pr = ((2 ^ pr : Nat) : Int) := by simp
    rw [e, hsh]; omega
  clear hsh hpr
  go_enter Try.func26, Try.ntmps26
  go_wp2_with fail
  go_ret
  refine ⟨?_, rfl⟩
  rw [hshi]
  rfl
set_option maxRecDepth 100000 in
set_option maxHeartbeats 2000000 in
theorem rsize_is (n : Nat) (w : World) (hn : n < 18446744073709551616) (r : Bool) (hr : Fl.sizeB n = r) :
    Calls Try.prog 31 #[.int .u64 n] w fun e w' => e = .returned (.bool r) ∧ w' = w := by
  by_cases h0 : n = 0
  · subst h0
    have hrf : r = false := by rw [← hr]; exact Fl.sizeB_small (by omega)
    subst hrf
    have hand : bits .and .u64 0 18446744073709551615 = 0 := by
      have h := (bits_nat .u64 64 (by decide) I.wraps64 0 18446744073709551615 (by omega) (by omega)).1
      simpa using h
    clear hr
    go_enter Try.func31, Try.ntmps31
    go_wp2_with fail
    go_ret
    exact ⟨rfl, rfl⟩
  · obtain ⟨A, hA⟩ : ∃ A, A = n &&& (n - 1) := ⟨_, rfl⟩
    have hand : bits .and .u64 (n : Int) ((n : Int) - 1) = (A : Int) := by
      have h := (bits_nat .u64 64 (by decide) I.wraps64 n (n - 1) (by omega) (by omega)).1
      rw [show ((n - 1 : Nat) : Int) = (n : Int) - 1 from by omega, ← hA] at h
      exact h
    obtain ⟨z, hz⟩ : ∃ z, decide (A = 0) = z := ⟨_, rfl⟩
    have hz2 : ((A : Int) == 0) = z := by rw [← hz, Bool.eq_iff_iff]; simp
    have HZ : Hid (decide (A = 0) = z) := hz
    have HA : Hid (A = n &&& (n - 1)) := hA
    have HR : Hid (Fl.sizeB n = r) := hr
    clear hz hA hr
    cases z with
    | false =>
      have hrf : r = false := by
        rw [← HR.out]
        cases hs : Fl.sizeB n with
        | false => rfl
        | true =>
          have hw := Fl.sizeB_iff.1 hs
          have hb := hw.bounds
          have h1 := (Fl.isW_and hb.1 hb.2.1).2 hw
          rw [← HA.out] at h1
          have := HZ.out
          rw [h1] at this
          simp at this
      subst hrf
      go_enter Try.func31, Try.ntmps31
      go_wp2_with fail
      go_ret
      exact ⟨rfl, rfl⟩
    | true =>
      have hA0 : A = 0 := by simpa using HZ.out
      by_cases h64 : 64 ≤ n
      · have t1 : decide ((64 : Int) ≤ (n : Int)) = true := by simp; omega
        have t1n : decide (64 ≤ n) = true := by simp; omega
        by_cases hbig : n ≤ 65536
        · have t2 : decide ((n : Int) ≤ 65536) = true := by simp; omega
          have t2n : decide (n ≤ 65536) = true := by simp; omega
          have hrt : r = true := by
            rw [← HR.out]
            exact Fl.sizeB_iff.2 ((Fl.isW_and h64 hbig).1 (by rw [← HA.out, hA0]))
          subst hrt
          clear hA0
          go_enter Try.func31, Try.ntmps31
          go_wp2_with fail
          go_ret
          exact ⟨rfl, rfl⟩
        · have t2 : decide ((n : Int) ≤ 65536) = false := by simp; omega
          have t2n : decide (n ≤ 65536) = false := by simp; omega
          have hrf : r = false := by rw [← HR.out]; exact Fl.sizeB_big (by omega)
          subst hrf
          clear hA0
          go_enter Try.func31, Try.ntmps31
          go_wp2_with fail
          go_ret
          exact ⟨rfl, rfl⟩
      · have t1 : decide ((64 : Int) ≤ (n : Int)) = false := by simp; omega
        have t1n : decide (64 ≤ n) = false := by simp; omega
        have hrf : r = false := by rw [← HR.out]; exact Fl.sizeB_small (by omega)
        subst hrf
        clear hA0
        go_enter Try.func31, Try.ntmps31
        go_wp2_with fail
        go_ret
        exact ⟨rfl, rfl⟩
set_option maxRecDepth 100000 in
set_option maxHeartbeats 2000000 in
theorem right_is (k : Int) (a : Option Addr) (n cap : Nat) (w : World) (hn : n ≤ 281474976710656) (hk1 : -9223372036854775808 ≤ k) (hk2 : k ≤ 9223372036854775807) (r : Bool) (hr : Fl.rightB k n = r) :
    Calls Try.prog 14 #[fv k (.slice a n cap)] w fun e w' => e = .returned (.bool r) ∧ Ex w w' := by
  have HF : Hid (FAt (w.alloc (fb k (.slice a n cap) 25)) w.heap.size k (.slice a n cap) 25) := FAt.new w k _ 25
  obtain ⟨c0, c1⟩ := HF.out.all
  by_cases hneg : k < 0
  · obtain ⟨u, hu⟩ : ∃ u : Nat, (u : Int) = k + 18446744073709551616 := ⟨(k + 18446744073709551616).toNat, by omega⟩
    have HU : Hid (IntKind.u64.wrap k = (u : Int)) := (by rw [I.w64]; omega : IntKind.u64.wrap k = (u : Int))
    have hrf : r = false := by rw [← hr]; exact Fl.right_neg hneg
    subst hrf
    have hsz : Fl.sizeB u = false := Fl.sizeB_big (by omega)
    have HS : Hid (Fl.sizeB u = false) := hsz
    have hu64 : u < 18446744073709551616 := by omega
    clear hsz hr hu
    unfold fv
    go_enter Try.func14, Try.ntmps14
    go_wp2_with fail
    rw [HU.out]
    refine (rsize_is u _ hu64 false HS.out).mono ?_
    rintro e w1 ⟨rfl, hw⟩
    have hw' := hw.symm; clear hw; subst hw'
    go_wp2_with fail
    go_ret
    exact ⟨rfl, (Below.refl _ _).alloc (Nat.le_refl _) _⟩
  · obtain ⟨m, rfl⟩ : ∃ m : Nat, k = (m : Int) := ⟨k.toNat, by omega⟩
    rw [Fl.right_form] at hr
    obtain ⟨z, hz⟩ : ∃ z, Fl.sizeB m = z := ⟨_, rfl⟩
    rw [hz] at hr
    have HZ : Hid (Fl.sizeB m = z) := hz
    clear hz
    obtain ⟨m8, hm8⟩ : ∃ m8, m8 = m / 8 := ⟨_, rfl⟩
    have hm8i : (m : Int) / 8 = (m8 : Int) := by omega
    rw [← hm8] at hr
    have hm8l : m8 ≤ 9223372036854775807 := by omega
    have HR : Hid ((z && decide (n = m8)) = r) := hr
    clear hr hm8
    cases z with
    | false =>
      have hrf : r = false := by rw [← HR.out]; rfl
      subst hrf
      unfold fv
      go_enter Try.func14, Try.ntmps14
      go_wp2_with fail
      refine (rsize_is m _ (by omega) false HZ.out).mono ?_
      rintro e w1 ⟨rfl, hw⟩
      have hw' := hw.symm; clear hw; subst hw'
      go_wp2_with fail
      go_ret
      exact ⟨rfl, (Below.refl _ _).alloc (Nat.le_refl _) _⟩
    | true =>
      have hrn : ((n : Int) == (m8 : Int)) = r := by rw [← HR.out, Bool.eq_iff_iff]; simp; omega
      have hrn2 : (n == m8) = r := by rw [← HR.out, Bool.eq_iff_iff]; simp
      unfold fv
      go_enter Try.func14, Try.ntmps14
      go_wp2_with fail
      refine (rsize_is m _ (by omega) true HZ.out).mono ?_
      rintro e w1 ⟨rfl, hw⟩
      have hw' := hw.symm; clear hw; subst hw'
      go_wp2_with fail
      go_ret
      exact ⟨rfl, (Below.refl _ _).alloc (Nat.le_refl _) _⟩
end Go.Proofs.Ytadcbefgleiijaa
