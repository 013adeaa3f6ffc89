/-
  The walk of TicksSpan.
-/
import Derived.Test.YtaehchaimlklnaaTicksNarrowWalk
namespace Go.Proofs.Ytaehchaimlklnaa.ticksSpan
open Go.RowKit Go.Proofs.Ytaehchaimlklnaa
set_option linter.unusedVariables false
set_option linter.unusedSimpArgs false
set_option maxRecDepth 100000 in
set_option maxHeartbeats 8000000 in
theorem walk (a0 : Int) (p1 : Option Addr) (c1 : Nat) (l1 : List Int) (a2 : Int) (a3 : Int) (w : World) (w0 : -9223372036854775808 ≤ a0 ∧ a0 ≤ 9223372036854775807) (b1 : Rd z64 w p1 c1 l1) (m1 : ∀ x ∈ l1, In64 x) (w1 : l1.length ≤ 17592186043904) (w2 : -9223372036854775808 ≤ a2 ∧ a2 ≤ 9223372036854775807) (w3 : -9223372036854775808 ≤ a3 ∧ a3 ≤ 9223372036854775807) :
    Calls Try.prog 5 #[.int .i64 a0, .slice p1 l1.length c1, .int .i64 a2, .int .i64 a3] w fun e w' => e = .returned (.bool true) ∧ Below w.heap.size w w' := by
  obtain ⟨w01, w02⟩ := w0
  obtain ⟨w21, w22⟩ := w2
  obtain ⟨w31, w32⟩ := w3
  have HB1 : Hid (Rd z64 w p1 c1 l1) := b1
  have HM1 : Hid (∀ x ∈ l1, D.ok x) := (fun x hx => m1 x hx : ∀ x ∈ l1, D.ok x)
  obtain ⟨B, hb⟩ : ∃ B, a0.tmod 1099511627776 = B := ⟨_, rfl⟩
  have hb1 : -1099511627776 < B := by rw [← hb]; exact Int.lt_tmod_of_pos a0 (by omega)
  have hb2 : B < 1099511627776 := by rw [← hb]; exact Int.tmod_lt_of_pos a0 (by omega)
  clear b1 m1
  go_enter Try.func5, Try.ntmps5
  go_wp2_with fail
  refine (rising_is a0 p1 _ c1 l1 _ rfl HB1.out HM1.out ⟨w01, w02⟩ B hb).mono ?_
  rintro e wa ⟨pl, cl, l, rfl, hrl, hRi, hll, hrange, hxa⟩
  have hcl := hrl.1
  have hcm := hrl.2.1
  unfold maxLen at hcm
  have HRl : Hid (Rd z64 wa pl cl l) := hrl
  have hlok : ∀ x ∈ l, D.ok x := fun x hx => by have := hrange x hx; exact ⟨by omega, by omega⟩
  have HLok : Hid (∀ x ∈ l, D.ok x) := hlok
  have HXa : Hid (Ex w wa) := hxa
  have HEok : Hid (∀ x ∈ Tk.evs l, D.ok x) := (fun x hx => hlok x (Tk.evs_mem hx) : ∀ x ∈ Tk.evs l, D.ok x)
  obtain ⟨M, hM⟩ : ∃ M, Tk.lst l = M := ⟨_, rfl⟩
  have HMok : Hid (D.ok M) := (by rw [← hM]; exact Tk.lst_ok hlok : D.ok M)
  obtain ⟨A, hA⟩ : ∃ A, Tk.evs l = A := ⟨_, rfl⟩
  have hAl : A.length = (l.length + 3) / 4 := by rw [← hA]; exact Tk.evs_len l
  have hix : Tk.ix l = ⟨l.length, M, A⟩ := by unfold Tk.ix; rw [hM, hA]
  have hbuild := Tk.build_ix (show l.length ≤ 1048576 by omega) hRi
  rw [hix] at hbuild
  have HBu : Hid (Tk.build l = (⟨l.length, M, A⟩, 0)) := hbuild
  rw [hA] at HEok
  have hright := Tk.right_ix (l := l) (by omega) hRi
  have hout := Tk.span_out (l := l) (by omega) hRi
  rw [hix] at hright
  rw [hix] at hout
  have HRt : Hid (Tk.right ⟨l.length, M, A⟩ = true) := hright
  have HOut : Hid (∀ lo hi, (Tk.span ⟨l.length, M, A⟩ lo hi).1 ≤ (Tk.span ⟨l.length, M, A⟩ lo hi).2 ∧ (Tk.span ⟨l.length, M, A⟩ lo hi).2 ≤ l.length ∧ ∀ k, k < l.length → lo ≤ Tk.at0 l k → Tk.at0 l k ≤ hi → (Tk.span ⟨l.length, M, A⟩ lo hi).1 ≤ k ∧ k < (Tk.span ⟨l.length, M, A⟩ lo hi).2) := hout
  have hA60 : A.length ≤ 15 := by omega
  have HLm : Hid (D.ok (l.length : Int)) := (⟨by omega, by omega⟩ : D.ok (l.length : Int))
  clear hrl hlok hxa hM hA hAl hix hbuild hright hout hRi hrange
  go_wp2_with fail
  refine (t_build pl l.length cl l _ rfl HRl.out HLok.out (by omega) ⟨l.length, M, A⟩ 0 HBu.out).mono ?_
  rintro e wb ⟨p2, c2, rfl, hr2, hx2⟩
  have hcl2 := hr2.1
  have hcm2 := hr2.2.1
  unfold maxLen at hcm2
  simp only at hr2 hcl2
  obtain ⟨wc, hwc⟩ : ∃ wc, wb.alloc (Obj.cells #[Value.int IntKind.i64 l.length, Value.int IntKind.i64 M, Value.slice p2 A.length c2] 24) = wc := ⟨_, rfl⟩
  have hxc : Ex wb wc := by rw [← hwc]; exact (Below.refl _ _).alloc (Nat.le_refl _) _
  have HFc : Hid (XAt wc wb.heap.size l.length M (.slice p2 A.length c2) 24) := (by rw [← hwc]; exact XAt.new wb l.length M _ 24 : XAt wc wb.heap.size l.length M (.slice p2 A.length c2) 24)
  have HRc : Hid (Rd z64 wc p2 c2 A) := hr2.below hxc
  have HXc : Hid (Ex w wc) := (HXa.out.trans hx2).trans hxc
  obtain ⟨g0, g1, g2⟩ := HFc.out.all
  have HRlc : Hid (Rd z64 wc pl cl l) := HRl.out.below (hx2.trans hxc)
  clear hr2 hx2 hxc
  simp only [xv]
  go_wp2_with fail
  refine (t_right l.length M _ _ c2 A _ rfl HRc.out HEok.out (by omega) HLm.out HMok.out true HRt.out).mono ?_
  rintro e wd ⟨rfl, hxd⟩
  have HRd : Hid (Rd z64 wd p2 c2 A) := HRc.out.below hxd
  have HRld : Hid (Rd z64 wd pl cl l) := HRlc.out.below hxd
  have HFd : Hid (XAt wd wb.heap.size l.length M (.slice p2 A.length c2) 24) := HFc.out.below hxd
  have HXd : Hid (Ex w wd) := HXc.out.trans hxd
  clear hxd g0 g1 g2
  obtain ⟨g0, g1, g2⟩ := HFd.out.all
  go_wp2_with fail
  refine (within_any a2 300 _ w21 w22 (by omega) (by omega)).mono ?_
  rintro e wq ⟨r1, hr1, rfl, hw⟩
  have hw' := hw.symm; clear hw; subst hw'
  obtain ⟨P, hP⟩ : ∃ P, B + (r1 : Int) - 20 = P := ⟨_, rfl⟩
  have hP1 : -1099511627796 ≤ P := by omega
  have hP2 : P ≤ 1099511628076 := by omega
  go_wp2_with fail
  refine (within_any a3 300 _ w31 w32 (by omega) (by omega)).mono ?_
  rintro e wq ⟨r2, hr2, rfl, hw⟩
  have hw' := hw.symm; clear hw; subst hw'
  obtain ⟨Q, hQ⟩ : ∃ Q, B + (r2 : Int) - 20 = Q := ⟨_, rfl⟩
  have hQ1 : -1099511627796 ≤ Q := by omega
  have hQ2 : Q ≤ 1099511628076 := by omega
  have ho := HOut.out P Q
  obtain ⟨i, j, hs1⟩ : ∃ i j, Tk.span ⟨l.length, M, A⟩ P Q = (i, j) := ⟨_, _, rfl⟩
  rw [hs1] at ho
  simp only at ho
  obtain ⟨ho1, ho2, ho3⟩ := ho
  have HO3 : Hid (∀ k, k < l.length → P ≤ Tk.at0 l k → Tk.at0 l k ≤ Q → i ≤ k ∧ k < j) := ho3
  have HS1 : Hid (Tk.span ⟨l.length, M, A⟩ P Q = (i, j)) := hs1
  clear ho3 hs1 HOut
  go_wp2_with fail
  refine (t_span l.length M _ _ c2 A P Q _ rfl HRd.out HEok.out (by omega) HLm.out HMok.out ⟨by omega, by omega⟩ ⟨by omega, by omega⟩ i j HS1.out).mono ?_
  rintro e we ⟨rfl, hxe⟩
  have HRe : Hid (Rd z64 we pl cl l) := HRld.out.below hxe
  have HXe : Hid (Ex w we) := HXd.out.trans hxe
  clear hxe g0 g1 g2 hP hQ
  have t1 : decide ((i : Int) < 0) = false := by simp
  have t2 : decide ((j : Int) < (i : Int)) = false := by simp; omega
  have t3 : decide ((l.length : Int) < (j : Int)) = false := by simp; omega
  have t2n : decide (j < i) = false := by simp; omega
  have t3n : decide (l.length < j) = false := by simp; omega
  go_wp2_with fail
  go_loopw [17] (fun i wr => ∃ k : Nat, k ≤ l.length ∧ i = .int .i64 k ∧ Hid (Ex we wr)) (fun i _ => l.length - (intOf i).toNat)
  case atStart => exact ⟨0, by omega, rfl, Ex.refl _⟩
  case round =>
    obtain ⟨k, hk, rfl, HXr⟩ := hrel
    by_cases hlt : k < l.length
    · obtain ⟨bb, off, rfl, hc1⟩ := (HRe.out.below HXr.out).at0 hlt
      have h3 := HO3.out k hlt
      obtain ⟨x, hx⟩ : ∃ x, Tk.at0 l k = x := ⟨_, rfl⟩
      rw [hx] at hc1 h3
      have H3 : Hid (P ≤ x → x ≤ Q → i ≤ k ∧ k < j) := h3
      have tk : decide ((k : Int) < (l.length : Int)) = true := by simp; omega
      clear hx h3
      by_cases c1 : P ≤ x
      · have u1 : decide (P ≤ x) = true := decide_eq_true c1
        by_cases c2 : x ≤ Q
        · have u2 : decide (x ≤ Q) = true := decide_eq_true c2
          have hik := H3.out c1 c2
          obtain ⟨hi1, hi2⟩ := hik
          have u3 : decide ((k : Int) < (i : Int)) = false := by simp; omega
          have u4 : decide ((j : Int) ≤ (k : Int)) = false := by simp; omega
          have u3n : decide (k < i) = false := by simp; omega
          have u4n : decide (j ≤ k) = false := by simp; omega
          go_wp2_with fail
          go_roundw
          case rel => exact ⟨k + 1, by omega, by go_num, HXr⟩
          case measure => simp [intOf]; omega
        · have u2 : decide (x ≤ Q) = false := decide_eq_false c2
          go_wp2_with fail
          go_roundw
          case rel => exact ⟨k + 1, by omega, by go_num, HXr⟩
          case measure => simp [intOf]; omega
      · have u1 : decide (P ≤ x) = false := decide_eq_false c1
        go_wp2_with fail
        go_roundw
        case rel => exact ⟨k + 1, by omega, by go_num, HXr⟩
        case measure => simp [intOf]; omega
    · obtain rfl : k = l.length := by omega
      have tk : decide ((l.length : Int) < (l.length : Int)) = false := by simp
      go_wp2_with fail
      refine (known_any _).mono ?_
      rintro e wg ⟨rfl, hxg⟩
      go_wp2_with fail
      go_ret
      exact ⟨rfl, (HXe.out.trans HXr.out).trans hxg⟩
end Go.Proofs.Ytaehchaimlklnaa.ticksSpan
