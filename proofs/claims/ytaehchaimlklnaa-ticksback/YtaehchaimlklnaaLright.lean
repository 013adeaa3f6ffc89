/-
  Of the landed ticks: Right.
-/
import Derived.Test.YtaehchaimlklnaaLris
namespace Go.Proofs.Ytaehchaimlklnaa
open Go.RowKit
set_option linter.unusedVariables false
set_option linter.unusedSimpArgs false
theorem wrap_rows {r : Int} (h1 : -9223372036854775808 ≤ r) (h2 : r ≤ 9223372036854775807) : decide (IntKind.u64.wrap r ≤ 1048576) = decide (0 ≤ r ∧ r ≤ 1048576) := by
  have e : IntKind.u64.wrap r = r % 18446744073709551616 := rfl
  rw [e, decide_eq_decide]
  omega
/-- Right, as the landed code asks it: whether the times rise is asked of none too. -/
theorem Tk.right_top (r m : Int) (A : List Int) : Tk.right ⟨r, m, A⟩ = (decide (0 ≤ r ∧ r ≤ 1048576) && decide ((A.length : Int) = (r + 3) / 4) && decide (Tk.Rise A) && (if r = 0 then decide (m = 0) else (decide (Tk.lst A = m) || decide (Tk.lst A < m) && !decide (r % 4 = 1)))) := by
  rw [Bool.eq_iff_iff]
  unfold Tk.right
  simp only
  by_cases h0 : r = 0
  · subst h0
    simp only [if_true, Bool.and_eq_true, decide_eq_true_eq]
    constructor
    · rintro ⟨⟨h1, h2, h3⟩, h4⟩
      have : A = [] := List.eq_nil_of_length_eq_zero (by omega)
      subst this
      exact ⟨⟨⟨⟨by omega, by omega⟩, h3⟩, fun j hj => by simp at hj⟩, h4⟩
    · rintro ⟨⟨⟨h1, h2⟩, _⟩, h4⟩
      exact ⟨⟨h1.1, h1.2, h2⟩, h4⟩
  · simp only [h0, if_false, Bool.and_eq_true, Bool.or_eq_true, decide_eq_true_eq, Bool.not_eq_true', decide_eq_false_iff_not]
    constructor
    · rintro ⟨⟨h1, h2, h3⟩, ⟨h4, h5⟩, h6⟩
      refine ⟨⟨⟨⟨h1, h2⟩, h3⟩, h4⟩, ?_⟩
      omega
    · rintro ⟨⟨⟨⟨h1, h2⟩, h3⟩, h4⟩, h5⟩
      refine ⟨⟨h1, h2, h3⟩, ⟨h4, ?_⟩, ?_⟩ <;> omega
set_option maxRecDepth 100000 in
set_option maxHeartbeats 4000000 in
theorem lright_is (r m : Int) (a : Option Addr) (n cap : Nat) (A : List Int) (w : World) (hn : n = A.length) (hB : Rd z64 w a cap A) (hr1 : -9223372036854775808 ≤ r) (hr2 : r ≤ 9223372036854775807) (b : Bool) (hb : Tk.right ⟨r, m, A⟩ = b) :
    Calls Try.prog 17 #[xv r m (.slice a n cap)] w fun e w' => e = .returned (.bool b) ∧ Ex w w' := by
  subst hn
  have hcl := hB.1
  have hcm := hB.2.1
  unfold maxLen at hcm
  have HB : Hid (Rd z64 w a cap A) := hB
  have hxa : Ex w (w.alloc (xb r m (.slice a A.length cap) 24)) := (Below.refl _ _).alloc (Nat.le_refl _) _
  have hF := XAt.new w r m (.slice a A.length cap) 24
  obtain ⟨wa, hwa⟩ : ∃ wa, w.alloc (Obj.cells #[Value.int IntKind.i64 r, Value.int IntKind.i64 m, Value.slice a A.length cap] 24) = wa := ⟨_, rfl⟩
  have HXa : Hid (Ex w wa) := (by rw [← hwa]; exact hxa : Ex w wa)
  have HF : Hid (XAt wa w.heap.size r m (.slice a A.length cap) 24) := (by rw [← hwa]; exact hF : XAt wa w.heap.size r m (.slice a A.length cap) 24)
  obtain ⟨f0, f1, f2⟩ := HF.out.all
  rw [Tk.right_top] at hb
  have HW := wrap_rows hr1 hr2
  clear hB hxa hF
  by_cases c1 : 0 ≤ r ∧ r ≤ 1048576
  · have hd1 : decide (0 ≤ r ∧ r ≤ 1048576) = true := decide_eq_true c1
    rw [hd1, Bool.true_and] at hb
    rw [hd1] at HW
    have HU : Hid (decide (IntKind.u64.wrap r ≤ 1048576) = true) := HW
    obtain ⟨q, hq⟩ : ∃ q : Nat, (r + 3) / 4 = (q : Int) := ⟨((r + 3) / 4).toNat, by omega⟩
    rw [hq] at hb
    have HQ : Hid ((r + 3) / 4 = (q : Int)) := hq
    obtain ⟨hr0, hr3⟩ := c1
    have hqb : q ≤ 262144 := by omega
    clear HW hd1
    by_cases c3 : A.length = q
    · have t3 : ((A.length : Int) != (q : Int)) = false := by simp; omega
      have hd : decide ((A.length : Int) = (q : Int)) = true := decide_eq_true (by omega)
      rw [hd, Bool.true_and] at hb
      have c3a : A.length ≤ q := by omega
      have c3b : q ≤ A.length := by omega
      clear c3 hd
      obtain ⟨d, hd⟩ : ∃ d, decide (Tk.Rise A) = d := ⟨_, rfl⟩
      rw [hd] at hb
      have HD : Hid (decide (Tk.Rise A) = d) := hd
      clear hd
      cases d with
      | false =>
        rw [Bool.false_and] at hb
        subst hb
        clear hq
        unfold xv
        go_enter Try.func17, Try.ntmps17
        go_wp2_with fail
        go_quiet (first | (go_at_call 35; refine Calls.quiet_of_same (rrows_is _ _ true HU.out)) | (go_at_call 25; refine Calls.quiet_of_same (times_is r _ hr0 hr3 _ HQ.out)) | (go_at_call 24; refine Calls.quiet_of (rises_is a A.length cap A _ rfl (HB.out.below (HXa.out.trans (Ex.drewN _ _))) false HD.out)))
        go_wp2_with fail
        go_ret
        exact ⟨rfl, HXa.out.trans (Ex.drewN _ _)⟩
      | true =>
        rw [Bool.true_and] at hb
        by_cases c0 : r = 0
        · have t4 : (r == 0) = true := by simpa using c0
          rw [if_pos c0] at hb
          have HBm : Hid (decide (m = 0) = b) := hb
          clear c0 hb hq
          unfold xv
          go_enter Try.func17, Try.ntmps17
          go_wp2_with fail
          go_quiet (first | (go_at_call 35; refine Calls.quiet_of_same (rrows_is _ _ true HU.out)) | (go_at_call 25; refine Calls.quiet_of_same (times_is r _ hr0 hr3 _ HQ.out)) | (go_at_call 24; refine Calls.quiet_of (rises_is a A.length cap A _ rfl (HB.out.below (HXa.out.trans (Ex.drewN _ _))) true HD.out)))
          go_wp2_with fail
          go_ret
          refine ⟨I.ret_bool ?_, HXa.out.trans (Ex.drewN _ _)⟩
          rw [← HBm.out]
          rfl
        · have t4 : (r == 0) = false := by simpa using c0
          rw [if_neg c0] at hb
          have hq0 : 1 ≤ q := by omega
          obtain ⟨j1, hj1'⟩ : ∃ j1 : Nat, j1 = A.length - 1 := ⟨_, rfl⟩
          have hj1i : (A.length : Int) - 1 = (j1 : Int) := by omega
          have hj1l : j1 < A.length := by omega
          obtain ⟨bb, off, rfl, hc2⟩ := (HB.out.below HXa.out).at0 hj1l
          obtain ⟨z, hz⟩ : ∃ z, Tk.at0 A j1 = z := ⟨_, rfl⟩
          have hzl : Tk.lst A = z := by unfold Tk.lst; rw [← hj1', hz]
          rw [hz] at hc2
          rw [hzl] at hb
          obtain ⟨r4, hr4⟩ : ∃ r4 : Int, r % 4 = r4 := ⟨_, rfl⟩
          rw [hr4] at hb
          have hr4t : r.tmod 4 = r4 := by rw [Int.tmod_eq_emod_of_nonneg hr0]; exact hr4
          have HR4 : Hid (r % 4 = r4) := hr4
          have HBb : Hid ((decide (z = m) || decide (z < m) && !decide (r4 = 1)) = b) := hb
          clear hb hz hzl hj1' hr4 hq c0
          obtain ⟨u1, hu1⟩ : ∃ u : Bool, (z == m) = u := ⟨_, rfl⟩
          obtain ⟨u2, hu2⟩ : ∃ u : Bool, decide (z < m) = u := ⟨_, rfl⟩
          obtain ⟨u3, hu3⟩ : ∃ u : Bool, (r4 == 1) = u := ⟨_, rfl⟩
          have HV : Hid ((u1 || u2 && !u3) = b) := (by rw [← hu1, ← hu2, ← hu3]; exact HBb.out : (u1 || u2 && !u3) = b)
          unfold xv
          go_enter Try.func17, Try.ntmps17
          go_wp2_with fail
          go_quiet (first | (go_at_call 35; refine Calls.quiet_of_same (rrows_is _ _ true HU.out)) | (go_at_call 25; refine Calls.quiet_of_same (times_is r _ hr0 hr3 _ HQ.out)) | (go_at_call 24; refine Calls.quiet_of (rises_is _ A.length cap A _ rfl (HB.out.below (HXa.out.trans (Ex.drewN _ _))) true HD.out)))
          cases u1 <;> cases u2 <;> cases u3 <;> (go_wp2_with fail) <;> go_ret <;> exact ⟨by rw [← HV.out]; rfl, HXa.out.trans (Ex.drewN _ _)⟩
    · have t3 : ((A.length : Int) != (q : Int)) = true := by simp; omega
      have hd : decide ((A.length : Int) = (q : Int)) = false := decide_eq_false (by omega)
      rw [hd, Bool.false_and, Bool.false_and] at hb
      subst hb
      clear hq hd
      unfold xv
      go_enter Try.func17, Try.ntmps17
      go_wp2_with fail
      go_quiet (first | (go_at_call 35; refine Calls.quiet_of_same (rrows_is _ _ true HU.out)) | (go_at_call 25; refine Calls.quiet_of_same (times_is r _ hr0 hr3 _ HQ.out)))
      go_wp2_with fail
      go_ret
      exact ⟨rfl, HXa.out.trans (Ex.drewN _ _)⟩
  · have hd1 : decide (0 ≤ r ∧ r ≤ 1048576) = false := decide_eq_false c1
    rw [hd1, Bool.false_and, Bool.false_and, Bool.false_and] at hb
    rw [hd1] at HW
    have HU : Hid (decide (IntKind.u64.wrap r ≤ 1048576) = false) := HW
    subst hb
    clear HW hd1 c1
    unfold xv
    go_enter Try.func17, Try.ntmps17
    go_wp2_with fail
    go_quiet ((go_at_call 35; refine Calls.quiet_of_same (rrows_is _ _ false HU.out)))
    go_wp2_with fail
    go_ret
    exact ⟨rfl, HXa.out.trans (Ex.drewN _ _)⟩
end Go.Proofs.Ytaehchaimlklnaa
