/-
  Join over the program.
-/
import Derived.Test.YtnfbmffafclaaaaRright
namespace Go.Proofs.Ytnfbmffafclaaaa
open Go.RowKit
set_option linter.unusedVariables false
set_option maxHeartbeats 4000000 in
set_option maxRecDepth 100000 in
theorem rjoin_is (a b : Zn) (w : World) (h1 : a.ms.length ≤ maxLen) (h2 : a.xs.length ≤ maxLen) (h3 : b.ms.length ≤ maxLen) (h4 : b.xs.length ≤ maxLen) (r : Zn) (n : Nat) (hr : Z.join a b = (r, n)) :
    Calls Try.prog 15 #[zv a, zv b] w fun e w' => e = .returned (.tuple #[zv r, .int .i64 n]) ∧ Ex w w' := by
  have HR : Hid (Z.join a b = (r, n)) := hr
  clear hr
  obtain ⟨ra, hra⟩ : ∃ x, Z.right a = x := ⟨_, rfl⟩
  obtain ⟨rb, hrb⟩ : ∃ x, Z.right b = x := ⟨_, rfl⟩
  obtain ⟨b1, hb1⟩ : ∃ x, (a.k != b.k) = x := ⟨_, rfl⟩
  have Hra : Hid (Z.right a = ra) := hra
  have Hrb : Hid (Z.right b = rb) := hrb
  have Hb1 : Hid ((a.k != b.k) = b1) := hb1
  clear hra hrb
  unfold zv
  go_enter Try.func15, Try.ntmps15
  cases b1 with
  | true =>
    have hr := HR.out
    have hk : ¬ a.k = b.k := by simpa using hb1
    simp [Z.join, hk] at hr
    obtain ⟨rfl, rfl⟩ := hr
    clear hk
    go_wp2_with fail
    exact bodyPost_ret (v := .tuple #[zv Z.zero, .int .i64 22]) (by simp [results, Try.results15, go_sem, zv, Z.zero, str]) rfl ⟨by simp [zv], by (repeat' (first | exact Below.refl _ _ | refine Below.alloc ?_ (by simp <;> omega) _))⟩
  | false =>
    have hk : a.k = b.k := by simpa using hb1
    have HK : Hid (a.k = b.k) := hk
    clear hk
    go_wp2_with fail
    refine (rrightE a _ h1 h2 ra Hra.out).mono ?_
    rintro e w' ⟨rfl, rfl⟩
    cases ra with
    | false =>
      have hr := HR.out
      simp [Z.join, HK.out, Hra.out] at hr
      obtain ⟨rfl, rfl⟩ := hr
      go_wp2_with fail
      exact bodyPost_ret (v := .tuple #[zv Z.zero, .int .i64 1]) (by simp [results, Try.results15, go_sem, zv, Z.zero, str]) rfl ⟨by simp [zv], by (repeat' (first | exact Below.refl _ _ | refine Below.alloc ?_ (by simp <;> omega) _))⟩
    | true =>
      go_wp2_with fail
      refine (rrightE b _ h3 h4 rb Hrb.out).mono ?_
      rintro e w' ⟨rfl, rfl⟩
      cases rb with
      | false =>
        have hr := HR.out
        simp [Z.join, HK.out, Hra.out, Hrb.out] at hr
        obtain ⟨rfl, rfl⟩ := hr
        go_wp2_with fail
        exact bodyPost_ret (v := .tuple #[zv Z.zero, .int .i64 1]) (by simp [results, Try.results15, go_sem, zv, Z.zero, str]) rfl ⟨by simp [zv], by (repeat' (first | exact Below.refl _ _ | refine Below.alloc ?_ (by simp <;> omega) _))⟩
      | true =>
        obtain ⟨pa1, pa2, pa3⟩ := Z.right_rows Hra.out
        obtain ⟨pb1, pb2, pb3⟩ := Z.right_rows Hrb.out
        have hw64 : wrap64 (a.r + b.r) = a.r + b.r := by unfold wrap64; omega
        have hw65 : wrap64 (a.u + b.u) = a.u + b.u := by unfold wrap64; omega
        by_cases hm : 1048576 < a.r + b.r
        · have hr := HR.out
          simp [Z.join, HK.out, Hra.out, Hrb.out, hm] at hr
          obtain ⟨rfl, rfl⟩ := hr
          go_wp2_with fail
          exact bodyPost_ret (v := .tuple #[zv Z.zero, .int .i64 1]) (by simp [results, Try.results15, go_sem, zv, Z.zero, str]) rfl ⟨by simp [zv], by (repeat' (first | exact Below.refl _ _ | refine Below.alloc ?_ (by simp <;> omega) _))⟩
        have hr : (Z.both a b, 0) = (r, n) := by
          rw [← HR.out]; simp [Z.join, HK.out, Hra.out, Hrb.out, hm]
        obtain ⟨hr1, hr2⟩ := Prod.mk.inj hr
        have HB : Hid (Z.both a b = r) := hr1
        subst hr2
        clear hr hr1 HR
        have za := str_toList a.ms
        have zb' := str_toList b.ms
        have zc := str_toList a.xs
        have zd := str_toList b.xs
        have g4 := le_form b.xs a.xs
        by_cases ha : a.u < a.r
        · have t1 : (a.r == a.u) = false := by simp; omega
          have hne : ¬ a.r = a.u := by omega
          have HE : Hid (¬ a.r = a.u) := hne
          clear hne
          by_cases hbr : b.u < b.r
          · have hr := HB.out
            simp only [Z.both, if_neg HE.out, ha, hbr, and_self, if_true] at hr
            have HB2 : Hid (_ = r) := hr
            clear hr HB
            by_cases q1 : b.mn < a.mn <;> by_cases q2 : a.mx < b.mx <;> cases q3 : Op.bytesLess b.ms a.ms <;> cases q4 : Op.bytesLess a.xs b.xs
            all_goals (
              have hr := HB2.out
              simp only [T.lt, q1, q2, q3, q4, if_true, if_false, Bool.false_eq_true] at hr
              subst hr
              simp only [T.lt, q4, Bool.not_true, Bool.not_false] at g4
              clear HB2
              go_wp2_with fail
              refine bodyPost_ret ?_ rfl ⟨rfl, by (repeat' (first | exact Below.refl _ _ | refine Below.alloc ?_ (by simp <;> omega) _))⟩; simp [results, Try.results15, go_sem])
          · have hr := HB.out
            simp only [Z.both, if_neg HE.out, ha, hbr, and_false, if_false] at hr
            subst hr
            clear HB g4
            go_wp2_with fail
            refine bodyPost_ret ?_ rfl ⟨rfl, by (repeat' (first | exact Below.refl _ _ | refine Below.alloc ?_ (by simp <;> omega) _))⟩; simp [results, Try.results15, go_sem]
        · have t1 : (a.r == a.u) = true := by simp; omega
          have HE : Hid (a.r = a.u) := by show a.r = a.u; omega
          have hr := HB.out
          simp only [Z.both, if_pos HE.out, ha, false_and, if_false] at hr
          subst hr
          clear HB g4
          go_wp2_with fail
          refine bodyPost_ret ?_ rfl ⟨rfl, by (repeat' (first | exact Below.refl _ _ | refine Below.alloc ?_ (by simp <;> omega) _))⟩; simp [results, Try.results15, go_sem]
end Go.Proofs.Ytnfbmffafclaaaa
