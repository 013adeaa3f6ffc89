/-
  Package runs: what reads groups (readGroups), over the program.
-/
import Derived.Test.YtkhbkifofkjjnaaReads
namespace Go.Proofs.Ytkhbkifofkjjnaa
open Go.RowKit
set_option linter.unusedVariables false

/-- What readGroups answers. -/
def groupsR (b : List UInt8) (m c left D : Nat) : List Nat × Nat × Nat :=
  if 0 < D ∧ (b.length - m) / D < c then ([], 0, 10) else if c = 0 ∨ (left + 7) / 8 < c then ([], 0, 12) else (B.unpack D (8 * c) ((b.drop m).take (c * D)), m + c * D, 0)
set_option maxRecDepth 100000 in
set_option maxHeartbeats 2000000 in
theorem readGroups_is (a : Option Addr) (len cap : Nat) (b : List UInt8) (mi ci li : Int) (m c left D : Nat) (w : World) (hlen : len = b.length) (hB : Byt w a cap b) (hm : m ≤ b.length) (hbl : b.length ≤ 140737488355328) (h1 : mi = m) (h2 : ci = c) (h3 : li = left) (hc : c < 18446744073709551616) (hle : left ≤ 1048576) (hD : D ≤ 32) (y : List Nat) (k e0 : Nat) (hr : groupsR b m c left D = (y, k, e0)) :
    Calls Try.prog 53 #[.slice a len cap, .int .i64 mi, .int .u64 ci, .int .i64 li, .int .i64 D] w fun e w' => ∃ v, e = .returned (.tuple #[v, .int .i64 k, .int .i64 e0]) ∧ IsRd n64 y v w' ∧ Ex w w' := by
  subst hlen
  subst h1
  subst h2
  subst h3
  have hcl := hB.1
  have hcm := hB.2.1
  unfold maxLen at hcm
  obtain ⟨rr, hrr⟩ : ∃ rr, rr = b.length - m := ⟨_, rfl⟩
  obtain ⟨q, hq⟩ : ∃ q, q = rr / D := ⟨_, rfl⟩
  have hrri : (b.length : Int) - (m : Int) = (rr : Int) := by omega
  have hqi : (rr : Int) / (D : Int) = (q : Int) := by rw [hq]; simp
  have hqt : Int.tdiv (rr : Int) (D : Int) = (q : Int) := by rw [Int.tdiv_eq_ediv_of_nonneg (by omega), hqi]
  have hqr : q ≤ rr := by rw [hq]; exact Nat.div_le_self _ _
  have hrb : rr ≤ 140737488355328 := by omega
  obtain ⟨L8, hL8⟩ : ∃ L8, L8 = (left + 7) / 8 := ⟨_, rfl⟩
  have HL8 : Hid ((left + 7) / 8 = L8) := hL8.symm
  have hL8b : L8 ≤ 131073 := by omega
  unfold groupsR at hr
  rw [← hrr, ← hq, ← hL8] at hr
  have HB : Hid (Byt w a cap b) := hB
  have Hq : Hid (q = rr / D) := hq
  have Hrr : Hid (rr = b.length - m) := hrr
  clear hq hrr hL8 hB
  by_cases hD0 : 0 < D
  · have tD : decide (0 < (D : Int)) = true := by simp; omega
    have tD2 : decide (0 < D) = true := by simp; omega
    have hDi : ((D : Int) == 0) = false := by simp; omega
    by_cases q1 : q < c
    · rw [if_pos ⟨hD0, q1⟩] at hr
      simp only [Prod.mk.injEq] at hr
      obtain ⟨rfl, rfl, rfl⟩ := hr
      have t1 : decide ((q : Int) < (c : Int)) = true := by simp; omega
      have t2 : decide (q < c) = true := by simp; omega
      go_enter Try.func53, Try.ntmps53
      go_wp2
      go_ret3
      exact ⟨_, rfl, IsRd.nil _, Ex.refl _⟩
    · rw [if_neg (by omega)] at hr
      have t1 : decide ((q : Int) < (c : Int)) = false := by simp; omega
      have t2 : decide (q < c) = false := by simp; omega
      by_cases q2 : c = 0
      · rw [if_pos (.inl q2)] at hr
        simp only [Prod.mk.injEq] at hr
        obtain ⟨rfl, rfl, rfl⟩ := hr
        subst q2
        go_enter Try.func53, Try.ntmps53
        go_wp2
        go_ret3
        exact ⟨_, rfl, IsRd.nil _, Ex.refl _⟩
      · have tc : ((c : Int) == 0) = false := by simp; omega
        have tc0 : decide (c = 0) = false := by simp; omega
        by_cases q3 : L8 < c
        · rw [if_pos (.inr q3)] at hr
          simp only [Prod.mk.injEq] at hr
          obtain ⟨rfl, rfl, rfl⟩ := hr
          have tc2 : decide (L8 < c) = true := by simp; omega
          have tc3 : decide ((L8 : Int) < (c : Int)) = true := by simp; omega
          go_enter Try.func53, Try.ntmps53
          go_wp2_with fail
          refine (groupsOf_is _ left _ rfl (by omega) L8 HL8.out).mono ?_
          rintro e wq ⟨rfl, hw'⟩
          have hw'' := hw'.symm
          clear hw'
          subst hw''
          go_wp2
          go_ret3
          exact ⟨_, rfl, IsRd.nil _, Ex.refl _⟩
        · rw [if_neg (by omega)] at hr
          simp only [Prod.mk.injEq] at hr
          obtain ⟨rfl, rfl, rfl⟩ := hr
          have tc2 : decide (L8 < c) = false := by simp; omega
          have tc3 : decide ((L8 : Int) < (c : Int)) = false := by simp; omega
          have hcb : c ≤ 131073 := by omega
          obtain ⟨part, hpart⟩ : ∃ part, part = (b.drop m).take (c * D) := ⟨_, rfl⟩
          obtain ⟨S, hS⟩ : ∃ S, S = c * D := ⟨_, rfl⟩
          have hSi : (c : Int) * (D : Int) = (S : Int) := by rw [hS]; simp
          have hcw : c * D ≤ b.length - m := by have h7 : c ≤ rr / D := (by have := Hq.out; omega); have := (Nat.le_div_iff_mul_le hD0).1 h7; have := Hrr.out; omega
          have hSb : S ≤ b.length - m := by rw [hS]; exact hcw
          have hSm : S ≤ 200000 * 32 := by rw [hS]; exact Nat.mul_le_mul (by omega) hD
          have hpl : part.length = S := by rw [hpart, ← hS]; simp; omega
          obtain ⟨X, hX⟩ : ∃ X, X = B.unpack D (8 * c) part := ⟨_, rfl⟩
          have hun := unp_whole (D := D) (c := c) (p := part) (by omega) (by omega) (by rw [hpl, hS])
          rw [← hX] at hun
          rw [← hpart, ← hX, ← hS]
          obtain ⟨c8, hc8⟩ : ∃ c8, c8 = 8 * c := ⟨_, rfl⟩
          have hc8i : (c : Int) * 8 = (c8 : Int) := by omega
          rw [← hc8] at hun
          have hmi : (m : Int) ≤ (m : Int) + (S : Int) := by omega
          have hmi2 : (m : Int) + (S : Int) ≤ (cap : Int) := by omega
          have hc8b : c8 ≤ 1048584 := by omega
          have HUn : Hid (B.unp part ((c8 : Nat) : Int) (D : Int) = (X, 0)) := hun
          have HPl : Hid (S = part.length) := hpl.symm
          have hsub := HB.out.sub m S (by omega)
          have hS1 : 1 ≤ S := by rw [hS]; exact Nat.mul_pos (by omega) hD0
          obtain ⟨bb, off, rfl, _⟩ := HB.out.2.2.2 m (by omega)
          rw [Option.map_some, add_none, hS, ← hpart] at hsub
          have HSub : Hid (Byt w (some ⟨bb, off + m, none⟩) (cap - m) part) := hsub
          have hcq : ¬ cap - m = 0 := by omega
          clear hpart hS hpl hX hun hc8 hsub hcw
          go_enter Try.func53, Try.ntmps53
          go_wp2_with fail
          refine (groupsOf_is _ left _ rfl (by omega) L8 HL8.out).mono ?_
          rintro e wq ⟨rfl, hw'⟩
          have hw'' := hw'.symm
          clear hw'
          subst hw''
          go_wp2_with fail
          refine (unpack_is _ _ _ part _ _ _ HPl.out HSub.out (by have := HPl.out; omega) (by omega) (by omega) (by omega) (by omega) X 0 HUn.out).mono ?_
          rintro e w2 ⟨v2, rfl, hv2, _, hx2⟩
          have HV2 : Hid (IsRd n64 X v2 w2) := hv2
          have HX2 : Hid (Ex w w2) := hx2
          clear hv2 hx2
          go_wp2
          go_ret3
          exact ⟨_, ret3 rfl (I.int_num (by omega)) rfl, HV2.out, HX2.out⟩
  · obtain rfl : D = 0 := by omega
    have tD : decide (0 < ((0 : Nat) : Int)) = false := by simp
    rw [if_neg (by omega)] at hr
    by_cases q2 : c = 0
    · rw [if_pos (.inl q2)] at hr
      simp only [Prod.mk.injEq] at hr
      obtain ⟨rfl, rfl, rfl⟩ := hr
      subst q2
      go_enter Try.func53, Try.ntmps53
      go_wp2
      go_ret3
      exact ⟨_, rfl, IsRd.nil _, Ex.refl _⟩
    · have tc : ((c : Int) == 0) = false := by simp; omega
      have tc0 : decide (c = 0) = false := by simp; omega
      by_cases q3 : L8 < c
      · rw [if_pos (.inr q3)] at hr
        simp only [Prod.mk.injEq] at hr
        obtain ⟨rfl, rfl, rfl⟩ := hr
        have tc2 : decide (L8 < c) = true := by simp; omega
        have tc3 : decide ((L8 : Int) < (c : Int)) = true := by simp; omega
        go_enter Try.func53, Try.ntmps53
        go_wp2_with fail
        refine (groupsOf_is _ left _ rfl (by omega) L8 HL8.out).mono ?_
        rintro e wq ⟨rfl, hw'⟩
        have hw'' := hw'.symm
        clear hw'
        subst hw''
        go_wp2
        go_ret3
        exact ⟨_, rfl, IsRd.nil _, Ex.refl _⟩
      · rw [if_neg (by omega)] at hr
        simp only [Prod.mk.injEq] at hr
        obtain ⟨rfl, rfl, rfl⟩ := hr
        have tc2 : decide (L8 < c) = false := by simp; omega
        have tc3 : decide ((L8 : Int) < (c : Int)) = false := by simp; omega
        have hcb : c ≤ 131073 := by omega
        obtain ⟨part, hpart⟩ : ∃ part, part = (b.drop m).take (c * 0) := ⟨_, rfl⟩
        obtain ⟨S, hS⟩ : ∃ S, S = c * 0 := ⟨_, rfl⟩
        have hSi : (c : Int) * ((0 : Nat) : Int) = (S : Int) := by rw [hS]; simp
        have hcw : c * 0 ≤ b.length - m := by omega
        have hSb : S ≤ b.length - m := by rw [hS]; exact hcw
        have hSm : S ≤ 200000 * 32 := by rw [hS]; exact Nat.mul_le_mul (by omega) hD
        have hpl : part.length = S := by rw [hpart, ← hS]; simp; omega
        obtain ⟨X, hX⟩ : ∃ X, X = B.unpack 0 (8 * c) part := ⟨_, rfl⟩
        have hun := unp_whole (D := 0) (c := c) (p := part) (by omega) (by omega) (by rw [hpl, hS])
        rw [← hX] at hun
        rw [← hpart, ← hX, ← hS]
        obtain ⟨c8, hc8⟩ : ∃ c8, c8 = 8 * c := ⟨_, rfl⟩
        have hc8i : (c : Int) * 8 = (c8 : Int) := by omega
        rw [← hc8] at hun
        have hmi : (m : Int) ≤ (m : Int) + (S : Int) := by omega
        have hmi2 : (m : Int) + (S : Int) ≤ (cap : Int) := by omega
        have hc8b : c8 ≤ 1048584 := by omega
        have HUn : Hid (B.unp part ((c8 : Nat) : Int) ((0 : Nat) : Int) = (X, 0)) := hun
        have HPl : Hid (S = part.length) := hpl.symm
        have hS0 : S = 0 := by omega
        have hp0 : part = [] := List.eq_nil_of_length_eq_zero (by omega)
        subst hS0
        have HP0 : Hid (part = []) := hp0
        clear hpart hS hpl hX hun hc8 hcw hp0
        by_cases hck : cap = m
        · have hck3 : cap - m = 0 := by omega
          have hck1 : cap ≤ m := by omega
          have HSub : Hid (Byt w a 0 part) := (by rw [HP0.out]; exact Byt.none_ a : Byt w a 0 part)
          clear hck
          go_enter Try.func53, Try.ntmps53
          go_wp2_with fail
          refine (groupsOf_is _ left _ rfl (by omega) L8 HL8.out).mono ?_
          rintro e wq ⟨rfl, hw'⟩
          have hw'' := hw'.symm
          clear hw'
          subst hw''
          go_wp2_with fail
          refine (unpack_is _ _ _ part _ _ _ HPl.out HSub.out (by have := HPl.out; omega) (by omega) (by omega) (by omega) (by omega) X 0 HUn.out).mono ?_
          rintro e w2 ⟨v2, rfl, hv2, _, hx2⟩
          have HV2 : Hid (IsRd n64 X v2 w2) := hv2
          have HX2 : Hid (Ex w w2) := hx2
          clear hv2 hx2
          go_wp2
          go_ret3
          exact ⟨_, ret3 rfl (I.int_num (by omega)) rfl, HV2.out, HX2.out⟩
        · have hck3 : ¬ cap - m = 0 := by omega
          have hsub := HB.out.sub m 0 (by omega)
          rw [List.take_zero] at hsub
          have HSub : Hid (Byt w (Option.map (fun x => x.add m) a) (cap - m) part) := (by rw [HP0.out]; exact hsub : Byt w (Option.map (fun x => x.add m) a) (cap - m) part)
          clear hsub
          go_enter Try.func53, Try.ntmps53
          go_wp2_with fail
          refine (groupsOf_is _ left _ rfl (by omega) L8 HL8.out).mono ?_
          rintro e wq ⟨rfl, hw'⟩
          have hw'' := hw'.symm
          clear hw'
          subst hw''
          go_wp2_with fail
          refine (unpack_is _ _ _ part _ _ _ HPl.out HSub.out (by have := HPl.out; omega) (by omega) (by omega) (by omega) (by omega) X 0 HUn.out).mono ?_
          rintro e w2 ⟨v2, rfl, hv2, _, hx2⟩
          have HV2 : Hid (IsRd n64 X v2 w2) := hv2
          have HX2 : Hid (Ex w w2) := hx2
          clear hv2 hx2
          go_wp2
          go_ret3
          exact ⟨_, ret3 rfl (I.int_num (by omega)) rfl, HV2.out, HX2.out⟩
end Go.Proofs.Ytkhbkifofkjjnaa
