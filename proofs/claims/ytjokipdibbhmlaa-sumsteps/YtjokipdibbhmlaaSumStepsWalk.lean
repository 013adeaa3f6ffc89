/-
  The walk of the law SumSteps: whatever text it is given, it returns true.
-/
import Derived.Test.YtjokipdibbhmlaaKnown
namespace Go.Proofs.Ytjokipdibbhmlaa.sumSteps
open Go.RowKit
set_option linter.unusedVariables false

set_option maxRecDepth 100000 in
theorem walk_short (s0 : List UInt8) (w : World) (w0 : s0.length ≤ 300) :
    Calls Try.prog 7 #[.string (str s0)] w fun e w' => e = .returned (.bool true) ∧ Below w.heap.size w w' := by
  have hlb : decide ((300 : Int) < (s0.length : Int)) = false := by simp; omega
  have hss : (str s0).size = s0.length := str_size s0
  go_enter Try.func7, Try.ntmps7
  go_wp2_with fail
  refine (fnv_is _ [] (S.fnv (s0.take 0)) _ rfl (by simp) rfl).mono ?_
  rintro e w2 ⟨rfl, hw⟩
  have hw' := hw.symm; clear hw; subst hw'
  go_wp2_with fail
  go_loop [3, 4] (fun v i => ∃ k : Nat, k ≤ s0.length ∧ i = .int .i64 k ∧ v = .int .u64 (S.fnv (s0.take k))) (fun _ i => s0.length - (intOf i).toNat)
  case atStart => exact ⟨0, by omega, rfl, rfl⟩
  case round =>
    obtain ⟨k, hk, rfl, rfl⟩ := hrel
    by_cases hlt : k < s0.length
    · have hcut : (str s0).extract 0 (k + 1) = str (s0.take (k + 1)) := str_cut s0 (k + 1)
      have hls : (k : Int) + 1 ≤ (s0.length : Int) := by omega
      obtain ⟨F, hF⟩ : ∃ F, F = S.fnv (s0.take (k + 1)) := ⟨_, rfl⟩
      have HF : Hid (F = S.fnv (s0.take (k + 1))) := hF
      clear hF
      have hne : ((F : Int) != (F : Int)) = false := by simp
      go_wp2_with fail
      refine (fnv_is _ (s0.take (k + 1)) F _ rfl (by simp; omega) HF.out.symm).mono ?_
      rintro e w3 ⟨rfl, rfl⟩
      generalize hX : IntKind.u64.wrap (_ * 1099511628211) = X
      have hXF : X = (F : Int) := by rw [← hX, HF.out]; exact fnv_next (by omega) hlt
      clear hX
      subst hXF
      go_wp2_with fail
      go_round
      case rel => exact ⟨k + 1, by omega, by go_num, by rw [HF.out]⟩
      case measure => simp [intOf]; omega
    · obtain rfl : k = s0.length := by omega
      have hbb : ∀ F : Nat, ((F : Int) == (F : Int)) = true := fun F => by simp
      have htt : s0.take s0.length = s0 := List.take_length
      go_wp2_with fail
      refine (fnv_is _ s0 (S.fnv s0) _ rfl (by omega) rfl).mono ?_
      rintro e w3 ⟨rfl, rfl⟩
      go_wp2_with fail
      refine (known_any _).mono ?_
      rintro e w4 ⟨rfl, hx⟩
      go_wp2
      go_ret
      exact ⟨rfl, hx⟩

set_option maxRecDepth 100000 in
theorem walk_long (s0 : List UInt8) (w : World) (w0 : s0.length ≤ 140737488351232) (hg : 300 < s0.length) :
    Calls Try.prog 7 #[.string (str s0)] w fun e w' => e = .returned (.bool true) ∧ Below w.heap.size w w' := by
  obtain ⟨t, ht⟩ : ∃ t, t = s0.take 300 := ⟨_, rfl⟩
  have htl : t.length = 300 := by rw [ht]; simp; omega
  have hcut0 : (str s0).extract 0 300 = str t := by rw [str_cut, ht]
  have hs0 : (str s0).size = s0.length := str_size s0
  have hlb : decide ((300 : Int) < (s0.length : Int)) = true := by simp; omega
  have h300 : (300 : Int) ≤ (s0.length : Int) := by omega
  have w6 : t.length ≤ 300 := by omega
  clear ht htl
  have hss : (str t).size = t.length := str_size t
  go_enter Try.func7, Try.ntmps7
  go_wp2_with fail
  refine (fnv_is _ [] (S.fnv (t.take 0)) _ rfl (by simp) rfl).mono ?_
  rintro e w2 ⟨rfl, hw⟩
  have hw' := hw.symm; clear hw; subst hw'
  go_wp2_with fail
  go_loop [3, 4] (fun v i => ∃ k : Nat, k ≤ t.length ∧ i = .int .i64 k ∧ v = .int .u64 (S.fnv (t.take k))) (fun _ i => t.length - (intOf i).toNat)
  case atStart => exact ⟨0, by omega, rfl, rfl⟩
  case round =>
    obtain ⟨k, hk, rfl, rfl⟩ := hrel
    by_cases hlt : k < t.length
    · have hcut : (str t).extract 0 (k + 1) = str (t.take (k + 1)) := str_cut t (k + 1)
      have hls : (k : Int) + 1 ≤ (t.length : Int) := by omega
      obtain ⟨F, hF⟩ : ∃ F, F = S.fnv (t.take (k + 1)) := ⟨_, rfl⟩
      have HF : Hid (F = S.fnv (t.take (k + 1))) := hF
      clear hF
      have hne : ((F : Int) != (F : Int)) = false := by simp
      go_wp2_with fail
      refine (fnv_is _ (t.take (k + 1)) F _ rfl (by simp; omega) HF.out.symm).mono ?_
      rintro e w3 ⟨rfl, rfl⟩
      generalize hX : IntKind.u64.wrap (_ * 1099511628211) = X
      have hXF : X = (F : Int) := by rw [← hX, HF.out]; exact fnv_next (by omega) hlt
      clear hX
      subst hXF
      go_wp2_with fail
      go_round
      case rel => exact ⟨k + 1, by omega, by go_num, by rw [HF.out]⟩
      case measure => simp [intOf]; omega
    · obtain rfl : k = t.length := by omega
      have hbb : ∀ F : Nat, ((F : Int) == (F : Int)) = true := fun F => by simp
      have htt : t.take t.length = t := List.take_length
      go_wp2_with fail
      refine (fnv_is _ t (S.fnv t) _ rfl (by omega) rfl).mono ?_
      rintro e w3 ⟨rfl, rfl⟩
      go_wp2_with fail
      refine (known_any _).mono ?_
      rintro e w4 ⟨rfl, hx⟩
      go_wp2
      go_ret
      exact ⟨rfl, hx⟩

theorem walk (s0 : List UInt8) (w : World) (w0 : s0.length ≤ 140737488351232) :
    Calls Try.prog 7 #[.string (str s0)] w fun e w' => e = .returned (.bool true) ∧ Below w.heap.size w w' := by
  by_cases h : 300 < s0.length
  · exact walk_long s0 w w0 h
  · exact walk_short s0 w (by omega)
end Go.Proofs.Ytjokipdibbhmlaa.sumSteps
