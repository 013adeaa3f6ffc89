/-
  The walk of the law VarintZigs: whatever two numbers it is given, it returns true.
-/
import Derived.Test.YtphlfajkcbhpoaaKnown
namespace Go.Proofs.Ytphlfajkcbhpoaa.varintZigs
open Go.RowKit
set_option linter.unusedVariables false

set_option maxRecDepth 100000 in
set_option maxHeartbeats 800000 in
theorem walk_nn (a0 : Int) (a1 : Int) (w : World) (l0 : -9223372036854775808 ≤ a0) (u0 : a0 ≤ 9223372036854775807) (l1 : -9223372036854775808 ≤ a1) (u1 : a1 ≤ 9223372036854775807) (h0 : a0 < 0) (h1 : a1 < 0) :
    Calls Try.prog 8 #[.int .i64 a0, .int .i64 a1] w fun e w' => e = .returned (.bool true) ∧ Below w.heap.size w w' := by
  go_enter Try.func8, Try.ntmps8
  go_wp2_with fail
  refine (zig_is _ (-2 * a0 - 1) _ l0 u0 (by unfold M.zig; rw [if_pos (by omega)])).mono ?_
  rintro e w3 ⟨rfl, rfl⟩
  go_wp2_with fail
  refine (zig_is _ (-2 * a1 - 1) _ l1 u1 (by unfold M.zig; rw [if_pos (by omega)])).mono ?_
  rintro e w3 ⟨rfl, rfl⟩
  go_wp2_with fail
  all_goals
    refine (known_any _).mono ?_
    rintro e w4 ⟨rfl, hb⟩
    go_wp2
    go_ret
    exact ⟨I.ret_bool (by first | rfl | (simp; omega)), hb⟩

set_option maxRecDepth 100000 in
set_option maxHeartbeats 800000 in
theorem walk_np (a0 : Int) (a1 : Int) (w : World) (l0 : -9223372036854775808 ≤ a0) (u0 : a0 ≤ 9223372036854775807) (l1 : -9223372036854775808 ≤ a1) (u1 : a1 ≤ 9223372036854775807) (h0 : a0 < 0) (h1 : 0 ≤ a1) :
    Calls Try.prog 8 #[.int .i64 a0, .int .i64 a1] w fun e w' => e = .returned (.bool true) ∧ Below w.heap.size w w' := by
  go_enter Try.func8, Try.ntmps8
  go_wp2_with fail
  refine (zig_is _ (-2 * a0 - 1) _ l0 u0 (by unfold M.zig; rw [if_pos (by omega)])).mono ?_
  rintro e w3 ⟨rfl, rfl⟩
  go_wp2_with fail
  refine (zig_is _ (2 * a1) _ l1 u1 (by unfold M.zig; rw [if_neg (by omega)])).mono ?_
  rintro e w3 ⟨rfl, rfl⟩
  go_wp2_with fail
  all_goals
    refine (known_any _).mono ?_
    rintro e w4 ⟨rfl, hb⟩
    go_wp2
    go_ret
    exact ⟨I.ret_bool (by first | rfl | (simp; omega)), hb⟩

set_option maxRecDepth 100000 in
set_option maxHeartbeats 800000 in
theorem walk_pn (a0 : Int) (a1 : Int) (w : World) (l0 : -9223372036854775808 ≤ a0) (u0 : a0 ≤ 9223372036854775807) (l1 : -9223372036854775808 ≤ a1) (u1 : a1 ≤ 9223372036854775807) (h0 : 0 ≤ a0) (h1 : a1 < 0) :
    Calls Try.prog 8 #[.int .i64 a0, .int .i64 a1] w fun e w' => e = .returned (.bool true) ∧ Below w.heap.size w w' := by
  go_enter Try.func8, Try.ntmps8
  go_wp2_with fail
  refine (zig_is _ (2 * a0) _ l0 u0 (by unfold M.zig; rw [if_neg (by omega)])).mono ?_
  rintro e w3 ⟨rfl, rfl⟩
  go_wp2_with fail
  refine (zig_is _ (-2 * a1 - 1) _ l1 u1 (by unfold M.zig; rw [if_pos (by omega)])).mono ?_
  rintro e w3 ⟨rfl, rfl⟩
  go_wp2_with fail
  all_goals
    refine (known_any _).mono ?_
    rintro e w4 ⟨rfl, hb⟩
    go_wp2
    go_ret
    exact ⟨I.ret_bool (by first | rfl | (simp; omega)), hb⟩

set_option maxRecDepth 100000 in
set_option maxHeartbeats 800000 in
theorem walk_pp (a0 : Int) (a1 : Int) (w : World) (l0 : -9223372036854775808 ≤ a0) (u0 : a0 ≤ 9223372036854775807) (l1 : -9223372036854775808 ≤ a1) (u1 : a1 ≤ 9223372036854775807) (h0 : 0 ≤ a0) (h1 : 0 ≤ a1) :
    Calls Try.prog 8 #[.int .i64 a0, .int .i64 a1] w fun e w' => e = .returned (.bool true) ∧ Below w.heap.size w w' := by
  go_enter Try.func8, Try.ntmps8
  go_wp2_with fail
  refine (zig_is _ (2 * a0) _ l0 u0 (by unfold M.zig; rw [if_neg (by omega)])).mono ?_
  rintro e w3 ⟨rfl, rfl⟩
  go_wp2_with fail
  refine (zig_is _ (2 * a1) _ l1 u1 (by unfold M.zig; rw [if_neg (by omega)])).mono ?_
  rintro e w3 ⟨rfl, rfl⟩
  go_wp2_with fail
  all_goals
    refine (known_any _).mono ?_
    rintro e w4 ⟨rfl, hb⟩
    go_wp2
    go_ret
    exact ⟨I.ret_bool (by first | rfl | (simp; omega)), hb⟩

theorem walk (a0 : Int) (a1 : Int) (w : World) (w0 : -9223372036854775808 ≤ a0 ∧ a0 ≤ 9223372036854775807) (w1 : -9223372036854775808 ≤ a1 ∧ a1 ≤ 9223372036854775807) :
    Calls Try.prog 8 #[.int .i64 a0, .int .i64 a1] w fun e w' => e = .returned (.bool true) ∧ Below w.heap.size w w' := by
  by_cases h0 : a0 < 0
  · by_cases h1 : a1 < 0
    · exact walk_nn a0 a1 w w0.1 w0.2 w1.1 w1.2 h0 h1
    · exact walk_np a0 a1 w w0.1 w0.2 w1.1 w1.2 h0 (by omega)
  · by_cases h1 : a1 < 0
    · exact walk_pn a0 a1 w w0.1 w0.2 w1.1 w1.2 (by omega) h1
    · exact walk_pp a0 a1 w w0.1 w0.2 w1.1 w1.2 (by omega) (by omega)
end Go.Proofs.Ytphlfajkcbhpoaa.varintZigs
