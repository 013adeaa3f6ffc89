/-
  The contracts of varint's Zig, Zag and isShortest over the program.
-/
import Derived.Test.YtphlfajkcbhpoaaRows
import Derived.Test.YtphlfajkcbhpoaaMath
import Derived.Test.YtphlfajkcbhpoaaInts
import Derived.WalkKit
import Derived.WalkLawsBesides
import Derived.WalkSpells
import Derived.Outline
namespace Go.Proofs.Ytphlfajkcbhpoaa
open Go.RowKit
set_option linter.unusedVariables false

theorem zig_any (n : Int) (w : World) (h1 : -9223372036854775808 ≤ n) (h2 : n ≤ 9223372036854775807) :
    Calls Try.prog 12 #[.int .i64 n] w fun e w' => e = .returned (.int .u64 (M.zig n)) ∧ w' = w := by
  by_cases h : n < 0
  · go_enter Try.func12, Try.ntmps12
    go_wp2
    go_ret
    refine ⟨I.ret_int ?_, rfl⟩
    rw [I.xor1u _ (by rw [I.w64]; omega) (by rw [I.w64]; omega), I.w64, I.w64]
    have h' : n < 0 := by omega
    unfold M.zig; rw [if_pos h']; omega
  · go_enter Try.func12, Try.ntmps12
    go_wp2
    go_ret
    refine ⟨I.ret_int ?_, rfl⟩
    have h' : ¬ n < 0 := by omega
    unfold M.zig; rw [if_neg h']
    first | omega | (rw [I.w64]; omega) | (rw [I.w64, I.w64]; omega)

theorem zag_any (n : Int) (w : World) (h1 : 0 ≤ n) (h2 : n ≤ 18446744073709551615) :
    Calls Try.prog 13 #[.int .u64 n] w fun e w' => e = .returned (.int .i64 (M.zag n)) ∧ w' = w := by
  have ha := I.and1 n h1 h2
  go_enter Try.func13, Try.ntmps13
  go_wp2
  all_goals go_ret
  · have h0 : (n % 2 == 1) = true := by assumption
    have h0 : n % 2 = 1 := by simpa using h0
    refine ⟨I.ret_int ?_, rfl⟩
    rw [I.xor1i _ (by omega) (by omega)]
    simp only [M.zag, if_pos h0]
  · have h0 : (n % 2 == 1) = false := by assumption
    have h0 : ¬ n % 2 = 1 := by simpa using h0
    refine ⟨I.ret_int ?_, rfl⟩
    simp only [M.zag, if_neg h0]

theorem short_any (s c : Int) (w : World) (h0 : 0 ≤ c) (h1 : 1 ≤ s) :
    Calls Try.prog 25 #[.int .i64 s, .int .u8 c] w fun e w' => e = .returned (.bool (M.short s.toNat c.toNat)) ∧ w' = w := by
  obtain ⟨n, rfl⟩ := Int.eq_ofNat_of_zero_le (show 0 ≤ s by omega)
  obtain ⟨m, rfl⟩ := Int.eq_ofNat_of_zero_le h0
  rw [Int.toNat_natCast, Int.toNat_natCast]
  go_enter Try.func25, Try.ntmps25
  go_wp2
  all_goals go_ret
  all_goals refine ⟨I.ret_bool ?_, rfl⟩
  all_goals (simp_all [M.short]; try omega)
  all_goals (rw [Bool.eq_iff_iff]; simp; omega)
end Go.Proofs.Ytphlfajkcbhpoaa
