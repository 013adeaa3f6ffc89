/-
  Plain facts: the sizes that a filter may have, told by 'n and n - 1 have no bit in common'; bytes asked by a mask. No program here.
-/
import Derived.Test.YtadcbefgleiijaaBloom
namespace Go.Proofs.Ytadcbefgleiijaa.Fl
theorem pow_and (k : Nat) : 2 ^ k &&& (2 ^ k - 1) = 0 := by
  rw [Nat.and_two_pow_sub_one_eq_mod, Nat.mod_self]
theorem and_pred {n : Nat} (h0 : 0 < n) (h : n &&& (n - 1) = 0) : ∃ k, n = 2 ^ k := by
  refine ⟨n.log2, ?_⟩
  have h1 : 2 ^ n.log2 ≤ n := Nat.log2_self_le (by omega)
  have h2 : n < 2 ^ (n.log2 + 1) := Nat.lt_log2_self
  refine Classical.byContradiction fun hne => ?_
  have h3 : 2 ^ n.log2 ≤ n - 1 := by omega
  have t1 : n.testBit n.log2 = true := Nat.testBit_of_two_pow_le_and_two_pow_add_one_gt h1 h2
  have t2 : (n - 1).testBit n.log2 = true := Nat.testBit_of_two_pow_le_and_two_pow_add_one_gt h3 (by omega)
  have t3 : (n &&& (n - 1)).testBit n.log2 = true := by rw [Nat.testBit_and, t1, t2]; rfl
  rw [h] at t3
  simp at t3
/-- Is a size right? -/
def sizeB (n : Nat) : Bool := decide (∃ i, i < 11 ∧ n = 64 * 2 ^ i)
theorem sizeB_iff {n : Nat} : sizeB n = true ↔ IsW n := by
  unfold sizeB IsW
  rw [decide_eq_true_eq]
  exact ⟨fun ⟨i, hi, h⟩ => ⟨i, by omega, h⟩, fun ⟨i, hi, h⟩ => ⟨i, by omega, h⟩⟩
theorem isW_and {n : Nat} (h1 : 64 ≤ n) (h2 : n ≤ 65536) : n &&& (n - 1) = 0 ↔ IsW n := by
  constructor
  · intro h
    obtain ⟨k, rfl⟩ := and_pred (by omega) h
    have k1 : 6 ≤ k := by
      refine Classical.byContradiction fun hk => ?_
      have : 2 ^ k ≤ 2 ^ 5 := Nat.pow_le_pow_right (by omega) (by omega)
      omega
    have k2 : k ≤ 16 := by
      refine Classical.byContradiction fun hk => ?_
      have : 2 ^ 17 ≤ 2 ^ k := Nat.pow_le_pow_right (by omega) (by omega)
      omega
    refine ⟨k - 6, by omega, ?_⟩
    rw [show 64 = 2 ^ 6 from rfl, ← Nat.pow_add, show 6 + (k - 6) = k from by omega]
  · rintro ⟨k, hk, rfl⟩
    rw [show 64 * 2 ^ k = 2 ^ (6 + k) from by rw [Nat.pow_add]]
    exact pow_and _
theorem right_form {m n : Nat} : rightB (m : Int) n = (sizeB m && decide (n = m / 8)) := by
  rw [Bool.eq_iff_iff, right_iff, Bool.and_eq_true, sizeB_iff, decide_eq_true_eq]
  constructor
  · rintro ⟨m', h1, h2, h3⟩
    have e : m = m' := by omega
    subst e
    exact ⟨h1, h3⟩
  · rintro ⟨h1, h2⟩
    exact ⟨m, h1, rfl, h2⟩
theorem right_neg {k : Int} {n : Nat} (h : k < 0) : rightB k n = false := by
  cases hr : rightB k n with
  | false => rfl
  | true =>
    obtain ⟨m, _, h1, _⟩ := right_iff.1 hr
    omega
theorem sizeB_big {n : Nat} (h : 65536 < n) : sizeB n = false := by
  cases hr : sizeB n with
  | false => rfl
  | true => have := (sizeB_iff.1 hr).bounds; omega
theorem sizeB_small {n : Nat} (h : n < 64) : sizeB n = false := by
  cases hr : sizeB n with
  | false => rfl
  | true => have := (sizeB_iff.1 hr).bounds; omega
/-- A byte and one bit. -/
theorem mask_and (b i : Nat) : b &&& 2 ^ i = if b / 2 ^ i % 2 = 1 then 2 ^ i else 0 := by
  refine Nat.eq_of_testBit_eq fun m => ?_
  rw [Nat.testBit_and, Nat.testBit_two_pow]
  by_cases e : i = m
  · subst e
    rw [Nat.testBit_eq_decide_div_mod_eq]
    by_cases h : b / 2 ^ i % 2 = 1
    · rw [if_pos h, Nat.testBit_two_pow_self]; simp [h]
    · rw [if_neg h]; simp [h]
  · rw [decide_eq_false e, Bool.and_false]
    split
    · rw [Nat.testBit_two_pow]; simp [e]
    · simp
theorem mask_zero (b i : Nat) : (b &&& 2 ^ i = 0) ↔ ¬ b / 2 ^ i % 2 = 1 := by
  rw [mask_and]
  have : 0 < 2 ^ i := Nat.pow_pos (by omega)
  split
  · rename_i h; constructor
    · intro h0; omega
    · intro h0; exact absurd h h0
  · rename_i h; exact ⟨fun _ => h, fun _ => rfl⟩
end Go.Proofs.Ytadcbefgleiijaa.Fl
