/-
  Plain facts on Go's bit operations at single numbers: masks, joins and turned bits, in the words of the walk.
-/
import Derived.WalkKit
import Derived.Laws.BitsLemmas
namespace Go.Proofs.Ytbdjccmlgdfapaa.I
open Go

theorem w64 (n : Int) : IntKind.u64.wrap n = n % 18446744073709551616 := by simp [IntKind.wrap, IntKind.bits, IntKind.signed]
theorem wraps64 (n : Int) (h₀ : 0 ≤ n) (h₁ : n < 2 ^ 64) : IntKind.u64.wrap n = n := by rw [w64]; omega
theorem and1 (n : Int) (h : 0 ≤ n) (h2 : n ≤ 18446744073709551615) : bits .and .u64 n 1 = n % 2 :=
  bits_mask .u64 64 (by decide) wraps64 1 (by decide) n h (by omega)
theorem and127 (n : Int) (h : 0 ≤ n) (h2 : n ≤ 18446744073709551615) : bits .and .u64 n 127 = n % 128 :=
  bits_mask .u64 64 (by decide) wraps64 7 (by decide) n h (by omega)
theorem and127b (n : Int) (h : 0 ≤ n) (h2 : n ≤ 255) : bits .and .u8 n 127 = n % 128 :=
  bits_mask .u8 8 (by decide) wraps_u8 7 (by decide) n h (by omega)
theorem or128b (n : Int) (h : 0 ≤ n) (h2 : n < 128) : bits .or .u8 n 128 = n + 128 := by
  obtain ⟨a, rfl⟩ := Int.eq_ofNat_of_zero_le h
  have ha : a < 128 := by omega
  have e := bits_join .u8 8 (by decide) wraps_u8 7 128 (a : Int) (by decide) (by decide) (by decide) h (by omega) (by omega)
  have c : bits .or .u8 (a : Int) ((128 : Nat) : Int) = bits .or .u8 ((128 : Nat) : Int) (a : Int) := by
    rw [(bits_nat .u8 8 (by decide) wraps_u8 a 128 (by omega) (by decide)).2, (bits_nat .u8 8 (by decide) wraps_u8 128 a (by decide) (by omega)).2, Nat.or_comm]
  have c' : bits .or .u8 (a : Int) 128 = bits .or .u8 128 (a : Int) := c
  rw [c', e]; omega
theorem orJoin (x d : Int) (hx : 0 ≤ x) (hx2 : x < 18446744073709551616) (hm : x % 128 = 0) (hd : 0 ≤ d) (hd2 : d < 128) : bits .or .u64 x d = x + d :=
  bits_join .u64 64 (by decide) wraps64 7 x d hx (by simpa using hm) (by simpa using hx2) hd (by simpa using hd2) (by omega)

theorem xor1i (x : Int) (h : -9223372036854775808 ≤ x) (h2 : x ≤ 9223372036854775807) : bits .xor .i64 (-1) x = -x - 1 := by
  have e : (BitVec.ofInt 64 (-1) ^^^ BitVec.ofInt 64 x) = ~~~(BitVec.ofInt 64 x) := by
    rw [show BitVec.ofInt 64 (-1) = BitVec.allOnes 64 from by decide, BitVec.allOnes_xor]
  show IntKind.i64.wrap ((BitVec.ofInt 64 (-1) ^^^ BitVec.ofInt 64 x).toNat : Int) = _
  rw [e, BitVec.toNat_not, IntKind.wrap_i64]
  have t : ((BitVec.ofInt 64 x).toNat : Int) = x % 18446744073709551616 := by
    rw [BitVec.toNat_ofInt]; simp; omega
  have l := (BitVec.ofInt 64 x).isLt
  omega
theorem xor1u (x : Int) (h : 0 ≤ x) (h2 : x < 18446744073709551616) : bits .xor .u64 IntKind.u64.max x = 18446744073709551615 - x := by
  have e : (BitVec.ofInt 64 IntKind.u64.max ^^^ BitVec.ofInt 64 x) = ~~~(BitVec.ofInt 64 x) := by
    rw [show BitVec.ofInt 64 IntKind.u64.max = BitVec.allOnes 64 from by decide, BitVec.allOnes_xor]
  show IntKind.u64.wrap ((BitVec.ofInt 64 IntKind.u64.max ^^^ BitVec.ofInt 64 x).toNat : Int) = _
  rw [e, BitVec.toNat_not, w64]
  have t : ((BitVec.ofInt 64 x).toNat : Int) = x % 18446744073709551616 := by
    rw [BitVec.toNat_ofInt]; simp; omega
  have l := (BitVec.ofInt 64 x).isLt
  omega
theorem ret_int {k : IntKind} {a b : Int} (h : a = b) : Ending.returned (.int k a) = .returned (.int k b) := by rw [h]
theorem ret_bool {a b : Bool} (h : a = b) : Ending.returned (.bool a) = .returned (.bool b) := by rw [h]
/-- A digit laid behind a number. -/
theorem digit (N c M : Nat) (hc : c < 256) (hN : N * 128 + c % 128 < 18446744073709551616) (hM : M = c % 128 + 128 * N) :
    bits .or .u64 ((N : Int) * 128) (IntKind.u64.wrap (bits .and .u8 (c : Int) 127)) = (M : Int) := by
  rw [and127b _ (by omega) (by omega), w64, Int.emod_eq_of_lt (by omega) (by omega), orJoin _ _ (by omega) (by omega) (by omega) (by omega) (by omega)]
  omega
theorem int_num {k : IntKind} {a b : Int} (h : a = b) : Value.int k a = Value.int k b := by rw [h]
end Go.Proofs.Ytbdjccmlgdfapaa.I
