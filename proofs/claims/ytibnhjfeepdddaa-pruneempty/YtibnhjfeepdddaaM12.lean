/-
  The document's own zoneOf: the zone of a column. Slices of strings that come in; a string as bytes of its own. No function of the program here. Go's 'exclusive or', 'and 1' and the wrapped product at single numbers, in the words of the walk.
-/
import Derived.Test.YtibnhjfeepdddaaM11
import Derived.Test.YtibnhjfeepdddaaM05
import Derived.SliceStrings
import Derived.Test.YtibnhjfeepdddaaM04
import Derived.Test.YtibnhjfeepdddaaM08
namespace Go.Proofs.Ytibnhjfeepdddaa
open Go.RowKit
set_option linter.unusedVariables false
set_option linter.unusedSimpArgs false
theorem Pu.zoneOf_at {s : St} {c n : List UInt8} {d : Zn} {l m : List (List UInt8 × Zn)} (h : s.zs = l ++ (n, d) :: m) (hl : ∀ x ∈ l, x.1 ≠ c) (hn : n = c) : Pu.zoneOf s c = d := by
 unfold Pu.zoneOf
 rw [h, List.find?_append, List.find?_eq_none.2 (fun x hx => by simpa using hl x hx)]
 simp [hn]
theorem Pu.zoneOf_out {s : St} {c : List UInt8} (h : ∀ x ∈ s.zs, x.1 ≠ c) : Pu.zoneOf s c = ⟨0, s.rows, s.rows, 0, 0, [], []⟩ := by
 unfold Pu.zoneOf
 rw [List.find?_eq_none.2 (fun x hx => by simpa using h x hx)]
 rfl
end Go.Proofs.Ytibnhjfeepdddaa
namespace Go.Proofs.Ytibnhjfeepdddaa
open Go.RowKit
set_option linter.unusedVariables false

abbrev st : List UInt8 → Value := fun s => .string (str s)
end Go.Proofs.Ytibnhjfeepdddaa
namespace Go.Proofs.Ytibnhjfeepdddaa.I
open Go

theorem xor_nat (k : IntKind) (j : Nat) (hj : j ≤ k.bits) (hk : ∀ n : Int, 0 ≤ n → n < 2 ^ j → k.wrap n = n) (a b : Nat) (ha : a < 2 ^ j) (hb : b < 2 ^ j) :
  bits .xor k a b = ((a ^^^ b : Nat) : Int) := by
 have hp : 2 ^ j ≤ 2 ^ k.bits := Nat.pow_le_pow_right (by decide) hj
 have ha' : a % 2 ^ k.bits = a := Nat.mod_eq_of_lt (Nat.lt_of_lt_of_le ha hp)
 have hb' : b % 2 ^ k.bits = b := Nat.mod_eq_of_lt (Nat.lt_of_lt_of_le hb hp)
 have cast : ∀ n : Nat, n < 2 ^ j → ((n : Nat) : Int) < 2 ^ j := fun n h => by exact_mod_cast h
 simp only [bits, BitVec.ofInt_natCast, BitVec.toNat_xor, BitVec.toNat_ofNat, ha', hb']
 exact hk _ (Int.natCast_nonneg _) (cast _ (Nat.xor_lt_two_pow ha hb))
theorem w8 (n : Int) : IntKind.u8.wrap n = n % 256 := by simp [IntKind.wrap, IntKind.bits, IntKind.signed]
theorem xor64 (A B : Int) (a b : Nat) (hA : A = a) (hB : B = b) (ha : a < 18446744073709551616) (hb : b < 18446744073709551616) : bits .xor .u64 A B = ((a ^^^ b : Nat) : Int) := by
 subst hA; subst hB; exact xor_nat .u64 64 (by decide) wraps64 a b (by omega) (by omega)
theorem or8 (a b : Nat) (ha : a < 256) (hb : b < 256) : bits .or .u8 (a : Int) (b : Int) = ((a ||| b : Nat) : Int) :=
 (bits_nat .u8 8 (by decide) wraps_u8 a b (by omega) (by omega)).2
/-- One step of FNV. -/
theorem fnv_num (h b : Nat) (x : UInt8) (hh : h < 18446744073709551616) (hb : b = x.toNat) : (bits .xor .u64 (h : Int) (b : Int) * 1099511628211) % 18446744073709551616 = ((S.fnvStep h x : Nat) : Int) := by
 subst hb
 have hx := x.toNat_lt
 rw [xor64 _ _ h x.toNat rfl rfl hh (by omega)]
 unfold S.fnvStep
 omega
end Go.Proofs.Ytibnhjfeepdddaa.I
