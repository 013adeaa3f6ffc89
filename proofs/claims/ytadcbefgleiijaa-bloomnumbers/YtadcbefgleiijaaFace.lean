/-
  What the statements' walks take of package bloom: its contracts.
-/
import Derived.Test.YtadcbefgleiijaaMays
import Derived.Test.YtadcbefgleiijaaEncs
import Derived.Test.YtadcbefgleiijaaDecs
namespace Go.Proofs.Ytadcbefgleiijaa
open Go.RowKit
set_option linter.unusedVariables false
/-- An int of the program's. -/
abbrev Fl.I6 (k : Int) : Prop := -9223372036854775808 ≤ k ∧ k ≤ 9223372036854775807
theorem Fl.I6.nat {n : Nat} (h : n ≤ 9223372036854775807) : Fl.I6 (n : Int) := ⟨by omega, by omega⟩
theorem Fl.bits_i6 (l : List (List UInt8)) : Fl.I6 (Fl.bits l : Int) := Fl.I6.nat (by have := (Fl.bits_is l).bounds; omega)
theorem Fl.right_i6 {k : Int} {n : Nat} (h : Fl.rightB k n = true) : Fl.I6 k := by
  obtain ⟨m, hm, rfl, _⟩ := Fl.right_iff.1 h
  have := hm.bounds
  exact Fl.I6.nat (by omega)
theorem b_build (a : Option Addr) (n cap : Nat) (l : List (List UInt8)) (w : World) (hn : n = l.length) (hB : Rd st w a cap l) (hl : l.length ≤ 500) (hx : ∀ x ∈ l, x.length ≤ 9223372036854775807) :
    Calls Try.prog 9 #[.slice a n cap] w fun e w' => ∃ a' c', e = .returned (fv (Fl.bits l : Int) (.slice a' (Fl.bytes l).length c')) ∧ Byt w' a' c' (Fl.bytes l) ∧ Ex w w' := by
  refine (fil_is a n cap l w hn hB hl hx).mono ?_
  rintro e w' ⟨v, rfl, ho, hx⟩
  obtain ⟨a', c', rfl, hb⟩ := ho.byt
  exact ⟨a', c', rfl, hb, hx⟩
theorem b_right (k : Int) (a : Option Addr) (n cap : Nat) (w : World) (hn : n ≤ 281474976710656) (hk : Fl.I6 k) (r : Bool) (hr : Fl.rightB k n = r) :
    Calls Try.prog 14 #[fv k (.slice a n cap)] w fun e w' => e = .returned (.bool r) ∧ Ex w w' := right_is k a n cap w hn hk.1 hk.2 r hr
theorem b_may (k : Int) (a : Option Addr) (n cap : Nat) (B s : List UInt8) (w : World) (hn : n = B.length) (hB : Byt w a cap B) (hbl : B.length ≤ 281474976710656) (hs : s.length ≤ 9223372036854775807) (hk : Fl.I6 k) (r : Bool) (hr : Fl.may k B s = r) :
    Calls Try.prog 16 #[fv k (.slice a n cap), .string (str s)] w fun e w' => e = .returned (.bool r) ∧ Ex w w' := may_is k a n cap B s w hn hB hbl hs hk.1 hk.2 r hr
theorem b_enc (k : Int) (a : Option Addr) (n cap : Nat) (B : List UInt8) (w : World) (hn : n = B.length) (hB : Byt w a cap B) (hbl : B.length ≤ 281474976710656) (hk : Fl.I6 k) (r : List UInt8) (e0 : Nat) (hr : Fl.encE k B = (r, e0)) :
    Calls Try.prog 11 #[fv k (.slice a n cap)] w fun e w' => ∃ a' c', e = .returned (.tuple #[.slice a' r.length c', .int .i64 e0]) ∧ Byt w' a' c' r ∧ Ex w w' := by
  refine (enc_is k a n cap B w hn hB hbl hk.1 hk.2 r e0 hr).mono ?_
  rintro e w' ⟨v, rfl, ho, hx⟩
  obtain ⟨a', c', rfl, hb⟩ := ho.byt
  exact ⟨a', c', rfl, hb, hx⟩
theorem b_dec (a : Option Addr) (len cap : Nat) (b : List UInt8) (p : Int) (w : World) (hlen : len = b.length) (hB : Byt w a cap b) (hbl : b.length ≤ 281474976710656) (N0 : Nat) (x : List UInt8) (k0 e0 : Nat) (hr : Fl.decE b p = (N0, x, k0, e0)) :
    Calls Try.prog 18 #[.slice a len cap, .int .i64 p] w fun e w' => ∃ a' c', e = .returned (.tuple #[fv N0 (.slice a' x.length c'), .int .i64 k0, .int .i64 e0]) ∧ Byt w' a' c' x ∧ Ex w w' := by
  refine (dec_is a len cap b p w hlen hB hbl N0 x k0 e0 hr).mono ?_
  rintro e w' ⟨v, rfl, ho, hx⟩
  obtain ⟨a', c', rfl, hb⟩ := ho.byt
  exact ⟨a', c', rfl, hb, hx⟩
end Go.Proofs.Ytadcbefgleiijaa
