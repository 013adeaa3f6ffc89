/-
  What the statements' walks take of package bits: its four contracts.
-/
import Derived.Test.YtkhbkifofkjjnaaUnpacks
namespace Go.Proofs.Ytkhbkifofkjjnaa
open Go.RowKit
set_option linter.unusedVariables false

theorem width_is (a : Option Addr) (n cap : Nat) (l : List Nat) (w : World) (hn : n = l.length) (hB : Rd n64 w a cap l) (h64 : ∀ x ∈ l, x < 18446744073709551616) (hl : l.length ≤ 2097152) (r : Nat) (hr : B.width l = r) :
    Calls Try.prog 40 #[.slice a n cap] w fun e w' => e = .returned (.int .i64 r) ∧ Ex w w' := by
  subst hn; subst hr
  exact (width_any a cap l w hB h64).mono fun e w' h => ⟨h.1, h.2 ▸ Ex.refl _⟩
theorem size_is (n wd : Int) (w : World) (n1 : -9223372036854775808 ≤ n) (n2 : n ≤ 9223372036854775807) (d1 : -9223372036854775808 ≤ wd) (d2 : wd ≤ 9223372036854775807) (r : Nat) (hr : B.siz n wd = r) :
    Calls Try.prog 63 #[.int .i64 n, .int .i64 wd] w fun e w' => e = .returned (.int .i64 r) ∧ Ex w w' := by
  subst hr
  exact (size_any n wd w n1 n2 d1 d2).mono fun e w' h => ⟨h.1, h.2 ▸ Ex.refl _⟩
theorem pack_is (a : Option Addr) (n cap : Nat) (l : List Nat) (wd : Int) (w : World) (hn : n = l.length) (hB : Rd n64 w a cap l) (h64 : ∀ x ∈ l, x < 18446744073709551616) (hl : l.length ≤ 2097152) (d1 : -9223372036854775808 ≤ wd) (d2 : wd ≤ 9223372036854775807) (r : List UInt8) (e0 : Nat) (hr : B.pck l wd = (r, e0)) :
    Calls Try.prog 57 #[.slice a n cap, .int .i64 wd] w fun e w' => ∃ v, e = .returned (.tuple #[v, .int .i64 e0]) ∧ IsByt r v w' ∧ Fresh w.heap.size v ∧ Ex w w' :=
  pack_any a n cap l wd w hn hB h64 hl r e0 hr
theorem unpack_is (a : Option Addr) (len cap : Nat) (b : List UInt8) (n wd : Int) (w : World) (hlen : len = b.length) (hB : Byt w a cap b) (hbl : b.length ≤ 140737488351232) (n1 : -9223372036854775808 ≤ n) (n2 : n ≤ 9223372036854775807) (d1 : -9223372036854775808 ≤ wd) (d2 : wd ≤ 9223372036854775807) (r : List Nat) (e0 : Nat) (hr : B.unp b n wd = (r, e0)) :
    Calls Try.prog 59 #[.slice a len cap, .int .i64 n, .int .i64 wd] w fun e w' => ∃ v, e = .returned (.tuple #[v, .int .i64 e0]) ∧ IsRd n64 r v w' ∧ Fresh w.heap.size v ∧ Ex w w' :=
  unpack_any a len cap b n wd w hlen hB hbl n1 n2 d1 d2 r e0 hr
end Go.Proofs.Ytkhbkifofkjjnaa
