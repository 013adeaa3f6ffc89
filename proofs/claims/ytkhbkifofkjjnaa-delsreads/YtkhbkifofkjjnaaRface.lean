/-
  What the statements' walks take of package runs: its two contracts.
-/
import Derived.Test.YtkhbkifofkjjnaaDecs
namespace Go.Proofs.Ytkhbkifofkjjnaa
open Go.RowKit
set_option linter.unusedVariables false
theorem enc_is (a : Option Addr) (n cap : Nat) (l : List Nat) (wd : Int) (w : World) (hn : n = l.length) (hB : Rd n64 w a cap l) (h64 : ∀ x ∈ l, x < 18446744073709551616) (hl : l.length ≤ 2000000) (r : List UInt8) (e0 : Nat) (hr : R.encE l wd = (r, e0)) :
    Calls Try.prog 26 #[.slice a n cap, .int .i64 wd] w fun e w' => ∃ v, e = .returned (.tuple #[v, .int .i64 e0]) ∧ IsByt r v w' ∧ Ex w w' :=
  (enc_own a n cap l wd w hn hB h64 hl r e0 hr).mono fun e w' ⟨v, h1, h2, h3⟩ => ⟨v, h1, h2.isByt, h3⟩
theorem dec_is (a : Option Addr) (len cap : Nat) (b : List UInt8) (at' n wd : Int) (w : World) (hlen : len = b.length) (hB : Byt w a cap b) (hbl : b.length ≤ 140737488355328) (r : List Nat) (k0 e0 : Nat) (hr : R.dec b at' n wd = (r, k0, e0)) :
    Calls Try.prog 25 #[.slice a len cap, .int .i64 at', .int .i64 n, .int .i64 wd] w fun e w' => ∃ v, e = .returned (.tuple #[v, .int .i64 k0, .int .i64 e0]) ∧ IsRd n64 r v w' ∧ Ex w w' := dec_any a len cap b at' n wd w hlen hB hbl r k0 e0 hr
end Go.Proofs.Ytkhbkifofkjjnaa
