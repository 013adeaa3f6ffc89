/-
  What the statements' walks take of package block: its contracts.
-/
import Derived.Test.YthibeoohhcmejaaAlls
namespace Go.Proofs.Ythibeoohhcmejaa
open Go.RowKit
set_option linter.unusedVariables false

theorem seal_is (a : Option Addr) (n cap : Nat) (l : List UInt8) (w : World) (hn : n = l.length) (hB : Byt w a cap l) (hl : l.length ≤ 1048576) (r : List UInt8) (hr : K.frm l = r) :
    Calls Try.prog 9 #[.slice a n cap] w fun e w' => ∃ v, e = .returned (.tuple #[v, .int .i64 0]) ∧ IsByt r v w' ∧ Ex w w' := by
  subst hn; subst hr
  refine (seal_any a cap l w hB hl).mono ?_
  rintro e w' ⟨v, rfl, ho, hx⟩
  exact ⟨v, rfl, ho.isByt, hx⟩
theorem seal_long (a : Option Addr) (n cap : Nat) (l : List UInt8) (w : World) (hn : n = l.length) (hB : Byt w a cap l) (hl : 1048576 < l.length) (hl2 : l.length ≤ 2000000) :
    Calls Try.prog 9 #[.slice a n cap] w fun e w' => ∃ v, e = .returned (.tuple #[v, .int .i64 3]) ∧ IsByt [] v w' ∧ Ex w w' := by
  subst hn
  refine (seal_over a cap l w hB hl).mono ?_
  rintro e w' ⟨rfl, hx⟩
  exact ⟨_, rfl, ⟨none, 0, rfl, Byt.nil _⟩, hx⟩
theorem open_is (a : Option Addr) (len cap : Nat) (l : List UInt8) (p : Int) (w : World) (hlen : len = l.length) (hB : Byt w a cap l) (hbl : l.length ≤ 5000000) (p1 : -9223372036854775808 ≤ p) (p2 : p ≤ 9223372036854775807) (x : List UInt8) (k0 e0 : Nat) (hr : K.opens l p = (x, k0, e0)) :
    Calls Try.prog 10 #[.slice a len cap, .int .i64 p] w fun e w' => ∃ v, e = .returned (.tuple #[v, .int .i64 k0, .int .i64 e0]) ∧ IsByt x v w' ∧ Ex w w' := by
  refine (opened_is a len cap l p w hlen hB (by omega) x k0 e0 hr).mono ?_
  rintro e w' ⟨v, rfl, ho, hx⟩
  exact ⟨v, rfl, ho.isByt, hx⟩
theorem all_is (a : Option Addr) (len cap : Nat) (l : List UInt8) (w : World) (hlen : len = l.length) (hB : Byt w a cap l) (hbl : l.length ≤ 5000000) (r : List (List UInt8)) (k0 e0 : Nat) (hr : K.all l = (r, k0, e0)) :
    Calls Try.prog 11 #[.slice a len cap] w fun e w' => ∃ v, e = .returned (.tuple #[v, .int .i64 k0, .int .i64 e0]) ∧ IsRdB r v w' ∧ Ex w w' := alls_is a len cap l w hlen hB hbl r k0 e0 hr
end Go.Proofs.Ythibeoohhcmejaa
