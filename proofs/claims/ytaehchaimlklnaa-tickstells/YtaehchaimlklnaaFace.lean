/-
  What the statements' walks take of package delta: its two contracts.
-/
import Derived.Test.YtaehchaimlklnaaSdec
import Derived.Test.YtaehchaimlklnaaBook
namespace Go.Proofs.Ytaehchaimlklnaa
open Go.RowKit
set_option linter.unusedVariables false

theorem enc_is (a : Option Addr) (n cap : Nat) (l : List Int) (w : World) (hn : n = l.length) (hB : Rd z64 w a cap l) (hok : ∀ x ∈ l, D.ok x) (hl : l.length ≤ 300000) (r : List UInt8) (hr : D.enc l = r) :
    Calls Try.prog 31 #[.slice a n cap] w fun e w' => ∃ v, e = .returned v ∧ IsByt r v w' ∧ Ex w w' := senc_any a n cap l w hn hB hok hl r hr
theorem dec_is (a : Option Addr) (len cap : Nat) (b : List UInt8) (p most : Int) (w : World) (hlen : len = b.length) (hB : Byt w a cap b) (hbl : b.length ≤ 140737488355328) (p1 : -9223372036854775808 ≤ p) (p2 : p ≤ 9223372036854775807) (m1 : -9223372036854775808 ≤ most) (m2 : most ≤ 9223372036854775807) (hcap : most ≤ 2000000 ∨ b.length ≤ 2000000) (r : List Int) (k0 e0 : Nat) (hr : D.dec b p most = (r, k0, e0)) :
    Calls Try.prog 37 #[.slice a len cap, .int .i64 p, .int .i64 most] w fun e w' => ∃ v, e = .returned (.tuple #[v, .int .i64 k0, .int .i64 e0]) ∧ OwnR 2 z64 w' w.heap.size v r ∧ Ex w w' := sdec_any a len cap b p most w hlen hB hbl m1 m2 hcap r k0 e0 hr
end Go.Proofs.Ytaehchaimlklnaa
