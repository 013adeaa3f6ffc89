/-
  What the statements' walks take of package ticks: its five contracts.
-/
import Derived.Test.YtaehchaimlklnaaLbuild
import Derived.Test.YtaehchaimlklnaaLspan
import Derived.Test.YtaehchaimlklnaaLdec
import Derived.Test.YtaehchaimlklnaaLenc
import Derived.Test.YtaehchaimlklnaaBook
namespace Go.Proofs.Ytaehchaimlklnaa
open Go.RowKit
set_option linter.unusedVariables false
theorem t_build (a : Option Addr) (n cap : Nat) (l : List Int) (w : World) (hn : n = l.length) (hB : Rd z64 w a cap l) (hok : ∀ x ∈ l, D.ok x) (hl : l.length ≤ 1000) (X : Tk.Ix) (c : Nat) (hx : Tk.build l = (X, c)) :
    Calls Try.prog 9 #[.slice a n cap] w fun e w' => ∃ p c2, e = .returned (.tuple #[xv X.r X.m (.slice p X.a.length c2), .int .i64 c]) ∧ Rd z64 w' p c2 X.a ∧ Ex w w' :=
  (lbuild_is a n cap l w hn hB X c hx).mono fun e w' ⟨v, h1, h2, h3⟩ => by
    obtain ⟨p, c2, rfl, hr⟩ := h2.rd
    exact ⟨p, c2, h1, hr, h3⟩
theorem t_right (r m : Int) (a : Option Addr) (n cap : Nat) (A : List Int) (w : World) (hn : n = A.length) (hB : Rd z64 w a cap A) (hok : ∀ x ∈ A, D.ok x) (hl : A.length ≤ 1000) (hr : D.ok r) (hm : D.ok m) (b : Bool) (hb : Tk.right ⟨r, m, A⟩ = b) :
    Calls Try.prog 17 #[xv r m (.slice a n cap)] w fun e w' => e = .returned (.bool b) ∧ Ex w w' := lright_is r m a n cap A w hn hB hr.1 hr.2 b hb
theorem t_span (r m : Int) (a : Option Addr) (n cap : Nat) (A : List Int) (lo hi : Int) (w : World) (hn : n = A.length) (hB : Rd z64 w a cap A) (hok : ∀ x ∈ A, D.ok x) (hl : A.length ≤ 1000) (hr : D.ok r) (hm : D.ok m) (hlo : D.ok lo) (hhi : D.ok hi) (p q : Nat) (hs : Tk.span ⟨r, m, A⟩ lo hi = (p, q)) :
    Calls Try.prog 12 #[xv r m (.slice a n cap), .int .i64 lo, .int .i64 hi] w fun e w' => e = .returned (.tuple #[.int .i64 p, .int .i64 q]) ∧ Ex w w' := lspan_is r m a n cap A lo hi w hn hB hr.1 hr.2 p q hs
theorem t_enc (r m : Int) (a : Option Addr) (n cap : Nat) (A : List Int) (w : World) (hn : n = A.length) (hB : Rd z64 w a cap A) (hok : ∀ x ∈ A, D.ok x) (hl : A.length ≤ 300000) (hr : D.ok r) (hm : D.ok m) (R : List UInt8) (e0 : Nat) (he : Tk.encE ⟨r, m, A⟩ = (R, e0)) :
    Calls Try.prog 14 #[xv r m (.slice a n cap)] w fun e w' => ∃ v, e = .returned (.tuple #[v, .int .i64 e0]) ∧ IsByt R v w' ∧ Ex w w' := lenc_is r m a n cap A w hn hB hok hr.1 hr.2 hm.1 hm.2 R e0 he
theorem t_dec (a : Option Addr) (len cap : Nat) (b : List UInt8) (p : Int) (w : World) (hlen : len = b.length) (hB : Byt w a cap b) (hbl : b.length ≤ 140737488355328) (hp : D.ok p) (X : Tk.Ix) (k0 e0 : Nat) (hr : Tk.dec b p = (X, k0, e0)) :
    Calls Try.prog 19 #[.slice a len cap, .int .i64 p] w fun e w' => ∃ q c2, e = .returned (.tuple #[xv X.r X.m (.slice q X.a.length c2), .int .i64 k0, .int .i64 e0]) ∧ Rd z64 w' q c2 X.a ∧ Ex w w' :=
  (ldec_is a len cap b p w hlen hB hbl X k0 e0 hr).mono fun e w' ⟨v, h1, h2, h3⟩ => by
    obtain ⟨q, c2, rfl, hr⟩ := h2.rd
    exact ⟨q, c2, h1, hr, h3⟩
end Go.Proofs.Ytaehchaimlklnaa
