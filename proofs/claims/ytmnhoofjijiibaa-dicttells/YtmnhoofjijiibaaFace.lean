/-
  What the statements' walks take of package dict: its contracts.
-/
import Derived.Test.YtmnhoofjijiibaaMerges
namespace Go.Proofs.Ytmnhoofjijiibaa
open Go.RowKit
set_option linter.unusedVariables false

theorem build_is (a : Option Addr) (n cap : Nat) (l : List (List UInt8)) (w : World) (hn : n = l.length) (hB : Rd st w a cap l) (hl : l.length ≤ 500) (hs : ∀ x ∈ l, x.length ≤ maxLen) (D : List (List UInt8)) (hD : T.bld l = D) (P : List Int) (hP : places D l = P) :
    Calls Try.prog 9 #[.slice a n cap] w fun e w' => ∃ v u, e = .returned (.tuple #[v, u]) ∧ IsRd st D v w' ∧ IsRd z64 P u w' ∧ Ex w w' := sbuild_is a n cap l w hn hB hl D hD P hP
theorem find_is (a : Option Addr) (n cap : Nat) (d : List (List UInt8)) (s : List UInt8) (w : World) (hn : n = d.length) (hB : Rd st w a cap d) (hl : d.length ≤ 500) (hd : ∀ x ∈ d, x.length ≤ maxLen) (hs : s.length ≤ maxLen) (hR : T.Rise d) (r : Option Nat) (hr : T.idx s d = r) :
    Calls Try.prog 11 #[.slice a n cap, .string (str s)] w fun e w' => e = .returned (.tuple #[.int .i64 ((r.getD 0 : Nat) : Int), .bool r.isSome]) ∧ Ex w w' :=
  (sfind_is a n cap d s w hn hB hl hR r hr).mono fun e w' ⟨h1, h2⟩ => ⟨h1, by rw [h2]; exact Ex.refl _⟩
theorem from_is (a : Option Addr) (n cap : Nat) (d : List (List UInt8)) (s : List UInt8) (w : World) (hn : n = d.length) (hB : Rd st w a cap d) (hl : d.length ≤ 500) (hs : s.length ≤ maxLen) (hd : ∀ x ∈ d, x.length ≤ maxLen) (hR : T.Rise d) (f t : Nat) (hf : T.pos s d = f) (ht : T.upto s d = t) :
    Calls Try.prog 13 #[.slice a n cap, .string (str s)] w fun e w' => e = .returned (.tuple #[.int .i64 (f : Int), .int .i64 (t : Int)]) ∧ Ex w w' :=
  (sfrom_is a n cap d s w hn hB hl hs hd hR f t hf ht).mono fun e w' ⟨h1, h2⟩ => ⟨h1, by rw [h2]; exact Ex.refl _⟩
theorem merge_is (a : Option Addr) (n cap : Nat) (L : List (List (List UInt8))) (w : World) (hn : n = L.length) (hB : RdN st w a cap L) (hl : (flat L).length ≤ 500) (hL : L.length ≤ 100) (hs : ∀ l ∈ L, ∀ x ∈ l, x.length ≤ maxLen) (hR : ∀ l ∈ L, T.Rise l) (D : List (List UInt8)) (hD : T.bld (flat L) = D) (P : List (List Int)) (hP : L.map (places D) = P) :
    Calls Try.prog 15 #[.slice a n cap] w fun e w' => ∃ v u, e = .returned (.tuple #[v, u]) ∧ IsRd st D v w' ∧ IsRdN z64 P u w' ∧ Ex w w' := smerge_is a n cap L w hn hB hl hL D hD P hP
theorem encode_is (a : Option Addr) (n cap : Nat) (d : List (List UInt8)) (w : World) (hn : n = d.length) (hB : Rd st w a cap d) (hl : d.length ≤ 500) (hd : ∀ x ∈ d, x.length ≤ maxLen) (r : List UInt8) (e0 : Nat) (hr : (if T.fits d = true then (T.enc d, 0) else ([], 12)) = (r, e0)) :
    Calls Try.prog 19 #[.slice a n cap] w fun e w' => ∃ v, e = .returned (.tuple #[v, .int .i64 e0]) ∧ Own w' w.heap.size v r ∧ Ex w w' := sencode_is a n cap d w hn hB hl hd r e0 hr
theorem fits_is (a : Option Addr) (n cap : Nat) (d : List (List UInt8)) (w : World) (hn : n = d.length) (hB : Rd st w a cap d) (hl : d.length ≤ 500) (hd : ∀ x ∈ d, x.length ≤ maxLen) (r : Bool) (hr : T.fits d = r) :
    Calls Try.prog 21 #[.slice a n cap] w fun e w' => e = .returned (.bool r) ∧ Ex w w' := sfits_is a n cap d w hn hB hl hd r hr
theorem decode_is (a : Option Addr) (len cap : Nat) (b : List UInt8) (p : Int) (w : World) (hlen : len = b.length) (hB : Byt w a cap b) (hbl : b.length ≤ 140737488355328) (p1 : -9223372036854775808 ≤ p) (p2 : p ≤ 9223372036854775807) (r : List (List UInt8)) (k0 e0 : Nat) (hr : T.dec b p = (r, k0, e0)) :
    Calls Try.prog 23 #[.slice a len cap, .int .i64 p] w fun e w' => ∃ v, e = .returned (.tuple #[v, .int .i64 k0, .int .i64 e0]) ∧ IsRd st r v w' ∧ Ex w w' := sdecode_is a len cap b p w hlen hB r k0 e0 hr
end Go.Proofs.Ytmnhoofjijiibaa
