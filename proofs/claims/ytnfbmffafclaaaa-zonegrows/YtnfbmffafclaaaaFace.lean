/-
  What the statements' walks take of package zone: its five contracts.
-/
import Derived.Test.YtnfbmffafclaaaaBuilds
import Derived.Test.YtnfbmffafclaaaaRights
import Derived.Test.YtnfbmffafclaaaaJoins
import Derived.Test.YtnfbmffafclaaaaEncs
import Derived.Test.YtnfbmffafclaaaaDecs
import Derived.Test.YtnfbmffafclaaaaFew
namespace Go.Proofs.Ytnfbmffafclaaaa
open Go.RowKit
set_option linter.unusedVariables false
/-- A zone's three counts are Go ints. -/
def Z.W3 (z : Zn) : Prop := In64 z.k ∧ In64 z.r ∧ In64 z.u
theorem Z.W3.of_right {z : Zn} (h : Z.right z = true) : Z.W3 z := by
  have h1 := Z.right_rows h
  have h2 := Z.right_all h
  unfold Z.W3 In64
  omega
theorem Z.W3.of_enc {z : Zn} {E : List UInt8} (h : Z.encE z = (E, 0)) : Z.W3 z := by
  unfold Z.encE at h
  split at h
  · rename_i hR
    exact Z.W3.of_right hR
  · simp at h
theorem Z.W3.of_join {a b z : Zn} (h : Z.join a b = (z, 0)) : Z.W3 a ∧ Z.W3 b := by
  unfold Z.join at h
  split at h
  · simp at h
  · split at h
    · simp at h
    · rename_i hn
      have ha : Z.right a = true := by
        cases hc : Z.right a with
        | true => rfl
        | false => exact absurd (Or.inl hc) hn
      have hb : Z.right b = true := by
        cases hc : Z.right b with
        | true => rfl
        | false => exact absurd (Or.inr (Or.inl hc)) hn
      exact ⟨Z.W3.of_right ha, Z.W3.of_right hb⟩
theorem Z.W3.of_build {K : Int} {l : List Cel} (hK : In64 K) (hl : l.length ≤ 1048576) : Z.W3 (Z.build K l) := by
  have h := Z.build_ru K l
  have hk : (Z.build K l).k = K := (Z.fold_inv K l.length l).1
  unfold Z.W3
  rw [hk]
  refine ⟨hK, ?_, ?_⟩
  · unfold In64; omega
  · unfold In64; omega
theorem z_build (k : Int) (a : Option Addr) (n cap : Nat) (l : List Cel) (w : World) (hn : n = l.length) (hB : RdC w a cap l) :
    Calls Try.prog 18 #[.int .i64 k, .slice a n cap] w fun e w' => e = .returned (zv (Z.build k l)) ∧ Ex w w' := build_is k a n cap l w hn hB
theorem z_right (z : Zn) (w : World) (h1 : z.ms.length ≤ maxLen) (h2 : z.xs.length ≤ maxLen) (h3 : Z.W3 z) (r : Bool) (hr : Z.right z = r) :
    Calls Try.prog 12 #[zv z] w fun e w' => e = .returned (.bool r) ∧ Ex w w' := right_is z w h1 h2 h3.1 h3.2.1 h3.2.2 r hr
theorem z_join (a b : Zn) (w : World) (h1 : a.ms.length ≤ maxLen) (h2 : a.xs.length ≤ maxLen) (h3 : b.ms.length ≤ maxLen) (h4 : b.xs.length ≤ maxLen) (h5 : Z.W3 a) (h6 : Z.W3 b) (r : Zn) (n : Nat) (hr : Z.join a b = (r, n)) :
    Calls Try.prog 14 #[zv a, zv b] w fun e w' => e = .returned (.tuple #[zv r, .int .i64 n]) ∧ Ex w w' := join_is a b w h1 h2 h3 h4 h5 h6 r n hr
theorem z_enc (z : Zn) (w : World) (h1 : z.ms.length ≤ maxLen) (h2 : z.xs.length ≤ maxLen) (h3 : In64 z.mn) (h4 : In64 z.mx) (h5 : Z.W3 z) (r : List UInt8) (e0 : Nat) (hr : Z.encE z = (r, e0)) :
    Calls Try.prog 9 #[zv z] w fun e w' => ∃ v, e = .returned (.tuple #[v, .int .i64 e0]) ∧ IsByt r v w' ∧ Ex w w' :=
  (enc_own z w h1 h2 h3 h4 h5 r e0 hr).mono fun e w' ⟨v, a, b, c⟩ => ⟨v, a, b.isByt, c⟩
theorem z_dec (a : Option Addr) (len cap : Nat) (b : List UInt8) (at' : Int) (w : World) (hlen : len = b.length) (hB : Byt w a cap b) (z0 : Zn) (k0 e0 : Nat) (hr : Z.dec b at' = (z0, k0, e0)) :
    Calls Try.prog 16 #[.slice a len cap, .int .i64 at'] w fun e w' => e = .returned (.tuple #[zv z0, .int .i64 k0, .int .i64 e0]) ∧ Ex w w' := dec_is a len cap b at' w hlen hB z0 k0 e0 hr
end Go.Proofs.Ytnfbmffafclaaaa
