/-
  Package bits: its small functions (isWidth, isCount, bytesOf, bitAt, hasBitsFrom), Width and Size.
-/
import Derived.Test.YtkhbkifofkjjnaaSame
namespace Go.Proofs.Ytkhbkifofkjjnaa
open Go.RowKit
set_option linter.unusedVariables false

theorem isWidth_is (d : Int) (w : World) (r : Bool) (hr : decide (0 ≤ d ∧ d ≤ 64) = r) :
    Calls Try.prog 60 #[.int .i64 d] w fun e w' => e = .returned (.bool r) ∧ w' = w := by
  subst hr
  by_cases a1 : 0 ≤ d
  · have t1 : decide (0 ≤ d) = true := by simp; omega
    have hr : decide (0 ≤ d ∧ d ≤ 64) = decide (d ≤ 64) := by simp; omega
    rw [hr]
    clear hr
    go_enter Try.func60, Try.ntmps60
    go_wp2
    go_ret
    exact ⟨rfl, rfl⟩
  · have t1 : decide (0 ≤ d) = false := by simp; omega
    have hr : decide (0 ≤ d ∧ d ≤ 64) = false := by simp; omega
    rw [hr]
    clear hr
    go_enter Try.func60, Try.ntmps60
    go_wp2
    go_ret
    exact ⟨rfl, rfl⟩
theorem isCount_is (d : Int) (w : World) (r : Bool) (hr : decide (0 ≤ d ∧ d ≤ 16777216) = r) :
    Calls Try.prog 62 #[.int .i64 d] w fun e w' => e = .returned (.bool r) ∧ w' = w := by
  subst hr
  by_cases a1 : 0 ≤ d
  · have t1 : decide (0 ≤ d) = true := by simp; omega
    have hr : decide (0 ≤ d ∧ d ≤ 16777216) = decide (d ≤ 16777216) := by simp; omega
    rw [hr]
    clear hr
    go_enter Try.func62, Try.ntmps62
    go_wp2
    go_ret
    exact ⟨rfl, rfl⟩
  · have t1 : decide (0 ≤ d) = false := by simp; omega
    have hr : decide (0 ≤ d ∧ d ≤ 16777216) = false := by simp; omega
    rw [hr]
    clear hr
    go_enter Try.func62, Try.ntmps62
    go_wp2
    go_ret
    exact ⟨rfl, rfl⟩
set_option maxRecDepth 100000 in
theorem bytesOf_is (b : Int) (S : Nat) (w : World) (hb : b = (S : Int)) (hS : S ≤ 4294967296) (r : Nat) (hr : (S + 7) / 8 = r) :
    Calls Try.prog 61 #[.int .i64 b] w fun e w' => e = .returned (.int .i64 r) ∧ w' = w := by
  subst hr
  subst hb
  go_enter Try.func61, Try.ntmps61
  go_wp2
  go_ret
  exact ⟨I.ret_int (by omega), rfl⟩
/-- The bit at a place, as a number. -/
def bitN (b : List UInt8) (p : Nat) : Nat := if B.bit8 b p then 1 else 0
set_option maxRecDepth 100000 in
theorem bitAt_is (a : Option Addr) (len cap : Nat) (b : List UInt8) (i : Int) (p : Nat) (w : World) (hlen : len = b.length) (hB : Byt w a cap b) (hi : i = (p : Int)) (hbl : b.length ≤ 134217729) (hp : p < 8 * b.length) (r : Nat) (hr : bitN b p = r) :
    Calls Try.prog 65 #[.slice a len cap, .int .i64 i] w fun e w' => e = .returned (.int .u8 r) ∧ w' = w := by
  subst hlen
  subst hi
  obtain ⟨bb, off, rfl, hc⟩ := hB.2.2.2 (p / 8) (by omega)
  have hib : (p : Int) / 8 < (b.length : Int) := by omega
  have hcx : w.cell? ⟨bb, off + p / 8, none⟩ = some (.int .u8 (M.bAt b (p / 8))) := hc
  clear hc hB
  have hand : bits .and .u8 ((M.bAt b (p / 8) : Int) / 2 ^ (p % 8)) 1 = (r : Int) := by
    unfold bitN at hr
    cases hb : B.bit8 b p
    · rw [bit8_none hb]; rw [hb] at hr; simp at hr; omega
    · rw [bit8_one hb]; rw [hb] at hr; simp at hr; omega
  clear hr
  go_enter Try.func65, Try.ntmps65
  go_wp2
  go_ret
  exact ⟨rfl, rfl⟩
end Go.Proofs.Ytkhbkifofkjjnaa
