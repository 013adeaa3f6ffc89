/-
  The contracts of the document's own answers for bits (Width, Size, Pack, Unpack), of the statements' own 'few' and of Same over numbers, over the program.
-/
import Derived.Test.YtkhbkifofkjjnaaKinds
import Derived.Test.YtkhbkifofkjjnaaPack
namespace Go.Proofs.Ytkhbkifofkjjnaa
open Go.RowKit
set_option linter.unusedVariables false

/-- A value's block, if it has one, is new. -/
def Fresh (base : Nat) (v : Value) : Prop := ∀ g, v.ownBlock = some g → base ≤ g
theorem Fresh.nil (base : Nat) : Fresh base (.slice none 0 0) := fun g h => by simp [Value.ownBlock] at h
theorem Fresh.at (g n c : Nat) : Fresh g (.slice (some ⟨g, 0, none⟩) n c) := fun k h => by simp [Value.ownBlock] at h; omega
theorem width_snoc {l : List Nat} {k : Nat} (h : k < l.length) : B.width (l.take (k + 1)) = max (B.width (l.take k)) (B.wid l[k]) := by
  rw [List.take_succ_eq_append_getElem h, B.width_append]
  simp [B.width]

theorem shr_some {x U : Nat} (h : ¬ B.wid x ≤ U) : ((x : Int) / 2 ^ U != 0) = true := by
  have e : (x : Int) / 2 ^ U = ((x / 2 ^ U : Nat) : Int) := by simp
  rw [e]
  have h1 : ¬ x < 2 ^ U := fun h2 => h ((B.wid_le x U).2 h2)
  have h2 : x / 2 ^ U ≠ 0 := by rw [Ne, Nat.div_eq_zero_iff]; have := Nat.two_pow_pos U; omega
  simp only [bne_iff_ne, ne_eq]
  omega
theorem shr_none {x U : Nat} (h : B.wid x ≤ U) : ((x : Int) / 2 ^ U != 0) = false := by
  have e : (x : Int) / 2 ^ U = ((x / 2 ^ U : Nat) : Int) := by simp
  rw [e, Nat.div_eq_of_lt ((B.wid_le x U).1 h)]
  rfl

set_option maxRecDepth 100000 in
theorem rwidth_any (a : Option Addr) (cap : Nat) (l : List Nat) (w : World) (hB : Rd n64 w a cap l) (h64 : ∀ x ∈ l, x < 18446744073709551616) :
    Calls Try.prog 48 #[.slice a l.length cap] w fun e w' => e = .returned (.int .i64 (B.width l)) ∧ w' = w := by
  have hlc := hB.1
  have hcm := hB.2.1
  unfold maxLen at hcm
  have hlen : l.length ≤ 9223372036854775807 := by omega
  have HB : Hid (Rd n64 w a cap l) := hB
  clear hB
  obtain ⟨R, hR⟩ : ∃ R, R = B.width l := ⟨_, rfl⟩
  have HR : Hid (R = B.width l) := hR
  rw [← hR]
  clear hR
  have H64 : Hid (∀ x ∈ l, x < 18446744073709551616) := h64
  clear h64
  go_enter Try.func48, Try.ntmps48
  go_wp2
  go_loop [3, 4] (fun v i => ∃ k W : Nat, k ≤ l.length ∧ W ≤ 64 ∧ i = .int .i64 k ∧ v = .int .i64 W ∧ W = B.width (l.take k)) (fun _ i => l.length - (intOf i).toNat)
  case atStart => exact ⟨0, 0, by omega, by omega, rfl, rfl, rfl⟩
  case round =>
    obtain ⟨k, W, hk, hW, rfl, rfl, hs⟩ := hrel
    have HS : Hid (W = B.width (l.take k)) := hs
    clear hs
    by_cases hlt : k < l.length
    · obtain ⟨b, off, rfl, hc⟩ := HB.out.at hlt
      have hx64 := H64.out l[k] (List.getElem_mem hlt)
      obtain ⟨x, hx⟩ : ∃ x, x = l[k] := ⟨_, rfl⟩
      rw [← hx] at hc hx64
      have hc' : w.cell? ⟨b, off + k, none⟩ = some (.int .u64 (x : Int)) := hc
      clear hc
      obtain ⟨V, hV⟩ : ∃ V, V = B.width (l.take (k + 1)) := ⟨_, rfl⟩
      have hVm : V = max W (B.wid x) := by rw [hV, width_snoc hlt, HS.out, hx]
      have HV : Hid (V = B.width (l.take (k + 1))) := hV
      have HVm : Hid (V = max W (B.wid x)) := hVm
      have hwx : B.wid x ≤ 64 := (B.wid_le x 64).2 (by omega)
      clear hV hVm hx
      have hki : (k : Int) < (l.length : Int) := by omega
      go_wp2
      go_loop [3] (fun v => ∃ U : Nat, U ≤ 64 ∧ v = .int .i64 U ∧ V = max U (B.wid x)) (fun v => 64 - (intOf v).toNat)
      case atStart => exact ⟨W, hW, rfl, HVm.out⟩
      case round =>
        obtain ⟨U, hU, rfl, hm⟩ := hrel
        have HM : Hid (V = max U (B.wid x)) := hm
        clear hm
        by_cases hU64 : U < 64
        · have hd : decide ((U : Int) < 64) = true := by simp; omega
          by_cases hwU : B.wid x ≤ U
          · have hsh := shr_none hwU
            have hVU : V = U := by have := HM.out; omega
            have HVU : Hid (V = U) := hVU
            clear hVU
            go_wp2
            go_round
            case rel => exact ⟨k + 1, U, by omega, hU, by go_num, rfl, by rw [← HV.out, HVU.out]⟩
            case measure => simp [intOf]; omega
          · have hsh := shr_some hwU
            go_wp2
            go_round
            case rel => exact ⟨U + 1, by omega, by go_num, by have := HM.out; omega⟩
            case measure => simp [intOf]; omega
        · have hd : decide ((U : Int) < 64) = false := by simp; omega
          have hVU : V = U := by have := HM.out; omega
          have HVU : Hid (V = U) := hVU
          clear hVU
          go_wp2
          go_round
          case rel => exact ⟨k + 1, U, by omega, hU, by go_num, rfl, by rw [← HV.out, HVU.out]⟩
          case measure => simp [intOf]; omega
    · obtain rfl : k = l.length := by omega
      have hRW : R = W := by rw [HR.out, HS.out, List.take_length]
      have HRW : Hid (R = W) := hRW
      clear hRW
      go_wp2
      go_ret
      exact ⟨I.ret_int (by rw [HRW.out]), rfl⟩

set_option maxRecDepth 100000 in
theorem rsize_any (n wd : Int) (w : World) (h1 : -9223372036854775808 ≤ n) (h2 : n ≤ 9223372036854775807) (h3 : -9223372036854775808 ≤ wd) (h4 : wd ≤ 9223372036854775807) :
    Calls Try.prog 58 #[.int .i64 n, .int .i64 wd] w fun e w' => e = .returned (.int .i64 (B.siz n wd)) ∧ w' = w := by
  by_cases a1 : n < 0
  · have t1 : decide (n < 0) = true := by simp; omega
    have hr : B.siz n wd = 0 := by unfold B.siz; rw [if_pos (by omega)]
    rw [hr]
    clear hr
    go_enter Try.func58, Try.ntmps58
    go_wp2
    go_ret
    exact ⟨rfl, rfl⟩
  · have t1 : decide (n < 0) = false := by simp; omega
    by_cases a2 : 16777216 < n
    · have t2 : decide (16777216 < n) = true := by simp; omega
      have hr : B.siz n wd = 0 := by unfold B.siz; rw [if_pos (by omega)]
      rw [hr]
      clear hr
      go_enter Try.func58, Try.ntmps58
      go_wp2
      go_ret
      exact ⟨rfl, rfl⟩
    · have t2 : decide (16777216 < n) = false := by simp; omega
      by_cases a3 : wd < 0
      · have t3 : decide (wd < 0) = true := by simp; omega
        have hr : B.siz n wd = 0 := by unfold B.siz; rw [if_pos (by omega)]
        rw [hr]
        clear hr
        go_enter Try.func58, Try.ntmps58
        go_wp2
        go_ret
        exact ⟨rfl, rfl⟩
      · have t3 : decide (wd < 0) = false := by simp; omega
        by_cases a4 : 64 < wd
        · have t4 : decide (64 < wd) = true := by simp; omega
          have hr : B.siz n wd = 0 := by unfold B.siz; rw [if_pos (by omega)]
          rw [hr]
          clear hr
          go_enter Try.func58, Try.ntmps58
          go_wp2
          go_ret
          exact ⟨rfl, rfl⟩
        · have t4 : decide (64 < wd) = false := by simp; omega
          obtain ⟨N, rfl⟩ := Int.eq_ofNat_of_zero_le (show 0 ≤ n by omega)
          obtain ⟨D, rfl⟩ := Int.eq_ofNat_of_zero_le (show 0 ≤ wd by omega)
          have hr : B.siz N D = (N * D + 7) / 8 := by unfold B.siz; rw [if_neg (by omega)]; rfl
          have hm : N * D ≤ 16777216 * 64 := Nat.mul_le_mul (by omega) (by omega)
          have hm2 : (N : Int) * (D : Int) ≤ 1073741824 := by rw [← Int.natCast_mul]; omega
          have hm3 : 0 ≤ (N : Int) * (D : Int) := by rw [← Int.natCast_mul]; omega
          rw [hr]
          clear hr
          go_enter Try.func58, Try.ntmps58
          go_wp2
          go_ret
          exact ⟨I.ret_int (by simp), rfl⟩
end Go.Proofs.Ytkhbkifofkjjnaa
