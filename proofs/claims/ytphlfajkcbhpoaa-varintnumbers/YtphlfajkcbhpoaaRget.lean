/-
  The contract of the document's own answer for Get over the program: for any bytes and any place.
-/
import Derived.Test.YtphlfajkcbhpoaaWithin
import Derived.Test.YtphlfajkcbhpoaaCuts
namespace Go.Proofs.Ytphlfajkcbhpoaa
open Go.RowKit
set_option linter.unusedVariables false

theorem rget_arg (a : Option Addr) (cap : Nat) (l : List UInt8) (p : Int) (w : World) (hm : cap ≤ maxLen) (hl : l.length ≤ cap) (hp : p < 0 ∨ (l.length : Int) < p) :
    Calls Try.prog 10 #[.slice a l.length cap, .int .i64 p] w fun e w' =>
      e = .returned (.tuple #[.int .u64 (M.get l p).1, .int .i64 (M.get l p).2.1, .int .i64 (M.get l p).2.2]) ∧ w' = w := by
  unfold maxLen at hm
  rw [M.get_out hp]
  rcases hp with h | h
  · go_enter Try.func10, Try.ntmps10
    go_wp2
    go_ret3
    exact ⟨ret3 rfl rfl rfl, rfl⟩
  · have h0 : ¬ p < 0 := by omega
    go_enter Try.func10, Try.ntmps10
    go_wp2
    go_ret3
    exact ⟨ret3 rfl rfl rfl, rfl⟩

theorem digit_low (U c j M' : Nat) (hc : c < 256) (hU : U < 128 ^ j) (hM : M' = U + c % 128 * 128 ^ j) (hM2 : M' < 18446744073709551616) :
    bits .or .u64 (U : Int) (IntKind.u64.wrap (IntKind.u64.wrap (bits .and .u8 (c : Int) 127) * 2 ^ (7 * j))) = (M' : Int) := by
  have h1 : bits .and .u8 (c : Int) 127 = ((c % 128 : Nat) : Int) := by rw [I.and127b _ (by omega) (by omega)]; omega
  have h2 : IntKind.u64.wrap ((c % 128 : Nat) : Int) = ((c % 128 : Nat) : Int) := by rw [I.w64]; omega
  have e : (128 : Nat) ^ j = 2 ^ (7 * j) := by rw [Nat.pow_mul]
  rw [e] at hU hM
  have h3 : ((c % 128 : Nat) : Int) * 2 ^ (7 * j) = ((c % 128 * 2 ^ (7 * j) : Nat) : Int) := by
    rw [Int.natCast_mul, Int.natCast_pow]; rfl
  have hX : c % 128 * 2 ^ (7 * j) < 18446744073709551616 := by omega
  have h4 : IntKind.u64.wrap ((c % 128 * 2 ^ (7 * j) : Nat) : Int) = ((c % 128 * 2 ^ (7 * j) : Nat) : Int) := by rw [I.w64]; omega
  rw [h1, h2, h3, h4, (bits_nat .u64 64 (by decide) I.wraps64 U (c % 128 * 2 ^ (7 * j)) (by omega) (by omega)).2, Nat.or_comm, Nat.mul_comm, ← Nat.two_pow_add_eq_or_of_lt hU, hM, Nat.mul_comm (2 ^ (7 * j))]
  omega

set_option maxRecDepth 100000 in
set_option maxHeartbeats 2000000 in
theorem rget_in (a : Option Addr) (cap : Nat) (l : List UInt8) (p : Nat) (w : World) (hB : Byt w a cap l) (hp : p ≤ l.length) :
    Calls Try.prog 10 #[.slice a l.length cap, .int .i64 p] w fun e w' =>
      e = .returned (.tuple #[.int .u64 (M.get l p).1, .int .i64 (M.get l p).2.1, .int .i64 (M.get l p).2.2]) ∧ w' = w := by
  obtain ⟨hlc, hcm, hnone, hcell⟩ := hB
  unfold maxLen at hcm
  have hlen : l.length ≤ 9223372036854775807 := by omega
  have hp0 : ¬ (p : Int) < 0 := by omega
  have hp1 : ¬ (l.length : Int) < (p : Int) := by omega
  go_enter Try.func10, Try.ntmps10
  go_wp2
  go_loop [7] (fun i => ∃ k : Nat, p ≤ k ∧ k ≤ l.length ∧ i = .int .i64 k ∧ M.lead (l.drop p) = (k - p) + M.lead (l.drop k)) (fun i => l.length - (intOf i).toNat)
  case atStart => exact ⟨p, Nat.le_refl _, hp, rfl, by omega⟩
  case round =>
    obtain ⟨k, hk1, hk2, rfl, hlead⟩ := hrel
    have HL : Hid (M.lead (l.drop p) = (k - p) + M.lead (l.drop k)) := hlead
    clear hlead
    by_cases hlt : k < l.length
    · obtain ⟨b, off, rfl, hc⟩ := hcell k hlt
      have hb256 := M.bAt_lt l k
      by_cases hb : 128 ≤ M.bAt l k
      · have hb' : (128 : Int) ≤ (M.bAt l k : Int) := by omega
        go_wp2
        go_round
        case rel => exact ⟨k + 1, by omega, by omega, by go_num, by rw [HL.out, M.lead_more hlt hb]; omega⟩
        case measure => simp [intOf]; omega
      · have hb' : ¬ (128 : Int) ≤ (M.bAt l k : Int) := by omega
        have hne : ((k : Int) == (l.length : Int)) = false := by simp; omega
        have hcell' : ∀ i, i < l.length → w.cell? ⟨b, off + i, none⟩ = some (.int .u8 (M.bAt l i)) := by
          intro i hi
          obtain ⟨b', off', h1, h2⟩ := hcell i hi
          simp at h1
          obtain ⟨rfl, rfl⟩ := h1
          exact h2
        have HC : Hid (∀ i, i < l.length → w.cell? ⟨b, off + i, none⟩ = some (.int .u8 (M.bAt l i))) := hcell'
        clear hcell hcell' hnone
        have hlk : M.lead (l.drop p) = k - p := by rw [HL.out, M.lead_last hlt (by omega)]; omega
        have HK : Hid (M.lead (l.drop p) = k - p) := hlk
        clear hlk HL
        obtain ⟨d, rfl⟩ : ∃ d, k = p + d := ⟨k - p, by omega⟩
        cases hs : M.short (d + 1) (M.bAt l (p + d))
        · have hfin : M.get l (p : Int) = (0, 0, 12) := M.get_form hlt (by rw [HK.out]; omega) hs
          have HF : Hid (M.get l (p : Int) = (0, 0, 12)) := hfin
          have hbad : 10 < d + 1 ∨ (d + 1 = 10 ∧ 1 < M.bAt l (p + d)) ∨ (d + 1 ≤ 10 ∧ 1 < d + 1 ∧ M.bAt l (p + d) = 0) := by
            simp only [M.short] at hs
            simp at hs
            omega
          clear hfin hs
          rcases hbad with h | ⟨h, h'⟩ | ⟨h, h', h''⟩
          · go_wp2
            go_ret3
            exact ⟨by rw [HF.out]; exact ret3 rfl rfl rfl, rfl⟩
          · have h9 : d ≤ 9 := by omega
            have h9' : 9 ≤ d := by omega
            clear h
            go_wp2
            go_ret3
            exact ⟨by rw [HF.out]; exact ret3 rfl rfl rfl, rfl⟩
          · rw [h''] at hc hb'
            by_cases h10 : 9 ≤ d
            · go_wp2
              go_ret3
              exact ⟨by rw [HF.out]; exact ret3 rfl rfl rfl, rfl⟩
            · go_wp2
              go_ret3
              exact ⟨by rw [HF.out]; exact ret3 rfl rfl rfl, rfl⟩
        · have hfin := M.get_ok hlt (by rw [HK.out]; omega) hs
          have hbd := M.get_bound hlt hs
          have HF : Hid (M.get l (p : Int) = (M.upto l p (d + 1), p + d + 1, 0)) := hfin
          have HB : Hid (M.upto l p (d + 1) < 18446744073709551616) := hbd
          have hgood : d ≤ 0 ∨ (1 ≤ d ∧ d < 9 ∧ 1 ≤ M.bAt l (p + d)) ∨ (9 ≤ d ∧ d ≤ 9 ∧ 1 ≤ M.bAt l (p + d) ∧ M.bAt l (p + d) ≤ 1) := by
            simp only [M.short] at hs
            simp at hs
            omega
          have hd9 : d ≤ 9 := by omega
          clear hfin hs hbd
          have hN := M.bAt_lt l (p + d)
          rcases hgood with h | ⟨h, h', h''⟩ | ⟨h, h', h'', h3⟩
          · go_wp2
            go_loop [9, 10] (fun n i => ∃ j : Nat, j ≤ d + 1 ∧ i = .int .i64 (j : Int) ∧ n = .int .u64 (M.upto l p j)) (fun _ i => d + 1 - (intOf i).toNat)
            case atStart => exact ⟨0, by omega, rfl, by rw [M.upto_zero]; rfl⟩
            case round =>
              obtain ⟨j, hj, rfl, rfl⟩ := hrel
              by_cases hjd : j < d + 1
              · have hmono := M.upto_mono (l := l) (p := p) (d - j) (j + 1) (by omega)
                rw [show j + 1 + (d - j) = d + 1 from by omega] at hmono
                have hsucc := M.upto_succ (l := l) (p := p) (j := j) (by omega)
                have hb8 := M.bAt_lt l (p + j)
                have hcj := HC.out (p + j) (by omega)
                have hul := M.upto_lt l p j
                have hBd := HB.out
                have HSU : Hid (M.upto l p (j + 1) = M.upto l p j + M.bAt l (p + j) % 128 * 128 ^ j) := hsucc
                have HUL : Hid (M.upto l p j < 128 ^ j) := hul
                have HLO : Hid (M.upto l p (j + 1) < 18446744073709551616) := by show _ < _; omega
                clear hsucc hmono hBd hul
                go_wp2
                go_round
                case rel => exact ⟨j + 1, by omega, by go_num, I.int_num (digit_low _ _ _ _ hb8 HUL.out HSU.out HLO.out)⟩
                case measure => simp [intOf]; omega
              · obtain rfl : j = d + 1 := by omega
                go_wp2
                go_ret3
                exact ⟨by rw [HF.out]; exact ret3 rfl rfl rfl, rfl⟩
          · have hz : ((M.bAt l (p + d) : Int) == 0) = false := by simp; omega
            go_wp2
            go_loop [9, 10] (fun n i => ∃ j : Nat, j ≤ d + 1 ∧ i = .int .i64 (j : Int) ∧ n = .int .u64 (M.upto l p j)) (fun _ i => d + 1 - (intOf i).toNat)
            case atStart => exact ⟨0, by omega, rfl, by rw [M.upto_zero]; rfl⟩
            case round =>
              obtain ⟨j, hj, rfl, rfl⟩ := hrel
              by_cases hjd : j < d + 1
              · have hmono := M.upto_mono (l := l) (p := p) (d - j) (j + 1) (by omega)
                rw [show j + 1 + (d - j) = d + 1 from by omega] at hmono
                have hsucc := M.upto_succ (l := l) (p := p) (j := j) (by omega)
                have hb8 := M.bAt_lt l (p + j)
                have hcj := HC.out (p + j) (by omega)
                have hul := M.upto_lt l p j
                have hBd := HB.out
                have HSU : Hid (M.upto l p (j + 1) = M.upto l p j + M.bAt l (p + j) % 128 * 128 ^ j) := hsucc
                have HUL : Hid (M.upto l p j < 128 ^ j) := hul
                have HLO : Hid (M.upto l p (j + 1) < 18446744073709551616) := by show _ < _; omega
                clear hsucc hmono hBd hul
                go_wp2
                go_round
                case rel => exact ⟨j + 1, by omega, by go_num, I.int_num (digit_low _ _ _ _ hb8 HUL.out HSU.out HLO.out)⟩
                case measure => simp [intOf]; omega
              · obtain rfl : j = d + 1 := by omega
                go_wp2
                go_ret3
                exact ⟨by rw [HF.out]; exact ret3 rfl rfl rfl, rfl⟩
          · have hz : ((M.bAt l (p + d) : Int) == 0) = false := by simp; omega
            go_wp2
            go_loop [9, 10] (fun n i => ∃ j : Nat, j ≤ d + 1 ∧ i = .int .i64 (j : Int) ∧ n = .int .u64 (M.upto l p j)) (fun _ i => d + 1 - (intOf i).toNat)
            case atStart => exact ⟨0, by omega, rfl, by rw [M.upto_zero]; rfl⟩
            case round =>
              obtain ⟨j, hj, rfl, rfl⟩ := hrel
              by_cases hjd : j < d + 1
              · have hmono := M.upto_mono (l := l) (p := p) (d - j) (j + 1) (by omega)
                rw [show j + 1 + (d - j) = d + 1 from by omega] at hmono
                have hsucc := M.upto_succ (l := l) (p := p) (j := j) (by omega)
                have hb8 := M.bAt_lt l (p + j)
                have hcj := HC.out (p + j) (by omega)
                have hul := M.upto_lt l p j
                have hBd := HB.out
                have HSU : Hid (M.upto l p (j + 1) = M.upto l p j + M.bAt l (p + j) % 128 * 128 ^ j) := hsucc
                have HUL : Hid (M.upto l p j < 128 ^ j) := hul
                have HLO : Hid (M.upto l p (j + 1) < 18446744073709551616) := by show _ < _; omega
                clear hsucc hmono hBd hul
                go_wp2
                go_round
                case rel => exact ⟨j + 1, by omega, by go_num, I.int_num (digit_low _ _ _ _ hb8 HUL.out HSU.out HLO.out)⟩
                case measure => simp [intOf]; omega
              · obtain rfl : j = d + 1 := by omega
                go_wp2
                go_ret3
                exact ⟨by rw [HF.out]; exact ret3 rfl rfl rfl, rfl⟩
    · have hkl : k = l.length := by omega
      subst hkl
      have hfin : M.get l (p : Int) = (0, 0, 10) := M.get_end hp (by rw [HL.out, M.lead_end (Nat.le_refl _)]; omega)
      have HF : Hid (M.get l (p : Int) = (0, 0, 10)) := hfin
      clear hfin
      go_wp2
      go_ret3
      exact ⟨by rw [HF.out]; exact ret3 rfl rfl rfl, rfl⟩
end Go.Proofs.Ytphlfajkcbhpoaa
