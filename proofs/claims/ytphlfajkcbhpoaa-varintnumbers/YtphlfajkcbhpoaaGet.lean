/-
  The contract of varint's Get over the program: for any bytes and any place.
-/
import Derived.Test.YtphlfajkcbhpoaaZigs
namespace Go.Proofs.Ytphlfajkcbhpoaa
open Go.RowKit
set_option linter.unusedVariables false

/-- What a slice of bytes that is read holds: the bytes l. -/
def Byt (w : World) (a : Option Addr) (cap : Nat) (l : List UInt8) : Prop :=
  l.length ≤ cap ∧ cap ≤ maxLen ∧ (a = none → cap = 0) ∧ ∀ i, i < l.length → ∃ b off, a = some ⟨b, off, none⟩ ∧ w.cell? ⟨b, off + i, none⟩ = some (.int .u8 (M.bAt l i))

theorem ret3 {a b c a' b' c' : Value} (h1 : a = a') (h2 : b = b') (h3 : c = c') : Ending.returned (.tuple #[a, b, c]) = .returned (.tuple #[a', b', c']) := by rw [h1, h2, h3]

theorem short_is (n m : Nat) (b : Bool) (s c : Int) (w : World) (h : M.short n m = b) (hs : s = n) (hc : c = m) (h1 : 1 ≤ n) :
    Calls Try.prog 25 #[.int .i64 s, .int .u8 c] w fun e w' => e = .returned (.bool b) ∧ w' = w := by
  subst hs; subst hc; subst h
  have := short_any (n : Int) (m : Int) w (by omega) (by omega)
  simpa using this

theorem get_arg (a : Option Addr) (cap : Nat) (l : List UInt8) (p : Int) (w : World) (hm : cap ≤ maxLen) (hl : l.length ≤ cap) (hp : p < 0 ∨ (l.length : Int) < p) :
    Calls Try.prog 9 #[.slice a l.length cap, .int .i64 p] w fun e w' =>
      e = .returned (.tuple #[.int .u64 (M.get l p).1, .int .i64 (M.get l p).2.1, .int .i64 (M.get l p).2.2]) ∧ w' = w := by
  unfold maxLen at hm
  rw [M.get_out hp]
  rcases hp with h | h
  · go_enter Try.func9, Try.ntmps9
    go_wp2
    go_ret3
    exact ⟨ret3 rfl rfl rfl, rfl⟩
  · have h0 : ¬ p < 0 := by omega
    go_enter Try.func9, Try.ntmps9
    go_wp2
    go_ret3
    exact ⟨ret3 rfl rfl rfl, rfl⟩

set_option maxRecDepth 100000 in
theorem get_in (a : Option Addr) (cap : Nat) (l : List UInt8) (p : Nat) (w : World) (hB : Byt w a cap l) (hp : p ≤ l.length) :
    Calls Try.prog 9 #[.slice a l.length cap, .int .i64 p] w fun e w' =>
      e = .returned (.tuple #[.int .u64 (M.get l p).1, .int .i64 (M.get l p).2.1, .int .i64 (M.get l p).2.2]) ∧ w' = w := by
  obtain ⟨hlc, hcm, hnone, hcell⟩ := hB
  unfold maxLen at hcm
  have hlen : l.length ≤ 9223372036854775807 := by omega
  have hp0 : ¬ (p : Int) < 0 := by omega
  have hp1 : ¬ (l.length : Int) < (p : Int) := by omega
  go_enter Try.func9, Try.ntmps9
  go_wp2
  go_loop [7] (fun i => ∃ k : Nat, p ≤ k ∧ k ≤ l.length ∧ i = .int .i64 k ∧ M.lead (l.drop p) = (k - p) + M.lead (l.drop k)) (fun i => l.length - (intOf i).toNat)
  case atStart => exact ⟨p, Nat.le_refl _, hp, rfl, by omega⟩
  case round =>
    obtain ⟨k, hk1, hk2, rfl, hlead⟩ := hrel
    have HL : Hid (M.lead (l.drop p) = (k - p) + M.lead (l.drop k)) := hlead
    clear hlead
    by_cases hlt : k < l.length
    · obtain ⟨b, off, rfl, hc⟩ := hcell k hlt
      have hb256 := M.bAt_lt l k
      by_cases hb : 128 ≤ M.bAt l k
      · have hb' : (128 : Int) ≤ (M.bAt l k : Int) := by omega
        go_wp2
        go_round
        case rel => exact ⟨k + 1, by omega, by omega, by go_num, by rw [HL.out, M.lead_more hlt hb]; omega⟩
        case measure => simp [intOf]; omega
      · have hb' : ¬ (128 : Int) ≤ (M.bAt l k : Int) := by omega
        have hne : ((k : Int) == (l.length : Int)) = false := by simp; omega
        have hcell' : ∀ i, i < l.length → w.cell? ⟨b, off + i, none⟩ = some (.int .u8 (M.bAt l i)) := by
          intro i hi
          obtain ⟨b', off', h1, h2⟩ := hcell i hi
          simp at h1
          obtain ⟨rfl, rfl⟩ := h1
          exact h2
        have HC : Hid (∀ i, i < l.length → w.cell? ⟨b, off + i, none⟩ = some (.int .u8 (M.bAt l i))) := hcell'
        clear hcell hcell' hnone
        have hlk : M.lead (l.drop p) = k - p := by rw [HL.out, M.lead_last hlt (by omega)]; omega
        have HK : Hid (M.lead (l.drop p) = k - p) := hlk
        clear hlk HL
        obtain ⟨d, rfl⟩ : ∃ d, k = p + d := ⟨k - p, by omega⟩
        cases hs : M.short (d + 1) (M.bAt l (p + d))
        · have hfin : M.get l (p : Int) = (0, 0, 12) := M.get_form hlt (by rw [HK.out]; omega) hs
          have HF : Hid (M.get l (p : Int) = (0, 0, 12)) := hfin
          have HS : Hid (M.short (d + 1) (M.bAt l (p + d)) = false) := hs
          clear hfin hs
          go_wp2_with (go_at_call 25; refine (short_is (d + 1) (M.bAt l (p + d)) false _ _ _ HS.out (by omega) rfl (by omega)).mono ?_; rintro e w' ⟨rfl, rfl⟩)
          go_ret3
          exact ⟨by rw [HF.out]; exact ret3 rfl rfl rfl, rfl⟩
        · have hfin := M.get_ok hlt (by rw [HK.out]; omega) hs
          have hbd := M.get_bound hlt hs
          rw [← show p + d + 1 - p = d + 1 from by omega, ← M.seg_full (l := l) (K := p + d) (at' := p) (by omega), show p + d + 1 - p = d + 1 from by omega] at hfin hbd
          have HF : Hid (M.get l (p : Int) = (M.num (M.seg l (p + d) (d + 1)), p + d + 1, 0)) := hfin
          have HB : Hid (M.num (M.seg l (p + d) (d + 1)) < 18446744073709551616) := hbd
          have HS : Hid (M.short (d + 1) (M.bAt l (p + d)) = true) := hs
          clear hfin hs hbd
          go_wp2_with (go_at_call 25; refine (short_is (d + 1) (M.bAt l (p + d)) true _ _ _ HS.out (by omega) rfl (by omega)).mono ?_; rintro e w' ⟨rfl, rfl⟩)

          go_loop [8, 9] (fun n i => ∃ j : Nat, j ≤ d + 1 ∧ i = .int .i64 ((p : Int) + d - j) ∧ n = .int .u64 (M.num (M.seg l (p + d) j))) (fun _ i => (intOf i + 1 - p).toNat)
          case atStart => exact ⟨0, by omega, by simp, by rw [M.seg_zero]; rfl⟩
          case round =>
            obtain ⟨j, hj, rfl, rfl⟩ := hrel
            by_cases hjd : j < d + 1
            · have hmono := M.seg_mono (l := l) (K := p + d) hlt (d - j) (j + 1) (by omega)
              rw [show j + 1 + (d - j) = d + 1 from by omega] at hmono
              have hsucc := M.seg_succ (l := l) (K := p + d) (j := j) (by omega) hlt
              have hb8 := M.bAt_lt l (p + d - j)
              have hcj := HC.out (p + d - j) (by omega)
              have hBd := HB.out
              have HSU : Hid (M.num (M.seg l (p + d) (j + 1)) = M.bAt l (p + d - j) % 128 + 128 * M.num (M.seg l (p + d) j)) := hsucc
              have hlo : M.num (M.seg l (p + d) j) * 128 + M.bAt l (p + d - j) % 128 < 18446744073709551616 := by omega
              clear hsucc hmono hBd
              go_wp2
              go_round
              case rel => exact ⟨j + 1, by omega, I.int_num (by omega), I.int_num (I.digit _ _ _ hb8 hlo HSU.out)⟩
              case measure => simp [intOf]; omega
            · obtain rfl : j = d + 1 := by omega
              go_wp2
              go_ret3
              exact ⟨by rw [HF.out]; exact ret3 rfl rfl rfl, rfl⟩
    · have hkl : k = l.length := by omega
      subst hkl
      have hfin : M.get l (p : Int) = (0, 0, 10) := M.get_end hp (by rw [HL.out, M.lead_end (Nat.le_refl _)]; omega)
      have HF : Hid (M.get l (p : Int) = (0, 0, 10)) := hfin
      clear hfin
      go_wp2
      go_ret3
      exact ⟨by rw [HF.out]; exact ret3 rfl rfl rfl, rfl⟩

/-- Get, of any bytes, at any place. -/
theorem get_any (a : Option Addr) (cap : Nat) (l : List UInt8) (p : Int) (w : World) (hB : Byt w a cap l) :
    Calls Try.prog 9 #[.slice a l.length cap, .int .i64 p] w fun e w' =>
      e = .returned (.tuple #[.int .u64 (M.get l p).1, .int .i64 (M.get l p).2.1, .int .i64 (M.get l p).2.2]) ∧ w' = w := by
  by_cases h : p < 0 ∨ (l.length : Int) < p
  · exact get_arg a cap l p w hB.2.1 hB.1 h
  · obtain ⟨n, rfl⟩ := Int.eq_ofNat_of_zero_le (show 0 ≤ p by omega)
    exact get_in a cap l n w hB (by omega)
end Go.Proofs.Ytphlfajkcbhpoaa
