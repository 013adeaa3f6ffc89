/-
  The contracts of the document's own answers for varint (Get, Put, Zig, Zag) over the program.
-/
import Derived.Test.YtnmonoafjijfhaaGreatM05
import Derived.Test.YtnmonoafjijfhaaGreatM03
namespace Go.Proofs.YtnmonoafjijfhaaGreat
open Go.RowKit
set_option linter.unusedVariables false
theorem rget_arg (a : Option Addr) (cap : Nat) (l : List UInt8) (p : Int) (w : World) (hm : cap ≤ maxLen) (hl : l.length ≤ cap) (hp : p < 0 ∨ (l.length : Int) < p) :
    Calls Tryz.prog 48 #[.slice a l.length cap, .int .i64 p] w fun e w' =>
      e = .returned (.tuple #[.int .u64 (M.get l p).1, .int .i64 (M.get l p).2.1, .int .i64 (M.get l p).2.2]) ∧ w' = w := by
  unfold maxLen at hm
  rw [M.get_out hp]
  rcases hp with h | h
  · go_enter Tryz.func48, Tryz.ntmps48
    go_wp2
    go_ret3
    exact ⟨ret3 rfl rfl rfl, rfl⟩
  · have h0 : ¬ p < 0 := by omega
    go_enter Tryz.func48, Tryz.ntmps48
    go_wp2
    go_ret3
    exact ⟨ret3 rfl rfl rfl, rfl⟩
theorem digit_low (U c j M' : Nat) (hc : c < 256) (hU : U < 128 ^ j) (hM : M' = U + c % 128 * 128 ^ j) (hM2 : M' < 18446744073709551616) :
    bits .or .u64 (U : Int) (IntKind.u64.wrap (IntKind.u64.wrap (bits .and .u8 (c : Int) 127) * 2 ^ (7 * j))) = (M' : Int) := by
  have h1 : bits .and .u8 (c : Int) 127 = ((c % 128 : Nat) : Int) := by rw [I.and127b _ (by omega) (by omega)]; omega
  have h2 : IntKind.u64.wrap ((c % 128 : Nat) : Int) = ((c % 128 : Nat) : Int) := by rw [I.w64]; omega
  have e : (128 : Nat) ^ j = 2 ^ (7 * j) := by rw [Nat.pow_mul]
  rw [e] at hU hM
  have h3 : ((c % 128 : Nat) : Int) * 2 ^ (7 * j) = ((c % 128 * 2 ^ (7 * j) : Nat) : Int) := by
    rw [Int.natCast_mul, Int.natCast_pow]; rfl
  have hX : c % 128 * 2 ^ (7 * j) < 18446744073709551616 := by omega
  have h4 : IntKind.u64.wrap ((c % 128 * 2 ^ (7 * j) : Nat) : Int) = ((c % 128 * 2 ^ (7 * j) : Nat) : Int) := by rw [I.w64]; omega
  rw [h1, h2, h3, h4, (bits_nat .u64 64 (by decide) I.wraps64 U (c % 128 * 2 ^ (7 * j)) (by omega) (by omega)).2, Nat.or_comm, Nat.mul_comm, ← Nat.two_pow_add_eq_or_of_lt hU, hM, Nat.mul_comm (2 ^ (7 * j))]
  omega
set_option maxRecDepth 100000 in
set_option maxHeartbeats 2000000 in
theorem rget_in (a : Option Addr) (cap : Nat) (l : List UInt8) (p : Nat) (w : World) (hB : Byt w a cap l) (hp : p ≤ l.length) :
    Calls Tryz.prog 48 #[.slice a l.length cap, .int .i64 p] w fun e w' =>
      e = .returned (.tuple #[.int .u64 (M.get l p).1, .int .i64 (M.get l p).2.1, .int .i64 (M.get l p).2.2]) ∧ w' = w := by
  obtain ⟨hlc, hcm, hnone, hcell⟩ := hB
  unfold maxLen at hcm
  have hlen : l.length ≤ 9223372036854775807 := by omega
  have hp0 : ¬ (p : Int) < 0 := by omega
  have hp1 : ¬ (l.length : Int) < (p : Int) := by omega
  go_enter Tryz.func48, Tryz.ntmps48
  go_wp2
  go_loop [7] (fun i => ∃ k : Nat, p ≤ k ∧ k ≤ l.length ∧ i = .int .i64 k ∧ M.lead (l.drop p) = (k - p) + M.lead (l.drop k)) (fun i => l.length - (intOf i).toNat)
  case atStart => exact ⟨p, Nat.le_refl _, hp, rfl, by omega⟩
  case round =>
    obtain ⟨k, hk1, hk2, rfl, hlead⟩ := hrel
    have HL : Hid (M.lead (l.drop p) = (k - p) + M.lead (l.drop k)) := hlead
    clear hlead
    by_cases hlt : k < l.length
    · obtain ⟨b, off, rfl, hc⟩ := hcell k hlt
      have hb256 := M.bAt_lt l k
      by_cases hb : 128 ≤ M.bAt l k
      · have hb' : (128 : Int) ≤ (M.bAt l k : Int) := by omega
        go_wp2
        go_round
        case rel => exact ⟨k + 1, by omega, by omega, by go_num, by rw [HL.out, M.lead_more hlt hb]; omega⟩
        case measure => simp [intOf]; omega
      · have hb' : ¬ (128 : Int) ≤ (M.bAt l k : Int) := by omega
        have hne : ((k : Int) == (l.length : Int)) = false := by simp; omega
        have hcell' : ∀ i, i < l.length → w.cell? ⟨b, off + i, none⟩ = some (.int .u8 (M.bAt l i)) := by
          intro i hi
          obtain ⟨b', off', h1, h2⟩ := hcell i hi
          simp at h1
          obtain ⟨rfl, rfl⟩ := h1
          exact h2
        have HC : Hid (∀ i, i < l.length → w.cell? ⟨b, off + i, none⟩ = some (.int .u8 (M.bAt l i))) := hcell'
        clear hcell hcell' hnone
        have hlk : M.lead (l.drop p) = k - p := by rw [HL.out, M.lead_last hlt (by omega)]; omega
        have HK : Hid (M.lead (l.drop p) = k - p) := hlk
        clear hlk HL
        obtain ⟨d, rfl⟩ : ∃ d, k = p + d := ⟨k - p, by omega⟩
        cases hs : M.short (d + 1) (M.bAt l (p + d))
        · have hfin : M.get l (p : Int) = (0, 0, 12) := M.get_form hlt (by rw [HK.out]; omega) hs
          have HF : Hid (M.get l (p : Int) = (0, 0, 12)) := hfin
          have hbad : 10 < d + 1 ∨ (d + 1 = 10 ∧ 1 < M.bAt l (p + d)) ∨ (d + 1 ≤ 10 ∧ 1 < d + 1 ∧ M.bAt l (p + d) = 0) := by
            simp only [M.short] at hs
            simp at hs
            omega
          clear hfin hs
          rcases hbad with h | ⟨h, h'⟩ | ⟨h, h', h''⟩
          · go_wp2
            go_ret3
            exact ⟨by rw [HF.out]; exact ret3 rfl rfl rfl, rfl⟩
          · have h9 : d ≤ 9 := by omega
            have h9' : 9 ≤ d := by omega
            clear h
            go_wp2
            go_ret3
            exact ⟨by rw [HF.out]; exact ret3 rfl rfl rfl, rfl⟩
          · rw [h''] at hc hb'
            by_cases h10 : 9 ≤ d
            · go_wp2
              go_ret3
              exact ⟨by rw [HF.out]; exact ret3 rfl rfl rfl, rfl⟩
            · go_wp2
              go_ret3
              exact ⟨by rw [HF.out]; exact ret3 rfl rfl rfl, rfl⟩
        · have hfin := M.get_ok hlt (by rw [HK.out]; omega) hs
          have hbd := M.get_bound hlt hs
          have HF : Hid (M.get l (p : Int) = (M.upto l p (d + 1), p + d + 1, 0)) := hfin
          have HB : Hid (M.upto l p (d + 1) < 18446744073709551616) := hbd
          have hgood : d ≤ 0 ∨ (1 ≤ d ∧ d < 9 ∧ 1 ≤ M.bAt l (p + d)) ∨ (9 ≤ d ∧ d ≤ 9 ∧ 1 ≤ M.bAt l (p + d) ∧ M.bAt l (p + d) ≤ 1) := by
            simp only [M.short] at hs
            simp at hs
            omega
          have hd9 : d ≤ 9 := by omega
          clear hfin hs hbd
          have hN := M.bAt_lt l (p + d)
          rcases hgood with h | ⟨h, h', h''⟩ | ⟨h, h', h'', h3⟩
          · go_wp2
            go_loop [9, 10] (fun n i => ∃ j : Nat, j ≤ d + 1 ∧ i = .int .i64 (j : Int) ∧ n = .int .u64 (M.upto l p j)) (fun _ i => d + 1 - (intOf i).toNat)
            case atStart => exact ⟨0, by omega, rfl, by rw [M.upto_zero]; rfl⟩
            case round =>
              obtain ⟨j, hj, rfl, rfl⟩ := hrel
              by_cases hjd : j < d + 1
              · have hmono := M.upto_mono (l := l) (p := p) (d - j) (j + 1) (by omega)
                rw [show j + 1 + (d - j) = d + 1 from by omega] at hmono
                have hsucc := M.upto_succ (l := l) (p := p) (j := j) (by omega)
                have hb8 := M.bAt_lt l (p + j)
                have hcj := HC.out (p + j) (by omega)
                have hul := M.upto_lt l p j
                have hBd := HB.out
                have HSU : Hid (M.upto l p (j + 1) = M.upto l p j + M.bAt l (p + j) % 128 * 128 ^ j) := hsucc
                have HUL : Hid (M.upto l p j < 128 ^ j) := hul
                have HLO : Hid (M.upto l p (j + 1) < 18446744073709551616) := by show _ < _; omega
                clear hsucc hmono hBd hul
                go_wp2
                go_round
                case rel => exact ⟨j + 1, by omega, by go_num, I.int_num (digit_low _ _ _ _ hb8 HUL.out HSU.out HLO.out)⟩
                case measure => simp [intOf]; omega
              · obtain rfl : j = d + 1 := by omega
                go_wp2
                go_ret3
                exact ⟨by rw [HF.out]; exact ret3 rfl rfl rfl, rfl⟩
          · have hz : ((M.bAt l (p + d) : Int) == 0) = false := by simp; omega
            go_wp2
            go_loop [9, 10] (fun n i => ∃ j : Nat, j ≤ d + 1 ∧ i = .int .i64 (j : Int) ∧ n = .int .u64 (M.upto l p j)) (fun _ i => d + 1 - (intOf i).toNat)
            case atStart => exact ⟨0, by omega, rfl, by rw [M.upto_zero]; rfl⟩
            case round =>
              obtain ⟨j, hj, rfl, rfl⟩ := hrel
              by_cases hjd : j < d + 1
              · have hmono := M.upto_mono (l := l) (p := p) (d - j) (j + 1) (by omega)
                rw [show j + 1 + (d - j) = d + 1 from by omega] at hmono
                have hsucc := M.upto_succ (l := l) (p := p) (j := j) (by omega)
                have hb8 := M.bAt_lt l (p + j)
                have hcj := HC.out (p + j) (by omega)
                have hul := M.upto_lt l p j
                have hBd := HB.out
                have HSU : Hid (M.upto l p (j + 1) = M.upto l p j + M.bAt l (p + j) % 128 * 128 ^ j) := hsucc
                have HUL : Hid (M.upto l p j < 128 ^ j) := hul
                have HLO : Hid (M.upto l p (j + 1) < 18446744073709551616) := by show _ < _; omega
                clear hsucc hmono hBd hul
                go_wp2
                go_round
                case rel => exact ⟨j + 1, by omega, by go_num, I.int_num (digit_low _ _ _ _ hb8 HUL.out HSU.out HLO.out)⟩
                case measure => simp [intOf]; omega
              · obtain rfl : j = d + 1 := by omega
                go_wp2
                go_ret3
                exact ⟨by rw [HF.out]; exact ret3 rfl rfl rfl, rfl⟩
          · have hz : ((M.bAt l (p + d) : Int) == 0) = false := by simp; omega
            go_wp2
            go_loop [9, 10] (fun n i => ∃ j : Nat, j ≤ d + 1 ∧ i = .int .i64 (j : Int) ∧ n = .int .u64 (M.upto l p j)) (fun _ i => d + 1 - (intOf i).toNat)
            case atStart => exact ⟨0, by omega, rfl, by rw [M.upto_zero]; rfl⟩
            case round =>
              obtain ⟨j, hj, rfl, rfl⟩ := hrel
              by_cases hjd : j < d + 1
              · have hmono := M.upto_mono (l := l) (p := p) (d - j) (j + 1) (by omega)
                rw [show j + 1 + (d - j) = d + 1 from by omega] at hmono
                have hsucc := M.upto_succ (l := l) (p := p) (j := j) (by omega)
                have hb8 := M.bAt_lt l (p + j)
                have hcj := HC.out (p + j) (by omega)
                have hul := M.upto_lt l p j
                have hBd := HB.out
                have HSU : Hid (M.upto l p (j + 1) = M.upto l p j + M.bAt l (p + j) % 128 * 128 ^ j) := hsucc
                have HUL : Hid (M.upto l p j < 128 ^ j) := hul
                have HLO : Hid (M.upto l p (j + 1) < 18446744073709551616) := by show _ < _; omega
                clear hsucc hmono hBd hul
                go_wp2
                go_round
                case rel => exact ⟨j + 1, by omega, by go_num, I.int_num (digit_low _ _ _ _ hb8 HUL.out HSU.out HLO.out)⟩
                case measure => simp [intOf]; omega
              · obtain rfl : j = d + 1 := by omega
                go_wp2
                go_ret3
                exact ⟨by rw [HF.out]; exact ret3 rfl rfl rfl, rfl⟩
    · have hkl : k = l.length := by omega
      subst hkl
      have hfin : M.get l (p : Int) = (0, 0, 10) := M.get_end hp (by rw [HL.out, M.lead_end (Nat.le_refl _)]; omega)
      have HF : Hid (M.get l (p : Int) = (0, 0, 10)) := hfin
      clear hfin
      go_wp2
      go_ret3
      exact ⟨by rw [HF.out]; exact ret3 rfl rfl rfl, rfl⟩
theorem rget_is (a : Option Addr) (n cap : Nat) (l : List UInt8) (p : Int) (w : World) (N k e0 : Nat) (hr : M.get l p = (N, k, e0)) (hB : Byt w a cap l) (hn : n = l.length) :
    Calls Tryz.prog 48 #[.slice a n cap, .int .i64 p] w fun e w' => e = .returned (.tuple #[.int .u64 N, .int .i64 k, .int .i64 e0]) ∧ w' = w := by
  subst hn
  by_cases h : p < 0 ∨ (l.length : Int) < p
  · have := rget_arg a cap l p w hB.2.1 hB.1 h
    rw [hr] at this
    exact this
  · obtain ⟨n, rfl⟩ := Int.eq_ofNat_of_zero_le (show 0 ≤ p by omega)
    have := rget_in a cap l n w hB (by omega)
    rw [hr] at this
    exact this
theorem rzig_any (n m : Int) (w : World) (h1 : -9223372036854775808 ≤ n) (h2 : n ≤ 9223372036854775807) (hm : M.zig n = m) :
    Calls Tryz.prog 40 #[.int .i64 n] w fun e w' => e = .returned (.int .u64 m) ∧ w' = w := by
  subst hm
  by_cases h : n < 0
  · go_enter Tryz.func40, Tryz.ntmps40
    go_wp2
    go_ret
    refine ⟨I.ret_int ?_, rfl⟩
    have h' : n < 0 := by omega
    unfold M.zig; rw [if_pos h']
    all_goals first | omega | (rw [I.w64]; omega) | (rw [I.w64, I.w64]; omega)
  · go_enter Tryz.func40, Tryz.ntmps40
    go_wp2
    go_ret
    refine ⟨I.ret_int ?_, rfl⟩
    have h' : ¬ n < 0 := by omega
    unfold M.zig; rw [if_neg h']
    all_goals first | omega | (rw [I.w64]; omega) | (rw [I.w64, I.w64]; omega)
theorem rzag_any (n m : Int) (w : World) (h1 : 0 ≤ n) (h2 : n ≤ 18446744073709551615) (hm : M.zag n = m) :
    Calls Tryz.prog 50 #[.int .u64 n] w fun e w' => e = .returned (.int .i64 m) ∧ w' = w := by
  subst hm
  go_enter Tryz.func50, Tryz.ntmps50
  go_wp2
  all_goals go_ret
  · have h0 : (n % 2 == 1) = true := by assumption
    have h0 : n % 2 = 1 := by simpa using h0
    refine ⟨I.ret_int ?_, rfl⟩
    unfold M.zag; rw [if_pos h0]
  · have h0 : (n % 2 == 1) = false := by assumption
    have h0 : ¬ n % 2 = 1 := by simpa using h0
    refine ⟨I.ret_int ?_, rfl⟩
    unfold M.zag; rw [if_neg h0]
set_option maxRecDepth 100000 in
theorem rput_any (a : Option Addr) (cap : Nat) (l : List UInt8) (n : Nat) (w : World) (hB : Byt w a cap l) (hn : n < 18446744073709551616) (hlen : l.length + 10 ≤ 140737488355328) :
    Calls Tryz.prog 39 #[.slice a l.length cap, .int .u64 n] w fun e w' => ∃ v', e = .returned v' ∧ Own w' w.heap.size v' (l ++ M.digs n) ∧ Below w.heap.size w w' := by
  obtain ⟨i0, hi, hz0, hz1, hz2⟩ := info_parts Tryz.info5
  have hD := M.digs_len n
  obtain ⟨base, hbase⟩ : ∃ base, base = w.heap.size := ⟨_, rfl⟩
  have hoe := own_empty w base (by omega)
  have hb0 : Below base w (w.alloc (.cells #[] 5)) := (Below.refl _ _).alloc (by omega) _
  have hB' : Byt (w.alloc (.cells #[] 5)) a cap l := hB.below (hbase ▸ hb0)
  have hbs : base ≤ (w.alloc (.cells #[] 5)).heap.size := by simp; omega
  rw [← hbase]
  have HBa : Hid (base = w.heap.size) := hbase
  clear hB
  go_enter Tryz.func39, Tryz.ntmps39
  go_wp2_with (at_builtin; refine wpList_append_byt rfl (.tmp 6) (.tmp 7) rfl base _ [] rfl (by rw [hbase] at hoe ⊢; exact hoe) a _ cap l rfl rfl hB' (by simp; omega) hbs ?_; intro v1 w1 ho1 hg1)
  have hb1 : Below base w w1 := step_below0 hb0 hbs hoe hg1
  clear hg1 hoe hb0 hB' hbs hbase
  go_loopw [5, 1] (fun v i wr => ∃ (pre : List UInt8) (N : Nat), N < 18446744073709551616 ∧ i = .int .u64 N ∧ pre ++ M.digs N = M.digs n ∧ Own wr base v (l ++ pre) ∧ Below base w wr) (fun _ i _ => (intOf i).toNat)
  case atStart => exact ⟨[], n, hn, rfl, rfl, by simpa using ho1, hb1⟩
  case round =>
    obtain ⟨pre, N, hN, rfl, hpre, hown, hbel⟩ := hrel
    have hpl : pre.length + 1 ≤ 10 := by
      have h1 := congrArg List.length hpre
      have h2 := M.digs_len N
      simp at h1; omega
    have hsz := hbel.size
    have hbs : base ≤ wr.heap.size := by rw [HBa.out]; exact hsz
    have HP : Hid (pre ++ M.digs N = M.digs n) := hpre
    clear hpre ho1 hb1
    by_cases hlt : 128 ≤ N
    · go_wp2_with (at_builtin; refine wpList_append_own _ rfl (.tmp 11) (.tmp 16) 22 rfl base 5 i0 (.int .u8 0) 1 1 Tryz.underlying22 hi hz0 hz1 hz2 rfl (by decide) _ _ _ rfl (hown.alloc _) ⟨wr.heap.size, 0, none⟩ 1 1 [.int .u8 ((N : Int) % 128 + 128)] rfl rfl ?c1 ?c2 ?c3 ?c4 ?c5 ?_)
      case c1 => exact one_cell wr _
      case c2 => intro u hu; simp at hu; subst hu; rfl
      case c3 => simp [maxLen]; omega
      case c4 => simp; omega
      case c5 => simp; omega
      intro v' w2 hown' hgrow _
      have hb' := step_below hbel hbs hown hgrow
      have ho' : Own w2 base v' (l ++ (pre ++ [UInt8.ofNat (N % 128 + 128)])) := by
        rw [← List.append_assoc]
        exact own_push hown' (by simp) (by simp; omega)
      have hd : pre ++ [UInt8.ofNat (N % 128 + 128)] ++ M.digs (N / 128) = M.digs n := by
        rw [← HP.out, M.digs_more (by omega) hN]; simp
      have HD : Hid (pre ++ [UInt8.ofNat (N % 128 + 128)] ++ M.digs (N / 128) = M.digs n) := hd
      clear hown' hgrow hown hbel hd
      go_wp2
      go_roundw
      case rel => exact ⟨_, N / 128, by omega, I.int_num (by omega), HD.out, ho', hb'⟩
      case measure => simp [intOf]; omega
    · go_wp2_with (at_builtin; refine wpList_append_own _ rfl (.tmp 20) (.tmp 23) 22 rfl base 5 i0 (.int .u8 0) 1 1 Tryz.underlying22 hi hz0 hz1 hz2 rfl (by decide) _ _ _ rfl (hown.alloc _) ⟨wr.heap.size, 0, none⟩ 1 1 [.int .u8 (N : Int)] rfl rfl ?d1 ?d2 ?d3 ?d4 ?d5 ?_)
      case d1 => exact one_cell wr _
      case d2 => intro u hu; simp at hu; subst hu; rfl
      case d3 => simp [maxLen]; omega
      case d4 => simp; omega
      case d5 => simp; omega
      intro v' w2 hown' hgrow _
      have hb' := step_below hbel hbs hown hgrow
      have ho' : Own w2 base v' (l ++ (pre ++ [UInt8.ofNat N])) := by
        rw [← List.append_assoc]
        exact own_push hown' (by simp) (by simp; omega)
      have hd : pre ++ [UInt8.ofNat N] = M.digs n := by
        rw [← HP.out, M.digs_low (by omega)]
      rw [hd] at ho'
      clear hown' hgrow hown hbel hd
      go_wp2
      go_ret
      exact ⟨_, rfl, ho', hb'⟩
theorem rput_is (a : Option Addr) (n cap : Nat) (l r : List UInt8) (m : Int) (k : Nat) (w : World) (hm : m = k) (hr : l ++ M.digs k = r) (hB : Byt w a cap l) (hn : n = l.length) (hk : k < 18446744073709551616) (hlen : l.length + 10 ≤ 140737488355328) :
    Calls Tryz.prog 39 #[.slice a n cap, .int .u64 m] w fun e w' => ∃ v', e = .returned v' ∧ Own w' w.heap.size v' r ∧ Below w.heap.size w w' := by
  subst hn; subst hr; subst hm
  exact rput_any a cap l k w hB hk hlen
set_option maxRecDepth 100000 in
theorem rputText_any (a : Option Addr) (cap : Nat) (l s r : List UInt8) (w : World) (hB : Byt w a cap l) (hr : l ++ M.digs s.length ++ s = r) (hlen : l.length + 10 + s.length ≤ 140737488355328) :
    Calls Tryz.prog 43 #[.slice a l.length cap, .string (str s)] w fun e w' => ∃ v', e = .returned v' ∧ Own w' w.heap.size v' r ∧ Below w.heap.size w w' := by
  subst hr
  obtain ⟨i0, hi, hz0, hz1, hz2⟩ := info_parts Tryz.info5
  have hD := M.digs_len s.length
  have hss : (str s).size = s.length := str_size s
  go_enter Tryz.func43, Tryz.ntmps43
  go_wp2_with fail
  refine (rput_is a _ cap l _ _ s.length _ (by omega) rfl hB rfl (by omega) (by omega)).mono ?_
  rintro e w2 ⟨v2, rfl, ho2, hb3⟩
  have hsz : w.heap.size ≤ w2.heap.size := hb3.size
  clear hB
  go_wp2_with (at_builtin; refine Lib.wpList_append_own_string _ rfl (.tmp 9) (.tmp 10) 22 9 rfl w.heap.size 5 i0 Tryz.underlying22 Tryz.underlying9 hi hz0 hz1 hz2 _ _ _ rfl ho2 (str s) rfl ?c1 ?c2 ?c3 ?_)
  case c1 => rw [hss, List.length_append]; unfold maxLen; omega
  case c2 => rw [hss, List.length_append]; omega
  case c3 => exact hsz
  intro v3 w3 ho3 hg3 _
  have hb4 := step_below0 hb3 hsz ho2 hg3
  have ho4 : Own w3 w.heap.size v3 (l ++ M.digs s.length ++ s) := own_text ho3 (by rw [List.length_append])
  clear ho2 ho3 hg3 hb3
  go_wp2
  go_ret
  exact ⟨_, rfl, ho4, hb4⟩
set_option maxRecDepth 100000 in
theorem rgetText_ok (a : Option Addr) (cap : Nat) (l : List UInt8) (p most : Int) (n k : Nat) (w : World) (hB : Byt w a cap l) (hg : M.get l p = (n, k, 0)) (hm : n ≤ most.toNat) (hl : k + n ≤ l.length) (h1 : -9223372036854775808 ≤ most) (h2 : most ≤ 9223372036854775807) :
    Calls Tryz.prog 52 #[.slice a l.length cap, .int .i64 p, .int .i64 most] w fun e w' => e = .returned (.tuple #[.string (str ((l.drop k).take n)), .int .i64 (k + n : Nat), .int .i64 0]) ∧ w' = w := by
  have hcm := hB.2.1
  have hlc := hB.1
  unfold maxLen at hcm
  have hlen : l.length ≤ 9223372036854775807 := by omega
  have HG : Hid (M.get l p = (n, k, 0)) := hg
  have HB : Hid (Byt w a cap l) := hB
  obtain ⟨t, ht⟩ : ∃ t, t = (l.drop k).take n := ⟨_, rfl⟩
  have htl : n = t.length := by rw [ht]; simp; omega
  have HT : Hid (n = t.length) := htl
  have hs1 : Byt w (Option.map (fun x => x.add k) a) (cap - k) t := ht ▸ hB.sub k n hl
  rw [← ht]
  clear hg hB htl ht
  by_cases hm0 : most < 0
  · have hn0 : n = 0 := by omega
    subst hn0
    have ht0 : t = [] := List.eq_nil_of_length_eq_zero HT.out.symm
    subst ht0
    by_cases hck : cap = k
    · subst hck
      have hr := run_str (n := 0) (Byt.none_ (w := w) a) rfl
      go_enter Tryz.func52, Tryz.ntmps52
      go_wp2_with fail
      refine (rget_is a _ cap l p _ 0 cap 0 HG.out HB.out rfl).mono ?_
      rintro e w1 ⟨rfl, rfl⟩
      go_wp2_with fail
      go_ret3
      exact ⟨ret3 rfl (I.int_num (by omega)) rfl, rfl⟩
    · have hr := run_str hs1 HT.out
      clear hs1
      go_enter Tryz.func52, Tryz.ntmps52
      go_wp2_with fail
      refine (rget_is a _ cap l p _ 0 k 0 HG.out HB.out rfl).mono ?_
      rintro e w1 ⟨rfl, rfl⟩
      go_wp2_with fail
      go_ret3
      exact ⟨ret3 rfl (I.int_num (by omega)) rfl, rfl⟩
  · obtain ⟨m, rfl⟩ := Int.eq_ofNat_of_zero_le (show 0 ≤ most by omega)
    have hm' : n ≤ m := by simpa using hm
    clear hm
    by_cases hck : cap = k
    · have hn0 : n = 0 := by omega
      subst hn0
      have ht0 : t = [] := List.eq_nil_of_length_eq_zero HT.out.symm
      subst ht0
      subst hck
      have hr := run_str (n := 0) (Byt.none_ (w := w) a) rfl
      go_enter Tryz.func52, Tryz.ntmps52
      go_wp2_with fail
      refine (rget_is a _ cap l p _ 0 cap 0 HG.out HB.out rfl).mono ?_
      rintro e w1 ⟨rfl, rfl⟩
      go_wp2_with fail
      go_ret3
      exact ⟨ret3 rfl (I.int_num (by omega)) rfl, rfl⟩
    · have hr := run_str hs1 HT.out
      clear hs1
      go_enter Tryz.func52, Tryz.ntmps52
      go_wp2_with fail
      refine (rget_is a _ cap l p _ n k 0 HG.out HB.out rfl).mono ?_
      rintro e w1 ⟨rfl, rfl⟩
      go_wp2_with fail
      go_ret3
      exact ⟨ret3 rfl (I.int_num (by omega)) rfl, rfl⟩
set_option maxRecDepth 100000 in
theorem rgetText_why (a : Option Addr) (cap : Nat) (l : List UInt8) (p most : Int) (n k e0 : Nat) (w : World) (hB : Byt w a cap l) (hg : M.get l p = (n, k, e0)) (he : e0 ≠ 0) (he2 : e0 ≤ 12) :
    Calls Tryz.prog 52 #[.slice a l.length cap, .int .i64 p, .int .i64 most] w fun e w' => e = .returned (.tuple #[.string (str []), .int .i64 0, .int .i64 e0]) ∧ w' = w := by
  have HG : Hid (M.get l p = (n, k, e0)) := hg
  have HB : Hid (Byt w a cap l) := hB
  have hne : ((e0 : Int) != 0) = true := by simp; omega
  clear hg hB
  go_enter Tryz.func52, Tryz.ntmps52
  go_wp2_with fail
  refine (rget_is a _ cap l p _ n k e0 HG.out HB.out rfl).mono ?_
  rintro e w1 ⟨rfl, rfl⟩
  go_wp2_with fail
  go_ret3
  exact ⟨ret3 rfl rfl rfl, rfl⟩
set_option maxRecDepth 100000 in
theorem rgetText_long (a : Option Addr) (cap : Nat) (l : List UInt8) (p most : Int) (n k : Nat) (w : World) (hB : Byt w a cap l) (hg : M.get l p = (n, k, 0)) (hm : most.toNat < n) (hn : n < 18446744073709551616) (h1 : -9223372036854775808 ≤ most) (h2 : most ≤ 9223372036854775807) :
    Calls Tryz.prog 52 #[.slice a l.length cap, .int .i64 p, .int .i64 most] w fun e w' => e = .returned (.tuple #[.string (str []), .int .i64 0, .int .i64 3]) ∧ w' = w := by
  have HG : Hid (M.get l p = (n, k, 0)) := hg
  have HB : Hid (Byt w a cap l) := hB
  clear hg hB
  by_cases hm0 : most < 0
  · have hm1 : 0 < n := by omega
    go_enter Tryz.func52, Tryz.ntmps52
    go_wp2_with fail
    refine (rget_is a _ cap l p _ n k 0 HG.out HB.out rfl).mono ?_
    rintro e w1 ⟨rfl, rfl⟩
    go_wp2_with fail
    go_ret3
    exact ⟨ret3 rfl rfl rfl, rfl⟩
  · obtain ⟨m, rfl⟩ := Int.eq_ofNat_of_zero_le (show 0 ≤ most by omega)
    have hm' : m < n := by simpa using hm
    clear hm
    go_enter Tryz.func52, Tryz.ntmps52
    go_wp2_with fail
    refine (rget_is a _ cap l p _ n k 0 HG.out HB.out rfl).mono ?_
    rintro e w1 ⟨rfl, rfl⟩
    go_wp2_with fail
    go_ret3
    exact ⟨ret3 rfl rfl rfl, rfl⟩
set_option maxRecDepth 100000 in
theorem rgetText_lacks (a : Option Addr) (cap : Nat) (l : List UInt8) (p most : Int) (n k : Nat) (w : World) (hB : Byt w a cap l) (hg : M.get l p = (n, k, 0)) (hm : n ≤ most.toNat) (hk : k ≤ l.length) (hl : l.length - k < n) (hn : n < 18446744073709551616) (h1 : -9223372036854775808 ≤ most) (h2 : most ≤ 9223372036854775807) :
    Calls Tryz.prog 52 #[.slice a l.length cap, .int .i64 p, .int .i64 most] w fun e w' => e = .returned (.tuple #[.string (str []), .int .i64 0, .int .i64 10]) ∧ w' = w := by
  have hcm := hB.2.1
  have hlc := hB.1
  unfold maxLen at hcm
  have hlen : l.length ≤ 9223372036854775807 := by omega
  have HG : Hid (M.get l p = (n, k, 0)) := hg
  have HB : Hid (Byt w a cap l) := hB
  clear hg hB
  obtain ⟨m, rfl⟩ := Int.eq_ofNat_of_zero_le (show 0 ≤ most by omega)
  have hm' : n ≤ m := by simpa using hm
  clear hm
  go_enter Tryz.func52, Tryz.ntmps52
  go_wp2_with fail
  refine (rget_is a _ cap l p _ n k 0 HG.out HB.out rfl).mono ?_
  rintro e w1 ⟨rfl, rfl⟩
  go_wp2_with fail
  go_ret3
  exact ⟨ret3 rfl rfl rfl, rfl⟩
/-- GetText, of any bytes, at any place. -/
theorem rgetText_any (a : Option Addr) (len cap : Nat) (l : List UInt8) (p most : Int) (w : World) (hB : Byt w a cap l) (hn : len = l.length) (h1 : -9223372036854775808 ≤ most) (h2 : most ≤ 9223372036854775807) (t : List UInt8) (k e0 : Nat) (hr : M.getText l p most = (t, k, e0)) :
    Calls Tryz.prog 52 #[.slice a len cap, .int .i64 p, .int .i64 most] w fun e w' => e = .returned (.tuple #[.string (str t), .int .i64 k, .int .i64 e0]) ∧ w' = w := by
  subst hn
  have hb := M.get_all l p
  obtain ⟨⟨n, k1, e1⟩, hg⟩ : ∃ x, M.get l p = x := ⟨_, rfl⟩
  unfold M.getText at hr
  rw [hg] at hr hb
  simp only at hr hb
  by_cases h : e1 = 0
  · subst h
    rw [if_neg (by simp)] at hr
    by_cases h' : most.toNat < n
    · rw [if_pos h'] at hr
      simp only [Prod.mk.injEq] at hr
      obtain ⟨rfl, rfl, rfl⟩ := hr
      exact rgetText_long a cap l p most n k1 w hB hg h' hb.1 h1 h2
    · rw [if_neg h'] at hr
      by_cases h3 : l.length - k1 < n
      · rw [if_pos h3] at hr
        simp only [Prod.mk.injEq] at hr
        obtain ⟨rfl, rfl, rfl⟩ := hr
        exact rgetText_lacks a cap l p most n k1 w hB hg (by omega) hb.2.1 h3 hb.1 h1 h2
      · rw [if_neg h3] at hr
        simp only [Prod.mk.injEq] at hr
        obtain ⟨rfl, rfl, rfl⟩ := hr
        exact rgetText_ok a cap l p most n k1 w hB hg (by omega) (by omega) h1 h2
  · rw [if_pos h] at hr
    simp only [Prod.mk.injEq] at hr
    obtain ⟨rfl, rfl, rfl⟩ := hr
    exact rgetText_why a cap l p most n k1 e1 w hB hg h hb.2.2
end Go.Proofs.YtnmonoafjijfhaaGreat
