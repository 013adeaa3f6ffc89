/-
  The contracts of package varint (Zig, Zag, Get, Put) over the program. Steps of a region whose order is open: the address of a field; a callee's answer as a sentence.
-/
import Derived.Test.YtnmonoafjijfhaaGreatM04
import Derived.Test.YtnmonoafjijfhaaGreatM02
namespace Go.Proofs.YtnmonoafjijfhaaGreat
open Go.RowKit
set_option linter.unusedVariables false
theorem zig_any (n : Int) (w : World) (h1 : -9223372036854775808 ≤ n) (h2 : n ≤ 9223372036854775807) :
    Calls Tryz.prog 66 #[.int .i64 n] w fun e w' => e = .returned (.int .u64 (M.zig n)) ∧ w' = w := by
  by_cases h : n < 0
  · go_enter Tryz.func66, Tryz.ntmps66
    go_wp2
    go_ret
    refine ⟨I.ret_int ?_, rfl⟩
    rw [I.xor1u _ (by rw [I.w64]; omega) (by rw [I.w64]; omega), I.w64, I.w64]
    have h' : n < 0 := by omega
    unfold M.zig; rw [if_pos h']; omega
  · go_enter Tryz.func66, Tryz.ntmps66
    go_wp2
    go_ret
    refine ⟨I.ret_int ?_, rfl⟩
    have h' : ¬ n < 0 := by omega
    unfold M.zig; rw [if_neg h']
    first | omega | (rw [I.w64]; omega) | (rw [I.w64, I.w64]; omega)
theorem zag_any (n : Int) (w : World) (h1 : 0 ≤ n) (h2 : n ≤ 18446744073709551615) :
    Calls Tryz.prog 111 #[.int .u64 n] w fun e w' => e = .returned (.int .i64 (M.zag n)) ∧ w' = w := by
  have ha := I.and1 n h1 h2
  go_enter Tryz.func111, Tryz.ntmps111
  go_wp2
  all_goals go_ret
  · have h0 : (n % 2 == 1) = true := by assumption
    have h0 : n % 2 = 1 := by simpa using h0
    refine ⟨I.ret_int ?_, rfl⟩
    rw [I.xor1i _ (by omega) (by omega)]
    simp only [M.zag, if_pos h0]
  · have h0 : (n % 2 == 1) = false := by assumption
    have h0 : ¬ n % 2 = 1 := by simpa using h0
    refine ⟨I.ret_int ?_, rfl⟩
    simp only [M.zag, if_neg h0]
theorem short_any (s c : Int) (w : World) (h0 : 0 ≤ c) (h1 : 1 ≤ s) :
    Calls Tryz.prog 123 #[.int .i64 s, .int .u8 c] w fun e w' => e = .returned (.bool (M.short s.toNat c.toNat)) ∧ w' = w := by
  obtain ⟨n, rfl⟩ := Int.eq_ofNat_of_zero_le (show 0 ≤ s by omega)
  obtain ⟨m, rfl⟩ := Int.eq_ofNat_of_zero_le h0
  rw [Int.toNat_natCast, Int.toNat_natCast]
  go_enter Tryz.func123, Tryz.ntmps123
  go_wp2
  all_goals go_ret
  all_goals refine ⟨I.ret_bool ?_, rfl⟩
  all_goals (simp_all [M.short]; try omega)
  all_goals (rw [Bool.eq_iff_iff]; simp; omega)
theorem short_is (n m : Nat) (b : Bool) (s c : Int) (w : World) (h : M.short n m = b) (hs : s = n) (hc : c = m) (h1 : 1 ≤ n) :
    Calls Tryz.prog 123 #[.int .i64 s, .int .u8 c] w fun e w' => e = .returned (.bool b) ∧ w' = w := by
  subst hs; subst hc; subst h
  have := short_any (n : Int) (m : Int) w (by omega) (by omega)
  simpa using this
theorem get_arg (a : Option Addr) (cap : Nat) (l : List UInt8) (p : Int) (w : World) (hm : cap ≤ maxLen) (hl : l.length ≤ cap) (hp : p < 0 ∨ (l.length : Int) < p) :
    Calls Tryz.prog 109 #[.slice a l.length cap, .int .i64 p] w fun e w' =>
      e = .returned (.tuple #[.int .u64 (M.get l p).1, .int .i64 (M.get l p).2.1, .int .i64 (M.get l p).2.2]) ∧ w' = w := by
  unfold maxLen at hm
  rw [M.get_out hp]
  rcases hp with h | h
  · go_enter Tryz.func109, Tryz.ntmps109
    go_wp2
    go_ret3
    exact ⟨ret3 rfl rfl rfl, rfl⟩
  · have h0 : ¬ p < 0 := by omega
    go_enter Tryz.func109, Tryz.ntmps109
    go_wp2
    go_ret3
    exact ⟨ret3 rfl rfl rfl, rfl⟩
set_option maxRecDepth 100000 in
theorem get_in (a : Option Addr) (cap : Nat) (l : List UInt8) (p : Nat) (w : World) (hB : Byt w a cap l) (hp : p ≤ l.length) :
    Calls Tryz.prog 109 #[.slice a l.length cap, .int .i64 p] w fun e w' =>
      e = .returned (.tuple #[.int .u64 (M.get l p).1, .int .i64 (M.get l p).2.1, .int .i64 (M.get l p).2.2]) ∧ w' = w := by
  obtain ⟨hlc, hcm, hnone, hcell⟩ := hB
  unfold maxLen at hcm
  have hlen : l.length ≤ 9223372036854775807 := by omega
  have hp0 : ¬ (p : Int) < 0 := by omega
  have hp1 : ¬ (l.length : Int) < (p : Int) := by omega
  go_enter Tryz.func109, Tryz.ntmps109
  go_wp2
  go_loop [7] (fun i => ∃ k : Nat, p ≤ k ∧ k ≤ l.length ∧ i = .int .i64 k ∧ M.lead (l.drop p) = (k - p) + M.lead (l.drop k)) (fun i => l.length - (intOf i).toNat)
  case atStart => exact ⟨p, Nat.le_refl _, hp, rfl, by omega⟩
  case round =>
    obtain ⟨k, hk1, hk2, rfl, hlead⟩ := hrel
    have HL : Hid (M.lead (l.drop p) = (k - p) + M.lead (l.drop k)) := hlead
    clear hlead
    by_cases hlt : k < l.length
    · obtain ⟨b, off, rfl, hc⟩ := hcell k hlt
      have hb256 := M.bAt_lt l k
      by_cases hb : 128 ≤ M.bAt l k
      · have hb' : (128 : Int) ≤ (M.bAt l k : Int) := by omega
        go_wp2
        go_round
        case rel => exact ⟨k + 1, by omega, by omega, by go_num, by rw [HL.out, M.lead_more hlt hb]; omega⟩
        case measure => simp [intOf]; omega
      · have hb' : ¬ (128 : Int) ≤ (M.bAt l k : Int) := by omega
        have hne : ((k : Int) == (l.length : Int)) = false := by simp; omega
        have hcell' : ∀ i, i < l.length → w.cell? ⟨b, off + i, none⟩ = some (.int .u8 (M.bAt l i)) := by
          intro i hi
          obtain ⟨b', off', h1, h2⟩ := hcell i hi
          simp at h1
          obtain ⟨rfl, rfl⟩ := h1
          exact h2
        have HC : Hid (∀ i, i < l.length → w.cell? ⟨b, off + i, none⟩ = some (.int .u8 (M.bAt l i))) := hcell'
        clear hcell hcell' hnone
        have hlk : M.lead (l.drop p) = k - p := by rw [HL.out, M.lead_last hlt (by omega)]; omega
        have HK : Hid (M.lead (l.drop p) = k - p) := hlk
        clear hlk HL
        obtain ⟨d, rfl⟩ : ∃ d, k = p + d := ⟨k - p, by omega⟩
        cases hs : M.short (d + 1) (M.bAt l (p + d))
        · have hfin : M.get l (p : Int) = (0, 0, 12) := M.get_form hlt (by rw [HK.out]; omega) hs
          have HF : Hid (M.get l (p : Int) = (0, 0, 12)) := hfin
          have HS : Hid (M.short (d + 1) (M.bAt l (p + d)) = false) := hs
          clear hfin hs
          go_wp2_with (go_at_call 123; refine (short_is (d + 1) (M.bAt l (p + d)) false _ _ _ HS.out (by omega) rfl (by omega)).mono ?_; rintro e w' ⟨rfl, rfl⟩)
          go_ret3
          exact ⟨by rw [HF.out]; exact ret3 rfl rfl rfl, rfl⟩
        · have hfin := M.get_ok hlt (by rw [HK.out]; omega) hs
          have hbd := M.get_bound hlt hs
          rw [← show p + d + 1 - p = d + 1 from by omega, ← M.seg_full (l := l) (K := p + d) (at' := p) (by omega), show p + d + 1 - p = d + 1 from by omega] at hfin hbd
          have HF : Hid (M.get l (p : Int) = (M.num (M.seg l (p + d) (d + 1)), p + d + 1, 0)) := hfin
          have HB : Hid (M.num (M.seg l (p + d) (d + 1)) < 18446744073709551616) := hbd
          have HS : Hid (M.short (d + 1) (M.bAt l (p + d)) = true) := hs
          clear hfin hs hbd
          go_wp2_with (go_at_call 123; refine (short_is (d + 1) (M.bAt l (p + d)) true _ _ _ HS.out (by omega) rfl (by omega)).mono ?_; rintro e w' ⟨rfl, rfl⟩)

          go_loop [8, 9] (fun n i => ∃ j : Nat, j ≤ d + 1 ∧ i = .int .i64 ((p : Int) + d - j) ∧ n = .int .u64 (M.num (M.seg l (p + d) j))) (fun _ i => (intOf i + 1 - p).toNat)
          case atStart => exact ⟨0, by omega, by simp, by rw [M.seg_zero]; rfl⟩
          case round =>
            obtain ⟨j, hj, rfl, rfl⟩ := hrel
            by_cases hjd : j < d + 1
            · have hmono := M.seg_mono (l := l) (K := p + d) hlt (d - j) (j + 1) (by omega)
              rw [show j + 1 + (d - j) = d + 1 from by omega] at hmono
              have hsucc := M.seg_succ (l := l) (K := p + d) (j := j) (by omega) hlt
              have hb8 := M.bAt_lt l (p + d - j)
              have hcj := HC.out (p + d - j) (by omega)
              have hBd := HB.out
              have HSU : Hid (M.num (M.seg l (p + d) (j + 1)) = M.bAt l (p + d - j) % 128 + 128 * M.num (M.seg l (p + d) j)) := hsucc
              have hlo : M.num (M.seg l (p + d) j) * 128 + M.bAt l (p + d - j) % 128 < 18446744073709551616 := by omega
              clear hsucc hmono hBd
              go_wp2
              go_round
              case rel => exact ⟨j + 1, by omega, I.int_num (by omega), I.int_num (I.digit _ _ _ hb8 hlo HSU.out)⟩
              case measure => simp [intOf]; omega
            · obtain rfl : j = d + 1 := by omega
              go_wp2
              go_ret3
              exact ⟨by rw [HF.out]; exact ret3 rfl rfl rfl, rfl⟩
    · have hkl : k = l.length := by omega
      subst hkl
      have hfin : M.get l (p : Int) = (0, 0, 10) := M.get_end hp (by rw [HL.out, M.lead_end (Nat.le_refl _)]; omega)
      have HF : Hid (M.get l (p : Int) = (0, 0, 10)) := hfin
      clear hfin
      go_wp2
      go_ret3
      exact ⟨by rw [HF.out]; exact ret3 rfl rfl rfl, rfl⟩
/-- Get, of any bytes, at any place. -/
theorem get_any (a : Option Addr) (cap : Nat) (l : List UInt8) (p : Int) (w : World) (hB : Byt w a cap l) :
    Calls Tryz.prog 109 #[.slice a l.length cap, .int .i64 p] w fun e w' =>
      e = .returned (.tuple #[.int .u64 (M.get l p).1, .int .i64 (M.get l p).2.1, .int .i64 (M.get l p).2.2]) ∧ w' = w := by
  by_cases h : p < 0 ∨ (l.length : Int) < p
  · exact get_arg a cap l p w hB.2.1 hB.1 h
  · obtain ⟨n, rfl⟩ := Int.eq_ofNat_of_zero_le (show 0 ≤ p by omega)
    exact get_in a cap l n w hB (by omega)
theorem room_any (a : Option Addr) (cap : Nat) (l : List UInt8) (r : Nat) (w : World) (hB : Byt w a cap l) (hr : l.length + r ≤ 281474976710656) :
    Calls Tryz.prog 106 #[.slice a l.length cap, .int .i64 r] w fun e w' =>
      ∃ v', e = .returned v' ∧ Own w' w.heap.size v' l ∧ Below w.heap.size w w' := by
  obtain ⟨i0, hi, hz0, hz1, hz2⟩ := info_parts Tryz.info5
  obtain ⟨hlc, hcm, hnone, hcell⟩ := hB
  have hlen : l.length ≤ 281474976710656 := by omega
  obtain ⟨C, hC⟩ : ∃ C, C = cs l := ⟨_, rfl⟩
  have hCl : C.length = l.length := by rw [hC, cs_len]
  have HC : Hid (C = cs l) := hC
  have hone : ∀ v ∈ C, v.oneCell' = true := by rw [hC]; exact cs_one l
  clear hC
  go_enter Tryz.func106, Tryz.ntmps106
  go_wp2_with (first
    | (at_make; refine wpList_make_some _ rfl _ _ 22 rfl 5 i0 (.int .u8 0) Tryz.underlying22 hi hz0 hz1 hz2 .i64 .i64 _ _ l.length (l.length + r) rfl rfl (by omega) (by omega) (by omega) (by omega) ?_; intro w1 cur hcur hg1 hb1)
    | (have _t := hg1; refine wpList_copy_splice rfl (.tmp 13) (.tmp 14) 22 22 rfl 5 Tryz.underlying22 Tryz.size5 _ _ _ _ _ _ rfl rfl w.heap.size 0 cur 5 hg1 C ?c1 ?c2 ?c3 hone w.heap.size w hb1 (Nat.le_refl _) ?_; rotate_right; intro w2 hg2 hb2; clear hg1))
  case c1 => rw [hCl]; exact (Nat.min_self _).symm
  case c2 =>
    intro h0
    obtain ⟨b, off, rfl, _⟩ := hcell 0 h0
    refine ⟨_, rfl, fun j u hu => ?_⟩
    rw [HC.out] at hu
    obtain ⟨hj, rfl⟩ := cs_get hu
    obtain ⟨b', off', hbo, hc⟩ := hcell j hj
    simp at hbo
    obtain ⟨rfl, rfl⟩ := hbo
    rw [add_none, hb1.cell (p := ⟨b, off + j, none⟩) (World.block_lt_of_cell? w _ hc)]
    exact hc
  case c3 => omega
  go_ret
  refine ⟨_, rfl, ?_, hb2⟩
  have hg := hg2.out
  refine ⟨by simp [cs_len], .inr ⟨w.heap.size, l.length + r, _, rfl, Nat.le_refl _, hg, by omega, by unfold maxLen; omega, ?_, ?_⟩⟩
  · simp only [List.size_toArray]; rw [length_splice _ _ _ (by omega)]; omega
  · rw [← HC.out]
    simp [splice, ← hCl]
set_option maxRecDepth 100000 in
theorem addNumber_any (base : Nat) (v : Value) (l : List UInt8) (n : Nat) (w : World) (hv : Own w base v l) (hn : n < 18446744073709551616) (hlen : l.length + 10 ≤ 140737488355328) (hb : base ≤ w.heap.size) :
    Calls Tryz.prog 105 #[v, .int .u64 n] w fun e w' => ∃ v', e = .returned v' ∧ Own w' base v' (l ++ M.digs n) ∧ Below base w w' := by
  obtain ⟨i0, hi, hz0, hz1, hz2⟩ := info_parts Tryz.info5
  have hD := M.digs_len n
  go_enter Tryz.func105, Tryz.ntmps105
  go_wp2
  go_loopw [0, 1] (fun v i wr => ∃ (pre : List UInt8) (N : Nat), N < 18446744073709551616 ∧ i = .int .u64 N ∧ pre ++ M.digs N = M.digs n ∧ Own wr base v (l ++ pre) ∧ Below base w wr) (fun _ i _ => (intOf i).toNat)
  case atStart => exact ⟨[], n, hn, rfl, rfl, by simpa using hv, Below.refl _ _⟩
  case round =>
    obtain ⟨pre, N, hN, rfl, hpre, hown, hbel⟩ := hrel
    have hpl : pre.length + 1 ≤ 10 := by
      have h1 := congrArg List.length hpre
      have h2 := M.digs_len N
      simp at h1; omega
    have hsz := hbel.size
    have HP : Hid (pre ++ M.digs N = M.digs n) := hpre
    clear hpre
    by_cases hlt : 127 < N
    · have h1 := I.and127 (N : Int) (by omega) (by omega)
      have h2 := I.or128b ((N : Int) % 128) (by omega) (by omega)
      go_wp2_with (at_builtin; refine wpList_append_own _ rfl (.tmp 7) (.tmp 12) 22 rfl base 5 i0 (.int .u8 0) 1 1 Tryz.underlying22 hi hz0 hz1 hz2 rfl (by decide) _ _ _ rfl (hown.alloc _) ⟨wr.heap.size, 0, none⟩ 1 1 [.int .u8 ((N : Int) % 128 + 128)] rfl rfl ?c1 ?c2 ?c3 ?c4 ?c5 ?_)
      case c1 => exact one_cell wr _
      case c2 => intro u hu; simp at hu; subst hu; rfl
      case c3 => simp [maxLen]; omega
      case c4 => simp; omega
      case c5 => simp; omega
      intro v' w1 hown' hgrow _
      have hb' := step_below hbel (by omega) hown hgrow
      have ho' : Own w1 base v' (l ++ (pre ++ [UInt8.ofNat (N % 128 + 128)])) := by
        rw [← List.append_assoc]
        exact own_push hown' (by simp) (by simp; omega)
      have hd : pre ++ [UInt8.ofNat (N % 128 + 128)] ++ M.digs (N / 128) = M.digs n := by
        rw [← HP.out, M.digs_more (by omega) hN]; simp
      have HD : Hid (pre ++ [UInt8.ofNat (N % 128 + 128)] ++ M.digs (N / 128) = M.digs n) := hd
      clear hown' hgrow hown hbel hd
      go_wp2
      go_roundw
      case rel => exact ⟨_, N / 128, by omega, I.int_num (by omega), HD.out, ho', hb'⟩
      case measure => simp [intOf]; omega
    · go_wp2_with (at_builtin; refine wpList_append_own _ rfl (.tmp 16) (.tmp 19) 22 rfl base 5 i0 (.int .u8 0) 1 1 Tryz.underlying22 hi hz0 hz1 hz2 rfl (by decide) _ _ _ rfl (hown.alloc _) ⟨wr.heap.size, 0, none⟩ 1 1 [.int .u8 (N : Int)] rfl rfl ?d1 ?d2 ?d3 ?d4 ?d5 ?_)
      case d1 => exact one_cell wr _
      case d2 => intro u hu; simp at hu; subst hu; rfl
      case d3 => simp [maxLen]; omega
      case d4 => simp; omega
      case d5 => simp; omega
      intro v' w1 hown' hgrow _
      have hb' := step_below hbel (by omega) hown hgrow
      have ho' : Own w1 base v' (l ++ (pre ++ [UInt8.ofNat N])) := by
        rw [← List.append_assoc]
        exact own_push hown' (by simp) (by simp; omega)
      have hd : pre ++ [UInt8.ofNat N] = M.digs n := by
        rw [← HP.out, M.digs_low (by omega)]
      rw [hd] at ho'
      clear hown' hgrow hown hbel hd
      go_wp2
      go_ret
      exact ⟨_, rfl, ho', hb'⟩
/-- Put: b's bytes and n's, in new memory. -/
theorem put_any (a : Option Addr) (cap : Nat) (l : List UInt8) (n : Nat) (w : World) (hB : Byt w a cap l) (hn : n < 18446744073709551616) (hlen : l.length + 10 ≤ 140737488355328) :
    Calls Tryz.prog 65 #[.slice a l.length cap, .int .u64 n] w fun e w' => ∃ v', e = .returned v' ∧ Own w' w.heap.size v' (l ++ M.digs n) ∧ Below w.heap.size w w' := by
  go_enter Tryz.func65, Tryz.ntmps65
  go_wp2_with fail
  refine (room_any a cap l 10 _ hB (by omega)).mono ?_
  rintro e w1 ⟨v1, rfl, ho1, hb1⟩
  go_wp2_with fail
  refine (addNumber_any _ v1 l n _ ho1 hn hlen hb1.size).mono ?_
  rintro e w2 ⟨v2, rfl, ho2, hb2⟩
  go_wp2
  go_ret
  exact ⟨_, rfl, ho2, hb1.trans hb2⟩
theorem get_is (a : Option Addr) (n cap : Nat) (l : List UInt8) (p : Int) (w : World) (N k e0 : Nat) (hr : M.get l p = (N, k, e0)) (hB : Byt w a cap l) (hn : n = l.length) :
    Calls Tryz.prog 109 #[.slice a n cap, .int .i64 p] w fun e w' => e = .returned (.tuple #[.int .u64 N, .int .i64 k, .int .i64 e0]) ∧ w' = w := by
  subst hn
  have h := get_any a cap l p w hB
  rw [hr] at h
  exact h
theorem put_is (a : Option Addr) (n cap : Nat) (l r : List UInt8) (m : Int) (k : Nat) (w : World) (hm : m = k) (hr : l ++ M.digs k = r) (hB : Byt w a cap l) (hn : n = l.length) (hk : k < 18446744073709551616) (hlen : l.length + 10 ≤ 140737488355328) :
    Calls Tryz.prog 65 #[.slice a n cap, .int .u64 m] w fun e w' => ∃ v', e = .returned v' ∧ Own w' w.heap.size v' r ∧ Below w.heap.size w w' := by
  subst hn; subst hr; subst hm
  exact put_any a cap l k w hB hk hlen
theorem zig_is (n m : Int) (w : World) (h1 : -9223372036854775808 ≤ n) (h2 : n ≤ 9223372036854775807) (hm : M.zig n = m) :
    Calls Tryz.prog 66 #[.int .i64 n] w fun e w' => e = .returned (.int .u64 m) ∧ w' = w := by subst hm; exact zig_any n w h1 h2
theorem zag_is (n m : Int) (w : World) (h1 : 0 ≤ n) (h2 : n ≤ 18446744073709551615) (hm : M.zag n = m) :
    Calls Tryz.prog 111 #[.int .u64 n] w fun e w' => e = .returned (.int .i64 m) ∧ w' = w := by subst hm; exact zag_any n w h1 h2
set_option maxRecDepth 100000 in
theorem getText_ok (a : Option Addr) (cap : Nat) (l : List UInt8) (p most : Int) (n k : Nat) (w : World) (hB : Byt w a cap l) (hg : M.get l p = (n, k, 0)) (hm : n ≤ most.toNat) (hl : k + n ≤ l.length) (h1 : -9223372036854775808 ≤ most) (h2 : most ≤ 9223372036854775807) :
    Calls Tryz.prog 113 #[.slice a l.length cap, .int .i64 p, .int .i64 most] w fun e w' => e = .returned (.tuple #[.string (str ((l.drop k).take n)), .int .i64 (k + n : Nat), .int .i64 0]) ∧ w' = w := by
  have hcm := hB.2.1
  have hlc := hB.1
  unfold maxLen at hcm
  have hlen : l.length ≤ 9223372036854775807 := by omega
  have HG : Hid (M.get l p = (n, k, 0)) := hg
  have HB : Hid (Byt w a cap l) := hB
  obtain ⟨t, ht⟩ : ∃ t, t = (l.drop k).take n := ⟨_, rfl⟩
  have htl : n = t.length := by rw [ht]; simp; omega
  have HT : Hid (n = t.length) := htl
  have hs1 : Byt w (Option.map (fun x => x.add k) a) (cap - k) t := ht ▸ hB.sub k n hl
  rw [← ht]
  clear hg hB htl ht
  by_cases hm0 : most < 0
  · have hn0 : n = 0 := by omega
    subst hn0
    have ht0 : t = [] := List.eq_nil_of_length_eq_zero HT.out.symm
    subst ht0
    by_cases hck : cap = k
    · subst hck
      have hr := run_str (n := 0) (Byt.none_ (w := w) a) rfl
      go_enter Tryz.func113, Tryz.ntmps113
      go_wp2_with fail
      refine (get_is a _ cap l p _ 0 cap 0 HG.out HB.out rfl).mono ?_
      rintro e w1 ⟨rfl, rfl⟩
      go_wp2_with fail
      go_ret3
      exact ⟨ret3 rfl (I.int_num (by omega)) rfl, rfl⟩
    · have hr := run_str hs1 HT.out
      clear hs1
      go_enter Tryz.func113, Tryz.ntmps113
      go_wp2_with fail
      refine (get_is a _ cap l p _ 0 k 0 HG.out HB.out rfl).mono ?_
      rintro e w1 ⟨rfl, rfl⟩
      go_wp2_with fail
      go_ret3
      exact ⟨ret3 rfl (I.int_num (by omega)) rfl, rfl⟩
  · obtain ⟨m, rfl⟩ := Int.eq_ofNat_of_zero_le (show 0 ≤ most by omega)
    have hm' : n ≤ m := by simpa using hm
    clear hm
    by_cases hck : cap = k
    · have hn0 : n = 0 := by omega
      subst hn0
      have ht0 : t = [] := List.eq_nil_of_length_eq_zero HT.out.symm
      subst ht0
      subst hck
      have hr := run_str (n := 0) (Byt.none_ (w := w) a) rfl
      go_enter Tryz.func113, Tryz.ntmps113
      go_wp2_with fail
      refine (get_is a _ cap l p _ 0 cap 0 HG.out HB.out rfl).mono ?_
      rintro e w1 ⟨rfl, rfl⟩
      go_wp2_with fail
      go_ret3
      exact ⟨ret3 rfl (I.int_num (by omega)) rfl, rfl⟩
    · have hr := run_str hs1 HT.out
      clear hs1
      go_enter Tryz.func113, Tryz.ntmps113
      go_wp2_with fail
      refine (get_is a _ cap l p _ n k 0 HG.out HB.out rfl).mono ?_
      rintro e w1 ⟨rfl, rfl⟩
      go_wp2_with fail
      go_ret3
      exact ⟨ret3 rfl (I.int_num (by omega)) rfl, rfl⟩
set_option maxRecDepth 100000 in
theorem getText_why (a : Option Addr) (cap : Nat) (l : List UInt8) (p most : Int) (n k e0 : Nat) (w : World) (hB : Byt w a cap l) (hg : M.get l p = (n, k, e0)) (he : e0 ≠ 0) (he2 : e0 ≤ 12) :
    Calls Tryz.prog 113 #[.slice a l.length cap, .int .i64 p, .int .i64 most] w fun e w' => e = .returned (.tuple #[.string (str []), .int .i64 0, .int .i64 e0]) ∧ w' = w := by
  have HG : Hid (M.get l p = (n, k, e0)) := hg
  have HB : Hid (Byt w a cap l) := hB
  have hne : ((e0 : Int) != 0) = true := by simp; omega
  clear hg hB
  go_enter Tryz.func113, Tryz.ntmps113
  go_wp2_with fail
  refine (get_is a _ cap l p _ n k e0 HG.out HB.out rfl).mono ?_
  rintro e w1 ⟨rfl, rfl⟩
  go_wp2_with fail
  go_ret3
  exact ⟨ret3 rfl rfl rfl, rfl⟩
set_option maxRecDepth 100000 in
theorem getText_long (a : Option Addr) (cap : Nat) (l : List UInt8) (p most : Int) (n k : Nat) (w : World) (hB : Byt w a cap l) (hg : M.get l p = (n, k, 0)) (hm : most.toNat < n) (hn : n < 18446744073709551616) (h1 : -9223372036854775808 ≤ most) (h2 : most ≤ 9223372036854775807) :
    Calls Tryz.prog 113 #[.slice a l.length cap, .int .i64 p, .int .i64 most] w fun e w' => e = .returned (.tuple #[.string (str []), .int .i64 0, .int .i64 3]) ∧ w' = w := by
  have HG : Hid (M.get l p = (n, k, 0)) := hg
  have HB : Hid (Byt w a cap l) := hB
  clear hg hB
  by_cases hm0 : most < 0
  · have hm1 : 0 < n := by omega
    go_enter Tryz.func113, Tryz.ntmps113
    go_wp2_with fail
    refine (get_is a _ cap l p _ n k 0 HG.out HB.out rfl).mono ?_
    rintro e w1 ⟨rfl, rfl⟩
    go_wp2_with fail
    go_ret3
    exact ⟨ret3 rfl rfl rfl, rfl⟩
  · obtain ⟨m, rfl⟩ := Int.eq_ofNat_of_zero_le (show 0 ≤ most by omega)
    have hm' : m < n := by simpa using hm
    clear hm
    go_enter Tryz.func113, Tryz.ntmps113
    go_wp2_with fail
    refine (get_is a _ cap l p _ n k 0 HG.out HB.out rfl).mono ?_
    rintro e w1 ⟨rfl, rfl⟩
    go_wp2_with fail
    go_ret3
    exact ⟨ret3 rfl rfl rfl, rfl⟩
set_option maxRecDepth 100000 in
theorem getText_lacks (a : Option Addr) (cap : Nat) (l : List UInt8) (p most : Int) (n k : Nat) (w : World) (hB : Byt w a cap l) (hg : M.get l p = (n, k, 0)) (hm : n ≤ most.toNat) (hk : k ≤ l.length) (hl : l.length - k < n) (hn : n < 18446744073709551616) (h1 : -9223372036854775808 ≤ most) (h2 : most ≤ 9223372036854775807) :
    Calls Tryz.prog 113 #[.slice a l.length cap, .int .i64 p, .int .i64 most] w fun e w' => e = .returned (.tuple #[.string (str []), .int .i64 0, .int .i64 10]) ∧ w' = w := by
  have hcm := hB.2.1
  have hlc := hB.1
  unfold maxLen at hcm
  have hlen : l.length ≤ 9223372036854775807 := by omega
  have HG : Hid (M.get l p = (n, k, 0)) := hg
  have HB : Hid (Byt w a cap l) := hB
  clear hg hB
  obtain ⟨m, rfl⟩ := Int.eq_ofNat_of_zero_le (show 0 ≤ most by omega)
  have hm' : n ≤ m := by simpa using hm
  clear hm
  go_enter Tryz.func113, Tryz.ntmps113
  go_wp2_with fail
  refine (get_is a _ cap l p _ n k 0 HG.out HB.out rfl).mono ?_
  rintro e w1 ⟨rfl, rfl⟩
  go_wp2_with fail
  go_ret3
  exact ⟨ret3 rfl rfl rfl, rfl⟩
/-- GetText, of any bytes, at any place. -/
theorem getText_any (a : Option Addr) (len cap : Nat) (l : List UInt8) (p most : Int) (w : World) (hB : Byt w a cap l) (hn : len = l.length) (h1 : -9223372036854775808 ≤ most) (h2 : most ≤ 9223372036854775807) (t : List UInt8) (k e0 : Nat) (hr : M.getText l p most = (t, k, e0)) :
    Calls Tryz.prog 113 #[.slice a len cap, .int .i64 p, .int .i64 most] w fun e w' => e = .returned (.tuple #[.string (str t), .int .i64 k, .int .i64 e0]) ∧ w' = w := by
  subst hn
  have hb := M.get_all l p
  obtain ⟨⟨n, k1, e1⟩, hg⟩ : ∃ x, M.get l p = x := ⟨_, rfl⟩
  unfold M.getText at hr
  rw [hg] at hr hb
  simp only at hr hb
  by_cases h : e1 = 0
  · subst h
    rw [if_neg (by simp)] at hr
    by_cases h' : most.toNat < n
    · rw [if_pos h'] at hr
      simp only [Prod.mk.injEq] at hr
      obtain ⟨rfl, rfl, rfl⟩ := hr
      exact getText_long a cap l p most n k1 w hB hg h' hb.1 h1 h2
    · rw [if_neg h'] at hr
      by_cases h3 : l.length - k1 < n
      · rw [if_pos h3] at hr
        simp only [Prod.mk.injEq] at hr
        obtain ⟨rfl, rfl, rfl⟩ := hr
        exact getText_lacks a cap l p most n k1 w hB hg (by omega) hb.2.1 h3 hb.1 h1 h2
      · rw [if_neg h3] at hr
        simp only [Prod.mk.injEq] at hr
        obtain ⟨rfl, rfl, rfl⟩ := hr
        exact getText_ok a cap l p most n k1 w hB hg (by omega) (by omega) h1 h2
  · rw [if_pos h] at hr
    simp only [Prod.mk.injEq] at hr
    obtain ⟨rfl, rfl, rfl⟩ := hr
    exact getText_why a cap l p most n k1 e1 w hB hg h hb.2.2
theorem room_is (a : Option Addr) (n cap : Nat) (l : List UInt8) (R : Int) (r : Nat) (w : World) (hB : Byt w a cap l) (hn : n = l.length) (hR : R = r) (hr : l.length + r ≤ 281474976710656) :
    Calls Tryz.prog 106 #[.slice a n cap, .int .i64 R] w fun e w' => ∃ v', e = .returned v' ∧ Own w' w.heap.size v' l ∧ Below w.heap.size w w' := by
  subst hn; subst hR; exact room_any a cap l r w hB hr
theorem addNumber_is (base : Nat) (v : Value) (l : List UInt8) (N : Int) (n : Nat) (w : World) (hN : N = n) (hv : Own w base v l) (hn : n < 18446744073709551616) (hlen : l.length + 10 ≤ 140737488355328) (hb : base ≤ w.heap.size) :
    Calls Tryz.prog 105 #[v, .int .u64 N] w fun e w' => ∃ v', e = .returned v' ∧ Own w' base v' (l ++ M.digs n) ∧ Below base w w' := by
  subst hN; exact addNumber_any base v l n w hv hn hlen hb
set_option maxRecDepth 100000 in
/-- PutText: b's bytes, the length's and the text's, in new memory. -/
theorem putText_any (a : Option Addr) (cap : Nat) (l s r : List UInt8) (w : World) (hB : Byt w a cap l) (hr : l ++ M.digs s.length ++ s = r) (hlen : l.length + 10 + s.length ≤ 140737488355328) :
    Calls Tryz.prog 73 #[.slice a l.length cap, .string (str s)] w fun e w' => ∃ v', e = .returned v' ∧ Own w' w.heap.size v' r ∧ Below w.heap.size w w' := by
  subst hr
  obtain ⟨i0, hi, hz0, hz1, hz2⟩ := info_parts Tryz.info5
  have hD := M.digs_len s.length
  have hss : (str s).size = s.length := str_size s
  go_enter Tryz.func73, Tryz.ntmps73
  go_wp2_with fail
  refine (room_is a _ cap l _ (10 + s.length) _ hB rfl (by omega) (by omega)).mono ?_
  rintro e w1 ⟨v1, rfl, ho1, hb1⟩
  go_wp2_with fail
  refine (addNumber_is _ v1 l _ s.length _ (by omega) ho1 (by omega) (by omega) hb1.size).mono ?_
  rintro e w2 ⟨v2, rfl, ho2, hb2⟩
  have hsz : w.heap.size ≤ w2.heap.size := Nat.le_trans hb1.size hb2.size
  have hb3 := hb1.trans hb2
  clear hb1 hb2 ho1 hB
  go_wp2_with (at_builtin; refine Lib.wpList_append_own_string _ rfl (.tmp 16) (.tmp 17) 22 9 rfl w.heap.size 5 i0 Tryz.underlying22 Tryz.underlying9 hi hz0 hz1 hz2 _ _ _ rfl ho2 (str s) rfl ?c1 ?c2 ?c3 ?_)
  case c1 => rw [hss, List.length_append]; unfold maxLen; omega
  case c2 => rw [hss, List.length_append]; omega
  case c3 => exact hsz
  intro v3 w3 ho3 hg3 _
  have hb4 := step_below0 hb3 hsz ho2 hg3
  have ho4 : Own w3 w.heap.size v3 (l ++ M.digs s.length ++ s) := own_text ho3 (by rw [List.length_append])
  clear ho2 ho3 hg3 hb3
  go_wp2
  go_ret
  exact ⟨_, rfl, ho4, hb4⟩
end Go.Proofs.YtnmonoafjijfhaaGreat
namespace Go.Proofs.YtnmonoafjijfhaaGreat
open Go.RowKit
set_option linter.unusedVariables false
namespace Rg
theorem good_field {P : Program} {ops : Array Oper} {specs : List Spec} {a0 : Act} {C : World → Prop} {E : World → World → Prop} {o : Oper} {t : TypeId} {x : Operand} {k : Nat} {vx v : Value} (hrefl : ∀ w, E w w) (ho : o.op = .fieldAddr t x k) (hg : guardV ops specs a0 o = some true)
    (hx : argS ops specs a0 x = .inl vx) (h : ∀ w, C w → (Instr.fieldAt t vx k).run P w = .ok v w) : GoodOp P ops specs a0 C E o (.inl v) :=
  good_val hrefl hg fun a w hC hh => by
    have h1 := hh x (by rw [ho]; simp [Op.operands])
    rw [hx] at h1
    simp only [Spec.ok] at h1
    refine ⟨v, ?_, rfl⟩
    unfold execOp
    rw [ho]
    simp only [h1, Sem.run_bind, Result.andThen, h w hC, Sem.run_pure]
end Rg
end Go.Proofs.YtnmonoafjijfhaaGreat
