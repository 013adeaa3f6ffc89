/-
  Taken out of another text of mine: Varint.
-/
import Derived.Test.YtbdjccmlgdfapabBytes
namespace Go.Proofs.Ytbdjccmlgdfapab
open Go.RowKit
set_option linter.unusedVariables false
theorem zig_any (n : Int) (w : World) (h1 : -9223372036854775808 ≤ n) (h2 : n ≤ 9223372036854775807) :
    Calls Try.prog 20 #[.int .i64 n] w fun e w' => e = .returned (.int .u64 (M.zig n)) ∧ w' = w := by
  by_cases h : n < 0
  · go_enter Try.func20, Try.ntmps20
    go_wp2
    go_ret
    refine ⟨I.ret_int ?_, rfl⟩
    rw [I.xor1u _ (by rw [I.w64]; omega) (by rw [I.w64]; omega), I.w64, I.w64]
    have h' : n < 0 := by omega
    unfold M.zig; rw [if_pos h']; omega
  · go_enter Try.func20, Try.ntmps20
    go_wp2
    go_ret
    refine ⟨I.ret_int ?_, rfl⟩
    have h' : ¬ n < 0 := by omega
    unfold M.zig; rw [if_neg h']
    first | omega | (rw [I.w64]; omega) | (rw [I.w64, I.w64]; omega)
theorem room_any (a : Option Addr) (cap : Nat) (l : List UInt8) (r : Nat) (w : World) (hB : Byt w a cap l) (hr : l.length + r ≤ 281474976710656) :
    Calls Try.prog 29 #[.slice a l.length cap, .int .i64 r] w fun e w' =>
      ∃ v', e = .returned v' ∧ Own w' w.heap.size v' l ∧ Below w.heap.size w w' := by
  obtain ⟨i0, hi, hz0, hz1, hz2⟩ := info_parts Try.info5
  obtain ⟨hlc, hcm, hnone, hcell⟩ := hB
  have hlen : l.length ≤ 281474976710656 := by omega
  obtain ⟨C, hC⟩ : ∃ C, C = cs l := ⟨_, rfl⟩
  have hCl : C.length = l.length := by rw [hC, cs_len]
  have HC : Hid (C = cs l) := hC
  have hone : ∀ v ∈ C, v.oneCell' = true := by rw [hC]; exact cs_one l
  clear hC
  go_enter Try.func29, Try.ntmps29
  go_wp2_with (first
    | (at_make; refine wpList_make_some _ rfl _ _ 29 rfl 5 i0 (.int .u8 0) Try.underlying29 hi hz0 hz1 hz2 .i64 .i64 _ _ l.length (l.length + r) rfl rfl (by omega) (by omega) (by omega) (by omega) ?_; intro w1 cur hcur hg1 hb1)
    | (have _t := hg1; refine wpList_copy_splice rfl (.tmp 13) (.tmp 14) 29 29 rfl 5 Try.underlying29 Try.size5 _ _ _ _ _ _ rfl rfl w.heap.size 0 cur 5 hg1 C ?c1 ?c2 ?c3 hone w.heap.size w hb1 (Nat.le_refl _) ?_; rotate_right; intro w2 hg2 hb2; clear hg1))
  case c1 => rw [hCl]; exact (Nat.min_self _).symm
  case c2 =>
    intro h0
    obtain ⟨b, off, rfl, _⟩ := hcell 0 h0
    refine ⟨_, rfl, fun j u hu => ?_⟩
    rw [HC.out] at hu
    obtain ⟨hj, rfl⟩ := cs_get hu
    obtain ⟨b', off', hbo, hc⟩ := hcell j hj
    simp at hbo
    obtain ⟨rfl, rfl⟩ := hbo
    rw [add_none, hb1.cell (p := ⟨b, off + j, none⟩) (World.block_lt_of_cell? w _ hc)]
    exact hc
  case c3 => omega
  go_ret
  refine ⟨_, rfl, ?_, hb2⟩
  have hg := hg2.out
  refine ⟨by simp [cs_len], .inr ⟨w.heap.size, l.length + r, _, rfl, Nat.le_refl _, hg, by omega, by unfold maxLen; omega, ?_, ?_⟩⟩
  · simp only [List.size_toArray]; rw [length_splice _ _ _ (by omega)]; omega
  · rw [← HC.out]
    simp [splice, ← hCl]
set_option maxRecDepth 100000 in
theorem addNumber_any (base : Nat) (v : Value) (l : List UInt8) (n : Nat) (w : World) (hv : Own w base v l) (hn : n < 18446744073709551616) (hlen : l.length + 10 ≤ 140737488355328) (hb : base ≤ w.heap.size) :
    Calls Try.prog 28 #[v, .int .u64 n] w fun e w' => ∃ v', e = .returned v' ∧ Own w' base v' (l ++ M.digs n) ∧ Below base w w' := by
  obtain ⟨i0, hi, hz0, hz1, hz2⟩ := info_parts Try.info5
  have hD := M.digs_len n
  go_enter Try.func28, Try.ntmps28
  go_wp2
  go_loopw [0, 1] (fun v i wr => ∃ (pre : List UInt8) (N : Nat), N < 18446744073709551616 ∧ i = .int .u64 N ∧ pre ++ M.digs N = M.digs n ∧ Own wr base v (l ++ pre) ∧ Below base w wr) (fun _ i _ => (intOf i).toNat)
  case atStart => exact ⟨[], n, hn, rfl, rfl, by simpa using hv, Below.refl _ _⟩
  case round =>
    obtain ⟨pre, N, hN, rfl, hpre, hown, hbel⟩ := hrel
    have hpl : pre.length + 1 ≤ 10 := by
      have h1 := congrArg List.length hpre
      have h2 := M.digs_len N
      simp at h1; omega
    have hsz := hbel.size
    have HP : Hid (pre ++ M.digs N = M.digs n) := hpre
    clear hpre
    by_cases hlt : 127 < N
    · have h1 := I.and127 (N : Int) (by omega) (by omega)
      have h2 := I.or128b ((N : Int) % 128) (by omega) (by omega)
      go_wp2_with (at_builtin; refine wpList_append_own _ rfl (.tmp 7) (.tmp 12) 29 rfl base 5 i0 (.int .u8 0) 1 1 Try.underlying29 hi hz0 hz1 hz2 rfl (by decide) _ _ _ rfl (hown.alloc _) ⟨wr.heap.size, 0, none⟩ 1 1 [.int .u8 ((N : Int) % 128 + 128)] rfl rfl ?c1 ?c2 ?c3 ?c4 ?c5 ?_)
      case c1 => exact one_cell wr _
      case c2 => intro u hu; simp at hu; subst hu; rfl
      case c3 => simp [maxLen]; omega
      case c4 => simp; omega
      case c5 => simp; omega
      intro v' w1 hown' hgrow _
      have hb' := step_below hbel (by omega) hown hgrow
      have ho' : Own w1 base v' (l ++ (pre ++ [UInt8.ofNat (N % 128 + 128)])) := by
        rw [← List.append_assoc]
        exact own_push hown' (by simp) (by simp; omega)
      have hd : pre ++ [UInt8.ofNat (N % 128 + 128)] ++ M.digs (N / 128) = M.digs n := by
        rw [← HP.out, M.digs_more (by omega) hN]; simp
      have HD : Hid (pre ++ [UInt8.ofNat (N % 128 + 128)] ++ M.digs (N / 128) = M.digs n) := hd
      clear hown' hgrow hown hbel hd
      go_wp2
      go_roundw
      case rel => exact ⟨_, N / 128, by omega, I.int_num (by omega), HD.out, ho', hb'⟩
      case measure => simp [intOf]; omega
    · go_wp2_with (at_builtin; refine wpList_append_own _ rfl (.tmp 16) (.tmp 19) 29 rfl base 5 i0 (.int .u8 0) 1 1 Try.underlying29 hi hz0 hz1 hz2 rfl (by decide) _ _ _ rfl (hown.alloc _) ⟨wr.heap.size, 0, none⟩ 1 1 [.int .u8 (N : Int)] rfl rfl ?d1 ?d2 ?d3 ?d4 ?d5 ?_)
      case d1 => exact one_cell wr _
      case d2 => intro u hu; simp at hu; subst hu; rfl
      case d3 => simp [maxLen]; omega
      case d4 => simp; omega
      case d5 => simp; omega
      intro v' w1 hown' hgrow _
      have hb' := step_below hbel (by omega) hown hgrow
      have ho' : Own w1 base v' (l ++ (pre ++ [UInt8.ofNat N])) := by
        rw [← List.append_assoc]
        exact own_push hown' (by simp) (by simp; omega)
      have hd : pre ++ [UInt8.ofNat N] = M.digs n := by
        rw [← HP.out, M.digs_low (by omega)]
      rw [hd] at ho'
      clear hown' hgrow hown hbel hd
      go_wp2
      go_ret
      exact ⟨_, rfl, ho', hb'⟩
/-- Put: b's bytes and n's, in new memory. -/
theorem put_any (a : Option Addr) (cap : Nat) (l : List UInt8) (n : Nat) (w : World) (hB : Byt w a cap l) (hn : n < 18446744073709551616) (hlen : l.length + 10 ≤ 140737488355328) :
    Calls Try.prog 18 #[.slice a l.length cap, .int .u64 n] w fun e w' => ∃ v', e = .returned v' ∧ Own w' w.heap.size v' (l ++ M.digs n) ∧ Below w.heap.size w w' := by
  go_enter Try.func18, Try.ntmps18
  go_wp2_with fail
  refine (room_any a cap l 10 _ hB (by omega)).mono ?_
  rintro e w1 ⟨v1, rfl, ho1, hb1⟩
  go_wp2_with fail
  refine (addNumber_any _ v1 l n _ ho1 hn hlen hb1.size).mono ?_
  rintro e w2 ⟨v2, rfl, ho2, hb2⟩
  go_wp2
  go_ret
  exact ⟨_, rfl, ho2, hb1.trans hb2⟩
theorem put_is (a : Option Addr) (n cap : Nat) (l r : List UInt8) (m : Int) (k : Nat) (w : World) (hm : m = k) (hr : l ++ M.digs k = r) (hB : Byt w a cap l) (hn : n = l.length) (hk : k < 18446744073709551616) (hlen : l.length + 10 ≤ 140737488355328) :
    Calls Try.prog 18 #[.slice a n cap, .int .u64 m] w fun e w' => ∃ v', e = .returned v' ∧ Own w' w.heap.size v' r ∧ Below w.heap.size w w' := by
  subst hn; subst hr; subst hm
  exact put_any a cap l k w hB hk hlen
theorem zig_is (n m : Int) (w : World) (h1 : -9223372036854775808 ≤ n) (h2 : n ≤ 9223372036854775807) (hm : M.zig n = m) :
    Calls Try.prog 20 #[.int .i64 n] w fun e w' => e = .returned (.int .u64 m) ∧ w' = w := by subst hm; exact zig_any n w h1 h2
theorem room_is (a : Option Addr) (n cap : Nat) (l : List UInt8) (R : Int) (r : Nat) (w : World) (hB : Byt w a cap l) (hn : n = l.length) (hR : R = r) (hr : l.length + r ≤ 281474976710656) :
    Calls Try.prog 29 #[.slice a n cap, .int .i64 R] w fun e w' => ∃ v', e = .returned v' ∧ Own w' w.heap.size v' l ∧ Below w.heap.size w w' := by
  subst hn; subst hR; exact room_any a cap l r w hB hr
theorem addNumber_is (base : Nat) (v : Value) (l : List UInt8) (N : Int) (n : Nat) (w : World) (hN : N = n) (hv : Own w base v l) (hn : n < 18446744073709551616) (hlen : l.length + 10 ≤ 140737488355328) (hb : base ≤ w.heap.size) :
    Calls Try.prog 28 #[v, .int .u64 N] w fun e w' => ∃ v', e = .returned v' ∧ Own w' base v' (l ++ M.digs n) ∧ Below base w w' := by
  subst hN; exact addNumber_any base v l n w hv hn hlen hb
set_option maxRecDepth 100000 in
/-- PutText: b's bytes, the length's and the text's, in new memory. -/
theorem putText_any (a : Option Addr) (cap : Nat) (l s r : List UInt8) (w : World) (hB : Byt w a cap l) (hr : l ++ M.digs s.length ++ s = r) (hlen : l.length + 10 + s.length ≤ 140737488355328) :
    Calls Try.prog 19 #[.slice a l.length cap, .string (str s)] w fun e w' => ∃ v', e = .returned v' ∧ Own w' w.heap.size v' r ∧ Below w.heap.size w w' := by
  subst hr
  obtain ⟨i0, hi, hz0, hz1, hz2⟩ := info_parts Try.info5
  have hD := M.digs_len s.length
  have hss : (str s).size = s.length := str_size s
  go_enter Try.func19, Try.ntmps19
  go_wp2_with fail
  refine (room_is a _ cap l _ (10 + s.length) _ hB rfl (by omega) (by omega)).mono ?_
  rintro e w1 ⟨v1, rfl, ho1, hb1⟩
  go_wp2_with fail
  refine (addNumber_is _ v1 l _ s.length _ (by omega) ho1 (by omega) (by omega) hb1.size).mono ?_
  rintro e w2 ⟨v2, rfl, ho2, hb2⟩
  have hsz : w.heap.size ≤ w2.heap.size := Nat.le_trans hb1.size hb2.size
  have hb3 := hb1.trans hb2
  clear hb1 hb2 ho1 hB
  go_wp2_with (at_builtin; refine Lib.wpList_append_own_string _ rfl (.tmp 16) (.tmp 17) 29 9 rfl w.heap.size 5 i0 Try.underlying29 Try.underlying9 hi hz0 hz1 hz2 _ _ _ rfl ho2 (str s) rfl ?c1 ?c2 ?c3 ?_)
  case c1 => rw [hss, List.length_append]; unfold maxLen; omega
  case c2 => rw [hss, List.length_append]; omega
  case c3 => exact hsz
  intro v3 w3 ho3 hg3 _
  have hb4 := step_below0 hb3 hsz ho2 hg3
  have ho4 : Own w3 w.heap.size v3 (l ++ M.digs s.length ++ s) := own_text ho3 (by rw [List.length_append])
  clear ho2 ho3 hg3 hb3
  go_wp2
  go_ret
  exact ⟨_, rfl, ho4, hb4⟩
end Go.Proofs.Ytbdjccmlgdfapab
