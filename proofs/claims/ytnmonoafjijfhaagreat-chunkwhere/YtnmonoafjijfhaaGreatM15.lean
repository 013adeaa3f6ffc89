/-
  The contracts of the document's own answers for varint (Get, Put, Zig, Zag) over the program.
-/
import Derived.Test.YtnmonoafjijfhaaGreatM05
import Derived.Test.YtnmonoafjijfhaaGreatM03
namespace Go.Proofs.YtnmonoafjijfhaaGreat
open Go.RowKit
set_option linter.unusedVariables false
theorem rzig_any (n m : Int) (w : World) (h1 : -9223372036854775808 ≤ n) (h2 : n ≤ 9223372036854775807) (hm : M.zig n = m) :
    Calls Tryz.prog 40 #[.int .i64 n] w fun e w' => e = .returned (.int .u64 m) ∧ w' = w := by
  subst hm
  by_cases h : n < 0
  · go_enter Tryz.func40, Tryz.ntmps40
    go_wp2
    go_ret
    refine ⟨I.ret_int ?_, rfl⟩
    have h' : n < 0 := by omega
    unfold M.zig; rw [if_pos h']
    all_goals first | omega | (rw [I.w64]; omega) | (rw [I.w64, I.w64]; omega)
  · go_enter Tryz.func40, Tryz.ntmps40
    go_wp2
    go_ret
    refine ⟨I.ret_int ?_, rfl⟩
    have h' : ¬ n < 0 := by omega
    unfold M.zig; rw [if_neg h']
    all_goals first | omega | (rw [I.w64]; omega) | (rw [I.w64, I.w64]; omega)
set_option maxRecDepth 100000 in
theorem rput_any (a : Option Addr) (cap : Nat) (l : List UInt8) (n : Nat) (w : World) (hB : Byt w a cap l) (hn : n < 18446744073709551616) (hlen : l.length + 10 ≤ 140737488355328) :
    Calls Tryz.prog 39 #[.slice a l.length cap, .int .u64 n] w fun e w' => ∃ v', e = .returned v' ∧ Own w' w.heap.size v' (l ++ M.digs n) ∧ Below w.heap.size w w' := by
  obtain ⟨i0, hi, hz0, hz1, hz2⟩ := info_parts Tryz.info5
  have hD := M.digs_len n
  obtain ⟨base, hbase⟩ : ∃ base, base = w.heap.size := ⟨_, rfl⟩
  have hoe := own_empty w base (by omega)
  have hb0 : Below base w (w.alloc (.cells #[] 5)) := (Below.refl _ _).alloc (by omega) _
  have hB' : Byt (w.alloc (.cells #[] 5)) a cap l := hB.below (hbase ▸ hb0)
  have hbs : base ≤ (w.alloc (.cells #[] 5)).heap.size := by simp; omega
  rw [← hbase]
  have HBa : Hid (base = w.heap.size) := hbase
  clear hB
  go_enter Tryz.func39, Tryz.ntmps39
  go_wp2_with (at_builtin; refine wpList_append_byt rfl (.tmp 6) (.tmp 7) rfl base _ [] rfl (by rw [hbase] at hoe ⊢; exact hoe) a _ cap l rfl rfl hB' (by simp; omega) hbs ?_; intro v1 w1 ho1 hg1)
  have hb1 : Below base w w1 := step_below0 hb0 hbs hoe hg1
  clear hg1 hoe hb0 hB' hbs hbase
  go_loopw [5, 1] (fun v i wr => ∃ (pre : List UInt8) (N : Nat), N < 18446744073709551616 ∧ i = .int .u64 N ∧ pre ++ M.digs N = M.digs n ∧ Own wr base v (l ++ pre) ∧ Below base w wr) (fun _ i _ => (intOf i).toNat)
  case atStart => exact ⟨[], n, hn, rfl, rfl, by simpa using ho1, hb1⟩
  case round =>
    obtain ⟨pre, N, hN, rfl, hpre, hown, hbel⟩ := hrel
    have hpl : pre.length + 1 ≤ 10 := by
      have h1 := congrArg List.length hpre
      have h2 := M.digs_len N
      simp at h1; omega
    have hsz := hbel.size
    have hbs : base ≤ wr.heap.size := by rw [HBa.out]; exact hsz
    have HP : Hid (pre ++ M.digs N = M.digs n) := hpre
    clear hpre ho1 hb1
    by_cases hlt : 128 ≤ N
    · go_wp2_with (at_builtin; refine wpList_append_own _ rfl (.tmp 11) (.tmp 16) 22 rfl base 5 i0 (.int .u8 0) 1 1 Tryz.underlying22 hi hz0 hz1 hz2 rfl (by decide) _ _ _ rfl (hown.alloc _) ⟨wr.heap.size, 0, none⟩ 1 1 [.int .u8 ((N : Int) % 128 + 128)] rfl rfl ?c1 ?c2 ?c3 ?c4 ?c5 ?_)
      case c1 => exact one_cell wr _
      case c2 => intro u hu; simp at hu; subst hu; rfl
      case c3 => simp [maxLen]; omega
      case c4 => simp; omega
      case c5 => simp; omega
      intro v' w2 hown' hgrow _
      have hb' := step_below hbel hbs hown hgrow
      have ho' : Own w2 base v' (l ++ (pre ++ [UInt8.ofNat (N % 128 + 128)])) := by
        rw [← List.append_assoc]
        exact own_push hown' (by simp) (by simp; omega)
      have hd : pre ++ [UInt8.ofNat (N % 128 + 128)] ++ M.digs (N / 128) = M.digs n := by
        rw [← HP.out, M.digs_more (by omega) hN]; simp
      have HD : Hid (pre ++ [UInt8.ofNat (N % 128 + 128)] ++ M.digs (N / 128) = M.digs n) := hd
      clear hown' hgrow hown hbel hd
      go_wp2
      go_roundw
      case rel => exact ⟨_, N / 128, by omega, I.int_num (by omega), HD.out, ho', hb'⟩
      case measure => simp [intOf]; omega
    · go_wp2_with (at_builtin; refine wpList_append_own _ rfl (.tmp 20) (.tmp 23) 22 rfl base 5 i0 (.int .u8 0) 1 1 Tryz.underlying22 hi hz0 hz1 hz2 rfl (by decide) _ _ _ rfl (hown.alloc _) ⟨wr.heap.size, 0, none⟩ 1 1 [.int .u8 (N : Int)] rfl rfl ?d1 ?d2 ?d3 ?d4 ?d5 ?_)
      case d1 => exact one_cell wr _
      case d2 => intro u hu; simp at hu; subst hu; rfl
      case d3 => simp [maxLen]; omega
      case d4 => simp; omega
      case d5 => simp; omega
      intro v' w2 hown' hgrow _
      have hb' := step_below hbel hbs hown hgrow
      have ho' : Own w2 base v' (l ++ (pre ++ [UInt8.ofNat N])) := by
        rw [← List.append_assoc]
        exact own_push hown' (by simp) (by simp; omega)
      have hd : pre ++ [UInt8.ofNat N] = M.digs n := by
        rw [← HP.out, M.digs_low (by omega)]
      rw [hd] at ho'
      clear hown' hgrow hown hbel hd
      go_wp2
      go_ret
      exact ⟨_, rfl, ho', hb'⟩
theorem rput_is (a : Option Addr) (n cap : Nat) (l r : List UInt8) (m : Int) (k : Nat) (w : World) (hm : m = k) (hr : l ++ M.digs k = r) (hB : Byt w a cap l) (hn : n = l.length) (hk : k < 18446744073709551616) (hlen : l.length + 10 ≤ 140737488355328) :
    Calls Tryz.prog 39 #[.slice a n cap, .int .u64 m] w fun e w' => ∃ v', e = .returned v' ∧ Own w' w.heap.size v' r ∧ Below w.heap.size w w' := by
  subst hn; subst hr; subst hm
  exact rput_any a cap l k w hB hk hlen
set_option maxRecDepth 100000 in
theorem rputText_any (a : Option Addr) (cap : Nat) (l s r : List UInt8) (w : World) (hB : Byt w a cap l) (hr : l ++ M.digs s.length ++ s = r) (hlen : l.length + 10 + s.length ≤ 140737488355328) :
    Calls Tryz.prog 43 #[.slice a l.length cap, .string (str s)] w fun e w' => ∃ v', e = .returned v' ∧ Own w' w.heap.size v' r ∧ Below w.heap.size w w' := by
  subst hr
  obtain ⟨i0, hi, hz0, hz1, hz2⟩ := info_parts Tryz.info5
  have hD := M.digs_len s.length
  have hss : (str s).size = s.length := str_size s
  go_enter Tryz.func43, Tryz.ntmps43
  go_wp2_with fail
  refine (rput_is a _ cap l _ _ s.length _ (by omega) rfl hB rfl (by omega) (by omega)).mono ?_
  rintro e w2 ⟨v2, rfl, ho2, hb3⟩
  have hsz : w.heap.size ≤ w2.heap.size := hb3.size
  clear hB
  go_wp2_with (at_builtin; refine Lib.wpList_append_own_string _ rfl (.tmp 9) (.tmp 10) 22 9 rfl w.heap.size 5 i0 Tryz.underlying22 Tryz.underlying9 hi hz0 hz1 hz2 _ _ _ rfl ho2 (str s) rfl ?c1 ?c2 ?c3 ?_)
  case c1 => rw [hss, List.length_append]; unfold maxLen; omega
  case c2 => rw [hss, List.length_append]; omega
  case c3 => exact hsz
  intro v3 w3 ho3 hg3 _
  have hb4 := step_below0 hb3 hsz ho2 hg3
  have ho4 : Own w3 w.heap.size v3 (l ++ M.digs s.length ++ s) := own_text ho3 (by rw [List.length_append])
  clear ho2 ho3 hg3 hb3
  go_wp2
  go_ret
  exact ⟨_, rfl, ho4, hb4⟩
end Go.Proofs.YtnmonoafjijfhaaGreat
