/-
  Package block: a number's four bytes written (addNumber) and read (number), over the program.
-/
import Derived.Test.YthibeoohhcmejaaRall
namespace Go.Proofs.Ythibeoohhcmejaa
open Go.RowKit
set_option linter.unusedVariables false

theorem I.join32 (A B : Int) (a b : Nat) (hA : A = ((a * 256 : Nat) : Int)) (hB : B = b) (ha : a * 256 < 4294967296) (hb : b < 256) : bits .or .u32 A B = ((a * 256 + b : Nat) : Int) := by
  subst hA; subst hB
  rw [(bits_nat .u32 32 (by decide) I.wraps32 (a * 256) b (by omega) (by omega)).2]
  have h := Nat.two_pow_add_eq_or_of_lt (i := 8) hb a
  rw [Nat.mul_comm a, ← h]
set_option maxRecDepth 100000 in
theorem number_any (a : Option Addr) (cap : Nat) (l : List UInt8) (w : World) (hB : Byt w a cap l) (hl : 4 ≤ l.length) :
    Calls Try.prog 25 #[.slice a l.length cap] w fun e w' => e = .returned (.int .u32 (K.num l)) ∧ w' = w := by
  obtain ⟨h1, h2, h3, h4⟩ := hB
  unfold maxLen at h2
  obtain ⟨b, off, rfl, c0⟩ := h4 0 (by omega)
  obtain ⟨_, _, e1, c1⟩ := h4 1 (by omega)
  obtain ⟨_, _, e2, c2⟩ := h4 2 (by omega)
  obtain ⟨_, _, e3, c3⟩ := h4 3 (by omega)
  simp only [Option.some.injEq, Addr.mk.injEq, and_true] at e1 e2 e3
  obtain ⟨rfl, rfl⟩ := e1
  obtain ⟨rfl, rfl⟩ := e2
  obtain ⟨rfl, rfl⟩ := e3
  have b0 := M.bAt_lt l 0
  have b1 := M.bAt_lt l 1
  have b2 := M.bAt_lt l 2
  have b3 := M.bAt_lt l 3
  have i0 : (0 : Int) < (l.length : Int) := by omega
  have i1 : (1 : Int) < (l.length : Int) := by omega
  have i2 : (2 : Int) < (l.length : Int) := by omega
  have i3 : (3 : Int) < (l.length : Int) := by omega
  have c0' : w.cell? ⟨b, off, none⟩ = some (.int .u8 (M.bAt l 0)) := c0
  clear h3 h4 c0
  go_enter Try.func25, Try.ntmps25
  go_wp2
  go_loopw [3, 4] (fun n i wr => wr = w ∧ ((i = .int .i64 3 ∧ n = .int .u32 0) ∨ (i = .int .i64 2 ∧ n = .int .u32 (M.bAt l 3)) ∨ (i = .int .i64 1 ∧ n = .int .u32 ((M.bAt l 3 * 256 + M.bAt l 2 : Nat) : Int)) ∨ (i = .int .i64 0 ∧ n = .int .u32 (((M.bAt l 3 * 256 + M.bAt l 2) * 256 + M.bAt l 1 : Nat) : Int)) ∨ (i = .int .i64 (-1) ∧ n = .int .u32 (K.num l)))) (fun _ i _ => (intOf i + 1).toNat)
  case atStart => exact ⟨rfl, .inl ⟨rfl, rfl⟩⟩
  case round =>
    obtain ⟨hw, h⟩ := hrel
    have hw' := hw.symm; clear hw; subst hw'
    rcases h with ⟨rfl, rfl⟩ | ⟨rfl, rfl⟩ | ⟨rfl, rfl⟩ | ⟨rfl, rfl⟩ | ⟨rfl, rfl⟩
    · go_wp2
      go_roundw
      case rel => exact ⟨trivial, .inr (.inl ⟨rfl, I.int_num (by rw [I.join32 _ _ 0 (M.bAt l 3) (by omega) rfl (by omega) (by omega)]; omega)⟩)⟩
      case measure => simp [intOf]
    · go_wp2
      go_roundw
      case rel => exact ⟨trivial, .inr (.inr (.inl ⟨rfl, I.int_num (by rw [I.join32 _ _ (M.bAt l 3) (M.bAt l 2) (by omega) rfl (by omega) (by omega)])⟩))⟩
      case measure => simp [intOf]
    · go_wp2
      go_roundw
      case rel => exact ⟨trivial, .inr (.inr (.inr (.inl ⟨rfl, I.int_num (by rw [I.join32 _ _ (M.bAt l 3 * 256 + M.bAt l 2) (M.bAt l 1) (by omega) rfl (by omega) (by omega)])⟩)))⟩
      case measure => simp [intOf]
    · go_wp2
      go_roundw
      case rel => exact ⟨trivial, .inr (.inr (.inr (.inr ⟨rfl, I.int_num (by
        rw [I.join32 _ _ ((M.bAt l 3 * 256 + M.bAt l 2) * 256 + M.bAt l 1) (M.bAt l 0) (by omega) rfl (by omega) (by omega)]
        show _ = ((M.bAt l 0 + 256 * M.bAt l 1 + 65536 * M.bAt l 2 + 16777216 * M.bAt l 3 : Nat) : Int)
        omega)⟩)))⟩
      case measure => simp [intOf]
    · go_wp2
      go_ret
      exact ⟨rfl, rfl⟩
theorem number_is (a : Option Addr) (n cap : Nat) (l : List UInt8) (w : World) (r : Nat) (hr : K.num l = r) (hB : Byt w a cap l) (hn : n = l.length) (hl : 4 ≤ l.length) :
    Calls Try.prog 25 #[.slice a n cap] w fun e w' => e = .returned (.int .u32 r) ∧ w' = w := by
  subst hr; subst hn; exact number_any a cap l w hB hl

set_option maxRecDepth 100000 in
theorem addNumber_any (base : Nat) (v : Value) (l : List UInt8) (n : Nat) (w : World) (hv : Own w base v l) (hn : n < 4294967296) (hlen : l.length + 4 ≤ 140737488355328) (hb : base ≤ w.heap.size) :
    Calls Try.prog 22 #[v, .int .u32 n] w fun e w' => ∃ v', e = .returned v' ∧ Own w' base v' (l ++ K.four n) ∧ Below base w w' := by
  obtain ⟨i0, hi, hz0, hz1, hz2⟩ := info_parts Try.info5
  go_enter Try.func22, Try.ntmps22
  go_wp2
  go_loopw [0, 1, 5] (fun v i k wr => ∃ (pre : List UInt8) (N j : Nat), N < 4294967296 ∧ j ≤ 4 ∧ Hid (j = pre.length) ∧ i = .int .u32 N ∧ k = .int .i64 j ∧ Hid (pre ++ (K.four N).take (4 - j) = K.four n) ∧ Own wr base v (l ++ pre) ∧ Below base w wr) (fun _ _ k _ => 4 - (intOf k).toNat)
  case atStart => exact ⟨[], n, 0, hn, by omega, (rfl : (0 : Nat) = ([] : List UInt8).length), rfl, rfl, (rfl : _ = _), by simpa using hv, Below.refl _ _⟩
  case round =>
    obtain ⟨pre, N, j, hN, hj, HJ, rfl, rfl, HP, hown, hbel⟩ := hrel
    have hsz := hbel.size
    have hpl : pre.length ≤ 4 := by have := HJ.out; omega
    by_cases hlt : j < 4
    · go_wp2_with (at_builtin; refine wpList_append_own _ rfl (.tmp 7) (.tmp 10) 22 rfl base 5 i0 (.int .u8 0) 1 1 Try.underlying22 hi hz0 hz1 hz2 rfl (by decide) _ _ _ rfl (hown.alloc _) ⟨wr.heap.size, 0, none⟩ 1 1 [.int .u8 ((N : Int) % 256)] rfl rfl ?c1 ?c2 ?c3 ?c4 ?c5 ?_)
      case c1 => exact one_cell wr _
      case c2 => intro u hu; simp at hu; subst hu; rfl
      case c3 => have := HJ.out; simp [maxLen]; omega
      case c4 => have := HJ.out; simp; omega
      case c5 => have := HJ.out; simp; omega
      intro v' w1 hown' hgrow _
      have hb' := step_below hbel (by omega) hown hgrow
      have ho' : Own w1 base v' (l ++ (pre ++ [UInt8.ofNat N])) := by
        rw [← List.append_assoc]
        exact own_push hown' (by simp) (by rw [K.ofNat_toNat]; omega)
      have hd : pre ++ [UInt8.ofNat N] ++ (K.four (N / 256)).take (4 - (j + 1)) = K.four n := by
        rw [← HP.out]
        have e : (K.four N).take (4 - j) = UInt8.ofNat N :: (K.four (N / 256)).take (4 - (j + 1)) := by
          rw [show 4 - j = (3 - j) + 1 from by omega, show 4 - (j + 1) = 3 - j from by omega]
          unfold K.four
          rw [List.take_succ_cons, Nat.div_div_eq_div_mul, Nat.div_div_eq_div_mul, Nat.div_div_eq_div_mul]
          congr 1
          obtain h | h | h | h : 3 - j = 0 ∨ 3 - j = 1 ∨ 3 - j = 2 ∨ 3 - j = 3 := by omega
          all_goals rw [h]; rfl
        rw [e]; simp
      have HD : Hid (pre ++ [UInt8.ofNat N] ++ (K.four (N / 256)).take (4 - (j + 1)) = K.four n) := hd
      have hjp' : Hid (j + 1 = (pre ++ [UInt8.ofNat N]).length) := (by have := HJ.out; simp; omega : j + 1 = (pre ++ [UInt8.ofNat N]).length)
      clear hown' hgrow hown hbel hd HP HJ hpl
      go_wp2
      go_roundw
      case rel => exact ⟨_, N / 256, j + 1, by omega, by omega, hjp', I.int_num (by omega), rfl, HD, ho', hb'⟩
      case measure => simp [intOf]; omega
    · have hd : pre = K.four n := by have := HP.out; rw [show 4 - j = 0 from by omega] at this; simpa using this
      rw [hd] at hown
      clear HP hd HJ hpl
      go_wp2
      go_ret
      exact ⟨_, rfl, hown, hbel⟩
theorem addNumber_is (base : Nat) (v : Value) (l : List UInt8) (m : Int) (n : Nat) (w : World) (hm : m = n) (hv : Own w base v l) (hn : n < 4294967296) (hlen : l.length + 4 ≤ 140737488355328) (hb : base ≤ w.heap.size) :
    Calls Try.prog 22 #[v, .int .u32 m] w fun e w' => ∃ v', e = .returned v' ∧ Own w' base v' (l ++ K.four n) ∧ Below base w w' := by
  subst hm; exact addNumber_any base v l n w hv hn hlen hb
end Go.Proofs.Ythibeoohhcmejaa
