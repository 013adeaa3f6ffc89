/-
  Plain facts: the sizes that a filter may have, told by 'n and n - 1 have no bit in common'; bytes asked by a mask. No program here. Package bloom's sizeFor, mask, rightSize and Right, over the program. Package bloom's places: the four bits of a text, over the program.
-/
import Derived.Test.YtibnhjfeepdddaaM08
import Derived.Test.YtibnhjfeepdddaaM21
import Derived.Test.YtibnhjfeepdddaaM13
namespace Go.Proofs.Ytibnhjfeepdddaa.Fl
theorem pow_and (k : Nat) : 2 ^ k &&& (2 ^ k - 1) = 0 := by
 rw [Nat.and_two_pow_sub_one_eq_mod, Nat.mod_self]
theorem and_pred {n : Nat} (h0 : 0 < n) (h : n &&& (n - 1) = 0) : ∃ k, n = 2 ^ k := by
 refine ⟨n.log2, ?_⟩
 have h1 : 2 ^ n.log2 ≤ n := Nat.log2_self_le (by omega)
 have h2 : n < 2 ^ (n.log2 + 1) := Nat.lt_log2_self
 refine Classical.byContradiction fun hne => ?_
 have h3 : 2 ^ n.log2 ≤ n - 1 := by omega
 have t1 : n.testBit n.log2 = true := Nat.testBit_of_two_pow_le_and_two_pow_add_one_gt h1 h2
 have t2 : (n - 1).testBit n.log2 = true := Nat.testBit_of_two_pow_le_and_two_pow_add_one_gt h3 (by omega)
 have t3 : (n &&& (n - 1)).testBit n.log2 = true := by rw [Nat.testBit_and, t1, t2]; rfl
 rw [h] at t3
 simp at t3
/-- Is a size right? -/
def sizeB (n : Nat) : Bool := decide (∃ i, i < 11 ∧ n = 64 * 2 ^ i)
theorem sizeB_iff {n : Nat} : sizeB n = true ↔ IsW n := by
 unfold sizeB IsW
 rw [decide_eq_true_eq]
 exact ⟨fun ⟨i, hi, h⟩ => ⟨i, by omega, h⟩, fun ⟨i, hi, h⟩ => ⟨i, by omega, h⟩⟩
theorem isW_and {n : Nat} (h1 : 64 ≤ n) (h2 : n ≤ 65536) : n &&& (n - 1) = 0 ↔ IsW n := by
 constructor
 ·intro h
  obtain ⟨k, rfl⟩ := and_pred (by omega) h
  have k1 : 6 ≤ k := by
   refine Classical.byContradiction fun hk => ?_
   have : 2 ^ k ≤ 2 ^ 5 := Nat.pow_le_pow_right (by omega) (by omega)
   omega
  have k2 : k ≤ 16 := by
   refine Classical.byContradiction fun hk => ?_
   have : 2 ^ 17 ≤ 2 ^ k := Nat.pow_le_pow_right (by omega) (by omega)
   omega
  refine ⟨k - 6, by omega, ?_⟩
  rw [show 64 = 2 ^ 6 from rfl, ← Nat.pow_add, show 6 + (k - 6) = k from by omega]
 ·rintro ⟨k, hk, rfl⟩
  rw [show 64 * 2 ^ k = 2 ^ (6 + k) from by rw [Nat.pow_add]]
  exact pow_and _
theorem right_form {m n : Nat} : rightB (m : Int) n = (sizeB m && decide (n = m / 8)) := by
 rw [Bool.eq_iff_iff, right_iff, Bool.and_eq_true, sizeB_iff, decide_eq_true_eq]
 constructor
 ·rintro ⟨m', h1, h2, h3⟩
  have e : m = m' := by omega
  subst e
  exact ⟨h1, h3⟩
 ·rintro ⟨h1, h2⟩
  exact ⟨m, h1, rfl, h2⟩
theorem right_neg {k : Int} {n : Nat} (h : k < 0) : rightB k n = false := by
 cases hr : rightB k n with
 | false => rfl
 | true =>
  obtain ⟨m, _, h1, _⟩ := right_iff.1 hr
  omega
theorem sizeB_big {n : Nat} (h : 65536 < n) : sizeB n = false := by
 cases hr : sizeB n with
 | false => rfl
 | true => have := (sizeB_iff.1 hr).bounds; omega
theorem sizeB_small {n : Nat} (h : n < 64) : sizeB n = false := by
 cases hr : sizeB n with
 | false => rfl
 | true => have := (sizeB_iff.1 hr).bounds; omega
/-- A byte and one bit. -/
theorem mask_and (b i : Nat) : b &&& 2 ^ i = if b / 2 ^ i % 2 = 1 then 2 ^ i else 0 := by
 refine Nat.eq_of_testBit_eq fun m => ?_
 rw [Nat.testBit_and, Nat.testBit_two_pow]
 by_cases e : i = m
 ·subst e
  rw [Nat.testBit_eq_decide_div_mod_eq]
  by_cases h : b / 2 ^ i % 2 = 1
  ·rw [if_pos h, Nat.testBit_two_pow_self]; simp [h]
  ·rw [if_neg h]; simp [h]
 ·rw [decide_eq_false e, Bool.and_false]
  split
  ·rw [Nat.testBit_two_pow]; simp [e]
  ·simp
theorem mask_zero (b i : Nat) : (b &&& 2 ^ i = 0) ↔ ¬ b / 2 ^ i % 2 = 1 := by
 rw [mask_and]
 have : 0 < 2 ^ i := Nat.pow_pos (by omega)
 split
 ·rename_i h; constructor
  ·intro h0; omega
  ·intro h0; exact absurd h h0
 ·rename_i h; exact ⟨fun _ => h, fun _ => rfl⟩
end Go.Proofs.Ytibnhjfeepdddaa.Fl
namespace Go.Proofs.Ytibnhjfeepdddaa
open Go.RowKit
set_option linter.unusedVariables false
set_option linter.unusedSimpArgs false
set_option maxRecDepth 100000 in
set_option maxHeartbeats 2000000 in
theorem bsize_is (d : Nat) (w : World) (hd : d ≤ 500) (W : Nat) (hW : Fl.width d = W) :
  Calls Try.prog 24 #[.int .i64 d] w fun e w' => e = .returned (.int .i64 W) ∧ w' = w := by
 have HW : Hid (Fl.wid 10 d 64 = W) := hW
 clear hW
 go_enter Try.func24, Try.ntmps24
 go_wp2_with fail
 go_loopw [3] (fun i wr => wr = w ∧ ∃ f m : Nat, f ≤ 10 ∧ 64 ≤ m ∧ m ≤ 65536 ∧ i = .int .i64 m ∧ Hid (m = 64 * 2 ^ (10 - f)) ∧ Hid (Fl.wid f d m = W)) (fun i _ => 65536 - (intOf i).toNat)
 case atStart => exact ⟨rfl, 10, 64, by omega, by omega, by omega, rfl, (rfl : 64 = 64 * 2 ^ (10 - 10)), HW⟩
 case round =>
  obtain ⟨hw, f, m, hf, hm1, hm2, rfl, HM, HWf⟩ := hrel
  have hw' := hw.symm; clear hw; subst hw'
  by_cases hc2 : m < 65536
  ·have t2 : decide ((m : Int) < 65536) = true := by simp; omega
   have t4 : decide (m < 65536) = true := by simp; omega
   by_cases hc1 : m < 8 * d
   ·have hc : m < 8 * d ∧ m < 65536 := ⟨hc1, hc2⟩
    obtain ⟨f', rfl, h2, h3⟩ := Fl.wid_go hf HM.out hc
    have t1 : decide ((m : Int) < 8 * (d : Int)) = true := by simp; omega
    have t3 : decide (m < 8 * d) = true := by simp; omega
    have HM' : Hid (m * 2 = 64 * 2 ^ (10 - f')) := (by omega : m * 2 = 64 * 2 ^ (10 - f'))
    have HWf' : Hid (Fl.wid f' d (m * 2) = W) := (by rw [Nat.mul_comm, ← h3]; exact HWf.out : Fl.wid f' d (m * 2) = W)
    have hm3 : m * 2 ≤ 65536 := by have := Fl.IsW.bounds (n := 2 * m) ⟨10 - f', by omega, h2⟩; omega
    clear h2 h3 HM HWf hc
    go_wp2_with fail
    go_roundw
    case rel => exact ⟨trivial, f', m * 2, by omega, by omega, hm3, by go_num, HM', HWf'⟩
    case measure => simp [intOf]; omega
   ·have hmW : m = W := by rw [← HWf.out]; exact (Fl.wid_end (by omega)).symm
    have t1 : decide ((m : Int) < 8 * (d : Int)) = false := by simp; omega
    have t3 : decide (m < 8 * d) = false := by simp; omega
    clear HM HWf HW
    subst hmW
    go_wp2_with fail
    go_ret
    exact ⟨rfl, rfl⟩
  ·have hmW : m = W := by rw [← HWf.out]; exact (Fl.wid_end (by omega)).symm
   have t2 : decide ((m : Int) < 65536) = false := by simp; omega
   have t4 : decide (m < 65536) = false := by simp; omega
   clear HM HWf HW
   subst hmW
   go_wp2_with fail
   go_ret
   exact ⟨rfl, rfl⟩
theorem pow_small {r : Nat} (h : r < 8) : 2 ^ r < 256 := Nat.lt_of_lt_of_le (Nat.pow_lt_pow_right (by omega) h) (by decide)
set_option maxRecDepth 100000 in
set_option maxHeartbeats 2000000 in
theorem mask_is (p : Nat) (w : World) (hp : p < 65536) (sh : Nat) (hsh : 2 ^ (p % 8) = sh) :
  Calls Try.prog 27 #[.int .u64 p] w fun e w' => e = .returned (.int .u8 sh) ∧ w' = w := by
 obtain ⟨pr, hpr⟩ : ∃ pr, pr = p % 8 := ⟨_, rfl⟩
 have hpr8 : pr < 8 := by omega
 have hpri : (p : Int) % 8 = (pr : Int) := by omega
 rw [← hpr] at hsh
 have hsh8 : sh < 256 := by rw [← hsh]; exact pow_small hpr8
 have hshi : (2 : Int) ^ pr % 256 = (sh : Int) := by
  have e : (2 : Int) ^ pr = ((2 ^ pr : Nat) : Int) := by simp
  rw [e, hsh]; omega
 clear hsh hpr
 go_enter Try.func27, Try.ntmps27
 go_wp2_with fail
 go_ret
 refine ⟨?_, rfl⟩
 rw [hshi]
 rfl
set_option maxRecDepth 100000 in
set_option maxHeartbeats 2000000 in
theorem brsize_is (n : Nat) (w : World) (hn : n < 18446744073709551616) (r : Bool) (hr : Fl.sizeB n = r) :
  Calls Try.prog 111 #[.int .u64 n] w fun e w' => e = .returned (.bool r) ∧ w' = w := by
 by_cases h0 : n = 0
 ·subst h0
  have hrf : r = false := by rw [← hr]; exact Fl.sizeB_small (by omega)
  subst hrf
  have hand : bits .and .u64 0 18446744073709551615 = 0 := by
   have h := (bits_nat .u64 64 (by decide) I.wraps64 0 18446744073709551615 (by omega) (by omega)).1
   simpa using h
  clear hr
  go_enter Try.func111, Try.ntmps111
  go_wp2_with fail
  go_ret
  exact ⟨rfl, rfl⟩
 ·obtain ⟨A, hA⟩ : ∃ A, A = n &&& (n - 1) := ⟨_, rfl⟩
  have hand : bits .and .u64 (n : Int) ((n : Int) - 1) = (A : Int) := by
   have h := (bits_nat .u64 64 (by decide) I.wraps64 n (n - 1) (by omega) (by omega)).1
   rw [show ((n - 1 : Nat) : Int) = (n : Int) - 1 from by omega, ← hA] at h
   exact h
  obtain ⟨z, hz⟩ : ∃ z, decide (A = 0) = z := ⟨_, rfl⟩
  have hz2 : ((A : Int) == 0) = z := by rw [← hz, Bool.eq_iff_iff]; simp
  have HZ : Hid (decide (A = 0) = z) := hz
  have HA : Hid (A = n &&& (n - 1)) := hA
  have HR : Hid (Fl.sizeB n = r) := hr
  clear hz hA hr
  cases z with
  | false =>
   have hrf : r = false := by
    rw [← HR.out]
    cases hs : Fl.sizeB n with
    | false => rfl
    | true =>
     have hw := Fl.sizeB_iff.1 hs
     have hb := hw.bounds
     have h1 := (Fl.isW_and hb.1 hb.2.1).2 hw
     rw [← HA.out] at h1
     have := HZ.out
     rw [h1] at this
     simp at this
   subst hrf
   go_enter Try.func111, Try.ntmps111
   go_wp2_with fail
   go_ret
   exact ⟨rfl, rfl⟩
  | true =>
   have hA0 : A = 0 := by simpa using HZ.out
   by_cases h64 : 64 ≤ n
   ·have t1 : decide ((64 : Int) ≤ (n : Int)) = true := by simp; omega
    have t1n : decide (64 ≤ n) = true := by simp; omega
    by_cases hbig : n ≤ 65536
    ·have t2 : decide ((n : Int) ≤ 65536) = true := by simp; omega
     have t2n : decide (n ≤ 65536) = true := by simp; omega
     have hrt : r = true := by
      rw [← HR.out]
      exact Fl.sizeB_iff.2 ((Fl.isW_and h64 hbig).1 (by rw [← HA.out, hA0]))
     subst hrt
     clear hA0
     go_enter Try.func111, Try.ntmps111
     go_wp2_with fail
     go_ret
     exact ⟨rfl, rfl⟩
    ·have t2 : decide ((n : Int) ≤ 65536) = false := by simp; omega
     have t2n : decide (n ≤ 65536) = false := by simp; omega
     have hrf : r = false := by rw [← HR.out]; exact Fl.sizeB_big (by omega)
     subst hrf
     clear hA0
     go_enter Try.func111, Try.ntmps111
     go_wp2_with fail
     go_ret
     exact ⟨rfl, rfl⟩
   ·have t1 : decide ((64 : Int) ≤ (n : Int)) = false := by simp; omega
    have t1n : decide (64 ≤ n) = false := by simp; omega
    have hrf : r = false := by rw [← HR.out]; exact Fl.sizeB_small (by omega)
    subst hrf
    clear hA0
    go_enter Try.func111, Try.ntmps111
    go_wp2_with fail
    go_ret
    exact ⟨rfl, rfl⟩
set_option maxRecDepth 100000 in
set_option maxHeartbeats 2000000 in
theorem bright_is (k : Int) (a : Option Addr) (n cap : Nat) (w : World) (hn : n ≤ 281474976710656) (hk1 : -9223372036854775808 ≤ k) (hk2 : k ≤ 9223372036854775807) (r : Bool) (hr : Fl.rightB k n = r) :
  Calls Try.prog 109 #[fv k (.slice a n cap)] w fun e w' => e = .returned (.bool r) ∧ Ex w w' := by
 have HF : Hid (FAt (w.alloc (fb k (.slice a n cap) 32)) w.heap.size k (.slice a n cap) 32) := FAt.new w k _ 32
 obtain ⟨c0, c1⟩ := HF.out.all
 by_cases hneg : k < 0
 ·obtain ⟨u, hu⟩ : ∃ u : Nat, (u : Int) = k + 18446744073709551616 := ⟨(k + 18446744073709551616).toNat, by omega⟩
  have HU : Hid (IntKind.u64.wrap k = (u : Int)) := (by rw [I.w64]; omega : IntKind.u64.wrap k = (u : Int))
  have hrf : r = false := by rw [← hr]; exact Fl.right_neg hneg
  subst hrf
  have hsz : Fl.sizeB u = false := Fl.sizeB_big (by omega)
  have HS : Hid (Fl.sizeB u = false) := hsz
  have hu64 : u < 18446744073709551616 := by omega
  clear hsz hr hu
  unfold fv
  go_enter Try.func109, Try.ntmps109
  go_wp2_with fail
  rw [HU.out]
  refine (brsize_is u _ hu64 false HS.out).mono ?_
  rintro e w1 ⟨rfl, hw⟩
  have hw' := hw.symm; clear hw; subst hw'
  go_wp2_with fail
  go_ret
  exact ⟨rfl, (Below.refl _ _).alloc (Nat.le_refl _) _⟩
 ·obtain ⟨m, rfl⟩ : ∃ m : Nat, k = (m : Int) := ⟨k.toNat, by omega⟩
  rw [Fl.right_form] at hr
  obtain ⟨z, hz⟩ : ∃ z, Fl.sizeB m = z := ⟨_, rfl⟩
  rw [hz] at hr
  have HZ : Hid (Fl.sizeB m = z) := hz
  clear hz
  obtain ⟨m8, hm8⟩ : ∃ m8, m8 = m / 8 := ⟨_, rfl⟩
  have hm8i : (m : Int) / 8 = (m8 : Int) := by omega
  rw [← hm8] at hr
  have hm8l : m8 ≤ 9223372036854775807 := by omega
  have HR : Hid ((z && decide (n = m8)) = r) := hr
  clear hr hm8
  cases z with
  | false =>
   have hrf : r = false := by rw [← HR.out]; rfl
   subst hrf
   unfold fv
   go_enter Try.func109, Try.ntmps109
   go_wp2_with fail
   refine (brsize_is m _ (by omega) false HZ.out).mono ?_
   rintro e w1 ⟨rfl, hw⟩
   have hw' := hw.symm; clear hw; subst hw'
   go_wp2_with fail
   go_ret
   exact ⟨rfl, (Below.refl _ _).alloc (Nat.le_refl _) _⟩
  | true =>
   have hrn : ((n : Int) == (m8 : Int)) = r := by rw [← HR.out, Bool.eq_iff_iff]; simp; omega
   have hrn2 : (n == m8) = r := by rw [← HR.out, Bool.eq_iff_iff]; simp
   unfold fv
   go_enter Try.func109, Try.ntmps109
   go_wp2_with fail
   refine (brsize_is m _ (by omega) true HZ.out).mono ?_
   rintro e w1 ⟨rfl, hw⟩
   have hw' := hw.symm; clear hw; subst hw'
   go_wp2_with fail
   go_ret
   exact ⟨rfl, (Below.refl _ _).alloc (Nat.le_refl _) _⟩
end Go.Proofs.Ytibnhjfeepdddaa
namespace Go.Proofs.Ytibnhjfeepdddaa
open Go.RowKit
set_option linter.unusedVariables false
set_option linter.unusedSimpArgs false
def qu (s : List UInt8) (n : Nat) : Value := .agg #[.int .u64 (Fl.pos s n 0 : Int), .int .u64 (Fl.pos s n 1 : Int), .int .u64 (Fl.pos s n 2 : Int), .int .u64 (Fl.pos s n 3 : Int)]
abbrev FourU (w : World) (g : Nat) (L : List Nat) : Prop := RowAt n64 70 w g L
theorem FourU.cells {w : World} {g : Nat} {a b c d : Nat} (h : FourU w g [a, b, c, d]) : w.cell? ⟨g, 0, none⟩ = some (.int .u64 a) ∧ w.cell? ⟨g, 1, none⟩ = some (.int .u64 b) ∧ w.cell? ⟨g, 2, none⟩ = some (.int .u64 c) ∧ w.cell? ⟨g, 3, none⟩ = some (.int .u64 d) :=
 ⟨RowAt.cell (k := 0) h (by simp), RowAt.cell (k := 1) h (by simp), RowAt.cell (k := 2) h (by simp), RowAt.cell (k := 3) h (by simp)⟩
theorem FourU.fro {w : World} {g : Nat} {L : List Nat} (h : FourU w g L) : w.frozen? ⟨g, 0, none⟩ = false ∧ w.frozen? ⟨g, 1, none⟩ = false ∧ w.frozen? ⟨g, 2, none⟩ = false ∧ w.frozen? ⟨g, 3, none⟩ = false :=
 ⟨RowAt.frozen 0 h, RowAt.frozen 1 h, RowAt.frozen 2 h, RowAt.frozen 3 h⟩
set_option maxHeartbeats 1000000 in
theorem load_fourU {w9 : World} {g : Nat} {a b c d : Nat} (h : FourU w9 g [a, b, c, d]) : (loadVar 70 ⟨g, 0, none⟩).run Try.prog w9 = .ok (.agg #[.int .u64 a, .int .u64 b, .int .u64 c, .int .u64 d]) w9 := by
 obtain ⟨c0, c1, c2, c3⟩ := FourU.cells h
 clear h
 simp [go_sem, c0, c1, c2, c3]
theorem res_fourU {fn : Func} {tmps : Array Value} {w9 : World} {g i : Nat} {a b c d : Nat} (hfn : fn.results = #[ResultVar.cell i 70]) (ht : tmps.getD i undef = .pointer (some ⟨g, 0, none⟩)) (h : FourU w9 g [a, b, c, d]) : (results fn tmps).run Try.prog w9 = .ok (.agg #[.int .u64 a, .int .u64 b, .int .u64 c, .int .u64 d]) w9 := by
 have hl := load_fourU h
 have ht' : tmps[i]?.getD undef = .pointer (some ⟨g, 0, none⟩) := by simpa using ht
 simp [results, hfn, ht', asAddr, Sem.run_bind, Result.andThen, hl]
set_option maxRecDepth 100000 in
set_option maxHeartbeats 2000000 in
theorem places_is (s : List UInt8) (n : Nat) (w : World) (hs : s.length ≤ 9223372036854775807) (hn1 : 1 ≤ n) (hn2 : n ≤ 65536) :
  Calls Try.prog 26 #[.string (str s), .int .i64 n] w fun e w' => e = .returned (qu s n) ∧ Ex w w' := by
 have hf := S.fnv_lt s
 obtain ⟨h, hh⟩ : ∃ h, S.fnv s = h := ⟨_, rfl⟩
 rw [hh] at hf
 have HH : Hid (S.fnv s = h) := hh
 have a1 := I.and32 (h : Int) (by omega) (by omega)
 obtain ⟨A, hA⟩ : ∃ A, A = h % 4294967296 := ⟨_, rfl⟩
 have hAi : (h : Int) % 4294967296 = (A : Int) := by omega
 rw [hAi] at a1
 obtain ⟨q, hq⟩ : ∃ q, q = h / 4294967296 := ⟨_, rfl⟩
 have hqi : (h : Int) / 4294967296 = (q : Int) := by omega
 obtain ⟨B, hB⟩ : ∃ B, B = Fl.odd h := ⟨_, rfl⟩
 have hBl : B < 4294967296 := by rw [hB]; exact Fl.odd_lt hf
 have o1 : bits .or .u64 (q : Int) 1 = (B : Int) := by rw [I.or1 q (by omega), hB, hq]; rfl
 have hAl : A < 4294967296 := by omega
 obtain ⟨p0, hp0⟩ : ∃ p, Fl.pos s n 0 = p := ⟨_, rfl⟩
 have P0 : (A : Int) % (n : Int) = (p0 : Int) := by rw [← hp0, ← pos_form s n 0 A B (by rw [hA, hh]) (by rw [hB, hh])]; simp
 obtain ⟨p1, hp1⟩ : ∃ p, Fl.pos s n 1 = p := ⟨_, rfl⟩
 have P1 : ((A : Int) + (B : Int)) % (n : Int) = (p1 : Int) := by rw [← hp1, ← pos_form s n 1 A B (by rw [hA, hh]) (by rw [hB, hh])]; simp
 obtain ⟨p2, hp2⟩ : ∃ p, Fl.pos s n 2 = p := ⟨_, rfl⟩
 have P2 : ((A : Int) + 2 * (B : Int)) % (n : Int) = (p2 : Int) := by rw [← hp2, ← pos_form s n 2 A B (by rw [hA, hh]) (by rw [hB, hh])]; simp
 obtain ⟨p3, hp3⟩ : ∃ p, Fl.pos s n 3 = p := ⟨_, rfl⟩
 have P3 : ((A : Int) + 3 * (B : Int)) % (n : Int) = (p3 : Int) := by rw [← hp3, ← pos_form s n 3 A B (by rw [hA, hh]) (by rw [hB, hh])]; simp
 have hz : ((n : Int) == 0) = false := by simp; omega
 have l0 : p0 < n := by rw [← hp0]; exact Fl.pos_lt s (n := n) (by omega) 0
 have l1 : p1 < n := by rw [← hp1]; exact Fl.pos_lt s (n := n) (by omega) 1
 have l2 : p2 < n := by rw [← hp2]; exact Fl.pos_lt s (n := n) (by omega) 2
 have l3 : p3 < n := by rw [← hp3]; exact Fl.pos_lt s (n := n) (by omega) 3
 clear hA hB hq hh
 unfold qu
 rw [hp0, hp1, hp2, hp3]
 clear hp0 hp1 hp2 hp3
 go_enter Try.func26, Try.ntmps26
 go_wp2_with fail
 refine (fnv_any s _ hs).mono ?_
 rintro e wq ⟨rfl, hw⟩
 have hw' := hw.symm; clear hw; subst hw'
 rw [HH.out]
 go_wp2_with fail
 go_loopw [17] (fun i wr => Hid (FourU wr w.heap.size [0, 0, 0, 0]) ∧ Hid (Below w.heap.size w wr) ∧ ((i = .int .i64 0 ∧ Hid (FourU wr (w.heap.size + 1) [0, 0, 0, 0])) ∨ (i = .int .i64 1 ∧ Hid (FourU wr (w.heap.size + 1) [p0, 0, 0, 0])) ∨ (i = .int .i64 2 ∧ Hid (FourU wr (w.heap.size + 1) [p0, p1, 0, 0])) ∨ (i = .int .i64 3 ∧ Hid (FourU wr (w.heap.size + 1) [p0, p1, p2, 0])) ∨ (i = .int .i64 4 ∧ Hid (FourU wr (w.heap.size + 1) [p0, p1, p2, p3])))) (fun i _ => 4 - (intOf i).toNat)
 case atStart => exact ⟨RowAt.below (heap_alloc_new w _ : FourU _ _ [0, 0, 0, 0]) ((Below.refl _ _).alloc (Nat.le_refl _) _), ((Below.refl _ _).alloc (Nat.le_refl _) _).alloc (by simp) _, .inl ⟨rfl, (by have h := heap_alloc_new (w.alloc (Obj.cells #[Value.int IntKind.u64 0, Value.int IntKind.u64 0, Value.int IntKind.u64 0, Value.int IntKind.u64 0] 70)) (Obj.cells #[Value.int IntKind.u64 0, Value.int IntKind.u64 0, Value.int IntKind.u64 0, Value.int IntKind.u64 0] 70); rw [show (w.alloc (Obj.cells #[Value.int IntKind.u64 0, Value.int IntKind.u64 0, Value.int IntKind.u64 0, Value.int IntKind.u64 0] 70)).heap.size = w.heap.size + 1 from by simp] at h; exact h : FourU _ (w.heap.size + 1) [0, 0, 0, 0])⟩⟩
 case round =>
  obtain ⟨H4, HBl, hrel⟩ := hrel
  rcases hrel with ⟨rfl, H8⟩ | ⟨rfl, H8⟩ | ⟨rfl, H8⟩ | ⟨rfl, H8⟩ | ⟨rfl, H8⟩
  ·obtain ⟨c0, c1, c2, c3⟩ := FourU.cells H8.out
   obtain ⟨f0, f1, f2, f3⟩ := FourU.fro H8.out
   go_wp2_with fail
   go_roundw
   case rel => exact ⟨RowAt.other H4.out (by omega), Below.setCell HBl.out (p := ⟨w.heap.size + 1, 0, none⟩) (by simp) _, .inr (.inl ⟨rfl, RowAt.set (k := 0) H8.out p0 rfl⟩)⟩
   case measure => simp [intOf]
  ·obtain ⟨c0, c1, c2, c3⟩ := FourU.cells H8.out
   obtain ⟨f0, f1, f2, f3⟩ := FourU.fro H8.out
   go_wp2_with fail
   go_roundw
   case rel => exact ⟨RowAt.other H4.out (by omega), Below.setCell HBl.out (p := ⟨w.heap.size + 1, 1, none⟩) (by simp) _, .inr (.inr (.inl ⟨rfl, RowAt.set (k := 1) H8.out p1 rfl⟩))⟩
   case measure => simp [intOf]
  ·obtain ⟨c0, c1, c2, c3⟩ := FourU.cells H8.out
   obtain ⟨f0, f1, f2, f3⟩ := FourU.fro H8.out
   go_wp2_with fail
   go_roundw
   case rel => exact ⟨RowAt.other H4.out (by omega), Below.setCell HBl.out (p := ⟨w.heap.size + 1, 2, none⟩) (by simp) _, .inr (.inr (.inr (.inl ⟨rfl, RowAt.set (k := 2) H8.out p2 rfl⟩)))⟩
   case measure => simp [intOf]
  ·obtain ⟨c0, c1, c2, c3⟩ := FourU.cells H8.out
   obtain ⟨f0, f1, f2, f3⟩ := FourU.fro H8.out
   go_wp2_with fail
   go_roundw
   case rel => exact ⟨RowAt.other H4.out (by omega), Below.setCell HBl.out (p := ⟨w.heap.size + 1, 3, none⟩) (by simp) _, .inr (.inr (.inr (.inr (⟨rfl, RowAt.set (k := 3) H8.out p3 rfl⟩))))⟩
   case measure => simp [intOf]
  ·obtain ⟨c0, c1, c2, c3⟩ := FourU.cells H8.out
   obtain ⟨d0, d1, d2, d3⟩ := FourU.cells H4.out
   obtain ⟨f0, f1, f2, f3⟩ := FourU.fro H4.out
   go_wp2_with fail
   refine bodyPost_ret (res_fourU (g := w.heap.size) (a := p0) (b := p1) (c := p2) (d := p3) rfl rfl ?_) rfl ⟨rfl, ?_⟩
   ·exact RowAt.set (k := 3) (RowAt.set (k := 2) (RowAt.set (k := 1) (RowAt.set (k := 0) H4.out p0 rfl) p1 rfl) p2 rfl) p3 rfl
   ·exact Below.setCell (Below.setCell (Below.setCell (Below.setCell HBl.out (p := ⟨w.heap.size, 0, none⟩) (by simp) _) (p := ⟨w.heap.size, 1, none⟩) (by simp) _) (p := ⟨w.heap.size, 2, none⟩) (by simp) _) (p := ⟨w.heap.size, 3, none⟩) (by simp) _
end Go.Proofs.Ytibnhjfeepdddaa
