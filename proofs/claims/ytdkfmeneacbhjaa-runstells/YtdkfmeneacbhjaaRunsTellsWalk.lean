/-
  The walk of the law RunsTells: whatever numbers and bytes it is given, it returns true.
-/
import Derived.Test.YtdkfmeneacbhjaaKnown
namespace Go.Proofs.Ytdkfmeneacbhjaa.runsTells
open Go.RowKit
set_option linter.unusedVariables false

set_option maxRecDepth 100000 in
set_option maxHeartbeats 1000000 in
theorem walk_ll (p0 : Option Addr) (c0 : Nat) (l0 : List Nat) (p1 : Option Addr) (c1 : Nat) (l1 : List UInt8) (a2 a3 a4 : Int) (w : World) (b0 : Rd n64 w p0 c0 l0) (m0 : ∀ x ∈ l0, x < 18446744073709551616) (b1 : Byt w p1 c1 l1) (w1 : l1.length ≤ 140737488351232) (h1 : 60 < l0.length) (h3 : 3000 < a3) :
    Calls Try.prog 4 #[.slice p0 l0.length c0, .slice p1 l1.length c1, .int .i64 a2, .int .i64 a3, .int .i64 a4] w fun e w' => e = .returned (.bool true) ∧ Below w.heap.size w w' := by
  obtain ⟨L, hL⟩ : ∃ L, l0.take 60 = L := ⟨_, rfl⟩
  have hcl0 := b0.1
  have hcm0 := b0.2.1
  unfold maxLen at hcm0
  have hLl : L.length ≤ 60 := by rw [← hL]; simp; omega
  have hLB : Rd n64 w p0 c0 L := by rw [← hL]; exact b0.take 60
  have hL64 : ∀ x ∈ L, x < 18446744073709551616 := by rw [← hL]; exact fun x hx => m0 x (List.mem_of_mem_take hx)
  have hLn : 60 = L.length := by rw [← hL]; simp; omega
  obtain ⟨⟨P, e1⟩, hp⟩ : ∃ r, R.encE L a4 = r := ⟨_, rfl⟩
  obtain ⟨⟨Z, k1, e2⟩, hq⟩ : ∃ r, R.dec l1 a2 1048577 a4 = r := ⟨_, rfl⟩
  have HB1 : Hid (Byt w p1 c1 l1) := b1
  have HLB : Hid (Rd n64 w p0 c0 L) := hLB
  have HL64 : Hid (∀ x ∈ L, x < 18446744073709551616) := hL64
  have HLn : Hid (60 = L.length) := hLn
  have HP : Hid (R.encE L a4 = (P, e1)) := hp
  have HQ : Hid (R.dec l1 a2 1048577 a4 = (Z, k1, e2)) := hq
  clear b0 b1 hLB hL hL64 m0 hp hq hLn
  have t0 : decide (60 < (l0.length : Int)) = true := by simp; omega
  have t1 : decide (3000 < a3) = true := by simp; omega
  have tc : (60 : Int) ≤ (c0 : Int) ∨ True := .inr trivial
  clear tc
  have hc60 : (60 : Int) ≤ (c0 : Int) := by omega
  go_enter Try.func4, Try.ntmps4
  go_wp2_with fail
  refine (enc_is p0 _ c0 L _ _ HLn.out HLB.out HL64.out (by omega) P e1 HP.out).mono ?_
  rintro e w4 ⟨v4, rfl, hv4, hx4⟩
  go_wp2_with fail
  refine (renc_is p0 _ c0 L _ _ HLn.out (HLB.out.below hx4) HL64.out (by omega) P e1 HP.out).mono ?_
  rintro e w5 ⟨v5, rfl, hv5, hx5⟩
  have X5 := hx4.trans hx5
  go_wp2_with fail
  refine (dec_is p1 _ c1 l1 _ _ _ _ rfl (HB1.out.below X5) (by omega) Z k1 e2 HQ.out).mono ?_
  rintro e w6 ⟨v6, rfl, hv6, hx6⟩
  go_wp2_with fail
  refine (rdec_is p1 _ c1 l1 _ _ _ _ rfl ((HB1.out.below X5).below hx6) (by omega) Z k1 e2 HQ.out).mono ?_
  rintro e w7 ⟨v7, rfl, hv7, hx7⟩
  have X7 : Ex w w7 := (X5.trans hx6).trans hx7
  have hc4 := conv_row (IsByt.stands _ _ _ _ hv4 ((hx5.trans hx6).trans hx7))
  have hc5 := conv_row (IsByt.stands _ _ _ _ hv5 (hx6.trans hx7))
  obtain ⟨a6, c6, rfl, hB6⟩ := IsRd.stands _ _ _ _ hv6 hx7
  obtain ⟨a7, c7, rfl, hB7⟩ := hv7
  have H6 : Hid (Rd n64 w7 a6 c6 Z) := hB6
  have H7 : Hid (Rd n64 w7 a7 c7 Z) := hB7
  have HX7 : Hid (Ex w w7) := X7
  clear hv4 hv5 hv6 hx4 hx5 hx6 hx7 X5 X7 hB6 hB7
  go_wp2_with fail
  refine (same64_any a6 a7 c6 c7 _ _ Z Z _ rfl rfl H6.out H7.out true (by simp)).mono ?_
  rintro e w9 ⟨rfl, hx9⟩
  clear hc4 hc5
  go_wp2_with fail
  refine (known_any _).mono ?_
  rintro e w10 ⟨rfl, hx10⟩
  go_wp2
  go_ret
  exact ⟨rfl, (HX7.out.trans hx9).trans hx10⟩

set_option maxRecDepth 100000 in
set_option maxHeartbeats 1000000 in
theorem walk_lf (p0 : Option Addr) (c0 : Nat) (l0 : List Nat) (p1 : Option Addr) (c1 : Nat) (l1 : List UInt8) (a2 a3 a4 : Int) (w : World) (b0 : Rd n64 w p0 c0 l0) (m0 : ∀ x ∈ l0, x < 18446744073709551616) (b1 : Byt w p1 c1 l1) (w1 : l1.length ≤ 140737488351232) (h1 : 60 < l0.length) (h3 : a3 ≤ 3000) :
    Calls Try.prog 4 #[.slice p0 l0.length c0, .slice p1 l1.length c1, .int .i64 a2, .int .i64 a3, .int .i64 a4] w fun e w' => e = .returned (.bool true) ∧ Below w.heap.size w w' := by
  obtain ⟨L, hL⟩ : ∃ L, l0.take 60 = L := ⟨_, rfl⟩
  have hcl0 := b0.1
  have hcm0 := b0.2.1
  unfold maxLen at hcm0
  have hLl : L.length ≤ 60 := by rw [← hL]; simp; omega
  have hLB : Rd n64 w p0 c0 L := by rw [← hL]; exact b0.take 60
  have hL64 : ∀ x ∈ L, x < 18446744073709551616 := by rw [← hL]; exact fun x hx => m0 x (List.mem_of_mem_take hx)
  have hLn : 60 = L.length := by rw [← hL]; simp; omega
  obtain ⟨⟨P, e1⟩, hp⟩ : ∃ r, R.encE L a4 = r := ⟨_, rfl⟩
  obtain ⟨⟨Z, k1, e2⟩, hq⟩ : ∃ r, R.dec l1 a2 a3 a4 = r := ⟨_, rfl⟩
  have HB1 : Hid (Byt w p1 c1 l1) := b1
  have HLB : Hid (Rd n64 w p0 c0 L) := hLB
  have HL64 : Hid (∀ x ∈ L, x < 18446744073709551616) := hL64
  have HLn : Hid (60 = L.length) := hLn
  have HP : Hid (R.encE L a4 = (P, e1)) := hp
  have HQ : Hid (R.dec l1 a2 a3 a4 = (Z, k1, e2)) := hq
  clear b0 b1 hLB hL hL64 m0 hp hq hLn
  have t0 : decide (60 < (l0.length : Int)) = true := by simp; omega
  have t1 : decide (3000 < a3) = false := by simp; omega
  have tc : (60 : Int) ≤ (c0 : Int) ∨ True := .inr trivial
  clear tc
  have hc60 : (60 : Int) ≤ (c0 : Int) := by omega
  go_enter Try.func4, Try.ntmps4
  go_wp2_with fail
  refine (enc_is p0 _ c0 L _ _ HLn.out HLB.out HL64.out (by omega) P e1 HP.out).mono ?_
  rintro e w4 ⟨v4, rfl, hv4, hx4⟩
  go_wp2_with fail
  refine (renc_is p0 _ c0 L _ _ HLn.out (HLB.out.below hx4) HL64.out (by omega) P e1 HP.out).mono ?_
  rintro e w5 ⟨v5, rfl, hv5, hx5⟩
  have X5 := hx4.trans hx5
  go_wp2_with fail
  refine (dec_is p1 _ c1 l1 _ _ _ _ rfl (HB1.out.below X5) (by omega) Z k1 e2 HQ.out).mono ?_
  rintro e w6 ⟨v6, rfl, hv6, hx6⟩
  go_wp2_with fail
  refine (rdec_is p1 _ c1 l1 _ _ _ _ rfl ((HB1.out.below X5).below hx6) (by omega) Z k1 e2 HQ.out).mono ?_
  rintro e w7 ⟨v7, rfl, hv7, hx7⟩
  have X7 : Ex w w7 := (X5.trans hx6).trans hx7
  have hc4 := conv_row (IsByt.stands _ _ _ _ hv4 ((hx5.trans hx6).trans hx7))
  have hc5 := conv_row (IsByt.stands _ _ _ _ hv5 (hx6.trans hx7))
  obtain ⟨a6, c6, rfl, hB6⟩ := IsRd.stands _ _ _ _ hv6 hx7
  obtain ⟨a7, c7, rfl, hB7⟩ := hv7
  have H6 : Hid (Rd n64 w7 a6 c6 Z) := hB6
  have H7 : Hid (Rd n64 w7 a7 c7 Z) := hB7
  have HX7 : Hid (Ex w w7) := X7
  clear hv4 hv5 hv6 hx4 hx5 hx6 hx7 X5 X7 hB6 hB7
  go_wp2_with fail
  refine (same64_any a6 a7 c6 c7 _ _ Z Z _ rfl rfl H6.out H7.out true (by simp)).mono ?_
  rintro e w9 ⟨rfl, hx9⟩
  clear hc4 hc5
  go_wp2_with fail
  refine (known_any _).mono ?_
  rintro e w10 ⟨rfl, hx10⟩
  go_wp2
  go_ret
  exact ⟨rfl, (HX7.out.trans hx9).trans hx10⟩

set_option maxRecDepth 100000 in
set_option maxHeartbeats 1000000 in
theorem walk_fl (p0 : Option Addr) (c0 : Nat) (l0 : List Nat) (p1 : Option Addr) (c1 : Nat) (l1 : List UInt8) (a2 a3 a4 : Int) (w : World) (b0 : Rd n64 w p0 c0 l0) (m0 : ∀ x ∈ l0, x < 18446744073709551616) (b1 : Byt w p1 c1 l1) (w1 : l1.length ≤ 140737488351232) (h1 : l0.length ≤ 60) (h3 : 3000 < a3) :
    Calls Try.prog 4 #[.slice p0 l0.length c0, .slice p1 l1.length c1, .int .i64 a2, .int .i64 a3, .int .i64 a4] w fun e w' => e = .returned (.bool true) ∧ Below w.heap.size w w' := by
  obtain ⟨L, hL⟩ : ∃ L, l0.take 60 = L := ⟨_, rfl⟩
  have hcl0 := b0.1
  have hcm0 := b0.2.1
  unfold maxLen at hcm0
  have hLl : L.length ≤ 60 := by rw [← hL]; simp; omega
  have hLB : Rd n64 w p0 c0 L := by rw [← hL]; exact b0.take 60
  have hL64 : ∀ x ∈ L, x < 18446744073709551616 := by rw [← hL]; exact fun x hx => m0 x (List.mem_of_mem_take hx)
  have hLn : l0.length = L.length := by rw [← hL]; simp; omega
  obtain ⟨⟨P, e1⟩, hp⟩ : ∃ r, R.encE L a4 = r := ⟨_, rfl⟩
  obtain ⟨⟨Z, k1, e2⟩, hq⟩ : ∃ r, R.dec l1 a2 1048577 a4 = r := ⟨_, rfl⟩
  have HB1 : Hid (Byt w p1 c1 l1) := b1
  have HLB : Hid (Rd n64 w p0 c0 L) := hLB
  have HL64 : Hid (∀ x ∈ L, x < 18446744073709551616) := hL64
  have HLn : Hid (l0.length = L.length) := hLn
  have HP : Hid (R.encE L a4 = (P, e1)) := hp
  have HQ : Hid (R.dec l1 a2 1048577 a4 = (Z, k1, e2)) := hq
  clear b0 b1 hLB hL hL64 m0 hp hq hLn
  have t0 : decide (60 < (l0.length : Int)) = false := by simp; omega
  have t1 : decide (3000 < a3) = true := by simp; omega
  have tc : (60 : Int) ≤ (c0 : Int) ∨ True := .inr trivial
  clear tc
  skip
  go_enter Try.func4, Try.ntmps4
  go_wp2_with fail
  refine (enc_is p0 _ c0 L _ _ HLn.out HLB.out HL64.out (by omega) P e1 HP.out).mono ?_
  rintro e w4 ⟨v4, rfl, hv4, hx4⟩
  go_wp2_with fail
  refine (renc_is p0 _ c0 L _ _ HLn.out (HLB.out.below hx4) HL64.out (by omega) P e1 HP.out).mono ?_
  rintro e w5 ⟨v5, rfl, hv5, hx5⟩
  have X5 := hx4.trans hx5
  go_wp2_with fail
  refine (dec_is p1 _ c1 l1 _ _ _ _ rfl (HB1.out.below X5) (by omega) Z k1 e2 HQ.out).mono ?_
  rintro e w6 ⟨v6, rfl, hv6, hx6⟩
  go_wp2_with fail
  refine (rdec_is p1 _ c1 l1 _ _ _ _ rfl ((HB1.out.below X5).below hx6) (by omega) Z k1 e2 HQ.out).mono ?_
  rintro e w7 ⟨v7, rfl, hv7, hx7⟩
  have X7 : Ex w w7 := (X5.trans hx6).trans hx7
  have hc4 := conv_row (IsByt.stands _ _ _ _ hv4 ((hx5.trans hx6).trans hx7))
  have hc5 := conv_row (IsByt.stands _ _ _ _ hv5 (hx6.trans hx7))
  obtain ⟨a6, c6, rfl, hB6⟩ := IsRd.stands _ _ _ _ hv6 hx7
  obtain ⟨a7, c7, rfl, hB7⟩ := hv7
  have H6 : Hid (Rd n64 w7 a6 c6 Z) := hB6
  have H7 : Hid (Rd n64 w7 a7 c7 Z) := hB7
  have HX7 : Hid (Ex w w7) := X7
  clear hv4 hv5 hv6 hx4 hx5 hx6 hx7 X5 X7 hB6 hB7
  go_wp2_with fail
  refine (same64_any a6 a7 c6 c7 _ _ Z Z _ rfl rfl H6.out H7.out true (by simp)).mono ?_
  rintro e w9 ⟨rfl, hx9⟩
  clear hc4 hc5
  go_wp2_with fail
  refine (known_any _).mono ?_
  rintro e w10 ⟨rfl, hx10⟩
  go_wp2
  go_ret
  exact ⟨rfl, (HX7.out.trans hx9).trans hx10⟩

set_option maxRecDepth 100000 in
set_option maxHeartbeats 1000000 in
theorem walk_ff (p0 : Option Addr) (c0 : Nat) (l0 : List Nat) (p1 : Option Addr) (c1 : Nat) (l1 : List UInt8) (a2 a3 a4 : Int) (w : World) (b0 : Rd n64 w p0 c0 l0) (m0 : ∀ x ∈ l0, x < 18446744073709551616) (b1 : Byt w p1 c1 l1) (w1 : l1.length ≤ 140737488351232) (h1 : l0.length ≤ 60) (h3 : a3 ≤ 3000) :
    Calls Try.prog 4 #[.slice p0 l0.length c0, .slice p1 l1.length c1, .int .i64 a2, .int .i64 a3, .int .i64 a4] w fun e w' => e = .returned (.bool true) ∧ Below w.heap.size w w' := by
  obtain ⟨L, hL⟩ : ∃ L, l0.take 60 = L := ⟨_, rfl⟩
  have hcl0 := b0.1
  have hcm0 := b0.2.1
  unfold maxLen at hcm0
  have hLl : L.length ≤ 60 := by rw [← hL]; simp; omega
  have hLB : Rd n64 w p0 c0 L := by rw [← hL]; exact b0.take 60
  have hL64 : ∀ x ∈ L, x < 18446744073709551616 := by rw [← hL]; exact fun x hx => m0 x (List.mem_of_mem_take hx)
  have hLn : l0.length = L.length := by rw [← hL]; simp; omega
  obtain ⟨⟨P, e1⟩, hp⟩ : ∃ r, R.encE L a4 = r := ⟨_, rfl⟩
  obtain ⟨⟨Z, k1, e2⟩, hq⟩ : ∃ r, R.dec l1 a2 a3 a4 = r := ⟨_, rfl⟩
  have HB1 : Hid (Byt w p1 c1 l1) := b1
  have HLB : Hid (Rd n64 w p0 c0 L) := hLB
  have HL64 : Hid (∀ x ∈ L, x < 18446744073709551616) := hL64
  have HLn : Hid (l0.length = L.length) := hLn
  have HP : Hid (R.encE L a4 = (P, e1)) := hp
  have HQ : Hid (R.dec l1 a2 a3 a4 = (Z, k1, e2)) := hq
  clear b0 b1 hLB hL hL64 m0 hp hq hLn
  have t0 : decide (60 < (l0.length : Int)) = false := by simp; omega
  have t1 : decide (3000 < a3) = false := by simp; omega
  have tc : (60 : Int) ≤ (c0 : Int) ∨ True := .inr trivial
  clear tc
  skip
  go_enter Try.func4, Try.ntmps4
  go_wp2_with fail
  refine (enc_is p0 _ c0 L _ _ HLn.out HLB.out HL64.out (by omega) P e1 HP.out).mono ?_
  rintro e w4 ⟨v4, rfl, hv4, hx4⟩
  go_wp2_with fail
  refine (renc_is p0 _ c0 L _ _ HLn.out (HLB.out.below hx4) HL64.out (by omega) P e1 HP.out).mono ?_
  rintro e w5 ⟨v5, rfl, hv5, hx5⟩
  have X5 := hx4.trans hx5
  go_wp2_with fail
  refine (dec_is p1 _ c1 l1 _ _ _ _ rfl (HB1.out.below X5) (by omega) Z k1 e2 HQ.out).mono ?_
  rintro e w6 ⟨v6, rfl, hv6, hx6⟩
  go_wp2_with fail
  refine (rdec_is p1 _ c1 l1 _ _ _ _ rfl ((HB1.out.below X5).below hx6) (by omega) Z k1 e2 HQ.out).mono ?_
  rintro e w7 ⟨v7, rfl, hv7, hx7⟩
  have X7 : Ex w w7 := (X5.trans hx6).trans hx7
  have hc4 := conv_row (IsByt.stands _ _ _ _ hv4 ((hx5.trans hx6).trans hx7))
  have hc5 := conv_row (IsByt.stands _ _ _ _ hv5 (hx6.trans hx7))
  obtain ⟨a6, c6, rfl, hB6⟩ := IsRd.stands _ _ _ _ hv6 hx7
  obtain ⟨a7, c7, rfl, hB7⟩ := hv7
  have H6 : Hid (Rd n64 w7 a6 c6 Z) := hB6
  have H7 : Hid (Rd n64 w7 a7 c7 Z) := hB7
  have HX7 : Hid (Ex w w7) := X7
  clear hv4 hv5 hv6 hx4 hx5 hx6 hx7 X5 X7 hB6 hB7
  go_wp2_with fail
  refine (same64_any a6 a7 c6 c7 _ _ Z Z _ rfl rfl H6.out H7.out true (by simp)).mono ?_
  rintro e w9 ⟨rfl, hx9⟩
  clear hc4 hc5
  go_wp2_with fail
  refine (known_any _).mono ?_
  rintro e w10 ⟨rfl, hx10⟩
  go_wp2
  go_ret
  exact ⟨rfl, (HX7.out.trans hx9).trans hx10⟩

theorem walk (p0 : Option Addr) (c0 : Nat) (l0 : List Nat) (p1 : Option Addr) (c1 : Nat) (l1 : List UInt8) (a2 : Int) (a3 : Int) (a4 : Int) (w : World) (b0 : Rd n64 w p0 c0 l0) (m0 : ∀ x ∈ l0, x < 18446744073709551616) (w0 : l0.length ≤ 17592186043904) (b1 : Byt w p1 c1 l1) (w1 : l1.length ≤ 140737488351232) (w2 : -9223372036854775808 ≤ a2 ∧ a2 ≤ 9223372036854775807) (w3 : -9223372036854775808 ≤ a3 ∧ a3 ≤ 9223372036854775807) (w4 : -9223372036854775808 ≤ a4 ∧ a4 ≤ 9223372036854775807) :
    Calls Try.prog 4 #[.slice p0 l0.length c0, .slice p1 l1.length c1, .int .i64 a2, .int .i64 a3, .int .i64 a4] w fun e w' => e = .returned (.bool true) ∧ Below w.heap.size w w' := by
  by_cases h1 : 60 < l0.length
  · by_cases h3 : 3000 < a3
    · exact walk_ll p0 c0 l0 p1 c1 l1 a2 a3 a4 w b0 m0 b1 w1 h1 h3
    · exact walk_lf p0 c0 l0 p1 c1 l1 a2 a3 a4 w b0 m0 b1 w1 h1 (by omega)
  · by_cases h3 : 3000 < a3
    · exact walk_fl p0 c0 l0 p1 c1 l1 a2 a3 a4 w b0 m0 b1 w1 (by omega) h3
    · exact walk_ff p0 c0 l0 p1 c1 l1 a2 a3 a4 w b0 m0 b1 w1 (by omega) (by omega)
end Go.Proofs.Ytdkfmeneacbhjaa.runsTells
