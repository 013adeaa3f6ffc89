/-
  The walk of the law BitsTells: whatever numbers and bytes it is given, it returns true.
-/
import Derived.Test.YtljfbgnefmikpaaBitsWidthWalk
namespace Go.Proofs.Ytljfbgnefmikpaa.bitsTells
open Go.RowKit
open bitsWidth (few_is)
set_option linter.unusedVariables false

theorem rwidth_is (a : Option Addr) (n cap : Nat) (l : List Nat) (w : World) (hn : n = l.length) (hB : Rd n64 w a cap l) (h64 : ∀ x ∈ l, x < 18446744073709551616) (r : Nat) (hr : B.width l = r) :
    Calls Try.prog 17 #[.slice a n cap] w fun e w' => e = .returned (.int .i64 r) ∧ w' = w := by
  subst hn; subst hr; exact rwidth_any a cap l w hB h64

set_option maxRecDepth 100000 in
set_option maxHeartbeats 1000000 in
theorem walk_few (p0 : Option Addr) (c0 : Nat) (l0 : List Nat) (a1 : Int) (p2 : Option Addr) (c2 : Nat) (l2 : List UInt8) (a3 : Int) (w : World) (b0 : Rd n64 w p0 c0 l0) (m0 : ∀ x ∈ l0, x < 18446744073709551616) (w0 : l0.length ≤ 17592186043904) (w1 : -9223372036854775808 ≤ a1) (u1 : a1 ≤ 9223372036854775807) (b2 : Byt w p2 c2 l2) (w2 : l2.length ≤ 140737488351232) (w3 : -9223372036854775808 ≤ a3) (u3 : a3 ≤ 9223372036854775807) (h5 : a3 ≤ 5000) :
    Calls Try.prog 4 #[.slice p0 l0.length c0, .int .i64 a1, .slice p2 l2.length c2, .int .i64 a3] w fun e w' => e = .returned (.bool true) ∧ Below w.heap.size w w' := by
  obtain ⟨L, hL⟩ : ∃ L, l0.take 60 = L := ⟨_, rfl⟩
  have hLl : L.length ≤ 60 := by rw [← hL]; simp; omega
  have hLB : Rd n64 w p0 c0 L := by rw [← hL]; exact b0.take 60
  have hL64 : ∀ x ∈ L, x < 18446744073709551616 := by rw [← hL]; exact fun x hx => m0 x (List.mem_of_mem_take hx)
  obtain ⟨U, hU⟩ : ∃ U, B.width L = U := ⟨_, rfl⟩
  obtain ⟨⟨P, e1⟩, hp⟩ : ∃ r, B.pck L a1 = r := ⟨_, rfl⟩
  obtain ⟨⟨Q, e2⟩, hq⟩ : ∃ r, B.unp l2 a3 a1 = r := ⟨_, rfl⟩
  obtain ⟨Z, hz⟩ : ∃ r, B.siz a3 a1 = r := ⟨_, rfl⟩
  have H0 : Hid (Rd n64 w p0 c0 l0) := b0
  have HB : Hid (Byt w p2 c2 l2) := b2
  have HLB : Hid (Rd n64 w p0 c0 L) := hLB
  have HL : Hid (l0.take 60 = L) := hL
  have HL64 : Hid (∀ x ∈ L, x < 18446744073709551616) := hL64
  have HU : Hid (B.width L = U) := hU
  have HP : Hid (B.pck L a1 = (P, e1)) := hp
  have HQ : Hid (B.unp l2 a3 a1 = (Q, e2)) := hq
  have HZ : Hid (B.siz a3 a1 = Z) := hz
  clear b0 b2 hLB hL hL64 hU m0 hp hq hz
  have t0 : decide (5000 < a3) = false := by simp; omega
  go_enter Try.func4, Try.ntmps4
  go_wp2_with fail
  refine (few_is p0 c0 l0 L _ H0.out HL.out).mono ?_
  rintro e wq ⟨rfl, hw⟩
  have hw' := hw.symm; clear hw; subst hw'
  go_wp2_with fail
  refine (pack_is p0 _ c0 L _ _ rfl HLB.out HL64.out (by omega) w1 u1 _ _ HP.out).mono ?_
  rintro e w4 ⟨v4, rfl, hv4, hx4⟩
  go_wp2_with fail
  refine (rpack_any p0 _ c0 L _ _ rfl (HLB.out.below hx4) HL64.out (by omega) _ _ HP.out).mono ?_
  rintro e w5 ⟨v5, rfl, hv5, hx5⟩
  have X5 := hx4.trans hx5
  go_wp2_with fail
  refine (unpack_is p2 _ c2 l2 _ _ _ rfl (HB.out.below X5) w2 (by omega) (by omega) w1 u1 _ _ HQ.out).mono ?_
  rintro e w6 ⟨v6, rfl, hv6, hx6⟩
  go_wp2_with fail
  refine (runpack_any p2 _ c2 l2 _ _ _ rfl ((HB.out.below X5).below hx6) w2 (by omega) (by omega) w1 u1 _ _ HQ.out).mono ?_
  rintro e w7 ⟨v7, rfl, hv7, hx7⟩
  have X7 : Ex w w7 := (X5.trans hx6).trans hx7
  go_wp2_with fail
  refine (width_is p0 _ c0 L _ rfl (HLB.out.below X7) HL64.out (by omega) U HU.out).mono ?_
  rintro e w8 ⟨rfl, hx8⟩
  go_wp2_with fail
  refine (rwidth_is p0 _ c0 L _ rfl (HLB.out.below (X7.trans hx8)) HL64.out U HU.out).mono ?_
  rintro e wq ⟨rfl, hw⟩
  have hw' := hw.symm; clear hw; subst hw'
  have hc4 := conv_row (IsByt.stands _ _ _ _ hv4 (((hx5.trans hx6).trans hx7).trans hx8))
  have hc5 := conv_row (IsByt.stands _ _ _ _ hv5 ((hx6.trans hx7).trans hx8))
  obtain ⟨a6, c6, rfl, hB6⟩ := IsRd.stands _ _ _ _ hv6 (hx7.trans hx8)
  obtain ⟨a7, c7, rfl, hB7⟩ := IsRd.stands _ _ _ _ hv7 hx8
  have X8 : Ex w w8 := X7.trans hx8
  have H6 : Hid (Rd n64 w8 a6 c6 Q) := hB6
  have H7 : Hid (Rd n64 w8 a7 c7 Q) := hB7
  clear hv4 hv5 hv6 hv7 hx4 hx5 hx6 hx7 hx8 X5 X7 hB6 hB7
  go_wp2_with fail
  refine (same64_any a6 a7 c6 c7 _ _ Q Q _ rfl rfl H6.out H7.out true (by simp)).mono ?_
  rintro e w9 ⟨rfl, hx9⟩
  clear hc4 hc5
  go_wp2_with fail
  refine (size_is _ _ _ (by omega) (by omega) w1 u1 _ HZ.out).mono ?_
  rintro e w10 ⟨rfl, hx10⟩
  go_wp2_with fail
  refine (rsize_is _ _ Z _ (by omega) (by omega) w1 u1 HZ.out).mono ?_
  rintro e wq ⟨rfl, hw⟩
  have hw' := hw.symm; clear hw; subst hw'
  go_wp2_with fail
  refine (known_any _).mono ?_
  rintro e w11 ⟨rfl, hx11⟩
  go_wp2
  go_ret
  exact ⟨rfl, ((X8.trans hx9).trans hx10).trans hx11⟩

set_option maxRecDepth 100000 in
set_option maxHeartbeats 1000000 in
theorem walk_many (p0 : Option Addr) (c0 : Nat) (l0 : List Nat) (a1 : Int) (p2 : Option Addr) (c2 : Nat) (l2 : List UInt8) (a3 : Int) (w : World) (b0 : Rd n64 w p0 c0 l0) (m0 : ∀ x ∈ l0, x < 18446744073709551616) (w0 : l0.length ≤ 17592186043904) (w1 : -9223372036854775808 ≤ a1) (u1 : a1 ≤ 9223372036854775807) (b2 : Byt w p2 c2 l2) (w2 : l2.length ≤ 140737488351232) (w3 : -9223372036854775808 ≤ a3) (u3 : a3 ≤ 9223372036854775807) (h5 : 5000 < a3) :
    Calls Try.prog 4 #[.slice p0 l0.length c0, .int .i64 a1, .slice p2 l2.length c2, .int .i64 a3] w fun e w' => e = .returned (.bool true) ∧ Below w.heap.size w w' := by
  obtain ⟨L, hL⟩ : ∃ L, l0.take 60 = L := ⟨_, rfl⟩
  have hLl : L.length ≤ 60 := by rw [← hL]; simp; omega
  have hLB : Rd n64 w p0 c0 L := by rw [← hL]; exact b0.take 60
  have hL64 : ∀ x ∈ L, x < 18446744073709551616 := by rw [← hL]; exact fun x hx => m0 x (List.mem_of_mem_take hx)
  obtain ⟨U, hU⟩ : ∃ U, B.width L = U := ⟨_, rfl⟩
  obtain ⟨⟨P, e1⟩, hp⟩ : ∃ r, B.pck L a1 = r := ⟨_, rfl⟩
  obtain ⟨⟨Q, e2⟩, hq⟩ : ∃ r, B.unp l2 16777217 a1 = r := ⟨_, rfl⟩
  obtain ⟨Z, hz⟩ : ∃ r, B.siz 16777217 a1 = r := ⟨_, rfl⟩
  have H0 : Hid (Rd n64 w p0 c0 l0) := b0
  have HB : Hid (Byt w p2 c2 l2) := b2
  have HLB : Hid (Rd n64 w p0 c0 L) := hLB
  have HL : Hid (l0.take 60 = L) := hL
  have HL64 : Hid (∀ x ∈ L, x < 18446744073709551616) := hL64
  have HU : Hid (B.width L = U) := hU
  have HP : Hid (B.pck L a1 = (P, e1)) := hp
  have HQ : Hid (B.unp l2 16777217 a1 = (Q, e2)) := hq
  have HZ : Hid (B.siz 16777217 a1 = Z) := hz
  clear b0 b2 hLB hL hL64 hU m0 hp hq hz
  have t0 : decide (5000 < a3) = true := by simp; omega
  go_enter Try.func4, Try.ntmps4
  go_wp2_with fail
  refine (few_is p0 c0 l0 L _ H0.out HL.out).mono ?_
  rintro e wq ⟨rfl, hw⟩
  have hw' := hw.symm; clear hw; subst hw'
  go_wp2_with fail
  refine (pack_is p0 _ c0 L _ _ rfl HLB.out HL64.out (by omega) w1 u1 _ _ HP.out).mono ?_
  rintro e w4 ⟨v4, rfl, hv4, hx4⟩
  go_wp2_with fail
  refine (rpack_any p0 _ c0 L _ _ rfl (HLB.out.below hx4) HL64.out (by omega) _ _ HP.out).mono ?_
  rintro e w5 ⟨v5, rfl, hv5, hx5⟩
  have X5 := hx4.trans hx5
  go_wp2_with fail
  refine (unpack_is p2 _ c2 l2 _ _ _ rfl (HB.out.below X5) w2 (by omega) (by omega) w1 u1 _ _ HQ.out).mono ?_
  rintro e w6 ⟨v6, rfl, hv6, hx6⟩
  go_wp2_with fail
  refine (runpack_any p2 _ c2 l2 _ _ _ rfl ((HB.out.below X5).below hx6) w2 (by omega) (by omega) w1 u1 _ _ HQ.out).mono ?_
  rintro e w7 ⟨v7, rfl, hv7, hx7⟩
  have X7 : Ex w w7 := (X5.trans hx6).trans hx7
  go_wp2_with fail
  refine (width_is p0 _ c0 L _ rfl (HLB.out.below X7) HL64.out (by omega) U HU.out).mono ?_
  rintro e w8 ⟨rfl, hx8⟩
  go_wp2_with fail
  refine (rwidth_is p0 _ c0 L _ rfl (HLB.out.below (X7.trans hx8)) HL64.out U HU.out).mono ?_
  rintro e wq ⟨rfl, hw⟩
  have hw' := hw.symm; clear hw; subst hw'
  have hc4 := conv_row (IsByt.stands _ _ _ _ hv4 (((hx5.trans hx6).trans hx7).trans hx8))
  have hc5 := conv_row (IsByt.stands _ _ _ _ hv5 ((hx6.trans hx7).trans hx8))
  obtain ⟨a6, c6, rfl, hB6⟩ := IsRd.stands _ _ _ _ hv6 (hx7.trans hx8)
  obtain ⟨a7, c7, rfl, hB7⟩ := IsRd.stands _ _ _ _ hv7 hx8
  have X8 : Ex w w8 := X7.trans hx8
  have H6 : Hid (Rd n64 w8 a6 c6 Q) := hB6
  have H7 : Hid (Rd n64 w8 a7 c7 Q) := hB7
  clear hv4 hv5 hv6 hv7 hx4 hx5 hx6 hx7 hx8 X5 X7 hB6 hB7
  go_wp2_with fail
  refine (same64_any a6 a7 c6 c7 _ _ Q Q _ rfl rfl H6.out H7.out true (by simp)).mono ?_
  rintro e w9 ⟨rfl, hx9⟩
  clear hc4 hc5
  go_wp2_with fail
  refine (size_is _ _ _ (by omega) (by omega) w1 u1 _ HZ.out).mono ?_
  rintro e w10 ⟨rfl, hx10⟩
  go_wp2_with fail
  refine (rsize_is _ _ Z _ (by omega) (by omega) w1 u1 HZ.out).mono ?_
  rintro e wq ⟨rfl, hw⟩
  have hw' := hw.symm; clear hw; subst hw'
  go_wp2_with fail
  refine (known_any _).mono ?_
  rintro e w11 ⟨rfl, hx11⟩
  go_wp2
  go_ret
  exact ⟨rfl, ((X8.trans hx9).trans hx10).trans hx11⟩

theorem walk (p0 : Option Addr) (c0 : Nat) (l0 : List Nat) (a1 : Int) (p2 : Option Addr) (c2 : Nat) (l2 : List UInt8) (a3 : Int) (w : World) (b0 : Rd n64 w p0 c0 l0) (m0 : ∀ x ∈ l0, x < 18446744073709551616) (w0 : l0.length ≤ 17592186043904) (w1 : -9223372036854775808 ≤ a1 ∧ a1 ≤ 9223372036854775807) (b2 : Byt w p2 c2 l2) (w2 : l2.length ≤ 140737488351232) (w3 : -9223372036854775808 ≤ a3 ∧ a3 ≤ 9223372036854775807) :
    Calls Try.prog 4 #[.slice p0 l0.length c0, .int .i64 a1, .slice p2 l2.length c2, .int .i64 a3] w fun e w' => e = .returned (.bool true) ∧ Below w.heap.size w w' := by
  by_cases h : 5000 < a3
  · exact walk_many p0 c0 l0 a1 p2 c2 l2 a3 w b0 m0 w0 w1.1 w1.2 b2 w2 w3.1 w3.2 h
  · exact walk_few p0 c0 l0 a1 p2 c2 l2 a3 w b0 m0 w0 w1.1 w1.2 b2 w2 w3.1 w3.2 (by omega)
end Go.Proofs.Ytljfbgnefmikpaa.bitsTells
