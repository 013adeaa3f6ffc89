/-
  The walk of the law BitsNumbers: chapter 3's runs and one for each refusal come out as the document says.
-/
import Derived.Test.YtljfbgnefmikpaaKnown
namespace Go.Proofs.Ytljfbgnefmikpaa.bitsNumbers
open Go.RowKit
set_option linter.unusedVariables false

theorem f0 : B.pck [0, 0] 0 = ([], 0) := by decide +kernel
theorem f1 : B.pck [] 65 = ([], 15) := by decide +kernel
theorem f2 : B.unp [] 0 (-1) = ([], 15) := by decide +kernel
theorem f3 : B.unp [] (-1) 3 = ([], 1) := by decide +kernel
theorem f4 : B.unp [1] 3 4 = ([], 10) := by decide +kernel
theorem f5 : B.unp [1, 0, 0] 3 4 = ([], 11) := by decide +kernel
theorem f6 : B.unp [255] 1 2 = ([], 12) := by decide +kernel
theorem f7 : B.unp [3] 1 2 = ([3], 0) := by decide +kernel
theorem f8 : B.unp [] 5 0 = ([0, 0, 0, 0, 0], 0) := by decide +kernel
theorem f9 : B.unp [] 16777217 0 = ([], 1) := by decide +kernel
theorem f10 : B.pck [18446744073709551615, 5] 64 = ([255, 255, 255, 255, 255, 255, 255, 255, 5, 0, 0, 0, 0, 0, 0, 0], 0) := by decide +kernel

set_option maxRecDepth 100000 in
set_option maxHeartbeats 1000000 in
theorem walk0 (w0 : World) : Calls Try.prog 3 #[] w0 fun e w' => e = .returned (.bool true) ∧ Below w0.heap.size w0 w' := by
  go_enter Try.func3, Try.ntmps3
  go_wp2_with fail
  refine (pack_is _ 2 2 [0, 0] 0 _ rfl (Rd.laid w0 26 [0, 0] (by simp)) (by decide) (by simp) (by omega) (by omega) _ _ f0).mono ?_
  rintro e w1 ⟨v0, rfl, hv0, hx0⟩
  have X0 : Ex w0 w1 := Ex.trans ((Below.refl _ _).alloc (Nat.le_refl _) _) hx0
  clear hx0
  go_wp2_with fail
  refine (pack_is none 0 0 [] 65 _ rfl (Rd.nil _) (by decide) (by simp) (by omega) (by omega) _ _ f1).mono ?_
  rintro e w2 ⟨v1, rfl, hv1, hx1⟩
  have X1 : Ex w1 w2 := hx1
  clear hx1
  go_wp2_with fail
  refine (unpack_is none 0 0 [] 0 (-1) _ rfl (Byt.nil _) (by simp) (by omega) (by omega) (by omega) (by omega) _ _ f2).mono ?_
  rintro e w3 ⟨v2, rfl, hv2, hx2⟩
  have X2 : Ex w2 w3 := hx2
  clear hx2
  go_wp2_with fail
  refine (unpack_is none 0 0 [] (-1) 3 _ rfl (Byt.nil _) (by simp) (by omega) (by omega) (by omega) (by omega) _ _ f3).mono ?_
  rintro e w4 ⟨v3, rfl, hv3, hx3⟩
  have X3 : Ex w3 w4 := hx3
  clear hx3
  go_wp2_with fail
  refine (unpack_is _ 1 1 [1] 3 4 _ rfl (Byt.laid w4 [1] (by simp)) (by simp) (by omega) (by omega) (by omega) (by omega) _ _ f4).mono ?_
  rintro e w5 ⟨v4, rfl, hv4, hx4⟩
  have X4 : Ex w4 w5 := Ex.trans ((Below.refl _ _).alloc (Nat.le_refl _) _) hx4
  clear hx4
  go_wp2_with fail
  refine (unpack_is _ 3 3 [1, 0, 0] 3 4 _ rfl (Byt.laid w5 [1, 0, 0] (by simp)) (by simp) (by omega) (by omega) (by omega) (by omega) _ _ f5).mono ?_
  rintro e w6 ⟨v5, rfl, hv5, hx5⟩
  have X5 : Ex w5 w6 := Ex.trans ((Below.refl _ _).alloc (Nat.le_refl _) _) hx5
  clear hx5
  go_wp2_with fail
  refine (unpack_is _ 1 1 [255] 1 2 _ rfl (Byt.laid w6 [255] (by simp)) (by simp) (by omega) (by omega) (by omega) (by omega) _ _ f6).mono ?_
  rintro e w7 ⟨v6, rfl, hv6, hx6⟩
  have X6 : Ex w6 w7 := Ex.trans ((Below.refl _ _).alloc (Nat.le_refl _) _) hx6
  clear hx6
  go_wp2_with fail
  refine (unpack_is _ 1 1 [3] 1 2 _ rfl (Byt.laid w7 [3] (by simp)) (by simp) (by omega) (by omega) (by omega) (by omega) _ _ f7).mono ?_
  rintro e w8 ⟨v7, rfl, hv7, hx7⟩
  have X7 : Ex w7 w8 := Ex.trans ((Below.refl _ _).alloc (Nat.le_refl _) _) hx7
  clear hx7
  go_wp2_with fail
  refine (unpack_is none 0 0 [] 5 0 _ rfl (Byt.nil _) (by simp) (by omega) (by omega) (by omega) (by omega) _ _ f8).mono ?_
  rintro e w9 ⟨v8, rfl, hv8, hx8⟩
  have X8 : Ex w8 w9 := hx8
  clear hx8
  go_wp2_with fail
  refine (unpack_is none 0 0 [] 16777217 0 _ rfl (Byt.nil _) (by simp) (by omega) (by omega) (by omega) (by omega) _ _ f9).mono ?_
  rintro e w10 ⟨v9, rfl, hv9, hx9⟩
  have X9 : Ex w9 w10 := hx9
  clear hx9
  go_wp2_with fail
  refine (pack_is _ 2 2 [18446744073709551615, 5] 64 _ rfl (Rd.laid w10 26 [18446744073709551615, 5] (by simp)) (by decide) (by simp) (by omega) (by omega) _ _ f10).mono ?_
  rintro e w11 ⟨v10, rfl, hv10, hx10⟩
  have X10 : Ex w10 w11 := Ex.trans ((Below.refl _ _).alloc (Nat.le_refl _) _) hx10
  clear hx10
  have XA : Ex w0 w11 := ((((((((((X0.trans X1).trans X2).trans X3).trans X4).trans X5).trans X6).trans X7).trans X8).trans X9).trans X10)
  obtain ⟨a0, c0, rfl, _⟩ := hv0
  obtain ⟨a7, c7, rfl, hB7⟩ := IsRd.stands _ _ _ _ hv7 ((X8.trans X9).trans X10)
  obtain ⟨a8, c8, rfl, _⟩ := hv8
  obtain ⟨a10, c10, rfl, _⟩ := hv10
  obtain ⟨b7, o7, rfl, hc7⟩ := hB7.at (k := 0) (by simp)
  have hc7' : w11.cell? ⟨b7, o7, none⟩ = some (.int .u64 3) := hc7
  clear hv1 hv2 hv3 hv4 hv5 hv6 hv7 hv9 hc7 hB7
  clear X0 X1 X2 X3 X4 X5 X6 X7 X8 X9 X10
  go_wp2_with fail
  refine (width_is none 0 0 [] _ rfl (Rd.nil _) (by simp) (by simp) 0 rfl).mono ?_
  rintro e wa ⟨rfl, hxa⟩
  have hc7'' : wa.cell? ⟨b7, o7, none⟩ = some (.int .u64 3) := by rw [hxa.cell (p := ⟨b7, o7, none⟩) (World.block_lt_of_cell? _ _ hc7')]; exact hc7'
  clear hc7'
  go_wp2_with fail
  refine (width_is _ 1 1 [9223372036854775808] _ rfl (Rd.laid wa 26 [9223372036854775808] (by simp)) (by decide) (by simp) 64 (by decide +kernel)).mono ?_
  rintro e wb ⟨rfl, hxb⟩
  have XB : Ex wa wb := Ex.trans ((Below.refl _ _).alloc (Nat.le_refl _) _) hxb
  clear hxb hc7''
  go_wp2_with fail
  refine (size_is 3 3 _ (by omega) (by omega) (by omega) (by omega) 2 (by decide +kernel)).mono ?_
  rintro e wc ⟨rfl, hxc⟩
  go_wp2_with fail
  refine (size_is (-1) 3 _ (by omega) (by omega) (by omega) (by omega) 0 (by decide +kernel)).mono ?_
  rintro e wd ⟨rfl, hxd⟩
  go_wp2_with fail
  refine (size_is 16777217 1 _ (by omega) (by omega) (by omega) (by omega) 0 (by decide +kernel)).mono ?_
  rintro e we ⟨rfl, hxe⟩
  go_wp2_with fail
  refine (known_any _).mono ?_
  rintro e wf ⟨rfl, hxf⟩
  go_wp2
  go_ret
  exact ⟨rfl, (((((XA.trans hxa).trans XB).trans hxc).trans hxd).trans hxe).trans hxf⟩
theorem walk (w : World) : Calls Try.prog 3 #[] w fun e w' => e = .returned (.bool true) ∧ Below w.heap.size w w' := walk0 w
end Go.Proofs.Ytljfbgnefmikpaa.bitsNumbers
