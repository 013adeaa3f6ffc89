/-
  The walk of the law BlockNumbers.
-/
import Derived.Test.YthibeoohhcmejaaAlike
namespace Go.Proofs.Ythibeoohhcmejaa.blockNumbers
open Go.RowKit
set_option linter.unusedVariables false

theorem opens0 : K.opens [1, 0, 0, 0, 255, 255, 255, 255, 1] 0 = ([], 0, 14) := by decide +kernel
theorem opens1 : K.opens [1, 0, 16, 0, 254, 255, 239, 255] 0 = ([], 0, 3) := by decide +kernel
theorem opens2 : K.opens [1, 0, 0, 0, 254, 255, 255, 255, 97, 1, 2, 3] 0 = ([], 0, 10) := by decide +kernel
theorem opens3 : K.opens [1, 0, 0, 0, 254, 255, 255, 255, 97, 1, 2, 3, 4] 0 = ([], 0, 14) := by decide +kernel
theorem opens_nil0 : K.opens [] 0 = ([], 0, 10) := by decide +kernel
theorem opens_nil1 : K.opens [] 1 = ([], 0, 1) := by decide +kernel

set_option maxRecDepth 100000 in
set_option maxHeartbeats 1000000 in
theorem walk (w : World) : Calls Try.prog 3 #[] w fun e w' => e = .returned (.bool true) ∧ Below w.heap.size w w' := by
  obtain ⟨n, hn⟩ : ∃ n : Nat, n = 1048577 := ⟨_, rfl⟩
  obtain ⟨m, hm⟩ : ∃ m : Nat, m = 1048576 := ⟨_, rfl⟩
  have n1 : n ≤ 1048577 := by omega
  have n2 : 1048577 ≤ n := by omega
  have m1 : m ≤ 1048576 := by omega
  have m2 : 1048576 ≤ m := by omega
  obtain ⟨ZN, hZN⟩ : ∃ ZN : List UInt8, ZN = List.replicate n 0 := ⟨_, rfl⟩
  obtain ⟨ZM, hZM⟩ : ∃ ZM : List UInt8, ZM = List.replicate m 0 := ⟨_, rfl⟩
  have hznl : ZN.length = n := by rw [hZN]; simp
  have hzml : ZM.length = m := by rw [hZM]; simp
  obtain ⟨MO, hMO⟩ : ∃ MO, K.frm ZM = MO := ⟨_, rfl⟩
  have hmol : MO.length = m + 12 := by rw [← hMO, K.frm_len, hzml]
  have hop : K.opens MO 0 = (ZM, 12 + m, 0) := by
    have h := K.opn_frm (b := ZM) (by omega) []
    rw [List.append_nil, hMO, hzml] at h
    unfold K.opens
    rw [if_neg (by omega), Int.toNat_zero, List.drop_zero, h]
    simp
  have HZN : Hid (List.replicate n 0 = ZN) := hZN.symm
  have HZM : Hid (List.replicate m 0 = ZM) := hZM.symm
  have HZNl : Hid (n = ZN.length) := hznl.symm
  have HZMl : Hid (m = ZM.length) := hzml.symm
  have HMO : Hid (K.frm ZM = MO) := hMO
  have HOp : Hid (K.opens MO 0 = (ZM, 12 + m, 0)) := hop
  have l1 : MO.length ≤ m + 12 := by omega
  have l2 : m + 12 ≤ MO.length := by omega
  have l3 : ZM.length ≤ m := by omega
  have l4 : m ≤ ZM.length := by omega
  have q1 : ((ZM.length : Int) == 1048576) = true := beq_iff_eq.2 (by omega)
  have q2 : (((12 + m : Nat) : Int) == (MO.length : Int)) = true := beq_iff_eq.2 (by omega)
  obtain ⟨k3, hk3⟩ : ∃ k3, k3 = 12 + m := ⟨_, rfl⟩
  rw [← hk3] at q2
  have HK3 : Hid (12 + m = k3) := hk3.symm
  have k31 : k3 ≤ 12 + m := by omega
  have k32 : 12 + m ≤ k3 := by omega
  clear hn hm hZN hZM hznl hzml hMO hmol hop hk3
  go_enter Try.func3, Try.ntmps3
  go_wp2_with (at_make; refine wpList_make_row (enc := n8) rfl _ _ 22 5 rfl 0 1 Try.underlying22 rfl Try.info5 _ _ n rfl rfl (by omega) (by omega) (by omega) (by omega) ?_; intro w1 hr1 hx1; rw [HZN.out] at hr1)
  refine (seal_long _ n n ZN _ HZNl.out (hr1.byt HZNl.out (by omega)) (by have := HZNl.out; omega) (by have := HZNl.out; omega)).mono ?_
  rintro e w2 ⟨v2, rfl, ⟨a2, c2, rfl, hb2⟩, hx2⟩
  have X2 : Ex w w2 := Ex.trans hx1 hx2
  clear hr1 hx1 hx2 hb2
  go_wp2_with (at_make; refine wpList_make_row (enc := n8) rfl _ _ 22 5 rfl 0 1 Try.underlying22 rfl Try.info5 _ _ m rfl rfl (by omega) (by omega) (by omega) (by omega) ?_; intro w3 hr3 hx3; rw [HZM.out] at hr3)
  refine (seal_is _ m m ZM _ HZMl.out (hr3.byt HZMl.out (by omega)) (by omega) MO HMO.out).mono ?_
  rintro e w4 ⟨v4, rfl, ⟨a3, c3, rfl, hb4⟩, hx4⟩
  have X4 : Ex w w4 := Ex.trans (Ex.trans X2 hx3) hx4
  clear hr3 hx3 hx4
  go_wp2_with fail
  refine (open_is a3 _ c3 MO 0 _ rfl hb4 (by omega) (by omega) (by omega) ZM k3 0 (by rw [← HK3.out]; exact HOp.out)).mono ?_
  rintro e w5 ⟨v5, rfl, ⟨a5, c5, rfl, hb5⟩, hx5⟩
  have X5 : Ex w w5 := X4.trans hx5
  have M5 : Byt w5 a3 c3 MO := hb4.below hx5
  clear hb4 hb5 hx5
  go_wp2_with fail
  refine (open_is none 0 0 [] 0 _ rfl (Byt.nil _) (by simp) (by omega) (by omega) _ _ _ opens_nil0).mono ?_
  rintro e w5b ⟨v6, rfl, ⟨a6, c6, rfl, hb6⟩, hx5b⟩
  go_wp2_with fail
  refine (open_is none 0 0 [] 1 _ rfl (Byt.nil _) (by simp) (by omega) (by omega) _ _ _ opens_nil1).mono ?_
  rintro e w6 ⟨v7, rfl, ⟨a7, c7, rfl, hb7⟩, hx6⟩
  have X6 : Ex w w6 := (X5.trans hx5b).trans hx6
  have M6 : Byt w6 a3 c3 MO := (M5.below hx5b).below hx6
  clear hb6 hb7 hx5b hx6
  go_wp2_with (refine wpList_build_own rfl 56 rfl 9 [1, 0, 0, 0, 255, 255, 255, 255, 1] rfl (by decide) (fun _ => by kernel_rfl) w6.heap.size (Nat.le_refl _) ?_; intro g56 w7 ho56 hx7)
  refine (open_is _ _ _ [1, 0, 0, 0, 255, 255, 255, 255, 1] 0 _ rfl ho56.bytS (by simp) (by omega) (by omega) _ _ _ opens0).mono ?_
  rintro e w8 ⟨v56, rfl, ⟨a56, c56, rfl, hb56⟩, hx8⟩
  have X8 : Ex w w8 := (X6.trans hx7).trans hx8
  have M8 : Byt w8 a3 c3 MO := (M6.below hx7).below hx8
  clear hb56 ho56 hx7 hx8
  go_wp2_with (refine wpList_build_own rfl 62 rfl 8 [1, 0, 16, 0, 254, 255, 239, 255] rfl (by decide) (fun _ => by kernel_rfl) w8.heap.size (Nat.le_refl _) ?_; intro g62 w9 ho62 hx9)
  refine (open_is _ _ _ [1, 0, 16, 0, 254, 255, 239, 255] 0 _ rfl ho62.bytS (by simp) (by omega) (by omega) _ _ _ opens1).mono ?_
  rintro e w10 ⟨v62, rfl, ⟨a62, c62, rfl, hb62⟩, hx10⟩
  have X10 : Ex w w10 := (X8.trans hx9).trans hx10
  have M10 : Byt w10 a3 c3 MO := (M8.below hx9).below hx10
  clear hb62 ho62 hx9 hx10
  go_wp2_with (refine wpList_build_own rfl 68 rfl 12 [1, 0, 0, 0, 254, 255, 255, 255, 97, 1, 2, 3] rfl (by decide) (fun _ => by kernel_rfl) w10.heap.size (Nat.le_refl _) ?_; intro g68 w11 ho68 hx11)
  refine (open_is _ _ _ [1, 0, 0, 0, 254, 255, 255, 255, 97, 1, 2, 3] 0 _ rfl ho68.bytS (by simp) (by omega) (by omega) _ _ _ opens2).mono ?_
  rintro e w12 ⟨v68, rfl, ⟨a68, c68, rfl, hb68⟩, hx12⟩
  have X12 : Ex w w12 := (X10.trans hx11).trans hx12
  have M12 : Byt w12 a3 c3 MO := (M10.below hx11).below hx12
  clear hb68 ho68 hx11 hx12
  go_wp2_with (refine wpList_build_own rfl 74 rfl 13 [1, 0, 0, 0, 254, 255, 255, 255, 97, 1, 2, 3, 4] rfl (by decide) (fun _ => by kernel_rfl) w12.heap.size (Nat.le_refl _) ?_; intro g74 w13 ho74 hx13)
  refine (open_is _ _ _ [1, 0, 0, 0, 254, 255, 255, 255, 97, 1, 2, 3, 4] 0 _ rfl ho74.bytS (by simp) (by omega) (by omega) _ _ _ opens3).mono ?_
  rintro e w14 ⟨v74, rfl, ⟨a74, c74, rfl, hb74⟩, hx14⟩
  have X14 : Ex w w14 := (X12.trans hx13).trans hx14
  have M14 : Byt w14 a3 c3 MO := (M12.below hx13).below hx14
  clear hb74 ho74 hx13 hx14
  go_wp2_with fail
  refine (all_is none 0 0 [] _ rfl (Byt.nil _) (by simp) [] 0 0 rfl).mono ?_
  rintro e w20 ⟨v26, rfl, ⟨a26, c26, rfl, hb26⟩, hx20⟩
  have X20 : Ex w w20 := X14.trans hx20
  clear hb26 hx20
  go_wp2_with fail
  refine (known_any _).mono ?_
  rintro e w21 ⟨rfl, hx21⟩
  go_wp2
  go_ret
  exact ⟨rfl, X20.trans hx21⟩
end Go.Proofs.Ythibeoohhcmejaa.blockNumbers
