/-
  Of the landed zone: Join.
-/
import Derived.Test.YtnfbmffafclaaaaTogs
import Derived.Test.YtnfbmffafclaaaaRights
namespace Go.Proofs.Ytnfbmffafclaaaa
open Go.RowKit
set_option linter.unusedVariables false
set_option linter.unusedSimpArgs false
set_option maxHeartbeats 4000000 in
set_option maxRecDepth 100000 in
theorem join_is (a b : Zn) (w : World) (h1 : a.ms.length ≤ maxLen) (h2 : a.xs.length ≤ maxLen) (h3 : b.ms.length ≤ maxLen) (h4 : b.xs.length ≤ maxLen) (h5 : In64 a.k ∧ In64 a.r ∧ In64 a.u) (h6 : In64 b.k ∧ In64 b.r ∧ In64 b.u) (r : Zn) (n : Nat) (hr : Z.join a b = (r, n)) :
    Calls Try.prog 14 #[zv a, zv b] w fun e w' => e = .returned (.tuple #[zv r, .int .i64 n]) ∧ Ex w w' := by
  have HR : Hid (Z.join a b = (r, n)) := hr
  clear hr
  have H5 : Hid (In64 a.k ∧ In64 a.r ∧ In64 a.u) := h5
  have H6 : Hid (In64 b.k ∧ In64 b.r ∧ In64 b.u) := h6
  clear h5 h6
  obtain ⟨ra, hra⟩ : ∃ x, Z.right a = x := ⟨_, rfl⟩
  obtain ⟨rb, hrb⟩ : ∃ x, Z.right b = x := ⟨_, rfl⟩
  obtain ⟨b1, hb1⟩ : ∃ x, (a.k != b.k) = x := ⟨_, rfl⟩
  have Hra : Hid (Z.right a = ra) := hra
  have Hrb : Hid (Z.right b = rb) := hrb
  clear hra hrb
  unfold zv
  go_enter Try.func14, Try.ntmps14
  cases b1 with
  | true =>
    have hr := HR.out
    have hk : ¬ a.k = b.k := by simpa using hb1
    simp [Z.join, hk] at hr
    obtain ⟨rfl, rfl⟩ := hr
    clear hk
    go_wp2_with fail
    exact bodyPost_ret (v := .tuple #[zv Z.zero, .int .i64 22]) (by simp [results, Try.results14, go_sem, zv, Z.zero, str]) rfl ⟨by simp [zv], by (repeat' (first | exact Below.refl _ _ | refine Below.alloc ?_ (by simp <;> omega) _))⟩
  | false =>
    have hk : a.k = b.k := by simpa using hb1
    have HK : Hid (a.k = b.k) := hk
    clear hk
    go_wp2_with fail
    refine (right_is a _ h1 h2 H5.out.1 H5.out.2.1 H5.out.2.2 ra Hra.out).mono ?_
    rintro e w1 ⟨rfl, hx⟩
    have HA1 : Hid (ZAt w1 w.heap.size a 23) := (((ZAt.new w a 23).alloc _).alloc _).below hx
    have HB1 : Hid (ZAt w1 (w.heap.size + 1) b 23) := ((ZAt.newat _ (w.heap.size + 1) b (by simp)).alloc _).below hx
    have HZ1 : Hid (ZAt w1 (w.heap.size + 1 + 1) Z.zero 23) := (ZAt.newat _ (w.heap.size + 1 + 1) Z.zero (by simp)).below hx
    have HX1 : Hid (Ex w w1) := (Ex.trans (by (repeat' (first | exact Below.refl _ _ | refine Below.alloc ?_ (by simp <;> omega) _))) hx : Ex w w1)
    clear hx
    obtain ⟨a0, a1, a2, a3, a4, a5, a6⟩ := HA1.out.all
    obtain ⟨c0, c1, c2, c3, c4, c5, c6⟩ := HB1.out.all
    obtain ⟨j0, j1, j2, j3, j4, j5, j6⟩ := HZ1.out.all
    obtain ⟨k0, k1, k2, k3, k4, k5, k6⟩ := HZ1.out.fro
    cases ra with
    | false =>
      have hr := HR.out
      simp [Z.join, HK.out, Hra.out] at hr
      obtain ⟨rfl, rfl⟩ := hr
      go_wp2_with fail
      have hZ9 := ZAt.store HZ1.out Z.zero; have hX9 := Below.zset HX1.out (show w.heap.size ≤ w.heap.size + 1 + 1 by omega) Z.zero; exact bodyPost_ret (v := .tuple #[zv Z.zero, .int .i64 1]) (res_zone2 Try.results14 rfl rfl hZ9) rfl ⟨rfl, hX9⟩
    | true =>
      go_wp2_with fail
      refine (right_is b _ h3 h4 H6.out.1 H6.out.2.1 H6.out.2.2 rb Hrb.out).mono ?_
      rintro e w2 ⟨rfl, hx⟩
      have HA2 : Hid (ZAt w2 w.heap.size a 23) := HA1.out.below hx
      have HB2 : Hid (ZAt w2 (w.heap.size + 1) b 23) := HB1.out.below hx
      have HZ2 : Hid (ZAt w2 (w.heap.size + 1 + 1) Z.zero 23) := HZ1.out.below hx
      have HX2 : Hid (Ex w w2) := HX1.out.trans hx
      clear a0 a1 a2 a3 a4 a5 a6 c0 c1 c2 c3 c4 c5 c6 j0 j1 j2 j3 j4 j5 j6 k0 k1 k2 k3 k4 k5 k6
      clear hx
      obtain ⟨a0, a1, a2, a3, a4, a5, a6⟩ := HA2.out.all
      obtain ⟨c0, c1, c2, c3, c4, c5, c6⟩ := HB2.out.all
      obtain ⟨j0, j1, j2, j3, j4, j5, j6⟩ := HZ2.out.all
      obtain ⟨k0, k1, k2, k3, k4, k5, k6⟩ := HZ2.out.fro
      cases rb with
      | false =>
        have hr := HR.out
        simp [Z.join, HK.out, Hra.out, Hrb.out] at hr
        obtain ⟨rfl, rfl⟩ := hr
        go_wp2_with fail
        have hZ9 := ZAt.store HZ2.out Z.zero; have hX9 := Below.zset HX2.out (show w.heap.size ≤ w.heap.size + 1 + 1 by omega) Z.zero; exact bodyPost_ret (v := .tuple #[zv Z.zero, .int .i64 1]) (res_zone2 Try.results14 rfl rfl hZ9) rfl ⟨rfl, hX9⟩
      | true =>
        obtain ⟨pa1, pa2, pa3⟩ := Z.right_rows Hra.out
        obtain ⟨pb1, pb2, pb3⟩ := Z.right_rows Hrb.out
        have hw64 : wrap64 (a.r + b.r) = a.r + b.r := by unfold wrap64; omega
        by_cases hm : 1048576 < a.r + b.r
        · have hr := HR.out
          simp [Z.join, HK.out, Hra.out, Hrb.out, hm] at hr
          obtain ⟨rfl, rfl⟩ := hr
          go_wp2_with fail
          have hZ9 := ZAt.store HZ2.out Z.zero; have hX9 := Below.zset HX2.out (show w.heap.size ≤ w.heap.size + 1 + 1 by omega) Z.zero; exact bodyPost_ret (v := .tuple #[zv Z.zero, .int .i64 1]) (res_zone2 Try.results14 rfl rfl hZ9) rfl ⟨rfl, hX9⟩
        have hr : (Z.both a b, 0) = (r, n) := by
          rw [← HR.out]; simp [Z.join, HK.out, Hra.out, Hrb.out, hm]
        obtain ⟨hr1, hr2⟩ := Prod.mk.inj hr
        rw [← Z.tog_both HK.out pa2] at hr1
        have HB : Hid (Z.tog a b = r) := hr1
        subst hr2
        clear hr hr1 HR
        have HI1 : Hid (In64 (a.r + b.r)) := (by unfold In64; omega : In64 (a.r + b.r))
        have HI2 : Hid (In64 (a.u + b.u)) := (by unfold In64; omega : In64 (a.u + b.u))
        go_wp2_with fail
        refine (tog_is a b _ HI1.out HI2.out r HB.out).mono ?_
        rintro e w3 ⟨rfl, hx⟩
        have HA3 : Hid (ZAt w3 w.heap.size a 23) := HA2.out.below hx
        have HB3 : Hid (ZAt w3 (w.heap.size + 1) b 23) := HB2.out.below hx
        have HZ3 : Hid (ZAt w3 (w.heap.size + 1 + 1) Z.zero 23) := HZ2.out.below hx
        have HX3 : Hid (Ex w w3) := HX2.out.trans hx
        clear a0 a1 a2 a3 a4 a5 a6 c0 c1 c2 c3 c4 c5 c6 j0 j1 j2 j3 j4 j5 j6 k0 k1 k2 k3 k4 k5 k6
        clear hx
        obtain ⟨a0, a1, a2, a3, a4, a5, a6⟩ := HA3.out.all
        obtain ⟨c0, c1, c2, c3, c4, c5, c6⟩ := HB3.out.all
        obtain ⟨j0, j1, j2, j3, j4, j5, j6⟩ := HZ3.out.all
        obtain ⟨k0, k1, k2, k3, k4, k5, k6⟩ := HZ3.out.fro
        simp only [zv]
        go_wp2_with fail
        have hZ9 := ZAt.store HZ3.out r; have hX9 := Below.zset HX3.out (show w.heap.size ≤ w.heap.size + 1 + 1 by omega) r; exact bodyPost_ret (v := .tuple #[zv r, .int .i64 0]) (res_zone2 Try.results14 rfl rfl hZ9) rfl ⟨rfl, hX9⟩
end Go.Proofs.Ytnfbmffafclaaaa
