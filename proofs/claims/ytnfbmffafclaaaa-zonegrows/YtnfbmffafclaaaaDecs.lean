/-
  Of the landed zone: Decode.
-/
import Derived.Test.YtnfbmffafclaaaaGets
import Derived.Test.YtnfbmffafclaaaaEncs
namespace Go.Proofs.Ytnfbmffafclaaaa
open Go.RowKit
set_option linter.unusedVariables false
set_option linter.unusedSimpArgs false
set_option maxHeartbeats 8000000 in
set_option maxRecDepth 100000 in
theorem dec_is (a : Option Addr) (len cap : Nat) (b : List UInt8) (at' : Int) (w : World) (hlen : len = b.length) (hB : Byt w a cap b) (z0 : Zn) (k0 e0 : Nat) (hr : Z.dec b at' = (z0, k0, e0)) :
    Calls Try.prog 16 #[.slice a len cap, .int .i64 at'] w fun e w' => e = .returned (.tuple #[zv z0, .int .i64 k0, .int .i64 e0]) ∧ Ex w w' := by
  subst hlen
  have HB : Hid (Byt w a cap b) := hB
  have hcl := hB.1
  have hcm := hB.2.1
  unfold maxLen at hcm
  unfold Z.dec at hr
  rw [Z.dec1_hd b 3 [] at' (Or.inr (by omega))] at hr
  obtain ⟨⟨zh, kh, eh⟩, hh⟩ : ∃ p, Z.hd1 b 3 [] at' = p := ⟨_, rfl⟩
  rw [hh] at hr
  simp only at hr
  have HH : Hid (Z.hd1 b 3 [] at' = (zh, kh, eh)) := hh
  have Hr : Hid (_ = (z0, k0, e0)) := hr
  clear hB hr hh
  go_enter Try.func16, Try.ntmps16
  go_wp2_with fail
  refine (hd_is a _ cap b _ _ rfl (HB.out.below ((Below.refl _ _).alloc (Nat.le_refl _) _)) zh kh eh HH.out).mono ?_
  rintro e w1 ⟨rfl, hx⟩
  obtain ⟨w2, hw2⟩ : ∃ w2, w2 = w1.alloc (zb zh 23) := ⟨_, rfl⟩
  have hlt1 : w.heap.size < w1.heap.size := by have h := hx.size; simp at h; omega
  have HX2 : Hid (Ex w w2) := (by rw [hw2]; exact (Ex.trans ((Below.refl _ _).alloc (Nat.le_refl _) _) hx).trans ((Below.refl _ _).alloc (Nat.le_refl _) _) : Ex w w2)
  have HR2 : Hid (ZAt w2 w.heap.size Z.zero 23) := (by rw [hw2]; exact ((ZAt.new w Z.zero 23).below hx).alloc _ : ZAt w2 w.heap.size Z.zero 23)
  have HZ2 : Hid (ZAt w2 w1.heap.size zh 23) := (by rw [hw2]; exact ZAt.new w1 zh 23 : ZAt w2 w1.heap.size zh 23)
  have HW2 : Hid (w2 = w1.alloc (zb zh 23)) := hw2
  clear hx hw2
  simp only [zv]
  go_upto_region 2 with fail
  rw [← HW2.out]
  obtain ⟨g, hg⟩ : ∃ g, w1.heap.size = g := ⟨_, rfl⟩
  rw [hg] at HZ2 hlt1 ⊢
  clear HW2 hg
  obtain ⟨j0, j1, j2, j3, j4, j5, j6⟩ := HR2.out.all
  obtain ⟨k0', k1', k2', k3', k4', k5', k6'⟩ := HR2.out.fro
  obtain ⟨i0, i1, i2, i3, i4, i5, i6⟩ := HZ2.out.all
  obtain ⟨f0, f1, f2, f3, f4, f5, f6⟩ := HZ2.out.fro
  by_cases he : eh = 0
  · subst he
    have hD := Hr.out
    rw [if_neg (by simp)] at hD
    obtain ⟨n0, n1, n2, rfl, hn0, hn1, hn2⟩ := Z.hd1_ok b 3 [] at' zh kh HH.out
    clear Hr
    by_cases hlt : n2 < n1
    · have HQ : Hid (Z.has ⟨n0, n1, n2, 0, 0, [], []⟩ = true) := (by unfold Z.has; simp; omega : Z.has ⟨n0, n1, n2, 0, 0, [], []⟩ = true)
      have HD2 : Hid (_ = (z0, k0, e0)) := hD
      have HN0 : Hid (n0 = 1 ∨ n0 = 2) := hn0
      clear hD hn0
      go_wp2_with fail
      refine (least_ex ⟨n0, n1, n2, 0, 0, [], []⟩ _ true HQ.out).mono ?_
      rintro e w3 ⟨rfl, hx⟩
      have HX3 : Hid (Ex w w3) := HX2.out.trans hx
      have HR3 : Hid (ZAt w3 w.heap.size Z.zero 23) := HR2.out.below hx
      have HZ3 : Hid (ZAt w3 g ⟨n0, n1, n2, 0, 0, [], []⟩ 23) := HZ2.out.below hx
      clear hx
      clear j0 j1 j2 j3 j4 j5 j6 k0' k1' k2' k3' k4' k5' k6' i0 i1 i2 i3 i4 i5 i6 f0 f1 f2 f3 f4 f5 f6
      obtain ⟨j0, j1, j2, j3, j4, j5, j6⟩ := HR3.out.all
      obtain ⟨k0', k1', k2', k3', k4', k5', k6'⟩ := HR3.out.fro
      obtain ⟨i0, i1, i2, i3, i4, i5, i6⟩ := HZ3.out.all
      obtain ⟨f0, f1, f2, f3, f4, f5, f6⟩ := HZ3.out.fro
      have hD := HD2.out
      clear HD2 HZ2 HR2 HX2
      rcases HN0.out with rfl | rfl
      · obtain ⟨⟨m1, m2, k2, e2⟩, hgn⟩ : ∃ p, Z.gn b (kh : Int) = p := ⟨_, rfl⟩
        rw [Z.dec3_nums hlt, hgn] at hD
        simp only at hD
        have HGN : Hid (Z.gn b (kh : Int) = _) := hgn
        have HD3 : Hid (_ = (z0, k0, e0)) := hD
        clear hgn hD
        obtain ⟨w4, hw4⟩ : ∃ w4, w4 = (w3.setCell ⟨g, 3, none⟩ (.int .i64 m1)).setCell ⟨g, 4, none⟩ (.int .i64 m2) := ⟨_, rfl⟩
        have HX4 : Hid (Ex w w4) := (by rw [hw4]; exact Below.setCell (Below.setCell HX3.out (Nat.le_of_lt hlt1) _) (Nat.le_of_lt hlt1) _ : Ex w w4)
        have HR4 : Hid (ZAt w4 w.heap.size Z.zero 23) := (by rw [hw4]; exact (HR3.out.other (Nat.ne_of_lt hlt1)).other (Nat.ne_of_lt hlt1) : ZAt w4 w.heap.size Z.zero 23)
        have HZ4 : Hid (ZAt w4 g ⟨((1 : Nat) : Int), n1, n2, m1, m2, [], []⟩ 23) := (by rw [hw4]; exact (HZ3.out.set (k := 3) (v := .int .i64 m1) (z' := ⟨((1 : Nat) : Int), n1, n2, m1, 0, [], []⟩) rfl).set (k := 4) (v := .int .i64 m2) (z' := ⟨((1 : Nat) : Int), n1, n2, m1, m2, [], []⟩) rfl : ZAt w4 g ⟨((1 : Nat) : Int), n1, n2, m1, m2, [], []⟩ 23)
        have HW4 : Hid (w4 = (w3.setCell ⟨g, 3, none⟩ (.int .i64 m1)).setCell ⟨g, 4, none⟩ (.int .i64 m2)) := hw4
        clear hw4
        go_wp2_with fail
        refine (nums_is a _ cap b _ _ rfl (HB.out.below HX3.out) m1 m2 k2 e2 HGN.out).mono ?_
        rintro e w' ⟨rfl, hw⟩
        have hw := hw.symm
        subst hw
        go_upto_region 10 with fail
        rw [← HW4.out]
        clear j0 j1 j2 j3 j4 j5 j6 k0' k1' k2' k3' k4' k5' k6' i0 i1 i2 i3 i4 i5 i6 f0 f1 f2 f3 f4 f5 f6
        obtain ⟨j0, j1, j2, j3, j4, j5, j6⟩ := HR4.out.all
        obtain ⟨k0', k1', k2', k3', k4', k5', k6'⟩ := HR4.out.fro
        obtain ⟨i0, i1, i2, i3, i4, i5, i6⟩ := HZ4.out.all
        obtain ⟨f0, f1, f2, f3, f4, f5, f6⟩ := HZ4.out.fro
        by_cases he2 : e2 = 0
        · subst he2
          have hD := HD3.out
          rw [if_neg (by simp)] at hD
          obtain ⟨rr, hrr⟩ : ∃ x, Z.right ⟨((1 : Nat) : Int), n1, n2, m1, m2, [], []⟩ = x := ⟨_, rfl⟩
          unfold Z.fin at hD
          rw [hrr] at hD
          have HRR : Hid (Z.right ⟨((1 : Nat) : Int), n1, n2, m1, m2, [], []⟩ = rr) := hrr
          have HD4 : Hid (_ = (z0, k0, e0)) := hD
          clear hrr hD HD3
          go_wp2_with fail
          refine (right_is ⟨((1 : Nat) : Int), n1, n2, m1, m2, [], []⟩ _ (by simp [maxLen]) (by simp [maxLen]) (by simp [In64]) (by simp [In64]; omega) (by simp [In64]; omega) rr HRR.out).mono ?_
          rintro e w5 ⟨rfl, hx⟩
          have HX5 : Hid (Ex w w5) := HX4.out.trans hx
          have HR5 : Hid (ZAt w5 w.heap.size Z.zero 23) := HR4.out.below hx
          have HZ5 : Hid (ZAt w5 g ⟨((1 : Nat) : Int), n1, n2, m1, m2, [], []⟩ 23) := HZ4.out.below hx
          clear hx
          clear j0 j1 j2 j3 j4 j5 j6 k0' k1' k2' k3' k4' k5' k6' i0 i1 i2 i3 i4 i5 i6 f0 f1 f2 f3 f4 f5 f6
          obtain ⟨j0, j1, j2, j3, j4, j5, j6⟩ := HR5.out.all
          obtain ⟨k0', k1', k2', k3', k4', k5', k6'⟩ := HR5.out.fro
          obtain ⟨i0, i1, i2, i3, i4, i5, i6⟩ := HZ5.out.all
          obtain ⟨f0, f1, f2, f3, f4, f5, f6⟩ := HZ5.out.fro
          cases rr with
          | false =>
            have hf := HD4.out
            rw [if_neg (by simp)] at hf
            have HRES : Hid ((Z.zero, 0, 12) = (z0, k0, e0)) := hf
            clear hf HD4
            go_wp2_with fail
            have hZ9 := ZAt.store HR5.out Z.zero
            have hX9 := Below.zset HX5.out (Nat.le_refl _) Z.zero
            have hf := HRES.out
            simp only [Prod.mk.injEq, Int.toNat_natCast] at hf
            obtain ⟨rfl, rfl, rfl⟩ := hf
            exact bodyPost_ret (v := .tuple #[zv Z.zero, .int .i64 0, .int .i64 12]) (res_zone3 Try.results16 rfl rfl rfl hZ9) rfl ⟨rfl, hX9⟩
          | true =>
            have hf := HD4.out
            rw [if_pos rfl] at hf
            have HRES : Hid (_ = (z0, k0, e0)) := hf
            clear hf HD4
            go_wp2_with fail
            have hZ9 := ZAt.store HR5.out ⟨((1 : Nat) : Int), n1, n2, m1, m2, [], []⟩
            have hX9 := Below.zset HX5.out (Nat.le_refl _) ⟨((1 : Nat) : Int), n1, n2, m1, m2, [], []⟩
            have hf := HRES.out
            simp only [Prod.mk.injEq, Int.toNat_natCast] at hf
            obtain ⟨rfl, rfl, rfl⟩ := hf
            exact bodyPost_ret (v := .tuple #[zv ⟨((1 : Nat) : Int), n1, n2, m1, m2, [], []⟩, .int .i64 k2, .int .i64 0]) (res_zone3 Try.results16 rfl rfl rfl hZ9) rfl ⟨rfl, hX9⟩
        · have hD := HD3.out
          rw [if_pos he2] at hD
          have HRES : Hid ((Z.zero, 0, e2) = (z0, k0, e0)) := hD
          have te : ((e2 : Int) == 0) = false := by simp; omega
          have te3 : ((e2 : Int) != 0) = true := by simp; omega
          clear hD HD3
          go_wp2_with fail
          have hZ9 := ZAt.store HR4.out Z.zero
          have hX9 := Below.zset HX4.out (Nat.le_refl _) Z.zero
          have hf := HRES.out
          simp only [Prod.mk.injEq, Int.toNat_natCast] at hf
          obtain ⟨rfl, rfl, rfl⟩ := hf
          exact bodyPost_ret (v := .tuple #[zv Z.zero, .int .i64 0, .int .i64 e2]) (res_zone3 Try.results16 rfl rfl rfl hZ9) rfl ⟨rfl, hX9⟩
      · obtain ⟨⟨t1, t2, k2, e2⟩, hgn⟩ : ∃ p, Z.gt b (kh : Int) = p := ⟨_, rfl⟩
        have hgl := Z.gt_len b (kh : Int)
        rw [hgn] at hgl
        have ht1 : t1.length ≤ 40 := hgl.1
        have ht2 : t2.length ≤ 40 := hgl.2
        clear hgl
        rw [Z.dec3_texts hlt, hgn] at hD
        simp only at hD
        have HGN : Hid (Z.gt b (kh : Int) = _) := hgn
        have HD3 : Hid (_ = (z0, k0, e0)) := hD
        clear hgn hD
        obtain ⟨w4, hw4⟩ : ∃ w4, w4 = (w3.setCell ⟨g, 5, none⟩ (.string (str t1))).setCell ⟨g, 6, none⟩ (.string (str t2)) := ⟨_, rfl⟩
        have HX4 : Hid (Ex w w4) := (by rw [hw4]; exact Below.setCell (Below.setCell HX3.out (Nat.le_of_lt hlt1) _) (Nat.le_of_lt hlt1) _ : Ex w w4)
        have HR4 : Hid (ZAt w4 w.heap.size Z.zero 23) := (by rw [hw4]; exact (HR3.out.other (Nat.ne_of_lt hlt1)).other (Nat.ne_of_lt hlt1) : ZAt w4 w.heap.size Z.zero 23)
        have HZ4 : Hid (ZAt w4 g ⟨((2 : Nat) : Int), n1, n2, 0, 0, t1, t2⟩ 23) := (by rw [hw4]; exact (HZ3.out.set (k := 5) (v := .string (str t1)) (z' := ⟨((2 : Nat) : Int), n1, n2, 0, 0, t1, []⟩) rfl).set (k := 6) (v := .string (str t2)) (z' := ⟨((2 : Nat) : Int), n1, n2, 0, 0, t1, t2⟩) rfl : ZAt w4 g ⟨((2 : Nat) : Int), n1, n2, 0, 0, t1, t2⟩ 23)
        have HW4 : Hid (w4 = (w3.setCell ⟨g, 5, none⟩ (.string (str t1))).setCell ⟨g, 6, none⟩ (.string (str t2))) := hw4
        clear hw4
        go_wp2_with fail
        refine (texts_is a _ cap b _ _ rfl (HB.out.below HX3.out) t1 t2 k2 e2 HGN.out).mono ?_
        rintro e w' ⟨rfl, hw⟩
        have hw := hw.symm
        subst hw
        go_upto_region 10 with fail
        rw [← HW4.out]
        clear j0 j1 j2 j3 j4 j5 j6 k0' k1' k2' k3' k4' k5' k6' i0 i1 i2 i3 i4 i5 i6 f0 f1 f2 f3 f4 f5 f6
        obtain ⟨j0, j1, j2, j3, j4, j5, j6⟩ := HR4.out.all
        obtain ⟨k0', k1', k2', k3', k4', k5', k6'⟩ := HR4.out.fro
        obtain ⟨i0, i1, i2, i3, i4, i5, i6⟩ := HZ4.out.all
        obtain ⟨f0, f1, f2, f3, f4, f5, f6⟩ := HZ4.out.fro
        by_cases he2 : e2 = 0
        · subst he2
          have hD := HD3.out
          rw [if_neg (by simp)] at hD
          obtain ⟨rr, hrr⟩ : ∃ x, Z.right ⟨((2 : Nat) : Int), n1, n2, 0, 0, t1, t2⟩ = x := ⟨_, rfl⟩
          unfold Z.fin at hD
          rw [hrr] at hD
          have HRR : Hid (Z.right ⟨((2 : Nat) : Int), n1, n2, 0, 0, t1, t2⟩ = rr) := hrr
          have HD4 : Hid (_ = (z0, k0, e0)) := hD
          clear hrr hD HD3
          go_wp2_with fail
          refine (right_is ⟨((2 : Nat) : Int), n1, n2, 0, 0, t1, t2⟩ _ (by simp [maxLen]; omega) (by simp [maxLen]; omega) (by simp [In64]) (by simp [In64]; omega) (by simp [In64]; omega) rr HRR.out).mono ?_
          rintro e w5 ⟨rfl, hx⟩
          have HX5 : Hid (Ex w w5) := HX4.out.trans hx
          have HR5 : Hid (ZAt w5 w.heap.size Z.zero 23) := HR4.out.below hx
          have HZ5 : Hid (ZAt w5 g ⟨((2 : Nat) : Int), n1, n2, 0, 0, t1, t2⟩ 23) := HZ4.out.below hx
          clear hx
          clear j0 j1 j2 j3 j4 j5 j6 k0' k1' k2' k3' k4' k5' k6' i0 i1 i2 i3 i4 i5 i6 f0 f1 f2 f3 f4 f5 f6
          obtain ⟨j0, j1, j2, j3, j4, j5, j6⟩ := HR5.out.all
          obtain ⟨k0', k1', k2', k3', k4', k5', k6'⟩ := HR5.out.fro
          obtain ⟨i0, i1, i2, i3, i4, i5, i6⟩ := HZ5.out.all
          obtain ⟨f0, f1, f2, f3, f4, f5, f6⟩ := HZ5.out.fro
          cases rr with
          | false =>
            have hf := HD4.out
            rw [if_neg (by simp)] at hf
            have HRES : Hid ((Z.zero, 0, 12) = (z0, k0, e0)) := hf
            clear hf HD4
            go_wp2_with fail
            have hZ9 := ZAt.store HR5.out Z.zero
            have hX9 := Below.zset HX5.out (Nat.le_refl _) Z.zero
            have hf := HRES.out
            simp only [Prod.mk.injEq, Int.toNat_natCast] at hf
            obtain ⟨rfl, rfl, rfl⟩ := hf
            exact bodyPost_ret (v := .tuple #[zv Z.zero, .int .i64 0, .int .i64 12]) (res_zone3 Try.results16 rfl rfl rfl hZ9) rfl ⟨rfl, hX9⟩
          | true =>
            have hf := HD4.out
            rw [if_pos rfl] at hf
            have HRES : Hid (_ = (z0, k0, e0)) := hf
            clear hf HD4
            go_wp2_with fail
            have hZ9 := ZAt.store HR5.out ⟨((2 : Nat) : Int), n1, n2, 0, 0, t1, t2⟩
            have hX9 := Below.zset HX5.out (Nat.le_refl _) ⟨((2 : Nat) : Int), n1, n2, 0, 0, t1, t2⟩
            have hf := HRES.out
            simp only [Prod.mk.injEq, Int.toNat_natCast] at hf
            obtain ⟨rfl, rfl, rfl⟩ := hf
            exact bodyPost_ret (v := .tuple #[zv ⟨((2 : Nat) : Int), n1, n2, 0, 0, t1, t2⟩, .int .i64 k2, .int .i64 0]) (res_zone3 Try.results16 rfl rfl rfl hZ9) rfl ⟨rfl, hX9⟩
        · have hD := HD3.out
          rw [if_pos he2] at hD
          have HRES : Hid ((Z.zero, 0, e2) = (z0, k0, e0)) := hD
          have te : ((e2 : Int) == 0) = false := by simp; omega
          have te3 : ((e2 : Int) != 0) = true := by simp; omega
          clear hD HD3
          go_wp2_with fail
          have hZ9 := ZAt.store HR4.out Z.zero
          have hX9 := Below.zset HX4.out (Nat.le_refl _) Z.zero
          have hf := HRES.out
          simp only [Prod.mk.injEq, Int.toNat_natCast] at hf
          obtain ⟨rfl, rfl, rfl⟩ := hf
          exact bodyPost_ret (v := .tuple #[zv Z.zero, .int .i64 0, .int .i64 e2]) (res_zone3 Try.results16 rfl rfl rfl hZ9) rfl ⟨rfl, hX9⟩
    · have hq : n2 = n1 := by omega
      have HQ : Hid (Z.has ⟨n0, n1, n2, 0, 0, [], []⟩ = false) := (by unfold Z.has; simp; omega : Z.has ⟨n0, n1, n2, 0, 0, [], []⟩ = false)
      rw [Z.dec3_none hn0 hn1 hq] at hD
      have HRES : Hid (_ = (z0, k0, e0)) := hD
      clear hD hq hlt hn0
      go_wp2_with fail
      refine (least_ex ⟨n0, n1, n2, 0, 0, [], []⟩ _ false HQ.out).mono ?_
      rintro e w3 ⟨rfl, hx⟩
      have HX3 : Hid (Ex w w3) := HX2.out.trans hx
      have HR3 : Hid (ZAt w3 w.heap.size Z.zero 23) := HR2.out.below hx
      have HZ3 : Hid (ZAt w3 g ⟨n0, n1, n2, 0, 0, [], []⟩ 23) := HZ2.out.below hx
      clear hx
      clear j0 j1 j2 j3 j4 j5 j6 k0' k1' k2' k3' k4' k5' k6' i0 i1 i2 i3 i4 i5 i6 f0 f1 f2 f3 f4 f5 f6
      obtain ⟨j0, j1, j2, j3, j4, j5, j6⟩ := HR3.out.all
      obtain ⟨k0', k1', k2', k3', k4', k5', k6'⟩ := HR3.out.fro
      obtain ⟨i0, i1, i2, i3, i4, i5, i6⟩ := HZ3.out.all
      obtain ⟨f0, f1, f2, f3, f4, f5, f6⟩ := HZ3.out.fro
      go_wp2_with fail
      have hZ9 := ZAt.store HR3.out ⟨n0, n1, n2, 0, 0, [], []⟩
      have hX9 := Below.zset HX3.out (Nat.le_refl _) ⟨n0, n1, n2, 0, 0, [], []⟩
      have hf := HRES.out
      simp only [Prod.mk.injEq, Int.toNat_natCast] at hf
      obtain ⟨rfl, rfl, rfl⟩ := hf
      exact bodyPost_ret (v := .tuple #[zv ⟨n0, n1, n2, 0, 0, [], []⟩, .int .i64 kh, .int .i64 0]) (res_zone3 Try.results16 rfl rfl rfl hZ9) rfl ⟨rfl, hX9⟩
  · have hD := Hr.out
    rw [if_pos he] at hD
    have HRES : Hid ((Z.zero, 0, eh) = (z0, k0, e0)) := hD
    have te : ((eh : Int) == 0) = false := by simp; omega
    have te3 : ((eh : Int) != 0) = true := by simp; omega
    clear hD Hr
    go_wp2_with fail
    have hZ9 := ZAt.store HR2.out Z.zero
    have hX9 := Below.zset HX2.out (Nat.le_refl _) Z.zero
    have hf := HRES.out
    simp only [Prod.mk.injEq, Int.toNat_natCast] at hf
    obtain ⟨rfl, rfl, rfl⟩ := hf
    exact bodyPost_ret (v := .tuple #[zv Z.zero, .int .i64 0, .int .i64 eh]) (res_zone3 Try.results16 rfl rfl rfl hZ9) rfl ⟨rfl, hX9⟩
end Go.Proofs.Ytnfbmffafclaaaa
