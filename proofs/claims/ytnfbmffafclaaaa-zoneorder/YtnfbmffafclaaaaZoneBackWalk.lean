/-
  The walk of ZoneBack.
-/
import Derived.Test.YtnfbmffafclaaaaKnown
import Derived.Test.YtnfbmffafclaaaaZfew
import Derived.Test.YtnfbmffafclaaaaBook
import Derived.Test.YtnfbmffafclaaaaZback
import Derived.Test.YtnfbmffafclaaaaZjoin
import Derived.Test.YtnfbmffafclaaaaZreg
import Derived.Test.YtnfbmffafclaaaaOpen2
namespace Go.Proofs.Ytnfbmffafclaaaa.zoneBack
open Go.RowKit Go.Proofs.Ytnfbmffafclaaaa
set_option linter.unusedVariables false
set_option linter.unusedSimpArgs false
set_option maxHeartbeats 8000000 in
set_option maxRecDepth 100000 in
theorem walk (a0 : Int) (p1 : Option Addr) (c1 : Nat) (l1 : List Cel) (p2 : Option Addr) (c2 : Nat) (l2 : List UInt8) (p3 : Option Addr) (c3 : Nat) (l3 : List UInt8) (w : World) (w0 : -9223372036854775808 ≤ a0 ∧ a0 ≤ 9223372036854775807) (b1 : RdC w p1 c1 l1) (m1 : ∀ c ∈ l1, CelOk c) (b2 : Byt w p2 c2 l2) (w2 : l2.length ≤ 140737488351232) (b3 : Byt w p3 c3 l3) (w3 : l3.length ≤ 140737488351232) :
    Calls Try.prog 6 #[.int .i64 a0, .slice p1 l1.length c1, .slice p2 l2.length c2, .slice p3 l3.length c3] w fun e w' => e = .returned (.bool true) ∧ Below w.heap.size w w' := by
  obtain ⟨w01, w02⟩ := w0
  have HB1 : Hid (RdC w p1 c1 l1) := b1
  have HB2 : Hid (Byt w p2 c2 l2) := b2
  have HB3 : Hid (Byt w p3 c3 l3) := b3
  have h2a := b2.1
  have h2m := b2.2.1
  have h3a := b3.1
  have h3m := b3.2.1
  unfold maxLen at h2m h3m
  obtain ⟨C, hC⟩ : ∃ C, C = Z.few l1 := ⟨_, rfl⟩
  have HC : Hid (C = Z.few l1) := hC
  have hCl : C.length ≤ 40 := by rw [hC]; exact Z.few_len _
  have HM1 : Hid (∀ c ∈ l1, CelOk c) := m1
  clear b1 b2 b3 hC m1
  go_enter Try.func6, Try.ntmps6
  go_wp2_with fail
  refine (few_is p1 _ c1 l1 _ rfl HB1.out).mono ?_
  rintro e wa ⟨va, rfl, hoa, hxa⟩
  rw [← HC.out] at hoa
  obtain ⟨aC, cC, rfl, hrC⟩ := hoa.rd
  have HXa : Hid (Ex w wa) := hxa
  have HRC : Hid (RdC wa aC cC C) := hrC
  clear hoa hxa hrC
  go_wp2_with fail
  refine (within_any _ 1 _ (by omega) (by omega) (by omega) (by omega)).mono ?_
  rintro e wq ⟨r, hr1, rfl, hw'⟩
  have hw'' := hw'.symm
  clear hw'
  subst hw''
  obtain ⟨K, hK⟩ : ∃ K : Int, K = 1 + (r : Int) := ⟨_, rfl⟩
  have hKi : (1 : Int) + (r : Int) = K := hK.symm
  have HKk : Hid (Z.Kind K) := (by unfold Z.Kind; omega : Z.Kind K)
  clear hK
  go_wp2_with fail
  refine (z_build K aC _ cC C _ rfl HRC.out).mono ?_
  rintro e wb ⟨rfl, hxb⟩
  obtain ⟨z, hz⟩ : ∃ z, z = Z.build K C := ⟨_, rfl⟩
  have hfew := Z.build_few K HM1.out
  rw [← HC.out, ← hz] at hfew
  rw [← hz]
  obtain ⟨hf1, hf2, hf3, hf4⟩ := hfew
  have HXb : Hid (Ex w wb) := HXa.out.trans hxb
  have Hm : Hid (z.ms.length ≤ maxLen) := (by unfold maxLen; omega : z.ms.length ≤ maxLen)
  have Hx : Hid (z.xs.length ≤ maxLen) := (by unfold maxLen; omega : z.xs.length ≤ maxLen)
  have Hi : Hid (In64 z.mn) := hf3
  have Hj : Hid (In64 z.mx) := hf4
  have Hw3 : Hid (Z.W3 z) := (by have hk := HKk.out; unfold Z.Kind at hk; rw [hz]; exact Z.W3.of_build (by unfold In64; omega) (by omega) : Z.W3 z)
  have HZb : Hid (ZAt (wb.alloc (zb z 23)) wb.heap.size z 23) := ZAt.new wb z 23
  have HXb2 : Hid (Ex w (wb.alloc (zb z 23))) := HXb.out.trans ((Below.refl _ _).alloc (Nat.le_refl _) _)
  obtain ⟨⟨E, e0⟩, hE⟩ : ∃ q, Z.encE z = q := ⟨_, rfl⟩
  have HE : Hid (Z.encE z = (E, e0)) := hE
  clear hz hxb hf3 hf4
  simp only [zv]
  go_wp2_with fail
  refine (z_enc z _ Hm.out Hx.out Hi.out Hj.out Hw3.out E e0 HE.out).mono ?_
  rintro e w4 ⟨v4, rfl, ⟨a4, c4, rfl, hb4⟩, hx4⟩
  have HX4 : Hid (Ex w w4) := HXb2.out.trans hx4
  have HZ4 : Hid (ZAt w4 wb.heap.size z 23) := HZb.out.below hx4
  have HB4 : Hid (Byt w4 a4 c4 E) := hb4
  obtain ⟨d0, d1, d2, d3, d4, d5, d6⟩ := HZ4.out.all
  clear hb4 hx4
  cases hR : Z.right z with
  | false =>
    have HRt : Hid (Z.right z = false) := hR
    clear hR
    go_wp2_with fail
    refine (z_right z _ Hm.out Hx.out Hw3.out false HRt.out).mono ?_
    rintro e wc ⟨rfl, hxc⟩
    have HXc : Hid (Ex w wc) := HX4.out.trans hxc
    clear hxc
    by_cases hl3 : 200 < l3.length
    · have tl3 : decide (200 < (l3.length : Int)) = true := by simp; omega
      have tl4 : decide (200 < l3.length) = true := by simp; omega
      have HBL : Hid (200 = (l3.take 200).length) := (by simp; omega : 200 = (l3.take 200).length)
      have HBd : Hid (Byt wc p3 c3 (l3.take 200)) := (HB3.out.below HXc.out).take (by omega)
      have hc3i : (200 : Int) ≤ (c3 : Int) := by omega
      go_wp2_with fail
      obtain ⟨⟨z5, k5, e5⟩, hdec⟩ : ∃ q, Z.dec (l3.take 200) 0 = q := ⟨_, rfl⟩
      have HDec : Hid (Z.dec (l3.take 200) 0 = (z5, k5, e5)) := hdec
      refine (z_dec p3 _ c3 (l3.take 200) 0 _ HBL.out HBd.out z5 k5 e5 HDec.out).mono ?_
      rintro e wd ⟨rfl, hxd⟩
      have HXd : Hid (Ex w wd) := HXc.out.trans hxd
      have HBd2 : Hid (Byt wd p3 c3 (l3.take 200)) := HBd.out.below hxd
      clear hxd
      simp only [zv]
      by_cases he5 : e5 = 0
      · subst he5
        obtain ⟨r5, q5, t5, i5, j5⟩ := Z.dec_ok (b := (l3.take 200)) (p := 0) hdec
        rw [List.take_zero, List.nil_append] at t5
        have Hk5 : Hid (k5 ≤ 200) := (by have h := HBL.out; omega : k5 ≤ 200)
        have hw5 := Z.right_all r5
        have henc : Z.encE z5 = (Z.enc z5, 0) := by unfold Z.encE; rw [if_pos r5]
        obtain ⟨E7, hE7⟩ : ∃ E7, E7 = Z.enc z5 := ⟨_, rfl⟩
        rw [← hE7] at henc t5
        have HE5 : Hid (E7 = (l3.take 200).take k5) := t5.symm
        have HEnc : Hid (Z.encE z5 = (E7, 0)) := henc
        have hz5 : ZAt (wd.alloc (zb z5 23)) wd.heap.size z5 23 := ZAt.new wd z5 23
        have Hm5 : Hid (z5.ms.length ≤ maxLen) := (by have := hw5.2.1; unfold maxLen; omega : z5.ms.length ≤ maxLen)
        have Hx5 : Hid (z5.xs.length ≤ maxLen) := (by have := hw5.2.2; unfold maxLen; omega : z5.xs.length ≤ maxLen)
        have Hi5 : Hid (In64 z5.mn) := i5
        have Hj5 : Hid (In64 z5.mx) := j5
        have hxa5 : Ex wd (wd.alloc (zb z5 23)) := (Below.refl _ _).alloc (Nat.le_refl _) _
        have HXa5 : Hid (Ex wd (wd.alloc (zb z5 23))) := hxa5
        clear hdec r5 t5 hw5 henc hE7 i5 j5 hz5 hxa5
        go_wp2_with fail
        refine (z_enc z5 _ Hm5.out Hx5.out Hi5.out Hj5.out (Z.W3.of_enc HEnc.out) E7 0 HEnc.out).mono ?_
        rintro e w7 ⟨v7, rfl, ⟨a7, c7, rfl, hb7⟩, hx7⟩
        have HX7 : Hid (Ex w w7) := (HXd.out.trans HXa5.out).trans hx7
        have HB7 : Hid (Byt w7 p3 c3 (l3.take 200)) := (HBd2.out.below HXa5.out).below hx7
        have HE7 : Hid (Byt w7 a7 c7 E7) := hb7
        clear hb7 hx7
        go_wp2_with fail
        have hre := Ex.refl
        refine Rg.wp_rows [.inl (Value.int .i64 0), .inl (.bool false), .inl (.bool false), .inl (Value.int .i64 (k5 : Int)), .inl (Value.slice p3 200 c3), .inl (Value.int .i64 (200 : Int)), .inl (.bool false), .inl (.bool false), .inl (.bool false), .inl (Value.slice a7 E7.length c7), .inl (Value.string (str E7)), .inl (Value.slice p3 200 c3), .inl (Value.int .i64 (k5 : Int)), .inl (Value.slice p3 k5 c3), .inl (Value.string (str E7)), .inl (.bool false), .inl (.bool false)] (Ex w7) Ex 104 (by kernel_rfl) rfl (by kernel_rfl) ?st hre (Ex.drew _) ?goods ?fin
        case st => exact trivial
        case goods =>
          refine Rg.goods_cons (Rg.good_move hre rfl rfl rfl) ?_
          refine Rg.goods_cons (Rg.good_bin hre rfl rfl rfl rfl (fun _ => rfl) (fun w => by simp [go_sem])) ?_
          refine Rg.goods_cons (Rg.good_move hre rfl rfl rfl) ?_
          refine Rg.goods_cons (Rg.good_move hre rfl rfl rfl) ?_
          refine Rg.goods_cons (Rg.good_move hre rfl rfl rfl) ?_
          refine Rg.goods_cons (Rg.good_len hre rfl rfl (by rintro u wx _ rfl; rfl)) ?_
          refine Rg.goods_cons (Rg.good_bin hre rfl rfl rfl rfl (fun _ => rfl) (fun w => by have h1 := Hk5.out; go_simp <;> omega)) ?_
          refine Rg.goods_cons (Rg.good_pick false hre rfl rfl rfl rfl) ?_
          refine Rg.goods_cons (Rg.good_move hre rfl rfl rfl) ?_
          refine Rg.goods_cons (Rg.good_move hre rfl rfl rfl) ?_
          refine Rg.goods_cons (Rg.good_conv hre rfl rfl (by rintro u wx hC rfl; exact run_str (HE7.out.below hC) rfl)) ?_
          refine Rg.goods_cons (Rg.good_move hre rfl rfl rfl) ?_
          refine Rg.goods_cons (Rg.good_move hre rfl rfl rfl) ?_
          refine Rg.goods_cons (Rg.good_slice2 hre rfl rfl rfl (by rintro u wx hC rfl; exact ⟨_, slice_row p3 200 c3 k5 wx (by have h1 := Hk5.out; omega) (by unfold maxLen; omega), rfl⟩)) ?_
          refine Rg.goods_cons (Rg.good_conv hre rfl rfl (by rintro u wx hC rfl; have h1 := Hk5.out; rw [HE5.out]; exact run_str ((HB7.out.below hC).take (by have h2 := HBL.out; omega)) (by have h2 := HBL.out; simp <;> omega))) ?_
          refine Rg.goods_cons (Rg.good_bin hre rfl rfl rfl rfl (fun _ => rfl) (fun w => by go_simp)) ?_
          refine Rg.goods_cons (Rg.good_pick false hre rfl rfl rfl rfl) ?_
          exact Rg.goods_nil
        case fin =>
          intro wx hx
          simp only [Rg.later, Act.put, List.setIfInBounds_toArray, List.set_cons_succ, List.set_cons_zero]
          go_wp2_with fail
          refine (known_any _).mono ?_
          rintro e wk ⟨rfl, hxk⟩
          go_wp2_with fail
          go_ret
          exact ⟨rfl, (HX7.out.trans hx).trans hxk⟩
      · have te5 : ((e5 : Int) == 0) = false := by simp; omega
        have te6 : decide (e5 = 0) = false := by simp; omega
        have hxa5 : Ex wd (wd.alloc (zb z5 23)) := (Below.refl _ _).alloc (Nat.le_refl _) _
        clear hdec
        go_wp2_with fail
        refine (known_any _).mono ?_
        rintro e wk ⟨rfl, hxk⟩
        go_wp2_with fail
        go_ret
        exact ⟨rfl, (HXd.out.trans hxa5).trans hxk⟩
    · have tl3 : decide (200 < (l3.length : Int)) = false := by simp; omega
      have tl4 : decide (200 < l3.length) = false := by simp; omega
      have HBd : Hid (Byt wc p3 c3 l3) := HB3.out.below HXc.out
      go_wp2_with fail
      obtain ⟨⟨z5, k5, e5⟩, hdec⟩ : ∃ q, Z.dec l3 0 = q := ⟨_, rfl⟩
      have HDec : Hid (Z.dec l3 0 = (z5, k5, e5)) := hdec
      refine (z_dec p3 _ c3 l3 0 _ (rfl : l3.length = l3.length) HBd.out z5 k5 e5 HDec.out).mono ?_
      rintro e wd ⟨rfl, hxd⟩
      have HXd : Hid (Ex w wd) := HXc.out.trans hxd
      have HBd2 : Hid (Byt wd p3 c3 l3) := HBd.out.below hxd
      clear hxd
      simp only [zv]
      by_cases he5 : e5 = 0
      · subst he5
        obtain ⟨r5, q5, t5, i5, j5⟩ := Z.dec_ok (b := l3) (p := 0) hdec
        rw [List.take_zero, List.nil_append] at t5
        have Hk5 : Hid (k5 ≤ l3.length) := (by have h := (rfl : l3.length = l3.length); omega : k5 ≤ l3.length)
        have hw5 := Z.right_all r5
        have henc : Z.encE z5 = (Z.enc z5, 0) := by unfold Z.encE; rw [if_pos r5]
        obtain ⟨E7, hE7⟩ : ∃ E7, E7 = Z.enc z5 := ⟨_, rfl⟩
        rw [← hE7] at henc t5
        have HE5 : Hid (E7 = l3.take k5) := t5.symm
        have HEnc : Hid (Z.encE z5 = (E7, 0)) := henc
        have hz5 : ZAt (wd.alloc (zb z5 23)) wd.heap.size z5 23 := ZAt.new wd z5 23
        have Hm5 : Hid (z5.ms.length ≤ maxLen) := (by have := hw5.2.1; unfold maxLen; omega : z5.ms.length ≤ maxLen)
        have Hx5 : Hid (z5.xs.length ≤ maxLen) := (by have := hw5.2.2; unfold maxLen; omega : z5.xs.length ≤ maxLen)
        have Hi5 : Hid (In64 z5.mn) := i5
        have Hj5 : Hid (In64 z5.mx) := j5
        have hxa5 : Ex wd (wd.alloc (zb z5 23)) := (Below.refl _ _).alloc (Nat.le_refl _) _
        have HXa5 : Hid (Ex wd (wd.alloc (zb z5 23))) := hxa5
        clear hdec r5 t5 hw5 henc hE7 i5 j5 hz5 hxa5
        go_wp2_with fail
        refine (z_enc z5 _ Hm5.out Hx5.out Hi5.out Hj5.out (Z.W3.of_enc HEnc.out) E7 0 HEnc.out).mono ?_
        rintro e w7 ⟨v7, rfl, ⟨a7, c7, rfl, hb7⟩, hx7⟩
        have HX7 : Hid (Ex w w7) := (HXd.out.trans HXa5.out).trans hx7
        have HB7 : Hid (Byt w7 p3 c3 l3) := (HBd2.out.below HXa5.out).below hx7
        have HE7 : Hid (Byt w7 a7 c7 E7) := hb7
        clear hb7 hx7
        go_wp2_with fail
        have hre := Ex.refl
        refine Rg.wp_rows [.inl (Value.int .i64 0), .inl (.bool false), .inl (.bool false), .inl (Value.int .i64 (k5 : Int)), .inl (Value.slice p3 l3.length c3), .inl (Value.int .i64 (l3.length : Int)), .inl (.bool false), .inl (.bool false), .inl (.bool false), .inl (Value.slice a7 E7.length c7), .inl (Value.string (str E7)), .inl (Value.slice p3 l3.length c3), .inl (Value.int .i64 (k5 : Int)), .inl (Value.slice p3 k5 c3), .inl (Value.string (str E7)), .inl (.bool false), .inl (.bool false)] (Ex w7) Ex 104 (by kernel_rfl) rfl (by kernel_rfl) ?st hre (Ex.drew _) ?goods ?fin
        case st => exact trivial
        case goods =>
          refine Rg.goods_cons (Rg.good_move hre rfl rfl rfl) ?_
          refine Rg.goods_cons (Rg.good_bin hre rfl rfl rfl rfl (fun _ => rfl) (fun w => by simp [go_sem])) ?_
          refine Rg.goods_cons (Rg.good_move hre rfl rfl rfl) ?_
          refine Rg.goods_cons (Rg.good_move hre rfl rfl rfl) ?_
          refine Rg.goods_cons (Rg.good_move hre rfl rfl rfl) ?_
          refine Rg.goods_cons (Rg.good_len hre rfl rfl (by rintro u wx _ rfl; rfl)) ?_
          refine Rg.goods_cons (Rg.good_bin hre rfl rfl rfl rfl (fun _ => rfl) (fun w => by have h1 := Hk5.out; go_simp <;> omega)) ?_
          refine Rg.goods_cons (Rg.good_pick false hre rfl rfl rfl rfl) ?_
          refine Rg.goods_cons (Rg.good_move hre rfl rfl rfl) ?_
          refine Rg.goods_cons (Rg.good_move hre rfl rfl rfl) ?_
          refine Rg.goods_cons (Rg.good_conv hre rfl rfl (by rintro u wx hC rfl; exact run_str (HE7.out.below hC) rfl)) ?_
          refine Rg.goods_cons (Rg.good_move hre rfl rfl rfl) ?_
          refine Rg.goods_cons (Rg.good_move hre rfl rfl rfl) ?_
          refine Rg.goods_cons (Rg.good_slice2 hre rfl rfl rfl (by rintro u wx hC rfl; exact ⟨_, slice_row p3 l3.length c3 k5 wx (by have h1 := Hk5.out; omega) (by unfold maxLen; omega), rfl⟩)) ?_
          refine Rg.goods_cons (Rg.good_conv hre rfl rfl (by rintro u wx hC rfl; have h1 := Hk5.out; rw [HE5.out]; exact run_str ((HB7.out.below hC).take (by have h2 := (rfl : l3.length = l3.length); omega)) (by have h2 := (rfl : l3.length = l3.length); simp <;> omega))) ?_
          refine Rg.goods_cons (Rg.good_bin hre rfl rfl rfl rfl (fun _ => rfl) (fun w => by go_simp)) ?_
          refine Rg.goods_cons (Rg.good_pick false hre rfl rfl rfl rfl) ?_
          exact Rg.goods_nil
        case fin =>
          intro wx hx
          simp only [Rg.later, Act.put, List.setIfInBounds_toArray, List.set_cons_succ, List.set_cons_zero]
          go_wp2_with fail
          refine (known_any _).mono ?_
          rintro e wk ⟨rfl, hxk⟩
          go_wp2_with fail
          go_ret
          exact ⟨rfl, (HX7.out.trans hx).trans hxk⟩
      · have te5 : ((e5 : Int) == 0) = false := by simp; omega
        have te6 : decide (e5 = 0) = false := by simp; omega
        have hxa5 : Ex wd (wd.alloc (zb z5 23)) := (Below.refl _ _).alloc (Nat.le_refl _) _
        clear hdec
        go_wp2_with fail
        refine (known_any _).mono ?_
        rintro e wk ⟨rfl, hxk⟩
        go_wp2_with fail
        go_ret
        exact ⟨rfl, (HXd.out.trans hxa5).trans hxk⟩
  | true =>
    have HRt : Hid (Z.right z = true) := hR
    unfold Z.encE at hE
    rw [hR, if_pos rfl] at hE
    simp only [Prod.mk.injEq] at hE
    obtain ⟨hEe, rfl⟩ := hE
    have hal := Z.right_all hR
    have hEl : E.length ≤ 200 := by
      rw [← hEe]
      unfold Z.enc
      have l0 := M.digs_len z.k.toNat
      have l1 := M.digs_len z.r.toNat
      have l2 := M.digs_len z.u.toNat
      have l3 := M.digs_len (M.zig z.mn).toNat
      have l4 := M.digs_len (M.zig z.mx).toNat
      have l5 := M.digs_len z.ms.length
      have l6 := M.digs_len z.xs.length
      have h6 := hal.2.1
      have h7 := hal.2.2
      simp only [List.length_append]
      split
      · simp; omega
      · split
        · simp only [List.length_append]; omega
        · simp only [List.length_append]; omega
    obtain ⟨F, hF⟩ : ∃ F, l2 ++ E = F := ⟨_, rfl⟩
    have hdec : Z.dec F (l2.length : Int) = (z, F.length, 0) := by
      have h := Z.dec_enc hR Hi.out Hj.out l2 []
      rw [List.append_nil, hEe, hF] at h
      rw [h, ← hF, List.length_append]
    have HDec : Hid (Z.dec F (l2.length : Int) = (z, F.length, 0)) := hdec
    have HF : Hid (l2 ++ E = F) := hF
    have hFl : F.length ≤ l2.length + 200 := by rw [← hF]; simp; omega
    clear hR hEe hal hF hdec
    go_wp2_with fail
    refine (z_right z _ Hm.out Hx.out Hw3.out true HRt.out).mono ?_
    rintro e w5 ⟨rfl, hx5⟩
    have HX5 : Hid (Ex w w5) := HX4.out.trans hx5
    have HZ5 : Hid (ZAt w5 wb.heap.size z 23) := HZ4.out.below hx5
    have HB5 : Hid (Byt w5 a4 c4 E) := HB4.out.below hx5
    have hb25 := HB2.out.below HX5.out
    clear hx5
    go_wp2_with (first
      | (refine wpList_build_own rfl 36 rfl 0 [] rfl (by decide) (fun _ => by kernel_rfl) w5.heap.size (Nat.le_refl _) ?_; intro g36 w36 ho36 hx36)
      | (at_builtin; refine wpList_append_byt rfl (.tmp 36) (.tmp 37) rfl w5.heap.size _ [] rfl ho36 p2 _ c2 l2 rfl rfl (hb25.below hx36) (by simp; omega) (Ex.size hx36) ?_; intro v38 w38 ho38 hg38; have hx38 : Ex w5 w38 := step_below0 hx36 (Ex.size hx36) ho36 hg38; have hb438 := HB5.out.below hx38; clear ho36 hg38 hx36)
      | (at_builtin; refine wpList_append_byt rfl (.tmp 38) (.tmp 39) rfl w5.heap.size _ l2 rfl ho38 a4 _ c4 E rfl rfl hb438 (by omega) (Ex.size hx38) ?_; intro v40 w40 ho40 hg40; have hx40 : Ex w5 w40 := step_below0 hx38 (Ex.size hx38) ho38 hg40; clear ho38 hg40 hx38 hb438; rw [HF.out] at ho40; obtain ⟨aF, cF, hvF, hbF⟩ := ho40.byt; subst hvF)
      | fail)
    have HX40 : Hid (Ex w w40) := HX5.out.trans hx40
    have HZ40 : Hid (ZAt w40 wb.heap.size z 23) := HZ5.out.below hx40
    have HBF : Hid (Byt w40 aF cF F) := hbF
    clear ho40 hbF hx40 hb25
    refine (z_dec aF _ cF F _ _ rfl HBF.out z F.length 0 HDec.out).mono ?_
    rintro e w8 ⟨rfl, hx8⟩
    have HX8 : Hid (Ex w w8) := HX40.out.trans hx8
    have HZ8 : Hid (ZAt w8 wb.heap.size z 23) := HZ40.out.below hx8
    have hxa8 : Ex w8 (w8.alloc (zb z 23)) := (Below.refl _ _).alloc (Nat.le_refl _) _
    obtain ⟨w9, hw9⟩ : ∃ w9, w9 = w8.alloc (zb z 23) := ⟨_, rfl⟩
    have HX9 : Hid (Ex w w9) := (by rw [hw9]; exact HX8.out.trans hxa8 : Ex w w9)
    have HZ9 : Hid (ZAt w9 wb.heap.size z 23) := (by rw [hw9]; exact HZ8.out.below hxa8 : ZAt w9 wb.heap.size z 23)
    have HZ13 : Hid (ZAt w9 w8.heap.size z 23) := (by rw [hw9]; exact ZAt.new w8 z 23 : ZAt w9 w8.heap.size z 23)
    clear hx8 hxa8
    simp only [zv]
    go_wp2_with fail
    rw [← hw9]
    clear hw9
    have hre := Ex.refl
    refine Rg.wp_rows [.inl (Value.int .i64 0), .inl (.bool false), .inl (.bool false), .inl (Value.int .i64 0), .inl (.bool false), .inl (.bool false), .inl (.bool false), .inl (Value.int .i64 (F.length : Int)), .inl (Value.slice aF F.length cF), .inl (Value.int .i64 (F.length : Int)), .inl (.bool false), .inl (.bool false), .inl (.bool false), .inl (zv z), .inl (zv z), .inl (zv z), .inl (zv z), .inl (.bool false), .inl (.bool false)] (Ex w9) Ex 104 (by kernel_rfl) rfl (by kernel_rfl) ?st hre (Ex.drew _) ?goods ?fin
    case st => exact trivial
    case goods =>
      refine Rg.goods_cons (Rg.good_move hre rfl rfl rfl) ?_
      refine Rg.goods_cons (Rg.good_bin hre rfl rfl rfl rfl (fun _ => rfl) (fun w => by simp [go_sem])) ?_
      refine Rg.goods_cons (Rg.good_move hre rfl rfl rfl) ?_
      refine Rg.goods_cons (Rg.good_move hre rfl rfl rfl) ?_
      refine Rg.goods_cons (Rg.good_bin hre rfl rfl rfl rfl (fun _ => rfl) (fun w => by simp [go_sem])) ?_
      refine Rg.goods_cons (Rg.good_pick false hre rfl rfl rfl rfl) ?_
      refine Rg.goods_cons (Rg.good_move hre rfl rfl rfl) ?_
      refine Rg.goods_cons (Rg.good_move hre rfl rfl rfl) ?_
      refine Rg.goods_cons (Rg.good_move hre rfl rfl rfl) ?_
      refine Rg.goods_cons (Rg.good_len hre rfl rfl (by rintro u wx _ rfl; rfl)) ?_
      refine Rg.goods_cons (Rg.good_bin hre rfl rfl rfl rfl (fun _ => rfl) (fun w => by simp [go_sem])) ?_
      refine Rg.goods_cons (Rg.good_pick false hre rfl rfl rfl rfl) ?_
      refine Rg.goods_cons (Rg.good_move hre rfl rfl rfl) ?_
      refine Rg.goods_cons (Rg.good_load hre rfl rfl rfl (fun wx hC => by exact loadI_zone (HZ13.out.below hC))) ?_
      refine Rg.goods_cons (Rg.good_call1 Try.func11 (by kernel_rfl) rfl rfl rfl (by rintro u wx hC rfl; exact ex_row (in_is z wx) hC)) ?_
      refine Rg.goods_cons (Rg.good_load hre rfl rfl rfl (fun wx hC => by exact loadI_zone (HZ9.out.below hC))) ?_
      refine Rg.goods_cons (Rg.good_call1 Try.func11 (by kernel_rfl) rfl rfl rfl (by rintro u wx hC rfl; exact ex_row (in_is z wx) hC)) ?_
      refine Rg.goods_cons (Rg.good_bin hre rfl rfl rfl rfl (fun w => guard_zone _ _ _ z z w) (fun w => neq_zone z w)) ?_
      refine Rg.goods_cons (Rg.good_pick false hre rfl rfl rfl rfl) ?_
      exact Rg.goods_nil
    case fin =>
      intro wc hxc
      simp only [Rg.later, Act.put, List.setIfInBounds_toArray, List.set_cons_succ, List.set_cons_zero]
      have HXc : Hid (Ex w wc) := HX9.out.trans hxc
      clear hxc
      by_cases hl3 : 200 < l3.length
      · have tl3 : decide (200 < (l3.length : Int)) = true := by simp; omega
        have tl4 : decide (200 < l3.length) = true := by simp; omega
        have HBL : Hid (200 = (l3.take 200).length) := (by simp; omega : 200 = (l3.take 200).length)
        have HBd : Hid (Byt wc p3 c3 (l3.take 200)) := (HB3.out.below HXc.out).take (by omega)
        have hc3i : (200 : Int) ≤ (c3 : Int) := by omega
        go_wp2_with fail
        obtain ⟨⟨z5, k5, e5⟩, hdec⟩ : ∃ q, Z.dec (l3.take 200) 0 = q := ⟨_, rfl⟩
        have HDec : Hid (Z.dec (l3.take 200) 0 = (z5, k5, e5)) := hdec
        refine (z_dec p3 _ c3 (l3.take 200) 0 _ HBL.out HBd.out z5 k5 e5 HDec.out).mono ?_
        rintro e wd ⟨rfl, hxd⟩
        have HXd : Hid (Ex w wd) := HXc.out.trans hxd
        have HBd2 : Hid (Byt wd p3 c3 (l3.take 200)) := HBd.out.below hxd
        clear hxd
        simp only [zv]
        by_cases he5 : e5 = 0
        · subst he5
          obtain ⟨r5, q5, t5, i5, j5⟩ := Z.dec_ok (b := (l3.take 200)) (p := 0) hdec
          rw [List.take_zero, List.nil_append] at t5
          have Hk5 : Hid (k5 ≤ 200) := (by have h := HBL.out; omega : k5 ≤ 200)
          have hw5 := Z.right_all r5
          have henc : Z.encE z5 = (Z.enc z5, 0) := by unfold Z.encE; rw [if_pos r5]
          obtain ⟨E7, hE7⟩ : ∃ E7, E7 = Z.enc z5 := ⟨_, rfl⟩
          rw [← hE7] at henc t5
          have HE5 : Hid (E7 = (l3.take 200).take k5) := t5.symm
          have HEnc : Hid (Z.encE z5 = (E7, 0)) := henc
          have hz5 : ZAt (wd.alloc (zb z5 23)) wd.heap.size z5 23 := ZAt.new wd z5 23
          have Hm5 : Hid (z5.ms.length ≤ maxLen) := (by have := hw5.2.1; unfold maxLen; omega : z5.ms.length ≤ maxLen)
          have Hx5 : Hid (z5.xs.length ≤ maxLen) := (by have := hw5.2.2; unfold maxLen; omega : z5.xs.length ≤ maxLen)
          have Hi5 : Hid (In64 z5.mn) := i5
          have Hj5 : Hid (In64 z5.mx) := j5
          have hxa5 : Ex wd (wd.alloc (zb z5 23)) := (Below.refl _ _).alloc (Nat.le_refl _) _
          have HXa5 : Hid (Ex wd (wd.alloc (zb z5 23))) := hxa5
          clear hdec r5 t5 hw5 henc hE7 i5 j5 hz5 hxa5
          go_wp2_with fail
          refine (z_enc z5 _ Hm5.out Hx5.out Hi5.out Hj5.out (Z.W3.of_enc HEnc.out) E7 0 HEnc.out).mono ?_
          rintro e w7 ⟨v7, rfl, ⟨a7, c7, rfl, hb7⟩, hx7⟩
          have HX7 : Hid (Ex w w7) := (HXd.out.trans HXa5.out).trans hx7
          have HB7 : Hid (Byt w7 p3 c3 (l3.take 200)) := (HBd2.out.below HXa5.out).below hx7
          have HE7 : Hid (Byt w7 a7 c7 E7) := hb7
          clear hb7 hx7
          go_wp2_with fail
          have hre := Ex.refl
          refine Rg.wp_rows [.inl (Value.int .i64 0), .inl (.bool false), .inl (.bool false), .inl (Value.int .i64 (k5 : Int)), .inl (Value.slice p3 200 c3), .inl (Value.int .i64 (200 : Int)), .inl (.bool false), .inl (.bool false), .inl (.bool false), .inl (Value.slice a7 E7.length c7), .inl (Value.string (str E7)), .inl (Value.slice p3 200 c3), .inl (Value.int .i64 (k5 : Int)), .inl (Value.slice p3 k5 c3), .inl (Value.string (str E7)), .inl (.bool false), .inl (.bool false)] (Ex w7) Ex 104 (by kernel_rfl) rfl (by kernel_rfl) ?st hre (Ex.drew _) ?goods ?fin
          case st => exact trivial
          case goods =>
            refine Rg.goods_cons (Rg.good_move hre rfl rfl rfl) ?_
            refine Rg.goods_cons (Rg.good_bin hre rfl rfl rfl rfl (fun _ => rfl) (fun w => by simp [go_sem])) ?_
            refine Rg.goods_cons (Rg.good_move hre rfl rfl rfl) ?_
            refine Rg.goods_cons (Rg.good_move hre rfl rfl rfl) ?_
            refine Rg.goods_cons (Rg.good_move hre rfl rfl rfl) ?_
            refine Rg.goods_cons (Rg.good_len hre rfl rfl (by rintro u wx _ rfl; rfl)) ?_
            refine Rg.goods_cons (Rg.good_bin hre rfl rfl rfl rfl (fun _ => rfl) (fun w => by have h1 := Hk5.out; go_simp <;> omega)) ?_
            refine Rg.goods_cons (Rg.good_pick false hre rfl rfl rfl rfl) ?_
            refine Rg.goods_cons (Rg.good_move hre rfl rfl rfl) ?_
            refine Rg.goods_cons (Rg.good_move hre rfl rfl rfl) ?_
            refine Rg.goods_cons (Rg.good_conv hre rfl rfl (by rintro u wx hC rfl; exact run_str (HE7.out.below hC) rfl)) ?_
            refine Rg.goods_cons (Rg.good_move hre rfl rfl rfl) ?_
            refine Rg.goods_cons (Rg.good_move hre rfl rfl rfl) ?_
            refine Rg.goods_cons (Rg.good_slice2 hre rfl rfl rfl (by rintro u wx hC rfl; exact ⟨_, slice_row p3 200 c3 k5 wx (by have h1 := Hk5.out; omega) (by unfold maxLen; omega), rfl⟩)) ?_
            refine Rg.goods_cons (Rg.good_conv hre rfl rfl (by rintro u wx hC rfl; have h1 := Hk5.out; rw [HE5.out]; exact run_str ((HB7.out.below hC).take (by have h2 := HBL.out; omega)) (by have h2 := HBL.out; simp <;> omega))) ?_
            refine Rg.goods_cons (Rg.good_bin hre rfl rfl rfl rfl (fun _ => rfl) (fun w => by go_simp)) ?_
            refine Rg.goods_cons (Rg.good_pick false hre rfl rfl rfl rfl) ?_
            exact Rg.goods_nil
          case fin =>
            intro wx hx
            simp only [Rg.later, Act.put, List.setIfInBounds_toArray, List.set_cons_succ, List.set_cons_zero]
            go_wp2_with fail
            refine (known_any _).mono ?_
            rintro e wk ⟨rfl, hxk⟩
            go_wp2_with fail
            go_ret
            exact ⟨rfl, (HX7.out.trans hx).trans hxk⟩
        · have te5 : ((e5 : Int) == 0) = false := by simp; omega
          have te6 : decide (e5 = 0) = false := by simp; omega
          have hxa5 : Ex wd (wd.alloc (zb z5 23)) := (Below.refl _ _).alloc (Nat.le_refl _) _
          clear hdec
          go_wp2_with fail
          refine (known_any _).mono ?_
          rintro e wk ⟨rfl, hxk⟩
          go_wp2_with fail
          go_ret
          exact ⟨rfl, (HXd.out.trans hxa5).trans hxk⟩
      · have tl3 : decide (200 < (l3.length : Int)) = false := by simp; omega
        have tl4 : decide (200 < l3.length) = false := by simp; omega
        have HBd : Hid (Byt wc p3 c3 l3) := HB3.out.below HXc.out
        go_wp2_with fail
        obtain ⟨⟨z5, k5, e5⟩, hdec⟩ : ∃ q, Z.dec l3 0 = q := ⟨_, rfl⟩
        have HDec : Hid (Z.dec l3 0 = (z5, k5, e5)) := hdec
        refine (z_dec p3 _ c3 l3 0 _ (rfl : l3.length = l3.length) HBd.out z5 k5 e5 HDec.out).mono ?_
        rintro e wd ⟨rfl, hxd⟩
        have HXd : Hid (Ex w wd) := HXc.out.trans hxd
        have HBd2 : Hid (Byt wd p3 c3 l3) := HBd.out.below hxd
        clear hxd
        simp only [zv]
        by_cases he5 : e5 = 0
        · subst he5
          obtain ⟨r5, q5, t5, i5, j5⟩ := Z.dec_ok (b := l3) (p := 0) hdec
          rw [List.take_zero, List.nil_append] at t5
          have Hk5 : Hid (k5 ≤ l3.length) := (by have h := (rfl : l3.length = l3.length); omega : k5 ≤ l3.length)
          have hw5 := Z.right_all r5
          have henc : Z.encE z5 = (Z.enc z5, 0) := by unfold Z.encE; rw [if_pos r5]
          obtain ⟨E7, hE7⟩ : ∃ E7, E7 = Z.enc z5 := ⟨_, rfl⟩
          rw [← hE7] at henc t5
          have HE5 : Hid (E7 = l3.take k5) := t5.symm
          have HEnc : Hid (Z.encE z5 = (E7, 0)) := henc
          have hz5 : ZAt (wd.alloc (zb z5 23)) wd.heap.size z5 23 := ZAt.new wd z5 23
          have Hm5 : Hid (z5.ms.length ≤ maxLen) := (by have := hw5.2.1; unfold maxLen; omega : z5.ms.length ≤ maxLen)
          have Hx5 : Hid (z5.xs.length ≤ maxLen) := (by have := hw5.2.2; unfold maxLen; omega : z5.xs.length ≤ maxLen)
          have Hi5 : Hid (In64 z5.mn) := i5
          have Hj5 : Hid (In64 z5.mx) := j5
          have hxa5 : Ex wd (wd.alloc (zb z5 23)) := (Below.refl _ _).alloc (Nat.le_refl _) _
          have HXa5 : Hid (Ex wd (wd.alloc (zb z5 23))) := hxa5
          clear hdec r5 t5 hw5 henc hE7 i5 j5 hz5 hxa5
          go_wp2_with fail
          refine (z_enc z5 _ Hm5.out Hx5.out Hi5.out Hj5.out (Z.W3.of_enc HEnc.out) E7 0 HEnc.out).mono ?_
          rintro e w7 ⟨v7, rfl, ⟨a7, c7, rfl, hb7⟩, hx7⟩
          have HX7 : Hid (Ex w w7) := (HXd.out.trans HXa5.out).trans hx7
          have HB7 : Hid (Byt w7 p3 c3 l3) := (HBd2.out.below HXa5.out).below hx7
          have HE7 : Hid (Byt w7 a7 c7 E7) := hb7
          clear hb7 hx7
          go_wp2_with fail
          have hre := Ex.refl
          refine Rg.wp_rows [.inl (Value.int .i64 0), .inl (.bool false), .inl (.bool false), .inl (Value.int .i64 (k5 : Int)), .inl (Value.slice p3 l3.length c3), .inl (Value.int .i64 (l3.length : Int)), .inl (.bool false), .inl (.bool false), .inl (.bool false), .inl (Value.slice a7 E7.length c7), .inl (Value.string (str E7)), .inl (Value.slice p3 l3.length c3), .inl (Value.int .i64 (k5 : Int)), .inl (Value.slice p3 k5 c3), .inl (Value.string (str E7)), .inl (.bool false), .inl (.bool false)] (Ex w7) Ex 104 (by kernel_rfl) rfl (by kernel_rfl) ?st hre (Ex.drew _) ?goods ?fin
          case st => exact trivial
          case goods =>
            refine Rg.goods_cons (Rg.good_move hre rfl rfl rfl) ?_
            refine Rg.goods_cons (Rg.good_bin hre rfl rfl rfl rfl (fun _ => rfl) (fun w => by simp [go_sem])) ?_
            refine Rg.goods_cons (Rg.good_move hre rfl rfl rfl) ?_
            refine Rg.goods_cons (Rg.good_move hre rfl rfl rfl) ?_
            refine Rg.goods_cons (Rg.good_move hre rfl rfl rfl) ?_
            refine Rg.goods_cons (Rg.good_len hre rfl rfl (by rintro u wx _ rfl; rfl)) ?_
            refine Rg.goods_cons (Rg.good_bin hre rfl rfl rfl rfl (fun _ => rfl) (fun w => by have h1 := Hk5.out; go_simp <;> omega)) ?_
            refine Rg.goods_cons (Rg.good_pick false hre rfl rfl rfl rfl) ?_
            refine Rg.goods_cons (Rg.good_move hre rfl rfl rfl) ?_
            refine Rg.goods_cons (Rg.good_move hre rfl rfl rfl) ?_
            refine Rg.goods_cons (Rg.good_conv hre rfl rfl (by rintro u wx hC rfl; exact run_str (HE7.out.below hC) rfl)) ?_
            refine Rg.goods_cons (Rg.good_move hre rfl rfl rfl) ?_
            refine Rg.goods_cons (Rg.good_move hre rfl rfl rfl) ?_
            refine Rg.goods_cons (Rg.good_slice2 hre rfl rfl rfl (by rintro u wx hC rfl; exact ⟨_, slice_row p3 l3.length c3 k5 wx (by have h1 := Hk5.out; omega) (by unfold maxLen; omega), rfl⟩)) ?_
            refine Rg.goods_cons (Rg.good_conv hre rfl rfl (by rintro u wx hC rfl; have h1 := Hk5.out; rw [HE5.out]; exact run_str ((HB7.out.below hC).take (by have h2 := (rfl : l3.length = l3.length); omega)) (by have h2 := (rfl : l3.length = l3.length); simp <;> omega))) ?_
            refine Rg.goods_cons (Rg.good_bin hre rfl rfl rfl rfl (fun _ => rfl) (fun w => by go_simp)) ?_
            refine Rg.goods_cons (Rg.good_pick false hre rfl rfl rfl rfl) ?_
            exact Rg.goods_nil
          case fin =>
            intro wx hx
            simp only [Rg.later, Act.put, List.setIfInBounds_toArray, List.set_cons_succ, List.set_cons_zero]
            go_wp2_with fail
            refine (known_any _).mono ?_
            rintro e wk ⟨rfl, hxk⟩
            go_wp2_with fail
            go_ret
            exact ⟨rfl, (HX7.out.trans hx).trans hxk⟩
        · have te5 : ((e5 : Int) == 0) = false := by simp; omega
          have te6 : decide (e5 = 0) = false := by simp; omega
          have hxa5 : Ex wd (wd.alloc (zb z5 23)) := (Below.refl _ _).alloc (Nat.le_refl _) _
          clear hdec
          go_wp2_with fail
          refine (known_any _).mono ?_
          rintro e wk ⟨rfl, hxk⟩
          go_wp2_with fail
          go_ret
          exact ⟨rfl, (HXd.out.trans hxa5).trans hxk⟩
end Go.Proofs.Ytnfbmffafclaaaa.zoneBack
