/-
  The walk of ZoneTells.
-/
import Derived.Test.YtnfbmffafclaaaaZfew
import Derived.Test.YtnfbmffafclaaaaRbuild
import Derived.Test.YtnfbmffafclaaaaRjoin
import Derived.Test.YtnfbmffafclaaaaRenc
import Derived.Test.YtnfbmffafclaaaaRdec
import Derived.Test.YtnfbmffafclaaaaZput
namespace Go.Proofs.Ytnfbmffafclaaaa
open Go.RowKit
theorem Z.enc_len {z : Zn} {E : List UInt8} {e0 : Nat} (h : Z.encE z = (E, e0)) : E.length ≤ 200 := by
  unfold Z.encE at h
  split at h
  · rename_i hR
    simp only [Prod.mk.injEq] at h
    obtain ⟨rfl, _⟩ := h
    have hal := Z.right_all hR
    unfold Z.enc
    have l0 := M.digs_len z.k.toNat
    have l1 := M.digs_len z.r.toNat
    have l2 := M.digs_len z.u.toNat
    have l3 := M.digs_len (M.zig z.mn).toNat
    have l4 := M.digs_len (M.zig z.mx).toNat
    have l5 := M.digs_len z.ms.length
    have l6 := M.digs_len z.xs.length
    have h6 := hal.2.1
    have h7 := hal.2.2
    simp only [List.length_append]
    split
    · simp; omega
    · split
      · simp only [List.length_append]; omega
      · simp only [List.length_append]; omega
  · simp only [Prod.mk.injEq] at h
    rw [← h.1]
    simp
end Go.Proofs.Ytnfbmffafclaaaa
namespace Go.Proofs.Ytnfbmffafclaaaa.zoneTells
open Go.RowKit Go.Proofs.Ytnfbmffafclaaaa
set_option linter.unusedVariables false
set_option linter.unusedSimpArgs false
set_option maxHeartbeats 8000000 in
set_option maxRecDepth 100000 in
theorem walk (a0 : Int) (p1 : Option Addr) (c1 : Nat) (l1 : List Cel) (z2 : Zn) (z3 : Zn) (p4 : Option Addr) (c4 : Nat) (l4 : List UInt8) (a5 : Int) (w : World) (w0 : -9223372036854775808 ≤ a0 ∧ a0 ≤ 9223372036854775807) (b1 : RdC w p1 c1 l1) (m1 : ∀ c ∈ l1, CelOk c) (m2 : ZnOk z2) (m3 : ZnOk z3) (b4 : Byt w p4 c4 l4) (w4 : l4.length ≤ 140737488351232) (w5 : -9223372036854775808 ≤ a5 ∧ a5 ≤ 9223372036854775807) :
    Calls Try.prog 4 #[.int .i64 a0, .slice p1 l1.length c1, zv z2, zv z3, .slice p4 l4.length c4, .int .i64 a5] w fun e w' => e = .returned (.bool true) ∧ Below w.heap.size w w' := by
  obtain ⟨w01, w02⟩ := w0
  obtain ⟨w51, w52⟩ := w5
  obtain ⟨n2k, n2r, n2u, n2n, n2x, n2m, n2s⟩ := m2
  obtain ⟨n3k, n3r, n3u, n3n, n3x, n3m, n3s⟩ := m3
  obtain ⟨w1, hw1⟩ : ∃ w1, w1 = (w.alloc (zb z2 23)).alloc (zb z3 23) := ⟨_, rfl⟩
  have hx1 : Ex w w1 := by rw [hw1]; exact ((Below.refl _ _).alloc (Nat.le_refl _) _).alloc (by simp) _
  have HX1 : Hid (Ex w w1) := hx1
  have HB1 : Hid (RdC w1 p1 c1 l1) := b1.below hx1
  have HB4 : Hid (Byt w1 p4 c4 l4) := b4.below hx1
  have HP1 : Hid (ZAt w1 w.heap.size z2 23) := (by rw [hw1]; exact (ZAt.new w z2 23).alloc _ : ZAt w1 w.heap.size z2 23)
  have HQ1 : Hid (ZAt w1 (w.heap.size + 1) z3 23) := (by have h := ZAt.new (w.alloc (zb z2 23)) z3 23; have hs : (w.alloc (zb z2 23)).heap.size = w.heap.size + 1 := (by simp); rw [hs] at h; rw [hw1]; exact h : ZAt w1 (w.heap.size + 1) z3 23)
  have HW1 : Hid ((w.alloc (zb z2 23)).alloc (zb z3 23) = w1) := hw1.symm
  obtain ⟨C, hC⟩ : ∃ C, C = Z.few l1 := ⟨_, rfl⟩
  have HC : Hid (C = Z.few l1) := hC
  have HM1 : Hid (∀ c ∈ l1, CelOk c) := m1
  have H2m : Hid (z2.ms.length ≤ maxLen) := n2m
  have H2x : Hid (z2.xs.length ≤ maxLen) := n2s
  have H2w : Hid (Z.W3 z2) := ⟨n2k, n2r, n2u⟩
  have H3w : Hid (Z.W3 z3) := ⟨n3k, n3r, n3u⟩
  have hCl : C.length ≤ 40 := by rw [hC]; exact Z.few_len _
  clear b1 b4 hC m1 hx1 hw1
  unfold zv
  go_enter Try.func4, Try.ntmps4
  go_wp2_with fail
  have e1 := HW1.out
  rw [e1]
  clear e1
  refine (few_is p1 _ c1 l1 _ rfl HB1.out).mono ?_
  rintro e w2 ⟨va, rfl, hoa, hx2⟩
  rw [← HC.out] at hoa
  obtain ⟨aC, cC, rfl, hrC⟩ := hoa.rd
  have HX2 : Hid (Ex w1 w2) := hx2
  have HRC : Hid (RdC w2 aC cC C) := hrC
  clear hoa hx2 hrC
  go_wp2_with fail
  refine (z_build a0 aC _ cC C _ rfl HRC.out).mono ?_
  rintro e w3 ⟨rfl, hx3⟩
  obtain ⟨z, hz⟩ : ∃ z, z = Z.build a0 C := ⟨_, rfl⟩
  have hfew := Z.build_few a0 HM1.out
  rw [← HC.out, ← hz] at hfew
  have Hz : Hid (Z.build a0 C = z) := hz.symm
  have Hzw : Hid (Z.W3 z) := (by rw [hz]; exact Z.W3.of_build ⟨w01, w02⟩ (by omega) : Z.W3 z)
  rw [← hz]
  obtain ⟨hf1, hf2, hf3, hf4⟩ := hfew
  have hxa3 : Ex w3 (w3.alloc (zb z 23)) := (Below.refl _ _).alloc (Nat.le_refl _) _
  have HX3 : Hid (Ex w1 (w3.alloc (zb z 23))) := (HX2.out.trans hx3).trans hxa3
  have HZ3 : Hid (ZAt (w3.alloc (zb z 23)) w3.heap.size z 23) := ZAt.new w3 z 23
  have HRC3 : Hid (RdC (w3.alloc (zb z 23)) aC cC C) := (HRC.out.below hx3).below hxa3
  clear hz hx3 hxa3
  simp only [zv]
  go_wp2_with fail
  refine (rbuild_is a0 aC _ cC C _ rfl HRC3.out).mono ?_
  rintro e w4 ⟨rfl, hx4⟩
  rw [Hz.out]
  have hxa4 : Ex w4 (w4.alloc (zb z 31)) := (Below.refl _ _).alloc (Nat.le_refl _) _
  obtain ⟨w5, hw5⟩ : ∃ w5, w5 = w4.alloc (zb z 31) := ⟨_, rfl⟩
  have HX5 : Hid (Ex w1 w5) := (by rw [hw5]; exact (HX3.out.trans hx4).trans hxa4 : Ex w1 w5)
  have HZ5 : Hid (ZAt w5 w3.heap.size z 23) := (by rw [hw5]; exact (HZ3.out.below hx4).below hxa4 : ZAt w5 w3.heap.size z 23)
  have HV5 : Hid (ZAt w5 w4.heap.size z 31) := (by rw [hw5]; exact ZAt.new w4 z 31 : ZAt w5 w4.heap.size z 31)
  have HW5 : Hid (w4.alloc (zb z 31) = w5) := hw5.symm
  clear hx4 hxa4 hw5
  simp only [zv]
  go_wp2_with fail
  have e5 := HW5.out
  rw [e5]
  clear e5
  have hre := Ex.refl
  refine Rg.wp_rows [.inl (zv z), .inl (zv z), .inl (zv z), .inl (.bool false)] (Ex w5) Ex 154 (by kernel_rfl) rfl (by kernel_rfl) ?st hre (Ex.drew _) ?goods ?fin
  case st => exact trivial
  case goods =>
    refine Rg.goods_cons (Rg.good_load hre rfl rfl rfl (fun wx hC => by exact loadI_zone (HZ5.out.below hC))) ?_
    refine Rg.goods_cons (Rg.good_call1 Try.func11 (by kernel_rfl) rfl rfl rfl (by rintro u wx hC rfl; exact ex_row (in_is z wx) hC)) ?_
    refine Rg.goods_cons (Rg.good_load hre rfl rfl rfl (fun wx hC => by exact rloadI_zone (HV5.out.below hC))) ?_
    refine Rg.goods_cons (Rg.good_bin hre rfl rfl rfl rfl (fun w => guard_zone _ _ _ z z w) (fun w => neq_zone z w)) ?_
    exact Rg.goods_nil
  case fin =>
    intro w6 hx6
    simp only [Rg.later, Act.put, List.setIfInBounds_toArray, List.set_cons_succ, List.set_cons_zero]
    have HX6 : Hid (Ex w1 w6) := HX5.out.trans hx6
    have HP6 : Hid (ZAt w6 w.heap.size z2 23) := HP1.out.below HX6.out
    have HQ6 : Hid (ZAt w6 (w.heap.size + 1) z3 23) := HQ1.out.below HX6.out
    have HZ6 : Hid (ZAt w6 w3.heap.size z 23) := HZ5.out.below hx6
    obtain ⟨p0, p1', p2, p3, p4', p5, p6⟩ := HP6.out.all
    obtain ⟨q0, q1, q2, q3, q4, q5, q6⟩ := HQ6.out.all
    obtain ⟨y0, y1, y2, y3, y4, y5, y6⟩ := HZ6.out.all
    clear hx6
    have hOk : ∀ (i : Nat) (x : Zn), [z2, z3, z][i]? = some x → In64 x.mn ∧ In64 x.mx ∧ Z.W3 x := fun i x hi => by
      match i, hi with
      | 0, hi => simp at hi; subst hi; exact ⟨n2n, n2x, H2w.out⟩
      | 1, hi => simp at hi; subst hi; exact ⟨n3n, n3x, H3w.out⟩
      | 2, hi => simp at hi; subst hi; exact ⟨hf3, hf4, Hzw.out⟩
      | n + 3, hi => simp at hi
    have HOk : Hid (∀ (i : Nat) (x : Zn), [z2, z3, z][i]? = some x → In64 x.mn ∧ In64 x.mx ∧ Z.W3 x) := hOk
    have hsL : ZsAt (w6.alloc (.cells (zcs [z2, z3, z]).toArray 23)) w6.heap.size [z2, z3, z] := heap_alloc_new w6 _
    obtain ⟨w7, hw7⟩ : ∃ w7, w7 = w6.alloc (.cells (zcs [z2, z3, z]).toArray 23) := ⟨_, rfl⟩
    have HL7 : Hid (ZsAt w7 w6.heap.size [z2, z3, z]) := (by rw [hw7]; exact hsL : ZsAt w7 w6.heap.size [z2, z3, z])
    have HX7 : Hid (Ex w1 w7) := (by rw [hw7]; exact HX6.out.trans ((Below.refl _ _).alloc (Nat.le_refl _) _) : Ex w1 w7)
    have HP7 : Hid (ZAt w7 w.heap.size z2 23) := HP1.out.below HX7.out
    have HW7 : Hid (w6.alloc (.cells (zcs [z2, z3, z]).toArray 23) = w7) := hw7.symm
    have HB7 : Hid (Byt w7 p4 c4 l4) := HB4.out.below HX7.out
    clear hsL hw7 hOk
    go_wp2_with fail
    have e7 := HW7.out
    simp only [zcs, zc, List.flatMap_cons, List.flatMap_nil, List.cons_append, List.nil_append, List.append_nil] at e7
    rw [e7]
    clear e7
    simp only [zv]
    go_loopw [4, 48] (fun bv iv wr => ∃ (i : Nat) (Bt : List UInt8) (aB : Option Addr) (cB : Nat), i ≤ 3 ∧ iv = .int .i64 i ∧ bv = .slice aB Bt.length cB ∧ Hid (Bt.length ≤ l4.length + 200 * i) ∧ Hid (Byt wr aB cB Bt) ∧ Hid (Ex w7 wr)) (fun bv iv wr => 3 - (intOf iv).toNat)
    case atStart => exact ⟨0, l4, p4, c4, by omega, rfl, rfl, (by omega : l4.length ≤ l4.length + 200 * 0), HB7, Ex.refl w7⟩
    case round =>
      obtain ⟨i, Bt, aB, cB, hi3, rfl, rfl, HBl, HBt, HXr⟩ := hrel
      clear HB7
      have hBl := HBl.out
      by_cases hlt : i < 3
      · have hti : (i : Int) < 3 := by omega
        have tdi : decide ((i : Int) < 3) = true := by simp; omega
        obtain ⟨x, hx⟩ : ∃ x, [z2, z3, z][i]? = some x := ⟨_, List.getElem?_eq_getElem (by simp; omega)⟩
        obtain ⟨o1, o2, o3⟩ := HOk.out i x hx
        have Hxw : Hid (Z.W3 x) := o3
        have Ho1 : Hid (In64 x.mn) := o1
        have Ho2 : Hid (In64 x.mx) := o2
        obtain ⟨c0', c1', c2', c3', c4x, c5', c6'⟩ := (HL7.out.below HXr.out).cells hx
        have hsm := str_size x.ms
        have hsx := str_size x.xs
        have hxa : Ex wr (wr.alloc (zb x 23)) := (Below.refl _ _).alloc (Nat.le_refl _) _
        have HXa : Hid (Ex w7 (wr.alloc (zb x 23))) := HXr.out.trans hxa
        have HQa : Hid (ZAt (wr.alloc (zb x 23)) wr.heap.size x 23) := ZAt.new wr x 23
        have HBa : Hid (Byt (wr.alloc (zb x 23)) aB cB Bt) := HBt.out.below hxa
        clear hx o1 o2 o3 hxa
        by_cases hm1 : 100 < x.ms.length
        · have tm1 : decide (100 < (x.ms.length : Int)) = true := by simp; omega
          have tm2 : decide (100 < x.ms.length) = true := by simp; omega
          go_wp2_with fail
          refine (known_any _).mono ?_
          rintro e wk ⟨rfl, hxk⟩
          go_wp2_with fail
          go_ret
          exact ⟨rfl, HX1.out.trans (HX7.out.trans (HXa.out.trans hxk))⟩
        · have tm1 : decide (100 < (x.ms.length : Int)) = false := by simp; omega
          have tm2 : decide (100 < x.ms.length) = false := by simp; omega
          by_cases hm2 : 100 < x.xs.length
          · have tx1 : decide (100 < (x.xs.length : Int)) = true := by simp; omega
            have tx2 : decide (100 < x.xs.length) = true := by simp; omega
            go_wp2_with fail
            refine (known_any _).mono ?_
            rintro e wk ⟨rfl, hxk⟩
            go_wp2_with fail
            go_ret
            exact ⟨rfl, HX1.out.trans (HX7.out.trans (HXa.out.trans hxk))⟩
          · have tx1 : decide (100 < (x.xs.length : Int)) = false := by simp; omega
            have tx2 : decide (100 < x.xs.length) = false := by simp; omega
            have Hxm : Hid (x.ms.length ≤ maxLen) := (by unfold maxLen; omega : x.ms.length ≤ maxLen)
            have Hxx : Hid (x.xs.length ≤ maxLen) := (by unfold maxLen; omega : x.xs.length ≤ maxLen)
            obtain ⟨⟨E, e0⟩, hE⟩ : ∃ q, Z.encE x = q := ⟨_, rfl⟩
            have HE : Hid (Z.encE x = (E, e0)) := hE
            have hEl := Z.enc_len hE
            obtain ⟨⟨J, j0⟩, hJ⟩ : ∃ q, Z.join z2 x = q := ⟨_, rfl⟩
            have HJ : Hid (Z.join z2 x = (J, j0)) := hJ
            obtain ⟨rb, hrb⟩ : ∃ q, Z.right x = q := ⟨_, rfl⟩
            have Hrb : Hid (Z.right x = rb) := hrb
            clear hE hJ hrb
            go_wp2_with fail
            refine (z_enc x _ Hxm.out Hxx.out Ho1.out Ho2.out Hxw.out E e0 HE.out).mono ?_
            rintro e wb ⟨vb, rfl, ⟨a2, c2, rfl, hbb⟩, hxb⟩
            have HXb : Hid (Ex w7 wb) := HXa.out.trans hxb
            have HQb : Hid (ZAt wb wr.heap.size x 23) := HQa.out.below hxb
            have HEb : Hid (Byt wb a2 c2 E) := hbb
            have HBb : Hid (Byt wb aB cB Bt) := HBa.out.below hxb
            obtain ⟨d0, d1, d2, d3, d4, d5, d6⟩ := HQb.out.all
            clear hbb hxb
            go_wp2_with fail
            refine (in_is x _).mono ?_
            rintro e wc ⟨rfl, hxc⟩
            have HXc : Hid (Ex wb wc) := hxc
            clear hxc
            simp only [zv]
            go_wp2_with fail
            refine (renc_own x _ Hxm.out Hxx.out Ho1.out Ho2.out E e0 HE.out).mono ?_
            rintro e we ⟨ve, rfl, hoe, hxe⟩
            obtain ⟨a4, c4', rfl, hbe⟩ := hoe.byt
            have HXe : Hid (Ex wb we) := HXc.out.trans hxe
            have HXe7 : Hid (Ex w7 we) := HXb.out.trans HXe.out
            have HQe : Hid (ZAt we wr.heap.size x 23) := HQb.out.below HXe.out
            have HPe : Hid (ZAt we w.heap.size z2 23) := HP7.out.below HXe7.out
            have HEe : Hid (Byt we a2 c2 E) := HEb.out.below HXe.out
            have HFe : Hid (Byt we a4 c4' E) := hbe
            have HBe : Hid (Byt we aB cB Bt) := HBb.out.below HXe.out
            clear hoe hxe hbe d0 d1 d2 d3 d4 d5 d6
            obtain ⟨d0, d1, d2, d3, d4, d5, d6⟩ := HQe.out.all
            obtain ⟨u0, u1, u2, u3, u4, u5, u6⟩ := HPe.out.all
            go_wp2_with fail
            refine (z_join z2 x _ H2m.out H2x.out Hxm.out Hxx.out H2w.out Hxw.out J j0 HJ.out).mono ?_
            rintro e wj ⟨rfl, hxj⟩
            have hxaj : Ex wj (wj.alloc (zb J 23)) := (Below.refl _ _).alloc (Nat.le_refl _) _
            obtain ⟨w8, hw8⟩ : ∃ w8, w8 = wj.alloc (zb J 23) := ⟨_, rfl⟩
            have HXe8 : Hid (Ex we w8) := (by rw [hw8]; exact hxj.trans hxaj : Ex we w8)
            have HJ6 : Hid (ZAt w8 wj.heap.size J 23) := (by rw [hw8]; exact ZAt.new wj J 23 : ZAt w8 wj.heap.size J 23)
            have HQ6 : Hid (ZAt w8 wr.heap.size x 23) := HQe.out.below HXe8.out
            have HP6 : Hid (ZAt w8 w.heap.size z2 23) := HPe.out.below HXe8.out
            have HW8 : Hid (wj.alloc (zb J 23) = w8) := hw8.symm
            clear hxj hxaj hw8 d0 d1 d2 d3 d4 d5 d6 u0 u1 u2 u3 u4 u5 u6
            simp only [zv]
            go_wp2_with fail
            have e8 := HW8.out
            rw [e8]
            clear e8
            have hre := Ex.refl
            refine Rg.wp_rows_zone (t := 31) [.inl (zv z2), .inl (zv z2), .inl (zv x), .inl (zv x), .inl (.tuple #[zv J, .int .i64 (j0 : Int)]), .inl (.tuple #[zv J, .int .i64 (j0 : Int)]), .inl (zv J), .inl (Value.int .i64 (j0 : Int)), .inr (fun _ _ => True), .inr (fun _ _ => True), .inl (Value.int .i64 (j0 : Int))] 8 9 23 J 154 (by kernel_rfl) zvar31 rfl (by kernel_rfl) _ _ (.tmp 86) rfl rfl rfl rfl rfl rfl rfl rfl (by kernel_rfl) rfl rfl rfl ?st (by kernel_rfl) ?goods ?fin
            case st => exact ⟨fun _ _ _ _ _ => trivial, fun _ _ _ _ _ => trivial, trivial⟩
            case goods =>
              refine Rg.goodsB_cons (.inr <| Rg.good_load hre rfl rfl rfl (fun wx hC => by exact loadI_zone (HP6.out.below hC))) ?_
              refine Rg.goodsB_cons (.inr <| Rg.good_call1 Try.func11 (by kernel_rfl) rfl rfl rfl (by rintro u wx hC rfl; exact ex_row (in_is z2 wx) hC)) ?_
              refine Rg.goodsB_cons (.inr <| Rg.good_load hre rfl rfl rfl (fun wx hC => by exact loadI_zone (HQ6.out.below hC))) ?_
              refine Rg.goodsB_cons (.inr <| Rg.good_call1 Try.func11 (by kernel_rfl) rfl rfl rfl (by rintro u wx hC rfl; exact ex_row (in_is x wx) hC)) ?_
              refine Rg.goodsB_cons (.inr <| Rg.good_call2 Try.func15 (by kernel_rfl) rfl rfl rfl (by rintro u u2 wx hC rfl rfl; exact ex_row (rjoin_is z2 x wx H2m.out H2x.out Hxm.out Hxx.out J j0 HJ.out) hC)) ?_
              refine Rg.goodsB_cons (.inr <| Rg.good_move hre rfl rfl rfl) ?_
              refine Rg.goodsB_cons (.inr <| Rg.good_extract hre rfl rfl rfl (fun w => by go_simp)) ?_
              refine Rg.goodsB_cons (.inr <| Rg.good_extract hre rfl rfl rfl (fun w => by go_simp)) ?_
              refine Rg.goodsB_cons (.inl rfl) ?_
              refine Rg.goodsB_cons (.inl rfl) ?_
              refine Rg.goodsB_cons (.inr <| Rg.good_assign hre rfl rfl rfl) ?_
              exact Rg.goodsB_nil
            case fin =>
              intro w9 gk hx89 hzk
              simp only [Rg.later, Act.put, List.setIfInBounds_toArray, List.set_cons_succ, List.set_cons_zero]
              intro v23 _ hv23
              simp at hv23
              subst hv23
              have HX9 : Hid (Ex w7 w9) := HXe7.out.trans (HXe8.out.trans hx89)
              have HQ8 : Hid (ZAt w9 wr.heap.size x 23) := HQ6.out.below hx89
              have HE8 : Hid (Byt w9 a2 c2 E) := HEe.out.below (HXe8.out.trans hx89)
              have HF8 : Hid (Byt w9 a4 c4' E) := HFe.out.below (HXe8.out.trans hx89)
              have HB8 : Hid (Byt w9 aB cB Bt) := HBe.out.below (HXe8.out.trans hx89)
              have HJ8 : Hid (ZAt w9 wj.heap.size J 23) := HJ6.out.below hx89
              have HR8 : Hid (ZAt w9 gk J 31) := hzk
              clear hx89 hzk
              go_wp2_with fail
              have hre := Ex.refl
              refine Rg.wp_rows [.inl (zv x), .inl (.bool rb), .inl (zv x), .inl (zv x), .inl (.bool rb), .inl (.bool false), .inl (.bool false), .inl (Value.slice a2 E.length c2), .inl (Value.string (str E)), .inl (Value.slice a4 E.length c4'), .inl (Value.string (str E)), .inl (.bool false), .inl (.bool false), .inl (.bool false), .inl (Value.int .i64 (e0 : Int)), .inl (Value.int .i64 (e0 : Int)), .inl (.bool false), .inl (.bool false), .inl (.bool false), .inl (zv J), .inl (zv J), .inl (zv J), .inl (.bool false), .inl (.bool false), .inl (.bool false), .inl (Value.int .i64 (j0 : Int)), .inl (Value.int .i64 (j0 : Int)), .inl (.bool false), .inl (.bool false)] (Ex w9) Ex 154 (by kernel_rfl) rfl (by kernel_rfl) ?st hre (Ex.drew _) ?goods ?fin
              case st => exact trivial
              case goods =>
                refine Rg.goods_cons (Rg.good_load hre rfl rfl rfl (fun wx hC => by exact loadI_zone (HQ8.out.below hC))) ?_
                refine Rg.goods_cons (Rg.good_call1 Try.func12 (by kernel_rfl) rfl rfl rfl (by rintro u wx hC rfl; exact ex_row (z_right x wx Hxm.out Hxx.out Hxw.out rb Hrb.out) hC)) ?_
                refine Rg.goods_cons (Rg.good_load hre rfl rfl rfl (fun wx hC => by exact loadI_zone (HQ8.out.below hC))) ?_
                refine Rg.goods_cons (Rg.good_call1 Try.func11 (by kernel_rfl) rfl rfl rfl (by rintro u wx hC rfl; exact ex_row (in_is x wx) hC)) ?_
                refine Rg.goods_cons (Rg.good_call1 Try.func13 (by kernel_rfl) rfl rfl rfl (by rintro u wx hC rfl; exact ex_row (rright_is x wx Hxm.out Hxx.out rb Hrb.out) hC)) ?_
                refine Rg.goods_cons (Rg.good_bin hre rfl rfl rfl rfl (fun _ => rfl) (fun w => by cases rb <;> go_simp)) ?_
                refine Rg.goods_cons (Rg.good_move hre rfl rfl rfl) ?_
                refine Rg.goods_cons (Rg.good_move hre rfl rfl rfl) ?_
                refine Rg.goods_cons (Rg.good_conv hre rfl rfl (by rintro u wx hC rfl; exact run_str (HE8.out.below hC) rfl)) ?_
                refine Rg.goods_cons (Rg.good_move hre rfl rfl rfl) ?_
                refine Rg.goods_cons (Rg.good_conv hre rfl rfl (by rintro u wx hC rfl; exact run_str (HF8.out.below hC) rfl)) ?_
                refine Rg.goods_cons (Rg.good_bin hre rfl rfl rfl rfl (fun _ => rfl) (fun w => by go_simp)) ?_
                refine Rg.goods_cons (Rg.good_pick false hre rfl rfl rfl rfl) ?_
                refine Rg.goods_cons (Rg.good_move hre rfl rfl rfl) ?_
                refine Rg.goods_cons (Rg.good_move hre rfl rfl rfl) ?_
                refine Rg.goods_cons (Rg.good_move hre rfl rfl rfl) ?_
                refine Rg.goods_cons (Rg.good_bin hre rfl rfl rfl rfl (fun _ => rfl) (fun w => by go_simp)) ?_
                refine Rg.goods_cons (Rg.good_pick false hre rfl rfl rfl rfl) ?_
                refine Rg.goods_cons (Rg.good_move hre rfl rfl rfl) ?_
                refine Rg.goods_cons (Rg.good_load hre rfl rfl rfl (fun wx hC => by exact loadI_zone (HJ8.out.below hC))) ?_
                refine Rg.goods_cons (Rg.good_call1 Try.func11 (by kernel_rfl) rfl rfl rfl (by rintro u wx hC rfl; exact ex_row (in_is J wx) hC)) ?_
                refine Rg.goods_cons (Rg.good_load hre rfl rfl rfl (fun wx hC => by exact rloadI_zone (HR8.out.below hC))) ?_
                refine Rg.goods_cons (Rg.good_bin hre rfl rfl rfl rfl (fun w => guard_zone _ _ _ J J w) (fun w => neq_zone J w)) ?_
                refine Rg.goods_cons (Rg.good_pick false hre rfl rfl rfl rfl) ?_
                refine Rg.goods_cons (Rg.good_move hre rfl rfl rfl) ?_
                refine Rg.goods_cons (Rg.good_move hre rfl rfl rfl) ?_
                refine Rg.goods_cons (Rg.good_move hre rfl rfl rfl) ?_
                refine Rg.goods_cons (Rg.good_bin hre rfl rfl rfl rfl (fun _ => rfl) (fun w => by go_simp)) ?_
                refine Rg.goods_cons (Rg.good_pick false hre rfl rfl rfl rfl) ?_
                exact Rg.goods_nil
              case fin =>
                intro wm hxm
                simp only [Rg.later, Act.put, List.setIfInBounds_toArray, List.set_cons_succ, List.set_cons_zero]
                have HXm : Hid (Ex w7 wm) := HX9.out.trans hxm
                have hFm := HF8.out.below hxm
                have hBm := HB8.out.below hxm
                clear hxm
                obtain ⟨Bn, hBn⟩ : ∃ Bn, Bt ++ E = Bn := ⟨_, rfl⟩
                have HBn : Hid (Bt ++ E = Bn) := hBn
                have HBnl : Hid (Bn.length ≤ l4.length + 200 * (i + 1)) := (by rw [← hBn]; simp; omega : Bn.length ≤ l4.length + 200 * (i + 1))
                clear hBn
                go_wp2_with (first
                  | (refine wpList_build_own rfl 117 rfl 0 [] rfl (by decide) (fun _ => by kernel_rfl) wm.heap.size (Nat.le_refl _) ?_; intro g36 w36 ho36 hx36)
                  | (at_builtin; refine wpList_append_byt rfl (.tmp 117) (.tmp 118) rfl wm.heap.size _ [] rfl ho36 aB _ cB Bt rfl rfl (hBm.below hx36) (by simp; omega) (Ex.size hx36) ?_; intro v38 w38 ho38 hg38; have hx38 : Ex wm w38 := step_below0 hx36 (Ex.size hx36) ho36 hg38; have hb438 := hFm.below hx38; clear ho36 hg38 hx36)
                  | (at_builtin; refine wpList_append_byt rfl (.tmp 119) (.tmp 120) rfl wm.heap.size _ Bt rfl ho38 a4 _ c4' E rfl rfl hb438 (by omega) (Ex.size hx38) ?_; intro v40 w40 ho40 hg40; have hx40 : Ex wm w40 := step_below0 hx38 (Ex.size hx38) ho38 hg40; clear ho38 hg40 hx38 hb438; rw [HBn.out] at ho40; obtain ⟨aN, cN, hvN, hbN⟩ := ho40.byt; subst hvN)
                  | fail)
                have HX40 : Hid (Ex w7 w40) := HXm.out.trans hx40
                have HBN : Hid (Byt w40 aN cN Bn) := hbN
                clear ho40 hbN hx40
                go_roundw
                case rel => exact ⟨i + 1, Bn, aN, cN, by omega, by go_num, rfl, HBnl, HBN, HX40⟩
                case measure => simp [intOf]; omega
      · have hti : ¬ (i : Int) < 3 := by omega
        have tdi : decide ((i : Int) < 3) = false := by simp; omega
        obtain rfl : i = 3 := by omega
        obtain ⟨⟨z5, k5, e5⟩, hdec⟩ : ∃ q, Z.dec Bt a5 = q := ⟨_, rfl⟩
        have HDec : Hid (Z.dec Bt a5 = (z5, k5, e5)) := hdec
        clear hdec
        go_wp2_with fail
        refine (z_dec aB _ cB Bt a5 _ rfl HBt.out z5 k5 e5 HDec.out).mono ?_
        rintro e wd ⟨rfl, hxd⟩
        have hxad : Ex wd (wd.alloc (zb z5 23)) := (Below.refl _ _).alloc (Nat.le_refl _) _
        have HXd : Hid (Ex w7 (wd.alloc (zb z5 23))) := (HXr.out.trans hxd).trans hxad
        have HUd : Hid (ZAt (wd.alloc (zb z5 23)) wd.heap.size z5 23) := ZAt.new wd z5 23
        have HBd : Hid (Byt (wd.alloc (zb z5 23)) aB cB Bt) := (HBt.out.below hxd).below hxad
        clear hxd hxad
        simp only [zv]
        go_wp2_with fail
        refine (rdec_is aB _ cB Bt a5 _ rfl HBd.out z5 k5 e5 HDec.out).mono ?_
        rintro e wg ⟨rfl, hxg⟩
        have hxag : Ex wg (wg.alloc (zb z5 31)) := (Below.refl _ _).alloc (Nat.le_refl _) _
        obtain ⟨w9, hw9⟩ : ∃ w9, w9 = wg.alloc (zb z5 31) := ⟨_, rfl⟩
        have HX9 : Hid (Ex w7 w9) := (by rw [hw9]; exact (HXd.out.trans hxg).trans hxag : Ex w7 w9)
        have HU9 : Hid (ZAt w9 wd.heap.size z5 23) := (by rw [hw9]; exact (HUd.out.below hxg).below hxag : ZAt w9 wd.heap.size z5 23)
        have HW9 : Hid (ZAt w9 wg.heap.size z5 31) := (by rw [hw9]; exact ZAt.new wg z5 31 : ZAt w9 wg.heap.size z5 31)
        have HWW : Hid (wg.alloc (zb z5 31) = w9) := hw9.symm
        clear hxg hxag hw9
        simp only [zv]
        go_wp2_with fail
        have e9 := HWW.out
        rw [e9]
        clear e9
        have hre := Ex.refl
        refine Rg.wp_rows [.inl (zv z5), .inl (zv z5), .inl (zv z5), .inl (.bool true), .inl (.bool true), .inl (Value.int .i64 (k5 : Int)), .inl (Value.int .i64 (k5 : Int)), .inl (.bool true), .inl (.bool true), .inl (.bool true), .inl (Value.int .i64 (e5 : Int)), .inl (Value.int .i64 (e5 : Int)), .inl (.bool true), .inl (.bool true), .inl (.bool true), .inl (.bool true), .inl (.bool true), .inl (.bool true)] (Ex w9) Ex 154 (by kernel_rfl) rfl (by kernel_rfl) ?st hre (Ex.drew _) ?goods ?fin
        case st => exact trivial
        case goods =>
          refine Rg.goods_cons (Rg.good_load hre rfl rfl rfl (fun wx hC => by exact loadI_zone (HU9.out.below hC))) ?_
          refine Rg.goods_cons (Rg.good_call1 Try.func11 (by kernel_rfl) rfl rfl rfl (by rintro u wx hC rfl; exact ex_row (in_is z5 wx) hC)) ?_
          refine Rg.goods_cons (Rg.good_load hre rfl rfl rfl (fun wx hC => by exact rloadI_zone (HW9.out.below hC))) ?_
          refine Rg.goods_cons (Rg.good_bin hre rfl rfl rfl rfl (fun w => guard_zone _ _ _ z5 z5 w) (fun w => eql_zone z5 w)) ?_
          refine Rg.goods_cons (Rg.good_move hre rfl rfl rfl) ?_
          refine Rg.goods_cons (Rg.good_move hre rfl rfl rfl) ?_
          refine Rg.goods_cons (Rg.good_move hre rfl rfl rfl) ?_
          refine Rg.goods_cons (Rg.good_bin hre rfl rfl rfl rfl (fun _ => rfl) (fun w => by go_simp)) ?_
          refine Rg.goods_cons (Rg.good_pick true hre rfl rfl rfl rfl) ?_
          refine Rg.goods_cons (Rg.good_move hre rfl rfl rfl) ?_
          refine Rg.goods_cons (Rg.good_move hre rfl rfl rfl) ?_
          refine Rg.goods_cons (Rg.good_move hre rfl rfl rfl) ?_
          refine Rg.goods_cons (Rg.good_bin hre rfl rfl rfl rfl (fun _ => rfl) (fun w => by go_simp)) ?_
          refine Rg.goods_cons (Rg.good_pick true hre rfl rfl rfl rfl) ?_
          refine Rg.goods_cons (Rg.good_move hre rfl rfl rfl) ?_
          refine Rg.goods_cons (Rg.good_call0 Try.func19 (by kernel_rfl) rfl rfl rfl (by intro wx hC; exact ex_row (known_any wx) hC)) ?_
          refine Rg.goods_cons (Rg.good_pick true hre rfl rfl rfl rfl) ?_
          refine Rg.goods_cons (Rg.good_assign hre rfl rfl rfl) ?_
          exact Rg.goods_nil
        case fin =>
          intro wx hx
          simp only [Rg.later, Act.put, List.setIfInBounds_toArray, List.set_cons_succ, List.set_cons_zero]
          go_wp2_with fail
          go_ret
          exact ⟨rfl, HX1.out.trans (HX7.out.trans (HX9.out.trans hx))⟩
end Go.Proofs.Ytnfbmffafclaaaa.zoneTells
