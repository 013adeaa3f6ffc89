/-
  The walk of BloomBack.
-/
import Derived.Test.YtadcbefgleiijaaFback
namespace Go.Proofs.Ytadcbefgleiijaa.bloomBack
open Go.RowKit Go.Proofs.Ytadcbefgleiijaa
set_option linter.unusedVariables false
set_option linter.unusedSimpArgs false
set_option maxRecDepth 100000 in
set_option maxHeartbeats 4000000 in
theorem walk (p0 : Option Addr) (c0 : Nat) (l0 : List (List UInt8)) (p1 : Option Addr) (c1 : Nat) (l1 : List UInt8) (p2 : Option Addr) (c2 : Nat) (l2 : List UInt8) (w : World) (b0 : Rd st w p0 c0 l0) (m0 : ∀ x ∈ l0, x.length ≤ maxLen) (b1 : Byt w p1 c1 l1) (w1 : l1.length ≤ 140737488351232) (b2 : Byt w p2 c2 l2) (w2 : l2.length ≤ 140737488351232) :
    Calls Try.prog 6 #[.slice p0 l0.length c0, .slice p1 l1.length c1, .slice p2 l2.length c2] w fun e w' => e = .returned (.bool true) ∧ Below w.heap.size w w' := by
  obtain ⟨L, hL⟩ : ∃ L, l0.take 40 = L := ⟨_, rfl⟩
  have hLl : L.length ≤ 40 := by rw [← hL]; simp; omega
  have HLx : Hid (∀ x ∈ L, x.length ≤ 9223372036854775807) := (fun x h => by rw [← hL] at h; exact m0 x (List.mem_of_mem_take h) : ∀ x ∈ L, x.length ≤ 9223372036854775807)
  have HB0 : Hid (Rd st w p0 c0 l0) := b0
  have HRL : Hid (Rd st w p0 c0 L) := (by rw [← hL]; exact b0.take 40 : Rd st w p0 c0 L)
  have HL : Hid (l0.take 40 = L) := hL
  obtain ⟨K, hK⟩ : ∃ K, Fl.bits L = K := ⟨_, rfl⟩
  obtain ⟨B, hB⟩ : ∃ B, Fl.bytes L = B := ⟨_, rfl⟩
  have hR : Fl.rightB (K : Int) B.length = true := by rw [← hK, ← hB]; exact Fl.right_built L
  obtain ⟨_, hKm, hK1, hK2, hBl, _⟩ := Fl.right_div hR
  have hBl8 : B.length ≤ 8192 := by omega
  obtain ⟨Cb, hCb⟩ : ∃ Cb, M.digs K ++ B = Cb := ⟨_, rfl⟩
  have hdl := M.digs_len K
  have hCl : Cb.length ≤ 8202 := by rw [← hCb]; simp; omega
  have HE : Hid (Fl.encE (K : Int) B = (Cb, 0)) := (by unfold Fl.encE; rw [if_pos hR, Int.toNat_natCast, hCb] : Fl.encE (K : Int) B = (Cb, 0))
  obtain ⟨Db, hDb⟩ : ∃ Db, l1 ++ Cb = Db := ⟨_, rfl⟩
  have hDl : Db.length = l1.length + Cb.length := by rw [← hDb]; simp
  have hDl2 : Db.length ≤ 140737488360000 := by omega
  have HD : Hid (Fl.decE Db (l1.length : Int) = (K, B, Db.length, 0)) := (by
    have h := Fl.dec_enc l1 B [] hR
    rw [List.append_nil, List.append_assoc, hCb, hDb] at h
    rw [h, hDl, ← hCb]
    simp
    omega : Fl.decE Db (l1.length : Int) = (K, B, Db.length, 0))
  have HK : Hid (Fl.bits L = K) := hK
  have HBB : Hid (Fl.bytes L = B) := hB
  have HCb : Hid (l1 ++ Cb = Db) := hDb
  have HDl : Hid (Db.length = l1.length + Cb.length) := hDl
  have HB1 : Hid (Byt w p1 c1 l1) := b1
  have HB2 : Hid (Byt w p2 c2 l2) := b2
  have hcl2 := b2.1
  have hcm2 := b2.2.1
  unfold maxLen at hcm2
  obtain ⟨⟨N2, x2, k2, e2⟩, hdec⟩ : ∃ z, Fl.decE l2 0 = z := ⟨_, rfl⟩
  have HD2 : Hid (Fl.decE l2 0 = (N2, x2, k2, e2)) := hdec
  clear b0 m0 b1 b2 hL hK hB hR hKm hCb hDb hDl hBl hdec
  go_enter Try.func6, Try.ntmps6
  go_wp2_with fail
  refine (few_is p0 _ c0 l0 _ rfl HB0.out).mono ?_
  rintro e wq ⟨rfl, hw⟩
  have hw' := hw.symm; clear hw; subst hw'
  rw [HL.out]
  go_wp2_with fail
  refine (b_build p0 _ c0 L _ rfl HRL.out (by omega) HLx.out).mono ?_
  rintro e wb ⟨af, cf, rfl, hbf, hxf⟩
  rw [HBB.out] at hbf
  rw [HK.out, HBB.out]
  obtain ⟨wf, hwwf⟩ : ∃ wf, wb.alloc (Obj.cells #[Value.int IntKind.i64 (K : Int), Value.slice af B.length cf] 25) = wf := ⟨_, rfl⟩
  have hxwf : Ex wb wf := by rw [← hwwf]; exact (Below.refl _ _).alloc (Nat.le_refl _) _
  have HFwf : Hid (FAt wf wb.heap.size (K : Int) (.slice af B.length cf) 25) := (by rw [← hwwf]; exact FAt.new wb (K : Int) _ 25 : FAt wf wb.heap.size (K : Int) (.slice af B.length cf) 25)
  have HBf : Hid (Byt wf af cf B) := hbf.below hxwf
  have HXf : Hid (Ex w wf) := hxf.trans hxwf
  obtain ⟨i0, i1⟩ := HFwf.out.all
  clear hbf hxf hxwf
  simp only [fv]
  go_wp2_with fail
  refine (b_enc K af B.length cf B _ rfl HBf.out (by omega) (by rw [← HK.out]; exact Fl.bits_i6 _) Cb 0 HE.out).mono ?_
  rintro e we ⟨ac, cc, rfl, hbc, hxc⟩
  have HXe : Hid (Ex w we) := HXf.out.trans hxc
  have HFe : Hid (FAt we wb.heap.size K (.slice af B.length cf) 25) := HFwf.out.below hxc
  have HBe : Hid (Byt we af cf B) := HBf.out.below hxc
  have HCe : Hid (Byt we ac cc Cb) := hbc
  clear hbc hxc i0 i1 hwwf
  go_wp2_with (first
    | (refine wpList_build_own rfl 27 rfl 0 [] rfl (by decide) (fun _ => by kernel_rfl) we.heap.size (Nat.le_refl _) ?_; intro g27 w27 ho27 hx27)
    | (at_builtin; refine wpList_append_byt rfl (.tmp 27) (.tmp 28) rfl we.heap.size _ [] rfl ho27 p1 _ c1 l1 rfl rfl (HB1.out.below (HXe.out.trans hx27)) (by simp; omega) (Ex.size hx27) ?_; intro v29 w29 ho29 hg29; have X29 : Ex we w29 := step_below0 hx27 (Ex.size hx27) ho27 hg29; clear hg29; rw [List.nil_append] at ho29)
    | (at_builtin; refine wpList_append_byt2 rfl (.tmp 29) (.tmp 30) rfl we.heap.size _ l1 rfl ho29 ac _ cc Cb rfl rfl (HCe.out.below X29) (by omega) (Ex.size X29) ?_; intro v31 w31 ho31 hg31; have X31 : Ex we w31 := step_below0 X29 (Ex.size X29) ho29 hg31; clear hg31; rw [HCb.out] at ho31; obtain ⟨a31, c31, hv31, hb31⟩ := ho31.byt; subst hv31))
  have HX31 : Hid (Ex we w31) := X31
  have HB31 : Hid (Byt w31 a31 c31 Db) := hb31
  clear X31 hb31 ho31 X29 ho29 hx27 ho27
  refine (b_dec a31 _ c31 Db _ _ rfl HB31.out (by omega) K B Db.length 0 HD.out).mono ?_
  rintro e wd ⟨ag, cg, rfl, hbg, hxg⟩
  obtain ⟨wg, hwwg⟩ : ∃ wg, wd.alloc (Obj.cells #[Value.int IntKind.i64 (K : Int), Value.slice ag B.length cg] 25) = wg := ⟨_, rfl⟩
  have hxwg : Ex wd wg := by rw [← hwwg]; exact (Below.refl _ _).alloc (Nat.le_refl _) _
  have HFwg : Hid (FAt wg wd.heap.size (K : Int) (.slice ag B.length cg) 25) := (by rw [← hwwg]; exact FAt.new wd (K : Int) _ 25 : FAt wg wd.heap.size (K : Int) (.slice ag B.length cg) 25)
  have HXg : Hid (Ex we wg) := HX31.out.trans (hxg.trans hxwg)
  have HBg : Hid (Byt wg ag cg B) := hbg.below hxwg
  obtain ⟨i0, i1⟩ := HFwg.out.all
  obtain ⟨j0, j1⟩ := (HFe.out.below HXg.out).all
  have hs1 := run_str (n := B.length) HBg.out rfl
  have hs2 := run_str (n := B.length) (HBe.out.below HXg.out) rfl
  clear hbg hxg hxwg
  simp only [fv]
  go_wp2_with fail
  refine (b_dec p2 _ c2 l2 _ _ rfl (HB2.out.below (HXe.out.trans HXg.out)) (by omega) N2 x2 k2 e2 HD2.out).mono ?_
  rintro e wd2 ⟨ah, ch, rfl, hbh, hxh⟩
  obtain ⟨wh, hwwh⟩ : ∃ wh, wd2.alloc (Obj.cells #[Value.int IntKind.i64 (N2 : Int), Value.slice ah x2.length ch] 25) = wh := ⟨_, rfl⟩
  have hxwh : Ex wd2 wh := by rw [← hwwh]; exact (Below.refl _ _).alloc (Nat.le_refl _) _
  have HFwh : Hid (FAt wh wd2.heap.size (N2 : Int) (.slice ah x2.length ch) 25) := (by rw [← hwwh]; exact FAt.new wd2 (N2 : Int) _ 25 : FAt wh wd2.heap.size (N2 : Int) (.slice ah x2.length ch) 25)
  have HXh : Hid (Ex w wh) := HXe.out.trans (HXg.out.trans (hxh.trans hxwh))
  have HBh : Hid (Byt wh ah ch x2) := hbh.below hxwh
  obtain ⟨k0', k1'⟩ := HFwh.out.all
  clear hbh hxh hxwh i0 i1 j0 j1 hs1 hs2 hwwg
  simp only [fv]
  by_cases he : e2 = 0
  · subst he
    obtain ⟨hR2, hT2, hk2, hx2⟩ := Fl.dec_ok HD2.out
    have HR2 : Hid (Fl.rightB (N2 : Int) x2.length = true) := hR2
    obtain ⟨Tb, hTb⟩ : ∃ Tb, l2.take k2 = Tb := ⟨_, rfl⟩
    rw [hTb] at hT2
    have HE2 : Hid (Fl.encE (N2 : Int) x2 = (Tb, 0)) := (by unfold Fl.encE; rw [if_pos hR2, Int.toNat_natCast, hT2] : Fl.encE (N2 : Int) x2 = (Tb, 0))
    have HTb : Hid (l2.take k2 = Tb) := hTb
    clear hR2 hT2 hTb
    go_wp2_with fail
    refine (b_enc N2 ah x2.length ch x2 _ rfl HBh.out (by omega) (Fl.right_i6 HR2.out) Tb 0 HE2.out).mono ?_
    rintro e wi ⟨ai, ci, rfl, hbi, hxi⟩
    have HXi : Hid (Ex w wi) := HXh.out.trans hxi
    have HFi : Hid (FAt wi wd2.heap.size N2 (.slice ah x2.length ch) 25) := HFwh.out.below hxi
    have HBi : Hid (Byt wi ai ci Tb) := hbi
    have HB2i : Hid (Byt wi p2 c2 Tb) := (by rw [← HTb.out]; exact (HB2.out.below HXi.out).take hk2 : Byt wi p2 c2 Tb)
    have HTl : Hid (k2 = Tb.length) := (by rw [← HTb.out]; simp; omega : k2 = Tb.length)
    clear hbi hxi k0' k1' hwwh
    go_wp2_with fail
    have hre := Ex.refl
    refine Rg.wp_rows [.inl (Value.int .i64 0), .inl (.bool false), .inl (.bool false), .inl (Value.int .i64 k2), .inl (Value.slice p2 l2.length c2), .inl (Value.int .i64 l2.length), .inl (.bool false), .inl (.bool false), .inl (.bool false), .inl (Value.slice ai Tb.length ci), .inl (Value.string (str Tb)), .inl (Value.slice p2 l2.length c2), .inl (Value.int .i64 k2), .inl (Value.slice p2 k2 c2), .inl (Value.string (str Tb)), .inl (.bool false), .inl (.bool false), .inl (.bool false), .inl (fv N2 (.slice ah x2.length ch)), .inl (.bool true), .inl (.bool false), .inl (.bool false)] (Ex wi) Ex 104 (by kernel_rfl) rfl (by kernel_rfl) ?st hre (Ex.drew _) ?goods ?fin
    case st => exact trivial
    case goods =>
      refine Rg.goods_cons (Rg.good_move hre rfl rfl rfl) ?_
      refine Rg.goods_cons (Rg.good_bin hre rfl rfl rfl rfl (fun _ => rfl) (fun w => by go_simp)) ?_
      refine Rg.goods_cons (Rg.good_move hre rfl rfl rfl) ?_
      refine Rg.goods_cons (Rg.good_move hre rfl rfl rfl) ?_
      refine Rg.goods_cons (Rg.good_move hre rfl rfl rfl) ?_
      refine Rg.goods_cons (Rg.good_len hre rfl rfl (by rintro u wx hC rfl; go_simp)) ?_
      refine Rg.goods_cons (Rg.good_bin hre rfl rfl rfl rfl (fun _ => rfl) (fun w => by go_simp)) ?_
      refine Rg.goods_cons (Rg.good_pick false hre rfl rfl rfl rfl) ?_
      refine Rg.goods_cons (Rg.good_move hre rfl rfl rfl) ?_
      refine Rg.goods_cons (Rg.good_move hre rfl rfl rfl) ?_
      refine Rg.goods_cons (Rg.good_conv hre rfl rfl (by rintro u wx hC rfl; exact run_str (HBi.out.below hC) rfl)) ?_
      refine Rg.goods_cons (Rg.good_move hre rfl rfl rfl) ?_
      refine Rg.goods_cons (Rg.good_move hre rfl rfl rfl) ?_
      refine Rg.goods_cons (Rg.good_slice2 hre rfl rfl rfl (by rintro u wx hC rfl; exact ⟨_, slice_row p2 _ c2 k2 wx (by omega) (by unfold maxLen; omega), rfl⟩)) ?_
      refine Rg.goods_cons (Rg.good_conv hre rfl rfl (by rintro u wx hC rfl; exact run_str (HB2i.out.below hC) HTl.out)) ?_
      refine Rg.goods_cons (Rg.good_bin hre rfl rfl rfl rfl (fun _ => rfl) (fun w => by go_simp)) ?_
      refine Rg.goods_cons (Rg.good_pick false hre rfl rfl rfl rfl) ?_
      refine Rg.goods_cons (Rg.good_move hre rfl rfl rfl) ?_
      refine Rg.goods_cons (Rg.good_load hre rfl rfl rfl (fun wx hC => by exact load_filI (.inl rfl) (HFi.out.below hC))) ?_
      refine Rg.goods_cons (Rg.good_call1 Try.func14 (by kernel_rfl) rfl rfl rfl (by rintro u wx hC rfl; exact ex_row (b_right N2 ah x2.length ch wx (by omega) (Fl.right_i6 HR2.out) true HR2.out) hC)) ?_
      refine Rg.goods_cons (Rg.good_un hre rfl rfl rfl (fun w => by go_simp)) ?_
      refine Rg.goods_cons (Rg.good_pick false hre rfl rfl rfl rfl) ?_
      exact Rg.goods_nil
    case fin =>
      intro wx hx
      simp only [Rg.later, Act.put, List.setIfInBounds_toArray, List.set_cons_succ, List.set_cons_zero]
      have HXx : Hid (Ex w wx) := HXi.out.trans hx
      clear hx
      go_wp2_with fail
      refine (known_any _).mono ?_
      rintro e wk ⟨rfl, hxk⟩
      go_wp2_with fail
      go_ret
      exact ⟨rfl, HXx.out.trans hxk⟩
  · have tne : ((e2 : Int) == 0) = false := by simp; omega
    go_wp2_with fail
    refine (known_any _).mono ?_
    rintro e wk ⟨rfl, hxk⟩
    go_wp2_with fail
    go_ret
    exact ⟨rfl, HXh.out.trans hxk⟩
end Go.Proofs.Ytadcbefgleiijaa.bloomBack
