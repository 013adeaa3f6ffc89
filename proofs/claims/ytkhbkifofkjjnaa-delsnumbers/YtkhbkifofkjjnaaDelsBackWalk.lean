/-
  The walk of DelsBack.
-/
import Derived.Test.YtkhbkifofkjjnaaDelsPlaysWalk
namespace Go.Proofs.Ytkhbkifofkjjnaa.delsBack
open Go.RowKit Go.Proofs.Ytkhbkifofkjjnaa
set_option linter.unusedVariables false
set_option linter.unusedSimpArgs false
set_option maxRecDepth 100000 in
set_option maxHeartbeats 8000000 in
theorem walk (p0 : Option Addr) (c0 : Nat) (l0 : List UInt8) (a1 : Int) (p2 : Option Addr) (c2 : Nat) (l2 : List Int) (p3 : Option Addr) (c3 : Nat) (l3 : List Int) (w : World) (b0 : Byt w p0 c0 l0) (w0 : l0.length ≤ 140737488351232) (w1' : -9223372036854775808 ≤ a1 ∧ a1 ≤ 9223372036854775807) (b2 : Rd z64 w p2 c2 l2) (m2' : ∀ x ∈ l2, In64 x) (w2' : l2.length ≤ 17592186043904) (b3 : Rd z64 w p3 c3 l3) (m3' : ∀ x ∈ l3, In64 x) (w3' : l3.length ≤ 17592186043904) :
    Calls Try.prog 6 #[.slice p0 l0.length c0, .int .i64 a1, .slice p2 l2.length c2, .slice p3 l3.length c3] w fun e w' => e = .returned (.bool true) ∧ Below w.heap.size w w' := by
  have HB0 : Hid (Byt w p0 c0 l0) := b0
  have HB2 : Hid (Rd z64 w p2 c2 l2) := b2
  have HB3 : Hid (Rd z64 w p3 c3 l3) := b3
  have HO2 : Hid (∀ x ∈ l2, In64 x) := m2'
  have HO3 : Hid (∀ x ∈ l3, In64 x) := m3'
  clear b0 b2 b3 m2' m3'
  go_enter Try.func6, Try.ntmps6
  go_wp2_with fail
  refine (within_any a1 200 _ w1'.1 w1'.2 (by omega) (by omega)).mono ?_
  rintro e wq ⟨n, hn, rfl, hw⟩
  have hw' := hw.symm; clear hw; subst hw'
  have hn200 : n ≤ 200 := by omega
  go_wp2_with fail
  refine (marked_is n p2 _ c2 l2 _ (by omega) rfl HB2.out HO2.out).mono ?_
  rintro e w1 ⟨m1, g1, fp1, x1, rfl, hm1, hr1, hg1, hf1, hgw1, hl1, hk1, hx1⟩
  have hlt1 := hm1.lt
  have HX1 : Hid (Ex w w1) := hx1
  have HM1 : Hid (Mk w1 (.pointer (some ⟨m1, 0, none⟩)) fp1 x1) := hm1
  have HR1 : Hid (RowAt bl 4 w1 g1 x1) := hr1
  have HF1 : Hid (∀ k, fp1 k → w.heap.size ≤ k) := hf1
  have HG1 : Hid (¬ fp1 g1) := hg1
  have HT1 : Hid (∀ k, fp1 k → k < w1.heap.size) := hlt1
  have HL1 : Hid (x1.length = n) := hl1
  have hg1l := hr1.lt
  clear hm1 hr1 hf1 hg1 hlt1 hl1 hk1 hx1
  go_wp2_with fail
  refine (marked_is n p3 _ c3 l3 _ (by omega) rfl (HB3.out.below HX1.out) HO3.out).mono ?_
  rintro e w2 ⟨m2, g2, fp2, x2, rfl, hm2, hr2, hg2, hf2, hgw2, hl2, hk2, hx2⟩
  have hlt2 := hm2.lt
  have HX2 : Hid (Ex w w2) := HX1.out.trans hx2
  have hs12 := hx2.size
  have HM1b : Hid (Mk w2 (.pointer (some ⟨m1, 0, none⟩)) fp1 x1) := HM1.out.below hx2
  have HR1b : Hid (RowAt bl 4 w2 g1 x1) := HR1.out.below hx2
  have HM2 : Hid (Mk w2 (.pointer (some ⟨m2, 0, none⟩)) fp2 x2) := hm2
  have HF2 : Hid (∀ k, fp2 k → w1.heap.size ≤ k) := hf2
  have HT2 : Hid (∀ k, fp2 k → k < w2.heap.size) := hlt2
  have HL2 : Hid (x2.length = n) := hl2
  have HK2 : Hid (x2 = Dl.mks n (l3.take 100)) := hk2
  clear hm2 hr2 hf2 hg2 hlt2 hl2 hk2 hx2 HM1 HR1
  go_wp2_with fail
  refine (marked_is n p3 _ c3 l3 _ (by omega) rfl (HB3.out.below HX2.out) HO3.out).mono ?_
  rintro e w3 ⟨m3, g3, fp3, x3, rfl, hm3, hr3, hg3, hf3, hgw3, hl3, hk3, hx3⟩
  have hlt3 := hm3.lt
  have HX3 : Hid (Ex w w3) := HX2.out.trans hx3
  have hs23 := hx3.size
  have HM1c : Hid (Mk w3 (.pointer (some ⟨m1, 0, none⟩)) fp1 x1) := HM1b.out.below hx3
  have HR1c : Hid (RowAt bl 4 w3 g1 x1) := HR1b.out.below hx3
  have HM2c : Hid (Mk w3 (.pointer (some ⟨m2, 0, none⟩)) fp2 x2) := HM2.out.below hx3
  have hk32 : x3 = x2 := by rw [hk3, HK2.out]
  subst hk32
  have HM3c : Hid (Mk w3 (.pointer (some ⟨m3, 0, none⟩)) fp3 x3) := hm3
  have HF3 : Hid (∀ k, fp3 k → w2.heap.size ≤ k) := hf3
  have HT3 : Hid (∀ k, fp3 k → k < w3.heap.size) := hlt3
  obtain ⟨E1, hE1⟩ : ∃ E, Dl.enc x1 = E := ⟨_, rfl⟩
  have HE1 : Hid (Dl.enc x1 = E1) := hE1
  have hE1l : E1.length ≤ 2000 := by have h := Dl.enc_len x1; have h3 := HL1.out; rw [hE1] at h; omega
  obtain ⟨Db, hDb⟩ : ∃ Db, l0 ++ E1 = Db := ⟨_, rfl⟩
  have hDl : Db.length = l0.length + E1.length := by rw [← hDb]; simp
  have HDc : Hid (Dl.dec Db (l0.length : Int) = (x1, Db.length, 0)) := (by
    have h := Dl.dec_enc (ws := x1) (by have := HL1.out; omega) l0 []
    rw [List.append_nil, hE1, hDb] at h
    rw [h, hDl] : Dl.dec Db (l0.length : Int) = (x1, Db.length, 0))
  have HDb : Hid (l0 ++ E1 = Db) := hDb
  have hDl2 : Db.length ≤ 140737488355328 := by omega
  clear hm3 hr3 hf3 hg3 hlt3 hl3 hk3 hx3 hE1 hDb hDl HM1b HR1b HM2
  go_wp2_with (first
    | (refine wpList_build_own rfl 52 rfl 0 [] rfl (by decide) (fun _ => by kernel_rfl) w3.heap.size (Nat.le_refl _) ?_; intro g52 w52 ho52 hx52)
    | (at_builtin; refine wpList_append_byt rfl (.tmp 52) (.tmp 53) rfl w3.heap.size _ [] rfl ho52 p0 _ c0 l0 rfl rfl ((HB0.out.below HX3.out).below hx52) (by simp; omega) (Ex.size hx52) ?_; intro v54 w54 ho54 hg54; have X54 : Ex w3 w54 := step_below0 hx52 (Ex.size hx52) ho52 hg54; clear hg54; rw [List.nil_append] at ho54))
  have HX54 : Hid (Ex w3 w54) := X54
  have HO54 : Hid (Own w54 w3.heap.size v54 l0) := ho54
  clear X54 ho54 hx52 ho52
  refine (menc_is _ fp1 x1 _ (HM1c.out.below HX54.out) E1 HE1.out).mono ?_
  rintro e w56 ⟨u56, rfl, ⟨a56, c56, hv56, hb56⟩, hx56⟩
  subst hv56
  have hO56 := HO54.out.later hx56
  have hX56 : Ex w3 w56 := HX54.out.trans hx56
  have hs56 := hX56.size
  clear hx56
  go_wp2_with (at_builtin; refine wpList_append_byt rfl (.tmp 54) (.tmp 56) rfl w3.heap.size _ l0 rfl hO56 a56 _ c56 E1 rfl rfl hb56 (by omega) hs56 ?_; intro v57 w57 ho57 hg57; have X57 : Ex w3 w57 := step_below0 hX56 hs56 hO56 hg57; clear hg57; rw [HDb.out] at ho57; obtain ⟨a57, c57, hv57, hb57⟩ := ho57.byt; subst hv57)
  have HX57 : Hid (Ex w3 w57) := X57
  have HB57 : Hid (Byt w57 a57 c57 Db) := hb57
  clear X57 hb57 ho57 hO56 hX56 hb56 hs56
  refine (mdec_ok a57 _ c57 Db _ _ rfl HB57.out hDl2 ⟨by omega, by omega⟩ x1 Db.length HDc.out).mono ?_
  rintro e w4 ⟨v4, fp4, rfl, hm4, hf4, hx4⟩
  obtain ⟨m4, rfl⟩ := hm4.some_
  have hs4 := HX57.out.size
  have HX34 : Hid (Ex w3 w4) := HX57.out.trans hx4
  have HM4 : Hid (Mk w4 (.pointer (some ⟨m4, 0, none⟩)) fp4 x1) := hm4
  have HF4 : Hid (∀ k, fp4 k → w3.heap.size ≤ k) := (fun k hk => by have := hf4 k hk; omega : ∀ k, fp4 k → w3.heap.size ≤ k)
  have HM1d : Hid (Mk w4 (.pointer (some ⟨m1, 0, none⟩)) fp1 x1) := HM1c.out.below HX34.out
  have HR1d : Hid (RowAt bl 4 w4 g1 x1) := HR1c.out.below HX34.out
  have HM2d : Hid (Mk w4 (.pointer (some ⟨m2, 0, none⟩)) fp2 x3) := HM2c.out.below HX34.out
  have HM3d : Hid (Mk w4 (.pointer (some ⟨m3, 0, none⟩)) fp3 x3) := HM3c.out.below HX34.out
  have HX4 : Hid (Ex w w4) := HX3.out.trans HX34.out
  clear hm4 hf4 hx4 hs4
  go_wp2_with fail
  refine (alike_is _ fp4 x1 (some ⟨g1, 0, none⟩) n n _ HM4.out HL1.out.symm (HR1d.out.rd HL1.out.symm (by omega)) (by have := HL1.out; omega)).mono ?_
  rintro e w5 ⟨rfl, hx5⟩
  have HM4e : Hid (Mk w5 (.pointer (some ⟨m4, 0, none⟩)) fp4 x1) := HM4.out.below hx5
  have HM1e : Hid (Mk w5 (.pointer (some ⟨m1, 0, none⟩)) fp1 x1) := HM1d.out.below hx5
  have HM2e : Hid (Mk w5 (.pointer (some ⟨m2, 0, none⟩)) fp2 x3) := HM2d.out.below hx5
  have HM3e : Hid (Mk w5 (.pointer (some ⟨m3, 0, none⟩)) fp3 x3) := HM3d.out.below hx5
  have HX5 : Hid (Ex w w5) := HX4.out.trans hx5
  have HLxy : Hid (x1.length = x3.length) := (by rw [HL1.out, HL2.out] : x1.length = x3.length)
  obtain ⟨z, hz⟩ : ∃ z, Dl.orr x1 x3 = z := ⟨_, rfl⟩
  have HZ1 : Hid (Dl.orr x1 x3 = z) := hz
  have HZ2 : Hid (Dl.orr x3 x1 = z) := (by rw [Dl.orr_comm]; exact hz : Dl.orr x3 x1 = z)
  have HZ3 : Hid (Dl.orr z x3 = z) := (by rw [← hz]; exact Dl.orr_self x1 x3 HLxy.out : Dl.orr z x3 = z)
  have HLz : Hid (z.length = n) := (by rw [← hz, Dl.orr_len HLxy.out]; exact HL1.out : z.length = n)
  have HD12 : Hid (∀ k, fp1 k → ¬ fp2 k) := (fun k h1 h2 => by have := HT1.out k h1; have := HF2.out k h2; omega : ∀ k, fp1 k → ¬ fp2 k)
  have HD13 : Hid (∀ k, fp1 k → ¬ fp3 k) := (fun k h1 h2 => by have := HT1.out k h1; have := HF3.out k h2; omega : ∀ k, fp1 k → ¬ fp3 k)
  have HD14 : Hid (∀ k, fp1 k → ¬ fp4 k) := (fun k h1 h2 => by have := HT1.out k h1; have := HF4.out k h2; omega : ∀ k, fp1 k → ¬ fp4 k)
  have HD23 : Hid (∀ k, fp2 k → ¬ fp3 k) := (fun k h1 h2 => by have := HT2.out k h1; have := HF3.out k h2; omega : ∀ k, fp2 k → ¬ fp3 k)
  have HD24 : Hid (∀ k, fp2 k → ¬ fp4 k) := (fun k h1 h2 => by have := HT2.out k h1; have := HF4.out k h2; omega : ∀ k, fp2 k → ¬ fp4 k)
  have hsw1 := HX1.out.size
  have HF2w : Hid (∀ k, fp2 k → w.heap.size ≤ k) := (fun k hk => by have := HF2.out k hk; omega : ∀ k, fp2 k → w.heap.size ≤ k)
  clear hx5 hz
  go_wp2_with fail
  refine (or_is _ _ fp1 fp2 x1 x3 _ HM1e.out HM2e.out HLxy.out HD12.out z HZ1.out).mono ?_
  rintro e w6 ⟨rfl, fpa, hm, ht, hf⟩
  have HMa6 : Hid (Mk w6 (.pointer (some ⟨m1, 0, none⟩)) fpa z) := hm
  have HMb6 : Hid (Mk w6 (.pointer (some ⟨m2, 0, none⟩)) fp2 x3) := HM2e.out.touch ht (fun k hk h => HD12.out k h hk)
  have HMc6 : Hid (Mk w6 (.pointer (some ⟨m3, 0, none⟩)) fp3 x3) := HM3e.out.touch ht (fun k hk h => HD13.out k h hk)
  have HMm6 : Hid (Mk w6 (.pointer (some ⟨m4, 0, none⟩)) fp4 x1) := HM4e.out.touch ht (fun k hk h => HD14.out k h hk)
  have HDa2 : Hid (∀ k, fpa k → ¬ fp2 k) := Disj.grow HD12.out hf HM2e.out.lt
  have HDa3 : Hid (∀ k, fpa k → ¬ fp3 k) := Disj.grow HD13.out hf HM3e.out.lt
  have hsw5 := HX5.out.size
  have HFa : Hid (∀ k, fpa k → w.heap.size ≤ k) := (fun k hk => by rcases hf k hk with h | h; exact HF1.out k h; omega : ∀ k, fpa k → w.heap.size ≤ k)
  have HX6 : Hid (Ex w w6) := Touch.ex HX5.out ht HF1.out
  clear hm ht hf hsw5
  go_wp2_with fail
  refine (or_is _ _ fp2 fp4 x3 x1 _ HMb6.out HMm6.out HLxy.out.symm HD24.out z HZ2.out).mono ?_
  rintro e w7 ⟨rfl, fpb, hm, ht, hf⟩
  have HMb7 : Hid (Mk w7 (.pointer (some ⟨m2, 0, none⟩)) fpb z) := hm
  have HMa7 : Hid (Mk w7 (.pointer (some ⟨m1, 0, none⟩)) fpa z) := HMa6.out.touch ht HDa2.out
  have HMc7 : Hid (Mk w7 (.pointer (some ⟨m3, 0, none⟩)) fp3 x3) := HMc6.out.touch ht (fun k hk h => HD23.out k h hk)
  have HDba : Hid (∀ k, fpb k → ¬ fpa k) := Disj.grow (fun k h1 h2 => HDa2.out k h2 h1) hf HMa6.out.lt
  have HX7 : Hid (Ex w w7) := Touch.ex HX6.out ht HF2w.out
  clear hm ht hf
  go_wp2_with fail
  refine (or_is _ _ fpa fp3 z x3 _ HMa7.out HMc7.out (by rw [HLz.out, HL2.out]) HDa3.out z HZ3.out).mono ?_
  rintro e w9 ⟨rfl, fpc, hm, ht, hf⟩
  have HMa9 : Hid (Mk w9 (.pointer (some ⟨m1, 0, none⟩)) fpc z) := hm
  have HMb9 : Hid (Mk w9 (.pointer (some ⟨m2, 0, none⟩)) fpb z) := HMb7.out.touch ht (fun k hk h => HDba.out k hk h)
  have HX9 : Hid (Ex w w9) := Touch.ex HX7.out ht HFa.out
  obtain ⟨E2, hE2⟩ : ∃ E, Dl.enc z = E := ⟨_, rfl⟩
  have HE2 : Hid (Dl.enc z = E2) := hE2
  obtain ⟨ct, hct⟩ : ∃ c, Dl.count z = c := ⟨_, rfl⟩
  have HCt : Hid (Dl.count z = ct) := hct
  obtain ⟨LF, hLF⟩ : ∃ L, Dl.left z = L := ⟨_, rfl⟩
  have HLF : Hid (Dl.left z = LF) := hLF
  obtain ⟨lf, hlf⟩ : ∃ k, LF.length = k := ⟨_, rfl⟩
  have HLl : Hid (LF.length = lf) := hlf
  have hsum : lf + ct = n := by have := Dl.left_len z; rw [hLF, hct, hlf, HLz.out] at this; exact this
  have hs1 : lf + ct ≤ n := by omega
  have hs2 : n ≤ lf + ct := by omega
  clear hm ht hf hE2 hct hLF hlf hsum
  go_wp2_with fail
  have hre := Ex.refl
  refine Rg.wp_rows [.inl (.int .i64 0), .inl (.bool true), .inl (.bool true), .inl (.int .i64 0), .inl (.bool true), .inl (.bool true), .inl (.bool true), .inl (.int .i64 0), .inl (.bool true), .inl (.bool true), .inl (.bool true), .inl (.pointer (some ⟨m1, 0, none⟩)), .inr (IsByt E2), .inl (.string (str E2)), .inl (.pointer (some ⟨m2, 0, none⟩)), .inr (IsByt E2), .inl (.string (str E2)), .inl (.bool true), .inl (.bool true), .inl (.bool true), .inl (.pointer (some ⟨m1, 0, none⟩)), .inl (.int .i64 (ct : Int)), .inl (.pointer (some ⟨m1, 0, none⟩)), .inr (IsRd z64 LF), .inl (.int .i64 (lf : Int)), .inl (.int .i64 (n : Int)), .inl (.int .i64 (n : Int)), .inl (.bool true), .inl (.bool true), .inl (.bool true), .inl (.bool true), .inl (.bool true), .inl (.bool true)] (Ex w9) Ex 125 (by kernel_rfl) rfl (by kernel_rfl) ?st hre (Ex.drew _) ?goods ?fin
  case st => exact ⟨IsByt.stands _, IsByt.stands _, IsRd.stands _, trivial⟩
  case goods =>
    refine Rg.goods_cons (Rg.good_move hre rfl rfl rfl) ?_
    refine Rg.goods_cons (Rg.good_bin hre rfl rfl rfl rfl (fun _ => rfl) (fun w => by go_simp)) ?_
    refine Rg.goods_cons (Rg.good_move hre rfl rfl rfl) ?_
    refine Rg.goods_cons (Rg.good_move hre rfl rfl rfl) ?_
    refine Rg.goods_cons (Rg.good_bin hre rfl rfl rfl rfl (fun _ => rfl) (fun w => by go_simp)) ?_
    refine Rg.goods_cons (Rg.good_pick true hre rfl rfl rfl rfl) ?_
    refine Rg.goods_cons (Rg.good_move hre rfl rfl rfl) ?_
    refine Rg.goods_cons (Rg.good_move hre rfl rfl rfl) ?_
    refine Rg.goods_cons (Rg.good_bin hre rfl rfl rfl rfl (fun _ => rfl) (fun w => by go_simp)) ?_
    refine Rg.goods_cons (Rg.good_pick true hre rfl rfl rfl rfl) ?_
    refine Rg.goods_cons (Rg.good_move hre rfl rfl rfl) ?_
    refine Rg.goods_cons (Rg.good_move hre rfl rfl rfl) ?_
    refine Rg.goods_cons (Rg.good_call1 Try.func12 (by kernel_rfl) rfl rfl rfl (by rintro u wx hC rfl; exact row_ex (menc_is _ fpc z wx (HMa9.out.below hC) E2 HE2.out) hC)) ?_
    refine Rg.goods_cons (Rg.good_conv hre rfl rfl (by rintro u wx hC hu; exact conv_row hu)) ?_
    refine Rg.goods_cons (Rg.good_move hre rfl rfl rfl) ?_
    refine Rg.goods_cons (Rg.good_call1 Try.func12 (by kernel_rfl) rfl rfl rfl (by rintro u wx hC rfl; exact row_ex (menc_is _ fpb z wx (HMb9.out.below hC) E2 HE2.out) hC)) ?_
    refine Rg.goods_cons (Rg.good_conv hre rfl rfl (by rintro u wx hC hu; exact conv_row hu)) ?_
    refine Rg.goods_cons (Rg.good_bin hre rfl rfl rfl rfl (fun _ => rfl) (fun w => by go_simp)) ?_
    refine Rg.goods_cons (Rg.good_pick true hre rfl rfl rfl rfl) ?_
    refine Rg.goods_cons (Rg.good_move hre rfl rfl rfl) ?_
    refine Rg.goods_cons (Rg.good_move hre rfl rfl rfl) ?_
    refine Rg.goods_cons (Rg.good_call1 Try.func22 (by kernel_rfl) rfl rfl rfl (by rintro u wx hC rfl; exact ex_row (count_is _ fpc z wx (HMa9.out.below hC) ct HCt.out) hC)) ?_
    refine Rg.goods_cons (Rg.good_move hre rfl rfl rfl) ?_
    refine Rg.goods_cons (Rg.good_call1 Try.func15 (by kernel_rfl) rfl rfl rfl (by rintro u wx hC rfl; exact row_ex (left_is _ fpc z wx (HMa9.out.below hC) LF HLF.out) hC)) ?_
    refine Rg.goods_cons (Rg.good_len hre rfl rfl (by rintro u wx hC ⟨au, cu, rfl, hru⟩; rw [show LF.length = lf from HLl.out]; go_simp)) ?_
    refine Rg.goods_cons (Rg.good_bin hre rfl rfl rfl rfl (fun _ => rfl) (fun w => by go_simp; rw [I.wi64 _ (by omega) (by omega)]; omega)) ?_
    refine Rg.goods_cons (Rg.good_move hre rfl rfl rfl) ?_
    refine Rg.goods_cons (Rg.good_bin hre rfl rfl rfl rfl (fun _ => rfl) (fun w => by go_simp)) ?_
    refine Rg.goods_cons (Rg.good_pick true hre rfl rfl rfl rfl) ?_
    refine Rg.goods_cons (Rg.good_move hre rfl rfl rfl) ?_
    refine Rg.goods_cons (Rg.good_call0 Try.func16 (by kernel_rfl) rfl rfl rfl (by intro wx hC; exact ex_row (known_any wx) hC)) ?_
    refine Rg.goods_cons (Rg.good_pick true hre rfl rfl rfl rfl) ?_
    refine Rg.goods_cons (Rg.good_assign hre rfl rfl rfl) ?_
    exact Rg.goods_nil
  case fin =>
    intro wx hx
    simp only [Rg.later, Act.put, List.setIfInBounds_toArray, List.set_cons_succ, List.set_cons_zero]
    intro vin0 hin0 vin1 hin1 vin2 hin2
    clear hin0 hin1 hin2
    have HXx : Hid (Ex w wx) := HX9.out.trans hx
    clear hx
    go_wp2_with fail
    go_ret
    exact ⟨rfl, HXx.out⟩
end Go.Proofs.Ytkhbkifofkjjnaa.delsBack
