/-
  The walk of ChunkTells.
-/
import Derived.Test.YtnmonoafjijfhaaGreatM55
import Derived.Test.YtnmonoafjijfhaaGreatM50
namespace Go.Proofs.YtnmonoafjijfhaaGreat.chunkTells
open Go.RowKit Go.Proofs.YtnmonoafjijfhaaGreat
set_option linter.unusedVariables false
set_option linter.unusedSimpArgs false
/-- The lists that are held: three, each with its kind. -/
def Lists3 (a0 : Int) (g0 : Nat) (W : World) : Prop := ∀ i, i < 3 → ∃ (ax : Option Addr) (nx cx : Nat) (X : List Ce) (kk : Int), W.cell? ⟨g0, i, none⟩ = some (.slice ax nx cx) ∧ nx = X.length ∧ RdC W ax cx X ∧ (∀ c ∈ X, Okc c) ∧ nx ≤ 60 ∧ ((i = 0 ∧ kk = a0) ∨ (0 < i ∧ kk = (i : Int)))
set_option maxRecDepth 100000 in
set_option maxHeartbeats 8000000 in
theorem walk (a0 : Int) (p1 : Option Addr) (c1 : Nat) (l1 : List Ce) (a2 : Bool) (w : World) (w0 : -9223372036854775808 ≤ a0 ∧ a0 ≤ 9223372036854775807) (b1 : RdC w p1 c1 l1) (m1 : ∀ c ∈ l1, In64 c.n ∧ c.s.length ≤ maxLen) :
    Calls Tryz.prog 4 #[.int .i64 a0, .slice p1 l1.length c1, .bool a2] w fun e w' => e = .returned (.bool true) ∧ Below w.heap.size w w' := by
  have HB1 : Hid (RdC w p1 c1 l1) := b1
  have HM1 : Hid (∀ c ∈ l1, In64 c.n ∧ c.s.length ≤ maxLen) := m1
  obtain ⟨n1, hn1⟩ : ∃ n, l1.length = n := ⟨_, rfl⟩
  rw [hn1]
  have HN1 : Hid (l1.length = n1) := hn1
  clear b1 m1 hn1
  go_enter Tryz.func4, Tryz.ntmps4
  go_wp2_with fail
  refine (few_is p1 n1 c1 l1 w HN1.out.symm HB1.out (fun c hc => (HM1.out c hc).2)).mono ?_
  rintro e1 w1 ⟨v1, rfl, ho1, hx1⟩
  obtain ⟨X1, hX1⟩ : ∃ X, (l1.take 60).map fewC = X := ⟨_, rfl⟩
  rw [hX1] at ho1
  obtain ⟨ax1, cx1, rfl, hr1⟩ := ho1.rd cc_len
  obtain ⟨nx1, hnx1⟩ : ∃ n, X1.length = n := ⟨_, rfl⟩
  rw [hnx1]
  have HNX1 : Hid (X1.length = nx1) := hnx1
  have HR1 : Hid (RdC w1 ax1 cx1 X1) := hr1
  have HX1 : Hid (Ex w w1) := hx1
  have HOk1 : Hid (∀ c ∈ X1, Okc c) := (by rw [← hX1]; exact few_okc HM1.out : ∀ c ∈ X1, Okc c)
  have hl1 : nx1 ≤ 60 := by rw [← hnx1, ← hX1]; exact few_len l1
  have HB11 : Hid (RdC w1 p1 c1 l1) := HB1.out.below hx1
  clear ho1 hr1 hx1 hX1 hnx1
  go_wp2_with fail
  refine (made_is 1 a2 p1 n1 c1 l1 w1 (.inl rfl) HN1.out.symm HB11.out HM1.out).mono ?_
  rintro e2 w2 ⟨v2, rfl, X2, ho2, hl2, hn2, hx2⟩
  obtain ⟨ax2, cx2, rfl, hr2⟩ := ho2.rd cc_len
  obtain ⟨nx2, hnx2⟩ : ∃ n, X2.length = n := ⟨_, rfl⟩
  rw [hnx2]
  rw [hnx2] at hl2
  have HNX2 : Hid (X2.length = nx2) := hnx2
  have HR2 : Hid (RdC w2 ax2 cx2 X2) := hr2
  have HR12 : Hid (RdC w2 ax1 cx1 X1) := HR1.out.below hx2
  have HX2 : Hid (Ex w w2) := HX1.out.trans hx2
  have HOk2 : Hid (∀ c ∈ X2, Okc c) := nrm_okc hn2
  have HB12 : Hid (RdC w2 p1 c1 l1) := HB11.out.below hx2
  clear ho2 hr2 hx2 hnx2 hn2 HR1 HB11
  go_wp2_with fail
  refine (made_is 2 a2 p1 n1 c1 l1 w2 (.inr rfl) HN1.out.symm HB12.out HM1.out).mono ?_
  rintro e3 w3 ⟨v3, rfl, X3, ho3, hl3, hn3, hx3⟩
  obtain ⟨ax3, cx3, rfl, hr3⟩ := ho3.rd cc_len
  obtain ⟨nx3, hnx3⟩ : ∃ n, X3.length = n := ⟨_, rfl⟩
  rw [hnx3]
  rw [hnx3] at hl3
  obtain ⟨W, hW⟩ : ∃ W, w3.alloc (.cells #[.slice ax1 nx1 cx1, .slice ax2 nx2 cx2, .slice ax3 nx3 cx3] 26) = W := ⟨_, rfl⟩
  have hxW : Ex w3 W := by rw [← hW]; exact (Below.refl _ _).alloc (Nat.le_refl _) _
  have HXW : Hid (Ex w W) := (HX2.out.trans hx3).trans hxW
  have hq0 : W.cell? ⟨w3.heap.size, 0, none⟩ = some (.slice ax1 nx1 cx1) := by rw [← hW]; simp
  have hq1 : W.cell? ⟨w3.heap.size, 1, none⟩ = some (.slice ax2 nx2 cx2) := by rw [← hW]; simp
  have hq2 : W.cell? ⟨w3.heap.size, 2, none⟩ = some (.slice ax3 nx3 cx3) := by rw [← hW]; simp
  have HL : Hid (Lists3 a0 w3.heap.size W) := (by
    intro i hi
    have hi3 : i = 0 ∨ i = 1 ∨ i = 2 := by omega
    rcases hi3 with rfl | rfl | rfl
    · exact ⟨ax1, nx1, cx1, X1, a0, hq0, HNX1.out.symm, HR12.out.below (hx3.trans hxW), HOk1.out, hl1, .inl ⟨rfl, rfl⟩⟩
    · exact ⟨ax2, nx2, cx2, X2, 1, hq1, HNX2.out.symm, HR2.out.below (hx3.trans hxW), HOk2.out, hl2, .inr ⟨by omega, rfl⟩⟩
    · exact ⟨ax3, nx3, cx3, X3, 2, hq2, hnx3.symm, hr3.below hxW, nrm_okc hn3, hl3, .inr ⟨by omega, rfl⟩⟩ : Lists3 a0 w3.heap.size W)
  clear ho3 hr3 hx3 hnx3 hn3 hxW hq0 hq1 hq2 HR2 HR12 HB12 HX2 HX1 HB1 HM1 HOk1 HOk2 HNX1 HNX2 HN1
  go_wp2_with fail
  obtain ⟨g0, hg0⟩ : ∃ g0, w3.heap.size = g0 := ⟨_, rfl⟩
  rw [hg0] at HL ⊢
  clear hW hg0 hl1 hl2 hl3
  go_loopw [8, 9, 10, 11, 12, 13, 14, 15, 16, 17, 18, 19, 20, 32] (fun _ _ _ _ _ _ _ _ _ _ _ _ _ iv wr => ∃ i : Nat, i ≤ 3 ∧ iv = .int .i64 (i : Int) ∧ Hid (Ex W wr)) (fun _ _ _ _ _ _ _ _ _ _ _ _ _ iv wr => 3 - (intOf iv).toNat)
  case atStart => exact ⟨0, by omega, rfl, Ex.refl _⟩
  case round =>
    obtain ⟨i, hi, rfl, HX⟩ := hrel
    by_cases hlt : i < 3
    · have ti : (i : Int) < 3 := by omega
      obtain ⟨ax, nx, cx, X, kk, hq, hnx, hrx, hok, hl6, hkk⟩ := HL.out i hlt
      have hq' : wr.cell? ⟨g0, i, none⟩ = some (.slice ax nx cx) := cell_ext hq HX.out
      have HNX : Hid (nx = X.length) := hnx
      have HRX : Hid (RdC wr ax cx X) := hrx.below HX.out
      have HOk : Hid (∀ c ∈ X, Okc c) := hok
      have HKK : Hid ((i = 0 ∧ kk = a0) ∨ (0 < i ∧ kk = (i : Int))) := hkk
      obtain ⟨⟨r, e0⟩, hE⟩ : ∃ z, Ck.encE kk X = z := ⟨_, rfl⟩
      have HE : Hid (Ck.encE kk X = (r, e0)) := hE
      clear hq hnx hrx hok hkk hE
      go_upto_if 39 with fail
      go_cut [10] (fun v wx => v = .int .i64 kk ∧ wx = wr)
      case first =>
        rcases HKK.out with ⟨rfl, rfl⟩ | ⟨h0, rfl⟩
        · go_wp2_with fail
          go_meet
          exact ⟨rfl, rfl⟩
        · have h0i : (0 : Int) < (i : Int) := by omega
          go_wp2_with fail
          go_meet
          exact ⟨rfl, rfl⟩
      case rest =>
        obtain ⟨rfl, hwx⟩ := hcut
        have hwx' := hwx.symm
        clear hwx
        subst hwx'
        go_wp2_with fail
        refine (encode_is kk ax nx cx X wr HNX.out HRX.out (fun c hc => (HOk.out c hc).1) r e0 HE.out).mono ?_
        rintro e4 w4 ⟨v4, rfl, ho4, hx4⟩
        obtain ⟨ap, cp, rfl, hb4⟩ := ho4.byt
        obtain ⟨nr, hnr⟩ : ∃ nr, r.length = nr := ⟨_, rfl⟩
        rw [hnr]
        have HNR : Hid (r.length = nr) := hnr
        have HB4 : Hid (Byt w4 ap cp r) := hb4
        have HX4 : Hid (Ex W w4) := HX.out.trans hx4
        have HRX4 : Hid (RdC w4 ax cx X) := HRX.out.below hx4
        clear ho4 hb4 hnr hx4 HX HRX
        go_wp2_with fail
        refine (rencode15_is kk ax nx cx X w4 HNX.out HRX4.out (fun c hc => (HOk.out c hc).1) (fun c hc => (HOk.out c hc).2) r e0 HE.out).mono ?_
        rintro e5 w5 ⟨v5, rfl, ho5, hx5⟩
        obtain ⟨aq, cq, rfl, hb5⟩ := ho5.byt
        rw [HNR.out]
        have HB5 : Hid (Byt w5 aq cq r) := hb5
        have HX5 : Hid (Ex W w5) := HX4.out.trans hx5
        have hs1 : (convert 22 9 (.slice ap nr cp)).run Tryz.prog w5 = .ok (.string (str r)) w5 := run_str (HB4.out.below hx5) HNR.out.symm
        have hs2 : (convert 22 9 (.slice aq nr cq)).run Tryz.prog w5 = .ok (.string (str r)) w5 := run_str hb5 HNR.out.symm
        have hZs : ((str r).toList == (str r).toList) = true := by simp
        clear ho5 hb5 hx5 HX4 HRX4 HB4
        by_cases he : e0 = 0
        · subst he
          obtain ⟨hk12, hl65, hfits, hrE⟩ := Ck.encE_inv HE.out
          have ho := Ck.opn_enc hk12 hl65 hfits (fun c hc => (HOk.out c hc).1)
          rw [← hrE] at ho
          have hsh := enc_short hk12 hl65 hfits
          rw [← hrE] at hsh
          have HO : Hid (Ck.opn r = some (kk, X.map Ck.cz, if Ck.form kk X = 2 then T.bld (Ck.txts X) else [])) := ho
          have HSh : Hid (r.length ≤ 140737488355328) := (by omega : r.length ≤ 140737488355328)
          clear hk12 hl65 hfits hrE ho hsh
          go_wp2_with fail
          refine (open_is aq nr cq r w5 HNR.out.symm HB5.out HSh.out).mono ?_
          rintro e6 w6 ⟨v6, rfl, hop, hx6⟩
          obtain ⟨g, fp, rfl, hok, hu, hg, hfp⟩ := hop.1 (opened HO.out).1
          have HOkB : Hid (Ok r) := hok
          have HC6 : Hid (Chk w6 g r fp) := .inl hu
          have HG : Hid (W.heap.size ≤ g) := Nat.le_trans HX5.out.size hg
          have HX6 : Hid (Ex W w6) := HX5.out.trans hx6
          have HB6 : Hid (Byt w6 aq cq r) := HB5.out.below hx6
          clear hs1 hs2 hZs hop hok hu hg hfp hx6 HX5 HB5
          go_wp2_with fail
          refine (ropen15_is aq nr cq r w6 HNR.out.symm HB6.out HSh.out).mono ?_
          rintro e7 w7 ⟨v7, rfl, hro, hx7⟩
          obtain ⟨al, cl, ad, cd, rfl, hrl, hrd⟩ := hro.2 _ _ _ HO.out
          obtain ⟨L, hL⟩ : ∃ L, X.map Ck.cz = L := ⟨_, rfl⟩
          obtain ⟨D, hD⟩ : ∃ D, (if Ck.form kk X = 2 then T.bld (Ck.txts X) else []) = D := ⟨_, rfl⟩
          have ho := HO.out
          rw [hL, hD] at ho
          rw [hL] at hrl ⊢
          rw [hD] at hrd ⊢
          obtain ⟨nl, hnl⟩ : ∃ nl, L.length = nl := ⟨_, rfl⟩
          obtain ⟨nd, hnd⟩ : ∃ nd, D.length = nd := ⟨_, rfl⟩
          rw [hnl, hnd]
          have HT := tells_all (w0 := W) ho (HC6.out.below hx7) HOkB.out hnl.symm hrl hnd.symm hrd (HX6.out.trans hx7) HG.out
          have HT' : Hid (Calls Tryz.prog 13 #[.pointer (some ⟨g, 0, none⟩), .int .i64 kk, .slice al nl cl, .slice ad nd cd] w7 fun e w' => e = .returned (.bool true) ∧ Ex W w') := HT
          clear hro hrl hrd hL hD ho hnl hnd hx7 HT HX6 HB6 HC6
          go_wp2_with fail
          refine Calls.mono HT'.out ?_
          rintro e8 w8 ⟨rfl, hx8⟩
          have HX8 : Hid (Ex W w8) := hx8
          clear hx8 HT'
          go_wp2_with fail
          go_roundw
          case rel => exact ⟨i + 1, by omega, by go_num, HX8⟩
          case measure => simp [intOf]; omega
        · have t1 : ((e0 : Int) != 0) = true := by simp; omega
          clear he
          go_wp2_with fail
          go_roundw
          case rel => exact ⟨i + 1, by omega, by go_num, HX5⟩
          case measure => simp [intOf]; omega
    · have ti : ¬ (i : Int) < 3 := by omega
      go_wp2_with fail
      refine (known_is wr).mono ?_
      rintro ek wk ⟨rfl, hxk⟩
      go_wp2_with fail
      go_ret
      exact ⟨rfl, (HXW.out.trans HX.out).trans hxk⟩
end Go.Proofs.YtnmonoafjijfhaaGreat.chunkTells
