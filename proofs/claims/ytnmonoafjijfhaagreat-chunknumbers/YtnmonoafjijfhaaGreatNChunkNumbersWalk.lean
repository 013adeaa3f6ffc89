/-
  The walk of ChunkNumbers.
-/
import Derived.Test.YtnmonoafjijfhaaGreatM55
import Derived.Test.YtnmonoafjijfhaaGreatM50
import Derived.Deep.Cut
namespace Go.Proofs.YtnmonoafjijfhaaGreat.chunkNumbers
open Go.RowKit Go.Proofs.YtnmonoafjijfhaaGreat
set_option linter.unusedVariables false
set_option linter.unusedSimpArgs false
/-- The two columns of a round, each with its kind. -/
def Cols2 (g0 : Nat) (W : World) : Prop := ∀ i, i < 2 → ∃ (ax : Option Addr) (nx cx : Nat) (X : List Ce), W.cell? ⟨g0, i, none⟩ = some (.slice ax nx cx) ∧ nx = X.length ∧ RdC W ax cx X ∧ (∀ c ∈ X, Fit (1 + (i : Int)) c) ∧ nx ≤ 40
/-- The rows of bytes that are asked at last. -/
def Rows12 (g0 : Nat) (W : World) : Prop := ∀ i, i < 12 → ∃ (ax : Option Addr) (nx cx : Nat) (Y : List UInt8), W.cell? ⟨g0, i, none⟩ = some (.slice ax nx cx) ∧ nx = Y.length ∧ Byt W ax cx Y ∧ nx ≤ 8
set_option maxRecDepth 100000 in
set_option maxHeartbeats 8000000 in
theorem walk (w : World) : Calls Tryz.prog 3 #[] w fun e w' => e = .returned (.bool true) ∧ Below w.heap.size w w' := by
  obtain ⟨lg, hlg⟩ : ∃ lg : List UInt8, lg = List.replicate 41 0 := ⟨_, rfl⟩
  have HLg : Hid (lg = List.replicate 41 0) := hlg
  have hlgl : lg.length = 41 := by rw [hlg]; simp
  obtain ⟨BG, hbg⟩ : ∃ BG : List Ce, BG = List.replicate 65537 Rw.none_ := ⟨_, rfl⟩
  have HBG : Hid (BG = List.replicate 65537 Rw.none_) := hbg
  have HBGl : Hid (65537 = BG.length) := (by rw [hbg, List.length_replicate] : 65537 = BG.length)
  have HEm : Hid (Ck.encE 1 BG = ([], 4)) := (by rw [hbg]; exact enc_many : Ck.encE 1 BG = ([], 4))
  have HEl : Hid (Ck.encE 2 [⟨[], 2, 0, lg⟩] = ([], 1)) := (by rw [hlg]; exact enc_long : Ck.encE 2 [⟨[], 2, 0, lg⟩] = ([], 1))
  have HBz : Hid (∀ c ∈ BG, In64 c.n) := (fun c hc => by rw [hbg] at hc; rw [(List.mem_replicate.1 hc).2]; exact in0 : ∀ c ∈ BG, In64 c.n)
  clear hlg hbg
  go_enter Tryz.func3, Tryz.ntmps3
  go_wp2_with fail
  refine (encode_is 0 none 0 0 [] w rfl (RdW.nil w) (by simp) [] 22 enc_no).mono ?_
  rintro e1 w1 ⟨v1, rfl, ho1, hx1⟩
  have HX1 : Hid (Ex w w1) := hx1
  clear ho1 hx1
  go_wp2_with (at_make; refine wpList_make_cells rfl _ _ rfl _ _ 65537 rfl rfl rfl rfl (by omega) ?_; intro w2 hr2 hb2; rw [← HBG.out] at hr2)
  have HR2 : Hid (RdC w2 (some ⟨w1.heap.size, 0, none⟩) 65537 BG) := hr2.rd HBGl.out (by omega)
  have HX2 : Hid (Ex w w2) := HX1.out.trans hb2
  clear hr2 hb2
  refine (encode_is 1 (some ⟨w1.heap.size, 0, none⟩) 65537 65537 BG w2 HBGl.out HR2.out HBz.out [] 4 HEm.out).mono ?_
  rintro e3 w3 ⟨v3, rfl, ho3, hx3⟩
  have HX3 : Hid (Ex w w3) := HX2.out.trans hx3
  clear ho3 hx3 HR2
  go_wp2_with fail
  have hlaid := RdW.laid (t := 28) cc_len w3 [(⟨[], 2, 0, []⟩ : Ce)] (by simp)
  refine (encode_is 1 (some ⟨w3.heap.size, 0, none⟩) 1 1 [⟨[], 2, 0, []⟩] _ rfl hlaid (by simp; exact in0) [] 1 enc_kind).mono ?_
  rintro e4 w4 ⟨v4, rfl, ho4, hx4⟩
  have HX4 : Hid (Ex w w4) := Ex.trans (Below.alloc HX3.out HX3.out.size _) hx4
  clear ho4 hx4 hlaid
  go_wp2_with (at_make; refine wpList_make_zero rfl _ _ rfl _ _ 41 rfl rfl rfl rfl (by omega) ?_; intro w5 hg5 hb5; have hcv := run_str (n := 41) (RowAt.byt (n := 41) (e := 5) (show RowAt (fun b : UInt8 => .int .u8 (b.toNat : Int)) 5 w5 w4.heap.size (List.replicate 41 0) from hg5) (by simp) (by omega)) (by simp); rw [← HLg.out] at hcv)
  have HX5 : Hid (Ex w w5) := HX4.out.trans hb5
  clear hg5 hb5 hcv
  have hlaid := RdW.laid (t := 28) cc_len w5 [(⟨[], 2, 0, lg⟩ : Ce)] (by simp)
  refine (encode_is 2 (some ⟨w5.heap.size, 0, none⟩) 1 1 [⟨[], 2, 0, lg⟩] _ rfl hlaid (by simp; exact in0) [] 1 HEl.out).mono ?_
  rintro e6 w6 ⟨v6, rfl, ho6, hx6⟩
  have HX6 : Hid (Ex w w6) := Ex.trans (Below.alloc HX5.out HX5.out.size _) hx6
  clear ho6 hx6 hlaid HX5 HX4 HX3 HX2 HX1 HBG HBGl HEm HEl HBz HLg hlgl
  go_wp2_with fail
  go_loopw [9, 10, 11, 12, 13, 14, 15, 16, 17, 18, 19, 20, 21, 22, 23, 24] (fun nv _ _ _ _ _ _ _ _ _ _ _ _ _ _ _ wr => ∃ n : Nat, n ≤ 40 ∧ nv = .int .i64 (n : Int) ∧ Hid (Ex w6 wr)) (fun nv _ _ _ _ _ _ _ _ _ _ _ _ _ _ _ wr => 40 - (intOf nv).toNat)
  case atStart => exact ⟨0, by omega, rfl, Ex.refl _⟩
  case round =>
    obtain ⟨n, hn4, rfl, HXn⟩ := hrel
    by_cases hlt : n < 40
    · have tn : (n : Int) < 40 := by omega
      have h0D : Hid (Duo wr wr.heap.size wr (.slice none 0 0) (.slice none 0 0) [] []) := Duo.none_ _ _ (Nat.le_refl _)
      have h0L : Hid (∀ c ∈ ([] : List Ce), Fit 2 c) := (by simp : ∀ c ∈ ([] : List Ce), Fit 2 c)
      have h0M : Hid (∀ c ∈ ([] : List Ce), Fit 1 c) := (by simp : ∀ c ∈ ([] : List Ce), Fit 1 c)
      go_wp2_with fail
      rename World => wo
      go_loopw [10, 11, 12] (fun lv mv iv wr => ∃ (i : Nat) (L M : List Ce), i ≤ n ∧ iv = .int .i64 (i : Int) ∧ L.length ≤ i ∧ M.length ≤ i ∧ Hid (∀ c ∈ L, Fit 2 c) ∧ Hid (∀ c ∈ M, Fit 1 c) ∧ Hid (Duo wo wo.heap.size wr lv mv L M)) (fun lv mv iv wr => n - (intOf iv).toNat)
      case atStart => exact ⟨0, [], [], by omega, rfl, by simp, by simp, h0L, h0M, h0D⟩
      case round =>
        clear h0D h0L h0M
        obtain ⟨i, L, M, hi, rfl, hLl, hMl, HL, HM, HD⟩ := hrel
        by_cases hlti : i < n
        · have ti : (i : Int) < (n : Int) := by omega
          obtain ⟨t, ht4, htc⟩ := rune_conv (97 + (i : Int) % 26)
          have hmod : (0 : Int) ≤ (i : Int) % 26 ∧ (i : Int) % 26 < 26 := ⟨Int.emod_nonneg _ (by decide), Int.emod_lt_of_pos _ (by decide)⟩
          have hw32 : IntKind.i32.wrap (97 + (i : Int) % 26) = 97 + (i : Int) % 26 := by rw [IntKind.wrap_i32]; omega
          have htm : Int.tmod (i : Int) 26 = (i : Int) % 26 := Int.tmod_eq_emod_of_nonneg (by omega)
          have zt : (str t).size = t.length := str_size _
          have zx : ({ data := #[120] } : ByteArray) ++ str t = str (120 :: t) := cat_str [120] t
          have zl : (120 :: t).length ≤ 5 := by simp; omega
          obtain ⟨c1, hc1⟩ : ∃ c1 : Ce, c1 = ⟨[], 2, 0, 120 :: t⟩ := ⟨_, rfl⟩
          have HL9 : Hid (∀ c ∈ L ++ [(⟨[], 2, 0, 120 :: t⟩ : Ce)], Fit 2 c) := fit_snoc HL.out (fit_txt (by omega))
          have hlaid := RdW.laid (t := 28) cc_len wr [(⟨[], 2, 0, 120 :: t⟩ : Ce)] (by simp)
          have HLaid : Hid (RdC (wr.alloc (.cells (flat cc [(⟨[], 2, 0, 120 :: t⟩ : Ce)]).toArray 28)) (some ⟨wr.heap.size, 0, none⟩) 1 [(⟨[], 2, 0, 120 :: t⟩ : Ce)]) := hlaid
          have hsz := HD.out.sz
          obtain ⟨q, hq⟩ : ∃ q : Nat, i * i = q := ⟨_, rfl⟩
          have hq6 : q ≤ 1600 := by rw [← hq]; exact Nat.le_trans (Nat.mul_le_mul (show i ≤ 40 by omega) (show i ≤ 40 by omega)) (by decide)
          have hsq : (i : Int) * (i : Int) = (q : Int) := by rw [← hq]; simp
          have htq : Int.tmod (q : Int) 2 = (q : Int) % 2 := Int.tmod_eq_emod_of_nonneg (by omega)
          have hti : Int.tmod (i : Int) 2 = (i : Int) % 2 := Int.tmod_eq_emod_of_nonneg (by omega)
          obtain ⟨m2, hm2⟩ : ∃ m2 : Int, (q : Int) % 2 = m2 := ⟨_, rfl⟩
          obtain ⟨k2, hk2⟩ : ∃ k2 : Int, (i : Int) % 2 = k2 := ⟨_, rfl⟩
          have hm01 : m2 = 0 ∨ m2 = 1 := by omega
          have hk01 : k2 = 0 ∨ k2 = 1 := by omega
          obtain ⟨z, hz⟩ : ∃ z : Int, m2 * (i : Int) = z := ⟨_, rfl⟩
          have hz4 : 0 ≤ z ∧ z ≤ 40 := by rcases hm01 with h | h <;> rw [h] at hz <;> omega
          have hz1 := hz4.1
          have hz2 := hz4.2
          have HM9 : Hid (∀ c ∈ M ++ [(⟨[], k2, z, []⟩ : Ce)], Fit 1 c) := fit_snoc HM.out (fit_int hk01 ⟨by omega, by omega⟩)
          clear hc1 hlaid hq hm01 hk01 hz4
          go_wp2_with (first | (at_builtin; refine wpList_append_wide cc_len cc_one rfl (.tmp 75) (.tmp 85) 26 _ 48 rfl Tryz.underlying26 Tryz.info28 (by omega) rfl wo.heap.size _ M rfl (OwnW.alloc HD9.out.m _) (some ⟨w9.heap.size, 0, none⟩) 1 1 [(⟨[], k2, z, []⟩ : Ce)] rfl rfl (RdW.laid (t := 28) cc_len w9 [(⟨[], k2, z, []⟩ : Ce)] (by simp)) (by simp [maxLen]; omega) (by simp; omega) (by have := HD9.out.sz; simp; omega) ?_; intro v10 w10 ho10 hg10 hat10; have HD10 : Hid (Duo wo wo.heap.size w10 v9 v10 (L ++ [(⟨[], 2, 0, 120 :: t⟩ : Ce)]) (M ++ [(⟨[], k2, z, []⟩ : Ce)])) := HD9.out.push2 ho10 hg10 hat10; clear ho10 hg10 hat10) | (at_builtin; refine wpList_append_wide cc_len cc_one rfl (.tmp 65) (.tmp 73) 26 _ 48 rfl Tryz.underlying26 Tryz.info28 (by omega) rfl wo.heap.size _ L rfl (OwnW.alloc HD.out.l _) (some ⟨wr.heap.size, 0, none⟩) 1 1 [(⟨[], 2, 0, 120 :: t⟩ : Ce)] rfl rfl HLaid.out (by simp [maxLen]; omega) (by simp; omega) (by simp; omega) ?_; intro v9 w9 ho9 hg9 hat9; have HD9 : Hid (Duo wo wo.heap.size w9 v9 u11 (L ++ [(⟨[], 2, 0, 120 :: t⟩ : Ce)]) M) := HD.out.push1 ho9 hg9 hat9; clear ho9 hg9 hat9))
          clear HD9 HD
          go_wp2
          go_roundw
          case rel => exact ⟨i + 1, _, _, by omega, by go_num, (by rw [List.length_append]; simp; omega), (by rw [List.length_append]; simp; omega), HL9, HM9, HD10⟩
          case measure => simp [intOf]; omega
        · have ti : ¬ (i : Int) < (n : Int) := by omega
          obtain ⟨al, cl, hal, hrl⟩ := HD.out.l.rd cc_len
          obtain ⟨am, cm, ham, hrm⟩ := HD.out.m.rd cc_len
          obtain ⟨nl, hnl⟩ : ∃ nl, L.length = nl := ⟨_, rfl⟩
          obtain ⟨nm, hnm⟩ : ∃ nm, M.length = nm := ⟨_, rfl⟩
          rw [hnl] at hal hLl
          rw [hnm] at ham hMl
          subst hal
          subst ham
          have hX : Ex wo wr := HD.out.bel
          obtain ⟨W, hW⟩ : ∃ W, wr.alloc (.cells #[.slice am nm cm, .slice al nl cl] 26) = W := ⟨_, rfl⟩
          have hxW : Ex wr W := by rw [← hW]; exact (Below.refl _ _).alloc (Nat.le_refl _) _
          have hq0 : W.cell? ⟨wr.heap.size, 0, none⟩ = some (.slice am nm cm) := by rw [← hW]; simp
          have hq1 : W.cell? ⟨wr.heap.size, 1, none⟩ = some (.slice al nl cl) := by rw [← hW]; simp
          have HC : Hid (Cols2 wr.heap.size W) := (by
            intro j hj
            have hj2 : j = 0 ∨ j = 1 := by omega
            rcases hj2 with rfl | rfl
            · exact ⟨am, nm, cm, M, hq0, hnm.symm, hrm.below hxW, HM.out, by omega⟩
            · exact ⟨al, nl, cl, L, hq1, hnl.symm, hrl.below hxW, HL.out, by omega⟩ : Cols2 wr.heap.size W)
          have HXW : Hid (Ex w6 W) := (HXn.out.trans hX).trans hxW
          clear hrl hrm hnl hnm hX hxW hq0 hq1 HD HL HM
          go_wp2_with fail
          obtain ⟨g0, hg0⟩ : ∃ g0, wr.heap.size = g0 := ⟨_, rfl⟩
          rw [hg0] at HC ⊢
          clear hW hg0
          rename World => wW
          go_loopw [13, 14, 15, 16, 17, 18, 19, 20, 21, 22, 23, 24, 91] (fun _ _ _ _ _ _ _ _ _ _ _ _ iv wr => ∃ i : Nat, i ≤ 2 ∧ iv = .int .i64 (i : Int) ∧ Hid (Ex wW wr)) (fun _ _ _ _ _ _ _ _ _ _ _ _ iv wr => 2 - (intOf iv).toNat)
          case atStart => exact ⟨0, by omega, rfl, Ex.refl _⟩
          case round =>
            obtain ⟨j, hj, rfl, HX⟩ := hrel
            by_cases hltj : j < 2
            · have tj : (j : Int) < 2 := by omega
              obtain ⟨ax, nx, cx, X, hq, hnx, hrx, hfit, hl4⟩ := HC.out j hltj
              have hq' : wr.cell? ⟨g0, j, none⟩ = some (.slice ax nx cx) := cell_ext hq HX.out
              obtain ⟨hfits, hok⟩ := fit_all hfit
              have hk12 : (1 + (j : Int) = 1) ∨ (1 + (j : Int) = 2) := by omega
              obtain ⟨kk, hkk⟩ : ∃ kk, 1 + (j : Int) = kk := ⟨_, rfl⟩
              rw [hkk] at hfits hk12
              have hl65 : X.length ≤ 65536 := by omega
              have hE := Ck.encE_ok hk12 hl65 hfits
              obtain ⟨r, hr⟩ : ∃ r, Ck.enc kk X = r := ⟨_, rfl⟩
              have ho := Ck.opn_enc hk12 hl65 hfits (fun c hc => (hok c hc).1)
              have hsh := enc_short hk12 hl65 hfits
              rw [hr] at hE ho hsh
              have HNX : Hid (nx = X.length) := hnx
              have HRX : Hid (RdC wr ax cx X) := hrx.below HX.out
              have HOk : Hid (∀ c ∈ X, Okc c) := hok
              have HE : Hid (Ck.encE kk X = (r, 0)) := hE
              have HO : Hid (Ck.opn r = some (kk, X.map Ck.cz, if Ck.form kk X = 2 then T.bld (Ck.txts X) else [])) := ho
              have HSh : Hid (r.length ≤ 140737488355328) := (by omega : r.length ≤ 140737488355328)
              have hkw : IntKind.i64.wrap (1 + (j : Int)) = kk := by rw [IntKind.wrap_i64]; omega
              clear hq hnx hrx hfit hfits hok hk12 hl65 hE hr ho hsh
              go_wp2_with fail
              refine (encode_is kk ax nx cx X wr HNX.out HRX.out (fun c hc => (HOk.out c hc).1) r 0 HE.out).mono ?_
              rintro e4 w4 ⟨v4, rfl, ho4, hx4⟩
              obtain ⟨ap, cp, rfl, hb4⟩ := ho4.byt
              obtain ⟨nr, hnr⟩ : ∃ nr, r.length = nr := ⟨_, rfl⟩
              rw [hnr]
              have HNR : Hid (r.length = nr) := hnr
              have HB4 : Hid (Byt w4 ap cp r) := hb4
              have HX4 : Hid (Ex wW w4) := HX.out.trans hx4
              have HRX4 : Hid (RdC w4 ax cx X) := HRX.out.below hx4
              clear ho4 hb4 hnr hx4 HX HRX
              go_wp2_with fail
              refine (rencode15_is kk ax nx cx X w4 HNX.out HRX4.out (fun c hc => (HOk.out c hc).1) (fun c hc => (HOk.out c hc).2) r 0 HE.out).mono ?_
              rintro e5 w5 ⟨v5, rfl, ho5, hx5⟩
              obtain ⟨aq, cq, rfl, hb5⟩ := ho5.byt
              rw [HNR.out]
              have HB5 : Hid (Byt w5 aq cq r) := hb5
              have HX5 : Hid (Ex wW w5) := HX4.out.trans hx5
              have hs1 : (convert 22 9 (.slice ap nr cp)).run Tryz.prog w5 = .ok (.string (str r)) w5 := run_str (HB4.out.below hx5) HNR.out.symm
              have hs2 : (convert 22 9 (.slice aq nr cq)).run Tryz.prog w5 = .ok (.string (str r)) w5 := run_str hb5 HNR.out.symm
              have hZs : ((str r).toList == (str r).toList) = true := by simp
              clear ho5 hb5 hx5 HX4 HRX4 HB4
              go_wp2_with fail
              refine (open_is aq nr cq r w5 HNR.out.symm HB5.out HSh.out).mono ?_
              rintro e6 w6' ⟨v6, rfl, hop, hx6⟩
              obtain ⟨g, fp, rfl, hok, hu, hg, hfp⟩ := hop.1 (opened HO.out).1
              have HOkB : Hid (Ok r) := hok
              have HC6 : Hid (Chk w6' g r fp) := .inl hu
              have HG : Hid (wW.heap.size ≤ g) := Nat.le_trans HX5.out.size hg
              have HX6' : Hid (Ex wW w6') := HX5.out.trans hx6
              have HB6 : Hid (Byt w6' aq cq r) := HB5.out.below hx6
              clear hs1 hs2 hZs hop hok hu hg hfp hx6 HX5 HB5
              go_wp2_with fail
              refine (ropen15_is aq nr cq r w6' HNR.out.symm HB6.out HSh.out).mono ?_
              rintro e7 w7 ⟨v7, rfl, hro, hx7⟩
              obtain ⟨al', cl', ad, cd, rfl, hrl, hrd⟩ := hro.2 _ _ _ HO.out
              obtain ⟨L', hL'⟩ : ∃ L, X.map Ck.cz = L := ⟨_, rfl⟩
              obtain ⟨D, hD⟩ : ∃ D, (if Ck.form kk X = 2 then T.bld (Ck.txts X) else []) = D := ⟨_, rfl⟩
              have ho := HO.out
              rw [hL', hD] at ho
              rw [hL'] at hrl ⊢
              rw [hD] at hrd ⊢
              obtain ⟨nl', hnl'⟩ : ∃ nl, L'.length = nl := ⟨_, rfl⟩
              obtain ⟨nd, hnd⟩ : ∃ nd, D.length = nd := ⟨_, rfl⟩
              rw [hnl', hnd]
              have HT' : Hid (Calls Tryz.prog 13 #[.pointer (some ⟨g, 0, none⟩), .int .i64 kk, .slice al' nl' cl', .slice ad nd cd] w7 fun e w' => e = .returned (.bool true) ∧ Ex wW w') := tells_all (w0 := wW) ho (HC6.out.below hx7) HOkB.out hnl'.symm hrl hnd.symm hrd (HX6'.out.trans hx7) HG.out
              clear hro hrl hrd hL' hD ho hnl' hnd hx7 HX6' HB6 HC6
              go_wp2_with fail
              refine Calls.mono HT'.out ?_
              rintro e8 w8 ⟨rfl, hx8⟩
              have HX8 : Hid (Ex wW w8) := hx8
              clear hx8 HT'
              go_wp2_with fail
              go_roundw
              case rel => exact ⟨j + 1, by omega, by go_num, HX8⟩
              case measure => simp [intOf]; omega
            · have tj : ¬ (j : Int) < 2 := by omega
              have HXe : Hid (Ex w6 wr) := HXW.out.trans HX.out
              go_wp2_with fail
              go_roundw
              case rel => exact ⟨n + 1, by omega, by go_num, HXe⟩
              case measure => simp [intOf]; omega
    · have tn : ¬ (n : Int) < 40 := by omega
      have hX0 : Ex w wr := HX6.out.trans HXn.out
      obtain ⟨W1, hW1⟩ : ∃ W, wr.alloc (.cells #[.int .u8 0, .int .u8 0] 5) = W := ⟨_, rfl⟩
      have hx1 : Ex wr W1 := by rw [← hW1]; exact (Below.refl _ _).alloc (Nat.le_refl _) _
      have hb1 : Byt W1 (some ⟨wr.heap.size, 0, none⟩) 2 [0, 0] := by rw [← hW1]; exact Byt.laid wr [0, 0] (by decide)
      obtain ⟨W2, hW2⟩ : ∃ W, W1.alloc (.cells #[.int .u8 4, .int .u8 0] 5) = W := ⟨_, rfl⟩
      have hx2 : Ex W1 W2 := by rw [← hW2]; exact (Below.refl _ _).alloc (Nat.le_refl _) _
      have hb2 : Byt W2 (some ⟨W1.heap.size, 0, none⟩) 2 [4, 0] := by rw [← hW2]; exact Byt.laid W1 [4, 0] (by decide)
      obtain ⟨W3, hW3⟩ : ∃ W, W2.alloc (.cells #[.int .u8 1] 5) = W := ⟨_, rfl⟩
      have hx3 : Ex W2 W3 := by rw [← hW3]; exact (Below.refl _ _).alloc (Nat.le_refl _) _
      have hb3 : Byt W3 (some ⟨W2.heap.size, 0, none⟩) 1 [1] := by rw [← hW3]; exact Byt.laid W2 [1] (by decide)
      obtain ⟨W4, hW4⟩ : ∃ W, W3.alloc (.cells #[.int .u8 1, .int .u8 0] 5) = W := ⟨_, rfl⟩
      have hx4 : Ex W3 W4 := by rw [← hW4]; exact (Below.refl _ _).alloc (Nat.le_refl _) _
      have hb4 : Byt W4 (some ⟨W3.heap.size, 0, none⟩) 2 [1, 0] := by rw [← hW4]; exact Byt.laid W3 [1, 0] (by decide)
      obtain ⟨W5, hW5⟩ : ∃ W, W4.alloc (.cells #[.int .u8 1, .int .u8 0, .int .u8 5] 5) = W := ⟨_, rfl⟩
      have hx5 : Ex W4 W5 := by rw [← hW5]; exact (Below.refl _ _).alloc (Nat.le_refl _) _
      have hb5 : Byt W5 (some ⟨W4.heap.size, 0, none⟩) 3 [1, 0, 5] := by rw [← hW5]; exact Byt.laid W4 [1, 0, 5] (by decide)
      obtain ⟨W6, hW6⟩ : ∃ W, W5.alloc (.cells #[.int .u8 2, .int .u8 0, .int .u8 0] 5) = W := ⟨_, rfl⟩
      have hx6 : Ex W5 W6 := by rw [← hW6]; exact (Below.refl _ _).alloc (Nat.le_refl _) _
      have hb6 : Byt W6 (some ⟨W5.heap.size, 0, none⟩) 3 [2, 0, 0] := by rw [← hW6]; exact Byt.laid W5 [2, 0, 0] (by decide)
      obtain ⟨W7, hW7⟩ : ∃ W, W6.alloc (.cells #[.int .u8 2, .int .u8 0, .int .u8 1, .int .u8 1, .int .u8 97] 5) = W := ⟨_, rfl⟩
      have hx7 : Ex W6 W7 := by rw [← hW7]; exact (Below.refl _ _).alloc (Nat.le_refl _) _
      have hb7 : Byt W7 (some ⟨W6.heap.size, 0, none⟩) 5 [2, 0, 1, 1, 97] := by rw [← hW7]; exact Byt.laid W6 [2, 0, 1, 1, 97] (by decide)
      obtain ⟨W8, hW8⟩ : ∃ W, W7.alloc (.cells #[.int .u8 3, .int .u8 0] 5) = W := ⟨_, rfl⟩
      have hx8 : Ex W7 W8 := by rw [← hW8]; exact (Below.refl _ _).alloc (Nat.le_refl _) _
      have hb8 : Byt W8 (some ⟨W7.heap.size, 0, none⟩) 2 [3, 0] := by rw [← hW8]; exact Byt.laid W7 [3, 0] (by decide)
      obtain ⟨W9, hW9⟩ : ∃ W, W8.alloc (.cells #[.int .u8 2, .int .u8 1, .int .u8 3, .int .u8 0, .int .u8 1, .int .u8 1, .int .u8 97, .int .u8 1] 5) = W := ⟨_, rfl⟩
      have hx9 : Ex W8 W9 := by rw [← hW9]; exact (Below.refl _ _).alloc (Nat.le_refl _) _
      have hb9 : Byt W9 (some ⟨W8.heap.size, 0, none⟩) 8 [2, 1, 3, 0, 1, 1, 97, 1] := by rw [← hW9]; exact Byt.laid W8 [2, 1, 3, 0, 1, 1, 97, 1] (by decide)
      obtain ⟨W10, hW10⟩ : ∃ W, W9.alloc (.cells #[.int .u8 1, .int .u8 1, .int .u8 3, .int .u8 0, .int .u8 10] 5) = W := ⟨_, rfl⟩
      have hx10 : Ex W9 W10 := by rw [← hW10]; exact (Below.refl _ _).alloc (Nat.le_refl _) _
      have hb10 : Byt W10 (some ⟨W9.heap.size, 0, none⟩) 5 [1, 1, 3, 0, 10] := by rw [← hW10]; exact Byt.laid W9 [1, 1, 3, 0, 10] (by decide)
      obtain ⟨W11, hW11⟩ : ∃ W, W10.alloc (.cells #[.int .u8 1, .int .u8 1, .int .u8 3, .int .u8 1] 5) = W := ⟨_, rfl⟩
      have hx11 : Ex W10 W11 := by rw [← hW11]; exact (Below.refl _ _).alloc (Nat.le_refl _) _
      have hb11 : Byt W11 (some ⟨W10.heap.size, 0, none⟩) 4 [1, 1, 3, 1] := by rw [← hW11]; exact Byt.laid W10 [1, 1, 3, 1] (by decide)
      obtain ⟨W, hW⟩ : ∃ W, W11.alloc (.cells #[.slice none 0 0, .slice (some ⟨wr.heap.size, 0, none⟩) 2 2, .slice (some ⟨W1.heap.size, 0, none⟩) 2 2, .slice (some ⟨W2.heap.size, 0, none⟩) 1 1, .slice (some ⟨W3.heap.size, 0, none⟩) 2 2, .slice (some ⟨W4.heap.size, 0, none⟩) 3 3, .slice (some ⟨W5.heap.size, 0, none⟩) 3 3, .slice (some ⟨W6.heap.size, 0, none⟩) 5 5, .slice (some ⟨W7.heap.size, 0, none⟩) 2 2, .slice (some ⟨W8.heap.size, 0, none⟩) 8 8, .slice (some ⟨W9.heap.size, 0, none⟩) 5 5, .slice (some ⟨W10.heap.size, 0, none⟩) 4 4] 22) = W := ⟨_, rfl⟩
      have hxW : Ex W11 W := by rw [← hW]; exact (Below.refl _ _).alloc (Nat.le_refl _) _
      have hWs : W.heap.size = W11.heap.size + 1 := by rw [← hW]; simp
      have hq0 : W.cell? ⟨W11.heap.size, 0, none⟩ = some (.slice none 0 0) := by rw [← hW]; simp
      have hq1 : W.cell? ⟨W11.heap.size, 1, none⟩ = some (.slice (some ⟨wr.heap.size, 0, none⟩) 2 2) := by rw [← hW]; simp
      have hq2 : W.cell? ⟨W11.heap.size, 2, none⟩ = some (.slice (some ⟨W1.heap.size, 0, none⟩) 2 2) := by rw [← hW]; simp
      have hq3 : W.cell? ⟨W11.heap.size, 3, none⟩ = some (.slice (some ⟨W2.heap.size, 0, none⟩) 1 1) := by rw [← hW]; simp
      have hq4 : W.cell? ⟨W11.heap.size, 4, none⟩ = some (.slice (some ⟨W3.heap.size, 0, none⟩) 2 2) := by rw [← hW]; simp
      have hq5 : W.cell? ⟨W11.heap.size, 5, none⟩ = some (.slice (some ⟨W4.heap.size, 0, none⟩) 3 3) := by rw [← hW]; simp
      have hq6 : W.cell? ⟨W11.heap.size, 6, none⟩ = some (.slice (some ⟨W5.heap.size, 0, none⟩) 3 3) := by rw [← hW]; simp
      have hq7 : W.cell? ⟨W11.heap.size, 7, none⟩ = some (.slice (some ⟨W6.heap.size, 0, none⟩) 5 5) := by rw [← hW]; simp
      have hq8 : W.cell? ⟨W11.heap.size, 8, none⟩ = some (.slice (some ⟨W7.heap.size, 0, none⟩) 2 2) := by rw [← hW]; simp
      have hq9 : W.cell? ⟨W11.heap.size, 9, none⟩ = some (.slice (some ⟨W8.heap.size, 0, none⟩) 8 8) := by rw [← hW]; simp
      have hq10 : W.cell? ⟨W11.heap.size, 10, none⟩ = some (.slice (some ⟨W9.heap.size, 0, none⟩) 5 5) := by rw [← hW]; simp
      have hq11 : W.cell? ⟨W11.heap.size, 11, none⟩ = some (.slice (some ⟨W10.heap.size, 0, none⟩) 4 4) := by rw [← hW]; simp
      have hz11 : Ex W11 W := hxW
      have hz10 : Ex W10 W := hx11.trans hz11
      have hz9 : Ex W9 W := hx10.trans hz10
      have hz8 : Ex W8 W := hx9.trans hz9
      have hz7 : Ex W7 W := hx8.trans hz8
      have hz6 : Ex W6 W := hx7.trans hz7
      have hz5 : Ex W5 W := hx6.trans hz6
      have hz4 : Ex W4 W := hx5.trans hz5
      have hz3 : Ex W3 W := hx4.trans hz4
      have hz2 : Ex W2 W := hx3.trans hz3
      have hz1 : Ex W1 W := hx2.trans hz2
      have HR : Hid (Rows12 W11.heap.size W) := (by
        intro j hj
        have hj12 : j = 0 ∨ j = 1 ∨ j = 2 ∨ j = 3 ∨ j = 4 ∨ j = 5 ∨ j = 6 ∨ j = 7 ∨ j = 8 ∨ j = 9 ∨ j = 10 ∨ j = 11 := by omega
        rcases hj12 with rfl | rfl | rfl | rfl | rfl | rfl | rfl | rfl | rfl | rfl | rfl | rfl
        · exact ⟨none, 0, 0, [], hq0, rfl, Byt.nil _, by omega⟩
        · exact ⟨_, 2, 2, _, hq1, rfl, hb1.below hz1, by omega⟩
        · exact ⟨_, 2, 2, _, hq2, rfl, hb2.below hz2, by omega⟩
        · exact ⟨_, 1, 1, _, hq3, rfl, hb3.below hz3, by omega⟩
        · exact ⟨_, 2, 2, _, hq4, rfl, hb4.below hz4, by omega⟩
        · exact ⟨_, 3, 3, _, hq5, rfl, hb5.below hz5, by omega⟩
        · exact ⟨_, 3, 3, _, hq6, rfl, hb6.below hz6, by omega⟩
        · exact ⟨_, 5, 5, _, hq7, rfl, hb7.below hz7, by omega⟩
        · exact ⟨_, 2, 2, _, hq8, rfl, hb8.below hz8, by omega⟩
        · exact ⟨_, 8, 8, _, hq9, rfl, hb9.below hz9, by omega⟩
        · exact ⟨_, 5, 5, _, hq10, rfl, hb10.below hz10, by omega⟩
        · exact ⟨_, 4, 4, _, hq11, rfl, hb11.below hz11, by omega⟩ : Rows12 W11.heap.size W)
      have HXW : Hid (Ex w W) := hX0.trans (hx1.trans hz1)
      clear hX0 hx1 hx2 hx3 hx4 hx5 hx6 hx7 hx8 hx9 hx10 hx11 hxW hb1 hb2 hb3 hb4 hb5 hb6 hb7 hb8 hb9 hb10 hb11 hz1 hz2 hz3 hz4 hz5 hz6 hz7 hz8 hz9 hz10 hz11 hq0 hq1 hq2 hq3 hq4 hq5 hq6 hq7 hq8 hq9 hq10 hq11 HXn HX6
      go_wp2_with fail
      obtain ⟨g0, hg0⟩ : ∃ g0, W11.heap.size = g0 := ⟨_, rfl⟩
      rw [hg0] at HR ⊢
      clear hg0 hWs hW1 hW2 hW3 hW4 hW5 hW6 hW7 hW8 hW9 hW10 hW11 hW
      go_loopw [26, 27, 28, 29, 30, 31, 32, 164] (fun _ _ _ _ _ _ _ iv wr => ∃ i : Nat, i ≤ 12 ∧ iv = .int .i64 (i : Int) ∧ Hid (Ex W wr)) (fun _ _ _ _ _ _ _ iv wr => 12 - (intOf iv).toNat)
      case atStart => exact ⟨0, by omega, rfl, Ex.refl _⟩
      case round =>
        obtain ⟨i, hi, rfl, HX⟩ := hrel
        by_cases hlti : i < 12
        · have ti : (i : Int) < 12 := by omega
          obtain ⟨ay, ny, cy, Y, hq, hny, hby, hy8⟩ := HR.out i hlti
          have hq' : wr.cell? ⟨g0, i, none⟩ = some (.slice ay ny cy) := cell_ext hq HX.out
          have HNY : Hid (ny = Y.length) := hny
          have HBY : Hid (Byt wr ay cy Y) := hby.below HX.out
          have HYl : Hid (Y.length ≤ 140737488355328) := (by omega : Y.length ≤ 140737488355328)
          clear hq hny hby
          go_wp2_with fail
          refine (open_is ay ny cy Y wr HNY.out HBY.out HYl.out).mono ?_
          rintro e6 w6' ⟨v6, rfl, hop, hx6⟩
          have HOp : Hid (OpenIs Y v6 wr w6') := hop
          have HX6' : Hid (Ex W w6') := HX.out.trans hx6
          have HBY6 : Hid (Byt w6' ay cy Y) := HBY.out.below hx6
          clear hop hx6 HX HBY
          cases hopn : Ck.opn Y with
          | none =>
            have HOn : Hid (Ck.opn Y = none) := hopn
            have h6 := HOp.out.2 (shut hopn)
            subst h6
            clear hopn HOp
            go_wp2_with fail
            refine (ropen15_is ay ny cy Y w6' HNY.out HBY6.out HYl.out).mono ?_
            rintro e7 w7' ⟨v7, rfl, hro, hx7⟩
            have h7 := hro.1 HOn.out
            subst h7
            have HX7 : Hid (Ex W w7') := HX6'.out.trans hx7
            clear hro hx7
            go_wp2_with fail
            go_roundw
            case rel => exact ⟨i + 1, by omega, by go_num, HX7⟩
            case measure => simp [intOf]; omega
          | some x =>
            obtain ⟨kk, L, D⟩ := x
            have HO : Hid (Ck.opn Y = some (kk, L, D)) := hopn
            obtain ⟨g, fp, h6, _⟩ := HOp.out.1 (opened hopn).1
            subst h6
            clear hopn HOp
            go_wp2_with fail
            refine (ropen15_is ay ny cy Y w6' HNY.out HBY6.out HYl.out).mono ?_
            rintro e7 w7' ⟨v7, rfl, hro, hx7⟩
            obtain ⟨al, cl, ad, cd, rfl, _⟩ := hro.2 _ _ _ HO.out
            obtain ⟨nl, hnl⟩ : ∃ nl, L.length = nl := ⟨_, rfl⟩
            obtain ⟨nd, hnd⟩ : ∃ nd, D.length = nd := ⟨_, rfl⟩
            rw [hnl, hnd]
            have HX7 : Hid (Ex W w7') := HX6'.out.trans hx7
            clear hro hx7 hnl hnd
            go_wp2_with fail
            go_roundw
            case rel => exact ⟨i + 1, by omega, by go_num, HX7⟩
            case measure => simp [intOf]; omega
        · have ti : ¬ (i : Int) < 12 := by omega
          go_wp2_with fail
          refine (known_is wr).mono ?_
          rintro ek wk ⟨rfl, hxk⟩
          go_wp2_with fail
          go_ret
          exact ⟨rfl, (HXW.out.trans HX.out).trans hxk⟩
end Go.Proofs.YtnmonoafjijfhaaGreat.chunkNumbers
