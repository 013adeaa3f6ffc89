/-
  The walk of PruneNumbers.
-/
import Derived.Test.YtibnhjfeepdddaaL02
import Derived.Deep.CutBlock
import Derived.Deep.CutRange
namespace Go.Proofs.Ytibnhjfeepdddaa.pruneNumbers
open Go.RowKit
set_option linter.unusedVariables false
set_option linter.unusedSimpArgs false
set_option maxHeartbeats 16000000 in
set_option maxRecDepth 100000 in
theorem walk (w : World) : Calls Try.prog 3 #[] w fun e w' => e = .returned (.bool true) ∧ Below w.heap.size w w' := by
 go_enter Try.func3, Try.ntmps3
 go_wp2_with fail
 go_at_call 8
 refine (leaves_is w).mono ?_
 rintro e w1 ⟨la, lcap, L, rfl, hLd, hLn, hLF, hx1⟩
 have HX1 : Hid (Ex w w1) := hx1
 have hbd := hLd.bounds
 have hlc1 : 56 ≤ lcap := by rw [← hLn]; exact hbd.1
 have hlc2 : lcap ≤ 9223372036854775807 := by have := hbd.2.1; unfold maxLen at this; omega
 obtain ⟨lb, lo, hla⟩ : ∃ lb lo, la = some ⟨lb, lo, none⟩ := by
  obtain ⟨b, o, _, h, _⟩ := Pd.RdP.at hLd (i := 0) (by omega)
  exact ⟨b, o, h⟩
 subst hla
 have HL : Hid (Pd.RdP w1 (some ⟨lb, lo, none⟩) lcap L) := hLd
 have HLF : Hid (Pd.Fines L) := hLF
 have HLN : Hid (L.length = 56) := hLn
 rw [hLn]
 clear hx1 hbd hLd hLF hLn
 go_wp2_with fail
 go_loopw [2] (fun kv wr => ∃ k : Nat, k ≤ 5 ∧ kv = .int .i64 k ∧ Hid (Ex w1 wr)) (fun kv wr => 5 - (intOf kv).toNat)
 case atStart => exact ⟨0, by omega, rfl, Ex.refl w1⟩
 case round =>
  obtain ⟨k, hk, rfl, HX⟩ := hrel
  by_cases hlt : k < 5
  ·have hti : (k : Int) < 5 := by omega
   obtain ⟨r3, h3⟩ : ∃ r3 : Int, (k : Int).tmod 3 = r3 := ⟨_, rfl⟩
   obtain ⟨r2, h2⟩ : ∃ r2 : Int, (k : Int).tmod 2 = r2 := ⟨_, rfl⟩
   obtain ⟨n4, h4⟩ : ∃ n4 : Int, (4 : Int) + (k : Int) = n4 := ⟨_, rfl⟩
   have hn41 : 4 ≤ n4 := by omega
   have hn42 : n4 ≤ 9 := by omega
   have h31 : 0 ≤ r3 ∧ r3 ≤ 2 := by rw [← h3, Int.tmod_eq_emod_of_nonneg (by omega)]; omega
   have h21 : 0 ≤ r2 ∧ r2 ≤ 1 := by rw [← h2, Int.tmod_eq_emod_of_nonneg (by omega)]; omega
   obtain ⟨h31, h32⟩ := h31
   obtain ⟨h21, h22⟩ := h21
   obtain ⟨gx, hgx⟩ : ∃ gx, wr.heap.size = gx := ⟨_, rfl⟩
   obtain ⟨w2, hw2⟩ : ∃ w2, wr.alloc (.cells #[.int .i64 1, .int .i64 4, .int .i64 r3, .int .i64 4, .int .i64 n4, .string { data := #[] }, .string { data := #[] }] 25) = w2 := ⟨_, rfl⟩
   have hX2 : Ex wr w2 := by rw [← hw2]; exact (Below.refl _ _).alloc (Nat.le_refl _) _
   have hZ2 : ZAt w2 gx ⟨1, 4, r3, 4, n4, [], []⟩ 25 := by rw [← hw2, ← hgx]; exact ZAt.new wr ⟨1, 4, r3, 4, n4, [], []⟩ 25
   have HW2 : Hid (wr.alloc (.cells #[.int .i64 1, .int .i64 4, .int .i64 r3, .int .i64 4, .int .i64 n4, .string { data := #[] }, .string { data := #[] }] 25) = w2) := hw2
   obtain ⟨w3, hw3⟩ : ∃ w3, w2.alloc (.cells #[.string { data := #[98] }, .string { data := #[98, 97] }, .string { data := #[98, 98] }, .string { data := #[99] }, .string { data := #[99, 99] }] 9) = w3 := ⟨_, rfl⟩
   have hX3 : Ex w2 w3 := by rw [← hw3]; exact (Below.refl _ _).alloc (Nat.le_refl _) _
   have hT3 : RowAt st 9 w3 w2.heap.size skL := by rw [← hw3]; exact heap_alloc_new w2 _
   have e0 := hT3.cell (k := k) hlt
   obtain ⟨sk, hsk⟩ : ∃ s, skL[k] = s := ⟨_, rfl⟩
   rw [hsk] at e0
   have hsk2 : sk.length ≤ 2 := by rw [← hsk]; exact (by decide : ∀ x ∈ skL, x.length ≤ 2) _ (List.getElem_mem (show k < skL.length from hlt))
   obtain ⟨w4, hw4⟩ : ∃ w4, w3.alloc (.cells #[.int .i64 2, .int .i64 4, .int .i64 r2, .int .i64 0, .int .i64 0, .string { data := #[98] }, .string (str sk)] 25) = w4 := ⟨_, rfl⟩
   have hX4 : Ex w3 w4 := by rw [← hw4]; exact (Below.refl _ _).alloc (Nat.le_refl _) _
   obtain ⟨gt, hgt⟩ : ∃ gt, w3.heap.size = gt := ⟨_, rfl⟩
   have hlt3 : gx < gt := by rw [← hgt]; exact Nat.lt_of_lt_of_le hZ2.lt hX3.size
   have HT4 : Hid (ZAt w4 gt ⟨2, 4, r2, 0, 0, [98], sk⟩ 25) := (by rw [← hw4, ← hgt]; exact ZAt.new w3 ⟨2, 4, r2, 0, 0, [98], sk⟩ 25 : ZAt w4 gt _ 25)
   have hZ4 : ZAt w4 gx ⟨1, 4, r3, 4, n4, [], []⟩ 25 := hZ2.below (hX3.trans hX4)
   have HZ4 : Hid (ZAt w4 gx ⟨1, 4, r3, 4, n4, [], []⟩ 25) := hZ4
   have HX4 : Hid (Ex w1 w4) := (HX.out.trans (hX2.trans (hX3.trans hX4)) : Ex w1 w4)
   have HSK : Hid (sk.length ≤ 2) := hsk2
   have hgx1 : w1.heap.size ≤ gx := by rw [← hgx]; exact HX.out.size
   have HGX : Hid (w1.heap.size ≤ gx ∧ gx < gt) := ⟨hgx1, hlt3⟩
   clear hX2 hX3 hX4 hZ2 hT3 hsk hsk2 hw2 hlt3 hgx1
   go_upto_region 6 with fail
   rw [HW2.out]
   obtain ⟨c0, c1, c2, c3, c4, c5, c6⟩ := hZ4.all
   obtain ⟨f0, f1, f2, f3, f4, f5, f6⟩ := hZ4.fro
   simp only [str] at c0 c1 c2 c3 c4 c5 c6
   clear hZ4
   go_upto_if 31 with fail
   go_cut [31] from 31 to 32 (fun v31 wc => Hid (∃ z : Zn, ZAt wc gx z 25 ∧ z.ms.length ≤ 40 ∧ z.xs.length ≤ 40) ∧ Hid (ZAt wc gt ⟨2, 4, r2, 0, 0, [98], sk⟩ 25) ∧ Hid (Ex w1 wc))
   case first =>
    by_cases hk4 : k = 4
    ·have t31 : ((k : Int) == 4) = true := by simp; omega
     obtain ⟨w5, hw5⟩ : ∃ w5, ((((((w4.setCell ⟨gx, 0, none⟩ (.int .i64 1)).setCell ⟨gx, 1, none⟩ (.int .i64 4)).setCell ⟨gx, 2, none⟩ (.int .i64 4)).setCell ⟨gx, 3, none⟩ (.int .i64 0)).setCell ⟨gx, 4, none⟩ (.int .i64 0)).setCell ⟨gx, 5, none⟩ (.string { data := #[] })).setCell ⟨gx, 6, none⟩ (.string { data := #[] }) = w5 := ⟨_, rfl⟩
     have hz5 : ZAt w5 gx ⟨1, 4, 4, 0, 0, [], []⟩ 25 := by rw [← hw5]; exact HZ4.out.store ⟨1, 4, 4, 0, 0, [], []⟩
     have HZ5 : Hid (∃ z : Zn, ZAt w5 gx z 25 ∧ z.ms.length ≤ 40 ∧ z.xs.length ≤ 40) := ⟨_, hz5, by simp, by simp⟩
     have HT5 : Hid (ZAt w5 gt ⟨2, 4, r2, 0, 0, [98], sk⟩ 25) := (by rw [← hw5]; have h := HGX.out.2; exact ((((((HT4.out.other (by omega)).other (by omega)).other (by omega)).other (by omega)).other (by omega)).other (by omega)).other (by omega) : ZAt w5 gt _ 25)
     have HX5 : Hid (Ex w1 w5) := (by rw [← hw5]; exact Below.zset HX4.out HGX.out.1 ⟨1, 4, 4, 0, 0, [], []⟩ : Ex w1 w5)
     clear hz5 hk4
     go_wp2_with fail
     go_meet
     exact ⟨HZ5, HT5, HX5⟩
    ·have t31 : ((k : Int) == 4) = false := by simp; omega
     have HZ5 : Hid (∃ z : Zn, ZAt w4 gx z 25 ∧ z.ms.length ≤ 40 ∧ z.xs.length ≤ 40) := ⟨_, HZ4.out, by simp, by simp⟩
     clear hk4
     go_wp2_with fail
     go_meet
     exact ⟨HZ5, HT4, HX4⟩
   case rest =>
    obtain ⟨HZ5, HT5, HX5⟩ := hcut
    obtain ⟨zx, hzx, hz1, hz2⟩ := HZ5.out
    have HZX : Hid (ZAt wc gx zx 25) := hzx
    have HSF : Hid (StFine (nS n4 ⟨2, 4, r2, 0, 0, [98], sk⟩ zx sk)) := nS_fine ⟨by simp, by have := HSK.out; simp only; omega⟩ ⟨hz1, hz2⟩
    obtain ⟨wo, hwo⟩ : ∃ wo, wo = wc := ⟨_, rfl⟩
    subst hwo
    clear hzx hz1 hz2 HZ5 c0 c1 c2 c3 c4 c5 c6 f0 f1 f2 f3 f4 f5 f6 hw3 hw4 e0 hgt hgx HX4 HT4 HZ4 HW2
    go_upto_region 9 with fail
    have hre := Ex.refl
    have hwn : IntKind.i64.wrap n4 = n4 := by rw [IntKind.wrap_i64]; omega
    refine Rg.wp_rows_tail (List.take 15 _) (List.drop 15 _) (List.take_append_drop 15 _).symm [.inl (.int .i64 (k : Int)), .inl (.int .i64 n4), .inl (zv ⟨2, 4, r2, 0, 0, [98], sk⟩), .inl (zcw ([115], ⟨2, 4, r2, 0, 0, [98], sk⟩)), .inl (zv zx), .inl (zcw ([120], zx)), .inr (IsZ2 ([115], ⟨2, 4, r2, 0, 0, [98], sk⟩) ([120], zx)), .inl (.pointer (some ⟨gt, 6, none⟩)), .inl (.string (str sk)), .inr (IsRd st [[98], sk]), .inr (IsF wo.heap.size (Fl.bits [[98], sk] : Int) (Fl.bytes [[98], sk])), .inr (IsFc wo.heap.size [115] (Fl.bits [[98], sk] : Int) (Fl.bytes [[98], sk])), .inr (IsG1 wo.heap.size [115] (Fl.bits [[98], sk] : Int) (Fl.bytes [[98], sk])), .inr (IsS1 wo.heap.size 4 4 n4 ([115], ⟨2, 4, r2, 0, 0, [98], sk⟩) ([120], zx) [115] (Fl.bits [[98], sk] : Int) (Fl.bytes [[98], sk])), .inr (IsNewT wo.heap.size)] (Ex wo) Ex 115 (by kernel_rfl) rfl (by kernel_rfl) (by kernel_rfl) (by kernel_rfl) (by decide) (by kernel_rfl) ?st hre (Ex.drew _) ?goods ?fin
    case st => exact ⟨IsZ2.stands _ _, IsRd.stands _, IsF.stands _ _ _, IsFc.stands _ _ _ _, IsG1.stands _ _ _ _, IsS1.stands _ _ _ _ _ _ _ _ _, IsNewT.stands _, trivial⟩
    case goods =>
     refine Rg.goods_cons (Rg.good_move hre rfl rfl rfl) ?_
     refine Rg.goods_cons (Rg.good_bin hre rfl rfl rfl rfl (fun _ => rfl) (fun w => by go_simp)) ?_
     refine Rg.goods_cons (Rg.good_load hre rfl rfl rfl (fun wx hC => loadI_zone25 (HT5.out.below hC))) ?_
     refine Rg.goods_cons (good_bc28 rfl rfl rfl rfl) ?_
     refine Rg.goods_cons (Rg.good_load hre rfl rfl rfl (fun wx hC => loadI_zone25 (HZX.out.below hC))) ?_
     refine Rg.goods_cons (good_bc28 rfl rfl rfl rfl) ?_
     refine Rg.goods_cons (good_z2 rfl rfl rfl rfl) ?_
     refine Rg.goods_cons (Rg.good_field hre rfl rfl rfl (fun wx hC => by go_simp)) ?_
     refine Rg.goods_cons (Rg.good_load hre rfl rfl rfl (fun wx hC => by have hz := (HT5.out.below hC).all.2.2.2.2.2.2; go_simp)) ?_
     refine Rg.goods_cons (good_st2 rfl rfl rfl rfl) ?_
     refine Rg.goods_cons (Rg.good_call1 Try.func9 (by kernel_rfl) rfl rfl rfl (by rintro v wx hC ⟨a, cap, rfl, hR⟩; exact fil_row9 a _ cap [[98], sk] wx rfl hR (by simp) (by intro x hx; have := HSK.out; simp at hx; rcases hx with rfl | rfl; simp; omega) hC)) ?_
     refine Rg.goods_cons (good_fc35 rfl rfl rfl rfl) ?_
     refine Rg.goods_cons (good_g1 rfl rfl rfl) ?_
     refine Rg.goods_cons (good_s1 rfl rfl rfl rfl rfl) ?_
     refine Rg.goods_cons (good_newT rfl rfl) ?_
     exact Rg.goods_nil
    case fin =>
     intro wx hx
     simp only [Rg.later, List.take_succ_cons, List.take_zero, List.drop_succ_cons, List.drop_zero, Act.put, List.setIfInBounds_toArray, List.set_cons_succ, List.set_cons_zero]
     rintro v39 _ v42 _ v43 _ v44 _ v45 _ v46 ⟨gz, gb, sf, rfl, q1, q2, q3, q4⟩ v5 ⟨gs, rfl, hgs, hTz⟩
     have hst := s1_stored (r := 4) (lo := 4) (hi := n4) (n := [115]) hx q1 q2 q3 q4 hgs hTz
     obtain ⟨w5, hw5⟩ : ∃ w5, ((((wx.setCell ⟨gs, 0, none⟩ (.int .i64 4)).setCell ⟨gs, 1, none⟩ (.int .i64 4)).setCell ⟨gs, 2, none⟩ (.int .i64 n4)).setCell ⟨gs, 3, none⟩ (.slice (some ⟨gz, 0, none⟩) 2 2)).setCell ⟨gs, 4, none⟩ (.slice (some ⟨gb, 0, none⟩) 1 1) = w5 := ⟨_, rfl⟩
     have HTS : Hid (TAt w5 gs ⟨4, 4, n4, (some ⟨gz, 0, none⟩, 2, 2), (some ⟨gb, 0, none⟩, 1, 1)⟩ 38) := (by rw [← hw5]; exact hst.1 : TAt w5 _ _ _)
     have HSt : Hid (StOk w5 ⟨4, 4, n4, (some ⟨gz, 0, none⟩, 2, 2), (some ⟨gb, 0, none⟩, 1, 1)⟩ (nS n4 ⟨2, 4, r2, 0, 0, [98], sk⟩ zx sk)) := (by rw [← hw5]; exact hst.2.1 : StOk w5 _ _)
     have HX15 : Hid (Ex w1 w5) := (by rw [← hw5]; exact HX5.out.trans hst.2.2 : Ex w1 w5)
     obtain ⟨d0, d1, d2, d3, d4⟩ := hTz.all
     have g0 := hTz.frozen 0
     have g1 := hTz.frozen 1
     have g2 := hTz.frozen 2
     have g3 := hTz.frozen 3
     have g4 := hTz.frozen 4
     simp only [TV.zero] at d0 d1 d2 d3 d4
     obtain ⟨S, hS⟩ : ∃ S, nS n4 ⟨2, 4, r2, 0, 0, [98], sk⟩ zx sk = S := ⟨_, rfl⟩
     have hzl : (nS n4 ⟨2, 4, r2, 0, 0, [98], sk⟩ zx sk).zs.length ≤ 1000 := by simp [nS]
     have hbl : (nS n4 ⟨2, 4, r2, 0, 0, [98], sk⟩ zx sk).bs.length ≤ 1000 := by simp [nS]
     rw [hS] at HSt HSF hzl hbl
     have HZL : Hid (S.zs.length ≤ 1000) := hzl
     have HBL : Hid (S.bs.length ≤ 1000) := hbl
     obtain ⟨T, hT⟩ : ∃ T : TV, (⟨4, 4, n4, (some ⟨gz, 0, none⟩, 2, 2), (some ⟨gb, 0, none⟩, 1, 1)⟩ : TV) = T := ⟨_, rfl⟩
     rw [hT] at HTS HSt
     clear hst q1 q2 q3 q4 hgs hTz hS hT hx hzl hbl HT5 HZX hre HX5 hwn
     simp only [tvv, sv]
     go_wp2_with fail
     go_loopw [6] (fun iv wr => ∃ i : Nat, i ≤ 56 ∧ iv = .int .i64 i ∧ Hid (Ex w5 wr)) (fun iv wr => 56 - (intOf iv).toNat)
     case atStart => exact ⟨0, by omega, rfl, Ex.refl w5⟩
     case round =>
      obtain ⟨i, hi, rfl, HXi⟩ := hrel
      by_cases hlti : i < 56
      ·have htii : (i : Int) < 56 := by omega
       have hil : i < L.length := by have := HLN.out; omega
       obtain ⟨q, hq⟩ : ∃ q : Nat, (i + 7) % 56 = q := ⟨_, rfl⟩
       have hq1 : q < 56 := by omega
       have hql : q < L.length := by have := HLN.out; omega
       have hqt : ((i : Int) + 7).tmod 56 = (q : Int) := by rw [Int.tmod_eq_emod_of_nonneg (by omega)]; omega
       obtain ⟨b', o', u, hpp, hLu, e0, e1, e2, e3, e4, e5, e6⟩ := Pd.RdP.seven HL.out hil
       simp only [Option.some.injEq, Addr.mk.injEq, and_true] at hpp
       obtain ⟨rfl, rfl⟩ := hpp
       have HCU : Hid (w1.cell? ⟨lb, lo + i * 7, none⟩ = some (.int .i64 u.k) ∧ w1.cell? ⟨lb, lo + i * 7 + 1, none⟩ = some (.string (str u.col)) ∧ w1.cell? ⟨lb, lo + i * 7 + 2, none⟩ = some (.int .i64 u.n) ∧ w1.cell? ⟨lb, lo + i * 7 + 3, none⟩ = some (.int .i64 u.m) ∧ w1.cell? ⟨lb, lo + i * 7 + 4, none⟩ = some (.string (str u.s)) ∧ w1.cell? ⟨lb, lo + i * 7 + 5, none⟩ = some (.slice u.set.1 u.set.2.1 u.set.2.2) ∧ w1.cell? ⟨lb, lo + i * 7 + 6, none⟩ = some (.slice u.kids.1 u.kids.2.1 u.kids.2.2)) := ⟨e0, e1, e2, e3, e4, e5, e6⟩
       obtain ⟨b', o', u2, hpp, hLu2, e0, e1, e2, e3, e4, e5, e6⟩ := Pd.RdP.seven HL.out hql
       simp only [Option.some.injEq, Addr.mk.injEq, and_true] at hpp
       obtain ⟨rfl, rfl⟩ := hpp
       have HCQ : Hid (w1.cell? ⟨lb, lo + q * 7, none⟩ = some (.int .i64 u2.k) ∧ w1.cell? ⟨lb, lo + q * 7 + 1, none⟩ = some (.string (str u2.col)) ∧ w1.cell? ⟨lb, lo + q * 7 + 2, none⟩ = some (.int .i64 u2.n) ∧ w1.cell? ⟨lb, lo + q * 7 + 3, none⟩ = some (.int .i64 u2.m) ∧ w1.cell? ⟨lb, lo + q * 7 + 4, none⟩ = some (.string (str u2.s)) ∧ w1.cell? ⟨lb, lo + q * 7 + 5, none⟩ = some (.slice u2.set.1 u2.set.2.1 u2.set.2.2) ∧ w1.cell? ⟨lb, lo + q * 7 + 6, none⟩ = some (.slice u2.kids.1 u2.kids.2.1 u2.kids.2.2)) := ⟨e0, e1, e2, e3, e4, e5, e6⟩
       clear e0 e1 e2 e3 e4 e5 e6
       have hkn := kid_mid HL.out hil 3
       obtain ⟨p, hp⟩ : ∃ p, L[i] = p := ⟨_, rfl⟩
       obtain ⟨p2, hp2⟩ : ∃ p2, L[q] = p2 := ⟨_, rfl⟩
       have HFP : Hid (Pd.Fine p ∧ Pd.size p ≤ 10) := (by rw [← hp]; exact HLF.out _ (List.getElem_mem hil) : _ ∧ _)
       have HFQ : Hid (Pd.Fine p2 ∧ Pd.size p2 ≤ 10) := (by rw [← hp2]; exact HLF.out _ (List.getElem_mem hql) : _ ∧ _)
       rw [hp] at hLu hkn
       rw [hp2] at hLu2
       have HLU : Hid (Pd.Lay (fun _ => True) p w1 u) := hLu
       have HLQ : Hid (Pd.Lay (fun _ => True) p2 w1 u2) := hLu2
       have HLK : Hid (Pd.Lay (fun _ => True) (Pr.mk' (Pd.hk 3) [p]) w1 ⟨3, [], 0, 0, [], (none, 0, 0), some ⟨lb, lo + i * 7, none⟩, 1, lcap - i⟩) := hkn
       have HFF : Hid (∀ x ∈ four p p2, Pd.Fine x ∧ Pd.size x ≤ 1000000000) := (four_fine HFP.out HFQ.out : _)
       have hsl : ∀ w, (Instr.sliceAt 22 (.slice (some ⟨lb, lo, none⟩) 56 lcap) (some (.int .i64 (i : Int))) (some (.int .i64 ((i : Int) + 1))) none).run Try.prog w = .ok (.slice (some ⟨lb, lo + i * 7, none⟩) 1 (lcap - i)) w := mid22 lb lo 56 lcap i hlti hlc1 hlc2
       have HXo : Hid (Ex w1 wr) := (HX15.out.trans HXi.out : Ex w1 wr)
       obtain ⟨gn, hgn⟩ : ∃ gn, wr.heap.size = gn := ⟨_, rfl⟩
       obtain ⟨wn, hwn⟩ : ∃ wn, wr.alloc (pb ⟨3, [], 0, 0, [], (none, 0, 0), some ⟨lb, lo + i * 7, none⟩, 1, lcap - i⟩) = wn := ⟨_, rfl⟩
       have hXn : Ex wr wn := by rw [← hwn]; exact (Below.refl _ _).alloc (Nat.le_refl _) _
       have HPN : Hid (PAt wn gn ⟨3, [], 0, 0, [], (none, 0, 0), some ⟨lb, lo + i * 7, none⟩, 1, lcap - i⟩) := (by rw [← hwn, ← hgn]; exact PAt.new wr _ : PAt wn gn _)
       have HX1n : Hid (Ex w1 wn) := (HXo.out.trans hXn : Ex w1 wn)
       have HX5n : Hid (Ex w5 wn) := (HXi.out.trans hXn : Ex w5 wn)
       simp only [pb, sv, str] at hwn
       clear hXn hp hp2 hLu hLu2 hkn hq hil hql
       go_upto_region 14 with fail
       have hre := Ex.refl
       have hw7 : IntKind.i64.wrap ((i : Int) + 7) = (i : Int) + 7 := by rw [IntKind.wrap_i64]; omega
       have hqi : (q : Int) < 56 := by omega
       have hqi2 : ¬ (56 : Int) ≤ (q : Int) := by omega
       refine Rg.wp_rows_tail (List.take 15 _) (List.drop 15 _) (List.take_append_drop 15 _).symm [.inl (.slice (some ⟨lb, lo, none⟩) 56 lcap), .inl (.int .i64 (i : Int)), .inl (.pointer (some ⟨lb, lo + i * 7, none⟩)), .inl (pvv u), .inl (.slice (some ⟨lb, lo, none⟩) 56 lcap), .inl (.int .i64 (i : Int)), .inl (.int .i64 ((i : Int) + 7)), .inl (.slice (some ⟨lb, lo, none⟩) 56 lcap), .inl (.int .i64 56), .inl (.int .i64 (q : Int)), .inl (.pointer (some ⟨lb, lo + q * 7, none⟩)), .inl (pvv u2), .inr (IsBl [u, u2]), .inr (IsKd 1 [u, u2]), .inr (IsNew wn.heap.size)] (Ex wn) Ex 115 (by kernel_rfl) rfl (by kernel_rfl) (by kernel_rfl) (by kernel_rfl) (by decide) (by kernel_rfl) ?st hre (Ex.drew _) ?goods ?fin
       case st => exact ⟨IsBl.stands _, IsKd.stands _ _, IsNew.stands _, trivial⟩
       case goods =>
        refine Rg.goods_cons (Rg.good_move hre rfl rfl rfl) ?_
        refine Rg.goods_cons (Rg.good_move hre rfl rfl rfl) ?_
        refine Rg.goods_cons (Rg.good_index hre rfl rfl rfl rfl (fun wx hC => by go_simp)) ?_
        refine Rg.goods_cons (Rg.good_load hre rfl rfl rfl (fun wx hC => (by obtain ⟨e0, e1, e2, e3, e4, e5, e6⟩ := HCU.out; exact loadI_pred (cell_ex e0 (HX1n.out.trans hC)) (cell_ex e1 (HX1n.out.trans hC)) (cell_ex e2 (HX1n.out.trans hC)) (cell_ex e3 (HX1n.out.trans hC)) (cell_ex e4 (HX1n.out.trans hC)) (cell_ex e5 (HX1n.out.trans hC)) (cell_ex e6 (HX1n.out.trans hC))))) ?_
        refine Rg.goods_cons (Rg.good_move hre rfl rfl rfl) ?_
        refine Rg.goods_cons (Rg.good_move hre rfl rfl rfl) ?_
        refine Rg.goods_cons (Rg.good_bin hre rfl rfl rfl rfl (fun _ => rfl) (fun w => by go_simp)) ?_
        refine Rg.goods_cons (Rg.good_move hre rfl rfl rfl) ?_
        refine Rg.goods_cons (Rg.good_len hre rfl rfl (by rintro u wx hC rfl; go_simp)) ?_
        refine Rg.goods_cons (Rg.good_bin hre rfl rfl rfl rfl (fun _ => rfl) (fun w => by go_simp)) ?_
        refine Rg.goods_cons (Rg.good_index hre rfl rfl rfl rfl (fun wx hC => by go_simp)) ?_
        refine Rg.goods_cons (Rg.good_load hre rfl rfl rfl (fun wx hC => (by obtain ⟨e0, e1, e2, e3, e4, e5, e6⟩ := HCQ.out; exact loadI_pred (cell_ex e0 (HX1n.out.trans hC)) (cell_ex e1 (HX1n.out.trans hC)) (cell_ex e2 (HX1n.out.trans hC)) (cell_ex e3 (HX1n.out.trans hC)) (cell_ex e4 (HX1n.out.trans hC)) (cell_ex e5 (HX1n.out.trans hC)) (cell_ex e6 (HX1n.out.trans hC))))) ?_
        refine Rg.goods_cons (good_bl2 rfl rfl rfl rfl) ?_
        refine Rg.goods_cons (good_kd rfl rfl rfl) ?_
        refine Rg.goods_cons (Rg.good_alloc25 rfl rfl) ?_
        exact Rg.goods_nil
       case fin =>
        intro wx hx
        simp only [Rg.later, List.take_succ_cons, List.take_zero, List.drop_succ_cons, List.drop_zero, Act.put, List.setIfInBounds_toArray, List.set_cons_succ, List.set_cons_zero]
        rintro v71 _ v72 ⟨gk, rfl, qh, qr⟩ v8 ⟨g8, rfl, hg8, hPz⟩
        have hst := kd_stored (p := p) (q := p2) 1 hx (Pd.Lay.below _ HLU.out HX1n.out) (Pd.Lay.below _ HLQ.out HX1n.out) qh qr hg8 hPz
        obtain ⟨w8, hw8⟩ : ∃ w8, ((((((wx.setCell ⟨g8, 0, none⟩ (.int .i64 1)).setCell ⟨g8, 1, none⟩ (.string (str []))).setCell ⟨g8, 2, none⟩ (.int .i64 0)).setCell ⟨g8, 3, none⟩ (.int .i64 0)).setCell ⟨g8, 4, none⟩ (.string (str []))).setCell ⟨g8, 5, none⟩ (.slice none 0 0)).setCell ⟨g8, 6, none⟩ (.slice (some ⟨gk, 0, none⟩) 2 2) = w8 := ⟨_, rfl⟩
        have HP8 : Hid (PAt w8 g8 ⟨1, [], 0, 0, [], (none, 0, 0), some ⟨gk, 0, none⟩, 2, 2⟩) := (by rw [← hw8]; exact hst.1 : PAt w8 g8 _)
        have HL8 : Hid (Pd.Lay (fun _ => True) (Pr.mk' (Pd.hk 1) [p, p2]) w8 ⟨1, [], 0, 0, [], (none, 0, 0), some ⟨gk, 0, none⟩, 2, 2⟩) := (by rw [← hw8]; exact hst.2.1 : Pd.Lay _ _ w8 _)
        have hXn8 : Ex wn w8 := by rw [← hw8]; exact hst.2.2
        have HX18 : Hid (Ex w1 w8) := (HX1n.out.trans hXn8 : Ex w1 w8)
        have HX58 : Hid (Ex w5 w8) := (HX5n.out.trans hXn8 : Ex w5 w8)
        have HXn8 : Hid (Ex wn w8) := hXn8
        have HPN8 : Hid (PAt w8 gn ⟨3, [], 0, 0, [], (none, 0, 0), some ⟨lb, lo + i * 7, none⟩, 1, lcap - i⟩) := (HPN.out.below hXn8 : PAt w8 gn _)
        obtain ⟨d0, d1, d2, d3, d4, d5, d6⟩ := hPz.all
        obtain ⟨g0, g1, g2, g3, g4, g5, g6⟩ := hPz.fro
        simp only [PV.zero] at d0 d1 d2 d3 d4 d5 d6
        clear hst qh qr hg8 hPz hx hre hXn8 hw7 hqi hqi2
        simp only [pvv, sv]
        go_upto_region 15 with fail
        have hre := Ex.refl
        refine Rg.wp_rows_tail (List.take 8 _) (List.drop 8 _) (List.take_append_drop 8 _).symm [.inl (.slice (some ⟨lb, lo, none⟩) 56 lcap), .inl (.int .i64 (i : Int)), .inl (.pointer (some ⟨lb, lo + i * 7, none⟩)), .inl (pvv u), .inl (pvv ⟨3, [], 0, 0, [], (none, 0, 0), some ⟨lb, lo + i * 7, none⟩, 1, lcap - i⟩), .inr (IsBl [u, ⟨3, [], 0, 0, [], (none, 0, 0), some ⟨lb, lo + i * 7, none⟩, 1, lcap - i⟩]), .inr (IsKd 2 [u, ⟨3, [], 0, 0, [], (none, 0, 0), some ⟨lb, lo + i * 7, none⟩, 1, lcap - i⟩]), .inr (IsNew w8.heap.size)] (Ex w8) Ex 115 (by kernel_rfl) rfl (by kernel_rfl) (by kernel_rfl) (by kernel_rfl) (by decide) (by kernel_rfl) ?st hre (Ex.drew _) ?goods ?fin
        case st => exact ⟨IsBl.stands _, IsKd.stands _ _, IsNew.stands _, trivial⟩
        case goods =>
         refine Rg.goods_cons (Rg.good_move hre rfl rfl rfl) ?_
         refine Rg.goods_cons (Rg.good_move hre rfl rfl rfl) ?_
         refine Rg.goods_cons (Rg.good_index hre rfl rfl rfl rfl (fun wx hC => by go_simp)) ?_
         refine Rg.goods_cons (Rg.good_load hre rfl rfl rfl (fun wx hC => (by obtain ⟨e0, e1, e2, e3, e4, e5, e6⟩ := HCU.out; exact loadI_pred (cell_ex e0 (HX18.out.trans hC)) (cell_ex e1 (HX18.out.trans hC)) (cell_ex e2 (HX18.out.trans hC)) (cell_ex e3 (HX18.out.trans hC)) (cell_ex e4 (HX18.out.trans hC)) (cell_ex e5 (HX18.out.trans hC)) (cell_ex e6 (HX18.out.trans hC))))) ?_
         refine Rg.goods_cons (Rg.good_load hre rfl rfl rfl (fun wx hC => (HPN8.out.below hC).loadI)) ?_
         refine Rg.goods_cons (good_bl2 rfl rfl rfl rfl) ?_
         refine Rg.goods_cons (good_kd rfl rfl rfl) ?_
         refine Rg.goods_cons (Rg.good_alloc25 rfl rfl) ?_
         exact Rg.goods_nil
        case fin =>
         intro wx hx
         simp only [Rg.later, List.take_succ_cons, List.take_zero, List.drop_succ_cons, List.drop_zero, Act.put, List.setIfInBounds_toArray, List.set_cons_succ, List.set_cons_zero]
         rintro v78 _ v79 ⟨gk9, rfl, qh, qr⟩ v9 ⟨g9, rfl, hg9, hPz⟩
         have hst := kd_stored (p := p) (q := Pr.mk' (Pd.hk 3) [p]) 2 hx (Pd.Lay.below _ HLU.out HX18.out) (Pd.Lay.below _ HLK.out HX18.out) qh qr hg9 hPz
         obtain ⟨w9, hw9⟩ : ∃ w9, ((((((wx.setCell ⟨g9, 0, none⟩ (.int .i64 2)).setCell ⟨g9, 1, none⟩ (.string (str []))).setCell ⟨g9, 2, none⟩ (.int .i64 0)).setCell ⟨g9, 3, none⟩ (.int .i64 0)).setCell ⟨g9, 4, none⟩ (.string (str []))).setCell ⟨g9, 5, none⟩ (.slice none 0 0)).setCell ⟨g9, 6, none⟩ (.slice (some ⟨gk9, 0, none⟩) 2 2) = w9 := ⟨_, rfl⟩
         have HP9 : Hid (PAt w9 g9 ⟨2, [], 0, 0, [], (none, 0, 0), some ⟨gk9, 0, none⟩, 2, 2⟩) := (by rw [← hw9]; exact hst.1 : PAt w9 g9 _)
         have HL9 : Hid (Pd.Lay (fun _ => True) (Pr.mk' (Pd.hk 2) [p, Pr.mk' (Pd.hk 3) [p]]) w9 ⟨2, [], 0, 0, [], (none, 0, 0), some ⟨gk9, 0, none⟩, 2, 2⟩) := (by rw [← hw9]; exact hst.2.1 : Pd.Lay _ _ w9 _)
         have hX89 : Ex w8 w9 := by rw [← hw9]; exact hst.2.2
         have HX19 : Hid (Ex w1 w9) := (HX18.out.trans hX89 : Ex w1 w9)
         have HX59 : Hid (Ex w5 w9) := (HX58.out.trans hX89 : Ex w5 w9)
         have HX89 : Hid (Ex w8 w9) := hX89
         have HPN9 : Hid (PAt w9 gn ⟨3, [], 0, 0, [], (none, 0, 0), some ⟨lb, lo + i * 7, none⟩, 1, lcap - i⟩) := (HPN8.out.below hX89 : PAt w9 gn _)
         have HP89 : Hid (PAt w9 g8 ⟨1, [], 0, 0, [], (none, 0, 0), some ⟨gk, 0, none⟩, 2, 2⟩) := (HP8.out.below hX89 : PAt w9 g8 _)
         clear d0 d1 d2 d3 d4 d5 d6 g0 g1 g2 g3 g4 g5 g6
         obtain ⟨d0, d1, d2, d3, d4, d5, d6⟩ := hPz.all
         obtain ⟨g0, g1, g2, g3, g4, g5, g6⟩ := hPz.fro
         simp only [PV.zero] at d0 d1 d2 d3 d4 d5 d6
         clear hst qh qr hg9 hPz hx hre hX89 hw8 hwn
         simp only [pvv, sv]
         go_wp2_with fail
         go_loopw [10] (fun fv wr => ∃ f : Nat, f ≤ 16 ∧ fv = .int .i64 f ∧ Hid (Ex w9 wr)) (fun fv wr => 16 - (intOf fv).toNat)
         case atStart => exact ⟨0, by omega, rfl, Ex.refl w9⟩
         case round =>
          obtain ⟨f, hf, rfl, HXf⟩ := hrel
          have HX1f : Hid (Ex w1 wr) := (HX19.out.trans HXf.out : Ex w1 wr)
          by_cases hltf : f < 16
          ·have htif : (f : Int) < 16 := by omega
           go_upto_region 19 with fail
           have hre := Ex.refl
           refine Rg.wp_rows [.inl (.slice (some ⟨lb, lo, none⟩) 56 lcap), .inl (.int .i64 (i : Int)), .inl (.pointer (some ⟨lb, lo + i * 7, none⟩)), .inl (pvv u), .inl (pvv ⟨3, [], 0, 0, [], (none, 0, 0), some ⟨lb, lo + i * 7, none⟩, 1, lcap - i⟩), .inl (pvv ⟨1, [], 0, 0, [], (none, 0, 0), some ⟨gk, 0, none⟩, 2, 2⟩), .inl (pvv ⟨2, [], 0, 0, [], (none, 0, 0), some ⟨gk9, 0, none⟩, 2, 2⟩), .inr (IsBl [u, ⟨3, [], 0, 0, [], (none, 0, 0), some ⟨lb, lo + i * 7, none⟩, 1, lcap - i⟩, ⟨1, [], 0, 0, [], (none, 0, 0), some ⟨gk, 0, none⟩, 2, 2⟩, ⟨2, [], 0, 0, [], (none, 0, 0), some ⟨gk9, 0, none⟩, 2, 2⟩]), .inl (.int .i64 4), .inl (.int .i64 0)] (Ex wr) Ex 115 (by kernel_rfl) rfl (by kernel_rfl) ?st hre (Ex.drew _) ?goods ?fin
           case st => exact ⟨IsBl.stands _, trivial⟩
           case goods =>
            refine Rg.goods_cons (Rg.good_move hre rfl rfl rfl) ?_
            refine Rg.goods_cons (Rg.good_move hre rfl rfl rfl) ?_
            refine Rg.goods_cons (Rg.good_index hre rfl rfl rfl rfl (fun wx hC => by go_simp)) ?_
            refine Rg.goods_cons (Rg.good_load hre rfl rfl rfl (fun wx hC => (by obtain ⟨e0, e1, e2, e3, e4, e5, e6⟩ := HCU.out; exact loadI_pred (cell_ex e0 (HX1f.out.trans hC)) (cell_ex e1 (HX1f.out.trans hC)) (cell_ex e2 (HX1f.out.trans hC)) (cell_ex e3 (HX1f.out.trans hC)) (cell_ex e4 (HX1f.out.trans hC)) (cell_ex e5 (HX1f.out.trans hC)) (cell_ex e6 (HX1f.out.trans hC))))) ?_
            refine Rg.goods_cons (Rg.good_load hre rfl rfl rfl (fun wx hC => (HPN9.out.below (HXf.out.trans hC)).loadI)) ?_
            refine Rg.goods_cons (Rg.good_load hre rfl rfl rfl (fun wx hC => (HP89.out.below (HXf.out.trans hC)).loadI)) ?_
            refine Rg.goods_cons (Rg.good_load hre rfl rfl rfl (fun wx hC => (HP9.out.below (HXf.out.trans hC)).loadI)) ?_
            refine Rg.goods_cons (good_bl4 rfl rfl rfl rfl rfl rfl) ?_
            refine Rg.goods_cons (Rg.good_len hre rfl rfl (by rintro u wx hC ⟨g, rfl, _, _⟩; go_simp)) ?_
            refine Rg.goods_cons (Rg.good_move hre rfl rfl rfl) ?_
            exact Rg.goods_nil
           case fin =>
            intro wx hx
            simp only [Rg.later, List.take_succ_cons, List.take_zero, List.drop_succ_cons, List.drop_zero, Act.put, List.setIfInBounds_toArray, List.set_cons_succ, List.set_cons_zero]
            rintro v91 ⟨g91, rfl, _, hR⟩
            have HRx : Hid (Pd.RdP wx (some ⟨g91, 0, none⟩) 4 (four p p2)) := (⟨_, hR, (((Pd.Lays.one (Pd.Lay.below _ HLU.out (HX1f.out.trans hx))).append (Pd.Lays.one (Pd.Lay.below _ HLK.out (HX1f.out.trans hx)))).append (Pd.Lays.one (Pd.Lay.below _ HL8.out (HX89.out.trans (HXf.out.trans hx))))).append (Pd.Lays.one (Pd.Lay.below _ HL9.out (HXf.out.trans hx)))⟩ : Pd.RdP _ _ _ _)
            have HX9x : Hid (Ex w9 wx) := (HXf.out.trans hx : Ex w9 wx)
            obtain ⟨wo2, hwo2⟩ : ∃ wo2, wo2 = wx := ⟨_, rfl⟩
            subst hwo2
            clear hR hx hre
            simp only [List.length_cons, List.length_nil, Nat.zero_add, Nat.reduceAdd]
            go_wp2_with fail
            go_loopw [93] (fun jv wr => ∃ j : Nat, j ≤ 4 ∧ jv = .int .i64 j ∧ Hid (Ex wo2 wr)) (fun jv wr => 4 - (intOf jv).toNat)
            case atStart => exact ⟨0, by omega, rfl, Ex.refl wo2⟩
            case round =>
             obtain ⟨j, hj, rfl, HXj⟩ := hrel
             have HX9j : Hid (Ex w9 wr) := (HX9x.out.trans HXj.out : Ex w9 wr)
             by_cases hltj : j < 4
             ·have htij : (j : Int) < 4 := by omega
              have hjl : j < (four p p2).length := hltj
              obtain ⟨b', o', x, hpp, hLx, e0, e1, e2, e3, e4, e5, e6⟩ := Pd.RdP.seven (HRx.out.below HXj.out) hjl
              simp only [Option.some.injEq, Addr.mk.injEq, and_true] at hpp
              obtain ⟨rfl, rfl⟩ := hpp
              simp only [Nat.zero_add] at e0 e1 e2 e3 e4 e5 e6
              obtain ⟨P, hP⟩ : ∃ P, (four p p2)[j] = P := ⟨_, rfl⟩
              have HFX : Hid (Pd.Fine P ∧ Pd.size P ≤ 1000000000) := (by rw [← hP]; exact HFF.out _ (List.getElem_mem hjl) : _ ∧ _)
              rw [hP] at hLx
              obtain ⟨gp, hgp⟩ : ∃ gp, wr.heap.size = gp := ⟨_, rfl⟩
              obtain ⟨wp, hwp⟩ : ∃ wp, wr.alloc (pb x) = wp := ⟨_, rfl⟩
              have hXp : Ex wr wp := by rw [← hwp]; exact (Below.refl _ _).alloc (Nat.le_refl _) _
              have HPP : Hid (PAt wp gp x) := (by rw [← hwp, ← hgp]; exact PAt.new wr _ : PAt wp gp _)
              have HLP : Hid (Pd.Lay (fun _ => True) P wp x) := Pd.Lay.below _ hLx hXp
              have HXp : Hid (Ex wo2 wp) := (HXj.out.trans hXp : Ex wo2 wp)
              have HX5p : Hid (Ex w5 wp) := (HX59.out.trans (HX9j.out.trans hXp) : Ex w5 wp)
              obtain ⟨o, ho⟩ : ∃ o, Pu.judge S (Pu.fg f) P = o := ⟨_, rfl⟩
              have HO : Hid (Pu.judge S (Pu.fg f) P = o) := ho
              clear hLx hP hXp ho hjl
              go_upto_region 22 with fail
              have hre := Ex.refl
              refine Rg.wp_rows [.inl (pvv x), .inl (tvv T), .inl (.int .i64 (f : Int)), .inl (.int .i64 (o : Int)), .inl (pvv x), .inl (tvv T), .inr (IsSx S), .inl (.int .i64 (f : Int)), .inl (.int .i64 (o : Int)), .inl (.bool false)] (Ex wp) Ex 115 (by kernel_rfl) rfl (by kernel_rfl) ?st hre (Ex.drew _) ?goods ?fin
              case st => exact ⟨IsSx.stands _, trivial⟩
              case goods =>
               refine Rg.goods_cons (Rg.good_load hre rfl rfl rfl (fun wx hC => (HPP.out.below hC).loadI)) ?_
               refine Rg.goods_cons (Rg.good_load hre rfl rfl rfl (fun wx hC => loadI_stats38 (HTS.out.below (HX5p.out.trans hC)))) ?_
               refine Rg.goods_cons (Rg.good_move hre rfl rfl rfl) ?_
               refine Rg.goods_cons (Rg.good_call3 Try.func10 (by kernel_rfl) rfl rfl rfl (by rintro v0 v1 v2 wx hC rfl rfl rfl; exact ex_rowP (pJudge_is S HSF.out P HFX.out.1 _ _ f wx (Pd.Lay.below _ HLP.out hC) (HSt.out.below (HX5p.out.trans hC)) o HO.out) hC)) ?_
               refine Rg.goods_cons (Rg.good_load hre rfl rfl rfl (fun wx hC => (HPP.out.below hC).loadI)) ?_
               refine Rg.goods_cons (Rg.good_load hre rfl rfl rfl (fun wx hC => loadI_stats38 (HTS.out.below (HX5p.out.trans hC)))) ?_
               refine Rg.goods_cons (Rg.good_call1 Try.func12 (by kernel_rfl) rfl rfl rfl (by rintro v0 wx hC rfl; exact in_rowx S _ (HSt.out.below (HX5p.out.trans hC)) HZL.out HBL.out hC)) ?_
               refine Rg.goods_cons (Rg.good_move hre rfl rfl rfl) ?_
               refine Rg.goods_cons (Rg.good_call3 Try.func11 (by kernel_rfl) rfl rfl rfl (by rintro v0 v1 v2 wx hC rfl ⟨u, rfl, hu⟩ rfl; exact ex_rowP (rJudge_is S HSF.out P HFX.out.1 HFX.out.2 _ _ f wx (Pd.Lay.below _ HLP.out hC) hu o HO.out) hC)) ?_
               refine Rg.goods_cons (Rg.good_bin hre rfl rfl rfl rfl (fun _ => rfl) (fun w => by go_simp)) ?_
               exact Rg.goods_nil
              case fin =>
               intro wx hx
               simp only [Rg.later, Act.put, List.setIfInBounds_toArray, List.set_cons_succ, List.set_cons_zero]
               intro vs1 hs1
               have HXx : Hid (Ex wo2 wx) := (HXp.out.trans hx : Ex wo2 wx)
               clear hx hs1 hre e0 e1 e2 e3 e4 e5 e6 hwp
               go_wp2_with fail
               go_roundw
               case rel => exact ⟨j + 1, by omega, by go_num, HXx⟩
               case measure => simp [intOf]; omega
             ·have htij : ¬ (j : Int) < 4 := by omega
              go_wp2_with fail
              go_roundw
              case rel =>
               first
                | exact ⟨f + 1, by omega, by go_num, HX9j⟩
                | exact ⟨f + 1, by omega, by go_num⟩
                | exact ⟨⟨f + 1, by omega, by go_num⟩, HX9j⟩
                | skip
              case measure => simp [intOf]; omega
          ·have htif : ¬ (f : Int) < 16 := by omega
           have HX5f : Hid (Ex w5 wr) := (HX59.out.trans HXf.out : Ex w5 wr)
           go_wp2_with fail
           go_roundw
           case rel => exact ⟨i + 1, by omega, by go_num, HX5f⟩
           case measure => simp [intOf]; omega
      ·have htii : ¬ (i : Int) < 56 := by omega
       have HX1i : Hid (Ex w1 wr) := (HX15.out.trans HXi.out : Ex w1 wr)
       go_wp2_with fail
       go_roundw
       case rel => exact ⟨k + 1, by omega, by go_num, HX1i⟩
       case measure => simp [intOf]; omega
  ·have hti : ¬ (k : Int) < 5 := by omega
   have HXk : Hid (Ex w wr) := (HX1.out.trans HX.out : Ex w wr)
   go_wp2_with fail
   go_at_call 13
   refine (every_is wr).mono ?_
   rintro e w2 ⟨u, rfl, hLu, hx2⟩
   have HJ0 : Hid (Calls Try.prog 10 #[pvv u, tvv TV.zero, .int .i64 0] w2 fun e w' => e = .returned (.int .i64 ((1 : Nat) : Int)) ∧ Ex w2 w') := pJudge_is St0n st0n_fine _ kA_fine _ _ 0 w2 (Pd.Lay.mono (fun _ _ => trivial) _ hLu) (st0n_ok w2) 1 (Pu.judge0n kA_right)
   have HX2 : Hid (Ex w w2) := (HXk.out.trans hx2 : Ex w w2)
   clear hLu hx2
   go_wp2_with fail
   go_at_call 10
   refine Calls.mono HJ0.out ?_
   rintro e w3 ⟨rfl, hx3⟩
   have HX3 : Hid (Ex w w3) := (HX2.out.trans hx3 : Ex w w3)
   clear hx3 HJ0
   go_wp2_with fail
   go_at_call 14
   refine (known_is w3).mono ?_
   rintro e w4 ⟨rfl, hx4⟩
   have HX4 : Hid (Ex w w4) := (HX3.out.trans hx4 : Ex w w4)
   clear hx4
   go_wp2_with fail
   go_ret
   exact ⟨rfl, HX4.out⟩
end Go.Proofs.Ytibnhjfeepdddaa.pruneNumbers
