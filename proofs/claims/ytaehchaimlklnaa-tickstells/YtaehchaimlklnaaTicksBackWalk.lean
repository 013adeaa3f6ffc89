/-
  The walk of TicksBack.
-/
import Derived.Test.YtaehchaimlklnaaTback
import Derived.Test.YtaehchaimlklnaaTicksBuildWalk
namespace Go.Proofs.Ytaehchaimlklnaa
theorem Tk.enc_len (x : Tk.Ix) : (Tk.enc x).length ≤ 10 * x.a.length + 30 := by
  have h1 := M.digs_len x.r.toNat
  have h2 := M.digs_len (M.zig x.m).toNat
  have h3 := D.enc_len x.a
  unfold Tk.enc
  simp only [List.length_append]
  omega
end Go.Proofs.Ytaehchaimlklnaa
namespace Go.Proofs.Ytaehchaimlklnaa.ticksBack
open Go.RowKit Go.Proofs.Ytaehchaimlklnaa
set_option linter.unusedVariables false
set_option linter.unusedSimpArgs false
set_option maxRecDepth 100000 in
set_option maxHeartbeats 8000000 in
theorem walk (a0 : Int) (p1 : Option Addr) (c1 : Nat) (l1 : List Int) (p2' : Option Addr) (c2' : Nat) (l2 : List UInt8) (p3 : Option Addr) (c3 : Nat) (l3 : List UInt8) (w : World) (w0 : -9223372036854775808 ≤ a0 ∧ a0 ≤ 9223372036854775807) (b1 : Rd z64 w p1 c1 l1) (m1 : ∀ x ∈ l1, In64 x) (w1 : l1.length ≤ 17592186043904) (b2 : Byt w p2' c2' l2) (w2 : l2.length ≤ 140737488351232) (b3 : Byt w p3 c3 l3) (w3 : l3.length ≤ 140737488351232) :
    Calls Try.prog 6 #[.int .i64 a0, .slice p1 l1.length c1, .slice p2' l2.length c2', .slice p3 l3.length c3] w fun e w' => e = .returned (.bool true) ∧ Below w.heap.size w w' := by
  obtain ⟨w01, w02⟩ := w0
  have HB2 : Hid (Byt w p2' c2' l2) := b2
  have HB3 : Hid (Byt w p3 c3 l3) := b3
  have hcl3 := b3.1
  have hcm3 := b3.2.1
  unfold maxLen at hcm3
  obtain ⟨⟨X3, k2, e2⟩, hdec⟩ : ∃ z, Tk.dec l3 0 = z := ⟨_, rfl⟩
  have HD3 : Hid (Tk.dec l3 0 = (X3, k2, e2)) := hdec
  clear b2 b3 hdec
  have HB1 : Hid (Rd z64 w p1 c1 l1) := b1
  have HM1 : Hid (∀ x ∈ l1, D.ok x) := (fun x hx => m1 x hx : ∀ x ∈ l1, D.ok x)
  obtain ⟨B, hb⟩ : ∃ B, a0.tmod 1099511627776 = B := ⟨_, rfl⟩
  have hb1 : -1099511627776 < B := by rw [← hb]; exact Int.lt_tmod_of_pos a0 (by omega)
  have hb2 : B < 1099511627776 := by rw [← hb]; exact Int.tmod_lt_of_pos a0 (by omega)
  clear b1 m1
  go_enter Try.func6, Try.ntmps6
  go_wp2_with fail
  refine (rising_is a0 p1 _ c1 l1 _ rfl HB1.out HM1.out ⟨w01, w02⟩ B hb).mono ?_
  rintro e wa ⟨pl, cl, l, rfl, hrl, hRi, hll, hrange, hxa⟩
  have hcl := hrl.1
  have hcm := hrl.2.1
  unfold maxLen at hcm
  have HRl : Hid (Rd z64 wa pl cl l) := hrl
  have hlok : ∀ x ∈ l, D.ok x := fun x hx => by have := hrange x hx; exact ⟨by omega, by omega⟩
  have HLok : Hid (∀ x ∈ l, D.ok x) := hlok
  have HXa : Hid (Ex w wa) := hxa
  have HEok : Hid (∀ x ∈ Tk.evs l, D.ok x) := (fun x hx => hlok x (Tk.evs_mem hx) : ∀ x ∈ Tk.evs l, D.ok x)
  obtain ⟨M, hM⟩ : ∃ M, Tk.lst l = M := ⟨_, rfl⟩
  have HMok : Hid (D.ok M) := (by rw [← hM]; exact Tk.lst_ok hlok : D.ok M)
  obtain ⟨A, hA⟩ : ∃ A, Tk.evs l = A := ⟨_, rfl⟩
  have hAl : A.length = (l.length + 3) / 4 := by rw [← hA]; exact Tk.evs_len l
  have hix : Tk.ix l = ⟨l.length, M, A⟩ := by unfold Tk.ix; rw [hM, hA]
  have hbuild := Tk.build_ix (show l.length ≤ 1048576 by omega) hRi
  rw [hix] at hbuild
  have HBu : Hid (Tk.build l = (⟨l.length, M, A⟩, 0)) := hbuild
  rw [hA] at HEok
  have hright := Tk.right_ix (l := l) (by omega) hRi
  rw [hix] at hright
  have hA60 : A.length ≤ 15 := by omega
  obtain ⟨Cb, hCb⟩ : ∃ Cb, Tk.enc ⟨l.length, M, A⟩ = Cb := ⟨_, rfl⟩
  have hCl : Cb.length ≤ 200 := by
    have h := Tk.enc_len ⟨l.length, M, A⟩
    rw [hCb] at h
    simp only at h
    omega
  have HE : Hid (Tk.encE ⟨l.length, M, A⟩ = (Cb, 0)) := (by unfold Tk.encE; rw [if_pos hright, hCb] : Tk.encE ⟨l.length, M, A⟩ = (Cb, 0))
  obtain ⟨Db, hDb⟩ : ∃ Db, l2 ++ Cb = Db := ⟨_, rfl⟩
  have hDl : Db.length = l2.length + Cb.length := by rw [← hDb]; simp
  have hDl2 : Db.length ≤ 140737488355328 := by omega
  have HD : Hid (Tk.dec Db (l2.length : Int) = (⟨l.length, M, A⟩, Db.length, 0)) := (by
    have h := Tk.dec_enc (x := ⟨l.length, M, A⟩) hright HMok.out HEok.out l2 []
    rw [List.append_nil, hCb, hDb] at h
    exact h : Tk.dec Db (l2.length : Int) = (⟨l.length, M, A⟩, Db.length, 0))
  have HCb : Hid (l2 ++ Cb = Db) := hDb
  have HLm : Hid (D.ok (l.length : Int)) := (⟨by omega, by omega⟩ : D.ok (l.length : Int))
  clear hrl hlok hxa hM hA hAl hix hbuild hright hRi hrange hCb hDb hDl
  go_wp2_with fail
  refine (t_build pl l.length cl l _ rfl HRl.out HLok.out (by omega) ⟨l.length, M, A⟩ 0 HBu.out).mono ?_
  rintro e wb ⟨p2, c2, rfl, hr2, hx2⟩
  have hcl2 := hr2.1
  have hcm2 := hr2.2.1
  unfold maxLen at hcm2
  simp only at hr2 hcl2
  obtain ⟨wc, hwwc⟩ : ∃ wc, wb.alloc (Obj.cells #[Value.int IntKind.i64 l.length, Value.int IntKind.i64 M, Value.slice p2 A.length c2] 24) = wc := ⟨_, rfl⟩
  have hxwc : Ex wb wc := by rw [← hwwc]; exact (Below.refl _ _).alloc (Nat.le_refl _) _
  have HFwc : Hid (XAt wc wb.heap.size l.length M (.slice p2 A.length c2) 24) := (by rw [← hwwc]; exact XAt.new wb l.length M _ 24 : XAt wc wb.heap.size l.length M (.slice p2 A.length c2) 24)
  have HRc : Hid (Rd z64 wc p2 c2 A) := hr2.below hxwc
  have HXc : Hid (Ex w wc) := (HXa.out.trans hx2).trans hxwc
  obtain ⟨g0, g1, g2⟩ := HFwc.out.all
  clear hr2 hx2 hxwc
  simp only [xv]
  go_wp2_with fail
  refine (t_enc l.length M p2 A.length c2 A _ rfl HRc.out HEok.out (by omega) HLm.out HMok.out Cb 0 HE.out).mono ?_
  rintro e we ⟨ve, rfl, ⟨ac, cc, hve, hbc⟩, hxe⟩
  subst hve
  have HXe : Hid (Ex w we) := HXc.out.trans hxe
  have HFe : Hid (XAt we wb.heap.size l.length M (.slice p2 A.length c2) 24) := HFwc.out.below hxe
  have HRe : Hid (Rd z64 we p2 c2 A) := HRc.out.below hxe
  have HCe : Hid (Byt we ac cc Cb) := hbc
  clear hbc hxe g0 g1 g2 hwwc
  go_wp2_with (first
    | (refine wpList_build_own rfl 34 rfl 0 [] rfl (by decide) (fun _ => by kernel_rfl) we.heap.size (Nat.le_refl _) ?_; intro g34 w34 ho34 hx34)
    | (at_builtin; refine wpList_append_byt rfl (.tmp 34) (.tmp 35) rfl we.heap.size _ [] rfl ho34 p2' _ c2' l2 rfl rfl (HB2.out.below (HXe.out.trans hx34)) (by simp; omega) (Ex.size hx34) ?_; intro v36 w36 ho36 hg36; have X36 : Ex we w36 := step_below0 hx34 (Ex.size hx34) ho34 hg36; clear hg36; rw [List.nil_append] at ho36)
    | (at_builtin; refine wpList_append_byt rfl (.tmp 36) (.tmp 37) rfl we.heap.size _ l2 rfl ho36 ac _ cc Cb rfl rfl (HCe.out.below X36) (by omega) (Ex.size X36) ?_; intro v38 w38 ho38 hg38; have X38 : Ex we w38 := step_below0 X36 (Ex.size X36) ho36 hg38; clear hg38; rw [HCb.out] at ho38; obtain ⟨a38, c38, hv38, hb38⟩ := ho38.byt; subst hv38))
  have HX38 : Hid (Ex we w38) := X38
  have HB38 : Hid (Byt w38 a38 c38 Db) := hb38
  clear X38 hb38 ho38 X36 ho36 hx34 ho34
  refine (t_dec a38 _ c38 Db _ _ rfl HB38.out hDl2 ⟨by omega, by omega⟩ ⟨l.length, M, A⟩ Db.length 0 HD.out).mono ?_
  rintro e wd ⟨ag, cg, rfl, hbg, hxg⟩
  have hclg := hbg.1
  have hcmg := hbg.2.1
  unfold maxLen at hcmg
  simp only at hbg hclg
  obtain ⟨wg, hwwg⟩ : ∃ wg, wd.alloc (Obj.cells #[Value.int IntKind.i64 l.length, Value.int IntKind.i64 M, Value.slice ag A.length cg] 24) = wg := ⟨_, rfl⟩
  have hxwg : Ex wd wg := by rw [← hwwg]; exact (Below.refl _ _).alloc (Nat.le_refl _) _
  have HFwg : Hid (XAt wg wd.heap.size l.length M (.slice ag A.length cg) 24) := (by rw [← hwwg]; exact XAt.new wd l.length M _ 24 : XAt wg wd.heap.size l.length M (.slice ag A.length cg) 24)
  have HXeg : Hid (Ex we wg) := HX38.out.trans (hxg.trans hxwg)
  have HBg : Hid (Rd z64 wg ag cg A) := hbg.below hxwg
  clear hbg hxg hxwg
  simp only [xv]
  go_wp2_with fail
  have hre := Ex.refl
  refine Rg.wp_rows [.inl (Value.int .i64 0), .inl (.bool false), .inl (.bool false), .inl (Value.int .i64 0), .inl (.bool false), .inl (.bool false), .inl (.bool false), .inl (Value.int .i64 0), .inl (.bool false), .inl (.bool false), .inl (.bool false), .inl (Value.int .i64 (Db.length : Int)), .inl (Value.slice a38 Db.length c38), .inl (Value.int .i64 (Db.length : Int)), .inl (.bool false), .inl (.bool false), .inl (.bool false), .inl (xv l.length M (.slice ag A.length cg)), .inl (xv l.length M (.slice p2 A.length c2)), .inl (xv l.length M (.slice p2 A.length c2)), .inl (.bool true), .inl (.bool false), .inl (.bool false)] (Ex wg) Ex 101 (by kernel_rfl) rfl (by kernel_rfl) ?st hre (Ex.drew _) ?goods ?fin
  case st => exact trivial
  case goods =>
    refine Rg.goods_cons (Rg.good_move hre rfl rfl rfl) ?_
    refine Rg.goods_cons (Rg.good_bin hre rfl rfl rfl rfl (fun _ => rfl) (fun w => by go_simp)) ?_
    refine Rg.goods_cons (Rg.good_move hre rfl rfl rfl) ?_
    refine Rg.goods_cons (Rg.good_move hre rfl rfl rfl) ?_
    refine Rg.goods_cons (Rg.good_bin hre rfl rfl rfl rfl (fun _ => rfl) (fun w => by go_simp)) ?_
    refine Rg.goods_cons (Rg.good_pick false hre rfl rfl rfl rfl) ?_
    refine Rg.goods_cons (Rg.good_move hre rfl rfl rfl) ?_
    refine Rg.goods_cons (Rg.good_move hre rfl rfl rfl) ?_
    refine Rg.goods_cons (Rg.good_bin hre rfl rfl rfl rfl (fun _ => rfl) (fun w => by go_simp)) ?_
    refine Rg.goods_cons (Rg.good_pick false hre rfl rfl rfl rfl) ?_
    refine Rg.goods_cons (Rg.good_move hre rfl rfl rfl) ?_
    refine Rg.goods_cons (Rg.good_move hre rfl rfl rfl) ?_
    refine Rg.goods_cons (Rg.good_move hre rfl rfl rfl) ?_
    refine Rg.goods_cons (Rg.good_len hre rfl rfl (by rintro u w _ rfl; rfl)) ?_
    refine Rg.goods_cons (Rg.good_bin hre rfl rfl rfl rfl (fun _ => rfl) (fun w => by go_simp)) ?_
    refine Rg.goods_cons (Rg.good_pick false hre rfl rfl rfl rfl) ?_
    refine Rg.goods_cons (Rg.good_move hre rfl rfl rfl) ?_
    refine Rg.goods_cons (Rg.good_load hre rfl rfl rfl (fun wx hC => by exact load_ixI (.inl rfl) (HFwg.out.below hC))) ?_
    refine Rg.goods_cons (Rg.good_load hre rfl rfl rfl (fun wx hC => by exact load_ixI (.inl rfl) (HFe.out.below (HXeg.out.trans hC)))) ?_
    refine Rg.goods_cons (Rg.good_call1 Try.func16 (by kernel_rfl) rfl rfl rfl (by rintro u wx hC rfl; exact ex_row (in_is l.length M p2 A.length c2 wx) hC)) ?_
    refine Rg.goods_cons (Rg.good_call2 Try.func11 (by kernel_rfl) rfl rfl rfl (by rintro u u2 wx hC rfl rfl; exact ex_row (alike_is l.length M ag A.length cg A p2 A.length c2 wx rfl rfl (HBg.out.below hC) (HRe.out.below (HXeg.out.trans hC))) hC)) ?_
    refine Rg.goods_cons (Rg.good_un hre rfl rfl rfl (fun w => by go_simp)) ?_
    refine Rg.goods_cons (Rg.good_pick false hre rfl rfl rfl rfl) ?_
    exact Rg.goods_nil
  case fin =>
    intro wx hx
    simp only [Rg.later, Act.put, List.setIfInBounds_toArray, List.set_cons_succ, List.set_cons_zero]
    have HXx : Hid (Ex w wx) := (HXe.out.trans HXeg.out).trans hx
    clear hx hwwg
    go_wp2_with fail
    refine (t_dec p3 _ c3 l3 0 _ rfl (HB3.out.below HXx.out) (by omega) ⟨by omega, by omega⟩ X3 k2 e2 HD3.out).mono ?_
    rintro e wd2 ⟨ah, ch, rfl, hbh, hxh⟩
    obtain ⟨r3, m3, A3⟩ := X3
    have hclh := hbh.1
    have hcmh := hbh.2.1
    unfold maxLen at hcmh
    simp only at hbh hclh
    obtain ⟨wh, hwwh⟩ : ∃ wh, wd2.alloc (Obj.cells #[Value.int IntKind.i64 r3, Value.int IntKind.i64 m3, Value.slice ah A3.length ch] 24) = wh := ⟨_, rfl⟩
    have hxwh : Ex wd2 wh := by rw [← hwwh]; exact (Below.refl _ _).alloc (Nat.le_refl _) _
    have HFwh : Hid (XAt wh wd2.heap.size r3 m3 (.slice ah A3.length ch) 24) := (by rw [← hwwh]; exact XAt.new wd2 r3 m3 _ 24 : XAt wh wd2.heap.size r3 m3 (.slice ah A3.length ch) 24)
    have HXh : Hid (Ex w wh) := HXx.out.trans (hxh.trans hxwh)
    have HBh : Hid (Rd z64 wh ah ch A3) := hbh.below hxwh
    obtain ⟨k0', k1', k2'⟩ := HFwh.out.all
    clear hbh hxh hxwh
    simp only [xv]
    by_cases he : e2 = 0
    · subst he
      obtain ⟨hR3, hk2, hT3, hm3, hA3⟩ := Tk.dec_back (p := 0) HD3.out
      have hrows := Tk.right_rows hR3
      simp only at hrows hm3 hA3
      obtain ⟨Tb, hTb⟩ : ∃ Tb, l3.take k2 = Tb := ⟨_, rfl⟩
      rw [hTb, List.take_zero, List.nil_append] at hT3
      have HE3 : Hid (Tk.encE ⟨r3, m3, A3⟩ = (Tb, 0)) := (by unfold Tk.encE; rw [if_pos hR3, hT3] : Tk.encE ⟨r3, m3, A3⟩ = (Tb, 0))
      have HTb : Hid (l3.take k2 = Tb) := hTb
      have HM3 : Hid (D.ok m3) := hm3
      have HA3 : Hid (∀ y ∈ A3, D.ok y) := hA3
      have HR3 : Hid (D.ok r3) := (⟨by omega, by omega⟩ : D.ok r3)
      have hA3l : A3.length ≤ 300000 := by omega
      clear hR3 hT3 hTb hm3 hA3 hrows
      go_wp2_with fail
      refine (t_enc r3 m3 ah A3.length ch A3 _ rfl HBh.out HA3.out hA3l HR3.out HM3.out Tb 0 HE3.out).mono ?_
      rintro e wi ⟨vi, rfl, ⟨ai, ci, hvi, hbi⟩, hxi⟩
      subst hvi
      have HXi : Hid (Ex w wi) := HXh.out.trans hxi
      have HBi : Hid (Byt wi ai ci Tb) := hbi
      have HB3i : Hid (Byt wi p3 c3 Tb) := (by rw [← HTb.out]; exact (HB3.out.below HXi.out).take hk2 : Byt wi p3 c3 Tb)
      have HTl : Hid (k2 = Tb.length) := (by rw [← HTb.out]; simp; omega : k2 = Tb.length)
      clear hbi hxi k0' k1' k2' hwwh
      go_wp2_with fail
      have hre := Ex.refl
      refine Rg.wp_rows [.inl (Value.int .i64 0), .inl (.bool false), .inl (.bool false), .inl (Value.int .i64 (k2 : Int)), .inl (Value.slice p3 l3.length c3), .inl (Value.int .i64 (l3.length : Int)), .inl (.bool false), .inl (.bool false), .inl (.bool false), .inl (Value.slice ai Tb.length ci), .inl (Value.string (str Tb)), .inl (Value.slice p3 l3.length c3), .inl (Value.int .i64 (k2 : Int)), .inl (Value.slice p3 k2 c3), .inl (Value.string (str Tb)), .inl (.bool false), .inl (.bool false)] (Ex wi) Ex 101 (by kernel_rfl) rfl (by kernel_rfl) ?st hre (Ex.drew _) ?goods ?fin
      case st => exact trivial
      case goods =>
        refine Rg.goods_cons (Rg.good_move hre rfl rfl rfl) ?_
        refine Rg.goods_cons (Rg.good_bin hre rfl rfl rfl rfl (fun _ => rfl) (fun w => by go_simp)) ?_
        refine Rg.goods_cons (Rg.good_move hre rfl rfl rfl) ?_
        refine Rg.goods_cons (Rg.good_move hre rfl rfl rfl) ?_
        refine Rg.goods_cons (Rg.good_move hre rfl rfl rfl) ?_
        refine Rg.goods_cons (Rg.good_len hre rfl rfl (by rintro u w _ rfl; rfl)) ?_
        refine Rg.goods_cons (Rg.good_bin hre rfl rfl rfl rfl (fun _ => rfl) (fun w => by go_simp)) ?_
        refine Rg.goods_cons (Rg.good_pick false hre rfl rfl rfl rfl) ?_
        refine Rg.goods_cons (Rg.good_move hre rfl rfl rfl) ?_
        refine Rg.goods_cons (Rg.good_move hre rfl rfl rfl) ?_
        refine Rg.goods_cons (Rg.good_conv hre rfl rfl (by rintro u wx hC rfl; exact run_str (HBi.out.below hC) rfl)) ?_
        refine Rg.goods_cons (Rg.good_move hre rfl rfl rfl) ?_
        refine Rg.goods_cons (Rg.good_move hre rfl rfl rfl) ?_
        refine Rg.goods_cons (Rg.good_slice2 hre rfl rfl rfl (by rintro u wx hC rfl; exact ⟨_, slice_row p3 _ c3 k2 wx (by omega) (by unfold maxLen; omega), rfl⟩)) ?_
        refine Rg.goods_cons (Rg.good_conv hre rfl rfl (by rintro u wx hC rfl; exact run_str (HB3i.out.below hC) HTl.out)) ?_
        refine Rg.goods_cons (Rg.good_bin hre rfl rfl rfl rfl (fun _ => rfl) (fun w => by go_simp)) ?_
        refine Rg.goods_cons (Rg.good_pick false hre rfl rfl rfl rfl) ?_
        exact Rg.goods_nil
      case fin =>
        intro wy hy
        simp only [Rg.later, Act.put, List.setIfInBounds_toArray, List.set_cons_succ, List.set_cons_zero]
        have HXy : Hid (Ex w wy) := HXi.out.trans hy
        clear hy
        go_wp2_with fail
        refine (known_any _).mono ?_
        rintro e wk ⟨rfl, hxk⟩
        go_wp2_with fail
        go_ret
        exact ⟨rfl, HXy.out.trans hxk⟩
    · have tne : ((e2 : Int) == 0) = false := by simp; omega
      go_wp2_with fail
      refine (known_any _).mono ?_
      rintro e wk ⟨rfl, hxk⟩
      go_wp2_with fail
      go_ret
      exact ⟨rfl, HXh.out.trans hxk⟩
end Go.Proofs.Ytaehchaimlklnaa.ticksBack
