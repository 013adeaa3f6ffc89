/-
  Package bloom's Build, over the program. Package bloom's May, over the program.
-/
import Derived.Test.YtibnhjfeepdddaaM12
import Derived.Test.YtibnhjfeepdddaaM22
namespace Go.Proofs.Ytibnhjfeepdddaa
open Go.RowKit
set_option linter.unusedVariables false
set_option linter.unusedSimpArgs false
theorem idx_four (s : List UInt8) (m : Nat) {k : Nat} (hk : k < 4) (w : World) : (Instr.index 70 (qu s m) (.int .i64 (k : Int))).run Try.prog w = .ok (.int .u64 (Fl.pos s m k : Int)) w := by
 match k, hk with
 | 0, _ => simp [Instr.index, run_underlying Try.underlying70, asIntOf, go_sem, qu]
 | 1, _ => simp [Instr.index, run_underlying Try.underlying70, asIntOf, go_sem, qu]
 | 2, _ => simp [Instr.index, run_underlying Try.underlying70, asIntOf, go_sem, qu]
 | 3, _ => simp [Instr.index, run_underlying Try.underlying70, asIntOf, go_sem, qu]
set_option maxRecDepth 100000 in
set_option maxHeartbeats 4000000 in
theorem fil_is (a : Option Addr) (n cap : Nat) (D : List (List UInt8)) (w : World) (hn : n = D.length) (hB : Rd st w a cap D) (hl : D.length ≤ 500) (hx : ∀ x ∈ D, x.length ≤ 9223372036854775807) :
  Calls Try.prog 9 #[.slice a n cap] w fun e w' => ∃ v, e = .returned (fv (Fl.bits D : Int) v) ∧ Own w' w.heap.size v (Fl.bytes D) ∧ Ex w w' := by
 subst hn
 obtain ⟨d, hd⟩ : ∃ d, (T.bld D).length = d := ⟨_, rfl⟩
 have hd5 : d ≤ 500 := by rw [← hd]; exact Nat.le_trans (T.bld_len D) hl
 obtain ⟨m, hm⟩ : ∃ m, Fl.width d = m := ⟨_, rfl⟩
 have hWb := (Fl.width_is d).bounds
 rw [hm] at hWb
 have hm1 : 64 ≤ m := hWb.1
 have hm2 : m ≤ 65536 := hWb.2.1
 have HM8 : Hid (m % 8 = 0) := hWb.2.2
 have hbits : Fl.bits D = m := by unfold Fl.bits; rw [hd, hm]
 have hbytes : Fl.bytes D = Fl.fil m (Fl.has D m) := by unfold Fl.bytes; rw [hbits]
 rw [hbits, hbytes]
 have HD : Hid ((T.bld D).length = d) := hd
 have HM : Hid (Fl.width d = m) := hm
 have HDx : Hid (∀ x ∈ D, x.length ≤ 9223372036854775807) := hx
 have HRD0 : Hid (Rd st w a cap D) := hB
 have hcD := hB.1
 have hcD2 := hB.2.1
 unfold maxLen at hcD2
 obtain ⟨b8, hb8⟩ : ∃ b8, b8 = m / 8 := ⟨_, rfl⟩
 have hb8i : (m : Int) / 8 = (b8 : Int) := by omega
 have hb8l : b8 ≤ 8192 := by omega
 have HB8 : Hid (m = 8 * b8) := (by omega : m = 8 * b8)
 clear hB hx hd hm hWb hbits hbytes hb8
 go_enter Try.func9, Try.ntmps9
 go_wp2_with fail
 have hxa : Ex w (w.alloc (fb 0 (.slice none 0 0) 32)) := (Below.refl _ _).alloc (Nat.le_refl _) _
 refine (count_is a _ cap D _ rfl (HRD0.out.below hxa) hl d HD.out).mono ?_
 rintro e w1 ⟨rfl, hx1⟩
 have hF2 : FAt w1 w.heap.size 0 (.slice none 0 0) 32 := (FAt.new w 0 (.slice none 0 0) 32).below hx1
 have HX1 : Hid (Ex w w1) := hxa.trans hx1
 have HF2 : Hid (FAt w1 w.heap.size 0 (.slice none 0 0) 32) := hF2
 have HRD : Hid (Rd st w1 a cap D) := HRD0.out.below HX1.out
 clear hxa hx1 hF2 HRD0
 go_wp2_with fail
 refine (bsize_is d _ hd5 m HM.out).mono ?_
 rintro e wq ⟨rfl, hw⟩
 have hw' := hw.symm; clear hw; subst hw'
 go_wp2_with (at_make; refine wpList_make_zero rfl _ _ rfl _ _ b8 rfl rfl (by omega) (by omega) (by omega) ?_; intro w2 hg2 hb2)
 have hgB : w1.heap.size < w2.heap.size := (Array.getElem?_eq_some_iff.1 hg2).1
 have HRow0 : Hid (RowAt ub 5 (w2.alloc (fb (m : Int) (.slice (some ⟨w1.heap.size, 0, none⟩) b8 b8) 32)) w1.heap.size (Fl.fil m (Fl.has (D.take 0) m))) := (by
  have e : Fl.fil m (Fl.has (D.take 0) m) = List.replicate b8 0 := by rw [List.take_zero, Fl.has_nil, Fl.fil_none, show m / 8 = b8 from by have := HB8.out; omega]
  rw [e]
  exact RowAt.below (show RowAt ub 5 w2 w1.heap.size (List.replicate b8 0) from hg2) ((Below.refl _ _).alloc (Nat.le_refl _) _) : RowAt ub 5 _ _ _)
 have HF6 : Hid (FAt (w2.alloc (fb (m : Int) (.slice (some ⟨w1.heap.size, 0, none⟩) b8 b8) 32)) w2.heap.size m (.slice (some ⟨w1.heap.size, 0, none⟩) b8 b8) 32) := FAt.new _ _ _ _
 have HX2 : Hid (Ex w1 (w2.alloc (fb (m : Int) (.slice (some ⟨w1.heap.size, 0, none⟩) b8 b8) 32))) := Below.alloc hb2 (Nat.le_of_lt hgB) _
 clear hg2 hb2
 go_loopw [19] (fun i wr => ∃ j : Nat, j ≤ D.length ∧ i = .int .i64 j ∧ Hid (RowAt ub 5 wr w1.heap.size (Fl.fil m (Fl.has (D.take j) m))) ∧ Hid (FAt wr w2.heap.size m (.slice (some ⟨w1.heap.size, 0, none⟩) b8 b8) 32) ∧ Hid (Ex w1 wr)) (fun i _ => D.length - (intOf i).toNat)
 case atStart => exact ⟨0, by omega, rfl, HRow0, HF6, HX2⟩
 case round =>
  obtain ⟨j, hj, rfl, HRow, HF, HXr⟩ := hrel
  clear HRow0 HF6 HX2
  by_cases hlt : j < D.length
  ·obtain ⟨s, hs⟩ : ∃ s, D[j] = s := ⟨_, rfl⟩
   have hsD : s ∈ D := by rw [← hs]; exact List.getElem_mem hlt
   have hsl := HDx.out s hsD
   obtain ⟨bD, oD, rfl, hcs⟩ := (HRD.out.below HXr.out).2.2.2 j s (by rw [List.getElem?_eq_getElem hlt, hs])
   have hcs' : wr.cell? ⟨bD, oD + j, none⟩ = some (.string (str s)) := hcs
   have HNext : Hid (D.take (j + 1) = D.take j ++ [s]) := (by rw [List.take_succ_eq_append_getElem hlt, hs] : D.take (j + 1) = D.take j ++ [s])
   have tj : decide ((j : Int) < (D.length : Int)) = true := by simp; omega
   clear hs hsD hcs
   go_wp2_with fail
   refine (places_is s m _ hsl (by omega) (by omega)).mono ?_
   rintro e wb ⟨rfl, hxb⟩
   have HR0 : Hid (RowAt ub 5 wb w1.heap.size (Fl.fil m (Fl.adds (Fl.has (D.take j) m) s m 0))) := RowAt.below HRow.out hxb
   have HF0 : Hid (FAt wb w2.heap.size m (.slice (some ⟨w1.heap.size, 0, none⟩) b8 b8) 32) := HF.out.below hxb
   have HX0 : Hid (Ex w1 wb) := HXr.out.trans hxb
   clear hxb hcs' HRow HF HXr
   go_wp2_with fail
   go_loopw [26] (fun i wr => ∃ k : Nat, k ≤ 4 ∧ i = .int .i64 k ∧ Hid (RowAt ub 5 wr w1.heap.size (Fl.fil m (Fl.adds (Fl.has (D.take j) m) s m k))) ∧ Hid (FAt wr w2.heap.size m (.slice (some ⟨w1.heap.size, 0, none⟩) b8 b8) 32) ∧ Hid (Ex w1 wr)) (fun i _ => 4 - (intOf i).toNat)
   case atStart => exact ⟨0, by omega, rfl, HR0, HF0, HX0⟩
   case round =>
    obtain ⟨k, hk, rfl, HRk, HFk, HXk⟩ := hrel
    clear HR0 HF0 HX0
    by_cases hk4 : k < 4
    ·obtain ⟨P, hP⟩ : ∃ P, P = Fl.adds (Fl.has (D.take j) m) s m k := ⟨_, rfl⟩
     have hRk := HRk.out
     rw [← hP] at hRk
     have hix := idx_four s m hk4
     obtain ⟨p, hp⟩ : ∃ p, p = Fl.pos s m k := ⟨_, rfl⟩
     rw [← hp] at hix
     have hpm : p < m := by rw [hp]; exact Fl.pos_lt s (by omega) k
     obtain ⟨pd, hpd⟩ : ∃ pd, pd = p / 8 := ⟨_, rfl⟩
     obtain ⟨pr, hpr⟩ : ∃ pr, pr = p % 8 := ⟨_, rfl⟩
     have hpd8 : pd < b8 := by have := HB8.out; omega
     have hpr8 : pr < 8 := by omega
     have hpdi : (p : Int) / 8 = (pd : Int) := by omega
     obtain ⟨sh, hsh⟩ : ∃ sh, sh = 2 ^ pr := ⟨_, rfl⟩
     have hsh8 : sh < 256 := by rw [hsh]; exact pow_small hpr8
     have HSh : Hid (2 ^ (p % 8) = sh) := (by rw [hsh, hpr] : 2 ^ (p % 8) = sh)
     have hlen : (Fl.fil m P).length = b8 := by rw [Fl.fil_len]; have := HB8.out; omega
     obtain ⟨bt, hbt⟩ : ∃ bt, bt = Fl.num8 P pd := ⟨_, rfl⟩
     have hbt8 : bt < 256 := by rw [hbt]; exact Fl.num8_lt P pd
     have hcb : wr.cell? ⟨w1.heap.size, pd, none⟩ = some (.int .u8 (bt : Int)) := by
      have h1 := RowAt.cell (k := pd) hRk (by omega)
      have h2 : (Fl.fil m P)[pd]'(by omega) = Fl.byteOf P pd := by
       have := Fl.fil_at (n := m) (P := P) (j := pd) (by have := HB8.out; omega)
       rw [List.getElem?_eq_getElem (by omega)] at this
       exact Option.some.inj this
      rw [h2] at h1
      rw [h1]
      show some (Value.int .u8 ((Fl.byteOf P pd).toNat : Int)) = _
      rw [Fl.byteOf_toNat, ← hbt]
     obtain ⟨nb, hnb⟩ : ∃ nb, nb = bt ||| sh := ⟨_, rfl⟩
     have hor : bits .or .u8 (bt : Int) (sh : Int) = (nb : Int) := by rw [hnb]; exact I.or8 bt sh hbt8 hsh8
     have hnb8 : nb < 256 := by rw [hnb]; exact Nat.or_lt_two_pow (n := 8) hbt8 hsh8
     have hrow' : RowAt ub 5 (wr.setCell ⟨w1.heap.size, pd, none⟩ (.int .u8 (nb : Int))) w1.heap.size (Fl.fil m (Fl.adds (Fl.has (D.take j) m) s m (k + 1))) := by
      have h1 := RowAt.set (k := pd) (v := .int .u8 (nb : Int)) hRk (UInt8.ofNat nb) (by show _ = Value.int .u8 ((UInt8.ofNat nb).toNat : Int); rw [UInt8.toNat_ofNat']; congr 1; omega)
      have h2 := Fl.fil_set (n := m) (P := P) (k := p) HM8.out hpm (b := UInt8.ofNat nb) (by rw [UInt8.toNat_ofNat', ← hpd, ← hpr, ← hbt, ← hsh, ← hnb]; omega)
      rw [← hpd] at h2
      rw [h2] at h1
      show RowAt ub 5 _ _ (Fl.fil m (Fl.add (Fl.adds (Fl.has (D.take j) m) s m k) (Fl.pos s m k)))
      rw [← hP, ← hp]
      exact h1
     have HRow' : Hid (RowAt ub 5 (wr.setCell ⟨w1.heap.size, pd, none⟩ (.int .u8 (nb : Int))) w1.heap.size (Fl.fil m (Fl.adds (Fl.has (D.take j) m) s m (k + 1)))) := hrow'
     have hcf := HFk.out.all.2
     have hfz := RowAt.frozen pd hRk
     have tk : decide ((k : Int) < 4) = true := by simp; omega
     have tk2 : decide (k < 4) = true := by simp; omega
     clear hP hRk hp hpd hpr hsh hbt hnb hrow' hlen
     go_wp2_with fail
     obtain ⟨w0, hw0⟩ : ∃ w0, w0 = wr.drew := ⟨_, rfl⟩
     have hcb0 : w0.cell? ⟨w1.heap.size, pd, none⟩ = some (.int .u8 (bt : Int)) := by rw [hw0]; exact hcb
     have hcf0 : w0.cell? ⟨w2.heap.size, 1, none⟩ = some (.slice (some ⟨w1.heap.size, 0, none⟩) b8 b8) := by rw [hw0]; exact hcf
     have HW0 : Hid (w0 = wr.drew) := hw0
     clear hw0
     have hre : ∀ w : World, (fun w w' : World => w' = w) w w := fun _ => rfl
     refine Rg.wp_rows_tail (List.take 10 _) (List.drop 10 _) (List.take_append_drop 10 _).symm [.inl (Value.pointer (some ⟨w2.heap.size, 1, none⟩)), .inl (Value.slice (some ⟨w1.heap.size, 0, none⟩) b8 b8), .inl (Value.int .u64 p), .inl (Value.int .u64 pd), .inl (Value.pointer (some ⟨w1.heap.size, pd, none⟩)), .inl (Value.int .u8 bt), .inl (Value.int .u64 p), .inl (Value.int .u8 sh), .inl (Value.int .u8 nb), .inl (Value.pointer (some ⟨w1.heap.size, pd, none⟩))] (fun wx => wx = w0) (fun w w' => w' = w) 42 (by kernel_rfl) rfl (by kernel_rfl) (by kernel_rfl) (by kernel_rfl) (by decide) (by kernel_rfl) ?st hre (by exact HW0.out.symm) ?goods ?fin
     case st => exact trivial
     case goods =>
      refine Rg.goods_cons (Rg.bgood_field hre rfl rfl rfl (fun wx hC => by subst hC; go_simp)) ?_
      refine Rg.goods_cons (Rg.good_load hre rfl rfl rfl (fun wx hC => by subst hC; go_simp)) ?_
      refine Rg.goods_cons (Rg.good_move hre rfl rfl rfl) ?_
      refine Rg.goods_cons (Rg.good_bin hre rfl rfl rfl rfl (fun _ => rfl) (fun w => by go_simp; exact I.wraps64 _ (by omega) (by omega))) ?_
      refine Rg.goods_cons (Rg.good_index hre rfl rfl rfl rfl (fun wx hC => by subst hC; go_simp)) ?_
      refine Rg.goods_cons (Rg.good_load hre rfl rfl rfl (fun wx hC => by subst hC; go_simp)) ?_
      refine Rg.goods_cons (Rg.good_move hre rfl rfl rfl) ?_
      refine Rg.goods_cons (Rg.good_call1 Try.func27 (by kernel_rfl) rfl rfl rfl (by rintro u wx hC rfl; exact (mask_is p wx (by omega) sh HSh.out).mono fun e w' ⟨he, hw⟩ => ⟨_, he, rfl, hw, hw.trans hC⟩)) ?_
      refine Rg.goods_cons (Rg.good_bin hre rfl rfl rfl rfl (fun _ => rfl) (fun w => by go_simp)) ?_
      refine Rg.goods_cons (Rg.good_index hre rfl rfl rfl rfl (fun wx hC => by subst hC; go_simp)) ?_
      exact Rg.goods_nil
     case fin =>
      intro wx hx
      rw [hx, HW0.out]
      simp only [Rg.later, List.take_succ_cons, List.take_zero, List.drop_succ_cons, List.drop_zero, Act.put, List.setIfInBounds_toArray, List.set_cons_succ, List.set_cons_zero]
      go_wp2
      go_roundw
      case rel => exact ⟨k + 1, by omega, by go_num, HRow'.out, HFk.out.other (by omega), (HXk.out.setCell (p := ⟨w1.heap.size, pd, none⟩) (Nat.le_refl _) _).drew⟩
      case measure => simp [intOf]; omega
    ·obtain rfl : k = 4 := by omega
     have hrow : RowAt ub 5 wr w1.heap.size (Fl.fil m (Fl.has (D.take (j + 1)) m)) := by rw [HNext.out, ← Fl.adds_all]; exact HRk.out
     have HRow' : Hid (RowAt ub 5 wr w1.heap.size (Fl.fil m (Fl.has (D.take (j + 1)) m))) := hrow
     clear hrow
     go_wp2_with fail
     go_roundw
     case rel => exact ⟨j + 1, by omega, by go_num, HRow', HFk, HXk⟩
     case measure => simp [intOf]; omega
  ·obtain rfl : j = D.length := by omega
   have hrow := HRow.out
   rw [List.take_length] at hrow
   have HF2r : Hid (FAt wr w.heap.size 0 (.slice none 0 0) 32) := HF2.out.below HXr.out
   obtain ⟨c0, c1⟩ := HF.out.all
   obtain ⟨d0, d1⟩ := HF2r.out.all
   obtain ⟨f0, f1⟩ := HF2r.out.fro
   have hww : w.heap.size < w1.heap.size := HF2.out.lt
   clear hrow
   go_wp2_with fail
   refine bodyPost_ret (res_fil (g := w.heap.size) (k := m) (.inl rfl) rfl rfl ((HF2r.out.set0 m).set1 _)) rfl ⟨_, rfl, ?_, ?_⟩
   ·have h := row_own (RowAt.other (q := w.heap.size) (k := 1) (v := .slice (some ⟨w1.heap.size, 0, none⟩) b8 b8) (RowAt.other (q := w.heap.size) (k := 0) (v := .int .i64 m) (by have h := HRow.out; rw [List.take_length] at h; exact h : RowAt ub 5 wr w1.heap.size (Fl.fil m (Fl.has D m))) (by omega)) (by omega)) (base := w.heap.size) (n := b8) HX1.out.size (by rw [Fl.fil_len]; have := HB8.out; omega) (by omega)
    exact h
   ·exact Below.setCell (Below.setCell (HX1.out.trans HXr.out) (p := ⟨w.heap.size, 0, none⟩) (Nat.le_refl _) _) (p := ⟨w.heap.size, 1, none⟩) (Nat.le_refl _) _
end Go.Proofs.Ytibnhjfeepdddaa
namespace Go.Proofs.Ytibnhjfeepdddaa
open Go.RowKit
set_option linter.unusedVariables false
set_option linter.unusedSimpArgs false
theorem I.and8 (a b : Nat) (h1 : a < 256) (h2 : b < 256) : bits .and .u8 (a : Int) (b : Int) = ((a &&& b : Nat) : Int) :=
 (bits_nat .u8 8 (by decide) (fun n h h' => by rw [I.w8]; omega) a b (by omega) (by omega)).1
set_option maxRecDepth 100000 in
set_option maxHeartbeats 4000000 in
theorem may_is (k : Int) (a : Option Addr) (n cap : Nat) (B s : List UInt8) (w : World) (hn : n = B.length) (hB : Byt w a cap B) (hbl : B.length ≤ 281474976710656) (hs : s.length ≤ 9223372036854775807) (hk1 : -9223372036854775808 ≤ k) (hk2 : k ≤ 9223372036854775807) (r : Bool) (hr : Fl.may k B s = r) :
  Calls Try.prog 100 #[fv k (.slice a n cap), .string (str s)] w fun e w' => e = .returned (.bool r) ∧ Ex w w' := by
 subst hn
 have HB : Hid (Byt w a cap B) := hB
 have hcl := hB.1
 have hcm := hB.2.1
 unfold maxLen at hcm
 unfold Fl.may at hr
 have hxa : Ex w (w.alloc (fb k (.slice a B.length cap) 32)) := (Below.refl _ _).alloc (Nat.le_refl _) _
 have HF : Hid (FAt (w.alloc (fb k (.slice a B.length cap) 32)) w.heap.size k (.slice a B.length cap) 32) := FAt.new w k _ 32
 have HXa : Hid (Ex w (w.alloc (fb k (.slice a B.length cap) 32))) := hxa
 clear hB hxa
 cases hR : Fl.rightB k B.length with
 | false =>
  rw [hR] at hr
  have hrt : r = true := by rw [← hr]; rfl
  subst hrt
  have HR : Hid (Fl.rightB k B.length = false) := hR
  clear hR hr
  unfold fv
  go_enter Try.func100, Try.ntmps100
  go_wp2_with fail
  refine (bright_is k a B.length cap _ hbl hk1 hk2 false HR.out).mono ?_
  rintro e w1 ⟨rfl, hx1⟩
  have HX1 : Hid (Ex w w1) := HXa.out.trans hx1
  clear hx1
  go_wp2_with fail
  go_ret
  exact ⟨rfl, HX1.out⟩
 | true =>
  rw [hR] at hr
  have HR : Hid (Fl.rightB k B.length = true) := hR
  obtain ⟨m, hmW, hkm, hlm⟩ := Fl.right_iff.1 hR
  have hmb := hmW.bounds
  subst hkm
  have HAll : Hid ((Fl.four s m).all (Fl.tb B) = r) := (by simpa using hr : (Fl.four s m).all (Fl.tb B) = r)
  have hm1 : 64 ≤ m := hmb.1
  have hm2 : m ≤ 65536 := hmb.2.1
  have HLm : Hid (m = 8 * B.length) := (by omega : m = 8 * B.length)
  obtain ⟨bb, off, rfl, _⟩ := HB.out.2.2.2 0 (by omega)
  clear hR hr hmb hmW hlm hk1 hk2
  unfold fv
  go_enter Try.func100, Try.ntmps100
  go_wp2_with fail
  refine (bright_is m _ B.length cap _ hbl (by omega) (by omega) true HR.out).mono ?_
  rintro e w1 ⟨rfl, hx1⟩
  have HX1 : Hid (Ex w w1) := HXa.out.trans hx1
  have HF1 : Hid (FAt w1 w.heap.size m (.slice (some ⟨bb, off, none⟩) B.length cap) 32) := HF.out.below hx1
  obtain ⟨c0, c1⟩ := HF1.out.all
  clear hx1 HF
  go_wp2_with fail
  refine (places_is s m _ hs (by omega) (by omega)).mono ?_
  rintro e wc ⟨rfl, hxc⟩
  have HXc : Hid (Ex w wc) := HX1.out.trans hxc
  have HFc : Hid (FAt wc w.heap.size m (.slice (some ⟨bb, off, none⟩) B.length cap) 32) := HF1.out.below hxc
  clear hxc c0 c1 HF1 HX1
  go_wp2_with fail
  go_loopw [14] (fun i wr => ∃ j : Nat, j ≤ 4 ∧ i = .int .i64 j ∧ Hid (∀ i, i < j → Fl.tb B (Fl.pos s m i) = true) ∧ Hid (Ex wc wr)) (fun i _ => 4 - (intOf i).toNat)
  case atStart => exact ⟨0, by omega, rfl, (fun i h => by omega : ∀ i, i < 0 → Fl.tb B (Fl.pos s m i) = true), Ex.refl wc⟩
  case round =>
   obtain ⟨j, hj, rfl, HTb, HXr⟩ := hrel
   by_cases hk4 : j < 4
   ·have hix := idx_four s m hk4
    obtain ⟨p, hp⟩ : ∃ p, p = Fl.pos s m j := ⟨_, rfl⟩
    rw [← hp] at hix
    have hpm : p < m := by rw [hp]; exact Fl.pos_lt s (by omega) j
    obtain ⟨pd, hpd⟩ : ∃ pd, pd = p / 8 := ⟨_, rfl⟩
    obtain ⟨pr, hpr⟩ : ∃ pr, pr = p % 8 := ⟨_, rfl⟩
    have hpd8 : pd < B.length := by have := HLm.out; omega
    have hpr8 : pr < 8 := by omega
    have hpdi : (p : Int) / 8 = (pd : Int) := by omega
    have hpd9 : pd ≤ 65536 := by omega
    obtain ⟨sh, hsh⟩ : ∃ sh, sh = 2 ^ pr := ⟨_, rfl⟩
    have hsh8 : sh < 256 := by rw [hsh]; exact pow_small hpr8
    have HSh : Hid (2 ^ (p % 8) = sh) := (by rw [hsh, hpr] : 2 ^ (p % 8) = sh)
    obtain ⟨_, _, eb, hcb⟩ := (HB.out.below (HXc.out.trans HXr.out)).2.2.2 pd hpd8
    simp only [Option.some.injEq, Addr.mk.injEq, and_true] at eb
    obtain ⟨rfl, rfl⟩ := eb
    obtain ⟨bt, hbt⟩ : ∃ bt, M.bAt B pd = bt := ⟨_, rfl⟩
    have hbt8 : bt < 256 := by rw [← hbt]; exact M.bAt_lt B pd
    rw [hbt] at hcb
    obtain ⟨u, hu⟩ : ∃ u, u = bt &&& sh := ⟨_, rfl⟩
    have hand : bits .and .u8 (bt : Int) (sh : Int) = (u : Int) := by rw [hu]; exact I.and8 bt sh hbt8 hsh8
    have htb : Fl.tb B p = !decide (u = 0) := by
     unfold Fl.tb
     rw [← hpd, ← hpr, hu, hsh, Bool.eq_iff_iff]
     simp only [decide_eq_true_eq, Bool.not_eq_true', decide_eq_false_iff_not]
     rw [Fl.mask_zero, ← hbt, Classical.not_not]
     rfl
    have hcf := (HFc.out.below HXr.out).all.2
    have tk : decide ((j : Int) < 4) = true := by simp; omega
    have tk2 : decide (j < 4) = true := by simp; omega
    have HTp : Hid (Fl.tb B (Fl.pos s m j) = !decide (u = 0)) := (by rw [← hp]; exact htb : Fl.tb B (Fl.pos s m j) = !decide (u = 0))
    obtain ⟨z, hz⟩ : ∃ z, decide (u = 0) = z := ⟨_, rfl⟩
    have hz2 : ((u : Int) == 0) = z := by rw [← hz, Bool.eq_iff_iff]; simp
    have HZ : Hid (decide (u = 0) = z) := hz
    have hp65 : p < 65536 := by omega
    clear hz
    clear hp hpd hpr hbt hu htb hsh hpm
    go_wp2_with fail
    obtain ⟨w0, hw0⟩ : ∃ w0, w0 = wr.drew := ⟨_, rfl⟩
    have hcb0 : w0.cell? ⟨bb, off + pd, none⟩ = some (.int .u8 (bt : Int)) := by rw [hw0]; exact hcb
    have hcf0 : w0.cell? ⟨w.heap.size, 1, none⟩ = some (.slice (some ⟨bb, off, none⟩) B.length cap) := by rw [hw0]; exact hcf
    have HW0 : Hid (w0 = wr.drew) := hw0
    clear hw0
    have hre : ∀ w : World, (fun w w' : World => w' = w) w w := fun _ => rfl
    refine Rg.wp_rows [.inl (Value.pointer (some ⟨w.heap.size, 1, none⟩)), .inl (Value.slice (some ⟨bb, off, none⟩) B.length cap), .inl (Value.int .u64 p), .inl (Value.int .u64 pd), .inl (Value.pointer (some ⟨bb, off + pd, none⟩)), .inl (Value.int .u8 bt), .inl (Value.int .u64 p), .inl (Value.int .u8 sh), .inl (Value.int .u8 u), .inl (Value.bool z)] (fun wx => wx = w0) (fun w w' => w' = w) 28 (by kernel_rfl) rfl (by kernel_rfl) ?st hre (by exact HW0.out.symm) ?goods ?fin
    case st => exact trivial
    case goods =>
     refine Rg.goods_cons (Rg.bgood_field hre rfl rfl rfl (fun wx hC => by subst hC; go_simp)) ?_
     refine Rg.goods_cons (Rg.good_load hre rfl rfl rfl (fun wx hC => by subst hC; go_simp)) ?_
     refine Rg.goods_cons (Rg.good_move hre rfl rfl rfl) ?_
     refine Rg.goods_cons (Rg.good_bin hre rfl rfl rfl rfl (fun _ => rfl) (fun w => by go_simp; exact I.wraps64 _ (by omega) (by omega))) ?_
     refine Rg.goods_cons (Rg.good_index hre rfl rfl rfl rfl (fun wx hC => by subst hC; go_simp)) ?_
     refine Rg.goods_cons (Rg.good_load hre rfl rfl rfl (fun wx hC => by subst hC; go_simp)) ?_
     refine Rg.goods_cons (Rg.good_move hre rfl rfl rfl) ?_
     refine Rg.goods_cons (Rg.good_call1 Try.func27 (by kernel_rfl) rfl rfl rfl (by rintro u wx hC rfl; exact (mask_is p wx hp65 sh HSh.out).mono fun e w' ⟨he, hw⟩ => ⟨_, he, rfl, hw, hw.trans hC⟩)) ?_
     refine Rg.goods_cons (Rg.good_bin hre rfl rfl rfl rfl (fun _ => rfl) (fun w => by go_simp)) ?_
     refine Rg.goods_cons (Rg.good_bin hre rfl rfl rfl rfl (fun _ => rfl) (fun w => by go_simp)) ?_
     exact Rg.goods_nil
    case fin =>
     intro wx hx
     rw [hx, HW0.out]
     simp only [Rg.later, Act.put, List.setIfInBounds_toArray, List.set_cons_succ, List.set_cons_zero]
     cases z with
     | true =>
      have hu0 : u = 0 := by simpa using HZ.out
      have hrf : r = false := by
       rw [← HAll.out, Bool.eq_false_iff]
       intro h
       have h1 := List.all_eq_true.1 h (Fl.pos s m j) (by
        match j, hk4 with
        | 0, _ => simp [Fl.four]
        | 1, _ => simp [Fl.four]
        | 2, _ => simp [Fl.four]
        | 3, _ => simp [Fl.four])
       rw [HTp.out] at h1
       simp at h1
       omega
      subst hrf
      clear hu0
      go_wp2_with fail
      go_ret
      exact ⟨rfl, (HXc.out.trans HXr.out).trans (Ex.drew _)⟩
     | false =>
      have hu0 : ¬ u = 0 := by simpa using HZ.out
      have HTb' : Hid (∀ i, i < j + 1 → Fl.tb B (Fl.pos s m i) = true) := (fun i hi => by
       by_cases h : i < j
       ·exact HTb.out i h
       ·obtain rfl : i = j := by omega
        rw [HTp.out]; simp; omega : ∀ i, i < j + 1 → Fl.tb B (Fl.pos s m i) = true)
      clear hu0
      go_wp2_with fail
      go_roundw
      case rel => exact ⟨j + 1, by omega, by go_num, HTb', HXr.out.trans (Ex.drew _)⟩
      case measure => simp [intOf]; omega
   ·obtain rfl : j = 4 := by omega
    have hrt : r = true := by
     rw [← HAll.out, List.all_eq_true]
     intro x hx
     simp only [Fl.four, List.mem_cons, List.not_mem_nil, or_false] at hx
     rcases hx with rfl | rfl | rfl | rfl
     ·exact HTb.out 0 (by omega)
     ·exact HTb.out 1 (by omega)
     ·exact HTb.out 2 (by omega)
     ·exact HTb.out 3 (by omega)
    subst hrt
    go_wp2_with fail
    go_ret
    exact ⟨rfl, HXc.out.trans HXr.out⟩
end Go.Proofs.Ytibnhjfeepdddaa
