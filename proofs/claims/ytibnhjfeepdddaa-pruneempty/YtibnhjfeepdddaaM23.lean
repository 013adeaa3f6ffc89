/-
  Package bloom's Build, over the program. Package bloom's May, over the program.
-/
import Derived.Test.YtibnhjfeepdddaaM02
import Derived.Lib.SlicesCompact
import Derived.Shelf.Sort.Plain
import Derived.Shelf.Slices.Clone
import Derived.Shelf.Slices.CompactS
import Derived.Shelf.Slices.In.SortNone
import Derived.Test.YtibnhjfeepdddaaProg
import Derived.Test.YtibnhjfeepdddaaM12
import Derived.Sort.OwnSorted
import Derived.Sort.Grow
import Derived.Lib.OwnBridge
import Derived.Test.YtibnhjfeepdddaaM22
namespace Go.Proofs.Ytibnhjfeepdddaa
open Go.RowKit
set_option linter.unusedVariables false
set_option linter.unusedSimpArgs false
theorem idx_four (s : List UInt8) (m : Nat) {k : Nat} (hk : k < 4) (w : World) : (Instr.index 70 (qu s m) (.int .i64 (k : Int))).run Try.prog w = .ok (.int .u64 (Fl.pos s m k : Int)) w := by
 match k, hk with
 | 0, _ => simp [Instr.index, run_underlying Try.underlying70, asIntOf, go_sem, qu]
 | 1, _ => simp [Instr.index, run_underlying Try.underlying70, asIntOf, go_sem, qu]
 | 2, _ => simp [Instr.index, run_underlying Try.underlying70, asIntOf, go_sem, qu]
 | 3, _ => simp [Instr.index, run_underlying Try.underlying70, asIntOf, go_sem, qu]
end Go.Proofs.Ytibnhjfeepdddaa
namespace Go.Proofs.Ytibnhjfeepdddaa
open Go.RowKit
set_option linter.unusedVariables false
set_option linter.unusedSimpArgs false
theorem I.and8 (a b : Nat) (h1 : a < 256) (h2 : b < 256) : bits .and .u8 (a : Int) (b : Int) = ((a &&& b : Nat) : Int) :=
 (bits_nat .u8 8 (by decide) (fun n h h' => by rw [I.w8]; omega) a b (by omega) (by omega)).1
set_option maxRecDepth 100000 in
set_option maxHeartbeats 4000000 in
theorem may_is (k : Int) (a : Option Addr) (n cap : Nat) (B s : List UInt8) (w : World) (hn : n = B.length) (hB : Byt w a cap B) (hbl : B.length ≤ 281474976710656) (hs : s.length ≤ 9223372036854775807) (hk1 : -9223372036854775808 ≤ k) (hk2 : k ≤ 9223372036854775807) (r : Bool) (hr : Fl.may k B s = r) :
  Calls Try.prog 100 #[fv k (.slice a n cap), .string (str s)] w fun e w' => e = .returned (.bool r) ∧ Ex w w' := by
 subst hn
 have HB : Hid (Byt w a cap B) := hB
 have hcl := hB.1
 have hcm := hB.2.1
 unfold maxLen at hcm
 unfold Fl.may at hr
 have hxa : Ex w (w.alloc (fb k (.slice a B.length cap) 32)) := (Below.refl _ _).alloc (Nat.le_refl _) _
 have HF : Hid (FAt (w.alloc (fb k (.slice a B.length cap) 32)) w.heap.size k (.slice a B.length cap) 32) := FAt.new w k _ 32
 have HXa : Hid (Ex w (w.alloc (fb k (.slice a B.length cap) 32))) := hxa
 clear hB hxa
 cases hR : Fl.rightB k B.length with
 | false =>
  rw [hR] at hr
  have hrt : r = true := by rw [← hr]; rfl
  subst hrt
  have HR : Hid (Fl.rightB k B.length = false) := hR
  clear hR hr
  unfold fv
  go_enter Try.func100, Try.ntmps100
  go_wp2_with fail
  refine (bright_is k a B.length cap _ hbl hk1 hk2 false HR.out).mono ?_
  rintro e w1 ⟨rfl, hx1⟩
  have HX1 : Hid (Ex w w1) := HXa.out.trans hx1
  clear hx1
  go_wp2_with fail
  go_ret
  exact ⟨rfl, HX1.out⟩
 | true =>
  rw [hR] at hr
  have HR : Hid (Fl.rightB k B.length = true) := hR
  obtain ⟨m, hmW, hkm, hlm⟩ := Fl.right_iff.1 hR
  have hmb := hmW.bounds
  subst hkm
  have HAll : Hid ((Fl.four s m).all (Fl.tb B) = r) := (by simpa using hr : (Fl.four s m).all (Fl.tb B) = r)
  have hm1 : 64 ≤ m := hmb.1
  have hm2 : m ≤ 65536 := hmb.2.1
  have HLm : Hid (m = 8 * B.length) := (by omega : m = 8 * B.length)
  obtain ⟨bb, off, rfl, _⟩ := HB.out.2.2.2 0 (by omega)
  clear hR hr hmb hmW hlm hk1 hk2
  unfold fv
  go_enter Try.func100, Try.ntmps100
  go_wp2_with fail
  refine (bright_is m _ B.length cap _ hbl (by omega) (by omega) true HR.out).mono ?_
  rintro e w1 ⟨rfl, hx1⟩
  have HX1 : Hid (Ex w w1) := HXa.out.trans hx1
  have HF1 : Hid (FAt w1 w.heap.size m (.slice (some ⟨bb, off, none⟩) B.length cap) 32) := HF.out.below hx1
  obtain ⟨c0, c1⟩ := HF1.out.all
  clear hx1 HF
  go_wp2_with fail
  refine (places_is s m _ hs (by omega) (by omega)).mono ?_
  rintro e wc ⟨rfl, hxc⟩
  have HXc : Hid (Ex w wc) := HX1.out.trans hxc
  have HFc : Hid (FAt wc w.heap.size m (.slice (some ⟨bb, off, none⟩) B.length cap) 32) := HF1.out.below hxc
  clear hxc c0 c1 HF1 HX1
  go_wp2_with fail
  go_loopw [14] (fun i wr => ∃ j : Nat, j ≤ 4 ∧ i = .int .i64 j ∧ Hid (∀ i, i < j → Fl.tb B (Fl.pos s m i) = true) ∧ Hid (Ex wc wr)) (fun i _ => 4 - (intOf i).toNat)
  case atStart => exact ⟨0, by omega, rfl, (fun i h => by omega : ∀ i, i < 0 → Fl.tb B (Fl.pos s m i) = true), Ex.refl wc⟩
  case round =>
   obtain ⟨j, hj, rfl, HTb, HXr⟩ := hrel
   by_cases hk4 : j < 4
   ·have hix := idx_four s m hk4
    obtain ⟨p, hp⟩ : ∃ p, p = Fl.pos s m j := ⟨_, rfl⟩
    rw [← hp] at hix
    have hpm : p < m := by rw [hp]; exact Fl.pos_lt s (by omega) j
    obtain ⟨pd, hpd⟩ : ∃ pd, pd = p / 8 := ⟨_, rfl⟩
    obtain ⟨pr, hpr⟩ : ∃ pr, pr = p % 8 := ⟨_, rfl⟩
    have hpd8 : pd < B.length := by have := HLm.out; omega
    have hpr8 : pr < 8 := by omega
    have hpdi : (p : Int) / 8 = (pd : Int) := by omega
    have hpd9 : pd ≤ 65536 := by omega
    obtain ⟨sh, hsh⟩ : ∃ sh, sh = 2 ^ pr := ⟨_, rfl⟩
    have hsh8 : sh < 256 := by rw [hsh]; exact pow_small hpr8
    have HSh : Hid (2 ^ (p % 8) = sh) := (by rw [hsh, hpr] : 2 ^ (p % 8) = sh)
    obtain ⟨_, _, eb, hcb⟩ := (HB.out.below (HXc.out.trans HXr.out)).2.2.2 pd hpd8
    simp only [Option.some.injEq, Addr.mk.injEq, and_true] at eb
    obtain ⟨rfl, rfl⟩ := eb
    obtain ⟨bt, hbt⟩ : ∃ bt, M.bAt B pd = bt := ⟨_, rfl⟩
    have hbt8 : bt < 256 := by rw [← hbt]; exact M.bAt_lt B pd
    rw [hbt] at hcb
    obtain ⟨u, hu⟩ : ∃ u, u = bt &&& sh := ⟨_, rfl⟩
    have hand : bits .and .u8 (bt : Int) (sh : Int) = (u : Int) := by rw [hu]; exact I.and8 bt sh hbt8 hsh8
    have htb : Fl.tb B p = !decide (u = 0) := by
     unfold Fl.tb
     rw [← hpd, ← hpr, hu, hsh, Bool.eq_iff_iff]
     simp only [decide_eq_true_eq, Bool.not_eq_true', decide_eq_false_iff_not]
     rw [Fl.mask_zero, ← hbt, Classical.not_not]
     rfl
    have hcf := (HFc.out.below HXr.out).all.2
    have tk : decide ((j : Int) < 4) = true := by simp; omega
    have tk2 : decide (j < 4) = true := by simp; omega
    have HTp : Hid (Fl.tb B (Fl.pos s m j) = !decide (u = 0)) := (by rw [← hp]; exact htb : Fl.tb B (Fl.pos s m j) = !decide (u = 0))
    obtain ⟨z, hz⟩ : ∃ z, decide (u = 0) = z := ⟨_, rfl⟩
    have hz2 : ((u : Int) == 0) = z := by rw [← hz, Bool.eq_iff_iff]; simp
    have HZ : Hid (decide (u = 0) = z) := hz
    have hp65 : p < 65536 := by omega
    clear hz
    clear hp hpd hpr hbt hu htb hsh hpm
    go_wp2_with fail
    obtain ⟨w0, hw0⟩ : ∃ w0, w0 = wr.drew := ⟨_, rfl⟩
    have hcb0 : w0.cell? ⟨bb, off + pd, none⟩ = some (.int .u8 (bt : Int)) := by rw [hw0]; exact hcb
    have hcf0 : w0.cell? ⟨w.heap.size, 1, none⟩ = some (.slice (some ⟨bb, off, none⟩) B.length cap) := by rw [hw0]; exact hcf
    have HW0 : Hid (w0 = wr.drew) := hw0
    clear hw0
    have hre : ∀ w : World, (fun w w' : World => w' = w) w w := fun _ => rfl
    refine Rg.wp_rows [.inl (Value.pointer (some ⟨w.heap.size, 1, none⟩)), .inl (Value.slice (some ⟨bb, off, none⟩) B.length cap), .inl (Value.int .u64 p), .inl (Value.int .u64 pd), .inl (Value.pointer (some ⟨bb, off + pd, none⟩)), .inl (Value.int .u8 bt), .inl (Value.int .u64 p), .inl (Value.int .u8 sh), .inl (Value.int .u8 u), .inl (Value.bool z)] (fun wx => wx = w0) (fun w w' => w' = w) 28 (by kernel_rfl) rfl (by kernel_rfl) ?st hre (by exact HW0.out.symm) ?goods ?fin
    case st => exact trivial
    case goods =>
     refine Rg.goods_cons (Rg.bgood_field hre rfl rfl rfl (fun wx hC => by subst hC; go_simp)) ?_
     refine Rg.goods_cons (Rg.good_load hre rfl rfl rfl (fun wx hC => by subst hC; go_simp)) ?_
     refine Rg.goods_cons (Rg.good_move hre rfl rfl rfl) ?_
     refine Rg.goods_cons (Rg.good_bin hre rfl rfl rfl rfl (fun _ => rfl) (fun w => by go_simp; exact I.wraps64 _ (by omega) (by omega))) ?_
     refine Rg.goods_cons (Rg.good_index hre rfl rfl rfl rfl (fun wx hC => by subst hC; go_simp)) ?_
     refine Rg.goods_cons (Rg.good_load hre rfl rfl rfl (fun wx hC => by subst hC; go_simp)) ?_
     refine Rg.goods_cons (Rg.good_move hre rfl rfl rfl) ?_
     refine Rg.goods_cons (Rg.good_call1 Try.func27 (by kernel_rfl) rfl rfl rfl (by rintro u wx hC rfl; exact (mask_is p wx hp65 sh HSh.out).mono fun e w' ⟨he, hw⟩ => ⟨_, he, rfl, hw, hw.trans hC⟩)) ?_
     refine Rg.goods_cons (Rg.good_bin hre rfl rfl rfl rfl (fun _ => rfl) (fun w => by go_simp)) ?_
     refine Rg.goods_cons (Rg.good_bin hre rfl rfl rfl rfl (fun _ => rfl) (fun w => by go_simp)) ?_
     exact Rg.goods_nil
    case fin =>
     intro wx hx
     rw [hx, HW0.out]
     simp only [Rg.later, Act.put, List.setIfInBounds_toArray, List.set_cons_succ, List.set_cons_zero]
     cases z with
     | true =>
      have hu0 : u = 0 := by simpa using HZ.out
      have hrf : r = false := by
       rw [← HAll.out, Bool.eq_false_iff]
       intro h
       have h1 := List.all_eq_true.1 h (Fl.pos s m j) (by
        match j, hk4 with
        | 0, _ => simp [Fl.four]
        | 1, _ => simp [Fl.four]
        | 2, _ => simp [Fl.four]
        | 3, _ => simp [Fl.four])
       rw [HTp.out] at h1
       simp at h1
       omega
      subst hrf
      clear hu0
      go_wp2_with fail
      go_ret
      exact ⟨rfl, (HXc.out.trans HXr.out).trans (Ex.drew _)⟩
     | false =>
      have hu0 : ¬ u = 0 := by simpa using HZ.out
      have HTb' : Hid (∀ i, i < j + 1 → Fl.tb B (Fl.pos s m i) = true) := (fun i hi => by
       by_cases h : i < j
       ·exact HTb.out i h
       ·obtain rfl : i = j := by omega
        rw [HTp.out]; simp; omega : ∀ i, i < j + 1 → Fl.tb B (Fl.pos s m i) = true)
      clear hu0
      go_wp2_with fail
      go_roundw
      case rel => exact ⟨j + 1, by omega, by go_num, HTb', HXr.out.trans (Ex.drew _)⟩
      case measure => simp [intOf]; omega
   ·obtain rfl : j = 4 := by omega
    have hrt : r = true := by
     rw [← HAll.out, List.all_eq_true]
     intro x hx
     simp only [Fl.four, List.mem_cons, List.not_mem_nil, or_false] at hx
     rcases hx with rfl | rfl | rfl | rfl
     ·exact HTb.out 0 (by omega)
     ·exact HTb.out 1 (by omega)
     ·exact HTb.out 2 (by omega)
     ·exact HTb.out 3 (by omega)
    subst hrt
    go_wp2_with fail
    go_ret
    exact ⟨rfl, HXc.out.trans HXr.out⟩
end Go.Proofs.Ytibnhjfeepdddaa
