/-
  The document's own Right and May (layer 9), over the program.
-/
import Derived.Test.YtibnhjfeepdddaaM21
namespace Go.Proofs.Ytibnhjfeepdddaa
open Go.RowKit
set_option linter.unusedVariables false
set_option linter.unusedSimpArgs false
namespace Fl
theorem right_at {k : Int} {m n i : Nat} (hi : i ≤ 10) (hm : m = 64 * 2 ^ i) (hk : k = (m : Int)) : rightB k n = decide (n = m / 8) := by
 rw [Bool.eq_iff_iff, right_iff, decide_eq_true_eq]
 constructor
 ·rintro ⟨m', _, h1, h2⟩
  have e : m' = m := by omega
  rw [e] at h2
  exact h2
 ·intro h
  exact ⟨m, ⟨i, hi, hm⟩, hk, h⟩
theorem right_none {k : Int} {n : Nat} (h : ∀ i, i ≤ 10 → k ≠ ((64 * 2 ^ i : Nat) : Int)) : rightB k n = false := by
 cases hr : rightB k n with
 | false => rfl
 | true =>
  obtain ⟨m, ⟨i, hi, rfl⟩, h1, _⟩ := right_iff.1 hr
  exact absurd h1 (h i hi)
end Fl
set_option maxRecDepth 100000 in
set_option maxHeartbeats 2000000 in
theorem brright_is (k : Int) (a : Option Addr) (n cap : Nat) (w : World) (hn : n ≤ 281474976710656) (r : Bool) (hr : Fl.rightB k n = r) :
  Calls Try.prog 79 #[fv k (.slice a n cap)] w fun e w' => e = .returned (.bool r) ∧ Ex w w' := by
 have HR : Hid (Fl.rightB k n = r) := hr
 clear hr
 unfold fv
 go_enter Try.func79, Try.ntmps79
 go_wp2_with fail
 have HF : Hid (FAt (w.alloc (fb k (.slice a n cap) 77)) w.heap.size k (.slice a n cap) 77) := FAt.new w k _ 77
 go_loopw [3] (fun i wr => wr = w.alloc (fb k (.slice a n cap) 77) ∧ ∃ i' m : Nat, i' ≤ 11 ∧ 64 ≤ m ∧ m ≤ 131072 ∧ i = .int .i64 m ∧ Hid (m = 64 * 2 ^ i') ∧ Hid (∀ j, j < i' → k ≠ ((64 * 2 ^ j : Nat) : Int))) (fun i _ => 131073 - (intOf i).toNat)
 case atStart => exact ⟨rfl, 0, 64, by omega, by omega, by omega, rfl, (rfl : 64 = 64 * 2 ^ 0), (fun j hj => by omega : ∀ j, j < 0 → k ≠ ((64 * 2 ^ j : Nat) : Int))⟩
 case round =>
  obtain ⟨rfl, i', m, hi, hm1, hm2, rfl, HM, HNo⟩ := hrel
  obtain ⟨c0, c1⟩ := HF.out.all
  by_cases hlt : m ≤ 65536
  ·have hi10 : i' ≤ 10 := by
    refine Classical.byContradiction fun h => ?_
    have e : i' = 11 := by omega
    have hm := HM.out
    rw [e] at hm
    omega
   have t1 : decide ((m : Int) ≤ 65536) = true := by simp; omega
   by_cases hk : k = (m : Int)
   ·have t2 : (k == (m : Int)) = true := by simpa using hk
    have hrt := Fl.right_at (n := n) hi10 HM.out hk
    rw [HR.out] at hrt
    have HRt : Hid (r = decide (n = m / 8)) := hrt
    clear hrt hk
    go_wp2_with fail
    go_ret
    refine ⟨I.ret_bool ?_, (Below.refl _ _).alloc (Nat.le_refl _) _⟩
    rw [HRt.out]
    rw [Bool.eq_iff_iff]
    simp
    omega
   ·have t2 : (k == (m : Int)) = false := by simpa using hk
    have HM' : Hid (2 * m = 64 * 2 ^ (i' + 1)) := (by rw [Nat.pow_succ]; have := HM.out; omega : 2 * m = 64 * 2 ^ (i' + 1))
    have HNo' : Hid (∀ j, j < i' + 1 → k ≠ ((64 * 2 ^ j : Nat) : Int)) := (fun j hj e => by
     by_cases h : j < i'
     ·exact HNo.out j h e
     ·obtain rfl : j = i' := by omega
      rw [← HM.out] at e
      exact hk e : ∀ j, j < i' + 1 → k ≠ ((64 * 2 ^ j : Nat) : Int))
    clear hk
    go_wp2_with fail
    go_roundw
    case rel => exact ⟨trivial, i' + 1, 2 * m, by omega, by omega, by omega, by go_num, HM', HNo'⟩
    case measure => simp [intOf]; omega
  ·have t1 : decide ((m : Int) ≤ 65536) = false := by simp; omega
   have hi11 : 11 ≤ i' := by
    refine Classical.byContradiction fun h => ?_
    have := Fl.IsW.bounds (n := m) ⟨i', by omega, HM.out⟩
    omega
   have hrf : r = false := by rw [← HR.out]; exact Fl.right_none fun i hi => HNo.out i (by omega)
   subst hrf
   go_wp2_with fail
   go_ret
   exact ⟨rfl, (Below.refl _ _).alloc (Nat.le_refl _) _⟩
theorem I.and1b (n : Int) (h : 0 ≤ n) (h2 : n ≤ 255) : bits .and .u8 n 1 = n % 2 :=
 bits_mask .u8 8 (by decide) (fun n h h' => by rw [I.w8]; omega) 1 (by decide) n h (by omega)
set_option maxRecDepth 100000 in
set_option maxHeartbeats 4000000 in
theorem rmay_is (k : Int) (a : Option Addr) (n cap : Nat) (B s : List UInt8) (w : World) (hn : n = B.length) (hB : Byt w a cap B) (hbl : B.length ≤ 281474976710656) (hs : s.length ≤ 9223372036854775807) (r : Bool) (hr : Fl.may k B s = r) :
  Calls Try.prog 56 #[fv k (.slice a n cap), .string (str s)] w fun e w' => e = .returned (.bool r) ∧ Ex w w' := by
 subst hn
 have HB : Hid (Byt w a cap B) := hB
 have hcl := hB.1
 have hcm := hB.2.1
 unfold maxLen at hcm
 unfold Fl.may at hr
 have hxa : Ex w (w.alloc (fb k (.slice a B.length cap) 77)) := (Below.refl _ _).alloc (Nat.le_refl _) _
 have HF : Hid (FAt (w.alloc (fb k (.slice a B.length cap) 77)) w.heap.size k (.slice a B.length cap) 77) := FAt.new w k _ 77
 have HXa : Hid (Ex w (w.alloc (fb k (.slice a B.length cap) 77))) := hxa
 clear hB hxa
 cases hR : Fl.rightB k B.length with
 | false =>
  rw [hR] at hr
  have hrt : r = true := by rw [← hr]; rfl
  subst hrt
  have HR : Hid (Fl.rightB k B.length = false) := hR
  clear hR hr
  unfold fv
  go_enter Try.func56, Try.ntmps56
  go_wp2_with fail
  refine (brright_is k a B.length cap _ hbl false HR.out).mono ?_
  rintro e w1 ⟨rfl, hx1⟩
  have HX1 : Hid (Ex w w1) := HXa.out.trans hx1
  clear hx1
  go_wp2_with fail
  go_ret
  exact ⟨rfl, HX1.out⟩
 | true =>
  rw [hR] at hr
  have HR : Hid (Fl.rightB k B.length = true) := hR
  obtain ⟨m, hmW, hkm, hlm⟩ := Fl.right_iff.1 hR
  have hmb := hmW.bounds
  subst hkm
  have HAll : Hid ((Fl.four s m).all (Fl.tb B) = r) := (by simpa using hr : (Fl.four s m).all (Fl.tb B) = r)
  have hm1 : 64 ≤ m := hmb.1
  have hm2 : m ≤ 65536 := hmb.2.1
  have HLm : Hid (m = 8 * B.length) := (by omega : m = 8 * B.length)
  obtain ⟨bb, off, rfl, _⟩ := HB.out.2.2.2 0 (by omega)
  clear hR hr hmb hmW hlm
  unfold fv
  go_enter Try.func56, Try.ntmps56
  go_wp2_with fail
  refine (brright_is m _ B.length cap _ hbl true HR.out).mono ?_
  rintro e w1 ⟨rfl, hx1⟩
  have HX1 : Hid (Ex w w1) := HXa.out.trans hx1
  have HF1 : Hid (FAt w1 w.heap.size m (.slice (some ⟨bb, off, none⟩) B.length cap) 77) := HF.out.below hx1
  obtain ⟨c0, c1⟩ := HF1.out.all
  clear hx1 HF
  go_wp2_with fail
  refine (rbits_is s m _ hs (by omega) (by omega)).mono ?_
  rintro e wb ⟨rfl, hxb⟩
  obtain ⟨wc, hwc⟩ : ∃ wc, wc = wb.alloc (.cells #[.int .i64 (Fl.pos s m 0 : Int), .int .i64 (Fl.pos s m 1 : Int), .int .i64 (Fl.pos s m 2 : Int), .int .i64 (Fl.pos s m 3 : Int)] 108) := ⟨_, rfl⟩
  have hxc : Ex wb wc := by rw [hwc]; exact (Below.refl _ _).alloc (Nat.le_refl _) _
  have H8 : Hid (RowAt z64 108 wc wb.heap.size (qs s m)) := (by rw [hwc]; exact heap_alloc_new wb _ : RowAt z64 108 wc wb.heap.size (qs s m))
  have HXc : Hid (Ex w wc) := HX1.out.trans (hxb.trans hxc)
  have HFc : Hid (FAt wc w.heap.size m (.slice (some ⟨bb, off, none⟩) B.length cap) 77) := HF1.out.below (hxb.trans hxc)
  have HWc : Hid (wb.alloc (.cells #[.int .i64 (Fl.pos s m 0 : Int), .int .i64 (Fl.pos s m 1 : Int), .int .i64 (Fl.pos s m 2 : Int), .int .i64 (Fl.pos s m 3 : Int)] 108) = wc) := hwc.symm
  clear hxb hwc hxc c0 c1 HF1 HX1
  simp only [qv]
  go_wp2_with fail
  have e4 := HWc.out
  rw [e4]
  clear e4
  go_loopw [6] (fun i wr => ∃ j : Nat, j ≤ 4 ∧ i = .int .i64 j ∧ Hid (∀ i, i < j → Fl.tb B (Fl.pos s m i) = true) ∧ Hid (Ex wc wr)) (fun i _ => 4 - (intOf i).toNat)
  case atStart => exact ⟨0, by omega, rfl, (fun i h => by omega : ∀ i, i < 0 → Fl.tb B (Fl.pos s m i) = true), Ex.refl wc⟩
  case round =>
   obtain ⟨j, hj, rfl, HTb, HXr⟩ := hrel
   by_cases hk4 : j < 4
   ·obtain ⟨p, hp⟩ : ∃ p, p = Fl.pos s m j := ⟨_, rfl⟩
    have hpm : p < m := by rw [hp]; exact Fl.pos_lt s (by omega) j
    obtain ⟨pd, hpd⟩ : ∃ pd, pd = p / 8 := ⟨_, rfl⟩
    obtain ⟨pr, hpr⟩ : ∃ pr, pr = p % 8 := ⟨_, rfl⟩
    have hpd8 : pd < B.length := by have := HLm.out; omega
    have hpr8 : pr < 8 := by omega
    have hpdi : (p : Int) / 8 = (pd : Int) := by omega
    have hpri : (p : Int) % 8 = (pr : Int) := by omega
    obtain ⟨_, _, eb, hcb⟩ := (HB.out.below (HXc.out.trans HXr.out)).2.2.2 pd hpd8
    simp only [Option.some.injEq, Addr.mk.injEq, and_true] at eb
    obtain ⟨rfl, rfl⟩ := eb
    obtain ⟨bt, hbt⟩ : ∃ bt, M.bAt B pd = bt := ⟨_, rfl⟩
    have hbt8 : bt < 256 := by rw [← hbt]; exact M.bAt_lt B pd
    rw [hbt] at hcb
    obtain ⟨q, hq⟩ : ∃ q, q = bt / 2 ^ pr := ⟨_, rfl⟩
    have hq8 : q < 256 := by rw [hq]; exact Nat.lt_of_le_of_lt (Nat.div_le_self _ _) hbt8
    have hqi : (bt : Int) / 2 ^ pr = (q : Int) := by rw [hq]; simp
    have hand := I.and1b (q : Int) (by omega) (by omega)
    obtain ⟨u, hu⟩ : ∃ u, u = q % 2 := ⟨_, rfl⟩
    have hui : (q : Int) % 2 = (u : Int) := by omega
    rw [hui] at hand
    have htb : Fl.tb B p = decide (u = 1) := by
     unfold Fl.tb
     rw [← hpd, ← hpr, hu, hq, ← hbt]
     rfl
    have hc8 : wr.cell? ⟨wb.heap.size, j, none⟩ = some (.int .i64 (p : Int)) := by
     have hq := qs_at s m hk4
     have hkl : j < (qs s m).length := (List.getElem?_eq_some_iff.1 hq).1
     have h1 := RowAt.cell (k := j) (RowAt.below H8.out HXr.out) hkl
     rw [List.getElem?_eq_getElem hkl] at hq
     rw [h1, Option.some.inj hq, ← hp]
    have hcf := (HFc.out.below HXr.out).all.2
    have tk : decide ((j : Int) < 4) = true := by simp; omega
    have tk2 : decide (j < 4) = true := by simp; omega
    have HTp : Hid (Fl.tb B (Fl.pos s m j) = decide (u = 1)) := (by rw [← hp]; exact htb : Fl.tb B (Fl.pos s m j) = decide (u = 1))
    have hu2 : u < 2 := by omega
    obtain ⟨z, hz⟩ : ∃ z, decide (u = 0) = z := ⟨_, rfl⟩
    have hz2 : ((u : Int) == 0) = z := by rw [← hz, Bool.eq_iff_iff]; simp
    have HZ : Hid (decide (u = 0) = z) := hz
    clear hz
    clear hp hpd hpr hbt hq hu htb hpm
    go_wp2_with fail
    obtain ⟨w0, hw0⟩ : ∃ w0, w0 = wr.drew := ⟨_, rfl⟩
    have hcb0 : w0.cell? ⟨bb, off + pd, none⟩ = some (.int .u8 (bt : Int)) := by rw [hw0]; exact hcb
    have hc80 : w0.cell? ⟨wb.heap.size, j, none⟩ = some (.int .i64 (p : Int)) := by rw [hw0]; exact hc8
    have hcf0 : w0.cell? ⟨w.heap.size, 1, none⟩ = some (.slice (some ⟨bb, off, none⟩) B.length cap) := by rw [hw0]; exact hcf
    have HW0 : Hid (w0 = wr.drew) := hw0
    clear hw0
    have hre : ∀ w : World, (fun w w' : World => w' = w) w w := fun _ => rfl
    refine Rg.wp_rows [.inl (Value.pointer (some ⟨w.heap.size, 1, none⟩)), .inl (Value.slice (some ⟨bb, off, none⟩) B.length cap), .inl (Value.int .i64 j), .inl (Value.pointer (some ⟨wb.heap.size, j, none⟩)), .inl (Value.int .i64 p), .inl (Value.int .i64 pd), .inl (Value.pointer (some ⟨bb, off + pd, none⟩)), .inl (Value.int .u8 bt), .inl (Value.int .i64 j), .inl (Value.pointer (some ⟨wb.heap.size, j, none⟩)), .inl (Value.int .i64 p), .inl (Value.int .i64 pr), .inl (Value.int .u64 pr), .inl (Value.int .u8 q), .inl (Value.int .u8 u), .inl (Value.bool z)] (fun wx => wx = w0) (fun w w' => w' = w) 34 (by kernel_rfl) rfl (by kernel_rfl) ?st hre (by exact HW0.out.symm) ?goods ?fin
    case st => exact trivial
    case goods =>
     refine Rg.goods_cons (Rg.bgood_field hre rfl rfl rfl (fun wx hC => by subst hC; go_simp)) ?_
     refine Rg.goods_cons (Rg.good_load hre rfl rfl rfl (fun wx hC => by subst hC; go_simp)) ?_
     refine Rg.goods_cons (Rg.good_move hre rfl rfl rfl) ?_
     refine Rg.goods_cons (Rg.good_index hre rfl rfl rfl rfl (fun wx hC => by subst hC; go_simp; intro h; exfalso; omega)) ?_
     refine Rg.goods_cons (Rg.good_load hre rfl rfl rfl (fun wx hC => by subst hC; go_simp)) ?_
     refine Rg.goods_cons (Rg.good_bin hre rfl rfl rfl rfl (fun _ => rfl) (fun w => by go_simp; exact I.wi64 _ (by omega) (by omega))) ?_
     refine Rg.goods_cons (Rg.good_index hre rfl rfl rfl rfl (fun wx hC => by subst hC; go_simp)) ?_
     refine Rg.goods_cons (Rg.good_load hre rfl rfl rfl (fun wx hC => by subst hC; go_simp)) ?_
     refine Rg.goods_cons (Rg.good_move hre rfl rfl rfl) ?_
     refine Rg.goods_cons (Rg.good_index hre rfl rfl rfl rfl (fun wx hC => by subst hC; go_simp; intro h; exfalso; omega)) ?_
     refine Rg.goods_cons (Rg.good_load hre rfl rfl rfl (fun wx hC => by subst hC; go_simp)) ?_
     refine Rg.goods_cons (Rg.good_bin hre rfl rfl rfl rfl (fun _ => rfl) (fun w => by go_simp; rw [Int.tmod_eq_emod_of_nonneg (by omega)]; exact hpri)) ?_
     refine Rg.goods_cons (Rg.good_conv hre rfl rfl (by rintro u wx _ rfl; go_simp; exact I.wraps64 _ (by omega) (by omega))) ?_
     refine Rg.goods_cons (Rg.good_bin hre rfl rfl rfl rfl (fun _ => rfl) (fun w => by go_simp)) ?_
     refine Rg.goods_cons (Rg.good_bin hre rfl rfl rfl rfl (fun _ => rfl) (fun w => by go_simp)) ?_
     refine Rg.goods_cons (Rg.good_bin hre rfl rfl rfl rfl (fun _ => rfl) (fun w => by go_simp)) ?_
     exact Rg.goods_nil
    case fin =>
     intro wx hx
     rw [hx, HW0.out]
     simp only [Rg.later, Act.put, List.setIfInBounds_toArray, List.set_cons_succ, List.set_cons_zero]
     cases z with
     | true =>
      have hu0 : u = 0 := by simpa using HZ.out
      have hrf : r = false := by
       rw [← HAll.out, Bool.eq_false_iff]
       intro h
       have h1 := List.all_eq_true.1 h (Fl.pos s m j) (by
        match j, hk4 with
        | 0, _ => simp [Fl.four]
        | 1, _ => simp [Fl.four]
        | 2, _ => simp [Fl.four]
        | 3, _ => simp [Fl.four])
       rw [HTp.out] at h1
       simp at h1
       omega
      subst hrf
      clear hu0
      go_wp2_with fail
      go_ret
      exact ⟨rfl, (HXc.out.trans HXr.out).trans (Ex.drew _)⟩
     | false =>
      have hu0 : ¬ u = 0 := by simpa using HZ.out
      have HTb' : Hid (∀ i, i < j + 1 → Fl.tb B (Fl.pos s m i) = true) := (fun i hi => by
       by_cases h : i < j
       ·exact HTb.out i h
       ·obtain rfl : i = j := by omega
        rw [HTp.out]; simp; omega : ∀ i, i < j + 1 → Fl.tb B (Fl.pos s m i) = true)
      clear hu0
      go_wp2_with fail
      go_roundw
      case rel => exact ⟨j + 1, by omega, by go_num, HTb', HXr.out.trans (Ex.drew _)⟩
      case measure => simp [intOf]; omega
   ·obtain rfl : j = 4 := by omega
    have hrt : r = true := by
     rw [← HAll.out, List.all_eq_true]
     intro x hx
     simp only [Fl.four, List.mem_cons, List.not_mem_nil, or_false] at hx
     rcases hx with rfl | rfl | rfl | rfl
     ·exact HTb.out 0 (by omega)
     ·exact HTb.out 1 (by omega)
     ·exact HTb.out 2 (by omega)
     ·exact HTb.out 3 (by omega)
    subst hrt
    go_wp2_with fail
    go_ret
    exact ⟨rfl, HXc.out.trans HXr.out⟩
end Go.Proofs.Ytibnhjfeepdddaa
