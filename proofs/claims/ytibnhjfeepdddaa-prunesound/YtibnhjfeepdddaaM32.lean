/-
  The landed prune: Judge. The library's Index and Contains of texts; the landed holdsFor.
-/
import Derived.Test.YtibnhjfeepdddaaM31
import Derived.Test.YtibnhjfeepdddaaM24
import Derived.Test.YtibnhjfeepdddaaM26
namespace Go.Proofs.Ytibnhjfeepdddaa
open Go.RowKit
set_option linter.unusedVariables false
set_option linter.unusedSimpArgs false
set_option maxHeartbeats 8000000 in
set_option maxRecDepth 100000 in
theorem pJudge_is (s : St) (hF : StFine s) (p : Pr) (hFi : Pd.Fine p) (v : PV) (tv : TV) (fl : Int) (w : World) (hL : Pd.Lay (fun _ => True) p w v) (hS : StOk w tv s) (o : Nat) (ho : Pu.judge s (Pu.fg fl) p = o) :
  Calls Try.prog 10 #[pvv v, tvv tv, .int .i64 fl] w fun e w' => e = .returned (.int .i64 (o : Int)) ∧ Ex w w' := by
 obtain ⟨vk, vcol, vn, vm, vs, ⟨sa, sn, sc⟩, ⟨ka, kn, kc⟩⟩ := v
 obtain ⟨tr, tl, th, ⟨za, zn, zc⟩, ⟨ba, bn, bc'⟩⟩ := tv
 obtain ⟨W, hW⟩ : ∃ W, (w.alloc (pb ⟨vk, vcol, vn, vm, vs, (sa, sn, sc), (ka, kn, kc)⟩)).alloc (tb ⟨tr, tl, th, (za, zn, zc), (ba, bn, bc')⟩ 38) = W := ⟨_, rfl⟩
 have hX1 : Ex w (w.alloc (pb ⟨vk, vcol, vn, vm, vs, (sa, sn, sc), (ka, kn, kc)⟩)) := (Below.refl _ _).alloc (Nat.le_refl _) _
 have hXW : Ex w W := by rw [← hW]; exact Below.alloc hX1 (by simp) _
 have HXW : Hid (Ex w W) := hXW
 have HP : Hid (PAt W w.heap.size ⟨vk, vcol, vn, vm, vs, (sa, sn, sc), (ka, kn, kc)⟩) := (by rw [← hW]; exact (PAt.new w _).alloc _ : PAt W w.heap.size _)
 have HT : Hid (TAt W (w.heap.size + 1) ⟨tr, tl, th, (za, zn, zc), (ba, bn, bc')⟩ 38) := (by
  have h := TAt.new (w.alloc (pb ⟨vk, vcol, vn, vm, vs, (sa, sn, sc), (ka, kn, kc)⟩)) ⟨tr, tl, th, (za, zn, zc), (ba, bn, bc')⟩ 38
  have hs : (w.alloc (pb ⟨vk, vcol, vn, vm, vs, (sa, sn, sc), (ka, kn, kc)⟩)).heap.size = w.heap.size + 1 := by simp
  rw [hs] at h
  rw [← hW]; exact h : TAt W (w.heap.size + 1) _ 38)
 have HS : Hid (StOk W ⟨tr, tl, th, (za, zn, zc), (ba, bn, bc')⟩ s) := hS.below hXW
 have HL : Hid (Pd.Lay (fun _ => True) p W ⟨vk, vcol, vn, vm, vs, (sa, sn, sc), (ka, kn, kc)⟩) := Pd.Lay.below _ hL hXW
 have hsr : tr = s.rows := hS.1.1
 obtain ⟨r, hr⟩ : ∃ r, Pd.right p = r := ⟨_, rfl⟩
 have HR : Hid (Pd.right p = r) := hr
 have HFi : Hid (Pd.Fine p) := hFi
 have HSF : Hid (StFine s) := hF
 have HC1 : Hid (Calls Try.prog 18 #[pvv ⟨vk, vcol, vn, vm, vs, (sa, sn, sc), (ka, kn, kc)⟩] W fun e w' => e = .returned (.bool r) ∧ Ex W w') := right_is p _ W HL.out hFi r hr
 have HO : Hid ((if r = true then (if tr = 0 then 1 else Pu.jd s (Pu.fg fl) (Pd.nrm p false)) else 2) = o) := (by rw [← ho, Pu.judge, hr, hsr] : (if r = true then (if tr = 0 then 1 else Pu.jd s (Pu.fg fl) (Pd.nrm p false)) else 2) = o)
 obtain ⟨p0, p1, p2, p3, p4, p5, p6⟩ := HP.out.all
 obtain ⟨t0, t1, t2, t3, t4⟩ := HT.out.all
 simp only at p0 p1 p2 p3 p4 p5 p6 t0 t1 t2 t3 t4
 simp only [tb, sv] at hW
 clear hL hXW hX1 hS ho hr hFi hF hsr
 unfold pvv tvv
 simp only [sv]
 go_enter Try.func10, Try.ntmps10
 go_wp2_with fail
 go_at_call 18
 refine Calls.mono HC1.out ?_
 rintro e w2 ⟨rfl, hx2⟩
 have HX2 : Hid (Ex W w2) := hx2
 clear hx2 HC1 p0 p1 p2 p3 p4 p5 p6 t0 t1 t2 t3 t4 hW
 obtain ⟨t0, t1, t2, t3, t4⟩ := (HT.out.below HX2.out).all
 simp only at t0 t1 t2 t3 t4
 cases r with
 | false =>
  go_wp2_with fail
  go_ret
  exact ⟨by rw [← HO.out]; rfl, HXW.out.trans HX2.out⟩
 | true =>
  by_cases h0 : tr = 0
  ·have HZ : Hid (o = 1) := (by rw [← HO.out, if_pos rfl, if_pos h0] : o = 1)
   have hb : (tr == 0) = true := by simp [h0]
   clear h0
   go_wp2_with fail
   go_ret
   exact ⟨by rw [HZ.out]; rfl, HXW.out.trans HX2.out⟩
  ·have HZ : Hid (Pu.jd s (Pu.fg fl) (Pd.nrm p false) = o) := (by rw [← HO.out, if_pos rfl, if_neg h0] : Pu.jd s (Pu.fg fl) (Pd.nrm p false) = o)
   have hb : (tr == 0) = false := beq_eq_false_iff_ne.2 h0
   have HFN : Hid (Pd.form (Pd.nrm p false) = true) := (Pd.form_nrm p (Pu.right_form HR.out) false : Pd.form (Pd.nrm p false) = true)
   have HP2 : Hid (PAt w2 w.heap.size ⟨vk, vcol, vn, vm, vs, (sa, sn, sc), (ka, kn, kc)⟩) := HP.out.below HX2.out
   have HT2 : Hid (TAt w2 (w.heap.size + 1) ⟨tr, tl, th, (za, zn, zc), (ba, bn, bc')⟩ 38) := HT.out.below HX2.out
   have HS2 : Hid (StOk w2 ⟨tr, tl, th, (za, zn, zc), (ba, bn, bc')⟩ s) := HS.out.below HX2.out
   have HL2 : Hid (Pd.Lay (fun _ => True) p w2 ⟨vk, vcol, vn, vm, vs, (sa, sn, sc), (ka, kn, kc)⟩) := Pd.Lay.below _ HL.out HX2.out
   clear h0 HO
   go_wp2_with fail
   have hre := Ex.refl
   refine Rg.wp_rows [.inl (pvv ⟨vk, vcol, vn, vm, vs, (sa, sn, sc), (ka, kn, kc)⟩), .inr (Pd.IsP (fun _ => True) (Pd.nrm p false)), .inl (tvv ⟨tr, tl, th, (za, zn, zc), (ba, bn, bc')⟩), .inl (.int .i64 fl), .inl (.int .i64 (o : Int)), .inl (.int .i64 (o : Int))] (Ex w2) Ex 20 (by kernel_rfl) rfl (by kernel_rfl) ?st hre (Ex.drew _) ?goods ?fin
   case st => exact ⟨Pd.IsP.stands _ _, trivial⟩
   case goods =>
    refine Rg.goods_cons (Rg.good_load hre rfl rfl rfl (fun wx hC => (HP2.out.below hC).loadI)) ?_
    refine Rg.goods_cons (Rg.good_call1 Try.func29 (by kernel_rfl) rfl rfl rfl (by
     rintro v0 wx hC rfl
     refine (normalN_is p _ wx (Pd.Lay.below _ HL2.out hC) HFi.out).mono ?_
     rintro e w' ⟨u, rfl, hu, hx⟩
     exact ⟨_, rfl, ⟨u, rfl, Pd.Lay.mono (fun _ _ => trivial) _ (by have h := hu; rw [Pd.normalB, if_pos HR.out] at h; exact h)⟩, hx, hC.trans hx⟩)) ?_
    refine Rg.goods_cons (Rg.good_load hre rfl rfl rfl (fun wx hC => loadI_stats38 (HT2.out.below hC))) ?_
    refine Rg.goods_cons (Rg.good_move hre rfl rfl rfl) ?_
    refine Rg.goods_cons (Rg.good_call3 Try.func28 (by kernel_rfl) rfl rfl rfl (by
     rintro v0 v1 v2 wx hC ⟨u, rfl, hu⟩ rfl rfl
     exact ex_rowP (pjd_is s HSF.out fl _ HFN.out u _ wx o hu (HS2.out.below hC) HZ.out) hC)) ?_
    refine Rg.goods_cons (Rg.good_assign hre rfl rfl rfl) ?_
    exact Rg.goods_nil
   case fin =>
    intro wx hx
    simp only [Rg.later, Act.put, List.setIfInBounds_toArray, List.set_cons_succ, List.set_cons_zero]
    have HX9 : Hid (Ex w wx) := ((HXW.out.trans HX2.out).trans hx : Ex w wx)
    clear hx
    intro vin hin
    go_wp2_with fail
    go_ret
    exact ⟨rfl, HX9.out⟩
end Go.Proofs.Ytibnhjfeepdddaa
namespace Go.Proofs.Ytibnhjfeepdddaa
open Go.RowKit
set_option linter.unusedVariables false
set_option linter.unusedSimpArgs false
set_option maxHeartbeats 4000000 in
set_option maxRecDepth 100000 in
theorem index_is (a : Option Addr) (n cap : Nat) (l : List (List UInt8)) (s : List UInt8) (w : World) (hn : n = l.length) (hB : Rd st w a cap l) :
  Calls Try.prog 101 #[.slice a n cap, .string (str s)] w fun e w' => (∃ r : Int, e = .returned (.int .i64 r) ∧ (0 ≤ r ↔ s ∈ l)) ∧ w' = w := by
 subst hn
 have h1 := hB.1
 have h2 := hB.2.1
 unfold maxLen at h2
 have HB : Hid (Rd st w a cap l) := hB
 have zs := str_toList s
 clear hB
 go_enter Try.func101, Try.ntmps101
 go_wp2_with fail
 go_loopw [8, 5] (fun iv jv wr => ∃ i : Nat, i ≤ l.length ∧ iv = .int .i64 i ∧ Hid (s ∉ l.take i) ∧ Hid (wr = w)) (fun iv jv wr => l.length - (intOf iv).toNat)
 case atStart => exact ⟨0, by omega, rfl, (by simp : s ∉ l.take 0), (rfl : w = w)⟩
 case round =>
  obtain ⟨i, hi, rfl, HA, HW⟩ := hrel
  obtain rfl := HW.out
  clear HW
  by_cases hlt : i < l.length
  ·have hti : (i : Int) < (l.length : Int) := by omega
   obtain ⟨b, off, hpp, e0⟩ := HB.out.at hlt
   obtain ⟨x, hx⟩ : ∃ x, l[i] = x := ⟨_, rfl⟩
   rw [hx] at e0
   have HNX : Hid (l.take (i + 1) = l.take i ++ [x]) := (by rw [List.take_add_one, List.getElem?_eq_getElem hlt, hx]; rfl : l.take (i + 1) = l.take i ++ [x])
   have HXM : Hid (x ∈ l) := (by rw [← hx]; exact List.getElem_mem hlt : x ∈ l)
   have zx := str_toList x
   subst hpp
   clear hx
   by_cases hsx : s = x
   ·subst hsx
    go_wp2_with fail
    go_ret
    exact ⟨⟨(i : Int), rfl, by simp [HXM.out]⟩, rfl⟩
   ·have hq : (s == x) = false := beq_eq_false_iff_ne.2 hsx
    have HA2 : Hid (s ∉ l.take (i + 1)) := (by
     rw [HNX.out]
     intro h
     rcases List.mem_append.1 h with h | h
     ·exact HA.out h
     ·rw [List.mem_singleton] at h; exact hsx h : s ∉ l.take (i + 1))
    clear hsx
    go_wp2_with fail
    go_roundw
    case rel => exact ⟨i + 1, by omega, by go_num, HA2, trivial⟩
    case measure => simp [intOf]; omega
  ·have hti : ¬ (i : Int) < (l.length : Int) := by omega
   have HN : Hid (s ∉ l) := (by have h := HA.out; rwa [List.take_of_length_le (by omega)] at h : s ∉ l)
   go_wp2_with fail
   go_ret
   exact ⟨⟨-1, rfl, by simp [HN.out]⟩, rfl⟩
set_option maxRecDepth 100000 in
theorem contains_is (a : Option Addr) (n cap : Nat) (l : List (List UInt8)) (s : List UInt8) (w : World) (hn : n = l.length) (hB : Rd st w a cap l) (o : Bool) (ho : decide (s ∈ l) = o) :
  Calls Try.prog 87 #[.slice a n cap, .string (str s)] w fun e w' => e = .returned (.bool o) ∧ w' = w := by
 have HC : Hid (Calls Try.prog 101 #[.slice a n cap, .string (str s)] w fun e w' => (∃ r : Int, e = .returned (.int .i64 r) ∧ (0 ≤ r ↔ s ∈ l)) ∧ w' = w) := index_is a n cap l s w hn hB
 have HO : Hid (decide (s ∈ l) = o) := ho
 clear hB hn ho
 go_enter Try.func87, Try.ntmps87
 go_wp2_with fail
 go_at_call 101
 refine Calls.mono HC.out ?_
 rintro e w2 ⟨⟨r, rfl, hr⟩, hw⟩
 subst hw
 have hd : decide (0 ≤ r) = o := by rw [← HO.out]; exact decide_eq_decide.2 hr
 clear hr HC HO
 go_wp2_with fail
 go_ret
 exact ⟨rfl, rfl⟩
theorem beqI (a b : Int) : (a == b) = decide (a = b) := by
 by_cases h : a = b
 ·simp [h]
 ·rw [decide_eq_false h]; exact beq_eq_false_iff_ne.2 h
theorem beqL (a b : List UInt8) : (a == b) = decide (a = b) := by
 by_cases h : a = b
 ·simp [h]
 ·rw [decide_eq_false h]; exact beq_eq_false_iff_ne.2 h
namespace Pd
/-- Does a part that asks one column hold for that column's cell? -/
def leafC (c : Ce) (h : Hd) : Bool :=
 if h.k = 4 then decide (c.k = 1 ∧ c.n < h.n)
 else if h.k = 5 then decide (c.k = 1 ∧ c.n = h.n)
 else if h.k = 6 then decide (c.k = 2 ∧ c.s = h.s)
 else if h.k = 7 then decide (c.k = 2 ∧ c.s ∈ h.set)
 else if h.k = 8 then decide (c.k = 2) && T.begins h.s c.s
 else if h.k = 9 then decide (c.k = 0)
 else false
theorem leaf_eq (r : Rw) (h : Hd) (hk : h.k ≠ 10) : leaf r h = leafC (Rw.cell r.c h.col) h := by
 unfold leaf leafC
 simp only [if_neg hk]
end Pd
set_option maxHeartbeats 8000000 in
set_option maxRecDepth 100000 in
theorem holdsFor_is {B : Nat → Prop} (h : Hd) (v : PV) (c : Ce) (w : World) (hH : HdOk B w v h) (hF : HdFit h) (hc : c.s.length ≤ maxLen) (o : Bool) (ho : Pd.leafC c h = o) :
  Calls Try.prog 66 #[pvv v, cv c] w fun e w' => e = .returned (.bool o) ∧ Ex w w' := by
 obtain ⟨vk, vcol, vn, vm, vs, ⟨sa, sn, sc⟩, vkids⟩ := v
 obtain ⟨k, col, hn', m, s, set⟩ := h
 obtain ⟨ccol, ck, cn, cs⟩ := c
 obtain ⟨⟨rfl, rfl, rfl, rfl, rfl⟩, hsn, hB, _⟩ := hH
 simp only at hsn hB hc
 subst hsn
 have HO : Hid (Pd.leafC ⟨ccol, ck, cn, cs⟩ ⟨vk, vcol, vn, vm, vs, set⟩ = o) := ho
 have HF : Hid (HdFit ⟨vk, vcol, vn, vm, vs, set⟩) := hF
 have HC : Hid (cs.length ≤ maxLen) := hc
 obtain ⟨W, hW⟩ : ∃ W, (w.alloc (pb ⟨vk, vcol, vn, vm, vs, (sa, set.length, sc), vkids⟩)).alloc (cb ⟨ccol, ck, cn, cs⟩) = W := ⟨_, rfl⟩
 have hX1 : Ex w (w.alloc (pb ⟨vk, vcol, vn, vm, vs, (sa, set.length, sc), vkids⟩)) := (Below.refl _ _).alloc (Nat.le_refl _) _
 have hXW : Ex w W := by rw [← hW]; exact Below.alloc hX1 (by simp) _
 have HXW : Hid (Ex w W) := hXW
 have HB : Hid (Rd st W sa sc set) := hB.below hXW
 have hP : PAt W w.heap.size ⟨vk, vcol, vn, vm, vs, (sa, set.length, sc), vkids⟩ := by rw [← hW]; exact (PAt.new w _).alloc _
 have hE : EAt W (w.heap.size + 1) ⟨ccol, ck, cn, cs⟩ := by
  rw [← hW]
  exact EAt.newat (w.alloc (pb ⟨vk, vcol, vn, vm, vs, (sa, set.length, sc), vkids⟩)) (w.heap.size + 1) _ (by simp)
 obtain ⟨p0, p1, p2, p3, p4, p5, p6⟩ := hP.all
 obtain ⟨e0, e1, e2, e3⟩ := hE.all
 simp only at p0 p1 p2 p3 p4 p5 p6 e0 e1 e2 e3
 have z1 := str_toList vs
 have z2 := str_toList cs
 clear hP hE hB hX1 hXW ho hF hc
 unfold pvv cv
 simp only [sv]
 go_enter Try.func66, Try.ntmps66
 by_cases h4 : vk = 4
 ·subst h4
  go_wp2_with fail
  all_goals go_ret
  all_goals refine ⟨?_, HXW.out⟩
  all_goals rw [← HO.out]
  all_goals first | (simp_all [Pd.leafC]; done) | (simp_all [Pd.leafC]; first | exact beqI _ _ | exact beqL _ _)
 by_cases h5 : vk = 5
 ·subst h5
  go_wp2_with fail
  all_goals go_ret
  all_goals refine ⟨?_, HXW.out⟩
  all_goals rw [← HO.out]
  all_goals first | (simp_all [Pd.leafC]; done) | (simp_all [Pd.leafC]; first | exact beqI _ _ | exact beqL _ _)
 by_cases h6 : vk = 6
 ·subst h6
  go_wp2_with fail
  all_goals go_ret
  all_goals refine ⟨?_, HXW.out⟩
  all_goals rw [← HO.out]
  all_goals first | (simp_all [Pd.leafC]; done) | (simp_all [Pd.leafC]; first | exact beqI _ _ | exact beqL _ _)
 by_cases h9 : vk = 9
 ·subst h9
  go_wp2_with fail
  all_goals go_ret
  all_goals refine ⟨?_, HXW.out⟩
  all_goals rw [← HO.out]
  all_goals first | (simp_all [Pd.leafC]; done) | (simp_all [Pd.leafC]; first | exact beqI _ _ | exact beqL _ _)
 by_cases h7 : vk = 7
 ·subst h7
  by_cases hck : ck = 2
  ·subst hck
   obtain ⟨x, hx⟩ : ∃ x, decide (cs ∈ set) = x := ⟨_, rfl⟩
   have HX : Hid (decide (cs ∈ set) = x) := hx
   have HC2 : Hid (Calls Try.prog 87 #[.slice sa set.length sc, .string (str cs)] W fun e w' => e = .returned (.bool x) ∧ w' = W) := contains_is sa _ sc set cs W rfl HB.out x hx
   have HOX : Hid (o = x) := (by rw [← HO.out, ← hx]; simp [Pd.leafC] : o = x)
   clear hx
   go_wp2_with fail
   go_at_call 87
   refine Calls.mono HC2.out ?_
   rintro e w2 ⟨rfl, hw⟩
   subst hw
   go_wp2_with fail
   go_ret
   exact ⟨by rw [HOX.out]; rfl, HXW.out⟩
  ·have t2 : (ck == 2) = false := beq_eq_false_iff_ne.2 hck
   have HOX : Hid (o = false) := (by rw [← HO.out]; simp [Pd.leafC, hck] : o = false)
   clear hck
   go_wp2_with fail
   go_ret
   exact ⟨by rw [HOX.out]; rfl, HXW.out⟩
 by_cases h8 : vk = 8
 ·subst h8
  by_cases hck : ck = 2
  ·subst hck
   obtain ⟨x, hx⟩ : ∃ x, T.begins vs cs = x := ⟨_, rfl⟩
   have HC2 : Hid (Calls Try.prog 88 #[.string (str cs), .string (str vs)] W fun e w' => e = .returned (.bool x) ∧ w' = W) := hasPrefix_is cs vs W HC.out HF.out.sM x hx
   have HOX : Hid (o = x) := (by rw [← HO.out, ← hx]; simp [Pd.leafC] : o = x)
   clear hx
   go_wp2_with fail
   go_at_call 88
   refine Calls.mono HC2.out ?_
   rintro e w2 ⟨rfl, hw⟩
   subst hw
   go_wp2_with fail
   go_ret
   exact ⟨by rw [HOX.out]; rfl, HXW.out⟩
  ·have t2 : (ck == 2) = false := beq_eq_false_iff_ne.2 hck
   have HOX : Hid (o = false) := (by rw [← HO.out]; simp [Pd.leafC, hck] : o = false)
   clear hck
   go_wp2_with fail
   go_ret
   exact ⟨by rw [HOX.out]; rfl, HXW.out⟩
 have HOX : Hid (o = false) := (by rw [← HO.out]; simp [Pd.leafC, h4, h5, h6, h7, h8, h9] : o = false)
 go_wp2_with fail
 go_ret
 exact ⟨by rw [HOX.out]; rfl, HXW.out⟩
end Go.Proofs.Ytibnhjfeepdddaa
