/-
  The landed prune: judge.
-/
import Derived.Test.YtibnhjfeepdddaaM26
import Derived.Test.YtibnhjfeepdddaaM29
import Derived.Test.YtibnhjfeepdddaaM30
namespace Go.Proofs.Ytibnhjfeepdddaa
open Go.RowKit
set_option linter.unusedVariables false
set_option linter.unusedSimpArgs false
theorem Pu.leaf_bt (s : St) (f : Fg) (h : Hd) (hk : h.k = 10) : Pu.leafJ s f h = (if f.tk = false then 2 else if h.m < h.n ∨ s.hi < h.n ∨ h.m < s.lo then 1 else if h.n ≤ s.lo ∧ s.hi ≤ h.m then 3 else 2) := by
 unfold Pu.leafJ; rw [if_neg (by omega), if_pos hk]
/-- What is asked of a part. -/
def JudgeC (s : St) (fl : Int) (k : Pr) : Prop := ∀ (v : PV) (tv : TV) (w : World) (o : Nat), Pd.Lay (fun _ => True) k w v → StOk w tv s → Pu.jd s (Pu.fg fl) k = o → Calls Try.prog 28 #[pvv v, tvv tv, .int .i64 fl] w fun e w' => e = .returned (.int .i64 (o : Int)) ∧ Ex w w'
set_option maxHeartbeats 8000000 in
set_option maxRecDepth 100000 in
theorem pjall_is (s : St) (fl : Int) (h : Hd) (l : List Pr) (ih : ∀ k ∈ l, JudgeC s fl k) (hk : h.k = 1) (v : PV) (tv : TV) (w : World) (o : Nat) (hL : Pd.Lay (fun _ => True) (Pr.mk' h l) w v) (hS : StOk w tv s) (ho : Pu.lo (l.map (Pu.jd s (Pu.fg fl))) = o) :
  Calls Try.prog 28 #[pvv v, tvv tv, .int .i64 fl] w fun e w' => e = .returned (.int .i64 (o : Int)) ∧ Ex w w' := by
 obtain ⟨hHd, hkn, hkB, hkc, hkm, hk0⟩ := hL.head
 obtain ⟨vk, vcol, vn, vm, vs, ⟨sa, sn, sc⟩, ⟨p, n, cap⟩⟩ := v
 obtain ⟨tr, tl, th, ⟨za, zn, zc⟩, ⟨ba, bn, bc'⟩⟩ := tv
 simp only at hkn hkB hkc hkm hk0
 subst hkn
 have hvk : vk = h.k := hHd.1.1
 obtain ⟨W, hW⟩ : ∃ W, (w.alloc (pb ⟨vk, vcol, vn, vm, vs, (sa, sn, sc), (p, l.length, cap)⟩)).alloc (tb ⟨tr, tl, th, (za, zn, zc), (ba, bn, bc')⟩ 38) = W := ⟨_, rfl⟩
 have hX1 : Ex w (w.alloc (pb ⟨vk, vcol, vn, vm, vs, (sa, sn, sc), (p, l.length, cap)⟩)) := (Below.refl _ _).alloc (Nat.le_refl _) _
 have hXW : Ex w W := by rw [← hW]; exact Below.alloc hX1 (by simp) _
 have HXW : Hid (Ex w W) := hXW
 have HP : Hid (PAt W w.heap.size ⟨vk, vcol, vn, vm, vs, (sa, sn, sc), (p, l.length, cap)⟩) := (by rw [← hW]; exact (PAt.new w _).alloc _ : PAt W w.heap.size _)
 have HT : Hid (TAt W (w.heap.size + 1) ⟨tr, tl, th, (za, zn, zc), (ba, bn, bc')⟩ 38) := (by
  have h := TAt.new (w.alloc (pb ⟨vk, vcol, vn, vm, vs, (sa, sn, sc), (p, l.length, cap)⟩)) ⟨tr, tl, th, (za, zn, zc), (ba, bn, bc')⟩ 38
  have hs : (w.alloc (pb ⟨vk, vcol, vn, vm, vs, (sa, sn, sc), (p, l.length, cap)⟩)).heap.size = w.heap.size + 1 := by simp
  rw [hs] at h
  rw [← hW]; exact h : TAt W (w.heap.size + 1) _ 38)
 have HS : Hid (StOk W ⟨tr, tl, th, (za, zn, zc), (ba, bn, bc')⟩ s) := hS.below hXW
 have HL : Hid (Pd.Lay (fun _ => True) (Pr.mk' h l) W ⟨vk, vcol, vn, vm, vs, (sa, sn, sc), (p, l.length, cap)⟩) := Pd.Lay.below _ hL hXW
 obtain ⟨p0, p1, p2, p3, p4, p5, p6⟩ := HP.out.all
 obtain ⟨t0, t1, t2, t3, t4⟩ := HT.out.all
 simp only at p0 p1 p2 p3 p4 p5 p6 t0 t1 t2 t3 t4
 simp only [tb, sv] at hW
 unfold maxLen at hkm
 have HIH : Hid (∀ k ∈ l, JudgeC s fl k) := ih
 have HO : Hid (Pu.lo (l.map (Pu.jd s (Pu.fg fl))) = o) := ho
 have hv : vk = 1 := by omega
 subst hv
 clear hL hHd hkB hXW hX1 hS ih ho hvk hk
 unfold pvv tvv
 simp only [sv]
 go_enter Try.func28, Try.ntmps28
 go_wp2_with fail
 clear p0 p1 p2 p3 p4 p5 p6 t0 t1 t2 t3 t4 hW
 go_loopw [20, 7] (fun iv ov wr => ∃ (i k : Nat), i ≤ l.length ∧ iv = .int .i64 i ∧ ov = .int .i64 k ∧ Hid (k = Pu.lo ((l.take i).map (Pu.jd s (Pu.fg fl)))) ∧ Hid (Ex W wr)) (fun iv ov wr => l.length - (intOf iv).toNat)
 case atStart => exact ⟨0, 3, by omega, rfl, rfl, (rfl : 3 = Pu.lo ((l.take 0).map (Pu.jd s (Pu.fg fl)))), Ex.refl W⟩
 case round =>
  obtain ⟨i, k, hi, rfl, rfl, HK, HXr⟩ := hrel
  by_cases hlt : i < l.length
  ·have hti : (i : Int) < (l.length : Int) := by omega
   have hLr := Pd.Lay.below _ HL.out HXr.out
   obtain ⟨b, off, x, hpp, hbg, hLk, e0, e1, e2, e3, e4, e5, e6⟩ := hLr.kid hlt
   simp only at hpp
   obtain ⟨c, hc⟩ : ∃ c, l[i] = c := ⟨_, rfl⟩
   rw [hc] at hLk
   obtain ⟨y, hy⟩ : ∃ y, Pu.jd s (Pu.fg fl) c = y := ⟨_, rfl⟩
   have hnx : l.take (i + 1) = l.take i ++ [c] := by rw [List.take_add_one, List.getElem?_eq_getElem hlt, hc]; rfl
   have HNX : Hid ((if y < k then y else k) = Pu.lo ((l.take (i + 1)).map (Pu.jd s (Pu.fg fl)))) := (by rw [hnx, List.map_append, List.map_cons, List.map_nil, Pu.lo_snoc, ← HK.out, hy] : (if y < k then y else k) = _)
   obtain ⟨w1, hw1⟩ : ∃ w1, wr.alloc (pb x) = w1 := ⟨_, rfl⟩
   have hX1 : Ex wr w1 := by rw [← hw1]; exact (Below.refl _ _).alloc (Nat.le_refl _) _
   have HX1 : Hid (Ex W w1) := (HXr.out.trans hX1 : Ex W w1)
   have HC : Hid (Calls Try.prog 28 #[pvv x, tvv ⟨tr, tl, th, (za, zn, zc), (ba, bn, bc')⟩, .int .i64 fl] w1 fun e w' => e = .returned (.int .i64 (y : Int)) ∧ Ex w1 w') := HIH.out c (by rw [← hc]; exact List.getElem_mem hlt) x _ w1 y (Pd.Lay.below _ hLk hX1) (HS.out.below HX1.out) hy
   have HP1 : Hid (PAt w1 wr.heap.size x) := (by rw [← hw1]; exact PAt.new wr x : PAt w1 wr.heap.size x)
   obtain ⟨q0, q1, q2, q3, q4, q5, q6⟩ := HP1.out.all
   obtain ⟨t0, t1, t2, t3, t4⟩ := (HT.out.below HX1.out).all
   simp only at t0 t1 t2 t3 t4
   obtain ⟨Mx, hMx⟩ : ∃ m : Nat, (if y < k then y else k) = m := ⟨_, rfl⟩
   have hmax : ∀ (ts : Array TypeId) (t : TypeId) (W : World), (Builtin.min_ ts t #[.int .i64 (k : Int), .int .i64 (y : Int)]).run Try.prog W = .ok (.int .i64 (Mx : Int)) W := fun ts t W => by rw [run_min_int2, ← hMx]; congr 2; split <;> split <;> omega
   rw [hMx] at HNX
   subst hpp
   clear hLr hLk hc hbg hy hnx hMx hX1
   go_wp2_with fail
   go_at_call 28
   refine Calls.mono HC.out ?_
   rintro e w2 ⟨rfl, hx2⟩
   have HX2 : Hid (Ex W w2) := (HX1.out.trans hx2 : Ex W w2)
   clear hx2 HC
   go_wp2_with fail
   go_roundw
   case rel => exact ⟨i + 1, Mx, by omega, by go_num, by first | rfl | go_num, HNX, HX2⟩
   case measure => simp [intOf]; omega
  ·have hti : ¬ (i : Int) < (l.length : Int) := by omega
   have HE : Hid (k = o) := (by rw [← HO.out, HK.out, List.take_of_length_le (by omega)] : k = o)
   go_wp2_with fail
   go_ret
   exact ⟨by rw [HE.out]; rfl, HXW.out.trans HXr.out⟩
set_option maxHeartbeats 8000000 in
set_option maxRecDepth 100000 in
theorem pjany_is (s : St) (fl : Int) (h : Hd) (l : List Pr) (ih : ∀ k ∈ l, JudgeC s fl k) (hk : h.k = 2) (v : PV) (tv : TV) (w : World) (o : Nat) (hL : Pd.Lay (fun _ => True) (Pr.mk' h l) w v) (hS : StOk w tv s) (ho : Pu.hi (l.map (Pu.jd s (Pu.fg fl))) = o) :
  Calls Try.prog 28 #[pvv v, tvv tv, .int .i64 fl] w fun e w' => e = .returned (.int .i64 (o : Int)) ∧ Ex w w' := by
 obtain ⟨hHd, hkn, hkB, hkc, hkm, hk0⟩ := hL.head
 obtain ⟨vk, vcol, vn, vm, vs, ⟨sa, sn, sc⟩, ⟨p, n, cap⟩⟩ := v
 obtain ⟨tr, tl, th, ⟨za, zn, zc⟩, ⟨ba, bn, bc'⟩⟩ := tv
 simp only at hkn hkB hkc hkm hk0
 subst hkn
 have hvk : vk = h.k := hHd.1.1
 obtain ⟨W, hW⟩ : ∃ W, (w.alloc (pb ⟨vk, vcol, vn, vm, vs, (sa, sn, sc), (p, l.length, cap)⟩)).alloc (tb ⟨tr, tl, th, (za, zn, zc), (ba, bn, bc')⟩ 38) = W := ⟨_, rfl⟩
 have hX1 : Ex w (w.alloc (pb ⟨vk, vcol, vn, vm, vs, (sa, sn, sc), (p, l.length, cap)⟩)) := (Below.refl _ _).alloc (Nat.le_refl _) _
 have hXW : Ex w W := by rw [← hW]; exact Below.alloc hX1 (by simp) _
 have HXW : Hid (Ex w W) := hXW
 have HP : Hid (PAt W w.heap.size ⟨vk, vcol, vn, vm, vs, (sa, sn, sc), (p, l.length, cap)⟩) := (by rw [← hW]; exact (PAt.new w _).alloc _ : PAt W w.heap.size _)
 have HT : Hid (TAt W (w.heap.size + 1) ⟨tr, tl, th, (za, zn, zc), (ba, bn, bc')⟩ 38) := (by
  have h := TAt.new (w.alloc (pb ⟨vk, vcol, vn, vm, vs, (sa, sn, sc), (p, l.length, cap)⟩)) ⟨tr, tl, th, (za, zn, zc), (ba, bn, bc')⟩ 38
  have hs : (w.alloc (pb ⟨vk, vcol, vn, vm, vs, (sa, sn, sc), (p, l.length, cap)⟩)).heap.size = w.heap.size + 1 := by simp
  rw [hs] at h
  rw [← hW]; exact h : TAt W (w.heap.size + 1) _ 38)
 have HS : Hid (StOk W ⟨tr, tl, th, (za, zn, zc), (ba, bn, bc')⟩ s) := hS.below hXW
 have HL : Hid (Pd.Lay (fun _ => True) (Pr.mk' h l) W ⟨vk, vcol, vn, vm, vs, (sa, sn, sc), (p, l.length, cap)⟩) := Pd.Lay.below _ hL hXW
 obtain ⟨p0, p1, p2, p3, p4, p5, p6⟩ := HP.out.all
 obtain ⟨t0, t1, t2, t3, t4⟩ := HT.out.all
 simp only at p0 p1 p2 p3 p4 p5 p6 t0 t1 t2 t3 t4
 simp only [tb, sv] at hW
 unfold maxLen at hkm
 have HIH : Hid (∀ k ∈ l, JudgeC s fl k) := ih
 have HO : Hid (Pu.hi (l.map (Pu.jd s (Pu.fg fl))) = o) := ho
 have hv : vk = 2 := by omega
 subst hv
 clear hL hHd hkB hXW hX1 hS ih ho hvk hk
 unfold pvv tvv
 simp only [sv]
 go_enter Try.func28, Try.ntmps28
 go_wp2_with fail
 clear p0 p1 p2 p3 p4 p5 p6 t0 t1 t2 t3 t4 hW
 go_loopw [37, 10] (fun iv ov wr => ∃ (i k : Nat), i ≤ l.length ∧ iv = .int .i64 i ∧ ov = .int .i64 k ∧ Hid (k = Pu.hi ((l.take i).map (Pu.jd s (Pu.fg fl)))) ∧ Hid (Ex W wr)) (fun iv ov wr => l.length - (intOf iv).toNat)
 case atStart => exact ⟨0, 1, by omega, rfl, rfl, (rfl : 1 = Pu.hi ((l.take 0).map (Pu.jd s (Pu.fg fl)))), Ex.refl W⟩
 case round =>
  obtain ⟨i, k, hi, rfl, rfl, HK, HXr⟩ := hrel
  by_cases hlt : i < l.length
  ·have hti : (i : Int) < (l.length : Int) := by omega
   have hLr := Pd.Lay.below _ HL.out HXr.out
   obtain ⟨b, off, x, hpp, hbg, hLk, e0, e1, e2, e3, e4, e5, e6⟩ := hLr.kid hlt
   simp only at hpp
   obtain ⟨c, hc⟩ : ∃ c, l[i] = c := ⟨_, rfl⟩
   rw [hc] at hLk
   obtain ⟨y, hy⟩ : ∃ y, Pu.jd s (Pu.fg fl) c = y := ⟨_, rfl⟩
   have hnx : l.take (i + 1) = l.take i ++ [c] := by rw [List.take_add_one, List.getElem?_eq_getElem hlt, hc]; rfl
   have HNX : Hid ((if k < y then y else k) = Pu.hi ((l.take (i + 1)).map (Pu.jd s (Pu.fg fl)))) := (by rw [hnx, List.map_append, List.map_cons, List.map_nil, Pu.hi_snoc, ← HK.out, hy] : (if k < y then y else k) = _)
   obtain ⟨w1, hw1⟩ : ∃ w1, wr.alloc (pb x) = w1 := ⟨_, rfl⟩
   have hX1 : Ex wr w1 := by rw [← hw1]; exact (Below.refl _ _).alloc (Nat.le_refl _) _
   have HX1 : Hid (Ex W w1) := (HXr.out.trans hX1 : Ex W w1)
   have HC : Hid (Calls Try.prog 28 #[pvv x, tvv ⟨tr, tl, th, (za, zn, zc), (ba, bn, bc')⟩, .int .i64 fl] w1 fun e w' => e = .returned (.int .i64 (y : Int)) ∧ Ex w1 w') := HIH.out c (by rw [← hc]; exact List.getElem_mem hlt) x _ w1 y (Pd.Lay.below _ hLk hX1) (HS.out.below HX1.out) hy
   have HP1 : Hid (PAt w1 wr.heap.size x) := (by rw [← hw1]; exact PAt.new wr x : PAt w1 wr.heap.size x)
   obtain ⟨q0, q1, q2, q3, q4, q5, q6⟩ := HP1.out.all
   obtain ⟨t0, t1, t2, t3, t4⟩ := (HT.out.below HX1.out).all
   simp only at t0 t1 t2 t3 t4
   obtain ⟨Mx, hMx⟩ : ∃ m : Nat, (if k < y then y else k) = m := ⟨_, rfl⟩
   have hmax : ∀ (ts : Array TypeId) (t : TypeId) (W : World), (Builtin.max_ ts t #[.int .i64 (k : Int), .int .i64 (y : Int)]).run Try.prog W = .ok (.int .i64 (Mx : Int)) W := fun ts t W => by rw [run_max_int2, ← hMx]; congr 2; split <;> split <;> omega
   rw [hMx] at HNX
   subst hpp
   clear hLr hLk hc hbg hy hnx hMx hX1
   go_wp2_with fail
   go_at_call 28
   refine Calls.mono HC.out ?_
   rintro e w2 ⟨rfl, hx2⟩
   have HX2 : Hid (Ex W w2) := (HX1.out.trans hx2 : Ex W w2)
   clear hx2 HC
   go_wp2_with fail
   go_roundw
   case rel => exact ⟨i + 1, Mx, by omega, by go_num, by first | rfl | go_num, HNX, HX2⟩
   case measure => simp [intOf]; omega
  ·have hti : ¬ (i : Int) < (l.length : Int) := by omega
   have HE : Hid (k = o) := (by rw [← HO.out, HK.out, List.take_of_length_le (by omega)] : k = o)
   go_wp2_with fail
   go_ret
   exact ⟨by rw [HE.out]; rfl, HXW.out.trans HXr.out⟩
set_option maxHeartbeats 8000000 in
set_option maxRecDepth 100000 in
theorem pjnot_is (s : St) (fl : Int) (h : Hd) (k : Pr) (ih : JudgeC s fl k) (hk : h.k = 3) (v : PV) (tv : TV) (w : World) (o : Nat) (hL : Pd.Lay (fun _ => True) (Pr.mk' h [k]) w v) (hS : StOk w tv s) (x : Nat) (hx : Pu.jd s (Pu.fg fl) k = x) (hx3 : x ≤ 3) (ho : 4 - x = o) :
  Calls Try.prog 28 #[pvv v, tvv tv, .int .i64 fl] w fun e w' => e = .returned (.int .i64 (o : Int)) ∧ Ex w w' := by
 obtain ⟨hHd, hkn, hkB, hkc, hkm, hk0⟩ := hL.head
 obtain ⟨vk, vcol, vn, vm, vs, ⟨sa, sn, sc⟩, ⟨p, n, cap⟩⟩ := v
 obtain ⟨tr, tl, th, ⟨za, zn, zc⟩, ⟨ba, bn, bc'⟩⟩ := tv
 simp only at hkn hkB hkc hkm hk0
 subst hkn
 have hvk : vk = h.k := hHd.1.1
 obtain ⟨W, hW⟩ : ∃ W, (w.alloc (pb ⟨vk, vcol, vn, vm, vs, (sa, sn, sc), (p, [k].length, cap)⟩)).alloc (tb ⟨tr, tl, th, (za, zn, zc), (ba, bn, bc')⟩ 38) = W := ⟨_, rfl⟩
 have hX1 : Ex w (w.alloc (pb ⟨vk, vcol, vn, vm, vs, (sa, sn, sc), (p, [k].length, cap)⟩)) := (Below.refl _ _).alloc (Nat.le_refl _) _
 have hXW : Ex w W := by rw [← hW]; exact Below.alloc hX1 (by simp) _
 have HXW : Hid (Ex w W) := hXW
 have HP : Hid (PAt W w.heap.size ⟨vk, vcol, vn, vm, vs, (sa, sn, sc), (p, [k].length, cap)⟩) := (by rw [← hW]; exact (PAt.new w _).alloc _ : PAt W w.heap.size _)
 have HT : Hid (TAt W (w.heap.size + 1) ⟨tr, tl, th, (za, zn, zc), (ba, bn, bc')⟩ 38) := (by
  have h := TAt.new (w.alloc (pb ⟨vk, vcol, vn, vm, vs, (sa, sn, sc), (p, [k].length, cap)⟩)) ⟨tr, tl, th, (za, zn, zc), (ba, bn, bc')⟩ 38
  have hs : (w.alloc (pb ⟨vk, vcol, vn, vm, vs, (sa, sn, sc), (p, [k].length, cap)⟩)).heap.size = w.heap.size + 1 := by simp
  rw [hs] at h
  rw [← hW]; exact h : TAt W (w.heap.size + 1) _ 38)
 have HS : Hid (StOk W ⟨tr, tl, th, (za, zn, zc), (ba, bn, bc')⟩ s) := hS.below hXW
 have HL : Hid (Pd.Lay (fun _ => True) (Pr.mk' h [k]) W ⟨vk, vcol, vn, vm, vs, (sa, sn, sc), (p, [k].length, cap)⟩) := Pd.Lay.below _ hL hXW
 obtain ⟨p0, p1, p2, p3, p4, p5, p6⟩ := HP.out.all
 obtain ⟨t0, t1, t2, t3, t4⟩ := HT.out.all
 simp only at p0 p1 p2 p3 p4 p5 p6 t0 t1 t2 t3 t4
 simp only [tb, sv] at hW
 unfold maxLen at hkm
 have HX : Hid (Pu.jd s (Pu.fg fl) k = x) := hx
 have HKC : Hid (JudgeC s fl k) := ih
 obtain ⟨bb, off, u, hpp, hbg, hLk, e0, e1, e2, e3, e4, e5, e6⟩ := HL.out.kid (i := 0) (by simp)
 simp only [List.getElem_cons_zero] at hLk
 simp only [Nat.zero_mul, Nat.add_zero] at e0 e1 e2 e3 e4 e5 e6
 simp only at hpp
 have HLK : Hid (Pd.Lay (fun _ => True) k W u) := hLk
 have HE : Hid (W.cell? ⟨bb, off, none⟩ = some (.int .i64 u.k) ∧ W.cell? ⟨bb, off + 1, none⟩ = some (.string (str u.col)) ∧ W.cell? ⟨bb, off + 2, none⟩ = some (.int .i64 u.n) ∧ W.cell? ⟨bb, off + 3, none⟩ = some (.int .i64 u.m) ∧ W.cell? ⟨bb, off + 4, none⟩ = some (.string (str u.s)) ∧ W.cell? ⟨bb, off + 5, none⟩ = some (sv u.set) ∧ W.cell? ⟨bb, off + 6, none⟩ = some (sv u.kids)) := (⟨e0, e1, e2, e3, e4, e5, e6⟩ : _ ∧ _)
 have HO : Hid (4 - x = o ∧ x ≤ 3) := (⟨ho, hx3⟩ : 4 - x = o ∧ x ≤ 3)
 have hv : vk = 3 := by omega
 subst hv
 subst hpp
 simp only [List.length_cons, List.length_nil, Nat.zero_add] at *
 clear hL hHd hkB hXW hX1 hS ih ho hvk hk hx hx3 hLk hbg e0 e1 e2 e3 e4 e5 e6
 unfold pvv tvv
 simp only [sv]
 go_enter Try.func28, Try.ntmps28
 go_wp2_with fail
 have hre := Ex.refl
 refine Rg.wp_rows [.inl (Value.pointer (some ⟨w.heap.size, 6, none⟩)), .inl (Value.slice (some ⟨bb, off, none⟩) 1 cap), .inl (Value.pointer (some ⟨bb, off, none⟩)), .inl (pvv u), .inl (tvv ⟨tr, tl, th, (za, zn, zc), (ba, bn, bc')⟩), .inl (.int .i64 fl), .inl (.int .i64 (x : Int)), .inl (.int .i64 (o : Int)), .inl (.int .i64 (o : Int))] (Ex W) Ex 75 (by kernel_rfl) rfl (by kernel_rfl) ?st hre (Ex.drew _) ?goods ?fin
 case st => exact trivial
 case goods =>
  refine Rg.goods_cons (Rg.good_field hre rfl rfl rfl (fun wx hC => by go_simp)) ?_
  refine Rg.goods_cons (Rg.good_load hre rfl rfl rfl (fun wx hC => by have hz := (HP.out.below hC).all.2.2.2.2.2.2; go_simp)) ?_
  refine Rg.goods_cons (Rg.good_index hre rfl rfl rfl rfl (fun wx hC => by go_simp)) ?_
  refine Rg.goods_cons (Rg.good_load hre rfl rfl rfl (fun wx hC => by obtain ⟨e0, e1, e2, e3, e4, e5, e6⟩ := HE.out; exact loadI_pred (cell_ex e0 hC) (cell_ex e1 hC) (cell_ex e2 hC) (cell_ex e3 hC) (cell_ex e4 hC) (cell_ex e5 hC) (cell_ex e6 hC))) ?_
  refine Rg.goods_cons (Rg.good_load hre rfl rfl rfl (fun wx hC => loadI_stats38 (HT.out.below hC))) ?_
  refine Rg.goods_cons (Rg.good_move hre rfl rfl rfl) ?_
  refine Rg.goods_cons (Rg.good_call3 Try.func28 (by kernel_rfl) rfl rfl rfl (by rintro v0 v1 v2 wx hC rfl rfl rfl; exact ex_rowP (HKC.out u _ wx x (Pd.Lay.below _ HLK.out hC) (HS.out.below hC) HX.out) hC)) ?_
  refine Rg.goods_cons (Rg.good_bin hre rfl rfl rfl rfl (fun _ => rfl) (fun w => by have h := HO.out; simp [go_sem]; rw [IntKind.wrap_i64]; omega)) ?_
  refine Rg.goods_cons (Rg.good_assign hre rfl rfl rfl) ?_
  exact Rg.goods_nil
 case fin =>
  intro wx hx
  simp only [Rg.later, Act.put, List.setIfInBounds_toArray, List.set_cons_succ, List.set_cons_zero]
  have HX9 : Hid (Ex w wx) := (HXW.out.trans hx : Ex w wx)
  clear hx
  go_wp2_with fail
  go_ret
  exact ⟨rfl, HX9.out⟩
theorem part_texts {h : Hd} {n : Nat} (e : Pd.part h n = true) : h.s.length ≤ maxLen ∧ (∀ x ∈ h.set, x.length ≤ maxLen) ∧ (h.k = 6 → h.n = 0) := by
 have hm : (40 : Nat) ≤ maxLen := by decide
 have hs0 : h.s = [] → h.s.length ≤ maxLen := fun e => by rw [e]; exact Nat.zero_le _
 have hset0 : h.set = [] → ∀ x ∈ h.set, x.length ≤ maxLen := fun e x hx => by rw [e] at hx; simp at hx
 unfold Pd.part at e
 by_cases h1 : h.k = 1 ∨ h.k = 2
 ·rw [if_pos h1, decide_eq_true_eq] at e
  exact ⟨hs0 e.2.2.2.1, hset0 e.2.2.2.2, fun _ => e.2.1⟩
 rw [if_neg h1] at e
 by_cases h3 : h.k = 3
 ·rw [if_pos h3, decide_eq_true_eq] at e
  exact ⟨hs0 e.2.2.2.1, hset0 e.2.2.2.2.1, fun _ => e.2.1⟩
 rw [if_neg h3] at e
 by_cases h4 : h.k = 4 ∨ h.k = 5
 ·rw [if_pos h4, Bool.and_eq_true, decide_eq_true_eq] at e
  exact ⟨hs0 e.2.2.1, hset0 e.2.2.2.1, fun _ => by omega⟩
 rw [if_neg h4] at e
 by_cases h6 : h.k = 6 ∨ h.k = 8
 ·rw [if_pos h6, Bool.and_eq_true, decide_eq_true_eq] at e
  exact ⟨Nat.le_trans e.2.2.2.1 hm, hset0 e.2.2.2.2.1, fun _ => e.2.1⟩
 rw [if_neg h6] at e
 by_cases h7 : h.k = 7
 ·rw [if_pos h7] at e
  simp only [Bool.and_eq_true, decide_eq_true_eq, List.all_eq_true] at e
  exact ⟨hs0 e.1.1.2.2.2.1, fun x hx => Nat.le_trans (e.2 x hx) hm, fun _ => by omega⟩
 rw [if_neg h7] at e
 by_cases h9 : h.k = 9
 ·rw [if_pos h9, Bool.and_eq_true, decide_eq_true_eq] at e
  exact ⟨hs0 e.2.2.2.1, hset0 e.2.2.2.2.1, fun _ => by omega⟩
 rw [if_neg h9] at e
 by_cases h10 : h.k = 10
 ·rw [if_pos h10, decide_eq_true_eq] at e
  exact ⟨hs0 e.2.1, hset0 e.2.2.1, fun _ => by omega⟩
 rw [if_neg h10] at e
 exact absurd e (by simp)
set_option maxHeartbeats 8000000 in
set_option maxRecDepth 100000 in
theorem pjin_is (s : St) (hF : StFine s) (fl : Int) (h : Hd) (l : List Pr) (hp : Pd.part h l.length = true) (hk : h.k = 7) (v : PV) (tv : TV) (w : World) (o : Nat) (hL : Pd.Lay (fun _ => True) (Pr.mk' h l) w v) (hS : StOk w tv s) (ho : Pu.leafJ s (Pu.fg fl) h = o) :
  Calls Try.prog 28 #[pvv v, tvv tv, .int .i64 fl] w fun e w' => e = .returned (.int .i64 (o : Int)) ∧ Ex w w' := by
 have hpt := part_texts hp
 obtain ⟨hHd, hkn, hkB, hkc, hkm, hk0⟩ := hL.head
 obtain ⟨vk, vcol, vn, vm, vs, ⟨sa, sn, sc⟩, ⟨p, n, cap⟩⟩ := v
 obtain ⟨tr, tl, th, ⟨za, zn, zc⟩, ⟨ba, bn, bc'⟩⟩ := tv
 simp only at hkn hkB hkc hkm hk0
 subst hkn
 have hvk : vk = h.k := hHd.1.1
 obtain ⟨W, hW⟩ : ∃ W, (w.alloc (pb ⟨vk, vcol, vn, vm, vs, (sa, sn, sc), (p, l.length, cap)⟩)).alloc (tb ⟨tr, tl, th, (za, zn, zc), (ba, bn, bc')⟩ 38) = W := ⟨_, rfl⟩
 have hX1 : Ex w (w.alloc (pb ⟨vk, vcol, vn, vm, vs, (sa, sn, sc), (p, l.length, cap)⟩)) := (Below.refl _ _).alloc (Nat.le_refl _) _
 have hXW : Ex w W := by rw [← hW]; exact Below.alloc hX1 (by simp) _
 have HXW : Hid (Ex w W) := hXW
 have HP : Hid (PAt W w.heap.size ⟨vk, vcol, vn, vm, vs, (sa, sn, sc), (p, l.length, cap)⟩) := (by rw [← hW]; exact (PAt.new w _).alloc _ : PAt W w.heap.size _)
 have HT : Hid (TAt W (w.heap.size + 1) ⟨tr, tl, th, (za, zn, zc), (ba, bn, bc')⟩ 38) := (by
  have h := TAt.new (w.alloc (pb ⟨vk, vcol, vn, vm, vs, (sa, sn, sc), (p, l.length, cap)⟩)) ⟨tr, tl, th, (za, zn, zc), (ba, bn, bc')⟩ 38
  have hs : (w.alloc (pb ⟨vk, vcol, vn, vm, vs, (sa, sn, sc), (p, l.length, cap)⟩)).heap.size = w.heap.size + 1 := by simp
  rw [hs] at h
  rw [← hW]; exact h : TAt W (w.heap.size + 1) _ 38)
 have HS : Hid (StOk W ⟨tr, tl, th, (za, zn, zc), (ba, bn, bc')⟩ s) := hS.below hXW
 have HL : Hid (Pd.Lay (fun _ => True) (Pr.mk' h l) W ⟨vk, vcol, vn, vm, vs, (sa, sn, sc), (p, l.length, cap)⟩) := Pd.Lay.below _ hL hXW
 obtain ⟨p0, p1, p2, p3, p4, p5, p6⟩ := HP.out.all
 obtain ⟨t0, t1, t2, t3, t4⟩ := HT.out.all
 simp only at p0 p1 p2 p3 p4 p5 p6 t0 t1 t2 t3 t4
 simp only [tb, sv] at hW
 unfold maxLen at hkm
 have hHW := (HL.out.head).1
 have HC : Hid (Calls Try.prog 47 #[pvv ⟨vk, vcol, vn, vm, vs, (sa, sn, sc), (p, l.length, cap)⟩, tvv ⟨tr, tl, th, (za, zn, zc), (ba, bn, bc')⟩, .int .i64 fl] W fun e w' => e = .returned (.int .i64 (o : Int)) ∧ Ex W w') := (by
  refine pjs_is _ h.set _ s fl W HS.out hF hHW.2.1 hHW.2.2.1 hpt.2.1 o ?_
  rw [← ho]
  unfold Pu.leafJ
  rw [if_pos hk]
  have e : vcol = h.col := hHd.1.2.1
  simp only [e] : Calls _ _ _ _ _)
 have t_1 : (vk == 1) = false := beq_eq_false_iff_ne.2 (by omega)
 have t_2 : (vk == 2) = false := beq_eq_false_iff_ne.2 (by omega)
 have t_3 : (vk == 3) = false := beq_eq_false_iff_ne.2 (by omega)
 have t_7 : (vk == 7) = true := by simp; omega
 have t_10 : (vk == 10) = false := beq_eq_false_iff_ne.2 (by omega)
 clear hL hHd hkB hXW hX1 hS ho hvk hk hp hpt hHW hF
 unfold pvv tvv
 simp only [sv]
 go_enter Try.func28, Try.ntmps28
 go_wp2_with fail
 go_at_call 47
 refine Calls.mono HC.out ?_
 rintro e w2 ⟨rfl, hx2⟩
 have HX2 : Hid (Ex w w2) := (HXW.out.trans hx2 : Ex w w2)
 clear hx2 HC
 go_wp2_with fail
 go_ret
 exact ⟨rfl, HX2.out⟩
set_option maxHeartbeats 8000000 in
set_option maxRecDepth 100000 in
theorem pjbt_is (s : St) (hF : StFine s) (fl : Int) (h : Hd) (l : List Pr) (hp : Pd.part h l.length = true) (hk : h.k = 10) (v : PV) (tv : TV) (w : World) (o : Nat) (hL : Pd.Lay (fun _ => True) (Pr.mk' h l) w v) (hS : StOk w tv s) (ho : Pu.leafJ s (Pu.fg fl) h = o) :
  Calls Try.prog 28 #[pvv v, tvv tv, .int .i64 fl] w fun e w' => e = .returned (.int .i64 (o : Int)) ∧ Ex w w' := by
 have hpt := part_texts hp
 obtain ⟨hHd, hkn, hkB, hkc, hkm, hk0⟩ := hL.head
 obtain ⟨vk, vcol, vn, vm, vs, ⟨sa, sn, sc⟩, ⟨p, n, cap⟩⟩ := v
 obtain ⟨tr, tl, th, ⟨za, zn, zc⟩, ⟨ba, bn, bc'⟩⟩ := tv
 simp only at hkn hkB hkc hkm hk0
 subst hkn
 have hvk : vk = h.k := hHd.1.1
 obtain ⟨W, hW⟩ : ∃ W, (w.alloc (pb ⟨vk, vcol, vn, vm, vs, (sa, sn, sc), (p, l.length, cap)⟩)).alloc (tb ⟨tr, tl, th, (za, zn, zc), (ba, bn, bc')⟩ 38) = W := ⟨_, rfl⟩
 have hX1 : Ex w (w.alloc (pb ⟨vk, vcol, vn, vm, vs, (sa, sn, sc), (p, l.length, cap)⟩)) := (Below.refl _ _).alloc (Nat.le_refl _) _
 have hXW : Ex w W := by rw [← hW]; exact Below.alloc hX1 (by simp) _
 have HXW : Hid (Ex w W) := hXW
 have HP : Hid (PAt W w.heap.size ⟨vk, vcol, vn, vm, vs, (sa, sn, sc), (p, l.length, cap)⟩) := (by rw [← hW]; exact (PAt.new w _).alloc _ : PAt W w.heap.size _)
 have HT : Hid (TAt W (w.heap.size + 1) ⟨tr, tl, th, (za, zn, zc), (ba, bn, bc')⟩ 38) := (by
  have h := TAt.new (w.alloc (pb ⟨vk, vcol, vn, vm, vs, (sa, sn, sc), (p, l.length, cap)⟩)) ⟨tr, tl, th, (za, zn, zc), (ba, bn, bc')⟩ 38
  have hs : (w.alloc (pb ⟨vk, vcol, vn, vm, vs, (sa, sn, sc), (p, l.length, cap)⟩)).heap.size = w.heap.size + 1 := by simp
  rw [hs] at h
  rw [← hW]; exact h : TAt W (w.heap.size + 1) _ 38)
 have HS : Hid (StOk W ⟨tr, tl, th, (za, zn, zc), (ba, bn, bc')⟩ s) := hS.below hXW
 have HL : Hid (Pd.Lay (fun _ => True) (Pr.mk' h l) W ⟨vk, vcol, vn, vm, vs, (sa, sn, sc), (p, l.length, cap)⟩) := Pd.Lay.below _ hL hXW
 obtain ⟨p0, p1, p2, p3, p4, p5, p6⟩ := HP.out.all
 obtain ⟨t0, t1, t2, t3, t4⟩ := HT.out.all
 simp only at p0 p1 p2 p3 p4 p5 p6 t0 t1 t2 t3 t4
 simp only [tb, sv] at hW
 unfold maxLen at hkm
 have hHW := (HL.out.head).1
 have HC : Hid (Calls Try.prog 48 #[pvv ⟨vk, vcol, vn, vm, vs, (sa, sn, sc), (p, l.length, cap)⟩, tvv ⟨tr, tl, th, (za, zn, zc), (ba, bn, bc')⟩, .int .i64 fl] W fun e w' => e = .returned (.int .i64 (o : Int)) ∧ Ex W w') := (by
  refine pjt_is _ _ fl W o ?_
  rw [← ho, Pu.leaf_bt s _ h hk]
  have e1 : vn = h.n := hHd.1.2.2.1
  have e2 : vm = h.m := hHd.1.2.2.2.1
  have e3 : tl = s.lo := hS.1.2.1
  have e4 : th = s.hi := hS.1.2.2
  simp only [e1, e2, e3, e4] : Calls _ _ _ _ _)
 have t_1 : (vk == 1) = false := beq_eq_false_iff_ne.2 (by omega)
 have t_2 : (vk == 2) = false := beq_eq_false_iff_ne.2 (by omega)
 have t_3 : (vk == 3) = false := beq_eq_false_iff_ne.2 (by omega)
 have t_7 : (vk == 7) = false := beq_eq_false_iff_ne.2 (by omega)
 have t_10 : (vk == 10) = true := by simp; omega
 clear hL hHd hkB hXW hX1 hS ho hvk hk hp hpt hHW hF
 unfold pvv tvv
 simp only [sv]
 go_enter Try.func28, Try.ntmps28
 go_wp2_with fail
 go_at_call 48
 refine Calls.mono HC.out ?_
 rintro e w2 ⟨rfl, hx2⟩
 have HX2 : Hid (Ex w w2) := (HXW.out.trans hx2 : Ex w w2)
 clear hx2 HC
 go_wp2_with fail
 go_ret
 exact ⟨rfl, HX2.out⟩
set_option maxHeartbeats 8000000 in
set_option maxRecDepth 100000 in
theorem pjcl_is (s : St) (hF : StFine s) (fl : Int) (h : Hd) (l : List Pr) (hp : Pd.part h l.length = true) (hk : h.k = 4 ∨ h.k = 5 ∨ h.k = 6 ∨ h.k = 8 ∨ h.k = 9) (v : PV) (tv : TV) (w : World) (o : Nat) (hL : Pd.Lay (fun _ => True) (Pr.mk' h l) w v) (hS : StOk w tv s) (ho : Pu.leafJ s (Pu.fg fl) h = o) :
  Calls Try.prog 28 #[pvv v, tvv tv, .int .i64 fl] w fun e w' => e = .returned (.int .i64 (o : Int)) ∧ Ex w w' := by
 have hpt := part_texts hp
 obtain ⟨hHd, hkn, hkB, hkc, hkm, hk0⟩ := hL.head
 obtain ⟨vk, vcol, vn, vm, vs, ⟨sa, sn, sc⟩, ⟨p, n, cap⟩⟩ := v
 obtain ⟨tr, tl, th, ⟨za, zn, zc⟩, ⟨ba, bn, bc'⟩⟩ := tv
 simp only at hkn hkB hkc hkm hk0
 subst hkn
 have hvk : vk = h.k := hHd.1.1
 obtain ⟨W, hW⟩ : ∃ W, (w.alloc (pb ⟨vk, vcol, vn, vm, vs, (sa, sn, sc), (p, l.length, cap)⟩)).alloc (tb ⟨tr, tl, th, (za, zn, zc), (ba, bn, bc')⟩ 38) = W := ⟨_, rfl⟩
 have hX1 : Ex w (w.alloc (pb ⟨vk, vcol, vn, vm, vs, (sa, sn, sc), (p, l.length, cap)⟩)) := (Below.refl _ _).alloc (Nat.le_refl _) _
 have hXW : Ex w W := by rw [← hW]; exact Below.alloc hX1 (by simp) _
 have HXW : Hid (Ex w W) := hXW
 have HP : Hid (PAt W w.heap.size ⟨vk, vcol, vn, vm, vs, (sa, sn, sc), (p, l.length, cap)⟩) := (by rw [← hW]; exact (PAt.new w _).alloc _ : PAt W w.heap.size _)
 have HT : Hid (TAt W (w.heap.size + 1) ⟨tr, tl, th, (za, zn, zc), (ba, bn, bc')⟩ 38) := (by
  have h := TAt.new (w.alloc (pb ⟨vk, vcol, vn, vm, vs, (sa, sn, sc), (p, l.length, cap)⟩)) ⟨tr, tl, th, (za, zn, zc), (ba, bn, bc')⟩ 38
  have hs : (w.alloc (pb ⟨vk, vcol, vn, vm, vs, (sa, sn, sc), (p, l.length, cap)⟩)).heap.size = w.heap.size + 1 := by simp
  rw [hs] at h
  rw [← hW]; exact h : TAt W (w.heap.size + 1) _ 38)
 have HS : Hid (StOk W ⟨tr, tl, th, (za, zn, zc), (ba, bn, bc')⟩ s) := hS.below hXW
 have HL : Hid (Pd.Lay (fun _ => True) (Pr.mk' h l) W ⟨vk, vcol, vn, vm, vs, (sa, sn, sc), (p, l.length, cap)⟩) := Pd.Lay.below _ hL hXW
 obtain ⟨p0, p1, p2, p3, p4, p5, p6⟩ := HP.out.all
 obtain ⟨t0, t1, t2, t3, t4⟩ := HT.out.all
 simp only at p0 p1 p2 p3 p4 p5 p6 t0 t1 t2 t3 t4
 simp only [tb, sv] at hW
 unfold maxLen at hkm
 have hHW := (HL.out.head).1
 have HC : Hid (Calls Try.prog 49 #[pvv ⟨vk, vcol, vn, vm, vs, (sa, sn, sc), (p, l.length, cap)⟩, tvv ⟨tr, tl, th, (za, zn, zc), (ba, bn, bc')⟩, .int .i64 fl] W fun e w' => e = .returned (.int .i64 (o : Int)) ∧ Ex W w') := (by
  have e1 : vn = h.n := hHd.1.2.2.1
  have e2 : vcol = h.col := hHd.1.2.1
  have e3 : vs = h.s := hHd.1.2.2.2.2
  refine pjc_is _ _ s fl W HS.out hF (by simp only [e3]; exact hpt.1) (by simp only [hvk]; exact hk) o ?_
  rw [← ho, Pu.leaf_col s _ h hk hpt.2.2]
  simp only [e1, e2, e3, hvk] : Calls _ _ _ _ _)
 have t_1 : (vk == 1) = false := beq_eq_false_iff_ne.2 (by omega)
 have t_2 : (vk == 2) = false := beq_eq_false_iff_ne.2 (by omega)
 have t_3 : (vk == 3) = false := beq_eq_false_iff_ne.2 (by omega)
 have t_7 : (vk == 7) = false := beq_eq_false_iff_ne.2 (by omega)
 have t_10 : (vk == 10) = false := beq_eq_false_iff_ne.2 (by omega)
 clear hL hHd hkB hXW hX1 hS ho hvk hk hp hpt hHW hF
 unfold pvv tvv
 simp only [sv]
 go_enter Try.func28, Try.ntmps28
 go_wp2_with fail
 go_at_call 49
 refine Calls.mono HC.out ?_
 rintro e w2 ⟨rfl, hx2⟩
 have HX2 : Hid (Ex w w2) := (HXW.out.trans hx2 : Ex w w2)
 clear hx2 HC
 go_wp2_with fail
 go_ret
 exact ⟨rfl, HX2.out⟩
theorem pjd_is (s : St) (hF : StFine s) (fl : Int) : ∀ p, Pd.form p = true → JudgeC s fl p := by
 refine Pd.tree ?_
 intro h l ih hFo
 rw [Pd.form_mk, Bool.and_eq_true, List.all_eq_true] at hFo
 obtain ⟨hp, hFk⟩ := hFo
 have ih' : ∀ k ∈ l, JudgeC s fl k := fun k hk => ih k hk (hFk k hk)
 have hkk := Pd.part_kind hp
 intro v tv w o hL hS ho
 rw [Pu.jd_mk] at ho
 by_cases h1 : h.k = 1
 ·rw [if_pos h1] at ho
  exact pjall_is s fl h l ih' h1 v tv w o hL hS ho
 rw [if_neg h1] at ho
 by_cases h2 : h.k = 2
 ·rw [if_pos h2] at ho
  exact pjany_is s fl h l ih' h2 v tv w o hL hS ho
 rw [if_neg h2] at ho
 by_cases h3 : h.k = 3
 ·rw [if_pos h3] at ho
  obtain ⟨_, hn⟩ := Pd.part_not h3 hp
  obtain ⟨k, rfl⟩ := Pd.one_of hn
  simp only [List.map_cons, List.map_nil, List.headD_cons] at ho
  exact pjnot_is s fl h k (ih' k (by simp)) h3 v tv w o hL hS _ rfl (Pu.jd_range s _ k (hFk k (by simp))).2 ho
 rw [if_neg h3] at ho
 by_cases h7 : h.k = 7
 ·exact pjin_is s hF fl h l hp h7 v tv w o hL hS ho
 by_cases h10 : h.k = 10
 ·exact pjbt_is s hF fl h l hp h10 v tv w o hL hS ho
 exact pjcl_is s hF fl h l hp (by omega) v tv w o hL hS ho
end Go.Proofs.Ytibnhjfeepdddaa
