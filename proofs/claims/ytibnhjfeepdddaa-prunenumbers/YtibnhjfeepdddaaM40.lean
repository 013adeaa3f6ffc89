/-
  The document's own judge.
-/
import Derived.Test.YtibnhjfeepdddaaM31
import Derived.Test.YtibnhjfeepdddaaM39
import Derived.Test.YtibnhjfeepdddaaM24
import Derived.Deep.CutBlock
import Derived.BigQuiet
namespace Go.Proofs.Ytibnhjfeepdddaa
open Go.RowKit
set_option linter.unusedVariables false
set_option linter.unusedSimpArgs false
theorem loadI_stats46 {w9 : World} {g : Nat} {v : TV} (h : TAt w9 g v 46) : (Instr.loadAt 46 (.pointer (some ⟨g, 0, none⟩))).run Try.prog w9 = .ok (tvv v) w9 := by
 obtain ⟨c0, c1, c2, c3, c4⟩ := h.all
 clear h
 simp [go_sem, tvv, sv, c0, c1, c2, c3, c4]
/-- What is asked of a part. -/
def RJudgeC (s : St) (fl : Int) (k : Pr) : Prop := ∀ (v : PV) (tv : TV) (w : World) (o : Nat), Pd.Lay (fun _ => True) k w v → StOk w tv s → Pu.jd s (Pu.fg fl) k = o → Calls Try.prog 31 #[pvv v, tvv tv, .int .i64 fl] w fun e w' => e = .returned (.int .i64 (o : Int)) ∧ Ex w w'
set_option maxHeartbeats 8000000 in
set_option maxRecDepth 100000 in
theorem rjall_is (s : St) (fl : Int) (h : Hd) (l : List Pr) (ih : ∀ k ∈ l, RJudgeC s fl k) (hk : h.k = 1) (v : PV) (tv : TV) (w : World) (o : Nat) (hL : Pd.Lay (fun _ => True) (Pr.mk' h l) w v) (hS : StOk w tv s) (ho : Pu.lo (l.map (Pu.jd s (Pu.fg fl))) = o) :
  Calls Try.prog 31 #[pvv v, tvv tv, .int .i64 fl] w fun e w' => e = .returned (.int .i64 (o : Int)) ∧ Ex w w' := by
 obtain ⟨hHd, hkn, hkB, hkc, hkm, hk0⟩ := hL.head
 obtain ⟨vk, vcol, vn, vm, vs, ⟨sa, sn, sc⟩, ⟨p, n, cap⟩⟩ := v
 obtain ⟨tr, tl, th, ⟨za, zn, zc⟩, ⟨ba, bn, bc'⟩⟩ := tv
 simp only at hkn hkB hkc hkm hk0
 subst hkn
 have hvk : vk = h.k := hHd.1.1
 obtain ⟨W, hW⟩ : ∃ W, (w.alloc (pb ⟨vk, vcol, vn, vm, vs, (sa, sn, sc), (p, l.length, cap)⟩)).alloc (tb ⟨tr, tl, th, (za, zn, zc), (ba, bn, bc')⟩ 46) = W := ⟨_, rfl⟩
 have hX1 : Ex w (w.alloc (pb ⟨vk, vcol, vn, vm, vs, (sa, sn, sc), (p, l.length, cap)⟩)) := (Below.refl _ _).alloc (Nat.le_refl _) _
 have hXW : Ex w W := by rw [← hW]; exact Below.alloc hX1 (by simp) _
 have HXW : Hid (Ex w W) := hXW
 have HP : Hid (PAt W w.heap.size ⟨vk, vcol, vn, vm, vs, (sa, sn, sc), (p, l.length, cap)⟩) := (by rw [← hW]; exact (PAt.new w _).alloc _ : PAt W w.heap.size _)
 have HT : Hid (TAt W (w.heap.size + 1) ⟨tr, tl, th, (za, zn, zc), (ba, bn, bc')⟩ 46) := (by
  have h := TAt.new (w.alloc (pb ⟨vk, vcol, vn, vm, vs, (sa, sn, sc), (p, l.length, cap)⟩)) ⟨tr, tl, th, (za, zn, zc), (ba, bn, bc')⟩ 46
  have hs : (w.alloc (pb ⟨vk, vcol, vn, vm, vs, (sa, sn, sc), (p, l.length, cap)⟩)).heap.size = w.heap.size + 1 := by simp
  rw [hs] at h
  rw [← hW]; exact h : TAt W (w.heap.size + 1) _ 46)
 have HS : Hid (StOk W ⟨tr, tl, th, (za, zn, zc), (ba, bn, bc')⟩ s) := hS.below hXW
 have HL : Hid (Pd.Lay (fun _ => True) (Pr.mk' h l) W ⟨vk, vcol, vn, vm, vs, (sa, sn, sc), (p, l.length, cap)⟩) := Pd.Lay.below _ hL hXW
 obtain ⟨p0, p1, p2, p3, p4, p5, p6⟩ := HP.out.all
 obtain ⟨t0, t1, t2, t3, t4⟩ := HT.out.all
 simp only at p0 p1 p2 p3 p4 p5 p6 t0 t1 t2 t3 t4
 simp only [tb, sv] at hW
 unfold maxLen at hkm
 have HIH : Hid (∀ k ∈ l, RJudgeC s fl k) := ih
 have HO : Hid (Pu.lo (l.map (Pu.jd s (Pu.fg fl))) = o) := ho
 have hv : vk = 1 := by omega
 subst hv
 clear hL hHd hkB hXW hX1 hS ih ho hvk hk
 unfold pvv tvv
 simp only [sv]
 go_enter Try.func31, Try.ntmps31
 go_wp2_with fail
 clear p0 p1 p2 p3 p4 p5 p6 t0 t1 t2 t3 t4 hW
 go_loopw [8, 7] (fun iv ov wr => ∃ (i k : Nat), i ≤ l.length ∧ iv = .int .i64 i ∧ ov = .int .i64 k ∧ Hid (k = Pu.lo ((l.take i).map (Pu.jd s (Pu.fg fl)))) ∧ Hid (Ex W wr)) (fun iv ov wr => l.length - (intOf iv).toNat)
 case atStart => exact ⟨0, 3, by omega, rfl, rfl, (rfl : 3 = Pu.lo ((l.take 0).map (Pu.jd s (Pu.fg fl)))), Ex.refl W⟩
 case round =>
  obtain ⟨i, k, hi, rfl, rfl, HK, HXr⟩ := hrel
  have HPr : Hid (PAt wr w.heap.size ⟨1, vcol, vn, vm, vs, (sa, sn, sc), (p, l.length, cap)⟩) := HP.out.below HXr.out
  obtain ⟨p0, p1, p2, p3, p4, p5, p6⟩ := HPr.out.all
  simp only at p0 p1 p2 p3 p4 p5 p6
  by_cases hlt : i < l.length
  ·have hti : (i : Int) < (l.length : Int) := by omega
   have hLr := Pd.Lay.below _ HL.out HXr.out
   obtain ⟨b, off, x, hpp, hbg, hLk, e0, e1, e2, e3, e4, e5, e6⟩ := hLr.kid hlt
   simp only at hpp
   obtain ⟨c, hc⟩ : ∃ c, l[i] = c := ⟨_, rfl⟩
   rw [hc] at hLk
   obtain ⟨y, hy⟩ : ∃ y, Pu.jd s (Pu.fg fl) c = y := ⟨_, rfl⟩
   have hnx : l.take (i + 1) = l.take i ++ [c] := by rw [List.take_add_one, List.getElem?_eq_getElem hlt, hc]; rfl
   have HNX : Hid ((if y < k then y else k) = Pu.lo ((l.take (i + 1)).map (Pu.jd s (Pu.fg fl)))) := (by rw [hnx, List.map_append, List.map_cons, List.map_nil, Pu.lo_snoc, ← HK.out, hy] : (if y < k then y else k) = _)
   have HY : Hid (Pu.jd s (Pu.fg fl) c = y) := hy
   have HKC : Hid (RJudgeC s fl c) := HIH.out c (by rw [← hc]; exact List.getElem_mem hlt)
   have HLK : Hid (Pd.Lay (fun _ => True) c wr x) := hLk
   have HE : Hid (wr.cell? ⟨b, off + i * 7, none⟩ = some (.int .i64 x.k) ∧ wr.cell? ⟨b, off + i * 7 + 1, none⟩ = some (.string (str x.col)) ∧ wr.cell? ⟨b, off + i * 7 + 2, none⟩ = some (.int .i64 x.n) ∧ wr.cell? ⟨b, off + i * 7 + 3, none⟩ = some (.int .i64 x.m) ∧ wr.cell? ⟨b, off + i * 7 + 4, none⟩ = some (.string (str x.s)) ∧ wr.cell? ⟨b, off + i * 7 + 5, none⟩ = some (sv x.set) ∧ wr.cell? ⟨b, off + i * 7 + 6, none⟩ = some (sv x.kids)) := (⟨e0, e1, e2, e3, e4, e5, e6⟩ : _ ∧ _)
   have HTr : Hid (TAt wr (w.heap.size + 1) ⟨tr, tl, th, (za, zn, zc), (ba, bn, bc')⟩ 46) := HT.out.below HXr.out
   have HSr : Hid (StOk wr ⟨tr, tl, th, (za, zn, zc), (ba, bn, bc')⟩ s) := HS.out.below HXr.out
   subst hpp
   clear hLr hLk hc hbg hy hnx e0 e1 e2 e3 e4 e5 e6
   go_wp2_with fail
   have hre := Ex.refl
   refine Rg.wp_rows [.inl (Value.pointer (some ⟨w.heap.size, 6, none⟩)), .inl (Value.slice (some ⟨b, off, none⟩) l.length cap), .inl (.int .i64 (i : Int)), .inl (Value.pointer (some ⟨b, off + i * 7, none⟩)), .inl (pvv x), .inl (tvv ⟨tr, tl, th, (za, zn, zc), (ba, bn, bc')⟩), .inl (.int .i64 fl), .inl (.int .i64 (y : Int)), .inl (.int .i64 (y : Int))] (Ex wr) Ex 179 (by kernel_rfl) rfl (by kernel_rfl) ?st hre (Ex.drew _) ?goods ?fin
   case st => exact trivial
   case goods =>
    refine Rg.goods_cons (Rg.good_field hre rfl rfl rfl (fun wx hC => by go_simp)) ?_
    refine Rg.goods_cons (Rg.good_load hre rfl rfl rfl (fun wx hC => by have hz := (HPr.out.below hC).all.2.2.2.2.2.2; go_simp)) ?_
    refine Rg.goods_cons (Rg.good_move hre rfl rfl rfl) ?_
    refine Rg.goods_cons (Rg.good_index hre rfl rfl rfl rfl (fun wx hC => by go_simp)) ?_
    refine Rg.goods_cons (Rg.good_load hre rfl rfl rfl (fun wx hC => by obtain ⟨e0, e1, e2, e3, e4, e5, e6⟩ := HE.out; exact loadI_pred (cell_ex e0 hC) (cell_ex e1 hC) (cell_ex e2 hC) (cell_ex e3 hC) (cell_ex e4 hC) (cell_ex e5 hC) (cell_ex e6 hC))) ?_
    refine Rg.goods_cons (Rg.good_load hre rfl rfl rfl (fun wx hC => loadI_stats46 (HTr.out.below hC))) ?_
    refine Rg.goods_cons (Rg.good_move hre rfl rfl rfl) ?_
    refine Rg.goods_cons (Rg.good_call3 Try.func31 (by kernel_rfl) rfl rfl rfl (by rintro v0 v1 v2 wx hC rfl rfl rfl; exact ex_rowP (HKC.out x _ wx y (Pd.Lay.below _ HLK.out hC) (HSr.out.below hC) HY.out) hC)) ?_
    refine Rg.goods_cons (Rg.good_assign hre rfl rfl rfl) ?_
    exact Rg.goods_nil
   case fin =>
    intro wx hx
    simp only [Rg.later, Act.put, List.setIfInBounds_toArray, List.set_cons_succ, List.set_cons_zero]
    have HX2 : Hid (Ex W wx) := (HXr.out.trans hx : Ex W wx)
    clear hx
    by_cases hyk : y < k
    ·have HN2 : Hid (y = Pu.lo ((l.take (i + 1)).map (Pu.jd s (Pu.fg fl)))) := (by rw [← HNX.out, if_pos hyk] : y = _)
     have hyk2 : (y : Int) < (k : Int) := by omega
     have hyk3 : decide ((y : Int) < (k : Int)) = true := decide_eq_true hyk2
     clear hyk
     go_wp2_with fail
     go_roundw
     case rel => exact ⟨i + 1, y, by omega, by go_num, by first | rfl | go_num, HN2, HX2⟩
     case measure => simp [intOf]; omega
    ·have HN2 : Hid (k = Pu.lo ((l.take (i + 1)).map (Pu.jd s (Pu.fg fl)))) := (by rw [← HNX.out, if_neg hyk] : k = _)
     have hyk2 : ¬ (y : Int) < (k : Int) := by omega
     have hyk3 : decide ((y : Int) < (k : Int)) = false := decide_eq_false hyk2
     clear hyk
     go_wp2_with fail
     go_roundw
     case rel => exact ⟨i + 1, k, by omega, by go_num, by first | rfl | go_num, HN2, HX2⟩
     case measure => simp [intOf]; omega
  ·have hti : ¬ (i : Int) < (l.length : Int) := by omega
   have HE : Hid (k = o) := (by rw [← HO.out, HK.out, List.take_of_length_le (by omega)] : k = o)
   go_wp2_with fail
   go_ret
   exact ⟨by rw [HE.out]; rfl, HXW.out.trans HXr.out⟩
set_option maxHeartbeats 8000000 in
set_option maxRecDepth 100000 in
theorem rjany_is (s : St) (fl : Int) (h : Hd) (l : List Pr) (ih : ∀ k ∈ l, RJudgeC s fl k) (hk : h.k = 2) (v : PV) (tv : TV) (w : World) (o : Nat) (hL : Pd.Lay (fun _ => True) (Pr.mk' h l) w v) (hS : StOk w tv s) (ho : Pu.hi (l.map (Pu.jd s (Pu.fg fl))) = o) :
  Calls Try.prog 31 #[pvv v, tvv tv, .int .i64 fl] w fun e w' => e = .returned (.int .i64 (o : Int)) ∧ Ex w w' := by
 obtain ⟨hHd, hkn, hkB, hkc, hkm, hk0⟩ := hL.head
 obtain ⟨vk, vcol, vn, vm, vs, ⟨sa, sn, sc⟩, ⟨p, n, cap⟩⟩ := v
 obtain ⟨tr, tl, th, ⟨za, zn, zc⟩, ⟨ba, bn, bc'⟩⟩ := tv
 simp only at hkn hkB hkc hkm hk0
 subst hkn
 have hvk : vk = h.k := hHd.1.1
 obtain ⟨W, hW⟩ : ∃ W, (w.alloc (pb ⟨vk, vcol, vn, vm, vs, (sa, sn, sc), (p, l.length, cap)⟩)).alloc (tb ⟨tr, tl, th, (za, zn, zc), (ba, bn, bc')⟩ 46) = W := ⟨_, rfl⟩
 have hX1 : Ex w (w.alloc (pb ⟨vk, vcol, vn, vm, vs, (sa, sn, sc), (p, l.length, cap)⟩)) := (Below.refl _ _).alloc (Nat.le_refl _) _
 have hXW : Ex w W := by rw [← hW]; exact Below.alloc hX1 (by simp) _
 have HXW : Hid (Ex w W) := hXW
 have HP : Hid (PAt W w.heap.size ⟨vk, vcol, vn, vm, vs, (sa, sn, sc), (p, l.length, cap)⟩) := (by rw [← hW]; exact (PAt.new w _).alloc _ : PAt W w.heap.size _)
 have HT : Hid (TAt W (w.heap.size + 1) ⟨tr, tl, th, (za, zn, zc), (ba, bn, bc')⟩ 46) := (by
  have h := TAt.new (w.alloc (pb ⟨vk, vcol, vn, vm, vs, (sa, sn, sc), (p, l.length, cap)⟩)) ⟨tr, tl, th, (za, zn, zc), (ba, bn, bc')⟩ 46
  have hs : (w.alloc (pb ⟨vk, vcol, vn, vm, vs, (sa, sn, sc), (p, l.length, cap)⟩)).heap.size = w.heap.size + 1 := by simp
  rw [hs] at h
  rw [← hW]; exact h : TAt W (w.heap.size + 1) _ 46)
 have HS : Hid (StOk W ⟨tr, tl, th, (za, zn, zc), (ba, bn, bc')⟩ s) := hS.below hXW
 have HL : Hid (Pd.Lay (fun _ => True) (Pr.mk' h l) W ⟨vk, vcol, vn, vm, vs, (sa, sn, sc), (p, l.length, cap)⟩) := Pd.Lay.below _ hL hXW
 obtain ⟨p0, p1, p2, p3, p4, p5, p6⟩ := HP.out.all
 obtain ⟨t0, t1, t2, t3, t4⟩ := HT.out.all
 simp only at p0 p1 p2 p3 p4 p5 p6 t0 t1 t2 t3 t4
 simp only [tb, sv] at hW
 unfold maxLen at hkm
 have HIH : Hid (∀ k ∈ l, RJudgeC s fl k) := ih
 have HO : Hid (Pu.hi (l.map (Pu.jd s (Pu.fg fl))) = o) := ho
 have hv : vk = 2 := by omega
 subst hv
 clear hL hHd hkB hXW hX1 hS ih ho hvk hk
 unfold pvv tvv
 simp only [sv]
 go_enter Try.func31, Try.ntmps31
 go_wp2_with fail
 clear p0 p1 p2 p3 p4 p5 p6 t0 t1 t2 t3 t4 hW
 go_loopw [11, 10] (fun iv ov wr => ∃ (i k : Nat), i ≤ l.length ∧ iv = .int .i64 i ∧ ov = .int .i64 k ∧ Hid (k = Pu.hi ((l.take i).map (Pu.jd s (Pu.fg fl)))) ∧ Hid (Ex W wr)) (fun iv ov wr => l.length - (intOf iv).toNat)
 case atStart => exact ⟨0, 1, by omega, rfl, rfl, (rfl : 1 = Pu.hi ((l.take 0).map (Pu.jd s (Pu.fg fl)))), Ex.refl W⟩
 case round =>
  obtain ⟨i, k, hi, rfl, rfl, HK, HXr⟩ := hrel
  have HPr : Hid (PAt wr w.heap.size ⟨2, vcol, vn, vm, vs, (sa, sn, sc), (p, l.length, cap)⟩) := HP.out.below HXr.out
  obtain ⟨p0, p1, p2, p3, p4, p5, p6⟩ := HPr.out.all
  simp only at p0 p1 p2 p3 p4 p5 p6
  by_cases hlt : i < l.length
  ·have hti : (i : Int) < (l.length : Int) := by omega
   have hLr := Pd.Lay.below _ HL.out HXr.out
   obtain ⟨b, off, x, hpp, hbg, hLk, e0, e1, e2, e3, e4, e5, e6⟩ := hLr.kid hlt
   simp only at hpp
   obtain ⟨c, hc⟩ : ∃ c, l[i] = c := ⟨_, rfl⟩
   rw [hc] at hLk
   obtain ⟨y, hy⟩ : ∃ y, Pu.jd s (Pu.fg fl) c = y := ⟨_, rfl⟩
   have hnx : l.take (i + 1) = l.take i ++ [c] := by rw [List.take_add_one, List.getElem?_eq_getElem hlt, hc]; rfl
   have HNX : Hid ((if k < y then y else k) = Pu.hi ((l.take (i + 1)).map (Pu.jd s (Pu.fg fl)))) := (by rw [hnx, List.map_append, List.map_cons, List.map_nil, Pu.hi_snoc, ← HK.out, hy] : (if k < y then y else k) = _)
   have HY : Hid (Pu.jd s (Pu.fg fl) c = y) := hy
   have HKC : Hid (RJudgeC s fl c) := HIH.out c (by rw [← hc]; exact List.getElem_mem hlt)
   have HLK : Hid (Pd.Lay (fun _ => True) c wr x) := hLk
   have HE : Hid (wr.cell? ⟨b, off + i * 7, none⟩ = some (.int .i64 x.k) ∧ wr.cell? ⟨b, off + i * 7 + 1, none⟩ = some (.string (str x.col)) ∧ wr.cell? ⟨b, off + i * 7 + 2, none⟩ = some (.int .i64 x.n) ∧ wr.cell? ⟨b, off + i * 7 + 3, none⟩ = some (.int .i64 x.m) ∧ wr.cell? ⟨b, off + i * 7 + 4, none⟩ = some (.string (str x.s)) ∧ wr.cell? ⟨b, off + i * 7 + 5, none⟩ = some (sv x.set) ∧ wr.cell? ⟨b, off + i * 7 + 6, none⟩ = some (sv x.kids)) := (⟨e0, e1, e2, e3, e4, e5, e6⟩ : _ ∧ _)
   have HTr : Hid (TAt wr (w.heap.size + 1) ⟨tr, tl, th, (za, zn, zc), (ba, bn, bc')⟩ 46) := HT.out.below HXr.out
   have HSr : Hid (StOk wr ⟨tr, tl, th, (za, zn, zc), (ba, bn, bc')⟩ s) := HS.out.below HXr.out
   subst hpp
   clear hLr hLk hc hbg hy hnx e0 e1 e2 e3 e4 e5 e6
   go_wp2_with fail
   have hre := Ex.refl
   refine Rg.wp_rows [.inl (Value.pointer (some ⟨w.heap.size, 6, none⟩)), .inl (Value.slice (some ⟨b, off, none⟩) l.length cap), .inl (.int .i64 (i : Int)), .inl (Value.pointer (some ⟨b, off + i * 7, none⟩)), .inl (pvv x), .inl (tvv ⟨tr, tl, th, (za, zn, zc), (ba, bn, bc')⟩), .inl (.int .i64 fl), .inl (.int .i64 (y : Int)), .inl (.int .i64 (y : Int))] (Ex wr) Ex 179 (by kernel_rfl) rfl (by kernel_rfl) ?st hre (Ex.drew _) ?goods ?fin
   case st => exact trivial
   case goods =>
    refine Rg.goods_cons (Rg.good_field hre rfl rfl rfl (fun wx hC => by go_simp)) ?_
    refine Rg.goods_cons (Rg.good_load hre rfl rfl rfl (fun wx hC => by have hz := (HPr.out.below hC).all.2.2.2.2.2.2; go_simp)) ?_
    refine Rg.goods_cons (Rg.good_move hre rfl rfl rfl) ?_
    refine Rg.goods_cons (Rg.good_index hre rfl rfl rfl rfl (fun wx hC => by go_simp)) ?_
    refine Rg.goods_cons (Rg.good_load hre rfl rfl rfl (fun wx hC => by obtain ⟨e0, e1, e2, e3, e4, e5, e6⟩ := HE.out; exact loadI_pred (cell_ex e0 hC) (cell_ex e1 hC) (cell_ex e2 hC) (cell_ex e3 hC) (cell_ex e4 hC) (cell_ex e5 hC) (cell_ex e6 hC))) ?_
    refine Rg.goods_cons (Rg.good_load hre rfl rfl rfl (fun wx hC => loadI_stats46 (HTr.out.below hC))) ?_
    refine Rg.goods_cons (Rg.good_move hre rfl rfl rfl) ?_
    refine Rg.goods_cons (Rg.good_call3 Try.func31 (by kernel_rfl) rfl rfl rfl (by rintro v0 v1 v2 wx hC rfl rfl rfl; exact ex_rowP (HKC.out x _ wx y (Pd.Lay.below _ HLK.out hC) (HSr.out.below hC) HY.out) hC)) ?_
    refine Rg.goods_cons (Rg.good_assign hre rfl rfl rfl) ?_
    exact Rg.goods_nil
   case fin =>
    intro wx hx
    simp only [Rg.later, Act.put, List.setIfInBounds_toArray, List.set_cons_succ, List.set_cons_zero]
    have HX2 : Hid (Ex W wx) := (HXr.out.trans hx : Ex W wx)
    clear hx
    by_cases hyk : k < y
    ·have HN2 : Hid (y = Pu.hi ((l.take (i + 1)).map (Pu.jd s (Pu.fg fl)))) := (by rw [← HNX.out, if_pos hyk] : y = _)
     have hyk2 : (k : Int) < (y : Int) := by omega
     have hyk3 : decide ((k : Int) < (y : Int)) = true := decide_eq_true hyk2
     clear hyk
     go_wp2_with fail
     go_roundw
     case rel => exact ⟨i + 1, y, by omega, by go_num, by first | rfl | go_num, HN2, HX2⟩
     case measure => simp [intOf]; omega
    ·have HN2 : Hid (k = Pu.hi ((l.take (i + 1)).map (Pu.jd s (Pu.fg fl)))) := (by rw [← HNX.out, if_neg hyk] : k = _)
     have hyk2 : ¬ (k : Int) < (y : Int) := by omega
     have hyk3 : decide ((k : Int) < (y : Int)) = false := decide_eq_false hyk2
     clear hyk
     go_wp2_with fail
     go_roundw
     case rel => exact ⟨i + 1, k, by omega, by go_num, by first | rfl | go_num, HN2, HX2⟩
     case measure => simp [intOf]; omega
  ·have hti : ¬ (i : Int) < (l.length : Int) := by omega
   have HE : Hid (k = o) := (by rw [← HO.out, HK.out, List.take_of_length_le (by omega)] : k = o)
   go_wp2_with fail
   go_ret
   exact ⟨by rw [HE.out]; rfl, HXW.out.trans HXr.out⟩
set_option maxHeartbeats 8000000 in
set_option maxRecDepth 100000 in
theorem rjnot_is (s : St) (fl : Int) (h : Hd) (k : Pr) (ih : RJudgeC s fl k) (hk : h.k = 3) (v : PV) (tv : TV) (w : World) (o : Nat) (hL : Pd.Lay (fun _ => True) (Pr.mk' h [k]) w v) (hS : StOk w tv s) (x : Nat) (hx : Pu.jd s (Pu.fg fl) k = x) (hx3 : x ≤ 3) (ho : 4 - x = o) :
  Calls Try.prog 31 #[pvv v, tvv tv, .int .i64 fl] w fun e w' => e = .returned (.int .i64 (o : Int)) ∧ Ex w w' := by
 obtain ⟨hHd, hkn, hkB, hkc, hkm, hk0⟩ := hL.head
 obtain ⟨vk, vcol, vn, vm, vs, ⟨sa, sn, sc⟩, ⟨p, n, cap⟩⟩ := v
 obtain ⟨tr, tl, th, ⟨za, zn, zc⟩, ⟨ba, bn, bc'⟩⟩ := tv
 simp only at hkn hkB hkc hkm hk0
 subst hkn
 have hvk : vk = h.k := hHd.1.1
 obtain ⟨W, hW⟩ : ∃ W, (w.alloc (pb ⟨vk, vcol, vn, vm, vs, (sa, sn, sc), (p, [k].length, cap)⟩)).alloc (tb ⟨tr, tl, th, (za, zn, zc), (ba, bn, bc')⟩ 46) = W := ⟨_, rfl⟩
 have hX1 : Ex w (w.alloc (pb ⟨vk, vcol, vn, vm, vs, (sa, sn, sc), (p, [k].length, cap)⟩)) := (Below.refl _ _).alloc (Nat.le_refl _) _
 have hXW : Ex w W := by rw [← hW]; exact Below.alloc hX1 (by simp) _
 have HXW : Hid (Ex w W) := hXW
 have HP : Hid (PAt W w.heap.size ⟨vk, vcol, vn, vm, vs, (sa, sn, sc), (p, [k].length, cap)⟩) := (by rw [← hW]; exact (PAt.new w _).alloc _ : PAt W w.heap.size _)
 have HT : Hid (TAt W (w.heap.size + 1) ⟨tr, tl, th, (za, zn, zc), (ba, bn, bc')⟩ 46) := (by
  have h := TAt.new (w.alloc (pb ⟨vk, vcol, vn, vm, vs, (sa, sn, sc), (p, [k].length, cap)⟩)) ⟨tr, tl, th, (za, zn, zc), (ba, bn, bc')⟩ 46
  have hs : (w.alloc (pb ⟨vk, vcol, vn, vm, vs, (sa, sn, sc), (p, [k].length, cap)⟩)).heap.size = w.heap.size + 1 := by simp
  rw [hs] at h
  rw [← hW]; exact h : TAt W (w.heap.size + 1) _ 46)
 have HS : Hid (StOk W ⟨tr, tl, th, (za, zn, zc), (ba, bn, bc')⟩ s) := hS.below hXW
 have HL : Hid (Pd.Lay (fun _ => True) (Pr.mk' h [k]) W ⟨vk, vcol, vn, vm, vs, (sa, sn, sc), (p, [k].length, cap)⟩) := Pd.Lay.below _ hL hXW
 obtain ⟨p0, p1, p2, p3, p4, p5, p6⟩ := HP.out.all
 obtain ⟨t0, t1, t2, t3, t4⟩ := HT.out.all
 simp only at p0 p1 p2 p3 p4 p5 p6 t0 t1 t2 t3 t4
 simp only [tb, sv] at hW
 unfold maxLen at hkm
 have HX : Hid (Pu.jd s (Pu.fg fl) k = x) := hx
 have HKC : Hid (RJudgeC s fl k) := ih
 obtain ⟨bb, off, u, hpp, hbg, hLk, e0, e1, e2, e3, e4, e5, e6⟩ := HL.out.kid (i := 0) (by simp)
 simp only [List.getElem_cons_zero] at hLk
 simp only [Nat.zero_mul, Nat.add_zero] at e0 e1 e2 e3 e4 e5 e6
 simp only at hpp
 have HLK : Hid (Pd.Lay (fun _ => True) k W u) := hLk
 have HE : Hid (W.cell? ⟨bb, off, none⟩ = some (.int .i64 u.k) ∧ W.cell? ⟨bb, off + 1, none⟩ = some (.string (str u.col)) ∧ W.cell? ⟨bb, off + 2, none⟩ = some (.int .i64 u.n) ∧ W.cell? ⟨bb, off + 3, none⟩ = some (.int .i64 u.m) ∧ W.cell? ⟨bb, off + 4, none⟩ = some (.string (str u.s)) ∧ W.cell? ⟨bb, off + 5, none⟩ = some (sv u.set) ∧ W.cell? ⟨bb, off + 6, none⟩ = some (sv u.kids)) := (⟨e0, e1, e2, e3, e4, e5, e6⟩ : _ ∧ _)
 have HO : Hid (4 - x = o ∧ x ≤ 3) := (⟨ho, hx3⟩ : 4 - x = o ∧ x ≤ 3)
 have hv : vk = 3 := by omega
 subst hv
 subst hpp
 simp only [List.length_cons, List.length_nil, Nat.zero_add] at *
 clear hL hHd hkB hXW hX1 hS ih ho hvk hk hx hx3 hLk hbg e0 e1 e2 e3 e4 e5 e6
 unfold pvv tvv
 simp only [sv]
 go_enter Try.func31, Try.ntmps31
 go_wp2_with fail
 have hre := Ex.refl
 refine Rg.wp_rows [.inl (Value.pointer (some ⟨w.heap.size, 6, none⟩)), .inl (Value.slice (some ⟨bb, off, none⟩) 1 cap), .inl (Value.pointer (some ⟨bb, off, none⟩)), .inl (pvv u), .inl (tvv ⟨tr, tl, th, (za, zn, zc), (ba, bn, bc')⟩), .inl (.int .i64 fl), .inl (.int .i64 (x : Int)), .inl (.int .i64 (o : Int)), .inl (.int .i64 (o : Int))] (Ex W) Ex 179 (by kernel_rfl) rfl (by kernel_rfl) ?st hre (Ex.drew _) ?goods ?fin
 case st => exact trivial
 case goods =>
  refine Rg.goods_cons (Rg.good_field hre rfl rfl rfl (fun wx hC => by go_simp)) ?_
  refine Rg.goods_cons (Rg.good_load hre rfl rfl rfl (fun wx hC => by have hz := (HP.out.below hC).all.2.2.2.2.2.2; go_simp)) ?_
  refine Rg.goods_cons (Rg.good_index hre rfl rfl rfl rfl (fun wx hC => by go_simp)) ?_
  refine Rg.goods_cons (Rg.good_load hre rfl rfl rfl (fun wx hC => by obtain ⟨e0, e1, e2, e3, e4, e5, e6⟩ := HE.out; exact loadI_pred (cell_ex e0 hC) (cell_ex e1 hC) (cell_ex e2 hC) (cell_ex e3 hC) (cell_ex e4 hC) (cell_ex e5 hC) (cell_ex e6 hC))) ?_
  refine Rg.goods_cons (Rg.good_load hre rfl rfl rfl (fun wx hC => loadI_stats46 (HT.out.below hC))) ?_
  refine Rg.goods_cons (Rg.good_move hre rfl rfl rfl) ?_
  refine Rg.goods_cons (Rg.good_call3 Try.func31 (by kernel_rfl) rfl rfl rfl (by rintro v0 v1 v2 wx hC rfl rfl rfl; exact ex_rowP (HKC.out u _ wx x (Pd.Lay.below _ HLK.out hC) (HS.out.below hC) HX.out) hC)) ?_
  refine Rg.goods_cons (Rg.good_bin hre rfl rfl rfl rfl (fun _ => rfl) (fun w => by have h := HO.out; simp [go_sem]; rw [IntKind.wrap_i64]; omega)) ?_
  refine Rg.goods_cons (Rg.good_assign hre rfl rfl rfl) ?_
  exact Rg.goods_nil
 case fin =>
  intro wx hx
  simp only [Rg.later, Act.put, List.setIfInBounds_toArray, List.set_cons_succ, List.set_cons_zero]
  have HX9 : Hid (Ex w wx) := (HXW.out.trans hx : Ex w wx)
  clear hx
  go_wp2_with fail
  go_ret
  exact ⟨rfl, HX9.out⟩
set_option maxHeartbeats 8000000 in
set_option maxRecDepth 100000 in
theorem rjbt_is (s : St) (fl : Int) (h : Hd) (l : List Pr) (hk : h.k = 10) (v : PV) (tv : TV) (w : World) (o : Nat) (hL : Pd.Lay (fun _ => True) (Pr.mk' h l) w v) (hS : StOk w tv s) (ho : Pu.leafJ s (Pu.fg fl) h = o) :
  Calls Try.prog 31 #[pvv v, tvv tv, .int .i64 fl] w fun e w' => e = .returned (.int .i64 (o : Int)) ∧ Ex w w' := by
 obtain ⟨hHd, hkn, hkB, hkc, hkm, hk0⟩ := hL.head
 obtain ⟨vk, vcol, vn, vm, vs, ⟨sa, sn, sc⟩, ⟨p, n, cap⟩⟩ := v
 obtain ⟨tr, tl, th, ⟨za, zn, zc⟩, ⟨ba, bn, bc'⟩⟩ := tv
 simp only at hkn hkB hkc hkm hk0
 subst hkn
 have hvk : vk = h.k := hHd.1.1
 obtain ⟨W, hW⟩ : ∃ W, (w.alloc (pb ⟨vk, vcol, vn, vm, vs, (sa, sn, sc), (p, l.length, cap)⟩)).alloc (tb ⟨tr, tl, th, (za, zn, zc), (ba, bn, bc')⟩ 46) = W := ⟨_, rfl⟩
 have hX1 : Ex w (w.alloc (pb ⟨vk, vcol, vn, vm, vs, (sa, sn, sc), (p, l.length, cap)⟩)) := (Below.refl _ _).alloc (Nat.le_refl _) _
 have hXW : Ex w W := by rw [← hW]; exact Below.alloc hX1 (by simp) _
 have HXW : Hid (Ex w W) := hXW
 have HP : Hid (PAt W w.heap.size ⟨vk, vcol, vn, vm, vs, (sa, sn, sc), (p, l.length, cap)⟩) := (by rw [← hW]; exact (PAt.new w _).alloc _ : PAt W w.heap.size _)
 have HT : Hid (TAt W (w.heap.size + 1) ⟨tr, tl, th, (za, zn, zc), (ba, bn, bc')⟩ 46) := (by
  have h := TAt.new (w.alloc (pb ⟨vk, vcol, vn, vm, vs, (sa, sn, sc), (p, l.length, cap)⟩)) ⟨tr, tl, th, (za, zn, zc), (ba, bn, bc')⟩ 46
  have hs : (w.alloc (pb ⟨vk, vcol, vn, vm, vs, (sa, sn, sc), (p, l.length, cap)⟩)).heap.size = w.heap.size + 1 := by simp
  rw [hs] at h
  rw [← hW]; exact h : TAt W (w.heap.size + 1) _ 46)
 have HS : Hid (StOk W ⟨tr, tl, th, (za, zn, zc), (ba, bn, bc')⟩ s) := hS.below hXW
 have HL : Hid (Pd.Lay (fun _ => True) (Pr.mk' h l) W ⟨vk, vcol, vn, vm, vs, (sa, sn, sc), (p, l.length, cap)⟩) := Pd.Lay.below _ hL hXW
 obtain ⟨p0, p1, p2, p3, p4, p5, p6⟩ := HP.out.all
 obtain ⟨t0, t1, t2, t3, t4⟩ := HT.out.all
 simp only at p0 p1 p2 p3 p4 p5 p6 t0 t1 t2 t3 t4
 simp only [tb, sv] at hW
 unfold maxLen at hkm
 obtain ⟨b, hb⟩ : ∃ b, (bits .and .i64 fl 4 == 0) = b := ⟨_, rfl⟩
 have htk : (Pu.fg fl).tk = !b := by rw [← hb]; rfl
 have HO : Hid ((if (!b) = false then 2 else if vm < vn ∨ th < vn ∨ vm < tl then 1 else if vn ≤ tl ∧ th ≤ vm then 3 else 2) = o) := (by
  rw [← ho, Pu.leaf_bt s _ h hk, htk]
  have e1 : vn = h.n := hHd.1.2.2.1
  have e2 : vm = h.m := hHd.1.2.2.2.1
  have e3 : tl = s.lo := hS.1.2.1
  have e4 : th = s.hi := hS.1.2.2
  simp only [e1, e2, e3, e4] : (if (!b) = false then 2 else if vm < vn ∨ th < vn ∨ vm < tl then 1 else if vn ≤ tl ∧ th ≤ vm then 3 else 2) = o)
 have hv : vk = 10 := by omega
 subst hv
 obtain ⟨x1, hx1⟩ : ∃ x, decide (vm < vn) = x := ⟨_, rfl⟩
 obtain ⟨x2, hx2⟩ : ∃ x, decide (th < vn) = x := ⟨_, rfl⟩
 obtain ⟨x3, hx3⟩ : ∃ x, decide (vm < tl) = x := ⟨_, rfl⟩
 obtain ⟨x4, hx4⟩ : ∃ x, decide (vn ≤ tl) = x := ⟨_, rfl⟩
 obtain ⟨x5, hx5⟩ : ∃ x, decide (th ≤ vm) = x := ⟨_, rfl⟩
 have HO2 : Hid ((if b = true then 2 else if (x1 || x2 || x3) = true then 1 else if (x4 && x5) = true then 3 else 2) = o) := (by
  rw [← HO.out, ← hx1, ← hx2, ← hx3, ← hx4, ← hx5]
  cases b <;> simp [or_assoc] : _ = o)
 clear hL hHd hkB hXW hX1 hS ho hvk hk htk HO
 unfold pvv tvv
 simp only [sv]
 go_enter Try.func31, Try.ntmps31
 cases b with
 | true =>
  go_wp2_with fail
  go_ret
  exact ⟨by rw [← HO2.out]; rfl, HXW.out⟩
 | false =>
  cases x1 with
  | true =>
   go_wp2_with fail
   go_ret
   exact ⟨by rw [← HO2.out]; rfl, HXW.out⟩
  | false =>
   cases x2 with
   | true =>
    go_wp2_with fail
    go_ret
    exact ⟨by rw [← HO2.out]; rfl, HXW.out⟩
   | false =>
    cases x3 with
    | true =>
     go_wp2_with fail
     go_ret
     exact ⟨by rw [← HO2.out]; rfl, HXW.out⟩
    | false =>
     cases x4 with
     | false =>
      go_wp2_with fail
      go_ret
      exact ⟨by rw [← HO2.out]; rfl, HXW.out⟩
     | true =>
      cases x5 <;> (go_wp2_with fail; go_ret; exact ⟨by rw [← HO2.out]; rfl, HXW.out⟩)
set_option maxHeartbeats 8000000 in
set_option maxRecDepth 100000 in
theorem rjc_is (v : PV) (tv : TV) (s : St) (fl : Int) (w : World) (hS : StOk w tv s) (hF : StFine s) (hvs : v.s.length ≤ maxLen) (hk : v.k = 4 ∨ v.k = 5 ∨ v.k = 6 ∨ v.k = 8 ∨ v.k = 9) (o : Nat) (ho : Pu.colJ s (Pu.fg fl) v.k v.n v.col v.s = o) :
  Calls Try.prog 31 #[pvv v, tvv tv, .int .i64 fl] w fun e w' => e = .returned (.int .i64 (o : Int)) ∧ Ex w w' := by
 obtain ⟨vk, vcol, vn, vm, vs, ⟨sa, sn, sc⟩, ⟨ka, kn, kc⟩⟩ := v
 obtain ⟨tr, tl, th, ⟨za, zn, zc⟩, ⟨ba, bn, bc'⟩⟩ := tv
 simp only at ho hvs hk
 have hbn : bn = s.bs.length := hS.2.2.1
 subst hbn
 obtain ⟨hbb1, hbb2⟩ := hS.2.2.2.bounds
 simp only at hbb1 hbb2
 unfold maxLen at hbb2
 obtain ⟨b2, hb2⟩ : ∃ b, (bits .and .i64 fl 2 == 0) = b := ⟨_, rfl⟩
 obtain ⟨b1, hb1⟩ : ∃ b, (bits .and .i64 fl 1 == 0) = b := ⟨_, rfl⟩
 obtain ⟨M, hM⟩ : ∃ m, Pu.mayL s.bs vcol vs = m := ⟨_, rfl⟩
 obtain ⟨z, hz⟩ : ∃ z, Pu.zoneOf s vcol = z := ⟨_, rfl⟩
 obtain ⟨q, hq⟩ : ∃ q, (if (!b1) = true then Pu.zn vk vn vs z else 2) = q := ⟨_, rfl⟩
 have ho2 : (if (!b2 && decide (vk = 6) && !M) = true then 1 else q) = o := by
  rw [← ho, ← hq, ← hb2, ← hb1, ← hM, ← hz]; rfl
 have hzf := Pu.zone_fine hF vcol
 rw [hz] at hzf
 have HZF : Hid (z.ms.length ≤ maxLen ∧ z.xs.length ≤ maxLen) := hzf
 have HVS : Hid (vs.length ≤ maxLen) := hvs
 have HM : Hid (Pu.mayL s.bs vcol vs = M) := hM
 have HZ : Hid (Pu.zoneOf s vcol = z) := hz
 have HF : Hid (StFine s) := hF
 obtain ⟨W, hW⟩ : ∃ W, (w.alloc (pb ⟨vk, vcol, vn, vm, vs, (sa, sn, sc), (ka, kn, kc)⟩)).alloc (tb ⟨tr, tl, th, (za, zn, zc), (ba, s.bs.length, bc')⟩ 46) = W := ⟨_, rfl⟩
 have hX1 : Ex w (w.alloc (pb ⟨vk, vcol, vn, vm, vs, (sa, sn, sc), (ka, kn, kc)⟩)) := (Below.refl _ _).alloc (Nat.le_refl _) _
 have HXW : Hid (Ex w W) := (by rw [← hW]; exact Below.alloc hX1 (by simp) _ : Ex w W)
 have HP : Hid (PAt W w.heap.size ⟨vk, vcol, vn, vm, vs, (sa, sn, sc), (ka, kn, kc)⟩) := (by rw [← hW]; exact (PAt.new w _).alloc _ : PAt W w.heap.size _)
 have HT : Hid (TAt W (w.heap.size + 1) ⟨tr, tl, th, (za, zn, zc), (ba, s.bs.length, bc')⟩ 46) := (by
  have h := TAt.new (w.alloc (pb ⟨vk, vcol, vn, vm, vs, (sa, sn, sc), (ka, kn, kc)⟩)) ⟨tr, tl, th, (za, zn, zc), (ba, s.bs.length, bc')⟩ 46
  have hs : (w.alloc (pb ⟨vk, vcol, vn, vm, vs, (sa, sn, sc), (ka, kn, kc)⟩)).heap.size = w.heap.size + 1 := by simp
  rw [hs] at h
  rw [← hW]; exact h : TAt W (w.heap.size + 1) _ 46)
 have HS : Hid (StOk W ⟨tr, tl, th, (za, zn, zc), (ba, s.bs.length, bc')⟩ s) := hS.below HXW.out
 obtain ⟨p0, p1, p2, p3, p4, p5, p6⟩ := HP.out.all
 obtain ⟨t0, t1, t2, t3, t4⟩ := HT.out.all
 simp only at p0 p1 p2 p3 p4 p5 p6 t0 t1 t2 t3 t4
 simp only [tb, sv] at hW
 have HO : Hid ((if (!b2 && decide (vk = 6) && !M) = true then 1 else q) = o) := ho2
 have HQ0 : Hid ((if (!b1) = true then Pu.zn vk vn vs z else 2) = q) := hq
 have hb2' : (bits .and .i64 fl 2 != 0) = !b2 := by rw [← hb2]; rfl
 have hb1' : (bits .and .i64 fl 1 != 0) = !b1 := by rw [← hb1]; rfl
 have t_1 : (vk == 1) = false := beq_eq_false_iff_ne.2 (by omega)
 have t_2 : (vk == 2) = false := beq_eq_false_iff_ne.2 (by omega)
 have t_3 : (vk == 3) = false := beq_eq_false_iff_ne.2 (by omega)
 have t_7 : (vk == 7) = false := beq_eq_false_iff_ne.2 (by omega)
 have t_10 : (vk == 10) = false := beq_eq_false_iff_ne.2 (by omega)
 obtain ⟨k6, hk6⟩ : ∃ b, (vk == 6) = b := ⟨_, rfl⟩
 have HK6 : Hid (decide (vk = 6) = k6) := (by rw [← hk6]; by_cases h : vk = 6 <;> simp [h] : decide (vk = 6) = k6)
 clear ho ho2 hX1 hS hF hvs hk hM hz hzf hb1 hb2 hq
 unfold pvv tvv
 simp only [sv]
 go_enter Try.func31, Try.ntmps31
 go_upto_if 137 with fail
 go_cut [16] (fun a wc => a = .int .i64 (q : Int) ∧ Hid (Ex W wc))
 case first =>
  cases b1 with
  | true =>
   go_wp2_with fail
   go_meet
   exact ⟨by rw [← HQ0.out]; rfl, Ex.refl W⟩
  | false =>
   have HQ : Hid (Pu.zn vk vn vs z = q) := HQ0.out
   go_wp2_with fail
   have hre := Ex.refl
   refine Rg.wp_rows [.inl (pvv ⟨vk, vcol, vn, vm, vs, (sa, sn, sc), (ka, kn, kc)⟩), .inl (tvv ⟨tr, tl, th, (za, zn, zc), (ba, s.bs.length, bc')⟩), .inl (Value.pointer (some ⟨w.heap.size, 1, none⟩)), .inl (.string (str vcol)), .inl (zv z), .inl (.int .i64 (q : Int)), .inl (.int .i64 (q : Int))] (Ex W) Ex 179 (by kernel_rfl) rfl (by kernel_rfl) ?st hre (Ex.drew _) ?goods ?fin
   case st => exact trivial
   case goods =>
    refine Rg.goods_cons (Rg.good_load hre rfl rfl rfl (fun wx hC => (HP.out.below hC).loadI)) ?_
    refine Rg.goods_cons (Rg.good_load hre rfl rfl rfl (fun wx hC => loadI_stats46 (HT.out.below hC))) ?_
    refine Rg.goods_cons (Rg.good_field hre rfl rfl rfl (fun wx hC => by go_simp)) ?_
    refine Rg.goods_cons (Rg.good_load hre rfl rfl rfl (fun wx hC => by have hz := (HP.out.below hC).all.2.1; go_simp)) ?_
    refine Rg.goods_cons (Rg.good_call2 Try.func55 (by kernel_rfl) rfl rfl rfl (by rintro v0 v1 wx hC rfl rfl; exact ex_rowP (rzone_is _ s vcol wx (HS.out.below hC) z HZ.out) hC)) ?_
    refine Rg.goods_cons (Rg.good_call2 Try.func54 (by kernel_rfl) rfl rfl rfl (by rintro v0 v1 wx hC rfl rfl; exact ex_rowP (rby_is _ z wx HVS.out HZF.out.1 HZF.out.2 q HQ.out) hC)) ?_
    refine Rg.goods_cons (Rg.good_assign hre rfl rfl rfl) ?_
    exact Rg.goods_nil
   case fin =>
    intro wx hx
    simp only [Rg.later, Act.put, List.setIfInBounds_toArray, List.set_cons_succ, List.set_cons_zero]
    have HX9 : Hid (Ex W wx) := hx
    clear hx
    go_wp2_with fail
    go_meet
    exact ⟨rfl, HX9⟩
 case rest =>
  obtain ⟨rfl, HXc⟩ := hcut
  have HXw : Hid (Ex w wc) := (HXW.out.trans HXc.out : Ex w wc)
  have HPc : Hid (PAt wc w.heap.size ⟨vk, vcol, vn, vm, vs, (sa, sn, sc), (ka, kn, kc)⟩) := HP.out.below HXc.out
  have HTc : Hid (TAt wc (w.heap.size + 1) ⟨tr, tl, th, (za, zn, zc), (ba, s.bs.length, bc')⟩ 46) := HT.out.below HXc.out
  have HSc : Hid (RdF wc ba bc' s.bs) := (HS.out.below HXc.out).2.2.2
  clear p0 p1 p2 p3 p4 p5 p6 t0 t1 t2 t3 t4 hW HS HT HP HQ0
  obtain ⟨p0, p1, p2, p3, p4, p5, p6⟩ := HPc.out.all
  simp only at p0 p1 p2 p3 p4 p5 p6
  cases k6 with
  | false =>
   have HO2 : Hid (q = o) := (by rw [← HO.out, HK6.out]; cases b2 <;> rfl : q = o)
   go_wp2_with fail
   go_ret
   exact ⟨by rw [HO2.out]; rfl, HXw.out⟩
  | true =>
   cases b2 with
   | true =>
    have HO2 : Hid (q = o) := (by rw [← HO.out]; rfl : q = o)
    go_wp2_with fail
    go_ret
    exact ⟨by rw [HO2.out]; rfl, HXw.out⟩
   | false =>
    have HO2 : Hid ((if M = false then 1 else q) = o) := (by rw [← HO.out, HK6.out]; cases M <;> rfl : (if M = false then 1 else q) = o)
    have zs := str_toList vcol
    clear HO HK6
    go_wp2_with fail
    clear p0 p1 p2 p3 p4 p5 p6
    go_loopw [17] (fun iv wr => ∃ i : Nat, i ≤ s.bs.length ∧ iv = .int .i64 i ∧ Hid (∀ d ∈ s.bs.take i, d.1 ≠ vcol) ∧ Hid (Ex wc wr)) (fun iv wr => s.bs.length - (intOf iv).toNat)
    case atStart => exact ⟨0, by omega, rfl, (by simp : ∀ d ∈ s.bs.take 0, d.1 ≠ vcol), Ex.refl wc⟩
    case round =>
     obtain ⟨i, hi, rfl, HN, HXr⟩ := hrel
     have HPr : Hid (PAt wr w.heap.size ⟨vk, vcol, vn, vm, vs, (sa, sn, sc), (ka, kn, kc)⟩) := HPc.out.below HXr.out
     have HTr : Hid (TAt wr (w.heap.size + 1) ⟨tr, tl, th, (za, zn, zc), (ba, s.bs.length, bc')⟩ 46) := HTc.out.below HXr.out
     obtain ⟨p0, p1, p2, p3, p4, p5, p6⟩ := HPr.out.all
     obtain ⟨t0, t1, t2, t3, t4⟩ := HTr.out.all
     simp only at p0 p1 p2 p3 p4 p5 p6 t0 t1 t2 t3 t4
     by_cases hlt : i < s.bs.length
     ·have hti : (i : Int) < (s.bs.length : Int) := by omega
      obtain ⟨b, off, pp, cp, rfl, e0, e1, e2, hP⟩ := RdF.three (HSc.out.below HXr.out) hlt
      have hfi := HF.out.bs s.bs[i] (List.getElem_mem hlt)
      obtain ⟨⟨dn, dk, dB⟩, hd⟩ : ∃ d, s.bs[i] = d := ⟨_, rfl⟩
      rw [hd] at e0 e1 e2 hP hfi
      simp only at e0 e1 e2 hP hfi
      have HFI : Hid (dn.length ≤ maxLen ∧ dB.length ≤ 281474976710656 ∧ In64 dk) := hfi
      have hsp : s.bs = s.bs.take i ++ (dn, dk, dB) :: s.bs.drop (i + 1) := by rw [← hd, ← List.drop_eq_getElem_cons hlt, List.take_append_drop]
      have HSP : Hid (s.bs = s.bs.take i ++ (dn, dk, dB) :: s.bs.drop (i + 1)) := hsp
      have hnx : s.bs.take (i + 1) = s.bs.take i ++ [(dn, dk, dB)] := by rw [List.take_add_one, List.getElem?_eq_getElem hlt, hd]; rfl
      have HNX : Hid (s.bs.take (i + 1) = s.bs.take i ++ [(dn, dk, dB)]) := hnx
      have zd := str_toList dn
      have HPB : Hid (Byt wr pp cp dB) := hP
      have HEr : Hid (wr.cell? ⟨b, off + i * 3, none⟩ = some (.string (str dn)) ∧ wr.cell? ⟨b, off + i * 3 + 1, none⟩ = some (.int .i64 dk) ∧ wr.cell? ⟨b, off + i * 3 + 2, none⟩ = some (.slice pp dB.length cp)) := (⟨e0, e1, e2⟩ : _ ∧ _)
      clear hd hsp hnx hfi hP
      obtain ⟨td, htd⟩ : ∃ td, (dn == vcol) = td := ⟨_, rfl⟩
      have HTD : Hid ((dn == vcol) = td) := htd
      go_wp2_with fail
      go_quiet (fail)
      clear p0 p1 p2 p3 p4 p5 p6 t0 t1 t2 t3 t4 e0 e1 e2
      obtain ⟨wq, hwq⟩ : ∃ wq, wq = wr.drewN nq := ⟨_, rfl⟩
      have hxq : Ex wr wq := by rw [hwq]; exact Ex.drewN _ _
      have HXq : Hid (Ex wr wq) := hxq
      rw [← hwq]
      clear hwq hxq
      cases td with
      | true =>
       obtain ⟨m, hm⟩ : ∃ m, Fl.may dk dB vs = m := ⟨_, rfl⟩
       have HMM : Hid (Fl.may dk dB vs = m) := hm
       have HO3 : Hid ((if m = false then 1 else q) = o) := (by rw [← HO2.out, ← HM.out, ← hm]; rw [Pu.mayL_at HSP.out HN.out (by simpa using HTD.out)] : (if m = false then 1 else q) = o)
       have HPq : Hid (PAt wq w.heap.size ⟨vk, vcol, vn, vm, vs, (sa, sn, sc), (ka, kn, kc)⟩) := HPr.out.below HXq.out
       have HTq : Hid (TAt wq (w.heap.size + 1) ⟨tr, tl, th, (za, zn, zc), (some ⟨b, off, none⟩, s.bs.length, bc')⟩ 46) := HTr.out.below HXq.out
       have HPb : Hid (Byt wq pp cp dB) := HPB.out.below HXq.out
       have HE : Hid (wq.cell? ⟨b, off + i * 3, none⟩ = some (.string (str dn)) ∧ wq.cell? ⟨b, off + i * 3 + 1, none⟩ = some (.int .i64 dk) ∧ wq.cell? ⟨b, off + i * 3 + 2, none⟩ = some (.slice pp dB.length cp)) := (⟨cell_ex HEr.out.1 HXq.out, cell_ex HEr.out.2.1 HXq.out, cell_ex HEr.out.2.2 HXq.out⟩ : _ ∧ _)
       clear hm htd
       go_wp2_with fail
       have hre := Ex.refl
       refine Rg.wp_rows [.inl (Value.pointer (some ⟨w.heap.size + 1, 4, none⟩)), .inl (Value.slice (some ⟨b, off, none⟩) s.bs.length bc'), .inl (.int .i64 (i : Int)), .inl (Value.pointer (some ⟨b, off + i * 3, none⟩)), .inl (Value.pointer (some ⟨b, off + i * 3 + 1, none⟩)), .inl (fv dk (.slice pp dB.length cp)), .inl (Value.pointer (some ⟨w.heap.size, 4, none⟩)), .inl (.string (str vs)), .inl (.bool m), .inl (.bool (!m))] (Ex wq) Ex 179 (by kernel_rfl) rfl (by kernel_rfl) ?st hre (Ex.drew _) ?goods ?fin
       case st => exact trivial
       case goods =>
        refine Rg.goods_cons (Rg.good_field hre rfl rfl rfl (fun wx hC => by go_simp)) ?_
        refine Rg.goods_cons (Rg.good_load hre rfl rfl rfl (fun wx hC => by have hz := (HTq.out.below hC).all.2.2.2.2; go_simp)) ?_
        refine Rg.goods_cons (Rg.good_move hre rfl rfl rfl) ?_
        refine Rg.goods_cons (Rg.good_index hre rfl rfl rfl rfl (fun wx hC => by go_simp)) ?_
        refine Rg.goods_cons (Rg.good_field hre rfl rfl rfl (fun wx hC => by go_simp)) ?_
        refine Rg.goods_cons (Rg.good_load hre rfl rfl rfl (fun wx hC => by have h1 := cell_ex HE.out.2.1 hC; have h2 := cell_ex HE.out.2.2 hC; simp [go_sem, fv, h1, h2])) ?_
        refine Rg.goods_cons (Rg.good_field hre rfl rfl rfl (fun wx hC => by go_simp)) ?_
        refine Rg.goods_cons (Rg.good_load hre rfl rfl rfl (fun wx hC => by have hz := (HPq.out.below hC).all.2.2.2.2.1; go_simp)) ?_
        refine Rg.goods_cons (Rg.good_call2 Try.func56 (by kernel_rfl) rfl rfl rfl (by rintro v0 v1 wx hC rfl rfl; exact ex_rowP (rmay_is dk pp _ cp dB vs wx rfl (HPb.out.below hC) HFI.out.2.1 (by have h := HVS.out; unfold maxLen at h; omega) m HMM.out) hC)) ?_
        refine Rg.goods_cons (Rg.good_un hre rfl rfl rfl (fun w => by go_simp)) ?_
        exact Rg.goods_nil
       case fin =>
        intro wx hx
        simp only [Rg.later, Act.put, List.setIfInBounds_toArray, List.set_cons_succ, List.set_cons_zero]
        have HX9 : Hid (Ex w wx) := ((HXw.out.trans HXr.out).trans (HXq.out.trans hx) : Ex w wx)
        clear hx
        cases m with
        | true =>
         go_wp2_with fail
         go_ret
         exact ⟨by rw [← HO3.out]; rfl, HX9.out⟩
        | false =>
         go_wp2_with fail
         go_ret
         exact ⟨by rw [← HO3.out]; rfl, HX9.out⟩
      | false =>
       have HN2 : Hid (∀ e ∈ s.bs.take (i + 1), e.1 ≠ vcol) := (by
        intro e he
        rw [HNX.out] at he
        rcases List.mem_append.1 he with h | h
        ·exact HN.out e h
        ·rw [List.mem_singleton] at h; subst h; simpa using HTD.out : ∀ e ∈ s.bs.take (i + 1), e.1 ≠ vcol)
       have HX9 : Hid (Ex wc wq) := (HXr.out.trans HXq.out : Ex wc wq)
       clear htd
       go_wp2_with fail
       go_roundw
       case rel => exact ⟨i + 1, by omega, by go_num, HN2, HX9⟩
       case measure => simp [intOf]; omega
     ·have hti : ¬ (i : Int) < (s.bs.length : Int) := by omega
      have HE : Hid (q = o) := (by rw [← HO2.out, ← HM.out, Pu.mayL_out (by have h := HN.out; rw [List.take_of_length_le (by omega)] at h; exact h)]; rfl : q = o)
      go_wp2_with fail
      go_ret
      exact ⟨by rw [HE.out]; rfl, HXw.out.trans HXr.out⟩
theorem good_bis {ops : Array Oper} {specs : List Rg.Spec} {a0 : Act} {w1 : World} {o : Oper} {x y : Operand} {c t : List UInt8} (ho : o.op = .build 40 #[(0, .const (.int .i64 6)), (1, x), (4, y)]) (hg : Rg.guardV ops specs a0 o = some true) (hx : Rg.argS ops specs a0 x = .inl (.string (str c))) (hy : Rg.argS ops specs a0 y = .inl (.string (str t))) :
  Rg.GoodOp Try.prog ops specs a0 (Ex w1) Ex o (.inl (pvv ⟨6, c, 0, 0, t, (none, 0, 0), (none, 0, 0)⟩)) :=
 Rg.good_val Ex.refl hg fun a w hC hh => by
  have h1 := hh x (by rw [ho]; simp [Op.operands])
  have h2 := hh y (by rw [ho]; simp [Op.operands])
  rw [hx] at h1
  rw [hy] at h2
  simp only [Rg.Spec.ok] at h1 h2
  refine ⟨_, ?_, rfl⟩
  obtain ⟨ρ, hρ⟩ : ∃ ρ, a.eval = ρ := ⟨_, rfl⟩
  have h0 : ρ (.const (.int .i64 6)) = .int .i64 6 := by rw [← hρ]; rfl
  rw [hρ] at h1 h2 ⊢
  simp [execOp, ho, h0, h1, h2, go_sem, pvv, sv]
set_option maxHeartbeats 8000000 in
set_option maxRecDepth 100000 in
theorem rjin_is (s : St) (hF : StFine s) (fl : Int) (h : Hd) (l : List Pr) (hp : Pd.part h l.length = true) (hk : h.k = 7) (v : PV) (tv : TV) (w : World) (o : Nat) (hL : Pd.Lay (fun _ => True) (Pr.mk' h l) w v) (hS : StOk w tv s) (ho : Pu.leafJ s (Pu.fg fl) h = o) :
  Calls Try.prog 31 #[pvv v, tvv tv, .int .i64 fl] w fun e w' => e = .returned (.int .i64 (o : Int)) ∧ Ex w w' := by
 have hpt := part_texts hp
 obtain ⟨hHd, hkn, hkB, hkc, hkm, hk0⟩ := hL.head
 obtain ⟨vk, vcol, vn, vm, vs, ⟨sa, sn, sc⟩, ⟨p, n, cap⟩⟩ := v
 obtain ⟨tr, tl, th, ⟨za, zn, zc⟩, ⟨ba, bn, bc'⟩⟩ := tv
 simp only at hkn hkB hkc hkm hk0
 subst hkn
 have hvk : vk = h.k := hHd.1.1
 obtain ⟨W, hW⟩ : ∃ W, (w.alloc (pb ⟨vk, vcol, vn, vm, vs, (sa, sn, sc), (p, l.length, cap)⟩)).alloc (tb ⟨tr, tl, th, (za, zn, zc), (ba, bn, bc')⟩ 46) = W := ⟨_, rfl⟩
 have hX1 : Ex w (w.alloc (pb ⟨vk, vcol, vn, vm, vs, (sa, sn, sc), (p, l.length, cap)⟩)) := (Below.refl _ _).alloc (Nat.le_refl _) _
 have hXW : Ex w W := by rw [← hW]; exact Below.alloc hX1 (by simp) _
 have HXW : Hid (Ex w W) := hXW
 have HP : Hid (PAt W w.heap.size ⟨vk, vcol, vn, vm, vs, (sa, sn, sc), (p, l.length, cap)⟩) := (by rw [← hW]; exact (PAt.new w _).alloc _ : PAt W w.heap.size _)
 have HT : Hid (TAt W (w.heap.size + 1) ⟨tr, tl, th, (za, zn, zc), (ba, bn, bc')⟩ 46) := (by
  have h := TAt.new (w.alloc (pb ⟨vk, vcol, vn, vm, vs, (sa, sn, sc), (p, l.length, cap)⟩)) ⟨tr, tl, th, (za, zn, zc), (ba, bn, bc')⟩ 46
  have hs : (w.alloc (pb ⟨vk, vcol, vn, vm, vs, (sa, sn, sc), (p, l.length, cap)⟩)).heap.size = w.heap.size + 1 := by simp
  rw [hs] at h
  rw [← hW]; exact h : TAt W (w.heap.size + 1) _ 46)
 have HS : Hid (StOk W ⟨tr, tl, th, (za, zn, zc), (ba, bn, bc')⟩ s) := hS.below hXW
 have HL : Hid (Pd.Lay (fun _ => True) (Pr.mk' h l) W ⟨vk, vcol, vn, vm, vs, (sa, sn, sc), (p, l.length, cap)⟩) := Pd.Lay.below _ hL hXW
 obtain ⟨p0, p1, p2, p3, p4, p5, p6⟩ := HP.out.all
 obtain ⟨t0, t1, t2, t3, t4⟩ := HT.out.all
 simp only at p0 p1 p2 p3 p4 p5 p6 t0 t1 t2 t3 t4
 simp only [tb, sv] at hW
 unfold maxLen at hkm
 have hHW := (HL.out.head).1
 obtain ⟨L, hLL⟩ : ∃ L, h.set = L := ⟨_, rfl⟩
 have hn : sn = h.set.length := hHd.2.1
 have hRL : Rd st W sa sc h.set := hHW.2.2.1
 have hx40 := hpt.2.1
 have ho2 : Pu.hi (h.set.map (Pu.isJ s (Pu.fg fl) vcol)) = o := by
  rw [← ho]
  unfold Pu.leafJ
  rw [if_pos hk]
  have e : vcol = h.col := hHd.1.2.1
  rw [e]
 rw [hLL] at hn hRL hx40 ho2
 subst hn
 have h1 := hRL.1
 have h2 := hRL.2.1
 unfold maxLen at h2
 have HRL : Hid (Rd st W sa sc L) := hRL
 have HX : Hid (∀ x ∈ L, x.length ≤ maxLen) := hx40
 have HO : Hid (Pu.hi (L.map (Pu.isJ s (Pu.fg fl) vcol)) = o) := ho2
 have HF : Hid (StFine s) := hF
 have hv : vk = 7 := by omega
 subst hv
 clear hL hHd hkB hXW hX1 hS ho hvk hk hp hpt hHW hLL ho2 hx40 hRL HL hF
 unfold pvv tvv
 simp only [sv]
 go_enter Try.func31, Try.ntmps31
 go_wp2_with fail
 clear p0 p1 p2 p3 p4 p5 p6 t0 t1 t2 t3 t4 hW
 go_loopw [14, 13] (fun iv ov wr => ∃ (i k : Nat), i ≤ L.length ∧ iv = .int .i64 i ∧ ov = .int .i64 k ∧ Hid (k = Pu.hi ((L.take i).map (Pu.isJ s (Pu.fg fl) vcol))) ∧ Hid (Ex W wr)) (fun iv ov wr => L.length - (intOf iv).toNat)
 case atStart => exact ⟨0, 1, by omega, rfl, rfl, (rfl : 1 = Pu.hi ((L.take 0).map (Pu.isJ s (Pu.fg fl) vcol))), Ex.refl W⟩
 case round =>
  obtain ⟨i, k, hi, rfl, rfl, HK, HXr⟩ := hrel
  have HPr : Hid (PAt wr w.heap.size ⟨7, vcol, vn, vm, vs, (sa, L.length, sc), (p, l.length, cap)⟩) := HP.out.below HXr.out
  obtain ⟨p0, p1, p2, p3, p4, p5, p6⟩ := HPr.out.all
  simp only at p0 p1 p2 p3 p4 p5 p6
  by_cases hlt : i < L.length
  ·have hti : (i : Int) < (L.length : Int) := by omega
   obtain ⟨b, off, rfl, e0⟩ := (HRL.out.below HXr.out).at hlt
   obtain ⟨t, ht⟩ : ∃ t, L[i] = t := ⟨_, rfl⟩
   rw [ht] at e0
   have HE0 : Hid (wr.cell? ⟨b, off + i, none⟩ = some (.string (str t))) := e0
   have HTL : Hid (t.length ≤ maxLen) := (by rw [← ht]; exact HX.out _ (List.getElem_mem hlt) : t.length ≤ maxLen)
   have HSr : Hid (StOk wr ⟨tr, tl, th, (za, zn, zc), (ba, bn, bc')⟩ s) := HS.out.below HXr.out
   have HTr : Hid (TAt wr (w.heap.size + 1) ⟨tr, tl, th, (za, zn, zc), (ba, bn, bc')⟩ 46) := HT.out.below HXr.out
   obtain ⟨x, hx⟩ : ∃ x, Pu.isJ s (Pu.fg fl) vcol t = x := ⟨_, rfl⟩
   have hnx : L.take (i + 1) = L.take i ++ [t] := by rw [List.take_add_one, List.getElem?_eq_getElem hlt, ht]; rfl
   have HNX : Hid ((if k < x then x else k) = Pu.hi ((L.take (i + 1)).map (Pu.isJ s (Pu.fg fl) vcol))) := (by rw [hnx, List.map_append, List.map_cons, List.map_nil, Pu.hi_snoc, ← HK.out, hx] : (if k < x then x else k) = _)
   have HXX : Hid (Pu.colJ s (Pu.fg fl) 6 0 vcol t = x) := (by rw [← hx, Pu.isJ_col] : Pu.colJ s (Pu.fg fl) 6 0 vcol t = x)
   clear ht hx hnx e0
   go_wp2_with fail
   have hre := Ex.refl
   refine Rg.wp_rows [.inl (Value.pointer (some ⟨w.heap.size, 1, none⟩)), .inl (.string (str vcol)), .inl (Value.pointer (some ⟨w.heap.size, 5, none⟩)), .inl (Value.slice (some ⟨b, off, none⟩) L.length sc), .inl (.int .i64 (i : Int)), .inl (Value.pointer (some ⟨b, off + i, none⟩)), .inl (.string (str t)), .inl (pvv ⟨6, vcol, 0, 0, t, (none, 0, 0), (none, 0, 0)⟩), .inl (tvv ⟨tr, tl, th, (za, zn, zc), (ba, bn, bc')⟩), .inl (.int .i64 fl), .inl (.int .i64 (x : Int)), .inl (.int .i64 (x : Int))] (Ex wr) Ex 179 (by kernel_rfl) rfl (by kernel_rfl) ?st hre (Ex.drew _) ?goods ?fin
   case st => exact trivial
   case goods =>
    refine Rg.goods_cons (Rg.good_field hre rfl rfl rfl (fun wx hC => by go_simp)) ?_
    refine Rg.goods_cons (Rg.good_load hre rfl rfl rfl (fun wx hC => by have hz := (HPr.out.below hC).all.2.1; go_simp)) ?_
    refine Rg.goods_cons (Rg.good_field hre rfl rfl rfl (fun wx hC => by go_simp)) ?_
    refine Rg.goods_cons (Rg.good_load hre rfl rfl rfl (fun wx hC => by have hz := (HPr.out.below hC).all.2.2.2.2.2.1; go_simp)) ?_
    refine Rg.goods_cons (Rg.good_move hre rfl rfl rfl) ?_
    refine Rg.goods_cons (Rg.good_index hre rfl rfl rfl rfl (fun wx hC => by go_simp)) ?_
    refine Rg.goods_cons (Rg.good_load hre rfl rfl rfl (fun wx hC => by have hz := cell_ex HE0.out hC; simp [go_sem, hz])) ?_
    refine Rg.goods_cons (good_bis rfl rfl rfl rfl) ?_
    refine Rg.goods_cons (Rg.good_load hre rfl rfl rfl (fun wx hC => loadI_stats46 (HTr.out.below hC))) ?_
    refine Rg.goods_cons (Rg.good_move hre rfl rfl rfl) ?_
    refine Rg.goods_cons (Rg.good_call3 Try.func31 (by kernel_rfl) rfl rfl rfl (by rintro v0 v1 v2 wx hC rfl rfl rfl; exact ex_rowP (rjc_is _ _ s fl wx (HSr.out.below hC) HF.out HTL.out (by simp) x HXX.out) hC)) ?_
    refine Rg.goods_cons (Rg.good_assign hre rfl rfl rfl) ?_
    exact Rg.goods_nil
   case fin =>
    intro wx hx
    simp only [Rg.later, Act.put, List.setIfInBounds_toArray, List.set_cons_succ, List.set_cons_zero]
    have HX2 : Hid (Ex W wx) := (HXr.out.trans hx : Ex W wx)
    clear hx
    by_cases hyk : k < x
    ·have HN2 : Hid (x = Pu.hi ((L.take (i + 1)).map (Pu.isJ s (Pu.fg fl) vcol))) := (by rw [← HNX.out, if_pos hyk] : x = _)
     have hyk2 : (k : Int) < (x : Int) := by omega
     have hyk3 : decide ((k : Int) < (x : Int)) = true := decide_eq_true hyk2
     clear hyk
     go_wp2_with fail
     go_roundw
     case rel => exact ⟨i + 1, x, by omega, by go_num, by first | rfl | go_num, HN2, HX2⟩
     case measure => simp [intOf]; omega
    ·have HN2 : Hid (k = Pu.hi ((L.take (i + 1)).map (Pu.isJ s (Pu.fg fl) vcol))) := (by rw [← HNX.out, if_neg hyk] : k = _)
     have hyk2 : ¬ (k : Int) < (x : Int) := by omega
     have hyk3 : decide ((k : Int) < (x : Int)) = false := decide_eq_false hyk2
     clear hyk
     go_wp2_with fail
     go_roundw
     case rel => exact ⟨i + 1, k, by omega, by go_num, by first | rfl | go_num, HN2, HX2⟩
     case measure => simp [intOf]; omega
  ·have hti : ¬ (i : Int) < (L.length : Int) := by omega
   have HE : Hid (k = o) := (by rw [← HO.out, HK.out, List.take_of_length_le (by omega)] : k = o)
   go_wp2_with fail
   go_ret
   exact ⟨by rw [HE.out]; rfl, HXW.out.trans HXr.out⟩
theorem rjcl_is (s : St) (hF : StFine s) (fl : Int) (h : Hd) (l : List Pr) (hp : Pd.part h l.length = true) (hk : h.k = 4 ∨ h.k = 5 ∨ h.k = 6 ∨ h.k = 8 ∨ h.k = 9) (v : PV) (tv : TV) (w : World) (o : Nat) (hL : Pd.Lay (fun _ => True) (Pr.mk' h l) w v) (hS : StOk w tv s) (ho : Pu.leafJ s (Pu.fg fl) h = o) :
  Calls Try.prog 31 #[pvv v, tvv tv, .int .i64 fl] w fun e w' => e = .returned (.int .i64 (o : Int)) ∧ Ex w w' := by
 have hpt := part_texts hp
 obtain ⟨hHd, _⟩ := hL.head
 have e0 : v.k = h.k := hHd.1.1
 have e1 : v.n = h.n := hHd.1.2.2.1
 have e2 : v.col = h.col := hHd.1.2.1
 have e3 : v.s = h.s := hHd.1.2.2.2.2
 refine rjc_is v tv s fl w hS hF (by rw [e3]; exact hpt.1) (by rw [e0]; exact hk) o ?_
 rw [← ho, Pu.leaf_col s _ h hk hpt.2.2, e0, e1, e2, e3]
theorem rjd_is (s : St) (hF : StFine s) (fl : Int) : ∀ p, Pd.form p = true → RJudgeC s fl p := by
 refine Pd.tree ?_
 intro h l ih hFo
 rw [Pd.form_mk, Bool.and_eq_true, List.all_eq_true] at hFo
 obtain ⟨hp, hFk⟩ := hFo
 have ih' : ∀ k ∈ l, RJudgeC s fl k := fun k hk => ih k hk (hFk k hk)
 have hkk := Pd.part_kind hp
 intro v tv w o hL hS ho
 rw [Pu.jd_mk] at ho
 by_cases h1 : h.k = 1
 ·rw [if_pos h1] at ho
  exact rjall_is s fl h l ih' h1 v tv w o hL hS ho
 rw [if_neg h1] at ho
 by_cases h2 : h.k = 2
 ·rw [if_pos h2] at ho
  exact rjany_is s fl h l ih' h2 v tv w o hL hS ho
 rw [if_neg h2] at ho
 by_cases h3 : h.k = 3
 ·rw [if_pos h3] at ho
  obtain ⟨_, hn⟩ := Pd.part_not h3 hp
  obtain ⟨k, rfl⟩ := Pd.one_of hn
  simp only [List.map_cons, List.map_nil, List.headD_cons] at ho
  exact rjnot_is s fl h k (ih' k (by simp)) h3 v tv w o hL hS _ rfl (Pu.jd_range s _ k (hFk k (by simp))).2 ho
 rw [if_neg h3] at ho
 by_cases h7 : h.k = 7
 ·exact rjin_is s hF fl h l hp h7 v tv w o hL hS ho
 by_cases h10 : h.k = 10
 ·exact rjbt_is s fl h l h10 v tv w o hL hS ho
 exact rjcl_is s hF fl h l hp (by omega) v tv w o hL hS ho
end Go.Proofs.Ytibnhjfeepdddaa
