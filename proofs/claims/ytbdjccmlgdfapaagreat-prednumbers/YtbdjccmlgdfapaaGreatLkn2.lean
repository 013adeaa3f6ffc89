/-
  Taken out of another text of mine: Rcell. The statements' own null, nots, known; the books' Everything. The statements' own known.
-/
import Derived.Test.YtbdjccmlgdfapaaGreatName1
import Derived.Test.YtbdjccmlgdfapaaGreatKrows
import Derived.Test.YtbdjccmlgdfapaaGreatLeval
namespace Go.Proofs.YtbdjccmlgdfapaaGreat
open Go.RowKit
set_option linter.unusedVariables false
set_option linter.unusedSimpArgs false
set_option maxHeartbeats 4000000 in
set_option maxRecDepth 100000 in
theorem rcell_is (v : RV) (r : Rw) (s : List UInt8) (w : World) (h : RvOk w v r) (c : Ce) (hc : Rw.cell r.c s = c) : Calls Tryz.prog 48 #[rvv v, .string (str s)] w fun e w' => e = .returned (cv c) ∧ Ex w w' := by
 obtain ⟨vt, vq, p, n, cap⟩ := v
 obtain ⟨rfl, rfl, hn, hB⟩ := h
 simp only at hn hB
 subst hn
 have h1 := hB.1
 have h2 := hB.2.1
 unfold maxLen at h2
 obtain ⟨W, hW⟩ : ∃ W, W = (w.alloc (rb ⟨r.t, r.q, p, r.c.length, cap⟩)).alloc ecb0 := ⟨_, rfl⟩
 have HX : Hid (Ex w W) := (by rw [hW]; exact ((Below.refl _ _).alloc (Nat.le_refl _) _).alloc (by simp) _ : Ex w W)
 have HB : Hid (RdC W p cap r.c) := hB.below HX.out
 have HL : Hid (LAt W w.heap.size ⟨r.t, r.q, p, r.c.length, cap⟩) := (by rw [hW]; exact (LAt.new w _).alloc _ : LAt W w.heap.size ⟨r.t, r.q, p, r.c.length, cap⟩)
 have HZ : Hid (EAt W (w.heap.size + 1) Rw.none_) := (by rw [hW]; exact EAt.newat (w.alloc (rb ⟨r.t, r.q, p, r.c.length, cap⟩)) (w.heap.size + 1) Rw.none_ (by simp) : EAt W (w.heap.size + 1) Rw.none_)
 have HW : Hid (W = (w.alloc (rb ⟨r.t, r.q, p, r.c.length, cap⟩)).alloc ecb0) := hW
 have HC : Hid (Rw.cell r.c s = c) := hc
 have zs := str_toList s
 clear hB hW hc
 unfold rvv
 simp only [sv]
 go_enter Tryz.func48, Tryz.ntmps48
 go_wp2_with fail
 rw [← HW.out]
 obtain ⟨n0, n1, n2⟩ := HL.out.all
 obtain ⟨z0, z1, z2, z3⟩ := HZ.out.all
 obtain ⟨f0, f1, f2, f3⟩ := HZ.out.fro
 go_loopw [5] (fun iv wr => ∃ i : Nat, i ≤ r.c.length ∧ iv = .int .i64 i ∧ Hid (∀ d ∈ r.c.take i, d.col ≠ s) ∧ wr = W) (fun iv wr => r.c.length - (intOf iv).toNat)
 case atStart => exact ⟨0, by omega, rfl, (by simp : ∀ d ∈ r.c.take 0, d.col ≠ s), rfl⟩
 case round =>
  obtain ⟨i, hi, rfl, HN, hwr⟩ := hrel
  have hwr := hwr.symm
  subst hwr
  by_cases hlt : i < r.c.length
  ·have hti : (i : Int) < (r.c.length : Int) := by omega
   obtain ⟨b, off, rfl, e0, e1, e2, e3⟩ := RdC.four HB.out hlt
   obtain ⟨d, hd⟩ : ∃ d, r.c[i] = d := ⟨_, rfl⟩
   rw [hd] at e0 e1 e2 e3
   have hsp : r.c = r.c.take i ++ d :: r.c.drop (i + 1) := by rw [← hd, ← List.drop_eq_getElem_cons hlt, List.take_append_drop]
   have HSP : Hid (r.c = r.c.take i ++ d :: r.c.drop (i + 1)) := hsp
   have hnx : r.c.take (i + 1) = r.c.take i ++ [d] := by rw [List.take_add_one, List.getElem?_eq_getElem hlt, hd]; rfl
   have HNX : Hid (r.c.take (i + 1) = r.c.take i ++ [d]) := hnx
   have zd := str_toList d.col
   clear hd hsp hnx
   by_cases hds : d.col = s
   ·have td : (d.col == s) = true := by simp [hds]
    have HF : Hid (c = d) := (by rw [← HC.out, HSP.out]; exact Rw.cell_skip HN.out hds : c = d)
    clear hds
    go_wp2_with fail
    have hL9 := EAt.store HZ.out d
    have hX9 := Below.eset HX.out (Nat.le_succ _) d
    refine bodyPost_ret (v := cv d) (res_cell Tryz.results48 rfl hL9) rfl ⟨by rw [HF.out], hX9⟩
   ·have td : (d.col == s) = false := by simp [hds]
    have HN2 : Hid (∀ e ∈ r.c.take (i + 1), e.col ≠ s) := (by
     intro e he
     rw [HNX.out] at he
     rcases List.mem_append.1 he with h | h
     ·exact HN.out e h
     ·rw [List.mem_singleton] at h; subst h; exact hds : ∀ e ∈ r.c.take (i + 1), e.col ≠ s)
    go_wp2_with fail
    go_roundw
    case rel => exact ⟨i + 1, by omega, by go_num, HN2, by simp⟩
    case measure => simp [intOf]; omega
  ·have hti : ¬ (i : Int) < (r.c.length : Int) := by omega
   have HF : Hid (c = Rw.none_) := (by rw [← HC.out]; have h := HN.out; rw [List.take_of_length_le (by omega)] at h; exact Rw.cell_out h : c = Rw.none_)
   go_wp2_with fail
   have hL9 := EAt.store HZ.out Rw.none_
   have hX9 := Below.eset HX.out (Nat.le_succ _) Rw.none_
   refine bodyPost_ret (v := cv Rw.none_) (res_cell Tryz.results48 rfl hL9) rfl ⟨by rw [HF.out], hX9⟩
end Go.Proofs.YtbdjccmlgdfapaaGreat
namespace Go.Proofs.YtbdjccmlgdfapaaGreat
open Go.RowKit
set_option linter.unusedVariables false
set_option linter.unusedSimpArgs false
/-- A part without Kids or texts, as it lies. -/
theorem lay_bare (B : Nat → Prop) (w : World) (k : Int) (c : List UInt8) (n m : Int) (s : List UInt8) : Pd.Lay B (Pr.mk' ⟨k, c, n, m, s, []⟩ []) w ⟨k, c, n, m, s, (none, 0, 0), none, 0, 0⟩ := by
 rw [Pd.lay_mk]
 exact ⟨⟨⟨rfl, rfl, rfl, rfl, rfl⟩, rfl, Rd.nil _, fun h0 => by simp at h0⟩, rfl, fun h0 => by simp at h0, [], RdW.nil _, Pd.Lays.nil _ _⟩
set_option maxHeartbeats 4000000 in
set_option maxRecDepth 100000 in
theorem null_is (s : List UInt8) (w : World) : Calls Tryz.prog 27 #[.string (str s)] w fun e w' => ∃ u, e = .returned (pvv u) ∧ Pd.Lay (fun b => w.heap.size ≤ b) (Pd.nullP s) w' u ∧ Ex w w' := by
 go_enter Tryz.func27, Tryz.ntmps27
 go_wp2_with fail
 refine bodyPost_ret (v := pvv ⟨9, s, 0, 0, [], (none, 0, 0), none, 0, 0⟩) ?_ rfl ⟨_, rfl, lay_bare _ _ _ _ _ _ _, by (repeat' (first | exact Below.refl _ _ | refine Below.alloc ?_ (by simp <;> omega) _))⟩
 simp [results, Tryz.results27, go_sem, pvv, sv, str]
set_option maxHeartbeats 4000000 in
set_option maxRecDepth 100000 in
theorem every_is (w : World) : Calls Tryz.prog 52 #[] w fun e w' => ∃ u, e = .returned (pvv u) ∧ Pd.Lay (fun b => w.heap.size ≤ b) (Pr.mk' (Pd.hk 1) []) w' u ∧ Ex w w' := by
 go_enter Tryz.func52, Tryz.ntmps52
 go_wp2_with fail
 refine bodyPost_ret (v := pvv ⟨1, [], 0, 0, [], (none, 0, 0), none, 0, 0⟩) ?_ rfl ⟨_, rfl, lay_bare _ _ _ _ _ _ _, by (repeat' (first | exact Below.refl _ _ | refine Below.alloc ?_ (by simp <;> omega) _))⟩
 simp [results, Tryz.results52, go_sem, pvv, sv, str]
/-- A Not is stored into a block, as the walk spells it. -/
abbrev pset3 (w : World) (g : Nat) (a : Option Addr) : World := ((((((w.setCell ⟨g, 0, none⟩ (.int .i64 3)).setCell ⟨g, 1, none⟩ (.string { data := #[] })).setCell ⟨g, 2, none⟩ (.int .i64 0)).setCell ⟨g, 3, none⟩ (.int .i64 0)).setCell ⟨g, 4, none⟩ (.string { data := #[] })).setCell ⟨g, 5, none⟩ (.slice none 0 0)).setCell ⟨g, 6, none⟩ (.slice a 1 1)
/-- One Not more, laid about a predicate. -/
theorem lay_nt {B : Nat → Prop} {p : Pr} {w : World} {u : PV} {g : Nat} (hL : Pd.Lay B p w u) (hR : RdW 7 pc w (some ⟨g, 0, none⟩) 1 [u]) (hB : B g) : Pd.Lay B (Pd.nt p) w ⟨3, [], 0, 0, [], (none, 0, 0), some ⟨g, 0, none⟩, 1, 1⟩ := by
 unfold Pd.nt
 rw [Pd.lay_mk]
 exact ⟨⟨⟨rfl, rfl, rfl, rfl, rfl⟩, rfl, Rd.nil _, fun h0 => by simp at h0⟩, rfl, fun _ b off e => by simp at e; rw [← e.1]; exact hB, [u], hR, Pd.Lays.one hL⟩
set_option maxHeartbeats 4000000 in
set_option maxRecDepth 100000 in
theorem nots_is {B : Nat → Prop} (p : Pr) (n : Nat) (v : PV) (w : World) (hL : Pd.Lay B p w v) (hn : n ≤ 1000) :
  Calls Tryz.prog 28 #[pvv v, .int .i64 n] w fun e w' => ∃ u, e = .returned (pvv u) ∧ Pd.Lay (fun b => B b ∨ w.heap.size ≤ b) (Pd.ntN n p) w' u ∧ Ex w w' := by
 obtain ⟨vk, vcol, vn, vm, vs, vset, vkids⟩ := v
 obtain ⟨W, hW⟩ : ∃ W, (w.alloc (pb ⟨vk, vcol, vn, vm, vs, vset, vkids⟩)).alloc pb0 = W := ⟨_, rfl⟩
 have hX1 : Ex w (w.alloc (pb ⟨vk, vcol, vn, vm, vs, vset, vkids⟩)) := (Below.refl _ _).alloc (Nat.le_refl _) _
 have hXW : Ex w W := by rw [← hW]; exact Below.alloc hX1 (by simp) _
 have HXW : Hid (Ex w W) := hXW
 have HSZ : Hid (w.heap.size + 2 ≤ W.heap.size) := (by rw [← hW]; simp : w.heap.size + 2 ≤ W.heap.size)
 have HZ : Hid (PAt W (w.heap.size + 1) PV.zero) := (by
  rw [← hW]
  exact PAt.newat (w.alloc (pb ⟨vk, vcol, vn, vm, vs, vset, vkids⟩)) (w.heap.size + 1) PV.zero (by simp) : PAt W (w.heap.size + 1) PV.zero)
 have HU : Hid (∃ u, PAt W w.heap.size u ∧ Pd.Lay (fun b => (B b ∧ b < w.heap.size) ∨ w.heap.size + 2 ≤ b) (Pd.ntN (n - n) p) W u) := (⟨⟨vk, vcol, vn, vm, vs, vset, vkids⟩, by rw [← hW]; exact (PAt.new w _).alloc _, by
  rw [Nat.sub_self]
  exact Pd.Lay.below _ (Pd.Lay.mono (fun b hb => .inl hb) _ hL.lt) hXW⟩ : ∃ u, _ ∧ _)
 clear hL hX1 hXW
 unfold pvv
 simp only [sv]
 go_enter Tryz.func28, Tryz.ntmps28
 go_wp2_with fail
 go_loopw [1] (fun iv wr => ∃ j : Nat, j ≤ n ∧ iv = .int .i64 j ∧ Hid (∃ u, PAt wr w.heap.size u ∧ Pd.Lay (fun b => (B b ∧ b < w.heap.size) ∨ w.heap.size + 2 ≤ b) (Pd.ntN (n - j) p) wr u) ∧ Hid (PAt wr (w.heap.size + 1) PV.zero) ∧ Hid (w.heap.size + 2 ≤ wr.heap.size) ∧ Hid (Ex w wr)) (fun iv wr => (intOf iv).toNat)
 case atStart => exact ⟨n, Nat.le_refl _, rfl, HU, HZ, HSZ, HXW⟩
 case round =>
  obtain ⟨j, hj, rfl, HUr, HZr, HSr, HXr⟩ := hrel
  obtain ⟨u, hPu, hLu⟩ := HUr.out
  by_cases hj0 : 0 < j
  ·have t0 : decide ((0 : Int) < (j : Int)) = true := by simp; omega
   have t00 : decide (0 < j) = true := by simp; omega
   obtain ⟨i, hi⟩ : ∃ i, i + 1 = j := ⟨j - 1, by omega⟩
   have tj : (j : Int) - 1 = (i : Int) := by omega
   have HIJ : Hid (i + 1 = j) := hi
   obtain ⟨w1, hw1⟩ : ∃ w1, wr.alloc (pb u) = w1 := ⟨_, rfl⟩
   have hX1 : Ex wr w1 := by rw [← hw1]; exact (Below.refl _ _).alloc (Nat.le_refl _) _
   have hP1 : PAt w1 w.heap.size u := hPu.below hX1
   obtain ⟨w2, hw2⟩ : ∃ w2, pset3 w1 w.heap.size (some ⟨wr.heap.size, 0, none⟩) = w2 := ⟨_, rfl⟩
   have hP2 : PAt w2 w.heap.size ⟨3, [], 0, 0, [], (none, 0, 0), some ⟨wr.heap.size, 0, none⟩, 1, 1⟩ := by rw [← hw2]; exact hP1.store ⟨3, [], 0, 0, [], (none, 0, 0), some ⟨wr.heap.size, 0, none⟩, 1, 1⟩
   have hg2 : w1.grownBy w2 (some w.heap.size) := by rw [← hw2]; exact grown_pset w1 w.heap.size ⟨3, [], 0, 0, [], (none, 0, 0), some ⟨wr.heap.size, 0, none⟩, 1, 1⟩
   have hR1 : RdW 7 pc w1 (some ⟨wr.heap.size, 0, none⟩) 1 [u] := by rw [← hw1]; exact RdW.laid pc_len wr [u] (by simp)
   have HU2 : Hid (∃ u, PAt w2 w.heap.size u ∧ Pd.Lay (fun b => (B b ∧ b < w.heap.size) ∨ w.heap.size + 2 ≤ b) (Pd.ntN (n - i) p) w2 u) := (by
    refine ⟨_, hP2, ?_⟩
    have h1 := HIJ.out
    rw [show n - i = (n - j) + 1 by omega]
    have h2 := HSr.out
    show Pd.Lay _ (Pd.nt (Pd.ntN (n - j) p)) w2 _
    refine lay_nt (u := u) ?_ ?_ (.inr h2)
    ·exact Pd.Lay.far (row := some w.heap.size) (fun b hb e => by simp at e; omega) _ (Pd.Lay.below _ hLu hX1) hg2
    ·exact hR1.far hg2 (fun _ b off e => by simp at e; simp; omega) : ∃ u, _ ∧ _)
   have HZ2 : Hid (PAt w2 (w.heap.size + 1) PV.zero) := ((HZr.out.below hX1).far hg2 (by simp) : PAt w2 _ _)
   have HS2 : Hid (w.heap.size + 2 ≤ w2.heap.size) := (by have h1 := HSr.out; have h2 := hX1.size; have h3 := hg2.size; omega : w.heap.size + 2 ≤ w2.heap.size)
   have HX2 : Hid (Ex w w2) := (Below.grown (HXr.out.trans hX1) hg2 (HXr.out.trans hX1).size (fun g hg => by simp at hg; omega) : Ex w w2)
   obtain ⟨c0, c1, c2, c3, c4, c5, c6⟩ := hPu.all
   obtain ⟨d0, d1, d2, d3, d4, d5, d6⟩ := hP1.all
   obtain ⟨f0, f1, f2, f3, f4, f5, f6⟩ := hP1.fro
   clear hPu hLu hP1 hP2 hg2 hR1 hX1 hi HUr
   go_wp2_with fail
   go_roundw
   case rel => exact ⟨i, by have := HIJ.out; omega, by go_num, HU2, HZ2, HS2, HX2⟩
   case measure => simp [intOf]; omega
  ·have t0 : decide ((0 : Int) < (j : Int)) = false := by simp; omega
   have t00 : decide (0 < j) = false := by simp; omega
   have HJ0 : Hid (j = 0) := (by omega : j = 0)
   have HLu : Hid (Pd.Lay (fun b => (B b ∧ b < w.heap.size) ∨ w.heap.size + 2 ≤ b) (Pd.ntN (n - j) p) wr u) := hLu
   obtain ⟨c0, c1, c2, c3, c4, c5, c6⟩ := hPu.all
   obtain ⟨z0, z1, z2, z3, z4, z5, z6⟩ := HZr.out.fro
   obtain ⟨y0, y1, y2, y3, y4, y5, y6⟩ := HZr.out.all
   clear hPu hLu HUr
   go_wp2_with fail
   have hP9 := HZr.out.store u
   have hX9 := Below.pset HXr.out (Nat.le_succ _) u
   refine bodyPost_ret (v := pvv u) (res_pred Tryz.results28 rfl hP9) rfl ⟨_, rfl, ?_, hX9⟩
   have h := HLu.out
   rw [HJ0.out, Nat.sub_zero] at h
   exact Pd.Lay.mono (fun b hb => by rcases hb with hb | hb; exact .inl hb.1; exact .inr (by omega)) _ (Pd.Lay.far (row := some (w.heap.size + 1)) (fun b hb e => by simp at e; omega) _ h (grown_pset _ _ _))
end Go.Proofs.YtbdjccmlgdfapaaGreat
namespace Go.Proofs.YtbdjccmlgdfapaaGreat
open Go.RowKit
set_option linter.unusedVariables false
set_option linter.unusedSimpArgs false
namespace Pd
/-- A predicate that the callees bear, one about the other. -/
theorem fine_hk (k : Int) (hk' : In64 k) {l : List Pr} (h1 : l.length ≤ 1000) (h : ∀ x ∈ l, Fine x) : Fine (Pr.mk' (hk k) l) := by
 rw [fine_mk]
 exact ⟨⟨hk', ⟨by simp [hk], by simp [hk]⟩, ⟨by simp [hk], by simp [hk]⟩, by simp [hk], by simp [hk], by simp [hk], by simp [hk]⟩, h1, h⟩
theorem fine_null {c : List UInt8} (h : c.length ≤ 1000) : Fine (nullP c) := by
 unfold nullP
 rw [fine_mk]
 exact ⟨⟨⟨by simp, by simp⟩, ⟨by simp, by simp⟩, ⟨by simp, by simp⟩, h, by simp, by simp, by simp⟩, by simp, by simp⟩
theorem fine_nt {p : Pr} (h : Fine p) : Fine (nt p) := fine_hk 3 ⟨by decide, by decide⟩ (by simp) (by simpa using h)
def kn1 : Pr := nt (Pr.mk' (hk 1) [nullP [120], nt (nullP [121])])
def kn2 : Pr := Pr.mk' (hk 2) [nt (nullP [120]), nullP [121]]
theorem fine_kn1 : Fine kn1 := fine_nt (fine_hk 1 ⟨by decide, by decide⟩ (by simp) (by
 intro x hx
 simp only [List.mem_cons, List.not_mem_nil, or_false] at hx
 rcases hx with rfl | rfl
 ·exact fine_null (by simp)
 ·exact fine_nt (fine_null (by simp))))
theorem normal_kn : normalB kn1 = kn2 := by
 have hr : right kn1 = true := by decide +kernel
 unfold normalB
 rw [if_pos hr]
 rfl
theorem fit_every : fit (Pr.mk' (hk 1) []) 50 5000 = true := by decide +kernel
theorem fit_any0 : fit (Pr.mk' (hk 2) []) 50 5000 = true := by decide +kernel
end Pd
theorem pt_row {B : Nat → Prop} {f : FuncId} {args : Array Value} {wx w1 : World} {p : Pr} (h : Calls Tryz.prog f args wx fun e w' => ∃ u, e = .returned (pvv u) ∧ Pd.Lay B p w' u ∧ Ex wx w') (hC : Ex w1 wx) :
  Calls Tryz.prog f args wx (fun e w' => ∃ u, e = .returned u ∧ Rg.Spec.ok (.inr (Pd.IsP (fun _ => True) p)) u w' ∧ Ex wx w' ∧ Ex w1 w') :=
 h.mono fun e w' ⟨u, h1, h2, h3⟩ => ⟨pvv u, h1, ⟨u, rfl, Pd.Lay.mono (fun _ _ => trivial) _ h2⟩, h3, hC.trans h3⟩
set_option maxHeartbeats 1000000 in
theorem run_bk {o : Oper} (ρ : Operand → Value) (w : World) (x : Operand) (K : Int) (a : Option Addr) (n c : Nat) (ho : o.op = .build 32 #[(0, .const (.int .i64 K)), (6, x)]) (hc : ρ (.const (.int .i64 K)) = .int .i64 K) (hx : ρ x = .slice a n c) : (execOp ρ o).run Tryz.prog w = .ok (.value (pvv ⟨K, [], 0, 0, [], (none, 0, 0), a, n, c⟩)) w := by
 simp [execOp, ho, hx, hc, go_sem, pvv, sv, str]
theorem Rg.good_bk {ops : Array Oper} {specs : List Rg.Spec} {a0 : Act} {w1 : World} {base : Nat} {o : Oper} {x : Operand} {K : Int} {l : List Pr} (ho : o.op = .build 32 #[(0, .const (.int .i64 K)), (6, x)]) (hg : Rg.guardV ops specs a0 o = some true)
  (hx : Rg.argS ops specs a0 x = .inr (Pd.IsPs base (fun _ => True) l)) : Rg.GoodOp Tryz.prog ops specs a0 (Ex w1) Ex o (.inr (Pd.IsP (fun _ => True) (Pr.mk' (Pd.hk K) l))) :=
 Rg.good_of hg fun Q a w hC hh => by
  have h1 := hh x (by rw [ho]; simp [Op.operands])
  rw [hx] at h1
  obtain ⟨g, us, hu, _, hR, hL⟩ := h1
  refine Rg.Fr.wp_val (run_bk _ w x K _ _ _ ho rfl hu) ⟨_, rfl, ?_, Ex.refl _, hC⟩
  refine ⟨_, rfl, ?_⟩
  rw [Pd.lay_mk]
  exact ⟨⟨⟨rfl, rfl, rfl, rfl, rfl⟩, rfl, Rd.nil _, fun h0 => by simp at h0⟩, rfl, fun _ b off e => trivial, us, hR, hL⟩
theorem rv_zero (w : World) : RvOk w ⟨0, 0, none, 0, 0⟩ ⟨0, 0, []⟩ := ⟨rfl, rfl, rfl, RdW.nil _⟩
set_option maxHeartbeats 8000000 in
set_option maxRecDepth 100000 in
theorem known_any (w : World) : Calls Tryz.prog 23 #[] w fun e w' => e = .returned (.bool true) ∧ Ex w w' := by
 go_enter Tryz.func23, Tryz.ntmps23
 go_wp2_with fail
 go_at_call 27
 refine Calls.mono (null_is [120] w) ?_
 rintro e w1 ⟨u1, rfl, hL1, hx1⟩
 have HL1 : Hid (Pd.Lay (fun b => w.heap.size ≤ b) (Pd.nullP [120]) w1 u1) := hL1
 have HX1 : Hid (Ex w w1) := hx1
 clear hL1 hx1
 go_wp2_with fail
 go_at_call 27
 refine Calls.mono (null_is [121] w1) ?_
 rintro e w2 ⟨u2, rfl, hL2, hx2⟩
 have HL12 : Hid (Pd.Lay (fun _ => True) (Pd.nullP [120]) w2 u1) := (Pd.Lay.mono (fun _ _ => trivial) _ (Pd.Lay.below _ HL1.out hx2) : Pd.Lay _ _ w2 u1)
 have HL2 : Hid (Pd.Lay (fun _ => True) (Pd.nullP [121]) w2 u2) := (Pd.Lay.mono (fun _ _ => trivial) _ hL2 : Pd.Lay _ _ w2 u2)
 have HX2 : Hid (Ex w w2) := (HX1.out.trans hx2 : Ex w w2)
 clear hL2 hx2 HL1
 go_wp2_with fail
 go_at_call 28
 refine Calls.mono (nots_is (Pd.nullP [121]) 1 u2 w2 HL2.out (by omega)) ?_
 rintro e w3 ⟨u3, rfl, hL3, hx3⟩
 have HL13 : Hid (Pd.Lay (fun _ => True) (Pd.nullP [120]) w3 u1) := (Pd.Lay.below _ HL12.out hx3 : Pd.Lay _ _ w3 u1)
 have HL3 : Hid (Pd.Lay (fun _ => True) (Pd.nt (Pd.nullP [121])) w3 u3) := (Pd.Lay.mono (fun _ _ => trivial) _ hL3 : Pd.Lay _ _ w3 u3)
 have HX3 : Hid (Ex w w3) := (HX2.out.trans hx3 : Ex w w3)
 clear hL3 hx3 HL12 HL2
 obtain ⟨w4, hw4⟩ : ∃ w4, w3.alloc (.cells #[.int .i64 u1.k, .string (str u1.col), .int .i64 u1.n, .int .i64 u1.m, .string (str u1.s), .slice u1.set.1 u1.set.2.1 u1.set.2.2, .slice u1.kids.1 u1.kids.2.1 u1.kids.2.2, .int .i64 u3.k, .string (str u3.col), .int .i64 u3.n, .int .i64 u3.m, .string (str u3.s), .slice u3.set.1 u3.set.2.1 u3.set.2.2, .slice u3.kids.1 u3.kids.2.1 u3.kids.2.2] 32) = w4 := ⟨_, rfl⟩
 have hX34 : Ex w3 w4 := by rw [← hw4]; exact (Below.refl _ _).alloc (Nat.le_refl _) _
 have HX4 : Hid (Ex w w4) := (HX3.out.trans hX34 : Ex w w4)
 have hR4 : RdW 7 pc w4 (some ⟨w3.heap.size, 0, none⟩) 2 [u1, u3] := by rw [← hw4]; exact RdW.laid pc_len w3 [u1, u3] (by simp)
 have HL4 : Hid (Pd.Lay (fun _ => True) (Pr.mk' (Pd.hk 1) [Pd.nullP [120], Pd.nt (Pd.nullP [121])]) w4 ⟨1, [], 0, 0, [], (none, 0, 0), some ⟨w3.heap.size, 0, none⟩, 2, 2⟩) := (by
  rw [Pd.lay_mk]
  exact ⟨⟨⟨rfl, rfl, rfl, rfl, rfl⟩, rfl, Rd.nil _, fun h0 => by simp at h0⟩, rfl, fun _ b off e => trivial, [u1, u3], hR4, (Pd.Lays.one (Pd.Lay.below _ HL13.out hX34)).append (Pd.Lays.one (Pd.Lay.below _ HL3.out hX34))⟩ : Pd.Lay _ _ w4 _)
 clear hX34 hR4 HL13 HL3
 simp only [pvv, sv]
 go_wp2_with fail
 go_at_call 28
 refine Calls.mono (nots_is (Pr.mk' (Pd.hk 1) [Pd.nullP [120], Pd.nt (Pd.nullP [121])]) 1 ⟨1, [], 0, 0, [], (none, 0, 0), some ⟨w3.heap.size, 0, none⟩, 2, 2⟩ w4 HL4.out (by omega)) ?_
 rintro e w5 ⟨u5, rfl, hL5, hx5⟩
 have HL5 : Hid (Pd.Lay (fun _ => True) Pd.kn1 w5 u5) := (Pd.Lay.mono (fun _ _ => trivial) _ hL5 : Pd.Lay _ _ w5 u5)
 have HX5 : Hid (Ex w w5) := (HX4.out.trans hx5 : Ex w w5)
 clear hL5 hx5 HL4
 go_wp2_with fail
 go_at_call 12
 refine Calls.mono (normalN_is Pd.kn1 u5 w5 HL5.out Pd.fine_kn1) ?_
 rintro e w6 ⟨u6, rfl, hL6, hx6⟩
 obtain ⟨w7, hw7⟩ : ∃ w7, w6.alloc (pb u6) = w7 := ⟨_, rfl⟩
 have hX67 : Ex w6 w7 := by rw [← hw7]; exact (Below.refl _ _).alloc (Nat.le_refl _) _
 have HX7 : Hid (Ex w w7) := ((HX5.out.trans hx6).trans hX67 : Ex w w7)
 have HP7 : Hid (PAt w7 w6.heap.size u6) := (by rw [← hw7]; exact PAt.new w6 u6 : PAt w7 w6.heap.size u6)
 have HL7 : Hid (Pd.Lay (fun _ => True) Pd.kn2 w7 u6) := (by
  rw [← Pd.normal_kn]
  exact Pd.Lay.mono (fun _ _ => trivial) _ (Pd.Lay.below _ hL6 hX67) : Pd.Lay _ _ w7 u6)
 clear hL6 hx6 hX67 HL5
 simp only [pvv, sv]
 go_wp2_with fail
 have hre := Ex.refl
 refine Rg.wp_rows [.inl (pvv u6), .inr (Pd.IsP (fun _ => True) (Pd.nullP [120])), .inr (Pd.IsP (fun _ => True) (Pd.nt (Pd.nullP [120]))), .inr (Pd.IsP (fun _ => True) (Pd.nullP [121])), .inr (Pd.IsPs w7.heap.size (fun _ => True) [Pd.nt (Pd.nullP [120]), Pd.nullP [121]]), .inr (Pd.IsP (fun _ => True) Pd.kn2), .inl (.bool true), .inl (.bool true), .inr (Pd.IsP (fun _ => True) (Pr.mk' (Pd.hk 1) [])), .inl (rvv ⟨0, 0, none, 0, 0⟩), .inl (.bool true), .inl (.bool true), .inl (.bool true), .inl (pvv ⟨2, [], 0, 0, [], (none, 0, 0), none, 0, 0⟩), .inl (rvv ⟨0, 0, none, 0, 0⟩), .inl (.bool false), .inl (.bool true), .inl (.bool true), .inl (.bool true)] (Ex w7) Ex 27 (by kernel_rfl) rfl (by kernel_rfl) ?st hre (Ex.drew _) ?goods ?fin
 case st => exact ⟨Pd.IsP.stands _ _, Pd.IsP.stands _ _, Pd.IsP.stands _ _, Pd.IsPs.stands _ _ _, Pd.IsP.stands _ _, Pd.IsP.stands _ _, trivial⟩
 case goods =>
  refine Rg.goods_cons (Rg.good_load hre rfl rfl rfl (fun wx hC => (HP7.out.below hC).loadI)) ?_
  refine Rg.goods_cons (Rg.good_call1 Tryz.func27 (by kernel_rfl) rfl rfl rfl (by rintro v0 wx hC rfl; exact pt_row (null_is [120] wx) hC)) ?_
  refine Rg.goods_cons (Rg.good_call2 Tryz.func28 (by kernel_rfl) rfl rfl rfl (by rintro v0 v1 wx hC ⟨u, rfl, hu⟩ rfl; exact pt_row (nots_is (Pd.nullP [120]) 1 u wx hu (by omega)) hC)) ?_
  refine Rg.goods_cons (Rg.good_call1 Tryz.func27 (by kernel_rfl) rfl rfl rfl (by rintro v0 wx hC rfl; exact pt_row (null_is [121] wx) hC)) ?_
  refine Rg.goods_cons (Rg.good_pred2 rfl rfl rfl rfl) ?_
  refine Rg.goods_cons (Rg.good_bk rfl rfl rfl) ?_
  refine Rg.goods_cons (Rg.good_call2 Tryz.func11 (by kernel_rfl) rfl rfl rfl (by rintro v0 v1 wx hC rfl ⟨u, rfl, hu⟩; exact ex_rowP (kpred_is Pd.kn2 Pd.kn2 u6 u wx true (Pd.Lay.below _ HL7.out hC) hu (by simp)) hC)) ?_
  refine Rg.goods_cons (Rg.good_move hre rfl rfl rfl) ?_
  refine Rg.goods_cons (Rg.good_call0 Tryz.func52 (by kernel_rfl) rfl rfl rfl (by intro wx hC; exact pt_row (every_is wx) hC)) ?_
  refine Rg.goods_cons (Rg.good_known hre rfl (fun _ => undef) (rvv ⟨0, 0, none, 0, 0⟩) (by simp) (fun x hx => by simp [Op.operands] at hx) (fun w hC => by simp [execOp, go_sem, rvv, sv])) ?_
  refine Rg.goods_cons (Rg.good_call2 Tryz.func19 (by kernel_rfl) rfl rfl rfl (by rintro v0 v1 wx hC ⟨u, rfl, hu⟩ rfl; exact ex_rowP (eval_is (Pr.mk' (Pd.hk 1) []) ⟨0, 0, []⟩ u _ wx hu (Pd.fine_hk 1 ⟨by decide, by decide⟩ (by simp) (by simp)) (rv_zero wx) (by simp) true (by rw [Pd.fit_every]; rfl)) hC)) ?_
  refine Rg.goods_cons (Rg.good_pick true hre rfl rfl rfl rfl) ?_
  refine Rg.goods_cons (Rg.good_move hre rfl rfl rfl) ?_
  refine Rg.goods_cons (Rg.good_known hre rfl (fun x => match x with | .const v => v | _ => undef) (pvv ⟨2, [], 0, 0, [], (none, 0, 0), none, 0, 0⟩) (by simp) (fun x hx => by simp [Op.operands] at hx; subst hx; rfl) (fun w hC => by simp [execOp, go_sem, pvv, sv, str])) ?_
  refine Rg.goods_cons (Rg.good_known hre rfl (fun _ => undef) (rvv ⟨0, 0, none, 0, 0⟩) (by simp) (fun x hx => by simp [Op.operands] at hx) (fun w hC => by simp [execOp, go_sem, rvv, sv])) ?_
  refine Rg.goods_cons (Rg.good_call2 Tryz.func19 (by kernel_rfl) rfl rfl rfl (by rintro v0 v1 wx hC rfl rfl; exact ex_rowP (eval_is (Pr.mk' (Pd.hk 2) []) ⟨0, 0, []⟩ _ _ wx (lay_bare _ wx 2 [] 0 0 []) (Pd.fine_hk 2 ⟨by decide, by decide⟩ (by simp) (by simp)) (rv_zero wx) (by simp) false (by rw [Pd.fit_any0]; rfl)) hC)) ?_
  refine Rg.goods_cons (Rg.good_un hre rfl rfl rfl (fun w => by go_simp)) ?_
  refine Rg.goods_cons (Rg.good_pick true hre rfl rfl rfl rfl) ?_
  refine Rg.goods_cons (Rg.good_assign hre rfl rfl rfl) ?_
  exact Rg.goods_nil
 case fin =>
  intro wx hx
  simp only [Rg.later, Act.put, List.setIfInBounds_toArray, List.set_cons_succ, List.set_cons_zero]
  intro _ _ _ _ _ _ _ _ _ _ _ _
  have HX9 : Hid (Ex w wx) := (HX7.out.trans hx : Ex w wx)
  clear hx
  go_wp2_with fail
  go_ret
  exact ⟨rfl, HX9.out⟩
end Go.Proofs.YtbdjccmlgdfapaaGreat
