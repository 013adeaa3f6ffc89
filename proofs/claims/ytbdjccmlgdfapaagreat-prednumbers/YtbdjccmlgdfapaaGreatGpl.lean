/-
  Plain: what is read so far. What the document's own pred promises. The document's own pred: refusals ahead of the kind. The document's own pred: no kind. Plain: what a leaf is, read. p's Set in its block.
-/
import Derived.Test.YtbdjccmlgdfapaaGreatGtwo
import Derived.Test.YtbdjccmlgdfapaaGreatLnrm2
namespace Go.Proofs.YtbdjccmlgdfapaaGreat
open Go.RowKit
set_option linter.unusedVariables false
set_option linter.unusedSimpArgs false
namespace Pd
/-- What is read, made of its parts. -/
def fin (h : Hd) (o : List Pr × Nat × Nat × Nat) : Pr × Nat × Nat × Nat := if o.2.2.2 ≠ 0 then (zero, 0, 0, o.2.2.2) else (Pr.mk' h o.1, o.2.1, o.2.2.1, 0)
theorem rd4_fin (R : Nat → Nat → Pr × Nat × Nat × Nat) (c : Nat) (h : Hd) (n k : Nat) : rd4 R c (h, n, k, 0) = fin h (rdK R n k c []) := by
 unfold rd4 fin
 simp only
 rw [if_neg (by simp)]
theorem rdK_c {R : Nat → Nat → Pr × Nat × Nat × Nat} (hR : ∀ k c, (R k c).2.2.2 = 0 → (R k c).2.2.1 ≤ 40) : ∀ n k c o, c ≤ 40 → (rdK R n k c o).2.2.2 = 0 → (rdK R n k c o).2.2.1 ≤ 40
 | 0, k, c, o, hc, _ => hc
 | n + 1, k, c, o, hc, h => by
  rw [rdK] at h ⊢
  by_cases e : (R k c).2.2.2 = 0
  ·rw [if_neg (by simpa using e)] at h ⊢
   exact rdK_c hR n _ _ _ (hR k c e) h
  ·rw [if_pos e] at h
   exact absurd h e
theorem rd_c {b : List UInt8} : ∀ f (k : Int) (c : Nat), (rd b f k c).2.2.2 = 0 → (rd b f k c).2.2.1 ≤ 40
 | 0, k, c, h => by simp [rd] at h
 | f + 1, k, c, h => by
  rw [rd] at h ⊢
  split
  ·simp
  rename_i h1
  rw [if_neg h1] at h
  split
  ·simp
  rename_i h2
  rw [if_neg h2] at h
  split
  ·simp
  rename_i h3
  rw [if_neg h3] at h
  generalize rdH b (M.get b k).1 (M.get b k).2.1 = x at h ⊢
  unfold rd4 at h ⊢
  split
  ·simp
  rename_i h4
  rw [if_neg h4] at h
  split
  ·simp
  rename_i h5
  exact rdK_c (fun k c => rd_c f k c) _ _ _ _ (by omega) (by simpa using h5)
/-- So far the Kids are read. -/
def KI (b : List UInt8) (f : Nat) (h : Hd) (r : Pr × Nat × Nat × Nat) (m : Nat) (L : List Pr) (s : RS) : Prop :=
 (s.y ≠ 0 → r.2.2.2 = s.y) ∧ (s.y = 0 → s.c ≤ 40 ∧ ∃ k : Nat, s.at' = k ∧ r = fin h (rdK (fun k c => rd b f (k : Int) c) m k s.c L))
theorem KI.step {b : List UInt8} {f : Nat} {h : Hd} {r : Pr × Nat × Nat × Nat} {m : Nat} {L : List Pr} {s s' : RS} {q : Pr} (hk : KI b f h r (m + 1) L s) (h0 : s.y = 0) (hr : Rel4 (q, s') (rd b f s.at' s.c)) : KI b f h r m (L ++ [q]) s' := by
 obtain ⟨hc, k, e1, e2⟩ := hk.2 h0
 rw [e1] at hr
 obtain ⟨r1, r2⟩ := hr
 by_cases e : (rd b f k s.c).2.2.2 = 0
 ·have g := r2 e
  simp only [Prod.mk.injEq] at g
  obtain ⟨g1, g2⟩ := g
  subst g2
  refine ⟨fun hn => absurd rfl hn, fun _ => ⟨rd_c f k s.c e, _, rfl, ?_⟩⟩
  rw [e2, rdK, if_neg (by simpa using e), g1]
 ·have g := r1 e
  simp only at g
  refine ⟨fun _ => ?_, fun hn => absurd (g.symm.trans hn) e⟩
  rw [e2, rdK, if_pos e]
  unfold fin
  rw [if_pos e, g]
theorem KI.fin {b : List UInt8} {f : Nat} {h : Hd} {r : Pr × Nat × Nat × Nat} {m : Nat} {L : List Pr} {s : RS} (hk : KI b f h r m L s) (h0 : m = 0 ∨ s.y ≠ 0) : Rel4 (Pr.mk' h L, s) r := by
 by_cases e : s.y = 0
 ·have hm : m = 0 := h0.resolve_right (by simp [e])
  subst hm
  obtain ⟨hc, k, e1, e2⟩ := hk.2 e
  obtain ⟨at', c, y⟩ := s
  simp only at e e1
  subst e
  subst e1
  have hz : Pd.fin h (rdK (fun k c => rd b f (k : Int) c) 0 k c L) = (Pr.mk' h L, k, c, 0) := by simp [Pd.fin, rdK]
  rw [e2, hz]
  exact rel_0 rfl
 ·have g := hk.1 e
  exact ⟨fun _ => g.symm, fun hn => absurd (g.symm.trans hn) e⟩
/-- So far the Set is read. -/
def TI (b : List UInt8) (col : List UInt8) (c1 : Nat) (r : Pr × Nat × Nat × Nat) (m : Nat) (L : List (List UInt8)) (s : RS) : Prop :=
 (s.y ≠ 0 → r.2.2.2 = s.y) ∧ (s.y = 0 → s.c = c1 ∧ ∃ k : Nat, s.at' = k ∧ r = if (rdT b m k L).2.2 ≠ 0 then (zero, 0, 0, (rdT b m k L).2.2) else (Pr.mk' ⟨7, col, 0, 0, [], (rdT b m k L).1⟩ [], (rdT b m k L).2.1, c1, 0))
theorem TI.step {b col : List UInt8} {c1 : Nat} {r : Pr × Nat × Nat × Nat} {m : Nat} {L : List (List UInt8)} {s : RS} (hk : TI b col c1 r (m + 1) L s) (h0 : s.y = 0) : TI b col c1 r m (L ++ [(mtxt b 40 s).1]) (mtxt b 40 s).2 := by
 obtain ⟨hc, k, e1, e2⟩ := hk.2 h0
 obtain ⟨at', c, y⟩ := s
 simp only at h0 e1 hc
 subst h0
 subst e1
 subst hc
 rw [mtxt_0]
 by_cases e : (M.getText b k 40).2.2 = 0
 ·rw [if_pos e]
  refine ⟨fun hn => absurd rfl hn, fun _ => ⟨rfl, _, rfl, ?_⟩⟩
  have e3 : rdT b (m + 1) k L = rdT b m (M.getText b k 40).2.1 (L ++ [(M.getText b k 40).1]) := by rw [rdT, if_neg (by simpa using e)]
  rw [e2, e3]
 ·rw [if_neg e]
  refine ⟨fun _ => ?_, fun hn => absurd hn e⟩
  have e3 : rdT b (m + 1) k L = ([], 0, (M.getText b k 40).2.2) := by rw [rdT, if_pos e]
  rw [e2, e3, if_pos e]
theorem TI.fin {b col : List UInt8} {f c1 : Nat} {r : Pr × Nat × Nat × Nat} {m : Nat} {L : List (List UInt8)} {s : RS} (hc1 : c1 ≤ 40) (hk : TI b col c1 r m L s) (h0 : m = 0 ∨ s.y ≠ 0) : KI b f ⟨7, col, 0, 0, [], L⟩ r 0 [] s := by
 refine ⟨hk.1, fun e => ?_⟩
 have hm : m = 0 := h0.resolve_right (by simp [e])
 subst hm
 obtain ⟨hc, k, e1, e2⟩ := hk.2 e
 refine ⟨by omega, k, e1, ?_⟩
 rw [e2, hc]
 simp [rdT, rdK, Pd.fin]
end Pd
/-- What pred answers. -/
def RPo (b : List UInt8) (f g : Nat) (a : Option Addr) (cap : Nat) (k : Int) (c : Nat) (w : World) (x : Ending) (w' : World) : Prop := ∃ u q s, x = .returned (pvv u) ∧ Pd.Lay (fun z => w.heap.size ≤ z) q w' u ∧ Qdr w' g a cap b s ∧ w.grownBy w' (some g) ∧ Pd.Rel4 (q, s) (Pd.rd b f k c)
theorem RPo.mk {b : List UInt8} {f g : Nat} {a : Option Addr} {cap : Nat} {k : Int} {c : Nat} {w : World} {x : Ending} {w' : World} (u : PV) (q : Pr) (s : RS) (h1 : x = .returned (pvv u)) (h2 : Pd.Lay (fun z => w.heap.size ≤ z) q w' u) (h3 : Qdr w' g a cap b s) (h4 : w.grownBy w' (some g)) (h5 : Pd.Rel4 (q, s) (Pd.rd b f k c)) : RPo b f g a cap k c w x w' := ⟨u, q, s, h1, h2, h3, h4, h5⟩
/-- What pred does, so much depth left. -/
def RPartC (b : List UInt8) (f : Nat) : Prop := ∀ (g : Nat) (a : Option Addr) (cap : Nat) (k : Int) (c : Nat) (D : Int) (w : World), Qdr w g a cap b ⟨k, c, 0⟩ → D + f = 7 → c ≤ 40 →
  Calls Tryz.prog 51 #[.pointer (some ⟨g, 0, none⟩), .int .i64 D] w (RPo b f g a cap k c w)
namespace Rg.Fr
theorem wp_call_of {f : FuncId} {xs : Array Operand} {ats : Array TypeId} {fn : Func} {cd : Code} {o : Oper} {a : Act} {w : World} {K : Act → World → Prop} {Q : Exit → Act → World → Prop} (hf : Tryz.prog.funcs[f]? = some fn) (hname : (fn.name == "runtime.NumGoroutine") = false) (hb : fn.body = some cd)
  (ho : o.op = .call { callee := .value (.func f), args := xs, argTypes := ats })
  (hc : Calls Tryz.prog f (xs.map a.eval) w (fun e w' => ∃ v, e = .returned v ∧ K (a.put o.dst v) w')) : o.wp Tryz.prog a w K Q := by
 have hr : (execOp a.eval o).run Tryz.prog w = .ok (.enter f (xs.map a.eval)) w := by
  have e : execOp a.eval o = callFunc f (#[] ++ xs.map a.eval ++ #[]) := by unfold execOp; rw [ho]; rfl
  rw [e, run_enter hf hname hb]
  simp
 unfold Oper.wp
 rw [hr]
 refine Calls.mono hc fun e w' ⟨v, he, hv⟩ => ?_
 subst he
 exact hv
theorem wp_val_of {o : Oper} {a : Act} {w w1 : World} {v : Value} {K : Act → World → Prop} {Q : Exit → Act → World → Prop} (hr : (execOp a.eval o).run Tryz.prog w = .ok (.value v) w1) (h : K (a.put o.dst v) w1) : o.wp Tryz.prog a w K Q := by
 unfold Oper.wp; rw [hr]; exact h
end Rg.Fr
theorem pstart {w : World} {g : Nat} {a : Option Addr} {cap : Nat} {b : List UInt8} {s : RS} (h : Qdr w g a cap b s) : ∃ W, w.alloc pb0 = W ∧ Hid (Qdr W g a cap b s) ∧ Hid (PAt W w.heap.size PV.zero) ∧ w.heap.size < W.heap.size ∧ Hid (w.grownBy W (some g)) := by
 have hX : Ex w (w.alloc pb0) := (Below.refl _ _).alloc (Nat.le_refl _) _
 exact ⟨_, rfl, h.below hX, PAt.new w PV.zero, by simp, hX.grownBy _⟩
theorem pincr {w wi : World} {g : Nat} {a : Option Addr} {cap : Nat} {b : List UInt8} {k : Int} {c y : Nat} (HR : Hid (Qdr wi g a cap b ⟨k, c, y⟩)) (HPr : Hid (PAt wi w.heap.size PV.zero)) (HG : Hid (w.grownBy wi (some g))) (hsz : w.heap.size < wi.heap.size) (hgl : g < w.heap.size) : ∃ W, wi.setCell ⟨g, 2, none⟩ (.int .i64 ((c : Int) + 1)) = W ∧ Hid (Qdr W g a cap b ⟨k, c + 1, y⟩) ∧ Hid (PAt W w.heap.size PV.zero) ∧ w.heap.size < W.heap.size ∧ Hid (w.grownBy W (some g)) := by
 have hg : wi.grownBy (wi.setCell ⟨g, 2, none⟩ (.int .i64 ((c : Int) + 1))) (some g) := grown_set1 _ _ _ _
 exact ⟨_, rfl, HR.out.to (HR.out.1.set2 (c + 1)) hg, HPr.out.far hg (by simp; omega), Nat.lt_of_lt_of_le hsz hg.size, grown_tr HG.out hg⟩
theorem rafter {w wi w' : World} {g : Nat} (HG : Hid (w.grownBy wi (some g))) (HPr : Hid (PAt wi w.heap.size PV.zero)) (hsz : w.heap.size < wi.heap.size) (hgl : g < w.heap.size) (hg : wi.grownBy w' (some g)) : Hid (w.grownBy w' (some g)) ∧ Hid (PAt w' w.heap.size PV.zero) ∧ w.heap.size < w'.heap.size :=
 ⟨grown_tr HG.out hg, HPr.out.far hg (by simp; omega), Nat.lt_of_lt_of_le hsz hg.size⟩
theorem pafter {w wi w' : World} {g p : Nat} {Q : PV} (HP : Hid (PAt wi p Q)) (hsw : p < wi.heap.size) (hwp : w.heap.size < p) (hgl : g < w.heap.size) (hg : wi.grownBy w' (some g)) : Hid (PAt w' p Q) ∧ p < w'.heap.size :=
 ⟨HP.out.far hg (by simp; omega), Nat.lt_of_lt_of_le hsw hg.size⟩
theorem pnew {w wi : World} {g : Nat} {a : Option Addr} {cap : Nat} {b : List UInt8} {s : RS} (HR : Hid (Qdr wi g a cap b s)) (HG : Hid (w.grownBy wi (some g))) (HPr : Hid (PAt wi w.heap.size PV.zero)) : ∃ W, Hid (wi.alloc pb0 = W) ∧ Hid (Qdr W g a cap b s) ∧ Hid (w.grownBy W (some g)) ∧ Hid (PAt W w.heap.size PV.zero) ∧ Hid (PAt W wi.heap.size PV.zero) ∧ wi.heap.size < W.heap.size := by
 have hX : Ex wi (wi.alloc pb0) := (Below.refl _ _).alloc (Nat.le_refl _) _
 exact ⟨_, rfl, HR.out.below hX, grown_tr HG.out (hX.grownBy _), HPr.out.below hX, PAt.new wi PV.zero, by simp⟩
theorem pstore {w wi : World} {g p off : Nat} {a : Option Addr} {cap : Nat} {b : List UInt8} {s0 s : RS} {Q : PV} {v : Value} (Q2 : PV) (H : Hid (Qdr w g a cap b s0)) (HP : Hid (PAt wi p Q)) (HPr : Hid (PAt wi w.heap.size PV.zero)) (HR : Hid (Qdr wi g a cap b s)) (HG : Hid (w.grownBy wi (some g))) (hsz : w.heap.size < wi.heap.size) (hsw : p < wi.heap.size) (hwp : w.heap.size < p) (hset : (pc Q).set off v = pc Q2) : ∃ W, wi.setCell ⟨p, off, none⟩ v = W ∧ Hid (PAt W p Q2) ∧ Hid (PAt W w.heap.size PV.zero) ∧ Hid (Qdr W g a cap b s) ∧ Hid (w.grownBy W (some g)) ∧ w.heap.size < W.heap.size ∧ p < W.heap.size := by
 have hg : wi.grownBy (wi.setCell ⟨p, off, none⟩ v) (some p) := grown_set1 _ _ _ _
 exact ⟨_, rfl, HP.out.set hset, HPr.out.far hg (by simp; omega), Qdr.new H.out HR.out hg (fun j hj => by simp at hj; omega), grown_trN HG.out hg (fun j hj => .inr (by simp at hj; omega)), Nat.lt_of_lt_of_le hsz hg.size, Nat.lt_of_lt_of_le hsw hg.size⟩
theorem qfac {w : World} {g : Nat} {a : Option Addr} {cap : Nat} {b : List UInt8} {x : Int} {c y : Nat} (h : Hid (Qdr w g a cap b ⟨x, c, y⟩)) : (w.cell? ⟨g, 0, none⟩ = some (.slice a b.length cap) ∧ w.cell? ⟨g, 1, none⟩ = some (.int .i64 x) ∧ w.cell? ⟨g, 2, none⟩ = some (.int .i64 (c : Int)) ∧ w.cell? ⟨g, 3, none⟩ = some (.int .i64 (y : Int))) ∧ w.frozen? ⟨g, 1, none⟩ = false ∧ w.frozen? ⟨g, 2, none⟩ = false ∧ w.frozen? ⟨g, 3, none⟩ = false := ⟨h.out.1.all, h.out.1.fro⟩
theorem pfac {w : World} {g : Nat} {k n m : Int} {col s : List UInt8} {sa ka : Option Addr} {sn sc kn kc : Nat} (h : Hid (PAt w g ⟨k, col, n, m, s, (sa, sn, sc), ka, kn, kc⟩)) : (w.cell? ⟨g, 0, none⟩ = some (.int .i64 k) ∧ w.cell? ⟨g, 1, none⟩ = some (.string (str col)) ∧ w.cell? ⟨g, 2, none⟩ = some (.int .i64 n) ∧ w.cell? ⟨g, 3, none⟩ = some (.int .i64 m) ∧ w.cell? ⟨g, 4, none⟩ = some (.string (str s)) ∧ w.cell? ⟨g, 5, none⟩ = some (.slice sa sn sc) ∧ w.cell? ⟨g, 6, none⟩ = some (.slice ka kn kc)) ∧ w.frozen? ⟨g, 0, none⟩ = false ∧ w.frozen? ⟨g, 1, none⟩ = false ∧ w.frozen? ⟨g, 2, none⟩ = false ∧ w.frozen? ⟨g, 3, none⟩ = false ∧ w.frozen? ⟨g, 4, none⟩ = false ∧ w.frozen? ⟨g, 5, none⟩ = false ∧ w.frozen? ⟨g, 6, none⟩ = false := ⟨h.out.all, h.out.fro⟩
end Go.Proofs.YtbdjccmlgdfapaaGreat
namespace Go.Proofs.YtbdjccmlgdfapaaGreat
open Go.RowKit
set_option linter.unusedVariables false
set_option linter.unusedSimpArgs false
set_option maxHeartbeats 16000000 in
set_option maxRecDepth 100000 in
theorem rpart_zero {b : List UInt8} {f : Nat} (g : Nat) (a : Option Addr) (cap : Nat) (k : Int) (c : Nat) (D : Int) (w : World) (h : Qdr w g a cap b ⟨k, c, 0⟩) (hD : D + 0 = 7) (hc : c ≤ 40) :
  Calls Tryz.prog 51 #[.pointer (some ⟨g, 0, none⟩), .int .i64 D] w (RPo b 0 g a cap k c w) := by
 have H : Hid (Qdr w g a cap b ⟨k, c, 0⟩) := h
 have hglt : g < w.heap.size := h.1.lt
 obtain ⟨w1, hw1, HR1, HPr1, hsz1, HG1⟩ := pstart h
 have t0 : (6 : Int) < D := by omega
 have hDD : D = 7 := by omega
 subst hDD
 clear h
 go_enter Tryz.func51, Tryz.ntmps51
 go_wp2_with fail
 go_at_call 80
 refine (rrefuse_is g a cap b ⟨k, c, 0⟩ 24 24 w1 HR1.out rfl).mono ?_
 rintro e w2 ⟨rfl, hR, hg⟩
 rw [show Pd.refu 24 ⟨k, c, 0⟩ = ⟨k, c, 24⟩ from rfl] at hR
 have HR2 : Hid (Qdr w2 g a cap b ⟨k, c, 24⟩) := hR
 obtain ⟨HG2, HPr2, hsz2⟩ := rafter HG1 HPr1 hsz1 hglt hg
 clear hR hg
 obtain ⟨⟨i0, i1, i2, i3⟩, j1, j2, j3⟩ := qfac HR2
 obtain ⟨w3, hw3, HR3, HPr3, hsz3, HG3⟩ := pincr HR2 HPr2 HG2 hsz2 hglt
 obtain ⟨⟨k0, k1, k2, k3⟩, l1, l2, l3⟩ := qfac HR3
 have HKK : Hid (Pd.mnum b ⟨k, c + 1, 24⟩ = (0, ⟨k, c + 1, 24⟩)) := (Pd.mnum_y (by simp) : Pd.mnum b ⟨k, c + 1, 24⟩ = _)
 by_cases hm : c + 1 ≤ 40
 ·have t1 : ¬ (40 : Int) < (c : Int) + 1 := by omega
  go_wp2_with fail
  go_at_call 81
  refine (rnum_is g a cap b ⟨k, c + 1, 24⟩ w3 HR3.out).mono ?_
  rintro e w4 ⟨rfl, hR, hg⟩
  rw [HKK.out] at hR ⊢
  simp only at hR ⊢
  have HR4 : Hid (Qdr w4 g a cap b ⟨k, c + 1, 24⟩) := hR
  obtain ⟨HG4, HPr4, hsz4⟩ := rafter HG3 HPr3 hsz3 hglt hg
  clear hR hg
  clear i0 i1 i2 i3 j1 j2 j3 k0 k1 k2 k3 l1 l2 l3
  obtain ⟨w5, HW5, HR5, HG5, HPr5, HP5, hsz5⟩ := pnew HR4 HG4 HPr4
  go_upto_region 8 with fail
  rw [HW5.out]
  obtain ⟨⟨i0, i1, i2, i3⟩, j1, j2, j3⟩ := qfac HR5
  obtain ⟨c0, c1, c2, c3, c4, c5, c6⟩ := HP5.out.all
  obtain ⟨z0, z1, z2, z3, z4, z5, z6⟩ := HPr5.out.fro
  obtain ⟨y0, y1, y2, y3, y4, y5, y6⟩ := HPr5.out.all
  simp only [PV.zero] at c0 c1 c2 c3 c4 c5 c6
  go_wp2_with fail
  have hP9 := HPr5.out.store PV.zero
  have hg9 : w5.grownBy (pset w5 w.heap.size PV.zero) (some w.heap.size) := grown_pset _ _ _
  refine bodyPost_ret (v := pvv PV.zero) (res_pred Tryz.results51 rfl hP9) rfl (RPo.mk _ Pd.zero ⟨k, c + 1, 24⟩ rfl (lay_zero _ _) ?_ ?_ ?_)
  ·exact Qdr.new H.out HR5.out hg9 (fun j hj => by simp at hj; omega)
  ·exact grown_trN HG5.out hg9 (fun j hj => .inr (by simp at hj; omega))
  ·exact Pd.rel_no (by decide) rfl
 ·have t1 : (40 : Int) < (c : Int) + 1 := by omega
  go_wp2_with fail
  go_at_call 80
  refine (rrefuse_is g a cap b ⟨k, c + 1, 24⟩ 4 4 w3 HR3.out rfl).mono ?_
  rintro e w4 ⟨rfl, hR, hg⟩
  rw [show Pd.refu 4 ⟨k, c + 1, 24⟩ = ⟨k, c + 1, 24⟩ from rfl] at hR
  have HR4 : Hid (Qdr w4 g a cap b ⟨k, c + 1, 24⟩) := hR
  obtain ⟨HG4, HPr4, hsz4⟩ := rafter HG3 HPr3 hsz3 hglt hg
  clear hR hg
  go_wp2_with fail
  go_at_call 81
  refine (rnum_is g a cap b ⟨k, c + 1, 24⟩ w4 HR4.out).mono ?_
  rintro e w5 ⟨rfl, hR, hg⟩
  rw [HKK.out] at hR ⊢
  simp only at hR ⊢
  have HR5 : Hid (Qdr w5 g a cap b ⟨k, c + 1, 24⟩) := hR
  obtain ⟨HG5, HPr5, hsz5⟩ := rafter HG4 HPr4 hsz4 hglt hg
  clear hR hg
  clear i0 i1 i2 i3 j1 j2 j3 k0 k1 k2 k3 l1 l2 l3
  obtain ⟨w6, HW6, HR6, HG6, HPr6, HP6, hsz6⟩ := pnew HR5 HG5 HPr5
  go_upto_region 8 with fail
  rw [HW6.out]
  obtain ⟨⟨i0, i1, i2, i3⟩, j1, j2, j3⟩ := qfac HR6
  obtain ⟨c0, c1, c2, c3, c4, c5, c6⟩ := HP6.out.all
  obtain ⟨z0, z1, z2, z3, z4, z5, z6⟩ := HPr6.out.fro
  obtain ⟨y0, y1, y2, y3, y4, y5, y6⟩ := HPr6.out.all
  simp only [PV.zero] at c0 c1 c2 c3 c4 c5 c6
  go_wp2_with fail
  have hP9 := HPr6.out.store PV.zero
  have hg9 : w6.grownBy (pset w6 w.heap.size PV.zero) (some w.heap.size) := grown_pset _ _ _
  refine bodyPost_ret (v := pvv PV.zero) (res_pred Tryz.results51 rfl hP9) rfl (RPo.mk _ Pd.zero ⟨k, c + 1, 24⟩ rfl (lay_zero _ _) ?_ ?_ ?_)
  ·exact Qdr.new H.out HR6.out hg9 (fun j hj => by simp at hj; omega)
  ·exact grown_trN HG6.out hg9 (fun j hj => .inr (by simp at hj; omega))
  ·exact Pd.rel_no (by decide) rfl
set_option maxHeartbeats 16000000 in
set_option maxRecDepth 100000 in
theorem rpart_many {b : List UInt8} {f : Nat} (g : Nat) (a : Option Addr) (cap : Nat) (k : Int) (c : Nat) (D : Int) (w : World) (h : Qdr w g a cap b ⟨k, c, 0⟩) (hD : D + (f + 1) = 7) (hc : c ≤ 40) (hm : 40 < c + 1) :
  Calls Tryz.prog 51 #[.pointer (some ⟨g, 0, none⟩), .int .i64 D] w (RPo b (f + 1) g a cap k c w) := by
 have H : Hid (Qdr w g a cap b ⟨k, c, 0⟩) := h
 have hglt : g < w.heap.size := h.1.lt
 obtain ⟨w1, hw1, HR1, HPr1, hsz1, HG1⟩ := pstart h
 have t0 : ¬ (6 : Int) < D := by omega
 have t1 : (40 : Int) < (c : Int) + 1 := by omega
 have HRD : Hid (Pd.rd b (f + 1) k c = (Pd.zero, 0, 0, 4)) := (by rw [Pd.rd, if_pos hm] : Pd.rd b (f + 1) k c = _)
 have HKK : Hid (Pd.mnum b ⟨k, c + 1, 4⟩ = (0, ⟨k, c + 1, 4⟩)) := (Pd.mnum_y (by simp) : Pd.mnum b ⟨k, c + 1, 4⟩ = _)
 obtain ⟨⟨i0, i1, i2, i3⟩, j1, j2, j3⟩ := qfac HR1
 obtain ⟨w2, hw2, HR2, HPr2, hsz2, HG2⟩ := pincr HR1 HPr1 HG1 hsz1 hglt
 obtain ⟨⟨k0, k1, k2, k3⟩, l1, l2, l3⟩ := qfac HR2
 clear h
 go_enter Tryz.func51, Tryz.ntmps51
 go_wp2_with fail
 go_at_call 80
 refine (rrefuse_is g a cap b ⟨k, c + 1, 0⟩ 4 4 w2 HR2.out rfl).mono ?_
 rintro e w3 ⟨rfl, hR, hg⟩
 rw [show Pd.refu 4 ⟨k, c + 1, 0⟩ = ⟨k, c + 1, 4⟩ from rfl] at hR
 have HR3 : Hid (Qdr w3 g a cap b ⟨k, c + 1, 4⟩) := hR
 obtain ⟨HG3, HPr3, hsz3⟩ := rafter HG2 HPr2 hsz2 hglt hg
 clear hR hg
 go_wp2_with fail
 go_at_call 81
 refine (rnum_is g a cap b ⟨k, c + 1, 4⟩ w3 HR3.out).mono ?_
 rintro e w4 ⟨rfl, hR, hg⟩
 rw [HKK.out] at hR ⊢
 simp only at hR ⊢
 have HR4 : Hid (Qdr w4 g a cap b ⟨k, c + 1, 4⟩) := hR
 obtain ⟨HG4, HPr4, hsz4⟩ := rafter HG3 HPr3 hsz3 hglt hg
 clear hR hg
 clear i0 i1 i2 i3 j1 j2 j3 k0 k1 k2 k3 l1 l2 l3
 obtain ⟨w5, HW5, HR5, HG5, HPr5, HP5, hsz5⟩ := pnew HR4 HG4 HPr4
 go_upto_region 8 with fail
 rw [HW5.out]
 obtain ⟨⟨i0, i1, i2, i3⟩, j1, j2, j3⟩ := qfac HR5
 obtain ⟨c0, c1, c2, c3, c4, c5, c6⟩ := HP5.out.all
 obtain ⟨z0, z1, z2, z3, z4, z5, z6⟩ := HPr5.out.fro
 obtain ⟨y0, y1, y2, y3, y4, y5, y6⟩ := HPr5.out.all
 simp only [PV.zero] at c0 c1 c2 c3 c4 c5 c6
 go_wp2_with fail
 have hP9 := HPr5.out.store PV.zero
 have hg9 : w5.grownBy (pset w5 w.heap.size PV.zero) (some w.heap.size) := grown_pset _ _ _
 refine bodyPost_ret (v := pvv PV.zero) (res_pred Tryz.results51 rfl hP9) rfl (RPo.mk _ Pd.zero ⟨k, c + 1, 4⟩ rfl (lay_zero _ _) ?_ ?_ ?_)
 ·exact Qdr.new H.out HR5.out hg9 (fun j hj => by simp at hj; omega)
 ·exact grown_trN HG5.out hg9 (fun j hj => .inr (by simp at hj; omega))
 ·exact by rw [HRD.out]; exact Pd.rel_no (by decide) rfl
set_option maxHeartbeats 16000000 in
set_option maxRecDepth 100000 in
theorem rpart_nonum {b : List UInt8} {f : Nat} (g : Nat) (a : Option Addr) (cap : Nat) (k : Int) (c : Nat) (D : Int) (w : World) (h : Qdr w g a cap b ⟨k, c, 0⟩) (hD : D + (f + 1) = 7) (hc : c ≤ 40) (hm : c + 1 ≤ 40) (E : Nat) (hE : (M.get b k).2.2 = E) (hE0 : E ≠ 0) :
  Calls Tryz.prog 51 #[.pointer (some ⟨g, 0, none⟩), .int .i64 D] w (RPo b (f + 1) g a cap k c w) := by
 have H : Hid (Qdr w g a cap b ⟨k, c, 0⟩) := h
 have hglt : g < w.heap.size := h.1.lt
 obtain ⟨w1, hw1, HR1, HPr1, hsz1, HG1⟩ := pstart h
 have t0 : ¬ (6 : Int) < D := by omega
 have t1 : ¬ (40 : Int) < (c : Int) + 1 := by omega
 have t2 : ((E : Int) == 0) = false := beq_eq_false_iff_ne.2 (by omega)
 have t3 : ((E : Int) != 0) = true := by simp [bne, t2]
 have HE0 : Hid (E ≠ 0) := hE0
 have HRD : Hid (Pd.rd b (f + 1) k c = (Pd.zero, 0, 0, E)) := (by rw [Pd.rd, if_neg (by omega), if_pos (by rw [hE]; exact hE0), hE] : Pd.rd b (f + 1) k c = _)
 have HKK : Hid (Pd.mnum b ⟨k, c + 1, 0⟩ = (0, ⟨k, c + 1, E⟩)) := (by rw [Pd.mnum_0, if_neg (by rw [hE]; exact hE0), hE] : Pd.mnum b ⟨k, c + 1, 0⟩ = _)
 clear hE hE0
 obtain ⟨⟨i0, i1, i2, i3⟩, j1, j2, j3⟩ := qfac HR1
 obtain ⟨w2, hw2, HR2, HPr2, hsz2, HG2⟩ := pincr HR1 HPr1 HG1 hsz1 hglt
 obtain ⟨⟨k0, k1, k2, k3⟩, l1, l2, l3⟩ := qfac HR2
 clear h
 go_enter Tryz.func51, Tryz.ntmps51
 go_wp2_with fail
 go_at_call 81
 refine (rnum_is g a cap b ⟨k, c + 1, 0⟩ w2 HR2.out).mono ?_
 rintro e w3 ⟨rfl, hR, hg⟩
 rw [HKK.out] at hR ⊢
 simp only at hR ⊢
 have HR3 : Hid (Qdr w3 g a cap b ⟨k, c + 1, E⟩) := hR
 obtain ⟨HG3, HPr3, hsz3⟩ := rafter HG2 HPr2 hsz2 hglt hg
 clear hR hg
 clear i0 i1 i2 i3 j1 j2 j3 k0 k1 k2 k3 l1 l2 l3
 obtain ⟨w4, HW4, HR4, HG4, HPr4, HP4, hsz4⟩ := pnew HR3 HG3 HPr3
 go_upto_region 8 with fail
 rw [HW4.out]
 obtain ⟨⟨i0, i1, i2, i3⟩, j1, j2, j3⟩ := qfac HR4
 obtain ⟨c0, c1, c2, c3, c4, c5, c6⟩ := HP4.out.all
 obtain ⟨z0, z1, z2, z3, z4, z5, z6⟩ := HPr4.out.fro
 obtain ⟨y0, y1, y2, y3, y4, y5, y6⟩ := HPr4.out.all
 simp only [PV.zero] at c0 c1 c2 c3 c4 c5 c6
 go_wp2_with fail
 have hP9 := HPr4.out.store PV.zero
 have hg9 : w4.grownBy (pset w4 w.heap.size PV.zero) (some w.heap.size) := grown_pset _ _ _
 refine bodyPost_ret (v := pvv PV.zero) (res_pred Tryz.results51 rfl hP9) rfl (RPo.mk _ Pd.zero ⟨k, c + 1, E⟩ rfl (lay_zero _ _) ?_ ?_ ?_)
 ·exact Qdr.new H.out HR4.out hg9 (fun j hj => by simp at hj; omega)
 ·exact grown_trN HG4.out hg9 (fun j hj => .inr (by simp at hj; omega))
 ·exact by rw [HRD.out]; exact Pd.rel_no HE0.out rfl
end Go.Proofs.YtbdjccmlgdfapaaGreat
namespace Go.Proofs.YtbdjccmlgdfapaaGreat
open Go.RowKit
set_option linter.unusedVariables false
set_option linter.unusedSimpArgs false
set_option maxHeartbeats 16000000 in
set_option maxRecDepth 100000 in
theorem rpart_nokind {b : List UInt8} {f : Nat} (g : Nat) (a : Option Addr) (cap : Nat) (k : Int) (c : Nat) (D : Int) (w : World) (h : Qdr w g a cap b ⟨k, c, 0⟩) (hD : D + (f + 1) = 7) (hc : c ≤ 40) (hm : c + 1 ≤ 40) (K k1 : Nat) (hE : M.get b k = (K, k1, 0)) (hK : K < 1 ∨ 10 < K) :
  Calls Tryz.prog 51 #[.pointer (some ⟨g, 0, none⟩), .int .i64 D] w (RPo b (f + 1) g a cap k c w) := by
 have H : Hid (Qdr w g a cap b ⟨k, c, 0⟩) := h
 have hglt : g < w.heap.size := h.1.lt
 obtain ⟨w1, hw1, HR1, HPr1, hsz1, HG1⟩ := pstart h
 have t0 : ¬ (6 : Int) < D := by omega
 have t1 : ¬ (40 : Int) < (c : Int) + 1 := by omega
 have HKK : Hid (Pd.mnum b ⟨k, c + 1, 0⟩ = (K, ⟨k1, c + 1, 0⟩)) := (by rw [Pd.mnum_0, hE]; rfl : Pd.mnum b ⟨k, c + 1, 0⟩ = _)
 have HRD : Hid (Pd.rd b (f + 1) k c = (Pd.zero, 0, 0, 12)) := (by rw [Pd.rd, if_neg (by omega), hE, if_neg (by simp), if_pos hK] : Pd.rd b (f + 1) k c = _)
 clear hE
 obtain ⟨⟨i0, i1, i2, i3⟩, j1, j2, j3⟩ := qfac HR1
 obtain ⟨w2, hw2, HR2, HPr2, hsz2, HG2⟩ := pincr HR1 HPr1 HG1 hsz1 hglt
 obtain ⟨⟨k0, k1', k2, k3⟩, l1, l2, l3⟩ := qfac HR2
 clear h
 go_enter Tryz.func51, Tryz.ntmps51
 go_wp2_with fail
 go_at_call 81
 refine (rnum_is g a cap b ⟨k, c + 1, 0⟩ w2 HR2.out).mono ?_
 rintro e w3 ⟨rfl, hR, hg⟩
 rw [HKK.out] at hR ⊢
 simp only at hR ⊢
 have HR3 : Hid (Qdr w3 g a cap b ⟨k1, c + 1, 0⟩) := hR
 obtain ⟨HG3, HPr3, hsz3⟩ := rafter HG2 HPr2 hsz2 hglt hg
 clear hR hg
 clear i0 i1 i2 i3 j1 j2 j3 k0 k1' k2 k3 l1 l2 l3
 obtain ⟨w4, HW4, HR4, HG4, HPr4, HP4, hsz4⟩ := pnew HR3 HG3 HPr3
 go_upto_region 8 with fail
 rw [HW4.out]
 have hsw4 : w3.heap.size < w4.heap.size := hsz4
 replace hsz4 : w.heap.size < w4.heap.size := Nat.lt_trans hsz3 hsw4
 obtain ⟨⟨i0, i1, i2, i3⟩, j1, j2, j3⟩ := qfac HR4
 obtain ⟨c0, c1, c2, c3, c4, c5, c6⟩ := HP4.out.all
 obtain ⟨d0, d1, d2, d3, d4, d5, d6⟩ := HP4.out.fro
 simp only [PV.zero] at c0 c1 c2 c3 c4 c5 c6
 rcases hK with hK | hK
 ·have t4 : (K : Int) < 1 := by omega
  go_wp2_with fail
  go_at_call 80
  refine (rrefuse_is g a cap b ⟨k1, c + 1, 0⟩ 12 12 w4 HR4.out rfl).mono ?_
  rintro e w5 ⟨rfl, hR, hg⟩
  rw [show Pd.refu 12 ⟨k1, c + 1, 0⟩ = ⟨k1, c + 1, 12⟩ from rfl] at hR
  obtain ⟨HP5, hsw5⟩ := pafter HP4 hsw4 hsz3 hglt hg
  have HR5 : Hid (Qdr w5 g a cap b ⟨k1, c + 1, 12⟩) := hR
  obtain ⟨HG5, HPr5, hsz5⟩ := rafter HG4 HPr4 hsz4 hglt hg
  clear hR hg
  clear i0 i1 i2 i3 j1 j2 j3 c0 c1 c2 c3 c4 c5 c6 d0 d1 d2 d3 d4 d5 d6
  obtain ⟨⟨i0, i1, i2, i3⟩, j1, j2, j3⟩ := qfac HR5
  obtain ⟨c0, c1, c2, c3, c4, c5, c6⟩ := HP5.out.all
  obtain ⟨z0, z1, z2, z3, z4, z5, z6⟩ := HPr5.out.fro
  obtain ⟨y0, y1, y2, y3, y4, y5, y6⟩ := HPr5.out.all
  simp only [PV.zero] at c0 c1 c2 c3 c4 c5 c6
  go_wp2_with fail
  have hP9 := HPr5.out.store PV.zero
  have hg9 : w5.grownBy (pset w5 w.heap.size PV.zero) (some w.heap.size) := grown_pset _ _ _
  refine bodyPost_ret (v := pvv PV.zero) (res_pred Tryz.results51 rfl hP9) rfl (RPo.mk _ Pd.zero ⟨k1, c + 1, 12⟩ rfl (lay_zero _ _) ?_ ?_ ?_)
  ·exact Qdr.new H.out HR5.out hg9 (fun j hj => by simp at hj; omega)
  ·exact grown_trN HG5.out hg9 (fun j hj => .inr (by simp at hj; omega))
  ·exact by rw [HRD.out]; exact Pd.rel_no (by decide) rfl
 ·have t4 : ¬ (K : Int) < 1 := by omega
  have t5 : (10 : Int) < (K : Int) := by omega
  go_wp2_with fail
  go_at_call 80
  refine (rrefuse_is g a cap b ⟨k1, c + 1, 0⟩ 12 12 w4 HR4.out rfl).mono ?_
  rintro e w5 ⟨rfl, hR, hg⟩
  rw [show Pd.refu 12 ⟨k1, c + 1, 0⟩ = ⟨k1, c + 1, 12⟩ from rfl] at hR
  obtain ⟨HP5, hsw5⟩ := pafter HP4 hsw4 hsz3 hglt hg
  have HR5 : Hid (Qdr w5 g a cap b ⟨k1, c + 1, 12⟩) := hR
  obtain ⟨HG5, HPr5, hsz5⟩ := rafter HG4 HPr4 hsz4 hglt hg
  clear hR hg
  clear i0 i1 i2 i3 j1 j2 j3 c0 c1 c2 c3 c4 c5 c6 d0 d1 d2 d3 d4 d5 d6
  obtain ⟨⟨i0, i1, i2, i3⟩, j1, j2, j3⟩ := qfac HR5
  obtain ⟨c0, c1, c2, c3, c4, c5, c6⟩ := HP5.out.all
  obtain ⟨z0, z1, z2, z3, z4, z5, z6⟩ := HPr5.out.fro
  obtain ⟨y0, y1, y2, y3, y4, y5, y6⟩ := HPr5.out.all
  simp only [PV.zero] at c0 c1 c2 c3 c4 c5 c6
  go_wp2_with fail
  have hP9 := HPr5.out.store PV.zero
  have hg9 : w5.grownBy (pset w5 w.heap.size PV.zero) (some w.heap.size) := grown_pset _ _ _
  refine bodyPost_ret (v := pvv PV.zero) (res_pred Tryz.results51 rfl hP9) rfl (RPo.mk _ Pd.zero ⟨k1, c + 1, 12⟩ rfl (lay_zero _ _) ?_ ?_ ?_)
  ·exact Qdr.new H.out HR5.out hg9 (fun j hj => by simp at hj; omega)
  ·exact grown_trN HG5.out hg9 (fun j hj => .inr (by simp at hj; omega))
  ·exact by rw [HRD.out]; exact Pd.rel_no (by decide) rfl
end Go.Proofs.YtbdjccmlgdfapaaGreat
namespace Go.Proofs.YtbdjccmlgdfapaaGreat
open Go.RowKit
set_option linter.unusedVariables false
set_option linter.unusedSimpArgs false
namespace Pd
theorem rd_to {b : List UInt8} {f : Nat} {k : Int} {c K k1 : Nat} (hm : c + 1 ≤ 40) (hE : M.get b k = (K, k1, 0)) (h1 : 1 ≤ K) (h2 : K ≤ 10) : rd b (f + 1) k c = rd4 (fun k c => rd b f (k : Int) c) (c + 1) (rdH b K k1) := by
 rw [rd, if_neg (by omega), hE, if_neg (by simp), if_neg (by simp only; omega)]
theorem leaf10 {R : Nat → Nat → Pr × Nat × Nat × Nat} {b : List UInt8} {k1 c V1 V2 : Nat} {s2 s3 : RS} (h1 : mnum b ⟨(k1 : Int), c, 0⟩ = (V1, s2)) (h2 : mnum b s2 = (V2, s3)) : Rel4 (Pr.mk' ⟨10, [], M.zag (V1 : Int), M.zag (V2 : Int), [], []⟩ [], s3) (rd4 R c (rdH b 10 k1)) := by
 rw [mnum_0] at h1
 unfold rdH
 rw [if_neg (by simp), if_neg (by simp), if_pos rfl]
 by_cases e1 : (M.get b k1).2.2 = 0
 ·rw [if_pos e1] at h1
  cases h1
  rw [mnum_0] at h2
  rw [if_neg (by simpa using e1)]
  by_cases e2 : (M.get b (M.get b k1).2.1).2.2 = 0
  ·rw [if_pos e2] at h2
   cases h2
   rw [if_neg (by simpa using e2), rd4_0]
   exact rel_0 rfl
  ·rw [if_neg e2] at h2
   cases h2
   rw [if_pos e2, rd4_no _ _ _ _ _ _ e2]
   exact rel_no e2 rfl
 ·rw [if_neg e1] at h1
  cases h1
  rw [mnum_y e1] at h2
  cases h2
  rw [if_pos e1, rd4_no _ _ _ _ _ _ e1]
  exact rel_no e1 rfl
/-- Behind the column. -/
theorem leafCol {R : Nat → Nat → Pr × Nat × Nat × Nat} {b : List UInt8} {K k1 c : Nat} {C : List UInt8} {s2 : RS} (h1 : mtxt b 12 ⟨(k1 : Int), c, 0⟩ = (C, s2)) (hK : 3 < K) (hK2 : K < 10) {P : Pr × Nat × Nat × Nat → Prop} (hbad : ∀ e, e ≠ 0 → s2.y = e → P (zero, 0, 0, e)) (hok : ∀ k2 : Nat, s2 = ⟨(k2 : Int), c, 0⟩ → P (rd4 R c (rdC2 b K C k2))) : P (rd4 R c (rdH b K k1)) := by
 rw [mtxt_0] at h1
 unfold rdH
 rw [if_neg (by omega), if_neg (by omega), if_neg (by omega)]
 by_cases e1 : (M.getText b k1 12).2.2 = 0
 ·rw [if_pos e1] at h1
  cases h1
  rw [if_neg (by simpa using e1)]
  exact hok _ rfl
 ·rw [if_neg e1] at h1
  cases h1
  rw [if_pos e1, rd4_no _ _ _ _ _ _ e1]
  exact hbad _ e1 rfl
theorem leaf45 {R : Nat → Nat → Pr × Nat × Nat × Nat} {b : List UInt8} {K k1 c V : Nat} {C : List UInt8} {s2 s3 : RS} (h1 : mtxt b 12 ⟨(k1 : Int), c, 0⟩ = (C, s2)) (h2 : mnum b s2 = (V, s3)) (hK : K = 4 ∨ K = 5) : Rel4 (Pr.mk' ⟨(K : Int), C, M.zag (V : Int), 0, [], []⟩ [], s3) (rd4 R c (rdH b K k1)) := by
 refine leafCol (P := fun r => Rel4 (Pr.mk' ⟨(K : Int), C, M.zag (V : Int), 0, [], []⟩ [], s3) r) h1 (by omega) (by omega) (fun e he hy => ?_) (fun k2 hs => ?_)
 ·rw [mnum_y (by rw [hy]; exact he)] at h2
  cases h2
  exact rel_no he hy
 ·subst hs
  rw [mnum_0] at h2
  unfold rdC2
  rw [if_pos hK]
  by_cases e2 : (M.get b k2).2.2 = 0
  ·rw [if_pos e2] at h2
   cases h2
   rw [if_neg (by simpa using e2), rd4_0]
   exact rel_0 rfl
  ·rw [if_neg e2] at h2
   cases h2
   rw [if_pos e2, rd4_no _ _ _ _ _ _ e2]
   exact rel_no e2 rfl
theorem leaf68 {R : Nat → Nat → Pr × Nat × Nat × Nat} {b : List UInt8} {K k1 c : Nat} {C S : List UInt8} {s2 s3 : RS} (h1 : mtxt b 12 ⟨(k1 : Int), c, 0⟩ = (C, s2)) (h2 : mtxt b 40 s2 = (S, s3)) (hK : K = 6 ∨ K = 8) : Rel4 (Pr.mk' ⟨(K : Int), C, 0, 0, S, []⟩ [], s3) (rd4 R c (rdH b K k1)) := by
 refine leafCol (P := fun r => Rel4 (Pr.mk' ⟨(K : Int), C, 0, 0, S, []⟩ [], s3) r) h1 (by omega) (by omega) (fun e he hy => ?_) (fun k2 hs => ?_)
 ·rw [mtxt_y (by rw [hy]; exact he)] at h2
  cases h2
  exact rel_no he hy
 ·subst hs
  rw [mtxt_0] at h2
  unfold rdC2
  rw [if_neg (by omega), if_pos hK]
  by_cases e2 : (M.getText b k2 40).2.2 = 0
  ·rw [if_pos e2] at h2
   cases h2
   rw [if_neg (by simpa using e2), rd4_0]
   exact rel_0 rfl
  ·rw [if_neg e2] at h2
   cases h2
   rw [if_pos e2, rd4_no _ _ _ _ _ _ e2]
   exact rel_no e2 rfl
theorem leaf9 {R : Nat → Nat → Pr × Nat × Nat × Nat} {b : List UInt8} {k1 c : Nat} {C : List UInt8} {s2 : RS} (h1 : mtxt b 12 ⟨(k1 : Int), c, 0⟩ = (C, s2)) : Rel4 (Pr.mk' ⟨9, C, 0, 0, [], []⟩ [], s2) (rd4 R c (rdH b 9 k1)) := by
 refine leafCol (P := fun r => Rel4 (Pr.mk' ⟨9, C, 0, 0, [], []⟩ [], s2) r) h1 (by omega) (by omega) (fun e he hy => ?_) (fun k2 hs => ?_)
 ·exact rel_no he hy
 ·subst hs
  unfold rdC2
  rw [if_neg (by omega), if_neg (by omega), if_neg (by omega), rd4_0]
  exact rel_0 rfl
theorem mnum_no {b : List UInt8} {s s3 : RS} {V : Nat} (h : mnum b s = (V, s3)) (hV : 0 < V) : s3.y = 0 := by
 unfold mnum at h
 split at h
 ·split at h
  ·cases h; rfl
  ·cases h; omega
 ·cases h; omega
/-- A Set's texts are still to be read. -/
theorem leaf7 {R : Nat → Nat → Pr × Nat × Nat × Nat} {b : List UInt8} {k1 c V : Nat} {C : List UInt8} {s2 s3 : RS} (h1 : mtxt b 12 ⟨(k1 : Int), c, 0⟩ = (C, s2)) (h2 : mnum b s2 = (V, s3)) : (V ≤ 8 → TI b C c (rd4 R c (rdH b 7 k1)) V [] s3) ∧ (8 < V → (rd4 R c (rdH b 7 k1)).2.2.2 = 4) := by
 refine leafCol (P := fun r => (V ≤ 8 → TI b C c r V [] s3) ∧ (8 < V → r.2.2.2 = 4)) h1 (by omega) (by omega) (fun e he hy => ?_) (fun k2 hs => ?_)
 ·rw [mnum_y (by rw [hy]; exact he)] at h2
  cases h2
  refine ⟨fun _ => ⟨fun _ => hy.symm, fun h0 => absurd (hy.symm.trans h0) he⟩, fun h => by omega⟩
 ·subst hs
  rw [mnum_0] at h2
  unfold rdC2
  rw [if_neg (by omega), if_neg (by omega), if_pos rfl]
  by_cases e2 : (M.get b k2).2.2 = 0
  ·rw [if_pos e2] at h2
   cases h2
   rw [if_neg (by simpa using e2)]
   refine ⟨fun hv => ?_, fun hv => ?_⟩
   ·rw [if_neg (by omega)]
    refine ⟨fun h => absurd rfl h, fun _ => ⟨rfl, _, rfl, ?_⟩⟩
    by_cases e3 : (rdT b (M.get b k2).1 (M.get b k2).2.1 []).2.2 = 0
    ·rw [if_neg (by simpa using e3), if_neg (by simpa using e3), rd4_0]
     rfl
    ·rw [if_pos e3, if_pos e3, rd4_no _ _ _ _ _ _ e3]
   ·rw [if_pos hv, rd4_no _ _ _ _ _ _ (by decide)]
  ·rw [if_neg e2] at h2
   cases h2
   rw [if_pos e2, rd4_no _ _ _ _ _ _ e2]
   exact ⟨fun _ => ⟨fun _ => rfl, fun h0 => absurd h0 e2⟩, fun h => by omega⟩
end Pd
/-- p's Set so far. -/
def SetAt (g : Nat) (X : PV) (base : Nat) (wr : World) (i : Nat) (l : List (List UInt8)) : Prop := ∃ kd : SV, PAt wr g { X with set := kd } ∧ kd.2.1 = i ∧ OwnR 9 st wr base (sv kd) l
theorem set_push {g base : Nat} {X : PV} {w3 w4 : World} {kd : SV} {L l' : List (List UInt8)} {v' : Value} (hP : PAt w3 g { X with set := kd }) (hkd : OwnR 9 st w3 base (sv kd) L) (hO : OwnR 9 st w4 base v' (L ++ l')) (hg : w3.grownBy w4 (sv kd).ownBlock) (hgb : g < base) :
  PAt w4 g { X with set := kd } ∧ ∃ a c, v' = .slice a (L ++ l').length c ∧ SetAt g X base (w4.setCell ⟨g, 5, none⟩ (.slice a (L ++ l').length c)) (L ++ l').length (L ++ l') := by
 have hne : (sv kd).ownBlock ≠ some g := fun e => by have := (World.ownsRow.lt hkd g e).1; omega
 have hP4 := hP.far hg hne
 have hlt := World.ownsRow.lt hO
 obtain ⟨a, c, rfl, _⟩ := hO.rd
 refine ⟨hP4, a, c, rfl, (a, (L ++ l').length, c), hP4.set rfl, rfl, ?_⟩
 exact hO.far' (grown_set1 _ _ _ _) (fun q hq e => by have := (hlt q hq).1; simp at e; omega)
theorem run_str1 {o : Oper} (ρ : Operand → Value) (w : World) (x : Operand) (t : List UInt8) (ho : o.op = .buildSlice 30 1 #[(0, x)]) (h2 : ρ x = .string (str t)) : (execOp ρ o).run Tryz.prog w = .ok (.value (.slice (some ⟨w.heap.size, 0, none⟩) 1 1)) (w.alloc (.cells #[.string (str t)] 9)) := by
 simp [execOp, ho, h2, go_sem]
end Go.Proofs.YtbdjccmlgdfapaaGreat
