/-
  The landed someKid, holds, Eval. The statements' own null, nots, known; the books' Everything. The statements' own known.
-/
import Derived.Test.YtibnhjfeepdddaaM32
import Derived.Test.YtibnhjfeepdddaaM29
namespace Go.Proofs.Ytibnhjfeepdddaa
open Go.RowKit
set_option linter.unusedVariables false
set_option linter.unusedSimpArgs false
theorem cell_short {l : List Ce} (h : ∀ c ∈ l, c.s.length ≤ maxLen) (s : List UInt8) : (Rw.cell l s).s.length ≤ maxLen := by
 induction l with
 | nil => simp [Rw.cell, Rw.none_, maxLen]
 | cons x t ih =>
  unfold Rw.cell
  split
  ·exact h x (by simp)
  ·exact ih fun c hc => h c (by simp [hc])
theorem rload {w9 : World} {g : Nat} {v : RV} (h : LAt w9 g v) : (Instr.loadAt 61 (.pointer (some ⟨g, 0, none⟩))).run Try.prog w9 = .ok (rvv v) w9 := by
 obtain ⟨c0, c1, c2⟩ := h.all
 exact loadI_row (off := 0) c0 c1 c2
/-- What is asked of a part and a row. -/
def HoldsC (r : Rw) (k : Pr) : Prop := ∀ (v : PV) (rv : RV) (w : World) (o : Bool), Pd.Lay (fun _ => True) k w v → RvOk w rv r → Pd.ev r k = o → Calls Try.prog 40 #[pvv v, rvv rv] w fun e w' => e = .returned (.bool o) ∧ Ex w w'
set_option maxHeartbeats 4000000 in
set_option maxRecDepth 100000 in
theorem some_is (r : Rw) (l : List Pr) (ih : ∀ k ∈ l, HoldsC r k) (want : Bool) (a : Option Addr) (n cap : Nat) (us : List PV) (rv : RV) (w : World) (hn : n = l.length) (hR : RdW 7 pc w a cap us) (hL : Pd.Lays (fun _ => True) w us l) (hr : RvOk w rv r) (o : Bool) (ho : l.any (fun k => Pd.ev r k == want) = o) :
  Calls Try.prog 65 #[.slice a n cap, rvv rv, .bool want] w fun e w' => e = .returned (.bool o) ∧ Ex w w' := by
 subst hn
 have hu := hL.1
 have h1 : l.length ≤ cap := by rw [← hu]; exact hR.1
 have h2 := hR.2.1
 unfold maxLen at h2
 have HIH : Hid (∀ k ∈ l, HoldsC r k) := ih
 have HR : Hid (Pd.RdP w a cap l) := (⟨us, hR, hL⟩ : Pd.RdP w a cap l)
 have HRV : Hid (RvOk w rv r) := hr
 have HO : Hid (l.any (fun k => Pd.ev r k == want) = o) := ho
 obtain ⟨rt, rq, ra, rn, rc'⟩ := rv
 obtain ⟨W, hW⟩ : ∃ W, w.alloc (rb ⟨rt, rq, ra, rn, rc'⟩) = W := ⟨_, rfl⟩
 have HXW : Hid (Ex w W) := (by rw [← hW]; exact (Below.refl _ _).alloc (Nat.le_refl _) _ : Ex w W)
 have HLA : Hid (LAt W w.heap.size ⟨rt, rq, ra, rn, rc'⟩) := (by rw [← hW]; exact LAt.new w _ : LAt W w.heap.size _)
 clear ih hR hL hr ho hu
 unfold rvv
 simp only [sv]
 go_enter Try.func65, Try.ntmps65
 go_wp2_with fail
 go_loopw [11, 8] (fun iv kv wr => ∃ i : Nat, i ≤ l.length ∧ iv = .int .i64 i ∧ Hid (∀ k ∈ l.take i, (Pd.ev r k == want) = false) ∧ Hid (Ex W wr)) (fun iv kv wr => l.length - (intOf iv).toNat)
 case atStart => exact ⟨0, by omega, rfl, (by simp : ∀ k ∈ l.take 0, (Pd.ev r k == want) = false), Ex.refl W⟩
 case round =>
  obtain ⟨i, hi, rfl, HA, HXr⟩ := hrel
  have HX0 : Hid (Ex w wr) := (HXW.out.trans HXr.out : Ex w wr)
  by_cases hlt : i < l.length
  ·have hti : (i : Int) < (l.length : Int) := by omega
   obtain ⟨b, off, u, hpp, hLk, e0, e1, e2, e3, e4, e5, e6⟩ := (HR.out.below HX0.out).seven hlt
   obtain ⟨k, hk⟩ : ∃ k, l[i] = k := ⟨_, rfl⟩
   rw [hk] at hLk
   have HK : Hid (k ∈ l) := (by rw [← hk]; exact List.getElem_mem hlt : k ∈ l)
   have HNX : Hid (l.take (i + 1) = l.take i ++ [k]) := (by rw [List.take_add_one, List.getElem?_eq_getElem hlt, hk]; rfl : l.take (i + 1) = l.take i ++ [k])
   obtain ⟨w1, hw1⟩ : ∃ w1, wr.alloc (pb u) = w1 := ⟨_, rfl⟩
   have hX1 : Ex wr w1 := by rw [← hw1]; exact (Below.refl _ _).alloc (Nat.le_refl _) _
   have HX1 : Hid (Ex W w1) := (HXr.out.trans hX1 : Ex W w1)
   obtain ⟨x, hx⟩ : ∃ x, Pd.ev r k = x := ⟨_, rfl⟩
   have HEX : Hid (Pd.ev r k = x) := hx
   have HC : Hid (Calls Try.prog 40 #[pvv u, rvv ⟨rt, rq, ra, rn, rc'⟩] w1 fun e w' => e = .returned (.bool x) ∧ Ex w1 w') := HIH.out k HK.out u _ w1 x (Pd.Lay.below _ hLk hX1) (HRV.out.below (HX0.out.trans hX1)) hx
   have HP1 : Hid (PAt w1 wr.heap.size u) := (by rw [← hw1]; exact PAt.new wr u : PAt w1 wr.heap.size u)
   obtain ⟨q0, q1, q2, q3, q4, q5, q6⟩ := HP1.out.all
   obtain ⟨m0, m1, m2⟩ := (HLA.out.below HX1.out).all
   simp only at m0 m1 m2
   subst hpp
   clear hLk hk hX1 hx
   go_wp2_with fail
   go_at_call 40
   refine Calls.mono HC.out ?_
   rintro e w3 ⟨rfl, hx⟩
   have HX3 : Hid (Ex W w3) := (HX1.out.trans hx : Ex W w3)
   obtain ⟨y, hy⟩ : ∃ y, (x == want) = y := ⟨_, rfl⟩
   have HY : Hid ((Pd.ev r k == want) = y) := (by rw [HEX.out]; exact hy : (Pd.ev r k == want) = y)
   clear hx HC m0 m1 m2
   cases y with
   | true =>
    have HF : Hid (o = true) := (by rw [← HO.out, List.any_eq_true]; exact ⟨k, HK.out, HY.out⟩ : o = true)
    go_wp2_with fail
    go_ret
    exact ⟨by rw [HF.out]; rfl, HXW.out.trans HX3.out⟩
   | false =>
    have HA2 : Hid (∀ c ∈ l.take (i + 1), (Pd.ev r c == want) = false) := (by
     intro c hc
     rw [HNX.out] at hc
     rcases List.mem_append.1 hc with hc | hc
     ·exact HA.out c hc
     ·rw [List.mem_singleton] at hc; subst hc; exact HY.out : ∀ c ∈ l.take (i + 1), (Pd.ev r c == want) = false)
    go_wp2_with fail
    go_roundw
    case rel => exact ⟨i + 1, by omega, by go_num, HA2, HX3⟩
    case measure => simp [intOf]; omega
  ·have hti : ¬ (i : Int) < (l.length : Int) := by omega
   have HF : Hid (o = false) := (by
    rw [← HO.out, List.any_eq_false]
    intro k hk
    have h := HA.out k (by rw [List.take_of_length_le (by omega)]; exact hk)
    rw [h]; simp : o = false)
   go_wp2_with fail
   go_ret
   exact ⟨by rw [HF.out]; rfl, HX0.out⟩
theorem all_some (r : Rw) (l : List Pr) : l.all (Pd.ev r) = !(l.any (fun k => Pd.ev r k == false)) := by
 induction l with
 | nil => rfl
 | cons x t ih => rw [List.all_cons, List.any_cons, ih]; cases Pd.ev r x <;> simp
theorem any_some (r : Rw) (l : List Pr) : l.any (Pd.ev r) = l.any (fun k => Pd.ev r k == true) := by
 induction l with
 | nil => rfl
 | cons x t ih => rw [List.any_cons, List.any_cons, ih]; cases Pd.ev r x <;> simp
set_option maxHeartbeats 8000000 in
set_option maxRecDepth 100000 in
theorem holds_is (r : Rw) (hrs : ∀ c ∈ r.c, c.s.length ≤ maxLen) : ∀ (p : Pr), Pd.Fine p → HoldsC r p := by
 refine Pd.tree ?_
 intro h l ih hFi
 rw [Pd.fine_mk] at hFi
 obtain ⟨hF, hl1, hFk⟩ := hFi
 intro v rv w o hL hr ho
 rw [Pd.ev_mk] at ho
 obtain ⟨hHd, hkn, hkB, hkc, hkm, hk0⟩ := hL.head
 have hLl := hL
 rw [Pd.lay_mk] at hLl
 obtain ⟨hz1, hz2, hz3, us, hRu, hLu⟩ := hLl
 obtain ⟨vk, vcol, vn, vm, vs, vset, ⟨p, n, cap⟩⟩ := v
 simp only at hkn hkB hkc hkm hk0 hRu
 subst hkn
 clear hz1 hz2 hz3
 have hvk : vk = h.k := hHd.1.1
 have HIH : Hid (∀ k ∈ l, HoldsC r k) := (fun k hk => ih k hk (hFk k hk) : ∀ k ∈ l, HoldsC r k)
 obtain ⟨rt, rq, ra, rn, rc'⟩ := rv
 obtain ⟨W, hW⟩ : ∃ W, (w.alloc (pb ⟨vk, vcol, vn, vm, vs, vset, p, l.length, cap⟩)).alloc (rb ⟨rt, rq, ra, rn, rc'⟩) = W := ⟨_, rfl⟩
 have hX1 : Ex w (w.alloc (pb ⟨vk, vcol, vn, vm, vs, vset, p, l.length, cap⟩)) := (Below.refl _ _).alloc (Nat.le_refl _) _
 have hXW : Ex w W := by rw [← hW]; exact Below.alloc hX1 (by simp) _
 have HXW : Hid (Ex w W) := hXW
 have HP : Hid (PAt W w.heap.size ⟨vk, vcol, vn, vm, vs, vset, p, l.length, cap⟩) := (by rw [← hW]; exact (PAt.new w _).alloc _ : PAt W w.heap.size _)
 have HLA : Hid (LAt W (w.heap.size + 1) ⟨rt, rq, ra, rn, rc'⟩) := (by
  rw [← hW]
  exact LAt.newat (w.alloc (pb ⟨vk, vcol, vn, vm, vs, vset, p, l.length, cap⟩)) (w.heap.size + 1) _ (by simp) : LAt W (w.heap.size + 1) _)
 have HRV : Hid (RvOk W ⟨rt, rq, ra, rn, rc'⟩ r) := hr.below hXW
 have HRU : Hid (RdW 7 pc W p cap us) := hRu.below hXW
 have HLU : Hid (Pd.Lays (fun _ => True) W us l) := hLu.below hXW
 have HRS : Hid (∀ c ∈ r.c, c.s.length ≤ maxLen) := hrs
 obtain ⟨p0, p1, p2, p3, p4, p5, p6⟩ := HP.out.all
 obtain ⟨m0, m1, m2⟩ := HLA.out.all
 simp only at p0 p1 p2 p3 p4 p5 p6 m0 m1 m2
 unfold maxLen at hkm
 by_cases h1 : h.k = 1
 ·have hv : vk = 1 := by omega
  subst hv
  rw [if_pos h1, all_some] at ho
  obtain ⟨x, hx⟩ : ∃ x, l.any (fun k => Pd.ev r k == false) = x := ⟨_, rfl⟩
  rw [hx] at ho
  have HC : Hid (Calls Try.prog 65 #[.slice p l.length cap, rvv ⟨rt, rq, ra, rn, rc'⟩, .bool false] W fun e w' => e = .returned (.bool x) ∧ Ex W w') := some_is r l HIH.out false p _ cap us _ W rfl HRU.out HLU.out HRV.out x hx
  subst ho
  clear hL hHd hkB ih hXW hF hFk hX1 hvk h1 hx hRu hLu hr hrs
  unfold pvv rvv
  simp only [sv]
  go_enter Try.func40, Try.ntmps40
  go_wp2_with fail
  go_at_call 65
  refine Calls.mono HC.out ?_
  rintro e w2 ⟨rfl, hx2⟩
  have HX2 : Hid (Ex w w2) := (HXW.out.trans hx2 : Ex w w2)
  clear hx2 HC
  go_wp2_with fail
  go_ret
  exact ⟨rfl, HX2.out⟩
 rw [if_neg h1] at ho
 by_cases h2 : h.k = 2
 ·have hv : vk = 2 := by omega
  subst hv
  rw [if_pos h2, any_some] at ho
  have HC : Hid (Calls Try.prog 65 #[.slice p l.length cap, rvv ⟨rt, rq, ra, rn, rc'⟩, .bool true] W fun e w' => e = .returned (.bool o) ∧ Ex W w') := some_is r l HIH.out true p _ cap us _ W rfl HRU.out HLU.out HRV.out o ho
  clear hL hHd hkB ih hXW hF hFk hX1 hvk h1 h2 ho hRu hLu hr hrs
  unfold pvv rvv
  simp only [sv]
  go_enter Try.func40, Try.ntmps40
  go_wp2_with fail
  go_at_call 65
  refine Calls.mono HC.out ?_
  rintro e w2 ⟨rfl, hx2⟩
  have HX2 : Hid (Ex w w2) := (HXW.out.trans hx2 : Ex w w2)
  clear hx2 HC
  go_wp2_with fail
  go_ret
  exact ⟨rfl, HX2.out⟩
 rw [if_neg h2] at ho
 by_cases h3 : h.k = 3
 ·have hv : vk = 3 := by omega
  subst hv
  rw [if_pos h3] at ho
  cases l with
  | nil =>
   have HF : Hid (o = false) := (by rw [← ho]; rfl : o = false)
   clear hL hHd hkB ih hXW hF hFk hX1 hvk h1 h2 h3 ho hRu hLu hr hrs
   simp only [List.length_nil] at *
   unfold pvv rvv
   simp only [sv]
   go_enter Try.func40, Try.ntmps40
   go_wp2_with fail
   have hre := Ex.refl
   refine Rg.wp_rows [.inl (Value.pointer (some ⟨w.heap.size, 6, none⟩)), .inl (Value.slice p 0 cap), .inl (.int .i64 0), .inl (.bool false), .inl (.bool false), .inl undef, .inl undef, .inl undef, .inl undef, .inl undef, .inl undef, .inl undef, .inl (.bool false), .inl (.bool false)] (Ex W) Ex 55 (by kernel_rfl) rfl (by kernel_rfl) ?st hre (Ex.drew _) ?goods ?fin
   case st => exact trivial
   case goods =>
    refine Rg.goods_cons (Rg.good_field hre rfl rfl rfl (fun wx hC => by go_simp)) ?_
    refine Rg.goods_cons (Rg.good_load hre rfl rfl rfl (fun wx hC => by have hz := (HP.out.below hC).all.2.2.2.2.2.2; go_simp)) ?_
    refine Rg.goods_cons (Rg.good_len hre rfl rfl (by rintro u wx hC rfl; go_simp)) ?_
    refine Rg.goods_cons (Rg.good_bin hre rfl rfl rfl rfl (fun _ => rfl) (fun w => by go_simp)) ?_
    refine Rg.goods_cons (Rg.good_move hre rfl rfl rfl) ?_
    refine Rg.goods_cons (Rg.good_skip rfl) ?_
    refine Rg.goods_cons (Rg.good_skip rfl) ?_
    refine Rg.goods_cons (Rg.good_skip rfl) ?_
    refine Rg.goods_cons (Rg.good_skip rfl) ?_
    refine Rg.goods_cons (Rg.good_skip rfl) ?_
    refine Rg.goods_cons (Rg.good_skip rfl) ?_
    refine Rg.goods_cons (Rg.good_skip rfl) ?_
    refine Rg.goods_cons (Rg.good_pick false hre rfl rfl rfl rfl) ?_
    refine Rg.goods_cons (Rg.good_assign hre rfl rfl rfl) ?_
    exact Rg.goods_nil
   case fin =>
    intro wx hx
    simp only [Rg.later, Act.put, List.setIfInBounds_toArray, List.set_cons_succ, List.set_cons_zero]
    go_wp2_with fail
    go_ret
    exact ⟨by rw [HF.out]; rfl, HXW.out.trans hx⟩
  | cons k t =>
   obtain ⟨x, hx⟩ : ∃ x, Pd.ev r k = x := ⟨_, rfl⟩
   have HF : Hid (o = !x) := (by rw [← ho, ← hx]; rfl : o = !x)
   have HEX : Hid (Pd.ev r k = x) := hx
   have hLW := Pd.Lay.below _ hL hXW
   obtain ⟨bb, off, u, hpp, hbg, hLk, e0, e1, e2, e3, e4, e5, e6⟩ := hLW.kid (i := 0) (by simp)
   simp only [List.getElem_cons_zero] at hLk
   simp only [Nat.zero_mul, Nat.add_zero] at e0 e1 e2 e3 e4 e5 e6
   simp only at hpp
   have HLK : Hid (Pd.Lay (fun _ => True) k W u) := hLk
   have HE : Hid (W.cell? ⟨bb, off, none⟩ = some (.int .i64 u.k) ∧ W.cell? ⟨bb, off + 1, none⟩ = some (.string (str u.col)) ∧ W.cell? ⟨bb, off + 2, none⟩ = some (.int .i64 u.n) ∧ W.cell? ⟨bb, off + 3, none⟩ = some (.int .i64 u.m) ∧ W.cell? ⟨bb, off + 4, none⟩ = some (.string (str u.s)) ∧ W.cell? ⟨bb, off + 5, none⟩ = some (sv u.set) ∧ W.cell? ⟨bb, off + 6, none⟩ = some (sv u.kids)) := ⟨e0, e1, e2, e3, e4, e5, e6⟩
   have HKC : Hid (HoldsC r k) := HIH.out k (by simp)
   obtain ⟨L, hLn⟩ : ∃ L, (k :: t).length = L := ⟨_, rfl⟩
   have hL1 : 1 ≤ L := by rw [← hLn]; simp
   have tL : decide ((0 : Int) < (L : Int)) = true := by simp; omega
   have tL2 : (0 : Int) < (L : Int) := by omega
   rw [hLn] at HP hkc
   subst hpp
   clear hL hHd hkB ih hXW hF hFk hX1 hvk h1 h2 h3 ho hRu hLu hr hrs hx hLW hbg hLk e0 e1 e2 e3 e4 e5 e6
   unfold pvv rvv
   simp only [sv]
   rw [hLn]
   rw [hLn] at hW p6
   go_enter Try.func40, Try.ntmps40
   go_wp2_with fail
   have hre := Ex.refl
   refine Rg.wp_rows [.inl (Value.pointer (some ⟨w.heap.size, 6, none⟩)), .inl (Value.slice (some ⟨bb, off, none⟩) L cap), .inl (.int .i64 L), .inl (.bool true), .inl (.bool true), .inl (Value.pointer (some ⟨w.heap.size, 6, none⟩)), .inl (Value.slice (some ⟨bb, off, none⟩) L cap), .inl (Value.pointer (some ⟨bb, off, none⟩)), .inl (pvv u), .inl (rvv ⟨rt, rq, ra, rn, rc'⟩), .inl (.bool x), .inl (.bool !x), .inl (.bool !x), .inl (.bool !x)] (Ex W) Ex 55 (by kernel_rfl) rfl (by kernel_rfl) ?st hre (Ex.drew _) ?goods ?fin
   case st => exact trivial
   case goods =>
    refine Rg.goods_cons (Rg.good_field hre rfl rfl rfl (fun wx hC => by go_simp)) ?_
    refine Rg.goods_cons (Rg.good_load hre rfl rfl rfl (fun wx hC => by have hz := (HP.out.below hC).all.2.2.2.2.2.2; go_simp)) ?_
    refine Rg.goods_cons (Rg.good_len hre rfl rfl (by rintro u wx hC rfl; go_simp)) ?_
    refine Rg.goods_cons (Rg.good_bin hre rfl rfl rfl rfl (fun _ => rfl) (fun w => by simp [go_sem]; omega)) ?_
    refine Rg.goods_cons (Rg.good_move hre rfl rfl rfl) ?_
    refine Rg.goods_cons (Rg.good_field hre rfl rfl rfl (fun wx hC => by go_simp)) ?_
    refine Rg.goods_cons (Rg.good_load hre rfl rfl rfl (fun wx hC => by have hz := (HP.out.below hC).all.2.2.2.2.2.2; go_simp)) ?_
    refine Rg.goods_cons (Rg.good_index hre rfl rfl rfl rfl (fun wx hC => by go_simp; intro h0; exfalso; omega)) ?_
    refine Rg.goods_cons (Rg.good_load hre rfl rfl rfl (fun wx hC => by obtain ⟨e0, e1, e2, e3, e4, e5, e6⟩ := HE.out; exact loadI_pred (cell_ex e0 hC) (cell_ex e1 hC) (cell_ex e2 hC) (cell_ex e3 hC) (cell_ex e4 hC) (cell_ex e5 hC) (cell_ex e6 hC))) ?_
    refine Rg.goods_cons (Rg.good_load hre rfl rfl rfl (fun wx hC => rload (HLA.out.below hC))) ?_
    refine Rg.goods_cons (Rg.good_call2 Try.func40 (by kernel_rfl) rfl rfl rfl (by rintro v0 v1 wx hC rfl rfl; exact ex_rowP (HKC.out u _ wx x (Pd.Lay.below _ HLK.out hC) (HRV.out.below hC) HEX.out) hC)) ?_
    refine Rg.goods_cons (Rg.good_un hre rfl rfl rfl (fun w => by go_simp)) ?_
    refine Rg.goods_cons (Rg.good_pick true hre rfl rfl rfl rfl) ?_
    refine Rg.goods_cons (Rg.good_assign hre rfl rfl rfl) ?_
    exact Rg.goods_nil
   case fin =>
    intro wx hx
    simp only [Rg.later, Act.put, List.setIfInBounds_toArray, List.set_cons_succ, List.set_cons_zero]
    have HX9 : Hid (Ex w wx) := (HXW.out.trans hx : Ex w wx)
    clear hx
    go_wp2_with fail
    go_ret
    exact ⟨by rw [HF.out]; rfl, HX9.out⟩
 rw [if_neg h3] at ho
 by_cases h10 : h.k = 10
 ·have hv : vk = 10 := by omega
  subst hv
  have HO : Hid (decide (vn ≤ rt ∧ rt ≤ vm) = o) := (by
   rw [← ho]
   unfold Pd.leaf
   simp only [h10]
   rw [← hHd.1.2.2.1, ← hHd.1.2.2.2.1, ← hr.1]
   simp : decide (vn ≤ rt ∧ rt ≤ vm) = o)
  clear hL hHd hkB ih hXW hF hFk hX1 hvk h1 h2 h3 ho hRu hLu hr hrs h10
  unfold pvv rvv
  simp only [sv]
  go_enter Try.func40, Try.ntmps40
  go_wp2_with fail
  all_goals go_ret
  all_goals refine ⟨?_, HXW.out⟩
  all_goals rw [← HO.out]
  all_goals first | (simp_all; done) | (simp; omega)
 ·rw [Pd.leaf_eq r h h10] at ho
  have t1 : (vk == 1) = false := beq_eq_false_iff_ne.2 (by omega)
  have t2 : (vk == 2) = false := beq_eq_false_iff_ne.2 (by omega)
  have t3 : (vk == 3) = false := beq_eq_false_iff_ne.2 (by omega)
  have t4 : (vk == 10) = false := beq_eq_false_iff_ne.2 (by omega)
  obtain ⟨c, hc⟩ : ∃ c, Rw.cell r.c vcol = c := ⟨_, rfl⟩
  have HCC : Hid (Rw.cell r.c vcol = c) := hc
  have hvc : h.col = vcol := hHd.1.2.1.symm
  rw [hvc, hc] at ho
  have HO : Hid (Pd.leafC c h = o) := ho
  have HCS : Hid (c.s.length ≤ maxLen) := (by rw [← hc]; exact cell_short hrs vcol : c.s.length ≤ maxLen)
  have HHD : Hid (HdOk (fun _ => True) W ⟨vk, vcol, vn, vm, vs, vset, p, l.length, cap⟩ h) := hHd.below hXW
  have HF : Hid (HdFit h) := hF
  clear hL hHd hkB ih hXW hF hFk hX1 hvk h1 h2 h3 ho hRu hLu hr hrs h10 hc hvc
  unfold pvv rvv
  simp only [sv]
  go_enter Try.func40, Try.ntmps40
  go_wp2_with fail
  have hre := Ex.refl
  refine Rg.wp_rows [.inl (pvv ⟨vk, vcol, vn, vm, vs, vset, p, l.length, cap⟩), .inl (rvv ⟨rt, rq, ra, rn, rc'⟩), .inl (Value.pointer (some ⟨w.heap.size, 1, none⟩)), .inl (.string (str vcol)), .inl (cv c), .inl (.bool o), .inl (.bool o)] (Ex W) Ex 55 (by kernel_rfl) rfl (by kernel_rfl) ?st hre (Ex.drew _) ?goods ?fin
  case st => exact trivial
  case goods =>
   refine Rg.goods_cons (Rg.good_load hre rfl rfl rfl (fun wx hC => (HP.out.below hC).loadI)) ?_
   refine Rg.goods_cons (Rg.good_load hre rfl rfl rfl (fun wx hC => rload (HLA.out.below hC))) ?_
   refine Rg.goods_cons (Rg.good_field hre rfl rfl rfl (fun wx hC => by go_simp)) ?_
   refine Rg.goods_cons (Rg.good_load hre rfl rfl rfl (fun wx hC => by have hz := (HP.out.below hC).all.2.1; go_simp)) ?_
   refine Rg.goods_cons (Rg.good_call2 Try.func67 (by kernel_rfl) rfl rfl rfl (by rintro v0 v1 wx hC rfl rfl; exact ex_rowP (scell_is _ r vcol wx (HRV.out.below hC) c HCC.out) hC)) ?_
   refine Rg.goods_cons (Rg.good_call2 Try.func66 (by kernel_rfl) rfl rfl rfl (by rintro v0 v1 wx hC rfl rfl; exact ex_rowP (holdsFor_is h _ c wx (HHD.out.below hC) HF.out HCS.out o HO.out) hC)) ?_
   refine Rg.goods_cons (Rg.good_assign hre rfl rfl rfl) ?_
   exact Rg.goods_nil
  case fin =>
   intro wx hx
   simp only [Rg.later, Act.put, List.setIfInBounds_toArray, List.set_cons_succ, List.set_cons_zero]
   have HX9 : Hid (Ex w wx) := (HXW.out.trans hx : Ex w wx)
   clear hx
   go_wp2_with fail
   go_ret
   exact ⟨rfl, HX9.out⟩
set_option maxHeartbeats 1000000 in
set_option maxRecDepth 100000 in
theorem eval_is (p : Pr) (r : Rw) (v : PV) (rv : RV) (w : World) (hL : Pd.Lay (fun _ => True) p w v) (hF : Pd.Fine p) (hr : RvOk w rv r) (hrs : ∀ c ∈ r.c, c.s.length ≤ maxLen) (o : Bool) (ho : (Pd.fit p 50 5000 && Pd.ev r p) = o) :
  Calls Try.prog 21 #[pvv v, rvv rv] w fun e w' => e = .returned (.bool o) ∧ Ex w w' := by
 obtain ⟨vk, vcol, vn, vm, vs, vset, vkids⟩ := v
 obtain ⟨rt, rq, ra, rn, rc'⟩ := rv
 obtain ⟨W, hW⟩ : ∃ W, (w.alloc (pb ⟨vk, vcol, vn, vm, vs, vset, vkids⟩)).alloc (rb ⟨rt, rq, ra, rn, rc'⟩) = W := ⟨_, rfl⟩
 have hX1 : Ex w (w.alloc (pb ⟨vk, vcol, vn, vm, vs, vset, vkids⟩)) := (Below.refl _ _).alloc (Nat.le_refl _) _
 have hXW : Ex w W := by rw [← hW]; exact Below.alloc hX1 (by simp) _
 have HXW : Hid (Ex w W) := hXW
 have HP : Hid (PAt W w.heap.size ⟨vk, vcol, vn, vm, vs, vset, vkids⟩) := (by rw [← hW]; exact (PAt.new w _).alloc _ : PAt W w.heap.size _)
 have HLA : Hid (LAt W (w.heap.size + 1) ⟨rt, rq, ra, rn, rc'⟩) := (by
  rw [← hW]
  exact LAt.newat (w.alloc (pb ⟨vk, vcol, vn, vm, vs, vset, vkids⟩)) (w.heap.size + 1) _ (by simp) : LAt W (w.heap.size + 1) _)
 have HLW : Hid (Pd.Lay (fun _ => True) p W ⟨vk, vcol, vn, vm, vs, vset, vkids⟩) := (Pd.Lay.below _ hL hXW : Pd.Lay _ _ W _)
 have HRV : Hid (RvOk W ⟨rt, rq, ra, rn, rc'⟩ r) := hr.below hXW
 have HHC : Hid (HoldsC r p) := holds_is r hrs p hF
 obtain ⟨f, hf⟩ : ∃ f, Pd.fit p 50 5000 = f := ⟨_, rfl⟩
 obtain ⟨x, hx⟩ : ∃ x, Pd.ev r p = x := ⟨_, rfl⟩
 have HX : Hid (Pd.ev r p = x) := hx
 rw [hf, hx] at ho
 have HC : Hid (Calls Try.prog 39 #[pvv ⟨vk, vcol, vn, vm, vs, vset, vkids⟩] W fun e w' => e = .returned (.bool f) ∧ Ex W w') := bounded_is p _ W HLW.out f hf
 have HO : Hid ((f && x) = o) := ho
 obtain ⟨p0, p1, p2, p3, p4, p5, p6⟩ := HP.out.all
 obtain ⟨m0, m1, m2⟩ := HLA.out.all
 simp only at p0 p1 p2 p3 p4 p5 p6 m0 m1 m2
 clear hL hF hr hrs hX1 hXW hf hx ho
 unfold pvv rvv
 simp only [sv]
 go_enter Try.func21, Try.ntmps21
 go_wp2_with fail
 go_at_call 39
 refine Calls.mono HC.out ?_
 rintro e w2 ⟨rfl, hx2⟩
 have HX2 : Hid (Ex w w2) := (HXW.out.trans hx2 : Ex w w2)
 have HXW2 : Hid (Ex W w2) := hx2
 obtain ⟨q0, q1, q2, q3, q4, q5, q6⟩ := (HP.out.below hx2).all
 obtain ⟨n0, n1, n2⟩ := (HLA.out.below hx2).all
 simp only at q0 q1 q2 q3 q4 q5 q6 n0 n1 n2
 clear hx2 HC p0 p1 p2 p3 p4 p5 p6 m0 m1 m2 hW
 cases f with
 | false =>
  have HF : Hid (o = false) := (by rw [← HO.out, Bool.false_and] : o = false)
  go_wp2_with fail
  go_ret
  exact ⟨by rw [HF.out]; rfl, HX2.out⟩
 | true =>
  have HF : Hid (o = x) := (by rw [← HO.out, Bool.true_and] : o = x)
  have HC2 : Hid (Calls Try.prog 40 #[pvv ⟨vk, vcol, vn, vm, vs, vset, vkids⟩, rvv ⟨rt, rq, ra, rn, rc'⟩] w2 fun e w' => e = .returned (.bool x) ∧ Ex w2 w') := HHC.out _ _ w2 x (Pd.Lay.below _ HLW.out HXW2.out) (HRV.out.below HXW2.out) HX.out
  go_wp2_with fail
  go_at_call 40
  refine Calls.mono HC2.out ?_
  rintro e w3 ⟨rfl, hx3⟩
  have HX3 : Hid (Ex w w3) := (HX2.out.trans hx3 : Ex w w3)
  clear hx3 HC2
  go_wp2_with fail
  go_ret
  exact ⟨by rw [HF.out]; rfl, HX3.out⟩
end Go.Proofs.Ytibnhjfeepdddaa
namespace Go.Proofs.Ytibnhjfeepdddaa
open Go.RowKit
set_option linter.unusedVariables false
set_option linter.unusedSimpArgs false
/-- A part without Kids or texts, as it lies. -/
theorem lay_bare (B : Nat → Prop) (w : World) (k : Int) (c : List UInt8) (n m : Int) (s : List UInt8) : Pd.Lay B (Pr.mk' ⟨k, c, n, m, s, []⟩ []) w ⟨k, c, n, m, s, (none, 0, 0), none, 0, 0⟩ := by
 rw [Pd.lay_mk]
 exact ⟨⟨⟨rfl, rfl, rfl, rfl, rfl⟩, rfl, Rd.nil _, fun h0 => by simp at h0⟩, rfl, fun h0 => by simp at h0, [], RdW.nil _, Pd.Lays.nil _ _⟩
set_option maxHeartbeats 4000000 in
set_option maxRecDepth 100000 in
theorem every_is (w : World) : Calls Try.prog 13 #[] w fun e w' => ∃ u, e = .returned (pvv u) ∧ Pd.Lay (fun b => w.heap.size ≤ b) (Pr.mk' (Pd.hk 1) []) w' u ∧ Ex w w' := by
 go_enter Try.func13, Try.ntmps13
 go_wp2_with fail
 refine bodyPost_ret (v := pvv ⟨1, [], 0, 0, [], (none, 0, 0), none, 0, 0⟩) ?_ rfl ⟨_, rfl, lay_bare _ _ _ _ _ _ _, by (repeat' (first | exact Below.refl _ _ | refine Below.alloc ?_ (by simp <;> omega) _))⟩
 simp [results, Try.results13, go_sem, pvv, sv, str]
end Go.Proofs.Ytibnhjfeepdddaa
namespace Go.Proofs.Ytibnhjfeepdddaa
open Go.RowKit
set_option linter.unusedVariables false
set_option linter.unusedSimpArgs false
namespace Pd
/-- A predicate that the callees bear, one about the other. -/
theorem fine_hk (k : Int) (hk' : In64 k) {l : List Pr} (h1 : l.length ≤ 1000) (h : ∀ x ∈ l, Fine x) : Fine (Pr.mk' (hk k) l) := by
 rw [fine_mk]
 exact ⟨⟨hk', ⟨by simp [hk], by simp [hk]⟩, ⟨by simp [hk], by simp [hk]⟩, by simp [hk], by simp [hk], by simp [hk], by simp [hk]⟩, h1, h⟩
end Pd
end Go.Proofs.Ytibnhjfeepdddaa
