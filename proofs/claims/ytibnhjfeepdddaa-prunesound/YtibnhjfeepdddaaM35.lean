/-
  The books' Tame: a Right row with small numbers.
-/
import Derived.Test.YtibnhjfeepdddaaM33
namespace Go.Proofs.Ytibnhjfeepdddaa
open Go.RowKit
set_option linter.unusedVariables false
set_option linter.unusedSimpArgs false
/-- Numbers and texts of rows that a machine bears. -/
def RwOk (r : Rw) : Prop := In64 r.t ∧ In64 r.q ∧ ∀ c ∈ r.c, c.col.length ≤ maxLen ∧ c.s.length ≤ maxLen ∧ In64 c.k ∧ In64 c.n
namespace Rw
def tnm : List (List UInt8) := [[97], [98], [115], [116]]
def tm (i : Nat) (x : Ce) : List Ce := if x.k = 0 then [] else if i < 2 then [⟨tnm.getD i [], 1, x.n.tmod 10, []⟩] else [⟨tnm.getD i [], 2, 0, x.s.take 3⟩]
def tms (c : List Ce) : Nat → List Ce
 | 0 => []
 | i + 1 => tms c i ++ (match c[i]? with | some x => tm i x | none => [])
def tame (r : Rw) (q : Int) : Rw := ⟨r.t.tmod 100, q, tms r.c 4⟩
theorem tms_len (c : List Ce) (i : Nat) : (tms c i).length ≤ i := by
 induction i with
 | zero => simp [tms]
 | succ i ih =>
  rw [tms, List.length_append]
  have : (match c[i]? with | some x => tm i x | none => []).length ≤ 1 := by
   cases c[i]? with
   | none => simp
   | some x => simp only [tm]; split; simp; split <;> simp
  omega
theorem tms_end (c : List Ce) {i j : Nat} (h : c.length ≤ i) (hij : i ≤ j) : tms c j = tms c i := by
 induction j with
 | zero =>
  have : i = 0 := by omega
  rw [this]
 | succ j ih =>
  by_cases h2 : i = j + 1
  ·rw [h2]
  ·rw [tms, List.getElem?_eq_none (by omega), ih (by omega), List.append_nil]
end Rw
theorem tmod_lt {a b : Int} (hb : 0 < b) : -b < a.tmod b ∧ a.tmod b < b := by
 by_cases h : 0 ≤ a
 ·rw [Int.tmod_eq_emod_of_nonneg h]
  have h1 := Int.emod_nonneg a (show b ≠ 0 by omega)
  have h2 := Int.emod_lt_of_pos a hb
  omega
 ·have h3 : a.tmod b = -((-a).tmod b) := by rw [Int.neg_tmod, Int.neg_neg]
  rw [h3, Int.tmod_eq_emod_of_nonneg (by omega)]
  have h1 := Int.emod_nonneg (-a) (show b ≠ 0 by omega)
  have h2 := Int.emod_lt_of_pos (-a) hb
  omega
/-- Cells that can be read. -/
def IsCs (base : Nat) (cs : List Ce) (v : Value) (w : World) : Prop := ∃ g, v = .slice (some ⟨g, 0, none⟩) cs.length cs.length ∧ base ≤ g ∧ RdC w (some ⟨g, 0, none⟩) cs.length cs
theorem IsCs.stands (base : Nat) (cs : List Ce) : ∀ v w w', IsCs base cs v w → Ex w w' → IsCs base cs v w' := by
 rintro v w w' ⟨g, h1, h0, h2⟩ hx
 exact ⟨g, h1, h0, RdW.below h2 hx⟩
theorem run_cs1 {o : Oper} (ρ : Operand → Value) (w : World) (x : Operand) (c : Ce) (ho : o.op = .buildSlice 59 1 #[(0, x)]) (h2 : ρ x = cv c) : (execOp ρ o).run Try.prog w = .ok (.value (.slice (some ⟨w.heap.size, 0, none⟩) 1 1)) (w.alloc (.cells (flat cc [c]).toArray 90)) := by
 simp [execOp, ho, h2, go_sem, cv, flat, cc]
theorem Rg.good_cs1 {ops : Array Oper} {specs : List Rg.Spec} {a0 : Act} {w1 : World} {o : Oper} {x : Operand} {c : Ce} (ho : o.op = .buildSlice 59 1 #[(0, x)]) (hg : Rg.guardV ops specs a0 o = some true) (hx : Rg.argS ops specs a0 x = .inl (cv c)) : Rg.GoodOp Try.prog ops specs a0 (Ex w1) Ex o (.inr (IsCs w1.heap.size [c])) :=
 Rg.good_of hg fun Q a w hC hs => by
  have h1 := hs x (by rw [ho]; simp [Op.operands])
  rw [hx] at h1
  have hX : Ex w (w.alloc (.cells (flat cc [c]).toArray 90)) := (Below.refl _ _).alloc (Nat.le_refl _) _
  exact Rg.Fr.wp_val (run_cs1 _ w x c ho h1) ⟨_, rfl, ⟨w.heap.size, rfl, hC.size, RdW.laid (t := 90) cc_len w [c] (by simp)⟩, hX, hC.trans hX⟩
abbrev rbk (t q : Int) : Obj := .cells #[.int .i64 t, .int .i64 q, .slice none 0 0] 61
abbrev rb0 : Obj := .cells #[.int .i64 0, .int .i64 0, .slice none 0 0] 61
abbrev nmb : Obj := .cells #[.string { data := #[97] }, .string { data := #[98] }, .string { data := #[115] }, .string { data := #[116] }] 9
set_option maxHeartbeats 8000000 in
set_option maxRecDepth 100000 in
theorem tame_own (v : RV) (r : Rw) (q : Int) (w : World) (h : RvOk w v r) (hl : RwOk r) :
  Calls Try.prog 22 #[rvv v, .int .i64 q] w fun e w' => ∃ u : RV, e = .returned (rvv u) ∧ RvOk w' u (Rw.tame r q) ∧ Ex w w' ∧ ∀ g, (sv u.s).ownBlock = some g → w.heap.size ≤ g := by
 obtain ⟨vt, vq, p, n, cap⟩ := v
 obtain ⟨rfl, rfl, hn, hB⟩ := h
 simp only at hn hB
 subst hn
 have h1 := hB.1
 have h2 := hB.2.1
 unfold maxLen at h2
 obtain ⟨⟨ht1, ht2⟩, _, hl⟩ := hl
 have HLl : Hid (∀ c ∈ r.c, c.col.length ≤ maxLen ∧ c.s.length ≤ maxLen ∧ In64 c.k ∧ In64 c.n) := hl
 have HB : Hid (RdC w p cap r.c) := hB
 obtain ⟨T, hT⟩ : ∃ T, r.t.tmod 100 = T := ⟨_, rfl⟩
 have HT : Hid (r.t.tmod 100 = T) := hT
 have hT1 : -100 < T ∧ T < 100 := by rw [← hT]; exact tmod_lt (by decide)
 have hwT : IntKind.i64.wrap T = T := by rw [IntKind.wrap_i64]; omega
 obtain ⟨W, hW⟩ : ∃ W, (((w.alloc (rb ⟨r.t, r.q, p, r.c.length, cap⟩)).alloc rb0).alloc (rbk T q)).alloc nmb = W := ⟨_, rfl⟩
 have e1 : Ex w (w.alloc (rb ⟨r.t, r.q, p, r.c.length, cap⟩)) := (Below.refl _ _).alloc (Nat.le_refl _) _
 have e2 : Ex w ((w.alloc (rb ⟨r.t, r.q, p, r.c.length, cap⟩)).alloc rb0) := Below.alloc e1 (by simp) _
 have e3 : Ex w (((w.alloc (rb ⟨r.t, r.q, p, r.c.length, cap⟩)).alloc rb0).alloc (rbk T q)) := Below.alloc e2 (by simp; omega) _
 have HXW : Hid (Ex w W) := (by rw [← hW]; exact Below.alloc e3 (by simp; omega) _ : Ex w W)
 have HSZ : Hid (W.heap.size = w.heap.size + 4) := (by rw [← hW]; simp : W.heap.size = w.heap.size + 4)
 have HA : Hid (LAt W w.heap.size ⟨r.t, r.q, p, r.c.length, cap⟩) := (by rw [← hW]; exact (((LAt.new w _).alloc _).alloc _).alloc _ : LAt W w.heap.size _)
 have HZ : Hid (LAt W (w.heap.size + 1) ⟨0, 0, none, 0, 0⟩) := (by
  rw [← hW]
  exact ((LAt.newat (w.alloc (rb ⟨r.t, r.q, p, r.c.length, cap⟩)) (w.heap.size + 1) ⟨0, 0, none, 0, 0⟩ (by simp)).alloc _).alloc _ : LAt W (w.heap.size + 1) _)
 have HO : Hid (LAt W (w.heap.size + 1 + 1) ⟨T, q, none, 0, 0⟩) := (by
  rw [← hW]
  exact (LAt.newat ((w.alloc (rb ⟨r.t, r.q, p, r.c.length, cap⟩)).alloc rb0) (w.heap.size + 1 + 1) ⟨T, q, none, 0, 0⟩ (by simp)).alloc _ : LAt W (w.heap.size + 1 + 1) _)
 have HN : Hid (RowAt st 9 W (w.heap.size + 1 + 1 + 1) Rw.tnm) := (by
  rw [← hW]
  have h := heap_alloc_new (((w.alloc (rb ⟨r.t, r.q, p, r.c.length, cap⟩)).alloc rb0).alloc (rbk T q)) nmb
  have hs : (((w.alloc (rb ⟨r.t, r.q, p, r.c.length, cap⟩)).alloc rb0).alloc (rbk T q)).heap.size = w.heap.size + 1 + 1 + 1 := by simp
  rw [hs] at h
  exact h : RowAt st 9 W (w.heap.size + 1 + 1 + 1) Rw.tnm)
 have HWW : Hid ((((w.alloc (rb ⟨r.t, r.q, p, r.c.length, cap⟩)).alloc rb0).alloc (rbk T q)).alloc nmb = W) := hW
 clear hB hl e1 e2 e3 hW
 unfold rvv
 simp only [sv]
 go_enter Try.func22, Try.ntmps22
 go_wp2_with fail
 rw [HWW.out]
 go_loopw [17, 6, 7, 8, 9] (fun iv jv nv xv sv9 wr => ∃ i : Nat, i ≤ 4 ∧ iv = .int .i64 i ∧ Hid (∃ kd : SV, LAt wr (w.heap.size + 1 + 1) ⟨T, q, kd⟩ ∧ kd.2.1 = (Rw.tms r.c i).length ∧ OwnC wr (w.heap.size + 4) (sv kd) (Rw.tms r.c i)) ∧ Hid (LAt wr w.heap.size ⟨r.t, r.q, p, r.c.length, cap⟩) ∧ Hid (LAt wr (w.heap.size + 1) ⟨0, 0, none, 0, 0⟩) ∧ Hid (RowAt st 9 wr (w.heap.size + 1 + 1 + 1) Rw.tnm) ∧ Hid (w.heap.size + 4 ≤ wr.heap.size) ∧ Hid (Ex w wr)) (fun iv jv nv xv sv9 wr => 4 - (intOf iv).toNat)
 case atStart => exact ⟨0, by omega, rfl, (⟨(none, 0, 0), HO.out, rfl, ownW_none _ _⟩ : ∃ kd : SV, LAt W (w.heap.size + 1 + 1) ⟨T, q, kd⟩ ∧ kd.2.1 = (Rw.tms r.c 0).length ∧ OwnC W (w.heap.size + 4) (sv kd) (Rw.tms r.c 0)), HA, HZ, HN, (by have := HSZ.out; omega : w.heap.size + 4 ≤ W.heap.size), HXW⟩
 case round =>
  obtain ⟨i, hi, rfl, HKD, HAr, HZr, HNr, HSr, HXr⟩ := hrel
  obtain ⟨⟨ka, kn, kc⟩, hLo, hkn, hOw⟩ := HKD.out
  simp only at hkn
  have HKN : Hid (kn = (Rw.tms r.c i).length) := hkn
  have hkn4 : kn ≤ 4 := by have := Rw.tms_len r.c i; omega
  have HOB : Hid (∀ g, (Value.slice ka kn kc).ownBlock = some g → w.heap.size + 4 ≤ g ∧ g < wr.heap.size) := hOw.lt
  obtain ⟨n0, n1, n2⟩ := HAr.out.all
  simp only at n0 n1 n2
  by_cases hi4 : i < 4
  ·have hti : (i : Int) < 4 := by omega
   have nN := HNr.out.cell (k := i) (by simpa [Rw.tnm] using hi4)
   obtain ⟨nm, hnm⟩ : ∃ nm, Rw.tnm[i]'(by simpa [Rw.tnm] using hi4) = nm := ⟨_, rfl⟩
   rw [hnm] at nN
   have HNM : Hid (Rw.tnm.getD i [] = nm) := (by rw [← hnm]; simp [List.getD_eq_getElem?_getD, List.getElem?_eq_getElem (show i < Rw.tnm.length by simpa [Rw.tnm] using hi4)] : Rw.tnm.getD i [] = nm)
   clear hnm
   by_cases hlt : i < r.c.length
   ·have htl : (i : Int) < (r.c.length : Int) := by omega
    have htg : ¬ (r.c.length : Int) ≤ (i : Int) := by omega
    obtain ⟨b, off, hpp, e0, e1, e2, e3⟩ := RdC.four (HB.out.below HXr.out) hlt
    obtain ⟨x, hx⟩ : ∃ x, r.c[i] = x := ⟨_, rfl⟩
    rw [hx] at e0 e1 e2 e3
    have HNX : Hid (Rw.tms r.c (i + 1) = Rw.tms r.c i ++ Rw.tm i x) := (by rw [Rw.tms, List.getElem?_eq_getElem hlt, hx] : Rw.tms r.c (i + 1) = Rw.tms r.c i ++ Rw.tm i x)
    have hxl := HLl.out x (by rw [← hx]; exact List.getElem_mem hlt)
    have HXS : Hid (x.s.length ≤ maxLen) := hxl.2.1
    have hxn := hxl.2.2.2
    obtain ⟨w1, hw1⟩ : ∃ w1, wr.alloc (cb x) = w1 := ⟨_, rfl⟩
    have hX1 : Ex wr w1 := by rw [← hw1]; exact (Below.refl _ _).alloc (Nat.le_refl _) _
    have HX1 : Hid (Ex w w1) := (HXr.out.trans hX1 : Ex w w1)
    have HE1 : Hid (EAt w1 wr.heap.size x) := (by rw [← hw1]; exact EAt.new wr x : EAt w1 wr.heap.size x)
    have HL1 : Hid (LAt w1 (w.heap.size + 1 + 1) ⟨T, q, ka, kn, kc⟩) := (hLo.below hX1 : LAt w1 _ _)
    have HO1 : Hid (OwnC w1 (w.heap.size + 4) (.slice ka kn kc) (Rw.tms r.c i)) := (OwnW.later hOw hX1 : OwnC w1 _ _ _)
    have HA1 : Hid (LAt w1 w.heap.size ⟨r.t, r.q, p, r.c.length, cap⟩) := (HAr.out.below hX1 : LAt w1 _ _)
    have HZ1 : Hid (LAt w1 (w.heap.size + 1) ⟨0, 0, none, 0, 0⟩) := (HZr.out.below hX1 : LAt w1 _ _)
    have HN1 : Hid (RowAt st 9 w1 (w.heap.size + 1 + 1 + 1) Rw.tnm) := (HNr.out.below hX1 : RowAt st 9 w1 _ _)
    have HS1 : Hid (w.heap.size + 4 ≤ w1.heap.size) := (Nat.le_trans HSr.out hX1.size : w.heap.size + 4 ≤ w1.heap.size)
    have HSZ1 : Hid (wr.heap.size ≤ w1.heap.size) := hX1.size
    obtain ⟨x0, x1, x2, x3⟩ := HE1.out.all
    subst hpp
    clear hx hX1 hlt hkn hLo hOw HKD
    by_cases hk0 : x.k = 0
    ·have tk : (x.k == 0) = true := by simp [hk0]
     have HK2 : Hid (∃ kd : SV, LAt w1 (w.heap.size + 1 + 1) ⟨T, q, kd⟩ ∧ kd.2.1 = (Rw.tms r.c (i + 1)).length ∧ OwnC w1 (w.heap.size + 4) (sv kd) (Rw.tms r.c (i + 1))) := (by
      rw [HNX.out, Rw.tm, if_pos hk0, List.append_nil]
      exact ⟨(ka, kn, kc), HL1.out, HKN.out, HO1.out⟩ : ∃ kd : SV, _)
     clear hk0
     go_wp2_with fail
     go_roundw
     case rel => exact ⟨i + 1, by omega, by go_num, HK2, HA1, HZ1, HN1, HS1, HX1⟩
     case measure => simp [intOf]; omega
    ·have tk : (x.k == 0) = false := by simp [hk0]
     -- what is laid on
     have hpush : ∀ (c : Ce) (wx v9 w9 : _), Rw.tm i x = [c] → Ex w1 wx → OwnC w9 (w.heap.size + 4) v9 (Rw.tms r.c i ++ [c]) → wx.grownBy w9 (Value.slice ka kn kc).ownBlock → ∃ a9 c9 w10, v9 = .slice a9 (kn + 1) c9 ∧ w9.setCell ⟨w.heap.size + 1 + 1, 2, none⟩ (.slice a9 (kn + 1) c9) = w10 ∧
       Hid (∃ kd : SV, LAt w10 (w.heap.size + 1 + 1) ⟨T, q, kd⟩ ∧ kd.2.1 = (Rw.tms r.c (i + 1)).length ∧ OwnC w10 (w.heap.size + 4) (sv kd) (Rw.tms r.c (i + 1))) ∧ Hid (LAt w10 w.heap.size ⟨r.t, r.q, some ⟨b, off, none⟩, r.c.length, cap⟩) ∧ Hid (LAt w10 (w.heap.size + 1) ⟨0, 0, none, 0, 0⟩) ∧ Hid (RowAt st 9 w10 (w.heap.size + 1 + 1 + 1) Rw.tnm) ∧ Hid (w.heap.size + 4 ≤ w10.heap.size) ∧ Hid (Ex w w10) ∧ w9.cell? ⟨w.heap.size + 1 + 1, 2, none⟩ = some (.slice ka kn kc) ∧ w9.frozen? ⟨w.heap.size + 1 + 1, 2, none⟩ = false := by
      intro c wx v9 w9 htm hx ho9 hg9
      have hne : ∀ g, g < w.heap.size + 4 → (Value.slice ka kn kc).ownBlock ≠ some g := fun g hg e => by have := (HOB.out g e).1; omega
      have hlt9 := OwnW.lt ho9
      obtain ⟨a9, c9, rfl, hr9⟩ := OwnW.rd cc_len ho9
      have hlen : (Rw.tms r.c i ++ [c]).length = kn + 1 := by rw [List.length_append, ← HKN.out]; rfl
      rw [hlen] at ho9 hlt9 ⊢
      have hL9 := (HL1.out.below hx).far hg9 (hne _ (by omega))
      refine ⟨a9, c9, _, rfl, rfl, ?_, ((HA1.out.below hx).far hg9 (hne _ (by omega))).other (by omega), ((HZ1.out.below hx).far hg9 (hne _ (by omega))).other (by omega), ?_, ?_, ?_, hL9.all.2.2, hL9.fro.2.2⟩
      ·rw [HNX.out, htm]
       exact ⟨(a9, kn + 1, c9), hL9.set rfl, hlen.symm, OwnW.other ho9 (by omega)⟩
      ·have hN9 : RowAt st 9 w9 (w.heap.size + 1 + 1 + 1) Rw.tnm := by
        have h0 := HN1.out.below hx
        unfold RowAt
        rw [hg9.block _ h0.lt (Ne.symm (hne _ (by omega)))]
        exact h0
       exact hN9.other (by omega)
      ·have h1 := HS1.out; have h2 := hx.size; have h3 := hg9.size
       show w.heap.size + 4 ≤ _
       simp; omega
      ·exact Below.setCell (Below.grown (HX1.out.trans hx) hg9 (HX1.out.trans hx).size (fun g hg => by have := (HOB.out g hg).1; omega)) (show w.heap.size ≤ w.heap.size + 1 + 1 by omega) _
     by_cases hi2 : i < 2
     ·have ti2 : (i : Int) < 2 := by omega
      obtain ⟨N, hN⟩ : ∃ N, x.n.tmod 10 = N := ⟨_, rfl⟩
      have hN1 : -10 < N ∧ N < 10 := by rw [← hN]; exact tmod_lt (by decide)
      have HTM : Hid (Rw.tm i x = [⟨nm, 1, N, []⟩]) := (by rw [Rw.tm, if_neg hk0, if_pos hi2, HNM.out, hN] : Rw.tm i x = _)
      have HNN : Hid (x.n.tmod 10 = N) := hN
      have HN2 : Hid (IntKind.i64.wrap N = N) := (by rw [IntKind.wrap_i64]; omega : IntKind.i64.wrap N = N)
      clear hN hk0
      go_wp2_with fail
      have hre := Ex.refl
      refine Rg.wp_rows_tail (List.take 8 _) (List.drop 8 _) (List.take_append_drop 8 _).symm [.inl (Value.pointer (some ⟨w.heap.size + 1 + 1, 2, none⟩)), .inl (Value.slice ka kn kc), .inl (.string (str nm)), .inl (Value.pointer (some ⟨wr.heap.size, 2, none⟩)), .inl (.int .i64 x.n), .inl (.int .i64 N), .inl (cv ⟨nm, 1, N, []⟩), .inr (IsCs w1.heap.size [⟨nm, 1, N, []⟩])] (Ex w1) Ex 64 (by kernel_rfl) rfl (by kernel_rfl) (by kernel_rfl) (by kernel_rfl) (by decide) (by kernel_rfl) ?st hre (Ex.drew _) ?goods ?fin
      case st => exact ⟨IsCs.stands _ _, trivial⟩
      case goods =>
       refine Rg.goods_cons (Rg.good_field hre rfl rfl rfl (fun wx hC => by go_simp)) ?_
       refine Rg.goods_cons (Rg.good_load hre rfl rfl rfl (fun wx hC => by have hz := (HL1.out.below hC).all.2.2; go_simp)) ?_
       refine Rg.goods_cons (Rg.good_move hre rfl rfl rfl) ?_
       refine Rg.goods_cons (Rg.good_field hre rfl rfl rfl (fun wx hC => by go_simp)) ?_
       refine Rg.goods_cons (Rg.good_load hre rfl rfl rfl (fun wx hC => by have hz := (HE1.out.below hC).all.2.2.1; go_simp)) ?_
       refine Rg.goods_cons (Rg.good_bin hre rfl rfl rfl rfl (fun _ => rfl) (fun w => by have hz := HNN.out; have hz2 := HN2.out; go_simp)) ?_
       refine Rg.goods_cons (Rg.good_call2 Try.func41 (by kernel_rfl) rfl rfl rfl (by rintro v0 v1 wx hC rfl rfl; exact ex_rowP (num_is nm N wx) hC)) ?_
       refine Rg.goods_cons (Rg.good_cs1 rfl rfl rfl) ?_
       exact Rg.goods_nil
      case fin =>
       intro wx hx
       simp only [Rg.later, List.take_succ_cons, List.take_zero, List.drop_succ_cons, List.drop_zero, Act.put, List.setIfInBounds_toArray, List.set_cons_succ, List.set_cons_zero]
       rintro v44 ⟨g44, rfl, hg44, hR44⟩
       refine wpList_append_wide cc_len cc_one rfl (.tmp 38) (.tmp 44) 59 _ 48 rfl Try.underlying59 Try.info90 (by omega) rfl (w.heap.size + 4) _ (Rw.tms r.c i) rfl (OwnW.later HO1.out hx) (some ⟨g44, 0, none⟩) _ 1 [⟨nm, 1, N, []⟩] rfl rfl hR44 (by have := Rw.tms_len r.c i; unfold maxLen; simp; omega) (by have := Rw.tms_len r.c i; simp; omega) (Nat.le_trans HS1.out hx.size) ?_
       intro v9 w9 ho9 hg9 hat9
       obtain ⟨a9, c9, w10, rfl, hw10, HK10, HA10, HZ10, HN10, HS10, HX10, k9, f9⟩ := hpush _ wx v9 w9 HTM.out hx ho9 hg9
       clear ho9 hg9 hat9 hx hR44 hpush
       go_wp2_with fail
       go_roundw
       case rel => exact ⟨i + 1, by omega, by go_num, HK10, HA10, HZ10, HN10, HS10, HX10⟩
       case measure => simp [intOf]; omega
     ·have ti2 : ¬ (i : Int) < 2 := by omega
      obtain ⟨y, hy⟩ : ∃ y, x.s.take 3 = y := ⟨_, rfl⟩
      have HTM : Hid (Rw.tm i x = [⟨nm, 2, 0, y⟩]) := (by rw [Rw.tm, if_neg hk0, if_neg hi2, HNM.out, hy] : Rw.tm i x = _)
      have xx : (str x.s).extract 0 3 = str y := by rw [← hy]; exact str_cut _ _
      have zx := str_size x.s
      have HY : Hid (x.s.take 3 = y) := hy
      have hxl2 := HXS.out
      unfold maxLen at hxl2
      clear hy hk0
      by_cases hs3 : 3 < x.s.length
      ·have d3 : decide ((3 : Int) < (x.s.length : Int)) = true := by simp; omega
       have d3n : decide (3 < x.s.length) = true := by simp; omega
       have b3 : (3 : Int) ≤ (x.s.length : Int) := by omega
       go_wp2_with fail
       have hre := Ex.refl
       refine Rg.wp_rows_tail (List.take 6 _) (List.drop 6 _) (List.take_append_drop 6 _).symm [.inl (Value.pointer (some ⟨w.heap.size + 1 + 1, 2, none⟩)), .inl (Value.slice ka kn kc), .inl (.string (str nm)), .inl (.string (str y)), .inl (cv ⟨nm, 2, 0, y⟩), .inr (IsCs w1.heap.size [⟨nm, 2, 0, y⟩])] (Ex w1) Ex 64 (by kernel_rfl) rfl (by kernel_rfl) (by kernel_rfl) (by kernel_rfl) (by decide) (by kernel_rfl) ?st hre (Ex.drew _) ?goods ?fin
       case st => exact ⟨IsCs.stands _ _, trivial⟩
       case goods =>
        refine Rg.goods_cons (Rg.good_field hre rfl rfl rfl (fun wx hC => by go_simp)) ?_
        refine Rg.goods_cons (Rg.good_load hre rfl rfl rfl (fun wx hC => by have hz := (HL1.out.below hC).all.2.2; go_simp)) ?_
        refine Rg.goods_cons (Rg.good_move hre rfl rfl rfl) ?_
        refine Rg.goods_cons (Rg.good_move hre rfl rfl rfl) ?_
        refine Rg.goods_cons (Rg.good_call2 Try.func42 (by kernel_rfl) rfl rfl rfl (by rintro v0 v1 wx hC rfl rfl; exact ex_rowP (strc_is nm y wx) hC)) ?_
        refine Rg.goods_cons (Rg.good_cs1 rfl rfl rfl) ?_
        exact Rg.goods_nil
       case fin =>
        intro wx hx
        simp only [Rg.later, List.take_succ_cons, List.take_zero, List.drop_succ_cons, List.drop_zero, Act.put, List.setIfInBounds_toArray, List.set_cons_succ, List.set_cons_zero]
        rintro v44 ⟨g44, rfl, hg44, hR44⟩
        refine wpList_append_wide cc_len cc_one rfl (.tmp 55) (.tmp 59) 59 _ 48 rfl Try.underlying59 Try.info90 (by omega) rfl (w.heap.size + 4) _ (Rw.tms r.c i) rfl (OwnW.later HO1.out hx) (some ⟨g44, 0, none⟩) _ 1 [⟨nm, 2, 0, y⟩] rfl rfl hR44 (by have := Rw.tms_len r.c i; unfold maxLen; simp; omega) (by have := Rw.tms_len r.c i; simp; omega) (Nat.le_trans HS1.out hx.size) ?_
        intro v9 w9 ho9 hg9 hat9
        obtain ⟨a9, c9, w10, rfl, hw10, HK10, HA10, HZ10, HN10, HS10, HX10, k9, f9⟩ := hpush _ wx v9 w9 HTM.out hx ho9 hg9
        clear ho9 hg9 hat9 hx hR44 hpush
        go_wp2_with fail
        go_roundw
        case rel => exact ⟨i + 1, by omega, by go_num, HK10, HA10, HZ10, HN10, HS10, HX10⟩
        case measure => simp [intOf]; omega
      ·have d3 : decide ((3 : Int) < (x.s.length : Int)) = false := by simp; omega
       have d3n : decide (3 < x.s.length) = false := by simp; omega
       have hyx : y = x.s := by rw [← HY.out]; exact List.take_of_length_le (by omega)
       rw [hyx] at HTM
       clear hyx
       go_wp2_with fail
       have hre := Ex.refl
       refine Rg.wp_rows_tail (List.take 6 _) (List.drop 6 _) (List.take_append_drop 6 _).symm [.inl (Value.pointer (some ⟨w.heap.size + 1 + 1, 2, none⟩)), .inl (Value.slice ka kn kc), .inl (.string (str nm)), .inl (.string (str x.s)), .inl (cv ⟨nm, 2, 0, x.s⟩), .inr (IsCs w1.heap.size [⟨nm, 2, 0, x.s⟩])] (Ex w1) Ex 64 (by kernel_rfl) rfl (by kernel_rfl) (by kernel_rfl) (by kernel_rfl) (by decide) (by kernel_rfl) ?st hre (Ex.drew _) ?goods ?fin
       case st => exact ⟨IsCs.stands _ _, trivial⟩
       case goods =>
        refine Rg.goods_cons (Rg.good_field hre rfl rfl rfl (fun wx hC => by go_simp)) ?_
        refine Rg.goods_cons (Rg.good_load hre rfl rfl rfl (fun wx hC => by have hz := (HL1.out.below hC).all.2.2; go_simp)) ?_
        refine Rg.goods_cons (Rg.good_move hre rfl rfl rfl) ?_
        refine Rg.goods_cons (Rg.good_move hre rfl rfl rfl) ?_
        refine Rg.goods_cons (Rg.good_call2 Try.func42 (by kernel_rfl) rfl rfl rfl (by rintro v0 v1 wx hC rfl rfl; exact ex_rowP (strc_is nm x.s wx) hC)) ?_
        refine Rg.goods_cons (Rg.good_cs1 rfl rfl rfl) ?_
        exact Rg.goods_nil
       case fin =>
        intro wx hx
        simp only [Rg.later, List.take_succ_cons, List.take_zero, List.drop_succ_cons, List.drop_zero, Act.put, List.setIfInBounds_toArray, List.set_cons_succ, List.set_cons_zero]
        rintro v44 ⟨g44, rfl, hg44, hR44⟩
        refine wpList_append_wide cc_len cc_one rfl (.tmp 55) (.tmp 59) 59 _ 48 rfl Try.underlying59 Try.info90 (by omega) rfl (w.heap.size + 4) _ (Rw.tms r.c i) rfl (OwnW.later HO1.out hx) (some ⟨g44, 0, none⟩) _ 1 [⟨nm, 2, 0, x.s⟩] rfl rfl hR44 (by have := Rw.tms_len r.c i; unfold maxLen; simp; omega) (by have := Rw.tms_len r.c i; simp; omega) (Nat.le_trans HS1.out hx.size) ?_
        intro v9 w9 ho9 hg9 hat9
        obtain ⟨a9, c9, w10, rfl, hw10, HK10, HA10, HZ10, HN10, HS10, HX10, k9, f9⟩ := hpush _ wx v9 w9 HTM.out hx ho9 hg9
        clear ho9 hg9 hat9 hx hR44 hpush
        go_wp2_with fail
        go_roundw
        case rel => exact ⟨i + 1, by omega, by go_num, HK10, HA10, HZ10, HN10, HS10, HX10⟩
        case measure => simp [intOf]; omega
   ·have htg : (r.c.length : Int) ≤ (i : Int) := by omega
    have HEN : Hid (Rw.tms r.c 4 = Rw.tms r.c i) := (Rw.tms_end r.c (by omega) (by omega) : Rw.tms r.c 4 = Rw.tms r.c i)
    have HLo : Hid (LAt wr (w.heap.size + 1 + 1) ⟨T, q, ka, kn, kc⟩) := hLo
    have HOw : Hid (OwnC wr (w.heap.size + 4) (.slice ka kn kc) (Rw.tms r.c i)) := hOw
    obtain ⟨o0, o1, o2⟩ := hLo.all
    obtain ⟨z0, z1, z2⟩ := HZr.out.fro
    obtain ⟨y0, y1, y2⟩ := HZr.out.all
    simp only at o0 o1 o2
    clear hLo hOw hkn HKD
    go_wp2_with fail
    have hP9 := HZr.out.store ⟨T, q, ka, kn, kc⟩
    have hX9 := Below.lset HXr.out (show w.heap.size ≤ w.heap.size + 1 by omega) ⟨T, q, ka, kn, kc⟩
    refine bodyPost_ret (v := rvv ⟨T, q, ka, kn, kc⟩) (res_row Try.results22 rfl hP9) rfl ⟨_, rfl, ?_, hX9, fun g hg => by have := HOB.out g hg; omega⟩
    have hO9 : OwnC (lset wr (w.heap.size + 1) ⟨T, q, ka, kn, kc⟩) (w.heap.size + 4) (.slice ka kn kc) (Rw.tms r.c i) := OwnW.other (OwnW.other (OwnW.other HOw.out (by omega)) (by omega)) (by omega)
    obtain ⟨a3, c3, e3, hR3⟩ := OwnW.rd cc_len hO9
    simp only [Value.slice.injEq] at e3
    obtain ⟨rfl, _, rfl⟩ := e3
    refine ⟨HT.out.symm, rfl, ?_, ?_⟩
    ·show kn = (Rw.tms r.c 4).length
     rw [HEN.out]; exact HKN.out
    ·show RdC _ ka kc (Rw.tms r.c 4)
     rw [HEN.out]; exact hR3
  ·have hti : ¬ (i : Int) < 4 := by omega
   have HEN : Hid (Rw.tms r.c 4 = Rw.tms r.c i) := (by rw [show i = 4 by omega] : Rw.tms r.c 4 = Rw.tms r.c i)
   have HLo : Hid (LAt wr (w.heap.size + 1 + 1) ⟨T, q, ka, kn, kc⟩) := hLo
   have HOw : Hid (OwnC wr (w.heap.size + 4) (.slice ka kn kc) (Rw.tms r.c i)) := hOw
   obtain ⟨o0, o1, o2⟩ := hLo.all
   obtain ⟨z0, z1, z2⟩ := HZr.out.fro
   obtain ⟨y0, y1, y2⟩ := HZr.out.all
   simp only at o0 o1 o2
   clear hLo hOw hkn HKD
   go_wp2_with fail
   have hP9 := HZr.out.store ⟨T, q, ka, kn, kc⟩
   have hX9 := Below.lset HXr.out (show w.heap.size ≤ w.heap.size + 1 by omega) ⟨T, q, ka, kn, kc⟩
   refine bodyPost_ret (v := rvv ⟨T, q, ka, kn, kc⟩) (res_row Try.results22 rfl hP9) rfl ⟨_, rfl, ?_, hX9, fun g hg => by have := HOB.out g hg; omega⟩
   have hO9 : OwnC (lset wr (w.heap.size + 1) ⟨T, q, ka, kn, kc⟩) (w.heap.size + 4) (.slice ka kn kc) (Rw.tms r.c i) := OwnW.other (OwnW.other (OwnW.other HOw.out (by omega)) (by omega)) (by omega)
   obtain ⟨a3, c3, e3, hR3⟩ := OwnW.rd cc_len hO9
   simp only [Value.slice.injEq] at e3
   obtain ⟨rfl, _, rfl⟩ := e3
   refine ⟨HT.out.symm, rfl, ?_, ?_⟩
   ·show kn = (Rw.tms r.c 4).length
    rw [HEN.out]; exact HKN.out
   ·show RdC _ ka kc (Rw.tms r.c 4)
    rw [HEN.out]; exact hR3
theorem tame_is (v : RV) (r : Rw) (q : Int) (w : World) (h : RvOk w v r) (hl : RwOk r) :
  Calls Try.prog 22 #[rvv v, .int .i64 q] w fun e w' => ∃ u : RV, e = .returned (rvv u) ∧ RvOk w' u (Rw.tame r q) ∧ Ex w w' := by
 refine (tame_own v r q w h hl).mono ?_
 rintro e w' ⟨u, h1, h2, h3, _⟩
 exact ⟨u, h1, h2, h3⟩
end Go.Proofs.Ytibnhjfeepdddaa
