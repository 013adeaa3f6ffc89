/-
  The landed fits, Size, bounded. Taken out of another text of mine: Rmem. Taken out of another text of mine: Kcel. Taken out of another text of mine: Keeps. The books' own At and Rows.
-/
import Derived.Test.YtbdjccmlgdfapaaGreatPblk
import Derived.Test.YtbdjccmlgdfapaaGreatStrs
import Derived.Test.YtbdjccmlgdfapaaGreatPmore
import Derived.Test.YtbdjccmlgdfapaaGreatVarint
import Derived.Deep.DeepCutAuto
import Derived.Deep.Light
namespace Go.Proofs.YtbdjccmlgdfapaaGreat
open Go.RowKit
set_option linter.unusedVariables false
set_option linter.unusedSimpArgs false
namespace Pd
theorem sum_take (l : List Pr) (i : Nat) : ((l.take i).map size).sum ≤ (l.map size).sum := by
 induction l generalizing i with
 | nil => simp
 | cons x t ih =>
  cases i with
  | zero => simp
  | succ i =>
   have := ih i
   simp only [List.take_succ_cons, List.map_cons, List.sum_cons]
   omega
/-- It is no deeper, and of no more parts. -/
def fit (p : Pr) (d L : Nat) : Bool := decide (deep p ≤ d) && decide (size p ≤ L)
theorem fit_mk (h : Hd) (l : List Pr) (d L : Nat) : fit (Pr.mk' h l) d L = true ↔ (1 ≤ d ∧ 1 ≤ L) ∧ (∀ k ∈ l, deep k ≤ d - 1) ∧ (l.map size).sum ≤ L - 1 := by
 unfold fit
 rw [deep_mk, size_mk]
 simp only [Bool.and_eq_true, decide_eq_true_eq]
 constructor
 ·rintro ⟨h1, h2⟩
  refine ⟨⟨by omega, by omega⟩, fun k hk => ?_, by omega⟩
  have := deep_in hk
  omega
 ·rintro ⟨⟨h1, h2⟩, h3, h4⟩
  refine ⟨?_, by omega⟩
  have : (l.map deep).foldr max 0 ≤ d - 1 := by
   refine foldr_le fun x hx => ?_
   obtain ⟨y, hy, rfl⟩ := List.mem_map.1 hx
   exact h3 y hy
  omega
end Pd
/-- What fits leaves behind. -/
def FitsR (p : Pr) (d L g : Nat) (w w' : World) : Prop := ∃ L' : Nat, IAt w' g L' ∧ (Pd.fit p d L = true → L' = L - Pd.size p) ∧ w.grownBy w' (some g)
set_option maxHeartbeats 4000000 in
set_option maxRecDepth 100000 in
theorem fits_is : ∀ (p : Pr) (v : PV) (d L g : Nat) (w : World), Pd.Lay (fun b => b ≠ g) p w v → IAt w g L → d ≤ 1000 → L ≤ 1000000 →
  Calls Tryz.prog 34 #[pvv v, .int .i64 d, .pointer (some ⟨g, 0, none⟩)] w fun e w' => e = .returned (.bool (Pd.fit p d L)) ∧ FitsR p d L g w w' := by
 refine Pd.tree ?_
 intro h l ih v d L g w hL hI hd hLL
 obtain ⟨hHd, hkn, hkB, hkc, hkm, hk0⟩ := hL.head
 obtain ⟨vk, vcol, vn, vm, vs, vset, ⟨p, n, cap⟩⟩ := v
 simp only at hkn hkB hkc hkm hk0
 subst hkn
 unfold maxLen at hkm
 obtain ⟨o, ho⟩ : ∃ o, Pd.fit (Pr.mk' h l) d L = o := ⟨_, rfl⟩
 have HO : Hid (Pd.fit (Pr.mk' h l) d L = o) := ho
 have HIH : Hid (∀ k ∈ l, ∀ (v : PV) (d L g : Nat) (w : World), Pd.Lay (fun b => b ≠ g) k w v → IAt w g L → d ≤ 1000 → L ≤ 1000000 →
  Calls Tryz.prog 34 #[pvv v, .int .i64 d, .pointer (some ⟨g, 0, none⟩)] w fun e w' => e = .returned (.bool (Pd.fit k d L)) ∧ FitsR k d L g w w') := ih
 rw [ho]
 have HF := (Pd.fit_mk h l d L)
 have HFM : Hid (o = true ↔ (1 ≤ d ∧ 1 ≤ L) ∧ (∀ k ∈ l, Pd.deep k ≤ d - 1) ∧ (l.map Pd.size).sum ≤ L - 1) := (by rw [← ho]; exact HF : o = true ↔ _)
 have HLw : Hid (Pd.Lay (fun b => b ≠ g) (Pr.mk' h l) w ⟨vk, vcol, vn, vm, vs, vset, p, l.length, cap⟩) := hL
 obtain ⟨W, hW⟩ : ∃ W, w.alloc (pb ⟨vk, vcol, vn, vm, vs, vset, p, l.length, cap⟩) = W := ⟨_, rfl⟩
 have hXW : Ex w W := by rw [← hW]; exact (Below.refl _ _).alloc (Nat.le_refl _) _
 have HIW : Hid (IAt W g L) := hI.below hXW
 have HXW : Hid (Ex w W) := hXW
 have HP : Hid (PAt W w.heap.size ⟨vk, vcol, vn, vm, vs, vset, p, l.length, cap⟩) := (by rw [← hW]; exact PAt.new w _ : PAt W w.heap.size _)
 have hgw : w.heap.size ≠ g := by have := hI.lt; omega
 have i0 := HIW.out.cell
 have i1 := HIW.out.frozen
 clear hL hI hHd hkB ho HF ih hXW
 unfold pvv
 simp only [sv]
 go_enter Tryz.func34, Tryz.ntmps34
 by_cases hd0 : d = 0
 ·subst hd0
  have HFF : Hid (o = false) := (by cases o with | false => rfl | true => exact absurd (HFM.out.1 rfl).1.1 (by omega) : o = false)
  go_wp2_with fail
  go_ret
  exact ⟨by rw [HFF.out]; rfl, L, by simpa using HIW.out, by rw [HO.out, HFF.out]; simp, HXW.out.grownBy _⟩
 have t1 : ((d : Int) == 0) = false := beq_eq_false_iff_ne.2 (by omega)
 by_cases hL0 : L = 0
 ·subst hL0
  have HFF : Hid (o = false) := (by cases o with | false => rfl | true => exact absurd (HFM.out.1 rfl).1.2 (by omega) : o = false)
  go_wp2_with fail
  go_ret
  exact ⟨by rw [HFF.out]; rfl, 0, by simpa using HIW.out, by rw [HO.out, HFF.out]; simp, HXW.out.grownBy _⟩
 have t2 : ((L : Int) == 0) = false := beq_eq_false_iff_ne.2 (by omega)
 obtain ⟨L1, hL1⟩ : ∃ L1, L1 + 1 = L := ⟨L - 1, by omega⟩
 obtain ⟨d1, hd1⟩ : ∃ d1, d1 + 1 = d := ⟨d - 1, by omega⟩
 have HL1 : Hid (L1 + 1 = L) := hL1
 have HD1 : Hid (d1 + 1 = d) := hd1
 have t3 : (L : Int) - 1 = (L1 : Int) := by omega
 have t4 : (d : Int) - 1 = (d1 : Int) := by omega
 clear hL1 hd1
 obtain ⟨W2, hW2⟩ : ∃ W2, W.setCell ⟨g, 0, none⟩ (.int .i64 (L1 : Int)) = W2 := ⟨_, rfl⟩
 have HI2 : Hid (IAt W2 g L1) := (by rw [← hW2]; exact HIW.out.set _ : IAt W2 g L1)
 have HG2 : Hid (w.grownBy W2 (some g)) := (by rw [← hW2]; exact grown_tr (HXW.out.grownBy _) (grown_set1 _ _ _ _) : w.grownBy W2 (some g))
 have HP2 : Hid (PAt W2 w.heap.size ⟨vk, vcol, vn, vm, vs, vset, p, l.length, cap⟩) := (by rw [← hW2]; exact HP.out.other hgw : PAt W2 w.heap.size _)
 obtain ⟨p0, p1, p2, p3, p4, p5, p6⟩ := HP2.out.all
 simp only at p0 p1 p2 p3 p4 p5 p6
 go_wp2_with fail
 go_loopw [25, 8] (fun iv kv wr => ∃ i : Nat, i ≤ l.length ∧ iv = .int .i64 i ∧ Hid (∀ k ∈ l.take i, Pd.deep k ≤ d1) ∧ Hid (∃ M : Nat, M + ((l.take i).map Pd.size).sum = L1 ∧ IAt wr g M) ∧ Hid (w.grownBy wr (some g))) (fun iv kv wr => l.length - (intOf iv).toNat)
 case atStart => exact ⟨0, by omega, rfl, (by simp : ∀ k ∈ l.take 0, Pd.deep k ≤ d1), (⟨L1, by simp, HI2.out⟩ : ∃ M : Nat, M + ((l.take 0).map Pd.size).sum = L1 ∧ IAt _ g M), HG2⟩
 case round =>
  obtain ⟨i, hi, rfl, HA, HM, HGr⟩ := hrel
  by_cases hlt : i < l.length
  ·have hti : (i : Int) < (l.length : Int) := by omega
   have hLr := Pd.Lay.far (row := some g) (fun b hb e => hb (by simpa using e.symm)) _ HLw.out HGr.out
   obtain ⟨b, off, u, hpp, hbg, hLk, e0, e1, e2, e3, e4, e5, e6⟩ := hLr.kid hlt
   simp only at hpp
   obtain ⟨k, hk⟩ : ∃ k, l[i] = k := ⟨_, rfl⟩
   rw [hk] at hLk
   have HK : Hid (k ∈ l) := (by rw [← hk]; exact List.getElem_mem hlt : k ∈ l)
   have HNX : Hid (l.take (i + 1) = l.take i ++ [k]) := (by rw [List.take_add_one, List.getElem?_eq_getElem hlt, hk]; rfl : l.take (i + 1) = l.take i ++ [k])
   obtain ⟨M, hM, hIM⟩ := HM.out
   have HMs : Hid (M + ((l.take i).map Pd.size).sum = L1) := hM
   have hMl : M ≤ 1000000 := by have := HL1.out; omega
   have hdl : d1 ≤ 1000 := by have := HD1.out; omega
   obtain ⟨w1, hw1⟩ : ∃ w1, wr.alloc (pb u) = w1 := ⟨_, rfl⟩
   have hX1 : Ex wr w1 := by rw [← hw1]; exact (Below.refl _ _).alloc (Nat.le_refl _) _
   have HG1 : Hid (w.grownBy w1 (some g)) := (grown_tr HGr.out (hX1.grownBy _) : w.grownBy w1 (some g))
   have HC : Hid (Calls Tryz.prog 34 #[pvv u, .int .i64 d1, .pointer (some ⟨g, 0, none⟩)] w1 fun e w' => e = .returned (.bool (Pd.fit k d1 M)) ∧ FitsR k d1 M g w1 w') := HIH.out k HK.out u d1 M g w1 (Pd.Lay.below _ hLk hX1) (hIM.below hX1) hdl hMl
   have HP1 : Hid (PAt w1 wr.heap.size u) := (by rw [← hw1]; exact PAt.new wr u : PAt w1 wr.heap.size u)
   obtain ⟨q0, q1, q2, q3, q4, q5, q6⟩ := HP1.out.all
   subst hpp
   clear hLr hLk hk hIM hM hX1 hbg
   have HFK : Hid (∃ x, Pd.fit k d1 M = x) := (⟨_, rfl⟩ : ∃ x, Pd.fit k d1 M = x)
   go_wp2_with fail
   go_at_call 34
   refine Calls.mono HC.out ?_
   rintro e w2 ⟨rfl, M2, hI2, hM2, hG2⟩
   have HG3 : Hid (w.grownBy w2 (some g)) := (grown_tr HG1.out hG2 : w.grownBy w2 (some g))
   obtain ⟨x, hx⟩ := HFK.out
   rw [hx]
   rw [hx] at hM2
   cases x with
   | true =>
    have hM3 := hM2 rfl
    have hfk : Pd.deep k ≤ d1 ∧ Pd.size k ≤ M := by unfold Pd.fit at hx; simpa using hx
    have HA2 : Hid (∀ c ∈ l.take (i + 1), Pd.deep c ≤ d1) := (by
     intro c hc
     rw [HNX.out] at hc
     rcases List.mem_append.1 hc with hc | hc
     ·exact HA.out c hc
     ·rw [List.mem_singleton] at hc; subst hc; exact hfk.1 : ∀ c ∈ l.take (i + 1), Pd.deep c ≤ d1)
    have HMM : Hid (∃ Q : Nat, Q + ((l.take (i + 1)).map Pd.size).sum = L1 ∧ IAt w2 g Q) := (⟨M2, by
     have h1 := HMs.out
     rw [HNX.out, List.map_append, List.sum_append]
     simp only [List.map_cons, List.map_nil, List.sum_cons, List.sum_nil]
     omega, hI2⟩ : ∃ Q : Nat, Q + ((l.take (i + 1)).map Pd.size).sum = L1 ∧ IAt w2 g Q)
    clear hI2 hM2 hG2 hx hM3 hfk HC
    go_wp2_with fail
    go_roundw
    case rel => exact ⟨i + 1, by omega, by go_num, HA2, HMM, HG3⟩
    case measure => simp [intOf]; omega
   | false =>
    have HFF : Hid (o = false) := (by
     cases o with
     | false => rfl
     | true =>
      exfalso
      obtain ⟨h1, h2, h3⟩ := HFM.out.1 rfl
      have h4 := h2 k HK.out
      have h5 := Pd.sum_take l (i + 1)
      have h6 := HMs.out
      have h7 := HL1.out
      have h8 := HD1.out
      rw [HNX.out, List.map_append, List.sum_append] at h5
      simp only [List.map_cons, List.map_nil, List.sum_cons, List.sum_nil] at h5
      unfold Pd.fit at hx
      simp at hx
      omega : o = false)
    have HI9 : Hid (IAt w2 g M2) := hI2
    clear hI2 hM2 hG2 hx HC
    go_wp2_with fail
    go_ret
    exact ⟨by rw [HFF.out]; rfl, M2, HI9.out, by rw [HO.out, HFF.out]; simp, HG3.out⟩
  ·have hti : ¬ (i : Int) < (l.length : Int) := by omega
   obtain ⟨M, hM, hIM⟩ := HM.out
   have hil : l.take i = l := List.take_of_length_le (by omega)
   have HFT : Hid (o = true ∧ M = L - Pd.size (Pr.mk' h l)) := (by
    have h1 := HA.out
    have h7 := HL1.out
    have h8 := HD1.out
    rw [hil] at h1 hM
    refine ⟨HFM.out.2 ⟨⟨by omega, by omega⟩, fun k hk => ?_, by omega⟩, ?_⟩
    ·have := h1 k hk; omega
    ·rw [Pd.size_mk]; omega : o = true ∧ M = L - Pd.size (Pr.mk' h l))
   have HI9 : Hid (IAt wr g M) := hIM
   clear hM hIM hil
   go_wp2_with fail
   go_ret
   exact ⟨by rw [HFT.out.1]; rfl, M, HI9.out, fun _ => HFT.out.2, HGr.out⟩
set_option maxHeartbeats 1000000 in
set_option maxRecDepth 100000 in
/-- Size. -/
def Pd.sizeB (p : Pr) : Nat := if Pd.fit p 50 5000 = true then Pd.size p else 0
theorem size_is (p : Pr) (v : PV) (w : World) (h : Pd.Lay (fun _ => True) p w v) : Calls Tryz.prog 14 #[pvv v] w fun e w' => e = .returned (.int .i64 (Pd.sizeB p : Int)) ∧ Ex w w' := by
 obtain ⟨vk, vcol, vn, vm, vs, vset, vkids⟩ := v
 obtain ⟨W, hW⟩ : ∃ W, (w.alloc (pb ⟨vk, vcol, vn, vm, vs, vset, vkids⟩)).alloc (.cells #[.int .i64 5000] 3) = W := ⟨_, rfl⟩
 have hX1 : Ex w (w.alloc (pb ⟨vk, vcol, vn, vm, vs, vset, vkids⟩)) := (Below.refl _ _).alloc (Nat.le_refl _) _
 have hXW : Ex w W := by rw [← hW]; exact Below.alloc hX1 (by simp) _
 have hsz : (w.alloc (pb ⟨vk, vcol, vn, vm, vs, vset, vkids⟩)).heap.size = w.heap.size + 1 := by simp
 have HIW : Hid (IAt W (w.heap.size + 1) 5000) := (by rw [← hW, ← hsz]; exact IAt.new _ _ : IAt W (w.heap.size + 1) 5000)
 have HXW : Hid (Ex w W) := hXW
 have HP : Hid (PAt W w.heap.size ⟨vk, vcol, vn, vm, vs, vset, vkids⟩) := (by rw [← hW]; exact (PAt.new w _).alloc _ : PAt W w.heap.size _)
 have HC : Hid (Calls Tryz.prog 34 #[pvv ⟨vk, vcol, vn, vm, vs, vset, vkids⟩, .int .i64 (50 : Nat), .pointer (some ⟨w.heap.size + 1, 0, none⟩)] W fun e w' => e = .returned (.bool (Pd.fit p 50 5000)) ∧ FitsR p 50 5000 (w.heap.size + 1) W w') :=
  fits_is p _ 50 5000 (w.heap.size + 1) W (Pd.Lay.mono (fun b hb => by have := hb.2; omega) _ (Pd.Lay.below _ h.lt hXW)) HIW.out (by omega) (by omega)
 obtain ⟨p0, p1, p2, p3, p4, p5, p6⟩ := HP.out.all
 have i0 := HIW.out.cell
 have i1 := HIW.out.frozen
 obtain ⟨x, hx⟩ : ∃ x, Pd.fit p 50 5000 = x := ⟨_, rfl⟩
 have HFX : Hid (Pd.fit p 50 5000 = x) := hx
 clear h hX1 hXW hsz hx
 unfold pvv
 simp only [sv]
 go_enter Tryz.func14, Tryz.ntmps14
 go_wp2_with fail
 go_at_call 34
 refine Calls.mono HC.out ?_
 rintro e w2 ⟨rfl, M, hIM, hM, hG⟩
 rw [HFX.out] at hM ⊢
 have HX2 : Hid (Ex w w2) := (Below.grown HXW.out hG HXW.out.size (fun k hk => by simp at hk; omega) : Ex w w2)
 cases x with
 | false =>
  have HS : Hid (Pd.sizeB p = 0) := (by unfold Pd.sizeB; rw [HFX.out]; rfl : Pd.sizeB p = 0)
  clear hIM hM hG HC
  go_wp2_with fail
  go_ret
  exact ⟨by rw [HS.out]; rfl, HX2.out⟩
 | true =>
  have hs : Pd.size p ≤ 5000 := by have := HFX.out; unfold Pd.fit at this; simp at this; exact this.2
  have HS : Hid (Pd.sizeB p = Pd.size p) := (by unfold Pd.sizeB; rw [HFX.out]; rfl : Pd.sizeB p = Pd.size p)
  have hMm := hM rfl
  obtain ⟨S, hS⟩ : ∃ S, Pd.size p = S := ⟨_, rfl⟩
  have HS2 : Hid (Pd.size p = S) := hS
  have t9 : (5000 : Int) - (M : Int) = (S : Int) := by omega
  have hM5 : (M : Int) ≤ 5000 := by omega
  have i9 := hIM.cell
  clear hIM hM hG HC hs hMm hS i0 i1
  go_wp2_with fail
  go_ret
  exact ⟨by rw [HS.out, HS2.out]; rfl, HX2.out⟩
theorem size_of {p : Pr} : decide (0 < Pd.sizeB p) = Pd.fit p 50 5000 := by
 unfold Pd.sizeB
 have := Pd.size_pos p
 cases Pd.fit p 50 5000 with
 | true => simp; omega
 | false => simp
set_option maxHeartbeats 1000000 in
set_option maxRecDepth 100000 in
theorem bounded_is (p : Pr) (v : PV) (w : World) (h : Pd.Lay (fun _ => True) p w v) (o : Bool) (ho : Pd.fit p 50 5000 = o) : Calls Tryz.prog 40 #[pvv v] w fun e w' => e = .returned (.bool o) ∧ Ex w w' := by
 obtain ⟨vk, vcol, vn, vm, vs, vset, vkids⟩ := v
 obtain ⟨W, hW⟩ : ∃ W, w.alloc (pb ⟨vk, vcol, vn, vm, vs, vset, vkids⟩) = W := ⟨_, rfl⟩
 have hXW : Ex w W := by rw [← hW]; exact (Below.refl _ _).alloc (Nat.le_refl _) _
 have HXW : Hid (Ex w W) := hXW
 have HP : Hid (PAt W w.heap.size ⟨vk, vcol, vn, vm, vs, vset, vkids⟩) := (by rw [← hW]; exact PAt.new w _ : PAt W w.heap.size _)
 have HC : Hid (Calls Tryz.prog 14 #[pvv ⟨vk, vcol, vn, vm, vs, vset, vkids⟩] W fun e w' => e = .returned (.int .i64 (Pd.sizeB p : Int)) ∧ Ex W w') := size_is p _ W (Pd.Lay.below _ h hXW)
 obtain ⟨p0, p1, p2, p3, p4, p5, p6⟩ := HP.out.all
 obtain ⟨S, hS⟩ : ∃ S, Pd.sizeB p = S := ⟨_, rfl⟩
 have hd : decide (0 < S) = o := by rw [← hS, size_of, ho]
 have hd2 : decide ((0 : Int) < (S : Int)) = o := by rw [← hd]; congr 1; exact propext (by omega)
 rw [hS] at HC
 clear h hXW ho hS
 unfold pvv
 simp only [sv]
 go_enter Tryz.func40, Tryz.ntmps40
 go_wp2_with fail
 go_at_call 14
 refine Calls.mono HC.out ?_
 rintro e w2 ⟨rfl, hx⟩
 have HX2 : Hid (Ex w w2) := (HXW.out.trans hx : Ex w w2)
 clear hx HC
 go_wp2_with fail
 go_ret
 exact ⟨rfl, HX2.out⟩
end Go.Proofs.YtbdjccmlgdfapaaGreat
namespace Go.Proofs.YtbdjccmlgdfapaaGreat
open Go.RowKit
set_option linter.unusedVariables false
set_option linter.unusedSimpArgs false
/-- A cell's four places; as a value; in a block. -/
def cc (c : Ce) : List Value := [.string (str c.col), .int .i64 c.k, .int .i64 c.n, .string (str c.s)]
def cv (c : Ce) : Value := .agg #[.string (str c.col), .int .i64 c.k, .int .i64 c.n, .string (str c.s)]
abbrev cb (c : Ce) : Obj := .cells #[.string (str c.col), .int .i64 c.k, .int .i64 c.n, .string (str c.s)] 58
/-- A row's three places, the last a slice. -/
structure RV where
 t : Int
 q : Int
 s : SV
def rc (v : RV) : List Value := [.int .i64 v.t, .int .i64 v.q, sv v.s]
def rvv (v : RV) : Value := .agg #[.int .i64 v.t, .int .i64 v.q, sv v.s]
abbrev rb (v : RV) : Obj := .cells #[.int .i64 v.t, .int .i64 v.q, sv v.s] 44
theorem cc_len (c : Ce) : (cc c).length = 4 := rfl
theorem rc_len (v : RV) : (rc v).length = 3 := rfl
theorem cc_one (c : Ce) : ∀ u ∈ cc c, u.oneCell' = true := by
 intro u hu
 simp only [cc, List.mem_cons, List.not_mem_nil, or_false] at hu
 rcases hu with rfl | rfl | rfl | rfl <;> rfl
theorem rc_one (v : RV) : ∀ u ∈ rc v, u.oneCell' = true := by
 intro u hu
 simp only [rc, List.mem_cons, List.not_mem_nil, or_false] at hu
 rcases hu with rfl | rfl | rfl <;> rfl
abbrev RdC := @RdW Ce 4 cc
abbrev OwnC := @OwnW Ce 58 4 cc
theorem RdC.four {w : World} {a : Option Addr} {cap : Nat} {l : List Ce} (h : RdC w a cap l) {i : Nat} (hi : i < l.length) : ∃ b off, a = some ⟨b, off, none⟩ ∧ w.cell? ⟨b, off + i * 4, none⟩ = some (.string (str l[i].col)) ∧ w.cell? ⟨b, off + i * 4 + 1, none⟩ = some (.int .i64 l[i].k) ∧
  w.cell? ⟨b, off + i * 4 + 2, none⟩ = some (.int .i64 l[i].n) ∧ w.cell? ⟨b, off + i * 4 + 3, none⟩ = some (.string (str l[i].s)) := by
 obtain ⟨b, off, e, hc⟩ := h.at hi
 exact ⟨b, off, e, hc 0 _ rfl, hc 1 _ rfl, hc 2 _ rfl, hc 3 _ rfl⟩
/-- A row as it lies reads as the row r. -/
def RvOk (w : World) (v : RV) (r : Rw) : Prop := v.t = r.t ∧ v.q = r.q ∧ v.s.2.1 = r.c.length ∧ RdC w v.s.1 v.s.2.2 r.c
def EachR (w : World) (vs : List RV) (l : List Rw) : Prop := vs.length = l.length ∧ ∀ (i : Nat) (v : RV) (r : Rw), vs[i]? = some v → l[i]? = some r → RvOk w v r
/-- A slice reads as the rows l. -/
def RdR (w : World) (a : Option Addr) (cap : Nat) (l : List Rw) : Prop := ∃ vs, RdW 3 rc w a cap vs ∧ EachR w vs l
theorem RvOk.below {w w' : World} {v : RV} {r : Rw} (h : RvOk w v r) (hx : Ex w w') : RvOk w' v r := ⟨h.1, h.2.1, h.2.2.1, h.2.2.2.below hx⟩
theorem EachR.below {w w' : World} {vs : List RV} {l : List Rw} (h : EachR w vs l) (hx : Ex w w') : EachR w' vs l := ⟨h.1, fun i v r h1 h2 => (h.2 i v r h1 h2).below hx⟩
theorem RdR.below {w w' : World} {a : Option Addr} {cap : Nat} {l : List Rw} (h : RdR w a cap l) (hx : Ex w w') : RdR w' a cap l := by
 obtain ⟨vs, h1, h2⟩ := h
 exact ⟨vs, h1.below hx, h2.below hx⟩
theorem EachR.nil (w : World) : EachR w [] [] := ⟨rfl, fun i s x h _ => by simp at h⟩
theorem RdR.nil (w : World) : RdR w none 0 [] := ⟨[], RdW.nil w, EachR.nil w⟩
theorem RdR.bounds {w : World} {a : Option Addr} {cap : Nat} {l : List Rw} (h : RdR w a cap l) : l.length ≤ cap ∧ cap ≤ maxLen ∧ (a = none → cap = 0) := by
 obtain ⟨vs, h1, h2⟩ := h
 exact ⟨by rw [← h2.1]; exact h1.1, h1.2.1, h1.2.2.1⟩
theorem RdR.at {w : World} {a : Option Addr} {cap : Nat} {l : List Rw} (h : RdR w a cap l) {i : Nat} (hi : i < l.length) : ∃ b off p c, a = some ⟨b, off, none⟩ ∧ w.cell? ⟨b, off + i * 3, none⟩ = some (.int .i64 l[i].t) ∧ w.cell? ⟨b, off + i * 3 + 1, none⟩ = some (.int .i64 l[i].q) ∧
  w.cell? ⟨b, off + i * 3 + 2, none⟩ = some (.slice p l[i].c.length c) ∧ RdC w p c l[i].c := by
 obtain ⟨vs, h1, h2⟩ := h
 have hi' : i < vs.length := by rw [h2.1]; exact hi
 obtain ⟨b, off, e, hc⟩ := h1.at hi'
 obtain ⟨q1, q2, q3, q4⟩ := h2.2 i _ _ (List.getElem?_eq_getElem hi') (List.getElem?_eq_getElem hi)
 refine ⟨b, off, vs[i].s.1, vs[i].s.2.2, e, ?_, ?_, ?_, q4⟩
 ·have := hc 0 _ rfl; rw [q1] at this; exact this
 ·have := hc 1 _ rfl; rw [q2] at this; exact this
 ·have := hc 2 _ rfl; simp only [sv, q3] at this; exact this
theorem RdR.take {w : World} {a : Option Addr} {cap : Nat} {l : List Rw} (h : RdR w a cap l) (n : Nat) : RdR w a cap (l.take n) := by
 obtain ⟨vs, h1, h2⟩ := h
 refine ⟨vs.take n, h1.take n, by simp [h2.1], fun i v r hv hr => ?_⟩
 rw [List.getElem?_take] at hv hr
 split at hv
 ·rename_i hin
  rw [if_pos hin] at hr
  exact h2.2 i v r hv hr
 ·cases hv
theorem RdR.from {w : World} {b off cap : Nat} {l : List Rw} (h : RdR w (some ⟨b, off, none⟩) cap l) (n : Nat) (hn : n ≤ l.length) : RdR w (some ⟨b, off + n * 3, none⟩) (cap - n) (l.drop n) := by
 obtain ⟨vs, h1, h2⟩ := h
 refine ⟨vs.drop n, h1.from n (by rw [h2.1]; exact hn), by simp [h2.1], fun i v r hv hr => ?_⟩
 rw [List.getElem?_drop] at hv hr
 exact h2.2 _ v r hv hr
/-- No inner list that has cells lies in that block. -/
def AwayR (g : Option Nat) (vs : List RV) : Prop := ∀ v ∈ vs, 0 < v.s.2.1 → ∀ q, (sv v.s).ownBlock = some q → g ≠ some q
/-- A call's own rows. -/
def OwnL (w : World) (base : Nat) (v : Value) (l : List Rw) : Prop := ∃ vs, OwnW 44 3 rc w base v vs ∧ EachR w vs l ∧ AwayR v.ownBlock vs
theorem OwnL.rd {w : World} {base : Nat} {v : Value} {l : List Rw} (h : OwnL w base v l) : ∃ a cap, v = .slice a l.length cap ∧ RdR w a cap l := by
 obtain ⟨vs, h1, h2, _⟩ := h
 obtain ⟨a, cap, rfl, h3⟩ := h1.rd rc_len
 exact ⟨a, cap, by rw [h2.1], vs, h3, h2⟩
theorem OwnL.nil (w : World) (base : Nat) : OwnL w base (.slice none 0 0) [] := ⟨[], ownW_none w base, EachR.nil w, fun v h => by simp at h⟩
theorem OwnL.later {w w' : World} {base : Nat} {v : Value} {l : List Rw} (h : OwnL w base v l) (hx : Ex w w') : OwnL w' base v l := by
 obtain ⟨vs, h1, h2, h3⟩ := h
 exact ⟨vs, h1.later hx, h2.below hx, h3⟩
theorem OwnL.lt {w : World} {base : Nat} {v : Value} {l : List Rw} (h : OwnL w base v l) : ∀ g, v.ownBlock = some g → base ≤ g ∧ g < w.heap.size := by
 obtain ⟨vs, h1, _, _⟩ := h
 exact h1.lt
theorem OwnL.mono {w : World} {base base' : Nat} {v : Value} {l : List Rw} (h : OwnL w base v l) (hb : base' ≤ base) : OwnL w base' v l := by
 obtain ⟨vs, h1, h2, h3⟩ := h
 exact ⟨vs, h1.mono hb, h2, h3⟩
theorem RvOk.block {w : World} {v : RV} {r : Rw} (h : RvOk w v r) (h0 : 0 < v.s.2.1) : ∃ q off, v.s.1 = some ⟨q, off, none⟩ ∧ q < w.heap.size := by
 obtain ⟨_, _, h3, h4⟩ := h
 obtain ⟨q, off, e, hc, _⟩ := h4.four (i := 0) (by omega)
 exact ⟨q, off, e, World.block_lt_of_cell? w _ hc⟩
theorem RvOk.far {w w' : World} {v : RV} {r : Rw} {row : Option Nat} (h : RvOk w v r) (hg : w.grownBy w' row) (ha : 0 < v.s.2.1 → ∀ q, (sv v.s).ownBlock = some q → row ≠ some q) : RvOk w' v r := by
 obtain ⟨h1, h2, h3, h4⟩ := h
 refine ⟨h1, h2, h3, h4.far hg fun h0 b off e => ha (by omega) b (by simp [sv, e, Value.ownBlock])⟩
/-- Rows of which the outer slice has grown. -/
theorem rows_after {w w' : World} {v v' : Value} {vs : List RV} {l : List Rw} (hall : EachR w vs l) (haw : AwayR v.ownBlock vs)
  (hg : w.grownBy w' v.ownBlock) (hat : v'.ownBlock = v.ownBlock ∨ v'.ownBlock = some w.heap.size) : EachR w' vs l ∧ AwayR v'.ownBlock vs := by
 refine ⟨⟨hall.1, fun i t y h1 h2 => (hall.2 i t y h1 h2).far hg (haw t (List.mem_of_getElem? h1))⟩, fun t ht h0 q hq => ?_⟩
 rcases hat with hat | hat
 ·rw [hat]; exact haw t ht h0 q hq
 ·rw [hat]
  obtain ⟨i, hi⟩ := List.getElem?_of_mem ht
  have hil : i < l.length := by rw [← hall.1]; exact (List.getElem?_eq_some_iff.1 hi).1
  obtain ⟨q', off, e, hlt⟩ := (hall.2 i t _ hi (List.getElem?_eq_getElem hil)).block h0
  have : q = q' := by simp [sv, e, Value.ownBlock] at hq; omega
  intro hh
  simp at hh
  omega
theorem EachR.append {w : World} {vs us : List RV} {l m : List Rw} (h : EachR w vs l) (h' : EachR w us m) : EachR w (vs ++ us) (l ++ m) := by
 refine ⟨by simp [h.1, h'.1], fun i v r hv hr => ?_⟩
 by_cases hi : i < vs.length
 ·rw [List.getElem?_append_left hi] at hv
  rw [List.getElem?_append_left (by rw [← h.1]; exact hi)] at hr
  exact h.2 i v r hv hr
 ·rw [List.getElem?_append_right (by omega)] at hv
  rw [List.getElem?_append_right (by rw [← h.1]; omega), ← h.1] at hr
  exact h'.2 _ v r hv hr
theorem EachR.one {w : World} {v : RV} {r : Rw} (h : RvOk w v r) : EachR w [v] [r] := by
 refine ⟨rfl, fun i u x h1 h2 => ?_⟩
 match i, h1, h2 with
 | 0, h1, h2 => simp at h1 h2; rw [← h1, ← h2]; exact h
theorem AwayR.append {g : Option Nat} {vs us : List RV} (h : AwayR g vs) (h' : AwayR g us) : AwayR g (vs ++ us) := fun v hv => by
 rcases List.mem_append.1 hv with h1 | h1
 ·exact h v h1
 ·exact h' v h1
theorem Tryz.info58 : (Tryz.prog.info? 58).map (fun i => (i.zero, i.size, i.bytes)) = some (some (.agg #[.string ⟨#[]⟩, .int .i64 0, .int .i64 0, .string ⟨#[]⟩]), 4, 48) := by kernel_rfl
theorem Tryz.info44 : (Tryz.prog.info? 44).map (fun i => (i.zero, i.size, i.bytes)) = some (some (.agg #[.int .i64 0, .int .i64 0, .slice none 0 0]), 3, 40) := by kernel_rfl
/-- 'append' of rows that can be read to the call's own, where none of the new ones' cells lie in the block that grows. -/
theorem wpList_append_rows {w : World} {ops : Array Oper} {rest : List Oper} {o : Oper} {a : Act} {Q : Exit → Act → World → Prop} (hgd : o.guard = none) (s x : Operand)
  (ho : o.op = .call { callee := .builtin .append, args := #[s, x], argTypes := #[24, 24] }) (base : Nat)
  (v : Value) (xs : List Rw) (hs : a.eval s = v) (hown : OwnL w base v xs) (p : Option Addr) (n c : Nat) (us : List RV) (l : List Rw) (hx : a.eval x = .slice p n c) (hn : n = l.length) (hB : RdW 3 rc w p c us) (hE : EachR w us l) (hA : AwayR v.ownBlock us)
  (h63 : xs.length + l.length ≤ 1000000) (hbase : base ≤ w.heap.size)
  (h : ∀ v' w', OwnL w' base v' (xs ++ l) → w.grownBy w' v.ownBlock → (v'.ownBlock = v.ownBlock ∨ v'.ownBlock = some w.heap.size) → wpList Tryz.prog ops Q rest (a.put o.dst v') w') : wpList Tryz.prog ops Q (o :: rest) a w := by
 obtain ⟨vs, h1, h2, h3⟩ := hown
 refine wpList_append_wide rc_len rc_one hgd s x 24 _ 40 ho Tryz.underlying24 Tryz.info44 (by omega) rfl base v vs hs h1 p n c us hx (by rw [hn, hE.1]) hB (by rw [h2.1, hE.1]; unfold maxLen; omega) (by rw [h2.1, hE.1]; omega) hbase ?_
 intro v' w' ho' hg' hat
 have hr := rows_after (h2.append hE) (h3.append hA) hg' hat
 exact h v' w' ⟨vs ++ us, ho', hr.1, hr.2⟩ hg' hat
end Go.Proofs.YtbdjccmlgdfapaaGreat
namespace Go.Proofs.YtbdjccmlgdfapaaGreat
open Go.RowKit
set_option linter.unusedVariables false
set_option linter.unusedSimpArgs false
set_option maxHeartbeats 1000000 in
theorem loadI_row {w9 : World} {b off : Nat} {t q : Int} {p : Option Addr} {n c : Nat} (c0 : w9.cell? ⟨b, off, none⟩ = some (.int .i64 t)) (c1 : w9.cell? ⟨b, off + 1, none⟩ = some (.int .i64 q)) (c2 : w9.cell? ⟨b, off + 2, none⟩ = some (.slice p n c)) :
  (Instr.loadAt 44 (.pointer (some ⟨b, off, none⟩))).run Tryz.prog w9 = .ok (rvv ⟨t, q, p, n, c⟩) w9 := by
 simp [go_sem, rvv, sv, c0, c1, c2]
end Go.Proofs.YtbdjccmlgdfapaaGreat
namespace Go.Proofs.YtbdjccmlgdfapaaGreat
open Go.RowKit
set_option linter.unusedVariables false
set_option linter.unusedSimpArgs false
set_option maxHeartbeats 4000000 in
set_option maxRecDepth 100000 in
theorem num_is (s : List UInt8) (n : Int) (w : World) : Calls Tryz.prog 30 #[.string (str s), .int .i64 n] w fun e w' => e = .returned (cv ⟨s, 1, n, []⟩) ∧ Ex w w' := by
 go_enter Tryz.func30, Tryz.ntmps30
 go_wp2_with fail
 refine bodyPost_ret (v := cv ⟨s, 1, n, []⟩) ?_ rfl ⟨rfl, by (repeat' (first | exact Below.refl _ _ | refine Below.alloc ?_ (by simp <;> omega) _))⟩
 simp [results, Tryz.results30, go_sem, cv, str]
set_option maxHeartbeats 4000000 in
set_option maxRecDepth 100000 in
theorem strc_is (s t : List UInt8) (w : World) : Calls Tryz.prog 31 #[.string (str s), .string (str t)] w fun e w' => e = .returned (cv ⟨s, 2, 0, t⟩) ∧ Ex w w' := by
 go_enter Tryz.func31, Tryz.ntmps31
 go_wp2_with fail
 refine bodyPost_ret (v := cv ⟨s, 2, 0, t⟩) ?_ rfl ⟨rfl, by (repeat' (first | exact Below.refl _ _ | refine Below.alloc ?_ (by simp <;> omega) _))⟩
 simp [results, Tryz.results31, go_sem, cv]
end Go.Proofs.YtbdjccmlgdfapaaGreat
namespace Go.Proofs.YtbdjccmlgdfapaaGreat
open Go.RowKit
set_option linter.unusedVariables false
set_option linter.unusedSimpArgs false
/-- A row in a block. -/
def LAt (w : World) (g : Nat) (v : RV) : Prop := w.heap[g]? = some (.cells (rc v).toArray 44 (0, 0))
theorem LAt.lt {w : World} {g : Nat} {v : RV} (h : LAt w g v) : g < w.heap.size := (Array.getElem?_eq_some_iff.1 h).1
theorem LAt.below {w w' : World} {g : Nat} {v : RV} (h : LAt w g v) (hb : Below w.heap.size w w') : LAt w' g v := by
 unfold LAt; rw [hb.block g h.lt]; exact h
theorem LAt.alloc {w : World} {g : Nat} {v : RV} (h : LAt w g v) (o : Obj) : LAt (w.alloc o) g v := h.below ((Below.refl _ _).alloc (Nat.le_refl _) _)
theorem LAt.new (w : World) (v : RV) : LAt (w.alloc (rb v)) w.heap.size v := heap_alloc_new w _
theorem LAt.newat (w : World) (g : Nat) (v : RV) (hg : g = w.heap.size) : LAt (w.alloc (rb v)) g v := by subst hg; exact LAt.new w v
theorem LAt.cell {w : World} {g : Nat} {v : RV} (h : LAt w g v) (k : Nat) : w.cell? ⟨g, k, none⟩ = (rc v)[k]? := by
 rw [cell_of_row w g k _ 44 (0, 0) h, List.getElem?_toArray]
theorem LAt.all {w : World} {g : Nat} {v : RV} (h : LAt w g v) : w.cell? ⟨g, 0, none⟩ = some (.int .i64 v.t) ∧ w.cell? ⟨g, 1, none⟩ = some (.int .i64 v.q) ∧ w.cell? ⟨g, 2, none⟩ = some (.slice v.s.1 v.s.2.1 v.s.2.2) := ⟨h.cell 0, h.cell 1, h.cell 2⟩
theorem LAt.frozen {w : World} {g : Nat} {v : RV} (h : LAt w g v) (k : Nat) : w.frozen? ⟨g, k, none⟩ = false := frozen_of_row _ _ _ _ _ h
theorem LAt.fro {w : World} {g : Nat} {v : RV} (h : LAt w g v) : w.frozen? ⟨g, 0, none⟩ = false ∧ w.frozen? ⟨g, 1, none⟩ = false ∧ w.frozen? ⟨g, 2, none⟩ = false := ⟨h.frozen 0, h.frozen 1, h.frozen 2⟩
theorem LAt.set {w : World} {g k : Nat} {v v' : RV} {u : Value} (h : LAt w g v) (hz : (rc v).set k u = rc v') : LAt (w.setCell ⟨g, k, none⟩ u) g v' := by
 unfold LAt
 rw [heap_setCell_same w g k _ 44 _ h, List.setIfInBounds_toArray, hz]
theorem LAt.other {w : World} {g q k : Nat} {v : RV} {u : Value} (h : LAt w g v) (hne : g ≠ q) : LAt (w.setCell ⟨q, k, none⟩ u) g v := by
 unfold LAt
 rw [heap_setCell_other w _ g u (by simpa using hne)]; exact h
/-- A row is stored into a block. -/
abbrev lset (w : World) (g : Nat) (v : RV) : World := ((w.setCell ⟨g, 0, none⟩ (.int .i64 v.t)).setCell ⟨g, 1, none⟩ (.int .i64 v.q)).setCell ⟨g, 2, none⟩ (.slice v.s.1 v.s.2.1 v.s.2.2)
theorem LAt.store {w : World} {g : Nat} {v0 : RV} (h : LAt w g v0) (v : RV) : LAt (lset w g v) g v :=
 ((h.set (k := 0) (v' := { v0 with t := v.t }) rfl).set (k := 1) (v' := { v0 with t := v.t, q := v.q }) rfl).set (k := 2) rfl
theorem Below.lset {B : Nat} {a w : World} (h : Below B a w) {g : Nat} (hg : B ≤ g) (v : RV) : Below B a (lset w g v) :=
 Below.setCell (Below.setCell (Below.setCell h (p := ⟨g, 0, none⟩) hg _) (p := ⟨g, 1, none⟩) hg _) (p := ⟨g, 2, none⟩) hg _
theorem LAt.far {w w' : World} {g : Nat} {v : RV} {row : Option Nat} (h : LAt w g v) (hg : w.grownBy w' row) (hne : row ≠ some g) : LAt w' g v := by
 unfold LAt; rw [hg.block g h.lt (Ne.symm hne)]; exact h
set_option maxHeartbeats 1000000 in
theorem load_row {w9 : World} {g : Nat} {v : RV} (h : LAt w9 g v) : (loadVar 44 ⟨g, 0, none⟩).run Tryz.prog w9 = .ok (rvv v) w9 := by
 obtain ⟨c0, c1, c2⟩ := h.all
 clear h
 simp [go_sem, rvv, sv, c0, c1, c2]
theorem res_row {fn : Func} {tmps : Array Value} {w9 : World} {g i : Nat} {v : RV} (hfn : fn.results = #[ResultVar.cell i 44]) (ht : tmps.getD i undef = .pointer (some ⟨g, 0, none⟩)) (h : LAt w9 g v) : (results fn tmps).run Tryz.prog w9 = .ok (rvv v) w9 := by
 have hl := load_row h
 have ht' : tmps[i]?.getD undef = .pointer (some ⟨g, 0, none⟩) := by simpa using ht
 simp [results, hfn, ht', asAddr, Sem.run_bind, Result.andThen, hl]
end Go.Proofs.YtbdjccmlgdfapaaGreat
