/-
  The landed fits, Size, bounded. The books' own At and Rows. Taken out of another text of mine: Lrow. The landed rightText, bare, rightSet, rightPart, rightParts, Right. The landed rightParts and Right. The document's own Same, and the books' Pred. The library's Index and Contains of texts; the landed holdsFor. The landed someKid, holds, Eval.
-/
import Derived.Test.YtnmonoafjijfhaaGreatP1
import Derived.Test.YtnmonoafjijfhaaGreatM41
import Derived.Test.YtnmonoafjijfhaaGreatM43
import Derived.Test.YtnmonoafjijfhaaGreatM34
import Derived.RegionTactic
import Derived.BigRegion
import Derived.Test.YtnmonoafjijfhaaGreatM21
import Derived.Test.YtnmonoafjijfhaaGreatM05
import Derived.Deep.QuietTactic
import Derived.BigQuiet
import Derived.Test.YtnmonoafjijfhaaGreatM37
namespace Go.Proofs.YtnmonoafjijfhaaGreat
open Go.RowKit
set_option linter.unusedVariables false
set_option linter.unusedSimpArgs false
namespace Pd
theorem sum_take (l : List Pr) (i : Nat) : ((l.take i).map size).sum ≤ (l.map size).sum := by
  induction l generalizing i with
  | nil => simp
  | cons x t ih =>
    cases i with
    | zero => simp
    | succ i =>
      have := ih i
      simp only [List.take_succ_cons, List.map_cons, List.sum_cons]
      omega
/-- It is no deeper, and of no more parts. -/
def fit (p : Pr) (d L : Nat) : Bool := decide (deep p ≤ d) && decide (size p ≤ L)
theorem fit_mk (h : Hd) (l : List Pr) (d L : Nat) : fit (Pr.mk' h l) d L = true ↔ (1 ≤ d ∧ 1 ≤ L) ∧ (∀ k ∈ l, deep k ≤ d - 1) ∧ (l.map size).sum ≤ L - 1 := by
  unfold fit
  rw [deep_mk, size_mk]
  simp only [Bool.and_eq_true, decide_eq_true_eq]
  constructor
  · rintro ⟨h1, h2⟩
    refine ⟨⟨by omega, by omega⟩, fun k hk => ?_, by omega⟩
    have := deep_in hk
    omega
  · rintro ⟨⟨h1, h2⟩, h3, h4⟩
    refine ⟨?_, by omega⟩
    have : (l.map deep).foldr max 0 ≤ d - 1 := by
      refine foldr_le fun x hx => ?_
      obtain ⟨y, hy, rfl⟩ := List.mem_map.1 hx
      exact h3 y hy
    omega
end Pd
/-- What fits leaves behind. -/
def FitsR (p : Pr) (d L g : Nat) (w w' : World) : Prop := ∃ L' : Nat, IAt w' g L' ∧ (Pd.fit p d L = true → L' = L - Pd.size p) ∧ w.grownBy w' (some g)
set_option maxHeartbeats 4000000 in
set_option maxRecDepth 100000 in
theorem pfits_is : ∀ (p : Pr) (v : PV) (d L g : Nat) (w : World), Pd.Lay (fun b => b ≠ g) p w v → IAt w g L → d ≤ 1000 → L ≤ 1000000 →
    Calls Tryz.prog 117 #[pvv v, .int .i64 d, .pointer (some ⟨g, 0, none⟩)] w fun e w' => e = .returned (.bool (Pd.fit p d L)) ∧ FitsR p d L g w w' := by
  refine Pd.tree ?_
  intro h l ih v d L g w hL hI hd hLL
  obtain ⟨hHd, hkn, hkB, hkc, hkm, hk0⟩ := hL.head
  obtain ⟨vk, vcol, vn, vm, vs, vset, ⟨p, n, cap⟩⟩ := v
  simp only at hkn hkB hkc hkm hk0
  subst hkn
  unfold maxLen at hkm
  obtain ⟨o, ho⟩ : ∃ o, Pd.fit (Pr.mk' h l) d L = o := ⟨_, rfl⟩
  have HO : Hid (Pd.fit (Pr.mk' h l) d L = o) := ho
  have HIH : Hid (∀ k ∈ l, ∀ (v : PV) (d L g : Nat) (w : World), Pd.Lay (fun b => b ≠ g) k w v → IAt w g L → d ≤ 1000 → L ≤ 1000000 →
    Calls Tryz.prog 117 #[pvv v, .int .i64 d, .pointer (some ⟨g, 0, none⟩)] w fun e w' => e = .returned (.bool (Pd.fit k d L)) ∧ FitsR k d L g w w') := ih
  rw [ho]
  have HF := (Pd.fit_mk h l d L)
  have HFM : Hid (o = true ↔ (1 ≤ d ∧ 1 ≤ L) ∧ (∀ k ∈ l, Pd.deep k ≤ d - 1) ∧ (l.map Pd.size).sum ≤ L - 1) := (by rw [← ho]; exact HF : o = true ↔ _)
  have HLw : Hid (Pd.Lay (fun b => b ≠ g) (Pr.mk' h l) w ⟨vk, vcol, vn, vm, vs, vset, p, l.length, cap⟩) := hL
  obtain ⟨W, hW⟩ : ∃ W, w.alloc (pb ⟨vk, vcol, vn, vm, vs, vset, p, l.length, cap⟩) = W := ⟨_, rfl⟩
  have hXW : Ex w W := by rw [← hW]; exact (Below.refl _ _).alloc (Nat.le_refl _) _
  have HIW : Hid (IAt W g L) := hI.below hXW
  have HXW : Hid (Ex w W) := hXW
  have HP : Hid (PAt W w.heap.size ⟨vk, vcol, vn, vm, vs, vset, p, l.length, cap⟩) := (by rw [← hW]; exact PAt.new w _ : PAt W w.heap.size _)
  have hgw : w.heap.size ≠ g := by have := hI.lt; omega
  have i0 := HIW.out.cell
  have i1 := HIW.out.frozen
  clear hL hI hHd hkB ho HF ih hXW
  unfold pvv
  simp only [sv]
  go_enter Tryz.func117, Tryz.ntmps117
  by_cases hd0 : d = 0
  · subst hd0
    have HFF : Hid (o = false) := (by cases o with | false => rfl | true => exact absurd (HFM.out.1 rfl).1.1 (by omega) : o = false)
    go_wp2_with fail
    go_ret
    exact ⟨by rw [HFF.out]; rfl, L, by simpa using HIW.out, by rw [HO.out, HFF.out]; simp, HXW.out.grownBy _⟩
  have t1 : ((d : Int) == 0) = false := beq_eq_false_iff_ne.2 (by omega)
  by_cases hL0 : L = 0
  · subst hL0
    have HFF : Hid (o = false) := (by cases o with | false => rfl | true => exact absurd (HFM.out.1 rfl).1.2 (by omega) : o = false)
    go_wp2_with fail
    go_ret
    exact ⟨by rw [HFF.out]; rfl, 0, by simpa using HIW.out, by rw [HO.out, HFF.out]; simp, HXW.out.grownBy _⟩
  have t2 : ((L : Int) == 0) = false := beq_eq_false_iff_ne.2 (by omega)
  obtain ⟨L1, hL1⟩ : ∃ L1, L1 + 1 = L := ⟨L - 1, by omega⟩
  obtain ⟨d1, hd1⟩ : ∃ d1, d1 + 1 = d := ⟨d - 1, by omega⟩
  have HL1 : Hid (L1 + 1 = L) := hL1
  have HD1 : Hid (d1 + 1 = d) := hd1
  have t3 : (L : Int) - 1 = (L1 : Int) := by omega
  have t4 : (d : Int) - 1 = (d1 : Int) := by omega
  clear hL1 hd1
  obtain ⟨W2, hW2⟩ : ∃ W2, W.setCell ⟨g, 0, none⟩ (.int .i64 (L1 : Int)) = W2 := ⟨_, rfl⟩
  have HI2 : Hid (IAt W2 g L1) := (by rw [← hW2]; exact HIW.out.set _ : IAt W2 g L1)
  have HG2 : Hid (w.grownBy W2 (some g)) := (by rw [← hW2]; exact grown_tr (HXW.out.grownBy _) (grown_set1 _ _ _ _) : w.grownBy W2 (some g))
  have HP2 : Hid (PAt W2 w.heap.size ⟨vk, vcol, vn, vm, vs, vset, p, l.length, cap⟩) := (by rw [← hW2]; exact HP.out.other hgw : PAt W2 w.heap.size _)
  obtain ⟨p0, p1, p2, p3, p4, p5, p6⟩ := HP2.out.all
  simp only at p0 p1 p2 p3 p4 p5 p6
  go_wp2_with fail
  go_loopw [25, 8] (fun iv kv wr => ∃ i : Nat, i ≤ l.length ∧ iv = .int .i64 i ∧ Hid (∀ k ∈ l.take i, Pd.deep k ≤ d1) ∧ Hid (∃ M : Nat, M + ((l.take i).map Pd.size).sum = L1 ∧ IAt wr g M) ∧ Hid (w.grownBy wr (some g))) (fun iv kv wr => l.length - (intOf iv).toNat)
  case atStart => exact ⟨0, by omega, rfl, (by simp : ∀ k ∈ l.take 0, Pd.deep k ≤ d1), (⟨L1, by simp, HI2.out⟩ : ∃ M : Nat, M + ((l.take 0).map Pd.size).sum = L1 ∧ IAt _ g M), HG2⟩
  case round =>
    obtain ⟨i, hi, rfl, HA, HM, HGr⟩ := hrel
    by_cases hlt : i < l.length
    · have hti : (i : Int) < (l.length : Int) := by omega
      have hLr := Pd.Lay.far (row := some g) (fun b hb e => hb (by simpa using e.symm)) _ HLw.out HGr.out
      obtain ⟨b, off, u, hpp, hbg, hLk, e0, e1, e2, e3, e4, e5, e6⟩ := hLr.kid hlt
      simp only at hpp
      obtain ⟨k, hk⟩ : ∃ k, l[i] = k := ⟨_, rfl⟩
      rw [hk] at hLk
      have HK : Hid (k ∈ l) := (by rw [← hk]; exact List.getElem_mem hlt : k ∈ l)
      have HNX : Hid (l.take (i + 1) = l.take i ++ [k]) := (by rw [List.take_add_one, List.getElem?_eq_getElem hlt, hk]; rfl : l.take (i + 1) = l.take i ++ [k])
      obtain ⟨M, hM, hIM⟩ := HM.out
      have HMs : Hid (M + ((l.take i).map Pd.size).sum = L1) := hM
      have hMl : M ≤ 1000000 := by have := HL1.out; omega
      have hdl : d1 ≤ 1000 := by have := HD1.out; omega
      obtain ⟨w1, hw1⟩ : ∃ w1, wr.alloc (pb u) = w1 := ⟨_, rfl⟩
      have hX1 : Ex wr w1 := by rw [← hw1]; exact (Below.refl _ _).alloc (Nat.le_refl _) _
      have HG1 : Hid (w.grownBy w1 (some g)) := (grown_tr HGr.out (hX1.grownBy _) : w.grownBy w1 (some g))
      have HC : Hid (Calls Tryz.prog 117 #[pvv u, .int .i64 d1, .pointer (some ⟨g, 0, none⟩)] w1 fun e w' => e = .returned (.bool (Pd.fit k d1 M)) ∧ FitsR k d1 M g w1 w') := HIH.out k HK.out u d1 M g w1 (Pd.Lay.below _ hLk hX1) (hIM.below hX1) hdl hMl
      have HP1 : Hid (PAt w1 wr.heap.size u) := (by rw [← hw1]; exact PAt.new wr u : PAt w1 wr.heap.size u)
      obtain ⟨q0, q1, q2, q3, q4, q5, q6⟩ := HP1.out.all
      subst hpp
      clear hLr hLk hk hIM hM hX1 hbg
      have HFK : Hid (∃ x, Pd.fit k d1 M = x) := (⟨_, rfl⟩ : ∃ x, Pd.fit k d1 M = x)
      go_wp2_with fail
      go_at_call 117
      refine Calls.mono HC.out ?_
      rintro e w2 ⟨rfl, M2, hI2, hM2, hG2⟩
      have HG3 : Hid (w.grownBy w2 (some g)) := (grown_tr HG1.out hG2 : w.grownBy w2 (some g))
      obtain ⟨x, hx⟩ := HFK.out
      rw [hx]
      rw [hx] at hM2
      cases x with
      | true =>
        have hM3 := hM2 rfl
        have hfk : Pd.deep k ≤ d1 ∧ Pd.size k ≤ M := by unfold Pd.fit at hx; simpa using hx
        have HA2 : Hid (∀ c ∈ l.take (i + 1), Pd.deep c ≤ d1) := (by
          intro c hc
          rw [HNX.out] at hc
          rcases List.mem_append.1 hc with hc | hc
          · exact HA.out c hc
          · rw [List.mem_singleton] at hc; subst hc; exact hfk.1 : ∀ c ∈ l.take (i + 1), Pd.deep c ≤ d1)
        have HMM : Hid (∃ Q : Nat, Q + ((l.take (i + 1)).map Pd.size).sum = L1 ∧ IAt w2 g Q) := (⟨M2, by
          have h1 := HMs.out
          rw [HNX.out, List.map_append, List.sum_append]
          simp only [List.map_cons, List.map_nil, List.sum_cons, List.sum_nil]
          omega, hI2⟩ : ∃ Q : Nat, Q + ((l.take (i + 1)).map Pd.size).sum = L1 ∧ IAt w2 g Q)
        clear hI2 hM2 hG2 hx hM3 hfk HC
        go_wp2_with fail
        go_roundw
        case rel => exact ⟨i + 1, by omega, by go_num, HA2, HMM, HG3⟩
        case measure => simp [intOf]; omega
      | false =>
        have HFF : Hid (o = false) := (by
          cases o with
          | false => rfl
          | true =>
            exfalso
            obtain ⟨h1, h2, h3⟩ := HFM.out.1 rfl
            have h4 := h2 k HK.out
            have h5 := Pd.sum_take l (i + 1)
            have h6 := HMs.out
            have h7 := HL1.out
            have h8 := HD1.out
            rw [HNX.out, List.map_append, List.sum_append] at h5
            simp only [List.map_cons, List.map_nil, List.sum_cons, List.sum_nil] at h5
            unfold Pd.fit at hx
            simp at hx
            omega : o = false)
        have HI9 : Hid (IAt w2 g M2) := hI2
        clear hI2 hM2 hG2 hx HC
        go_wp2_with fail
        go_ret
        exact ⟨by rw [HFF.out]; rfl, M2, HI9.out, by rw [HO.out, HFF.out]; simp, HG3.out⟩
    · have hti : ¬ (i : Int) < (l.length : Int) := by omega
      obtain ⟨M, hM, hIM⟩ := HM.out
      have hil : l.take i = l := List.take_of_length_le (by omega)
      have HFT : Hid (o = true ∧ M = L - Pd.size (Pr.mk' h l)) := (by
        have h1 := HA.out
        have h7 := HL1.out
        have h8 := HD1.out
        rw [hil] at h1 hM
        refine ⟨HFM.out.2 ⟨⟨by omega, by omega⟩, fun k hk => ?_, by omega⟩, ?_⟩
        · have := h1 k hk; omega
        · rw [Pd.size_mk]; omega : o = true ∧ M = L - Pd.size (Pr.mk' h l))
      have HI9 : Hid (IAt wr g M) := hIM
      clear hM hIM hil
      go_wp2_with fail
      go_ret
      exact ⟨by rw [HFT.out.1]; rfl, M, HI9.out, fun _ => HFT.out.2, HGr.out⟩
set_option maxHeartbeats 1000000 in
set_option maxRecDepth 100000 in
/-- Size. -/
def Pd.sizeB (p : Pr) : Nat := if Pd.fit p 50 5000 = true then Pd.size p else 0
theorem size_is (p : Pr) (v : PV) (w : World) (h : Pd.Lay (fun _ => True) p w v) : Calls Tryz.prog 95 #[pvv v] w fun e w' => e = .returned (.int .i64 (Pd.sizeB p : Int)) ∧ Ex w w' := by
  obtain ⟨vk, vcol, vn, vm, vs, vset, vkids⟩ := v
  obtain ⟨W, hW⟩ : ∃ W, (w.alloc (pb ⟨vk, vcol, vn, vm, vs, vset, vkids⟩)).alloc (.cells #[.int .i64 5000] 3) = W := ⟨_, rfl⟩
  have hX1 : Ex w (w.alloc (pb ⟨vk, vcol, vn, vm, vs, vset, vkids⟩)) := (Below.refl _ _).alloc (Nat.le_refl _) _
  have hXW : Ex w W := by rw [← hW]; exact Below.alloc hX1 (by simp) _
  have hsz : (w.alloc (pb ⟨vk, vcol, vn, vm, vs, vset, vkids⟩)).heap.size = w.heap.size + 1 := by simp
  have HIW : Hid (IAt W (w.heap.size + 1) 5000) := (by rw [← hW, ← hsz]; exact IAt.new _ _ : IAt W (w.heap.size + 1) 5000)
  have HXW : Hid (Ex w W) := hXW
  have HP : Hid (PAt W w.heap.size ⟨vk, vcol, vn, vm, vs, vset, vkids⟩) := (by rw [← hW]; exact (PAt.new w _).alloc _ : PAt W w.heap.size _)
  have HC : Hid (Calls Tryz.prog 117 #[pvv ⟨vk, vcol, vn, vm, vs, vset, vkids⟩, .int .i64 (50 : Nat), .pointer (some ⟨w.heap.size + 1, 0, none⟩)] W fun e w' => e = .returned (.bool (Pd.fit p 50 5000)) ∧ FitsR p 50 5000 (w.heap.size + 1) W w') :=
    pfits_is p _ 50 5000 (w.heap.size + 1) W (Pd.Lay.mono (fun b hb => by have := hb.2; omega) _ (Pd.Lay.below _ h.lt hXW)) HIW.out (by omega) (by omega)
  obtain ⟨p0, p1, p2, p3, p4, p5, p6⟩ := HP.out.all
  have i0 := HIW.out.cell
  have i1 := HIW.out.frozen
  obtain ⟨x, hx⟩ : ∃ x, Pd.fit p 50 5000 = x := ⟨_, rfl⟩
  have HFX : Hid (Pd.fit p 50 5000 = x) := hx
  clear h hX1 hXW hsz hx
  unfold pvv
  simp only [sv]
  go_enter Tryz.func95, Tryz.ntmps95
  go_wp2_with fail
  go_at_call 117
  refine Calls.mono HC.out ?_
  rintro e w2 ⟨rfl, M, hIM, hM, hG⟩
  rw [HFX.out] at hM ⊢
  have HX2 : Hid (Ex w w2) := (Below.grown HXW.out hG HXW.out.size (fun k hk => by simp at hk; omega) : Ex w w2)
  cases x with
  | false =>
    have HS : Hid (Pd.sizeB p = 0) := (by unfold Pd.sizeB; rw [HFX.out]; rfl : Pd.sizeB p = 0)
    clear hIM hM hG HC
    go_wp2_with fail
    go_ret
    exact ⟨by rw [HS.out]; rfl, HX2.out⟩
  | true =>
    have hs : Pd.size p ≤ 5000 := by have := HFX.out; unfold Pd.fit at this; simp at this; exact this.2
    have HS : Hid (Pd.sizeB p = Pd.size p) := (by unfold Pd.sizeB; rw [HFX.out]; rfl : Pd.sizeB p = Pd.size p)
    have hMm := hM rfl
    obtain ⟨S, hS⟩ : ∃ S, Pd.size p = S := ⟨_, rfl⟩
    have HS2 : Hid (Pd.size p = S) := hS
    have t9 : (5000 : Int) - (M : Int) = (S : Int) := by omega
    have hM5 : (M : Int) ≤ 5000 := by omega
    have i9 := hIM.cell
    clear hIM hM hG HC hs hMm hS i0 i1
    go_wp2_with fail
    go_ret
    exact ⟨by rw [HS.out, HS2.out]; rfl, HX2.out⟩
theorem size_of {p : Pr} : decide (0 < Pd.sizeB p) = Pd.fit p 50 5000 := by
  unfold Pd.sizeB
  have := Pd.size_pos p
  cases Pd.fit p 50 5000 with
  | true => simp; omega
  | false => simp
set_option maxHeartbeats 1000000 in
set_option maxRecDepth 100000 in
theorem bounded_is (p : Pr) (v : PV) (w : World) (h : Pd.Lay (fun _ => True) p w v) (o : Bool) (ho : Pd.fit p 50 5000 = o) : Calls Tryz.prog 62 #[pvv v] w fun e w' => e = .returned (.bool o) ∧ Ex w w' := by
  obtain ⟨vk, vcol, vn, vm, vs, vset, vkids⟩ := v
  obtain ⟨W, hW⟩ : ∃ W, w.alloc (pb ⟨vk, vcol, vn, vm, vs, vset, vkids⟩) = W := ⟨_, rfl⟩
  have hXW : Ex w W := by rw [← hW]; exact (Below.refl _ _).alloc (Nat.le_refl _) _
  have HXW : Hid (Ex w W) := hXW
  have HP : Hid (PAt W w.heap.size ⟨vk, vcol, vn, vm, vs, vset, vkids⟩) := (by rw [← hW]; exact PAt.new w _ : PAt W w.heap.size _)
  have HC : Hid (Calls Tryz.prog 95 #[pvv ⟨vk, vcol, vn, vm, vs, vset, vkids⟩] W fun e w' => e = .returned (.int .i64 (Pd.sizeB p : Int)) ∧ Ex W w') := size_is p _ W (Pd.Lay.below _ h hXW)
  obtain ⟨p0, p1, p2, p3, p4, p5, p6⟩ := HP.out.all
  obtain ⟨S, hS⟩ : ∃ S, Pd.sizeB p = S := ⟨_, rfl⟩
  have hd : decide (0 < S) = o := by rw [← hS, size_of, ho]
  have hd2 : decide ((0 : Int) < (S : Int)) = o := by rw [← hd]; congr 1; exact propext (by omega)
  rw [hS] at HC
  clear h hXW ho hS
  unfold pvv
  simp only [sv]
  go_enter Tryz.func62, Tryz.ntmps62
  go_wp2_with fail
  go_at_call 95
  refine Calls.mono HC.out ?_
  rintro e w2 ⟨rfl, hx⟩
  have HX2 : Hid (Ex w w2) := (HXW.out.trans hx : Ex w w2)
  clear hx HC
  go_wp2_with fail
  go_ret
  exact ⟨rfl, HX2.out⟩
end Go.Proofs.YtnmonoafjijfhaaGreat
namespace Go.Proofs.YtnmonoafjijfhaaGreat
open Go.RowKit
set_option linter.unusedVariables false
set_option linter.unusedSimpArgs false
/-- A row in a block. -/
def LAt (w : World) (g : Nat) (v : RV) : Prop := w.heap[g]? = some (.cells (rc v).toArray 59 (0, 0))
theorem LAt.lt {w : World} {g : Nat} {v : RV} (h : LAt w g v) : g < w.heap.size := (Array.getElem?_eq_some_iff.1 h).1
theorem LAt.below {w w' : World} {g : Nat} {v : RV} (h : LAt w g v) (hb : Below w.heap.size w w') : LAt w' g v := by
  unfold LAt; rw [hb.block g h.lt]; exact h
theorem LAt.alloc {w : World} {g : Nat} {v : RV} (h : LAt w g v) (o : Obj) : LAt (w.alloc o) g v := h.below ((Below.refl _ _).alloc (Nat.le_refl _) _)
theorem LAt.new (w : World) (v : RV) : LAt (w.alloc (rb v)) w.heap.size v := heap_alloc_new w _
theorem LAt.newat (w : World) (g : Nat) (v : RV) (hg : g = w.heap.size) : LAt (w.alloc (rb v)) g v := by subst hg; exact LAt.new w v
theorem LAt.cell {w : World} {g : Nat} {v : RV} (h : LAt w g v) (k : Nat) : w.cell? ⟨g, k, none⟩ = (rc v)[k]? := by
  rw [cell_of_row w g k _ 59 (0, 0) h, List.getElem?_toArray]
theorem LAt.all {w : World} {g : Nat} {v : RV} (h : LAt w g v) : w.cell? ⟨g, 0, none⟩ = some (.int .i64 v.t) ∧ w.cell? ⟨g, 1, none⟩ = some (.int .i64 v.q) ∧ w.cell? ⟨g, 2, none⟩ = some (.slice v.s.1 v.s.2.1 v.s.2.2) := ⟨h.cell 0, h.cell 1, h.cell 2⟩
theorem LAt.frozen {w : World} {g : Nat} {v : RV} (h : LAt w g v) (k : Nat) : w.frozen? ⟨g, k, none⟩ = false := frozen_of_row _ _ _ _ _ h
theorem LAt.fro {w : World} {g : Nat} {v : RV} (h : LAt w g v) : w.frozen? ⟨g, 0, none⟩ = false ∧ w.frozen? ⟨g, 1, none⟩ = false ∧ w.frozen? ⟨g, 2, none⟩ = false := ⟨h.frozen 0, h.frozen 1, h.frozen 2⟩
theorem LAt.set {w : World} {g k : Nat} {v v' : RV} {u : Value} (h : LAt w g v) (hz : (rc v).set k u = rc v') : LAt (w.setCell ⟨g, k, none⟩ u) g v' := by
  unfold LAt
  rw [heap_setCell_same w g k _ 59 _ h, List.setIfInBounds_toArray, hz]
theorem LAt.other {w : World} {g q k : Nat} {v : RV} {u : Value} (h : LAt w g v) (hne : g ≠ q) : LAt (w.setCell ⟨q, k, none⟩ u) g v := by
  unfold LAt
  rw [heap_setCell_other w _ g u (by simpa using hne)]; exact h
/-- A row is stored into a block. -/
abbrev lset (w : World) (g : Nat) (v : RV) : World := ((w.setCell ⟨g, 0, none⟩ (.int .i64 v.t)).setCell ⟨g, 1, none⟩ (.int .i64 v.q)).setCell ⟨g, 2, none⟩ (.slice v.s.1 v.s.2.1 v.s.2.2)
theorem LAt.store {w : World} {g : Nat} {v0 : RV} (h : LAt w g v0) (v : RV) : LAt (lset w g v) g v :=
  ((h.set (k := 0) (v' := { v0 with t := v.t }) rfl).set (k := 1) (v' := { v0 with t := v.t, q := v.q }) rfl).set (k := 2) rfl
theorem Below.lset {B : Nat} {a w : World} (h : Below B a w) {g : Nat} (hg : B ≤ g) (v : RV) : Below B a (lset w g v) :=
  Below.setCell (Below.setCell (Below.setCell h (p := ⟨g, 0, none⟩) hg _) (p := ⟨g, 1, none⟩) hg _) (p := ⟨g, 2, none⟩) hg _
theorem LAt.far {w w' : World} {g : Nat} {v : RV} {row : Option Nat} (h : LAt w g v) (hg : w.grownBy w' row) (hne : row ≠ some g) : LAt w' g v := by
  unfold LAt; rw [hg.block g h.lt (Ne.symm hne)]; exact h
end Go.Proofs.YtnmonoafjijfhaaGreat
namespace Go.Proofs.YtnmonoafjijfhaaGreat
open Go.RowKit
set_option linter.unusedVariables false
set_option linter.unusedSimpArgs false
set_option maxHeartbeats 4000000 in
set_option maxRecDepth 100000 in
theorem scell_is (v : RV) (r : Rw) (s : List UInt8) (w : World) (h : RvOk w v r) (c : Ce) (hc : Rw.cell r.c s = c) : Calls Tryz.prog 98 #[rvv v, .string (str s)] w fun e w' => e = .returned (cv c) ∧ Ex w w' := by
  obtain ⟨vt, vq, p, n, cap⟩ := v
  obtain ⟨rfl, rfl, hn, hB⟩ := h
  simp only at hn hB
  subst hn
  have h1 := hB.1
  have h2 := hB.2.1
  unfold maxLen at h2
  obtain ⟨W, hW⟩ : ∃ W, W = (w.alloc (rb ⟨r.t, r.q, p, r.c.length, cap⟩)).alloc ecb0 := ⟨_, rfl⟩
  have HX : Hid (Ex w W) := (by rw [hW]; exact ((Below.refl _ _).alloc (Nat.le_refl _) _).alloc (by simp) _ : Ex w W)
  have HB : Hid (RdC W p cap r.c) := hB.below HX.out
  have HL : Hid (LAt W w.heap.size ⟨r.t, r.q, p, r.c.length, cap⟩) := (by rw [hW]; exact (LAt.new w _).alloc _ : LAt W w.heap.size ⟨r.t, r.q, p, r.c.length, cap⟩)
  have HZ : Hid (EAt W (w.heap.size + 1) Rw.none_) := (by rw [hW]; exact EAt.newat (w.alloc (rb ⟨r.t, r.q, p, r.c.length, cap⟩)) (w.heap.size + 1) Rw.none_ (by simp) : EAt W (w.heap.size + 1) Rw.none_)
  have HW : Hid (W = (w.alloc (rb ⟨r.t, r.q, p, r.c.length, cap⟩)).alloc ecb0) := hW
  have HC : Hid (Rw.cell r.c s = c) := hc
  have zs := str_toList s
  clear hB hW hc
  unfold rvv
  simp only [sv]
  go_enter Tryz.func98, Tryz.ntmps98
  go_wp2_with fail
  rw [← HW.out]
  obtain ⟨n0, n1, n2⟩ := HL.out.all
  obtain ⟨z0, z1, z2, z3⟩ := HZ.out.all
  obtain ⟨f0, f1, f2, f3⟩ := HZ.out.fro
  go_loopw [10] (fun iv wr => ∃ i : Nat, i ≤ r.c.length ∧ iv = .int .i64 i ∧ Hid (∀ d ∈ r.c.take i, d.col ≠ s) ∧ Hid (Ex W wr)) (fun iv wr => r.c.length - (intOf iv).toNat)
  case atStart => exact ⟨0, by omega, rfl, (by simp : ∀ d ∈ r.c.take 0, d.col ≠ s), Ex.refl W⟩
  case round =>
    obtain ⟨i, hi, rfl, HN, HXr⟩ := hrel
    have HB2 : Hid (RdC wr p cap r.c) := HB.out.below HXr.out
    have HZ2 : Hid (EAt wr (w.heap.size + 1) Rw.none_) := HZ.out.below HXr.out
    clear n0 n1 n2 z0 z1 z2 z3 f0 f1 f2 f3
    by_cases hlt : i < r.c.length
    · have hti : (i : Int) < (r.c.length : Int) := by omega
      obtain ⟨b, off, rfl, e0, e1, e2, e3⟩ := RdC.four HB2.out hlt
      obtain ⟨d, hd⟩ : ∃ d, r.c[i] = d := ⟨_, rfl⟩
      rw [hd] at e0 e1 e2 e3
      have hsp : r.c = r.c.take i ++ d :: r.c.drop (i + 1) := by rw [← hd, ← List.drop_eq_getElem_cons hlt, List.take_append_drop]
      have HSP : Hid (r.c = r.c.take i ++ d :: r.c.drop (i + 1)) := hsp
      have hnx : r.c.take (i + 1) = r.c.take i ++ [d] := by rw [List.take_add_one, List.getElem?_eq_getElem hlt, hd]; rfl
      have HNX : Hid (r.c.take (i + 1) = r.c.take i ++ [d]) := hnx
      have zd := str_toList d.col
      obtain ⟨w1, hw1⟩ : ∃ w1, wr.alloc (cb d) = w1 := ⟨_, rfl⟩
      have HX1 : Hid (Ex W w1) := (by rw [← hw1]; exact HXr.out.trans ((Below.refl _ _).alloc (Nat.le_refl _) _) : Ex W w1)
      have HE1 : Hid (EAt w1 wr.heap.size d) := (by rw [← hw1]; exact EAt.new wr d : EAt w1 wr.heap.size d)
      have HZ1 : Hid (EAt w1 (w.heap.size + 1) Rw.none_) := HZ.out.below HX1.out
      obtain ⟨g0, g1, g2, g3⟩ := HE1.out.all
      obtain ⟨z0, z1, z2, z3⟩ := HZ1.out.all
      obtain ⟨f0, f1, f2, f3⟩ := HZ1.out.fro
      clear hd hsp hnx
      by_cases hds : d.col = s
      · have td : (d.col == s) = true := by simp [hds]
        have HF : Hid (c = d) := (by rw [← HC.out, HSP.out]; exact Rw.cell_skip HN.out hds : c = d)
        clear hds
        go_wp2_with fail
        have hL9 := EAt.store HZ1.out d
        have hX9 := Below.eset (HX.out.trans HX1.out) (Nat.le_succ _) d
        refine bodyPost_ret (v := cv d) (res_cell Tryz.results98 rfl hL9) rfl ⟨by rw [HF.out], hX9⟩
      · have td : (d.col == s) = false := by simp [hds]
        have HN2 : Hid (∀ e ∈ r.c.take (i + 1), e.col ≠ s) := (by
          intro e he
          rw [HNX.out] at he
          rcases List.mem_append.1 he with h | h
          · exact HN.out e h
          · rw [List.mem_singleton] at h; subst h; exact hds : ∀ e ∈ r.c.take (i + 1), e.col ≠ s)
        go_wp2_with fail
        go_roundw
        case rel => exact ⟨i + 1, by omega, by go_num, HN2, HX1⟩
        case measure => simp [intOf]; omega
    · have hti : ¬ (i : Int) < (r.c.length : Int) := by omega
      have HF : Hid (c = Rw.none_) := (by rw [← HC.out]; have h := HN.out; rw [List.take_of_length_le (by omega)] at h; exact Rw.cell_out h : c = Rw.none_)
      obtain ⟨z0, z1, z2, z3⟩ := HZ2.out.all
      obtain ⟨f0, f1, f2, f3⟩ := HZ2.out.fro
      go_wp2_with fail
      have hL9 := EAt.store HZ2.out Rw.none_
      have hX9 := Below.eset (HX.out.trans HXr.out) (Nat.le_succ _) Rw.none_
      refine bodyPost_ret (v := cv Rw.none_) (res_cell Tryz.results98 rfl hL9) rfl ⟨by rw [HF.out], hX9⟩
end Go.Proofs.YtnmonoafjijfhaaGreat
namespace Go.Proofs.YtnmonoafjijfhaaGreat
open Go.RowKit
set_option linter.unusedVariables false
set_option linter.unusedSimpArgs false
end Go.Proofs.YtnmonoafjijfhaaGreat
namespace Go.Proofs.YtnmonoafjijfhaaGreat
open Go.RowKit
set_option linter.unusedVariables false
set_option linter.unusedSimpArgs false
end Go.Proofs.YtnmonoafjijfhaaGreat
namespace Go.Proofs.YtnmonoafjijfhaaGreat
open Go.RowKit
set_option linter.unusedVariables false
set_option linter.unusedSimpArgs false
end Go.Proofs.YtnmonoafjijfhaaGreat
namespace Go.Proofs.YtnmonoafjijfhaaGreat
open Go.RowKit
set_option linter.unusedVariables false
set_option linter.unusedSimpArgs false
namespace Rw
end Rw
end Go.Proofs.YtnmonoafjijfhaaGreat
namespace Go.Proofs.YtnmonoafjijfhaaGreat
open Go.RowKit
set_option linter.unusedVariables false
set_option linter.unusedSimpArgs false
end Go.Proofs.YtnmonoafjijfhaaGreat
namespace Go.Proofs.YtnmonoafjijfhaaGreat
open Go.RowKit
set_option linter.unusedVariables false
set_option linter.unusedSimpArgs false
namespace T
end T
/-- What the callees bear. -/
structure HdFit (h : Hd) : Prop where
  k : In64 h.k
  n : In64 h.n
  m : In64 h.m
  col : h.col.length ≤ 1000
  s : h.s.length ≤ 1000
  set : h.set.length ≤ 1000
  each : ∀ t ∈ h.set, t.length ≤ 1000
theorem HdFit.sM {h : Hd} (H : HdFit h) : h.s.length ≤ maxLen := by have := H.s; unfold maxLen; omega
end Go.Proofs.YtnmonoafjijfhaaGreat
namespace Go.Proofs.YtnmonoafjijfhaaGreat
open Go.RowKit
set_option linter.unusedVariables false
set_option linter.unusedSimpArgs false
namespace Pd
/-- Each part is one that the callees bear. -/
def Fine : Pr → Prop := rec' fun h l a => HdFit h ∧ l.length ≤ 1000 ∧ ∀ x ∈ a, x
theorem fine_mk (h : Hd) (l : List Pr) : Fine (Pr.mk' h l) ↔ HdFit h ∧ l.length ≤ 1000 ∧ ∀ x ∈ l, Fine x := by
  rw [Fine, rec_mk]
  constructor
  · rintro ⟨h1, h0, h2⟩
    exact ⟨h1, h0, fun x hx => h2 _ (List.mem_map.2 ⟨x, hx, rfl⟩)⟩
  · rintro ⟨h1, h0, h2⟩
    refine ⟨h1, h0, fun x hx => ?_⟩
    obtain ⟨y, hy, rfl⟩ := List.mem_map.1 hx
    exact h2 y hy
end Pd
end Go.Proofs.YtnmonoafjijfhaaGreat
namespace Go.Proofs.YtnmonoafjijfhaaGreat
open Go.RowKit
set_option linter.unusedVariables false
set_option linter.unusedSimpArgs false
theorem Hd.ext' {a b : Hd} (h1 : a.k = b.k) (h2 : a.col = b.col) (h3 : a.n = b.n) (h4 : a.m = b.m) (h5 : a.s = b.s) (h6 : a.set = b.set) : a = b := by
  cases a; cases b; simp_all
theorem ex_rowP {f : FuncId} {args : Array Value} {wx w1 : World} {v : Value} (h : Calls Tryz.prog f args wx fun e w' => e = .returned v ∧ Ex wx w') (hC : Ex w1 wx) :
    Calls Tryz.prog f args wx (fun e w' => ∃ u, e = .returned u ∧ Rg.Spec.ok (.inl v) u w' ∧ Ex wx w' ∧ Ex w1 w') :=
  h.mono fun e w' ⟨h1, h2⟩ => ⟨v, h1, rfl, h2, hC.trans h2⟩
end Go.Proofs.YtnmonoafjijfhaaGreat
namespace Go.Proofs.YtnmonoafjijfhaaGreat
open Go.RowKit
set_option linter.unusedVariables false
set_option linter.unusedSimpArgs false
set_option maxHeartbeats 4000000 in
set_option maxRecDepth 100000 in
theorem index_is (a : Option Addr) (n cap : Nat) (l : List (List UInt8)) (s : List UInt8) (w : World) (hn : n = l.length) (hB : Rd st w a cap l) :
    Calls Tryz.prog 129 #[.slice a n cap, .string (str s)] w fun e w' => (∃ r : Int, e = .returned (.int .i64 r) ∧ (0 ≤ r ↔ s ∈ l)) ∧ w' = w := by
  subst hn
  have h1 := hB.1
  have h2 := hB.2.1
  unfold maxLen at h2
  have HB : Hid (Rd st w a cap l) := hB
  have zs := str_toList s
  clear hB
  go_enter Tryz.func129, Tryz.ntmps129
  go_wp2_with fail
  go_loopw [8, 5] (fun iv jv wr => ∃ i : Nat, i ≤ l.length ∧ iv = .int .i64 i ∧ Hid (s ∉ l.take i) ∧ Hid (wr = w)) (fun iv jv wr => l.length - (intOf iv).toNat)
  case atStart => exact ⟨0, by omega, rfl, (by simp : s ∉ l.take 0), (rfl : w = w)⟩
  case round =>
    obtain ⟨i, hi, rfl, HA, HW⟩ := hrel
    obtain rfl := HW.out
    clear HW
    by_cases hlt : i < l.length
    · have hti : (i : Int) < (l.length : Int) := by omega
      obtain ⟨b, off, hpp, e0⟩ := HB.out.at hlt
      obtain ⟨x, hx⟩ : ∃ x, l[i] = x := ⟨_, rfl⟩
      rw [hx] at e0
      have HNX : Hid (l.take (i + 1) = l.take i ++ [x]) := (by rw [List.take_add_one, List.getElem?_eq_getElem hlt, hx]; rfl : l.take (i + 1) = l.take i ++ [x])
      have HXM : Hid (x ∈ l) := (by rw [← hx]; exact List.getElem_mem hlt : x ∈ l)
      have zx := str_toList x
      subst hpp
      clear hx
      by_cases hsx : s = x
      · subst hsx
        go_wp2_with fail
        go_ret
        exact ⟨⟨(i : Int), rfl, by simp [HXM.out]⟩, rfl⟩
      · have hq : (s == x) = false := beq_eq_false_iff_ne.2 hsx
        have HA2 : Hid (s ∉ l.take (i + 1)) := (by
          rw [HNX.out]
          intro h
          rcases List.mem_append.1 h with h | h
          · exact HA.out h
          · rw [List.mem_singleton] at h; exact hsx h : s ∉ l.take (i + 1))
        clear hsx
        go_wp2_with fail
        go_roundw
        case rel => exact ⟨i + 1, by omega, by go_num, HA2, trivial⟩
        case measure => simp [intOf]; omega
    · have hti : ¬ (i : Int) < (l.length : Int) := by omega
      have HN : Hid (s ∉ l) := (by have h := HA.out; rwa [List.take_of_length_le (by omega)] at h : s ∉ l)
      go_wp2_with fail
      go_ret
      exact ⟨⟨-1, rfl, by simp [HN.out]⟩, rfl⟩
set_option maxRecDepth 100000 in
theorem contains_is (a : Option Addr) (n cap : Nat) (l : List (List UInt8)) (s : List UInt8) (w : World) (hn : n = l.length) (hB : Rd st w a cap l) (o : Bool) (ho : decide (s ∈ l) = o) :
    Calls Tryz.prog 118 #[.slice a n cap, .string (str s)] w fun e w' => e = .returned (.bool o) ∧ w' = w := by
  have HC : Hid (Calls Tryz.prog 129 #[.slice a n cap, .string (str s)] w fun e w' => (∃ r : Int, e = .returned (.int .i64 r) ∧ (0 ≤ r ↔ s ∈ l)) ∧ w' = w) := index_is a n cap l s w hn hB
  have HO : Hid (decide (s ∈ l) = o) := ho
  clear hB hn ho
  go_enter Tryz.func118, Tryz.ntmps118
  go_wp2_with fail
  go_at_call 129
  refine Calls.mono HC.out ?_
  rintro e w2 ⟨⟨r, rfl, hr⟩, hw⟩
  subst hw
  have hd : decide (0 ≤ r) = o := by rw [← HO.out]; exact decide_eq_decide.2 hr
  clear hr HC HO
  go_wp2_with fail
  go_ret
  exact ⟨rfl, rfl⟩
theorem beqI (a b : Int) : (a == b) = decide (a = b) := by
  by_cases h : a = b
  · simp [h]
  · rw [decide_eq_false h]; exact beq_eq_false_iff_ne.2 h
theorem beqL (a b : List UInt8) : (a == b) = decide (a = b) := by
  by_cases h : a = b
  · simp [h]
  · rw [decide_eq_false h]; exact beq_eq_false_iff_ne.2 h
namespace Pd
/-- Does a part that asks one column hold for that column's cell? -/
def leafC (c : Ce) (h : Hd) : Bool :=
  if h.k = 4 then decide (c.k = 1 ∧ c.n < h.n)
  else if h.k = 5 then decide (c.k = 1 ∧ c.n = h.n)
  else if h.k = 6 then decide (c.k = 2 ∧ c.s = h.s)
  else if h.k = 7 then decide (c.k = 2 ∧ c.s ∈ h.set)
  else if h.k = 8 then decide (c.k = 2) && T.begins h.s c.s
  else if h.k = 9 then decide (c.k = 0)
  else false
theorem leaf_eq (r : Rw) (h : Hd) (hk : h.k ≠ 10) : leaf r h = leafC (Rw.cell r.c h.col) h := by
  unfold leaf leafC
  simp only [if_neg hk]
end Pd
set_option maxHeartbeats 8000000 in
set_option maxRecDepth 100000 in
theorem holdsFor_is {B : Nat → Prop} (h : Hd) (v : PV) (c : Ce) (w : World) (hH : HdOk B w v h) (hF : HdFit h) (hc : c.s.length ≤ maxLen) (o : Bool) (ho : Pd.leafC c h = o) :
    Calls Tryz.prog 97 #[pvv v, cv c] w fun e w' => e = .returned (.bool o) ∧ Ex w w' := by
  obtain ⟨vk, vcol, vn, vm, vs, ⟨sa, sn, sc⟩, vkids⟩ := v
  obtain ⟨k, col, hn', m, s, set⟩ := h
  obtain ⟨ccol, ck, cn, cs⟩ := c
  obtain ⟨⟨rfl, rfl, rfl, rfl, rfl⟩, hsn, hB, _⟩ := hH
  simp only at hsn hB hc
  subst hsn
  have HO : Hid (Pd.leafC ⟨ccol, ck, cn, cs⟩ ⟨vk, vcol, vn, vm, vs, set⟩ = o) := ho
  have HF : Hid (HdFit ⟨vk, vcol, vn, vm, vs, set⟩) := hF
  have HC : Hid (cs.length ≤ maxLen) := hc
  obtain ⟨W, hW⟩ : ∃ W, (w.alloc (pb ⟨vk, vcol, vn, vm, vs, (sa, set.length, sc), vkids⟩)).alloc (cb ⟨ccol, ck, cn, cs⟩) = W := ⟨_, rfl⟩
  have hX1 : Ex w (w.alloc (pb ⟨vk, vcol, vn, vm, vs, (sa, set.length, sc), vkids⟩)) := (Below.refl _ _).alloc (Nat.le_refl _) _
  have hXW : Ex w W := by rw [← hW]; exact Below.alloc hX1 (by simp) _
  have HXW : Hid (Ex w W) := hXW
  have HB : Hid (Rd st W sa sc set) := hB.below hXW
  have hP : PAt W w.heap.size ⟨vk, vcol, vn, vm, vs, (sa, set.length, sc), vkids⟩ := by rw [← hW]; exact (PAt.new w _).alloc _
  have hE : EAt W (w.heap.size + 1) ⟨ccol, ck, cn, cs⟩ := by
    rw [← hW]
    exact EAt.newat (w.alloc (pb ⟨vk, vcol, vn, vm, vs, (sa, set.length, sc), vkids⟩)) (w.heap.size + 1) _ (by simp)
  obtain ⟨p0, p1, p2, p3, p4, p5, p6⟩ := hP.all
  obtain ⟨e0, e1, e2, e3⟩ := hE.all
  simp only at p0 p1 p2 p3 p4 p5 p6 e0 e1 e2 e3
  have z1 := str_toList vs
  have z2 := str_toList cs
  clear hP hE hB hX1 hXW ho hF hc
  unfold pvv cv
  simp only [sv]
  go_enter Tryz.func97, Tryz.ntmps97
  by_cases h4 : vk = 4
  · subst h4
    go_wp2_with fail
    all_goals go_ret
    all_goals refine ⟨?_, HXW.out⟩
    all_goals rw [← HO.out]
    all_goals first | (simp_all [Pd.leafC]; done) | (simp_all [Pd.leafC]; first | exact beqI _ _ | exact beqL _ _)
  by_cases h5 : vk = 5
  · subst h5
    go_wp2_with fail
    all_goals go_ret
    all_goals refine ⟨?_, HXW.out⟩
    all_goals rw [← HO.out]
    all_goals first | (simp_all [Pd.leafC]; done) | (simp_all [Pd.leafC]; first | exact beqI _ _ | exact beqL _ _)
  by_cases h6 : vk = 6
  · subst h6
    go_wp2_with fail
    all_goals go_ret
    all_goals refine ⟨?_, HXW.out⟩
    all_goals rw [← HO.out]
    all_goals first | (simp_all [Pd.leafC]; done) | (simp_all [Pd.leafC]; first | exact beqI _ _ | exact beqL _ _)
  by_cases h9 : vk = 9
  · subst h9
    go_wp2_with fail
    all_goals go_ret
    all_goals refine ⟨?_, HXW.out⟩
    all_goals rw [← HO.out]
    all_goals first | (simp_all [Pd.leafC]; done) | (simp_all [Pd.leafC]; first | exact beqI _ _ | exact beqL _ _)
  by_cases h7 : vk = 7
  · subst h7
    by_cases hck : ck = 2
    · subst hck
      obtain ⟨x, hx⟩ : ∃ x, decide (cs ∈ set) = x := ⟨_, rfl⟩
      have HX : Hid (decide (cs ∈ set) = x) := hx
      have HC2 : Hid (Calls Tryz.prog 118 #[.slice sa set.length sc, .string (str cs)] W fun e w' => e = .returned (.bool x) ∧ w' = W) := contains_is sa _ sc set cs W rfl HB.out x hx
      have HOX : Hid (o = x) := (by rw [← HO.out, ← hx]; simp [Pd.leafC] : o = x)
      clear hx
      go_wp2_with fail
      go_at_call 118
      refine Calls.mono HC2.out ?_
      rintro e w2 ⟨rfl, hw⟩
      subst hw
      go_wp2_with fail
      go_ret
      exact ⟨by rw [HOX.out]; rfl, HXW.out⟩
    · have t2 : (ck == 2) = false := beq_eq_false_iff_ne.2 hck
      have HOX : Hid (o = false) := (by rw [← HO.out]; simp [Pd.leafC, hck] : o = false)
      clear hck
      go_wp2_with fail
      go_ret
      exact ⟨by rw [HOX.out]; rfl, HXW.out⟩
  by_cases h8 : vk = 8
  · subst h8
    by_cases hck : ck = 2
    · subst hck
      obtain ⟨x, hx⟩ : ∃ x, T.begins vs cs = x := ⟨_, rfl⟩
      have HC2 : Hid (Calls Tryz.prog 119 #[.string (str cs), .string (str vs)] W fun e w' => e = .returned (.bool x) ∧ w' = W) := hasPrefix_is cs vs W HC.out HF.out.sM x hx
      have HOX : Hid (o = x) := (by rw [← HO.out, ← hx]; simp [Pd.leafC] : o = x)
      clear hx
      go_wp2_with fail
      go_at_call 119
      refine Calls.mono HC2.out ?_
      rintro e w2 ⟨rfl, hw⟩
      subst hw
      go_wp2_with fail
      go_ret
      exact ⟨by rw [HOX.out]; rfl, HXW.out⟩
    · have t2 : (ck == 2) = false := beq_eq_false_iff_ne.2 hck
      have HOX : Hid (o = false) := (by rw [← HO.out]; simp [Pd.leafC, hck] : o = false)
      clear hck
      go_wp2_with fail
      go_ret
      exact ⟨by rw [HOX.out]; rfl, HXW.out⟩
  have HOX : Hid (o = false) := (by rw [← HO.out]; simp [Pd.leafC, h4, h5, h6, h7, h8, h9] : o = false)
  go_wp2_with fail
  go_ret
  exact ⟨by rw [HOX.out]; rfl, HXW.out⟩
end Go.Proofs.YtnmonoafjijfhaaGreat
namespace Go.Proofs.YtnmonoafjijfhaaGreat
open Go.RowKit
set_option linter.unusedVariables false
set_option linter.unusedSimpArgs false
theorem cell_short {l : List Ce} (h : ∀ c ∈ l, c.s.length ≤ maxLen) (s : List UInt8) : (Rw.cell l s).s.length ≤ maxLen := by
  induction l with
  | nil => simp [Rw.cell, Rw.none_, maxLen]
  | cons x t ih =>
    unfold Rw.cell
    split
    · exact h x (by simp)
    · exact ih fun c hc => h c (by simp [hc])
theorem rload {w9 : World} {g : Nat} {v : RV} (h : LAt w9 g v) : (Instr.loadAt 59 (.pointer (some ⟨g, 0, none⟩))).run Tryz.prog w9 = .ok (rvv v) w9 := by
  obtain ⟨c0, c1, c2⟩ := h.all
  exact loadI_row (off := 0) c0 c1 c2
/-- What is asked of a part and a row. -/
def HoldsC (r : Rw) (k : Pr) : Prop := ∀ (v : PV) (rv : RV) (w : World) (o : Bool), Pd.Lay (fun _ => True) k w v → RvOk w rv r → Pd.ev r k = o → Calls Tryz.prog 63 #[pvv v, rvv rv] w fun e w' => e = .returned (.bool o) ∧ Ex w w'
set_option maxHeartbeats 4000000 in
set_option maxRecDepth 100000 in
theorem some_is (r : Rw) (l : List Pr) (ih : ∀ k ∈ l, HoldsC r k) (want : Bool) (a : Option Addr) (n cap : Nat) (us : List PV) (rv : RV) (w : World) (hn : n = l.length) (hR : RdW 7 pc w a cap us) (hL : Pd.Lays (fun _ => True) w us l) (hr : RvOk w rv r) (o : Bool) (ho : l.any (fun k => Pd.ev r k == want) = o) :
    Calls Tryz.prog 96 #[.slice a n cap, rvv rv, .bool want] w fun e w' => e = .returned (.bool o) ∧ Ex w w' := by
  subst hn
  have hu := hL.1
  have h1 : l.length ≤ cap := by rw [← hu]; exact hR.1
  have h2 := hR.2.1
  unfold maxLen at h2
  have HIH : Hid (∀ k ∈ l, HoldsC r k) := ih
  have HR : Hid (Pd.RdP w a cap l) := (⟨us, hR, hL⟩ : Pd.RdP w a cap l)
  have HRV : Hid (RvOk w rv r) := hr
  have HO : Hid (l.any (fun k => Pd.ev r k == want) = o) := ho
  obtain ⟨rt, rq, ra, rn, rc'⟩ := rv
  obtain ⟨W, hW⟩ : ∃ W, w.alloc (rb ⟨rt, rq, ra, rn, rc'⟩) = W := ⟨_, rfl⟩
  have HXW : Hid (Ex w W) := (by rw [← hW]; exact (Below.refl _ _).alloc (Nat.le_refl _) _ : Ex w W)
  have HLA : Hid (LAt W w.heap.size ⟨rt, rq, ra, rn, rc'⟩) := (by rw [← hW]; exact LAt.new w _ : LAt W w.heap.size _)
  clear ih hR hL hr ho hu
  unfold rvv
  simp only [sv]
  go_enter Tryz.func96, Tryz.ntmps96
  go_wp2_with fail
  go_loopw [11, 8] (fun iv kv wr => ∃ i : Nat, i ≤ l.length ∧ iv = .int .i64 i ∧ Hid (∀ k ∈ l.take i, (Pd.ev r k == want) = false) ∧ Hid (Ex W wr)) (fun iv kv wr => l.length - (intOf iv).toNat)
  case atStart => exact ⟨0, by omega, rfl, (by simp : ∀ k ∈ l.take 0, (Pd.ev r k == want) = false), Ex.refl W⟩
  case round =>
    obtain ⟨i, hi, rfl, HA, HXr⟩ := hrel
    have HX0 : Hid (Ex w wr) := (HXW.out.trans HXr.out : Ex w wr)
    by_cases hlt : i < l.length
    · have hti : (i : Int) < (l.length : Int) := by omega
      obtain ⟨b, off, u, hpp, hLk, e0, e1, e2, e3, e4, e5, e6⟩ := (HR.out.below HX0.out).seven hlt
      obtain ⟨k, hk⟩ : ∃ k, l[i] = k := ⟨_, rfl⟩
      rw [hk] at hLk
      have HK : Hid (k ∈ l) := (by rw [← hk]; exact List.getElem_mem hlt : k ∈ l)
      have HNX : Hid (l.take (i + 1) = l.take i ++ [k]) := (by rw [List.take_add_one, List.getElem?_eq_getElem hlt, hk]; rfl : l.take (i + 1) = l.take i ++ [k])
      obtain ⟨w1, hw1⟩ : ∃ w1, wr.alloc (pb u) = w1 := ⟨_, rfl⟩
      have hX1 : Ex wr w1 := by rw [← hw1]; exact (Below.refl _ _).alloc (Nat.le_refl _) _
      have HX1 : Hid (Ex W w1) := (HXr.out.trans hX1 : Ex W w1)
      obtain ⟨x, hx⟩ : ∃ x, Pd.ev r k = x := ⟨_, rfl⟩
      have HEX : Hid (Pd.ev r k = x) := hx
      have HC : Hid (Calls Tryz.prog 63 #[pvv u, rvv ⟨rt, rq, ra, rn, rc'⟩] w1 fun e w' => e = .returned (.bool x) ∧ Ex w1 w') := HIH.out k HK.out u _ w1 x (Pd.Lay.below _ hLk hX1) (HRV.out.below (HX0.out.trans hX1)) hx
      have HP1 : Hid (PAt w1 wr.heap.size u) := (by rw [← hw1]; exact PAt.new wr u : PAt w1 wr.heap.size u)
      obtain ⟨q0, q1, q2, q3, q4, q5, q6⟩ := HP1.out.all
      obtain ⟨m0, m1, m2⟩ := (HLA.out.below HX1.out).all
      simp only at m0 m1 m2
      subst hpp
      clear hLk hk hX1 hx
      go_wp2_with fail
      go_at_call 63
      refine Calls.mono HC.out ?_
      rintro e w3 ⟨rfl, hx⟩
      have HX3 : Hid (Ex W w3) := (HX1.out.trans hx : Ex W w3)
      obtain ⟨y, hy⟩ : ∃ y, (x == want) = y := ⟨_, rfl⟩
      have HY : Hid ((Pd.ev r k == want) = y) := (by rw [HEX.out]; exact hy : (Pd.ev r k == want) = y)
      clear hx HC m0 m1 m2
      cases y with
      | true =>
        have HF : Hid (o = true) := (by rw [← HO.out, List.any_eq_true]; exact ⟨k, HK.out, HY.out⟩ : o = true)
        go_wp2_with fail
        go_ret
        exact ⟨by rw [HF.out]; rfl, HXW.out.trans HX3.out⟩
      | false =>
        have HA2 : Hid (∀ c ∈ l.take (i + 1), (Pd.ev r c == want) = false) := (by
          intro c hc
          rw [HNX.out] at hc
          rcases List.mem_append.1 hc with hc | hc
          · exact HA.out c hc
          · rw [List.mem_singleton] at hc; subst hc; exact HY.out : ∀ c ∈ l.take (i + 1), (Pd.ev r c == want) = false)
        go_wp2_with fail
        go_roundw
        case rel => exact ⟨i + 1, by omega, by go_num, HA2, HX3⟩
        case measure => simp [intOf]; omega
    · have hti : ¬ (i : Int) < (l.length : Int) := by omega
      have HF : Hid (o = false) := (by
        rw [← HO.out, List.any_eq_false]
        intro k hk
        have h := HA.out k (by rw [List.take_of_length_le (by omega)]; exact hk)
        rw [h]; simp : o = false)
      go_wp2_with fail
      go_ret
      exact ⟨by rw [HF.out]; rfl, HX0.out⟩
theorem all_some (r : Rw) (l : List Pr) : l.all (Pd.ev r) = !(l.any (fun k => Pd.ev r k == false)) := by
  induction l with
  | nil => rfl
  | cons x t ih => rw [List.all_cons, List.any_cons, ih]; cases Pd.ev r x <;> simp
theorem any_some (r : Rw) (l : List Pr) : l.any (Pd.ev r) = l.any (fun k => Pd.ev r k == true) := by
  induction l with
  | nil => rfl
  | cons x t ih => rw [List.any_cons, List.any_cons, ih]; cases Pd.ev r x <;> simp
set_option maxHeartbeats 8000000 in
set_option maxRecDepth 100000 in
theorem holds_is (r : Rw) (hrs : ∀ c ∈ r.c, c.s.length ≤ maxLen) : ∀ (p : Pr), Pd.Fine p → HoldsC r p := by
  refine Pd.tree ?_
  intro h l ih hFi
  rw [Pd.fine_mk] at hFi
  obtain ⟨hF, hl1, hFk⟩ := hFi
  intro v rv w o hL hr ho
  rw [Pd.ev_mk] at ho
  obtain ⟨hHd, hkn, hkB, hkc, hkm, hk0⟩ := hL.head
  have hLl := hL
  rw [Pd.lay_mk] at hLl
  obtain ⟨hz1, hz2, hz3, us, hRu, hLu⟩ := hLl
  obtain ⟨vk, vcol, vn, vm, vs, vset, ⟨p, n, cap⟩⟩ := v
  simp only at hkn hkB hkc hkm hk0 hRu
  subst hkn
  clear hz1 hz2 hz3
  have hvk : vk = h.k := hHd.1.1
  have HIH : Hid (∀ k ∈ l, HoldsC r k) := (fun k hk => ih k hk (hFk k hk) : ∀ k ∈ l, HoldsC r k)
  obtain ⟨rt, rq, ra, rn, rc'⟩ := rv
  obtain ⟨W, hW⟩ : ∃ W, (w.alloc (pb ⟨vk, vcol, vn, vm, vs, vset, p, l.length, cap⟩)).alloc (rb ⟨rt, rq, ra, rn, rc'⟩) = W := ⟨_, rfl⟩
  have hX1 : Ex w (w.alloc (pb ⟨vk, vcol, vn, vm, vs, vset, p, l.length, cap⟩)) := (Below.refl _ _).alloc (Nat.le_refl _) _
  have hXW : Ex w W := by rw [← hW]; exact Below.alloc hX1 (by simp) _
  have HXW : Hid (Ex w W) := hXW
  have HP : Hid (PAt W w.heap.size ⟨vk, vcol, vn, vm, vs, vset, p, l.length, cap⟩) := (by rw [← hW]; exact (PAt.new w _).alloc _ : PAt W w.heap.size _)
  have HLA : Hid (LAt W (w.heap.size + 1) ⟨rt, rq, ra, rn, rc'⟩) := (by
    rw [← hW]
    exact LAt.newat (w.alloc (pb ⟨vk, vcol, vn, vm, vs, vset, p, l.length, cap⟩)) (w.heap.size + 1) _ (by simp) : LAt W (w.heap.size + 1) _)
  have HRV : Hid (RvOk W ⟨rt, rq, ra, rn, rc'⟩ r) := hr.below hXW
  have HRU : Hid (RdW 7 pc W p cap us) := hRu.below hXW
  have HLU : Hid (Pd.Lays (fun _ => True) W us l) := hLu.below hXW
  have HRS : Hid (∀ c ∈ r.c, c.s.length ≤ maxLen) := hrs
  obtain ⟨p0, p1, p2, p3, p4, p5, p6⟩ := HP.out.all
  obtain ⟨m0, m1, m2⟩ := HLA.out.all
  simp only at p0 p1 p2 p3 p4 p5 p6 m0 m1 m2
  unfold maxLen at hkm
  by_cases h1 : h.k = 1
  · have hv : vk = 1 := by omega
    subst hv
    rw [if_pos h1, all_some] at ho
    obtain ⟨x, hx⟩ : ∃ x, l.any (fun k => Pd.ev r k == false) = x := ⟨_, rfl⟩
    rw [hx] at ho
    have HC : Hid (Calls Tryz.prog 96 #[.slice p l.length cap, rvv ⟨rt, rq, ra, rn, rc'⟩, .bool false] W fun e w' => e = .returned (.bool x) ∧ Ex W w') := some_is r l HIH.out false p _ cap us _ W rfl HRU.out HLU.out HRV.out x hx
    subst ho
    clear hL hHd hkB ih hXW hF hFk hX1 hvk h1 hx hRu hLu hr hrs
    unfold pvv rvv
    simp only [sv]
    go_enter Tryz.func63, Tryz.ntmps63
    go_wp2_with fail
    go_at_call 96
    refine Calls.mono HC.out ?_
    rintro e w2 ⟨rfl, hx2⟩
    have HX2 : Hid (Ex w w2) := (HXW.out.trans hx2 : Ex w w2)
    clear hx2 HC
    go_wp2_with fail
    go_ret
    exact ⟨rfl, HX2.out⟩
  rw [if_neg h1] at ho
  by_cases h2 : h.k = 2
  · have hv : vk = 2 := by omega
    subst hv
    rw [if_pos h2, any_some] at ho
    have HC : Hid (Calls Tryz.prog 96 #[.slice p l.length cap, rvv ⟨rt, rq, ra, rn, rc'⟩, .bool true] W fun e w' => e = .returned (.bool o) ∧ Ex W w') := some_is r l HIH.out true p _ cap us _ W rfl HRU.out HLU.out HRV.out o ho
    clear hL hHd hkB ih hXW hF hFk hX1 hvk h1 h2 ho hRu hLu hr hrs
    unfold pvv rvv
    simp only [sv]
    go_enter Tryz.func63, Tryz.ntmps63
    go_wp2_with fail
    go_at_call 96
    refine Calls.mono HC.out ?_
    rintro e w2 ⟨rfl, hx2⟩
    have HX2 : Hid (Ex w w2) := (HXW.out.trans hx2 : Ex w w2)
    clear hx2 HC
    go_wp2_with fail
    go_ret
    exact ⟨rfl, HX2.out⟩
  rw [if_neg h2] at ho
  by_cases h3 : h.k = 3
  · have hv : vk = 3 := by omega
    subst hv
    rw [if_pos h3] at ho
    cases l with
    | nil =>
      have HF : Hid (o = false) := (by rw [← ho]; rfl : o = false)
      clear hL hHd hkB ih hXW hF hFk hX1 hvk h1 h2 h3 ho hRu hLu hr hrs
      simp only [List.length_nil] at *
      unfold pvv rvv
      simp only [sv]
      go_enter Tryz.func63, Tryz.ntmps63
      go_wp2_with fail
      have hre := Ex.refl
      refine Rg.wp_rows [.inl (Value.pointer (some ⟨w.heap.size, 6, none⟩)), .inl (Value.slice p 0 cap), .inl (.int .i64 0), .inl (.bool false), .inl (.bool false), .inl undef, .inl undef, .inl undef, .inl undef, .inl undef, .inl undef, .inl undef, .inl (.bool false), .inl (.bool false)] (Ex W) Ex 55 (by kernel_rfl) rfl (by kernel_rfl) ?st hre (Ex.drew _) ?goods ?fin
      case st => exact trivial
      case goods =>
        refine Rg.goods_cons (Rg.good_field hre rfl rfl rfl (fun wx hC => by go_simp)) ?_
        refine Rg.goods_cons (Rg.good_load hre rfl rfl rfl (fun wx hC => by have hz := (HP.out.below hC).all.2.2.2.2.2.2; go_simp)) ?_
        refine Rg.goods_cons (Rg.good_len hre rfl rfl (by rintro u wx hC rfl; go_simp)) ?_
        refine Rg.goods_cons (Rg.good_bin hre rfl rfl rfl rfl (fun _ => rfl) (fun w => by go_simp)) ?_
        refine Rg.goods_cons (Rg.good_move hre rfl rfl rfl) ?_
        refine Rg.goods_cons (Rg.good_skip rfl) ?_
        refine Rg.goods_cons (Rg.good_skip rfl) ?_
        refine Rg.goods_cons (Rg.good_skip rfl) ?_
        refine Rg.goods_cons (Rg.good_skip rfl) ?_
        refine Rg.goods_cons (Rg.good_skip rfl) ?_
        refine Rg.goods_cons (Rg.good_skip rfl) ?_
        refine Rg.goods_cons (Rg.good_skip rfl) ?_
        refine Rg.goods_cons (Rg.good_pick false hre rfl rfl rfl rfl) ?_
        refine Rg.goods_cons (Rg.good_assign hre rfl rfl rfl) ?_
        exact Rg.goods_nil
      case fin =>
        intro wx hx
        simp only [Rg.later, Act.put, List.setIfInBounds_toArray, List.set_cons_succ, List.set_cons_zero]
        go_wp2_with fail
        go_ret
        exact ⟨by rw [HF.out]; rfl, HXW.out.trans hx⟩
    | cons k t =>
      obtain ⟨x, hx⟩ : ∃ x, Pd.ev r k = x := ⟨_, rfl⟩
      have HF : Hid (o = !x) := (by rw [← ho, ← hx]; rfl : o = !x)
      have HEX : Hid (Pd.ev r k = x) := hx
      have hLW := Pd.Lay.below _ hL hXW
      obtain ⟨bb, off, u, hpp, hbg, hLk, e0, e1, e2, e3, e4, e5, e6⟩ := hLW.kid (i := 0) (by simp)
      simp only [List.getElem_cons_zero] at hLk
      simp only [Nat.zero_mul, Nat.add_zero] at e0 e1 e2 e3 e4 e5 e6
      simp only at hpp
      have HLK : Hid (Pd.Lay (fun _ => True) k W u) := hLk
      have HE : Hid (W.cell? ⟨bb, off, none⟩ = some (.int .i64 u.k) ∧ W.cell? ⟨bb, off + 1, none⟩ = some (.string (str u.col)) ∧ W.cell? ⟨bb, off + 2, none⟩ = some (.int .i64 u.n) ∧ W.cell? ⟨bb, off + 3, none⟩ = some (.int .i64 u.m) ∧ W.cell? ⟨bb, off + 4, none⟩ = some (.string (str u.s)) ∧ W.cell? ⟨bb, off + 5, none⟩ = some (sv u.set) ∧ W.cell? ⟨bb, off + 6, none⟩ = some (sv u.kids)) := ⟨e0, e1, e2, e3, e4, e5, e6⟩
      have HKC : Hid (HoldsC r k) := HIH.out k (by simp)
      obtain ⟨L, hLn⟩ : ∃ L, (k :: t).length = L := ⟨_, rfl⟩
      have hL1 : 1 ≤ L := by rw [← hLn]; simp
      have tL : decide ((0 : Int) < (L : Int)) = true := by simp; omega
      have tL2 : (0 : Int) < (L : Int) := by omega
      rw [hLn] at HP hkc
      subst hpp
      clear hL hHd hkB ih hXW hF hFk hX1 hvk h1 h2 h3 ho hRu hLu hr hrs hx hLW hbg hLk e0 e1 e2 e3 e4 e5 e6
      unfold pvv rvv
      simp only [sv]
      rw [hLn]
      rw [hLn] at hW p6
      go_enter Tryz.func63, Tryz.ntmps63
      go_wp2_with fail
      have hre := Ex.refl
      refine Rg.wp_rows [.inl (Value.pointer (some ⟨w.heap.size, 6, none⟩)), .inl (Value.slice (some ⟨bb, off, none⟩) L cap), .inl (.int .i64 L), .inl (.bool true), .inl (.bool true), .inl (Value.pointer (some ⟨w.heap.size, 6, none⟩)), .inl (Value.slice (some ⟨bb, off, none⟩) L cap), .inl (Value.pointer (some ⟨bb, off, none⟩)), .inl (pvv u), .inl (rvv ⟨rt, rq, ra, rn, rc'⟩), .inl (.bool x), .inl (.bool !x), .inl (.bool !x), .inl (.bool !x)] (Ex W) Ex 55 (by kernel_rfl) rfl (by kernel_rfl) ?st hre (Ex.drew _) ?goods ?fin
      case st => exact trivial
      case goods =>
        refine Rg.goods_cons (Rg.good_field hre rfl rfl rfl (fun wx hC => by go_simp)) ?_
        refine Rg.goods_cons (Rg.good_load hre rfl rfl rfl (fun wx hC => by have hz := (HP.out.below hC).all.2.2.2.2.2.2; go_simp)) ?_
        refine Rg.goods_cons (Rg.good_len hre rfl rfl (by rintro u wx hC rfl; go_simp)) ?_
        refine Rg.goods_cons (Rg.good_bin hre rfl rfl rfl rfl (fun _ => rfl) (fun w => by simp [go_sem]; omega)) ?_
        refine Rg.goods_cons (Rg.good_move hre rfl rfl rfl) ?_
        refine Rg.goods_cons (Rg.good_field hre rfl rfl rfl (fun wx hC => by go_simp)) ?_
        refine Rg.goods_cons (Rg.good_load hre rfl rfl rfl (fun wx hC => by have hz := (HP.out.below hC).all.2.2.2.2.2.2; go_simp)) ?_
        refine Rg.goods_cons (Rg.good_index hre rfl rfl rfl rfl (fun wx hC => by go_simp; intro h0; exfalso; omega)) ?_
        refine Rg.goods_cons (Rg.good_load hre rfl rfl rfl (fun wx hC => by obtain ⟨e0, e1, e2, e3, e4, e5, e6⟩ := HE.out; exact loadI_pred (cell_ex e0 hC) (cell_ex e1 hC) (cell_ex e2 hC) (cell_ex e3 hC) (cell_ex e4 hC) (cell_ex e5 hC) (cell_ex e6 hC))) ?_
        refine Rg.goods_cons (Rg.good_load hre rfl rfl rfl (fun wx hC => rload (HLA.out.below hC))) ?_
        refine Rg.goods_cons (Rg.good_call2 Tryz.func63 (by kernel_rfl) rfl rfl rfl (by rintro v0 v1 wx hC rfl rfl; exact ex_rowP (HKC.out u _ wx x (Pd.Lay.below _ HLK.out hC) (HRV.out.below hC) HEX.out) hC)) ?_
        refine Rg.goods_cons (Rg.good_un hre rfl rfl rfl (fun w => by go_simp)) ?_
        refine Rg.goods_cons (Rg.good_pick true hre rfl rfl rfl rfl) ?_
        refine Rg.goods_cons (Rg.good_assign hre rfl rfl rfl) ?_
        exact Rg.goods_nil
      case fin =>
        intro wx hx
        simp only [Rg.later, Act.put, List.setIfInBounds_toArray, List.set_cons_succ, List.set_cons_zero]
        have HX9 : Hid (Ex w wx) := (HXW.out.trans hx : Ex w wx)
        clear hx
        go_wp2_with fail
        go_ret
        exact ⟨by rw [HF.out]; rfl, HX9.out⟩
  rw [if_neg h3] at ho
  by_cases h10 : h.k = 10
  · have hv : vk = 10 := by omega
    subst hv
    have HO : Hid (decide (vn ≤ rt ∧ rt ≤ vm) = o) := (by
      rw [← ho]
      unfold Pd.leaf
      simp only [h10]
      rw [← hHd.1.2.2.1, ← hHd.1.2.2.2.1, ← hr.1]
      simp : decide (vn ≤ rt ∧ rt ≤ vm) = o)
    clear hL hHd hkB ih hXW hF hFk hX1 hvk h1 h2 h3 ho hRu hLu hr hrs h10
    unfold pvv rvv
    simp only [sv]
    go_enter Tryz.func63, Tryz.ntmps63
    go_wp2_with fail
    all_goals go_ret
    all_goals refine ⟨?_, HXW.out⟩
    all_goals rw [← HO.out]
    all_goals first | (simp_all; done) | (simp; omega)
  · rw [Pd.leaf_eq r h h10] at ho
    have t1 : (vk == 1) = false := beq_eq_false_iff_ne.2 (by omega)
    have t2 : (vk == 2) = false := beq_eq_false_iff_ne.2 (by omega)
    have t3 : (vk == 3) = false := beq_eq_false_iff_ne.2 (by omega)
    have t4 : (vk == 10) = false := beq_eq_false_iff_ne.2 (by omega)
    obtain ⟨c, hc⟩ : ∃ c, Rw.cell r.c vcol = c := ⟨_, rfl⟩
    have HCC : Hid (Rw.cell r.c vcol = c) := hc
    have hvc : h.col = vcol := hHd.1.2.1.symm
    rw [hvc, hc] at ho
    have HO : Hid (Pd.leafC c h = o) := ho
    have HCS : Hid (c.s.length ≤ maxLen) := (by rw [← hc]; exact cell_short hrs vcol : c.s.length ≤ maxLen)
    have HHD : Hid (HdOk (fun _ => True) W ⟨vk, vcol, vn, vm, vs, vset, p, l.length, cap⟩ h) := hHd.below hXW
    have HF : Hid (HdFit h) := hF
    clear hL hHd hkB ih hXW hF hFk hX1 hvk h1 h2 h3 ho hRu hLu hr hrs h10 hc hvc
    unfold pvv rvv
    simp only [sv]
    go_enter Tryz.func63, Tryz.ntmps63
    go_wp2_with fail
    have hre := Ex.refl
    refine Rg.wp_rows [.inl (pvv ⟨vk, vcol, vn, vm, vs, vset, p, l.length, cap⟩), .inl (rvv ⟨rt, rq, ra, rn, rc'⟩), .inl (Value.pointer (some ⟨w.heap.size, 1, none⟩)), .inl (.string (str vcol)), .inl (cv c), .inl (.bool o), .inl (.bool o)] (Ex W) Ex 55 (by kernel_rfl) rfl (by kernel_rfl) ?st hre (Ex.drew _) ?goods ?fin
    case st => exact trivial
    case goods =>
      refine Rg.goods_cons (Rg.good_load hre rfl rfl rfl (fun wx hC => (HP.out.below hC).loadI)) ?_
      refine Rg.goods_cons (Rg.good_load hre rfl rfl rfl (fun wx hC => rload (HLA.out.below hC))) ?_
      refine Rg.goods_cons (Rg.good_field hre rfl rfl rfl (fun wx hC => by go_simp)) ?_
      refine Rg.goods_cons (Rg.good_load hre rfl rfl rfl (fun wx hC => by have hz := (HP.out.below hC).all.2.1; go_simp)) ?_
      refine Rg.goods_cons (Rg.good_call2 Tryz.func98 (by kernel_rfl) rfl rfl rfl (by rintro v0 v1 wx hC rfl rfl; exact ex_rowP (scell_is _ r vcol wx (HRV.out.below hC) c HCC.out) hC)) ?_
      refine Rg.goods_cons (Rg.good_call2 Tryz.func97 (by kernel_rfl) rfl rfl rfl (by rintro v0 v1 wx hC rfl rfl; exact ex_rowP (holdsFor_is h _ c wx (HHD.out.below hC) HF.out HCS.out o HO.out) hC)) ?_
      refine Rg.goods_cons (Rg.good_assign hre rfl rfl rfl) ?_
      exact Rg.goods_nil
    case fin =>
      intro wx hx
      simp only [Rg.later, Act.put, List.setIfInBounds_toArray, List.set_cons_succ, List.set_cons_zero]
      have HX9 : Hid (Ex w wx) := (HXW.out.trans hx : Ex w wx)
      clear hx
      go_wp2_with fail
      go_ret
      exact ⟨rfl, HX9.out⟩
set_option maxHeartbeats 1000000 in
set_option maxRecDepth 100000 in
theorem eval_is (p : Pr) (r : Rw) (v : PV) (rv : RV) (w : World) (hL : Pd.Lay (fun _ => True) p w v) (hF : Pd.Fine p) (hr : RvOk w rv r) (hrs : ∀ c ∈ r.c, c.s.length ≤ maxLen) (o : Bool) (ho : (Pd.fit p 50 5000 && Pd.ev r p) = o) :
    Calls Tryz.prog 26 #[pvv v, rvv rv] w fun e w' => e = .returned (.bool o) ∧ Ex w w' := by
  obtain ⟨vk, vcol, vn, vm, vs, vset, vkids⟩ := v
  obtain ⟨rt, rq, ra, rn, rc'⟩ := rv
  obtain ⟨W, hW⟩ : ∃ W, (w.alloc (pb ⟨vk, vcol, vn, vm, vs, vset, vkids⟩)).alloc (rb ⟨rt, rq, ra, rn, rc'⟩) = W := ⟨_, rfl⟩
  have hX1 : Ex w (w.alloc (pb ⟨vk, vcol, vn, vm, vs, vset, vkids⟩)) := (Below.refl _ _).alloc (Nat.le_refl _) _
  have hXW : Ex w W := by rw [← hW]; exact Below.alloc hX1 (by simp) _
  have HXW : Hid (Ex w W) := hXW
  have HP : Hid (PAt W w.heap.size ⟨vk, vcol, vn, vm, vs, vset, vkids⟩) := (by rw [← hW]; exact (PAt.new w _).alloc _ : PAt W w.heap.size _)
  have HLA : Hid (LAt W (w.heap.size + 1) ⟨rt, rq, ra, rn, rc'⟩) := (by
    rw [← hW]
    exact LAt.newat (w.alloc (pb ⟨vk, vcol, vn, vm, vs, vset, vkids⟩)) (w.heap.size + 1) _ (by simp) : LAt W (w.heap.size + 1) _)
  have HLW : Hid (Pd.Lay (fun _ => True) p W ⟨vk, vcol, vn, vm, vs, vset, vkids⟩) := (Pd.Lay.below _ hL hXW : Pd.Lay _ _ W _)
  have HRV : Hid (RvOk W ⟨rt, rq, ra, rn, rc'⟩ r) := hr.below hXW
  have HHC : Hid (HoldsC r p) := holds_is r hrs p hF
  obtain ⟨f, hf⟩ : ∃ f, Pd.fit p 50 5000 = f := ⟨_, rfl⟩
  obtain ⟨x, hx⟩ : ∃ x, Pd.ev r p = x := ⟨_, rfl⟩
  have HX : Hid (Pd.ev r p = x) := hx
  rw [hf, hx] at ho
  have HC : Hid (Calls Tryz.prog 62 #[pvv ⟨vk, vcol, vn, vm, vs, vset, vkids⟩] W fun e w' => e = .returned (.bool f) ∧ Ex W w') := bounded_is p _ W HLW.out f hf
  have HO : Hid ((f && x) = o) := ho
  obtain ⟨p0, p1, p2, p3, p4, p5, p6⟩ := HP.out.all
  obtain ⟨m0, m1, m2⟩ := HLA.out.all
  simp only at p0 p1 p2 p3 p4 p5 p6 m0 m1 m2
  clear hL hF hr hrs hX1 hXW hf hx ho
  unfold pvv rvv
  simp only [sv]
  go_enter Tryz.func26, Tryz.ntmps26
  go_wp2_with fail
  go_at_call 62
  refine Calls.mono HC.out ?_
  rintro e w2 ⟨rfl, hx2⟩
  have HX2 : Hid (Ex w w2) := (HXW.out.trans hx2 : Ex w w2)
  have HXW2 : Hid (Ex W w2) := hx2
  obtain ⟨q0, q1, q2, q3, q4, q5, q6⟩ := (HP.out.below hx2).all
  obtain ⟨n0, n1, n2⟩ := (HLA.out.below hx2).all
  simp only at q0 q1 q2 q3 q4 q5 q6 n0 n1 n2
  clear hx2 HC p0 p1 p2 p3 p4 p5 p6 m0 m1 m2 hW
  cases f with
  | false =>
    have HF : Hid (o = false) := (by rw [← HO.out, Bool.false_and] : o = false)
    go_wp2_with fail
    go_ret
    exact ⟨by rw [HF.out]; rfl, HX2.out⟩
  | true =>
    have HF : Hid (o = x) := (by rw [← HO.out, Bool.true_and] : o = x)
    have HC2 : Hid (Calls Tryz.prog 63 #[pvv ⟨vk, vcol, vn, vm, vs, vset, vkids⟩, rvv ⟨rt, rq, ra, rn, rc'⟩] w2 fun e w' => e = .returned (.bool x) ∧ Ex w2 w') := HHC.out _ _ w2 x (Pd.Lay.below _ HLW.out HXW2.out) (HRV.out.below HXW2.out) HX.out
    go_wp2_with fail
    go_at_call 63
    refine Calls.mono HC2.out ?_
    rintro e w3 ⟨rfl, hx3⟩
    have HX3 : Hid (Ex w w3) := (HX2.out.trans hx3 : Ex w w3)
    clear hx3 HC2
    go_wp2_with fail
    go_ret
    exact ⟨by rw [HF.out]; rfl, HX3.out⟩
end Go.Proofs.YtnmonoafjijfhaaGreat
