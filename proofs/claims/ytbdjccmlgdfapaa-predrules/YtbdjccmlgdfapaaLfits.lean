/-
  The landed fits, Size, bounded.
-/
import Derived.Test.YtbdjccmlgdfapaaPblk
namespace Go.Proofs.Ytbdjccmlgdfapaa
open Go.RowKit
set_option linter.unusedVariables false
set_option linter.unusedSimpArgs false
namespace Pd
theorem sum_take (l : List Pr) (i : Nat) : ((l.take i).map size).sum ≤ (l.map size).sum := by
  induction l generalizing i with
  | nil => simp
  | cons x t ih =>
    cases i with
    | zero => simp
    | succ i =>
      have := ih i
      simp only [List.take_succ_cons, List.map_cons, List.sum_cons]
      omega
theorem deep_pos (p : Pr) : 1 ≤ deep p := by rw [← mk_ks p, deep_mk]; omega
/-- It is no deeper, and of no more parts. -/
def fit (p : Pr) (d L : Nat) : Bool := decide (deep p ≤ d) && decide (size p ≤ L)
theorem fit_mk (h : Hd) (l : List Pr) (d L : Nat) : fit (Pr.mk' h l) d L = true ↔ (1 ≤ d ∧ 1 ≤ L) ∧ (∀ k ∈ l, deep k ≤ d - 1) ∧ (l.map size).sum ≤ L - 1 := by
  unfold fit
  rw [deep_mk, size_mk]
  simp only [Bool.and_eq_true, decide_eq_true_eq]
  constructor
  · rintro ⟨h1, h2⟩
    refine ⟨⟨by omega, by omega⟩, fun k hk => ?_, by omega⟩
    have := deep_in hk
    omega
  · rintro ⟨⟨h1, h2⟩, h3, h4⟩
    refine ⟨?_, by omega⟩
    have : (l.map deep).foldr max 0 ≤ d - 1 := by
      refine foldr_le fun x hx => ?_
      obtain ⟨y, hy, rfl⟩ := List.mem_map.1 hx
      exact h3 y hy
    omega
end Pd
/-- What fits leaves behind. -/
def FitsR (p : Pr) (d L g : Nat) (w w' : World) : Prop := ∃ L' : Nat, IAt w' g L' ∧ (Pd.fit p d L = true → L' = L - Pd.size p) ∧ w.grownBy w' (some g)
set_option maxHeartbeats 4000000 in
set_option maxRecDepth 100000 in
theorem fits_is : ∀ (p : Pr) (v : PV) (d L g : Nat) (w : World), Pd.Lay (fun b => b ≠ g) p w v → IAt w g L → d ≤ 1000 → L ≤ 1000000 →
    Calls Try.prog 24 #[pvv v, .int .i64 d, .pointer (some ⟨g, 0, none⟩)] w fun e w' => e = .returned (.bool (Pd.fit p d L)) ∧ FitsR p d L g w w' := by
  refine Pd.tree ?_
  intro h l ih v d L g w hL hI hd hLL
  obtain ⟨hHd, hkn, hkB, hkc, hkm, hk0⟩ := hL.head
  obtain ⟨vk, vcol, vn, vm, vs, vset, ⟨p, n, cap⟩⟩ := v
  simp only at hkn hkB hkc hkm hk0
  subst hkn
  unfold maxLen at hkm
  obtain ⟨o, ho⟩ : ∃ o, Pd.fit (Pr.mk' h l) d L = o := ⟨_, rfl⟩
  have HO : Hid (Pd.fit (Pr.mk' h l) d L = o) := ho
  have HIH : Hid (∀ k ∈ l, ∀ (v : PV) (d L g : Nat) (w : World), Pd.Lay (fun b => b ≠ g) k w v → IAt w g L → d ≤ 1000 → L ≤ 1000000 →
    Calls Try.prog 24 #[pvv v, .int .i64 d, .pointer (some ⟨g, 0, none⟩)] w fun e w' => e = .returned (.bool (Pd.fit k d L)) ∧ FitsR k d L g w w') := ih
  rw [ho]
  have HF := (Pd.fit_mk h l d L)
  have HFM : Hid (o = true ↔ (1 ≤ d ∧ 1 ≤ L) ∧ (∀ k ∈ l, Pd.deep k ≤ d - 1) ∧ (l.map Pd.size).sum ≤ L - 1) := (by rw [← ho]; exact HF : o = true ↔ _)
  have HLw : Hid (Pd.Lay (fun b => b ≠ g) (Pr.mk' h l) w ⟨vk, vcol, vn, vm, vs, vset, p, l.length, cap⟩) := hL
  obtain ⟨W, hW⟩ : ∃ W, w.alloc (pb ⟨vk, vcol, vn, vm, vs, vset, p, l.length, cap⟩) = W := ⟨_, rfl⟩
  have hXW : Ex w W := by rw [← hW]; exact (Below.refl _ _).alloc (Nat.le_refl _) _
  have HIW : Hid (IAt W g L) := hI.below hXW
  have HXW : Hid (Ex w W) := hXW
  have HP : Hid (PAt W w.heap.size ⟨vk, vcol, vn, vm, vs, vset, p, l.length, cap⟩) := (by rw [← hW]; exact PAt.new w _ : PAt W w.heap.size _)
  have hgw : w.heap.size ≠ g := by have := hI.lt; omega
  have i0 := HIW.out.cell
  have i1 := HIW.out.frozen
  clear hL hI hHd hkB ho HF ih hXW
  unfold pvv
  simp only [sv]
  go_enter Try.func24, Try.ntmps24
  by_cases hd0 : d = 0
  · subst hd0
    have HFF : Hid (o = false) := (by cases o with | false => rfl | true => exact absurd (HFM.out.1 rfl).1.1 (by omega) : o = false)
    go_wp2_with fail
    go_ret
    exact ⟨by rw [HFF.out]; rfl, L, by simpa using HIW.out, by rw [HO.out, HFF.out]; simp, HXW.out.grownBy _⟩
  have t1 : ((d : Int) == 0) = false := beq_eq_false_iff_ne.2 (by omega)
  by_cases hL0 : L = 0
  · subst hL0
    have HFF : Hid (o = false) := (by cases o with | false => rfl | true => exact absurd (HFM.out.1 rfl).1.2 (by omega) : o = false)
    go_wp2_with fail
    go_ret
    exact ⟨by rw [HFF.out]; rfl, 0, by simpa using HIW.out, by rw [HO.out, HFF.out]; simp, HXW.out.grownBy _⟩
  have t2 : ((L : Int) == 0) = false := beq_eq_false_iff_ne.2 (by omega)
  obtain ⟨L1, hL1⟩ : ∃ L1, L1 + 1 = L := ⟨L - 1, by omega⟩
  obtain ⟨d1, hd1⟩ : ∃ d1, d1 + 1 = d := ⟨d - 1, by omega⟩
  have HL1 : Hid (L1 + 1 = L) := hL1
  have HD1 : Hid (d1 + 1 = d) := hd1
  have t3 : (L : Int) - 1 = (L1 : Int) := by omega
  have t4 : (d : Int) - 1 = (d1 : Int) := by omega
  clear hL1 hd1
  obtain ⟨W2, hW2⟩ : ∃ W2, W.setCell ⟨g, 0, none⟩ (.int .i64 (L1 : Int)) = W2 := ⟨_, rfl⟩
  have HI2 : Hid (IAt W2 g L1) := (by rw [← hW2]; exact HIW.out.set _ : IAt W2 g L1)
  have HG2 : Hid (w.grownBy W2 (some g)) := (by rw [← hW2]; exact grown_tr (HXW.out.grownBy _) (grown_set1 _ _ _ _) : w.grownBy W2 (some g))
  have HP2 : Hid (PAt W2 w.heap.size ⟨vk, vcol, vn, vm, vs, vset, p, l.length, cap⟩) := (by rw [← hW2]; exact HP.out.other hgw : PAt W2 w.heap.size _)
  obtain ⟨p0, p1, p2, p3, p4, p5, p6⟩ := HP2.out.all
  simp only at p0 p1 p2 p3 p4 p5 p6
  go_wp2_with fail
  go_loopw [25, 8] (fun iv kv wr => ∃ i : Nat, i ≤ l.length ∧ iv = .int .i64 i ∧ Hid (∀ k ∈ l.take i, Pd.deep k ≤ d1) ∧ Hid (∃ M : Nat, M + ((l.take i).map Pd.size).sum = L1 ∧ IAt wr g M) ∧ Hid (w.grownBy wr (some g))) (fun iv kv wr => l.length - (intOf iv).toNat)
  case atStart => exact ⟨0, by omega, rfl, (by simp : ∀ k ∈ l.take 0, Pd.deep k ≤ d1), (⟨L1, by simp, HI2.out⟩ : ∃ M : Nat, M + ((l.take 0).map Pd.size).sum = L1 ∧ IAt _ g M), HG2⟩
  case round =>
    obtain ⟨i, hi, rfl, HA, HM, HGr⟩ := hrel
    by_cases hlt : i < l.length
    · have hti : (i : Int) < (l.length : Int) := by omega
      have hLr := Pd.Lay.far (row := some g) (fun b hb e => hb (by simpa using e.symm)) _ HLw.out HGr.out
      obtain ⟨b, off, u, hpp, hbg, hLk, e0, e1, e2, e3, e4, e5, e6⟩ := hLr.kid hlt
      simp only at hpp
      obtain ⟨k, hk⟩ : ∃ k, l[i] = k := ⟨_, rfl⟩
      rw [hk] at hLk
      have HK : Hid (k ∈ l) := (by rw [← hk]; exact List.getElem_mem hlt : k ∈ l)
      have HNX : Hid (l.take (i + 1) = l.take i ++ [k]) := (by rw [List.take_add_one, List.getElem?_eq_getElem hlt, hk]; rfl : l.take (i + 1) = l.take i ++ [k])
      obtain ⟨M, hM, hIM⟩ := HM.out
      have HMs : Hid (M + ((l.take i).map Pd.size).sum = L1) := hM
      have hMl : M ≤ 1000000 := by have := HL1.out; omega
      have hdl : d1 ≤ 1000 := by have := HD1.out; omega
      obtain ⟨w1, hw1⟩ : ∃ w1, wr.alloc (pb u) = w1 := ⟨_, rfl⟩
      have hX1 : Ex wr w1 := by rw [← hw1]; exact (Below.refl _ _).alloc (Nat.le_refl _) _
      have HG1 : Hid (w.grownBy w1 (some g)) := (grown_tr HGr.out (hX1.grownBy _) : w.grownBy w1 (some g))
      have HC : Hid (Calls Try.prog 24 #[pvv u, .int .i64 d1, .pointer (some ⟨g, 0, none⟩)] w1 fun e w' => e = .returned (.bool (Pd.fit k d1 M)) ∧ FitsR k d1 M g w1 w') := HIH.out k HK.out u d1 M g w1 (Pd.Lay.below _ hLk hX1) (hIM.below hX1) hdl hMl
      have HP1 : Hid (PAt w1 wr.heap.size u) := (by rw [← hw1]; exact PAt.new wr u : PAt w1 wr.heap.size u)
      obtain ⟨q0, q1, q2, q3, q4, q5, q6⟩ := HP1.out.all
      subst hpp
      clear hLr hLk hk hIM hM hX1 hbg
      have HFK : Hid (∃ x, Pd.fit k d1 M = x) := (⟨_, rfl⟩ : ∃ x, Pd.fit k d1 M = x)
      go_wp2_with fail
      go_at_call 24
      refine Calls.mono HC.out ?_
      rintro e w2 ⟨rfl, M2, hI2, hM2, hG2⟩
      have HG3 : Hid (w.grownBy w2 (some g)) := (grown_tr HG1.out hG2 : w.grownBy w2 (some g))
      obtain ⟨x, hx⟩ := HFK.out
      rw [hx]
      rw [hx] at hM2
      cases x with
      | true =>
        have hM3 := hM2 rfl
        have hfk : Pd.deep k ≤ d1 ∧ Pd.size k ≤ M := by unfold Pd.fit at hx; simpa using hx
        have HA2 : Hid (∀ c ∈ l.take (i + 1), Pd.deep c ≤ d1) := (by
          intro c hc
          rw [HNX.out] at hc
          rcases List.mem_append.1 hc with hc | hc
          · exact HA.out c hc
          · rw [List.mem_singleton] at hc; subst hc; exact hfk.1 : ∀ c ∈ l.take (i + 1), Pd.deep c ≤ d1)
        have HMM : Hid (∃ Q : Nat, Q + ((l.take (i + 1)).map Pd.size).sum = L1 ∧ IAt w2 g Q) := (⟨M2, by
          have h1 := HMs.out
          rw [HNX.out, List.map_append, List.sum_append]
          simp only [List.map_cons, List.map_nil, List.sum_cons, List.sum_nil]
          omega, hI2⟩ : ∃ Q : Nat, Q + ((l.take (i + 1)).map Pd.size).sum = L1 ∧ IAt w2 g Q)
        clear hI2 hM2 hG2 hx hM3 hfk HC
        go_wp2_with fail
        go_roundw
        case rel => exact ⟨i + 1, by omega, by go_num, HA2, HMM, HG3⟩
        case measure => simp [intOf]; omega
      | false =>
        have HFF : Hid (o = false) := (by
          cases o with
          | false => rfl
          | true =>
            exfalso
            obtain ⟨h1, h2, h3⟩ := HFM.out.1 rfl
            have h4 := h2 k HK.out
            have h5 := Pd.sum_take l (i + 1)
            have h6 := HMs.out
            have h7 := HL1.out
            have h8 := HD1.out
            rw [HNX.out, List.map_append, List.sum_append] at h5
            simp only [List.map_cons, List.map_nil, List.sum_cons, List.sum_nil] at h5
            unfold Pd.fit at hx
            simp at hx
            omega : o = false)
        have HI9 : Hid (IAt w2 g M2) := hI2
        clear hI2 hM2 hG2 hx HC
        go_wp2_with fail
        go_ret
        exact ⟨by rw [HFF.out]; rfl, M2, HI9.out, by rw [HO.out, HFF.out]; simp, HG3.out⟩
    · have hti : ¬ (i : Int) < (l.length : Int) := by omega
      obtain ⟨M, hM, hIM⟩ := HM.out
      have hil : l.take i = l := List.take_of_length_le (by omega)
      have HFT : Hid (o = true ∧ M = L - Pd.size (Pr.mk' h l)) := (by
        have h1 := HA.out
        have h7 := HL1.out
        have h8 := HD1.out
        rw [hil] at h1 hM
        refine ⟨HFM.out.2 ⟨⟨by omega, by omega⟩, fun k hk => ?_, by omega⟩, ?_⟩
        · have := h1 k hk; omega
        · rw [Pd.size_mk]; omega : o = true ∧ M = L - Pd.size (Pr.mk' h l))
      have HI9 : Hid (IAt wr g M) := hIM
      clear hM hIM hil
      go_wp2_with fail
      go_ret
      exact ⟨by rw [HFT.out.1]; rfl, M, HI9.out, fun _ => HFT.out.2, HGr.out⟩
set_option maxHeartbeats 1000000 in
set_option maxRecDepth 100000 in
/-- Size. -/
def Pd.sizeB (p : Pr) : Nat := if Pd.fit p 50 5000 = true then Pd.size p else 0
theorem size_is (p : Pr) (v : PV) (w : World) (h : Pd.Lay (fun _ => True) p w v) : Calls Try.prog 41 #[pvv v] w fun e w' => e = .returned (.int .i64 (Pd.sizeB p : Int)) ∧ Ex w w' := by
  obtain ⟨vk, vcol, vn, vm, vs, vset, vkids⟩ := v
  obtain ⟨W, hW⟩ : ∃ W, (w.alloc (pb ⟨vk, vcol, vn, vm, vs, vset, vkids⟩)).alloc (.cells #[.int .i64 5000] 3) = W := ⟨_, rfl⟩
  have hX1 : Ex w (w.alloc (pb ⟨vk, vcol, vn, vm, vs, vset, vkids⟩)) := (Below.refl _ _).alloc (Nat.le_refl _) _
  have hXW : Ex w W := by rw [← hW]; exact Below.alloc hX1 (by simp) _
  have hsz : (w.alloc (pb ⟨vk, vcol, vn, vm, vs, vset, vkids⟩)).heap.size = w.heap.size + 1 := by simp
  have HIW : Hid (IAt W (w.heap.size + 1) 5000) := (by rw [← hW, ← hsz]; exact IAt.new _ _ : IAt W (w.heap.size + 1) 5000)
  have HXW : Hid (Ex w W) := hXW
  have HP : Hid (PAt W w.heap.size ⟨vk, vcol, vn, vm, vs, vset, vkids⟩) := (by rw [← hW]; exact (PAt.new w _).alloc _ : PAt W w.heap.size _)
  have HC : Hid (Calls Try.prog 24 #[pvv ⟨vk, vcol, vn, vm, vs, vset, vkids⟩, .int .i64 (50 : Nat), .pointer (some ⟨w.heap.size + 1, 0, none⟩)] W fun e w' => e = .returned (.bool (Pd.fit p 50 5000)) ∧ FitsR p 50 5000 (w.heap.size + 1) W w') :=
    fits_is p _ 50 5000 (w.heap.size + 1) W (Pd.Lay.mono (fun b hb => by have := hb.2; omega) _ (Pd.Lay.below _ h.lt hXW)) HIW.out (by omega) (by omega)
  obtain ⟨p0, p1, p2, p3, p4, p5, p6⟩ := HP.out.all
  have i0 := HIW.out.cell
  have i1 := HIW.out.frozen
  obtain ⟨x, hx⟩ : ∃ x, Pd.fit p 50 5000 = x := ⟨_, rfl⟩
  have HFX : Hid (Pd.fit p 50 5000 = x) := hx
  clear h hX1 hXW hsz hx
  unfold pvv
  simp only [sv]
  go_enter Try.func41, Try.ntmps41
  go_wp2_with fail
  go_at_call 24
  refine Calls.mono HC.out ?_
  rintro e w2 ⟨rfl, M, hIM, hM, hG⟩
  rw [HFX.out] at hM ⊢
  have HX2 : Hid (Ex w w2) := (Below.grown HXW.out hG HXW.out.size (fun k hk => by simp at hk; omega) : Ex w w2)
  cases x with
  | false =>
    have HS : Hid (Pd.sizeB p = 0) := (by unfold Pd.sizeB; rw [HFX.out]; rfl : Pd.sizeB p = 0)
    clear hIM hM hG HC
    go_wp2_with fail
    go_ret
    exact ⟨by rw [HS.out]; rfl, HX2.out⟩
  | true =>
    have hs : Pd.size p ≤ 5000 := by have := HFX.out; unfold Pd.fit at this; simp at this; exact this.2
    have HS : Hid (Pd.sizeB p = Pd.size p) := (by unfold Pd.sizeB; rw [HFX.out]; rfl : Pd.sizeB p = Pd.size p)
    have hMm := hM rfl
    obtain ⟨S, hS⟩ : ∃ S, Pd.size p = S := ⟨_, rfl⟩
    have HS2 : Hid (Pd.size p = S) := hS
    have t9 : (5000 : Int) - (M : Int) = (S : Int) := by omega
    have hM5 : (M : Int) ≤ 5000 := by omega
    have i9 := hIM.cell
    clear hIM hM hG HC hs hMm hS i0 i1
    go_wp2_with fail
    go_ret
    exact ⟨by rw [HS.out, HS2.out]; rfl, HX2.out⟩
theorem size_of {p : Pr} : decide (0 < Pd.sizeB p) = Pd.fit p 50 5000 := by
  unfold Pd.sizeB
  have := Pd.size_pos p
  cases Pd.fit p 50 5000 with
  | true => simp; omega
  | false => simp
set_option maxHeartbeats 1000000 in
set_option maxRecDepth 100000 in
theorem bounded_is (p : Pr) (v : PV) (w : World) (h : Pd.Lay (fun _ => True) p w v) (o : Bool) (ho : Pd.fit p 50 5000 = o) : Calls Try.prog 28 #[pvv v] w fun e w' => e = .returned (.bool o) ∧ Ex w w' := by
  obtain ⟨vk, vcol, vn, vm, vs, vset, vkids⟩ := v
  obtain ⟨W, hW⟩ : ∃ W, w.alloc (pb ⟨vk, vcol, vn, vm, vs, vset, vkids⟩) = W := ⟨_, rfl⟩
  have hXW : Ex w W := by rw [← hW]; exact (Below.refl _ _).alloc (Nat.le_refl _) _
  have HXW : Hid (Ex w W) := hXW
  have HP : Hid (PAt W w.heap.size ⟨vk, vcol, vn, vm, vs, vset, vkids⟩) := (by rw [← hW]; exact PAt.new w _ : PAt W w.heap.size _)
  have HC : Hid (Calls Try.prog 41 #[pvv ⟨vk, vcol, vn, vm, vs, vset, vkids⟩] W fun e w' => e = .returned (.int .i64 (Pd.sizeB p : Int)) ∧ Ex W w') := size_is p _ W (Pd.Lay.below _ h hXW)
  obtain ⟨p0, p1, p2, p3, p4, p5, p6⟩ := HP.out.all
  obtain ⟨S, hS⟩ : ∃ S, Pd.sizeB p = S := ⟨_, rfl⟩
  have hd : decide (0 < S) = o := by rw [← hS, size_of, ho]
  have hd2 : decide ((0 : Int) < (S : Int)) = o := by rw [← hd]; congr 1; exact propext (by omega)
  rw [hS] at HC
  clear h hXW ho hS
  unfold pvv
  simp only [sv]
  go_enter Try.func28, Try.ntmps28
  go_wp2_with fail
  go_at_call 41
  refine Calls.mono HC.out ?_
  rintro e w2 ⟨rfl, hx⟩
  have HX2 : Hid (Ex w w2) := (HXW.out.trans hx : Ex w w2)
  clear hx HC
  go_wp2_with fail
  go_ret
  exact ⟨rfl, HX2.out⟩
end Go.Proofs.Ytbdjccmlgdfapaa
