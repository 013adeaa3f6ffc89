/-
  The statements' own flat: is a predicate normal, beneath a part of a kind?
-/
import Derived.Test.YtbdjccmlgdfapaaPask
namespace Go.Proofs.Ytbdjccmlgdfapaa
open Go.RowKit
set_option linter.unusedVariables false
set_option linter.unusedSimpArgs false
theorem nots_one (x : Pr) : Pd.nots [x] = decide (3 < x.h.k) := rfl
theorem nots_more {l : List Pr} (h : l.length ≠ 1) : Pd.nots l = false := by
  match l, h with
  | [], _ => rfl
  | [x], h => simp at h
  | x :: y :: t, _ => rfl
set_option maxHeartbeats 8000000 in
set_option maxRecDepth 100000 in
theorem flat_is : ∀ (p : Pr) (v : PV) (a : Int) (w : World) (o : Bool), Pd.Lay (fun _ => True) p w v → Pd.flat p a = o →
    Calls Try.prog 12 #[pvv v, .int .i64 a] w fun e w' => e = .returned (.bool o) ∧ Ex w w' := by
  refine Pd.tree ?_
  intro h l ih v a w o hL ho
  rw [Pd.flat_mk] at ho
  obtain ⟨hHd, hkn, hkB, hkc, hkm, hk0⟩ := hL.head
  obtain ⟨vk, vcol, vn, vm, vs, vset, ⟨p, n, cap⟩⟩ := v
  simp only at hkn hkB hkc hkm hk0
  subst hkn
  have hvk : vk = h.k := hHd.1.1
  rw [← hvk] at ho
  have HIH : Hid (∀ k ∈ l, ∀ (v : PV) (a : Int) (w : World) (o : Bool), Pd.Lay (fun _ => True) k w v → Pd.flat k a = o → Calls Try.prog 12 #[pvv v, .int .i64 a] w fun e w' => e = .returned (.bool o) ∧ Ex w w') := ih
  obtain ⟨W, hW⟩ : ∃ W, w.alloc (pb ⟨vk, vcol, vn, vm, vs, vset, p, l.length, cap⟩) = W := ⟨_, rfl⟩
  have hXW : Ex w W := by rw [← hW]; exact (Below.refl _ _).alloc (Nat.le_refl _) _
  have HXW : Hid (Ex w W) := hXW
  have HP : Hid (PAt W w.heap.size ⟨vk, vcol, vn, vm, vs, vset, p, l.length, cap⟩) := (by rw [← hW]; exact PAt.new w _ : PAt W w.heap.size _)
  have HLW : Hid (Pd.Lay (fun _ => True) (Pr.mk' h l) W ⟨vk, vcol, vn, vm, vs, vset, p, l.length, cap⟩) := (Pd.Lay.below _ hL hXW : Pd.Lay _ _ W _)
  obtain ⟨p0, p1, p2, p3, p4, p5, p6⟩ := HP.out.all
  simp only at p0 p1 p2 p3 p4 p5 p6
  unfold maxLen at hkm
  by_cases h3 : vk = 3
  · subst h3
    rw [if_pos rfl] at ho
    by_cases h1 : l.length = 1
    · obtain ⟨x, rfl⟩ := Pd.one_of h1
      obtain ⟨bb, off, u, hpp, hbg, hLk, e0, e1, e2, e3, e4, e5, e6⟩ := HLW.out.kid (i := 0) (by simp)
      simp only [List.getElem_cons_zero] at hLk
      simp only [Nat.zero_mul, Nat.add_zero] at e0
      simp only at hpp
      have hux : u.k = x.h.k := by
        rw [← Pd.mk_ks x] at hLk
        exact hLk.head.1.1.1
      rw [nots_one, ← hux] at ho
      have ho2 : decide ((3 : Int) < u.k) = o := ho
      subst hpp
      simp only [List.length_cons, List.length_nil] at *
      clear hL hHd hkB ih hXW hvk hLk hbg e1 e2 e3 e4 e5 e6 hux HIH HLW
      unfold pvv
      simp only [sv]
      go_enter Try.func12, Try.ntmps12
      go_wp2_with fail
      go_ret
      exact ⟨by first | rfl | (rw [← ho2]; rfl), HXW.out⟩
    · rw [nots_more h1] at ho
      subst ho
      have t1 : ((l.length : Int) == 1) = false := beq_eq_false_iff_ne.2 (by omega)
      clear hL hHd hkB ih hXW hvk HIH HLW h1
      unfold pvv
      simp only [sv]
      go_enter Try.func12, Try.ntmps12
      go_wp2_with fail
      go_ret
      exact ⟨rfl, HXW.out⟩
  rw [if_neg h3] at ho
  have t3 : (vk == 3) = false := beq_eq_false_iff_ne.2 h3
  by_cases h12 : vk = 1 ∨ vk = 2
  · rw [if_pos h12] at ho
    have HO : Hid ((decide (vk ≠ a) && decide (l.length ≠ 1) && l.all (fun x => Pd.flat x vk)) = o) := ho
    have HV : Hid (vk = 1 ∨ vk = 2) := h12
    clear hL hHd hkB ih hXW hvk ho h3 h12
    unfold pvv
    simp only [sv]
    rcases HV.out with rfl | rfl
    · go_enter Try.func12, Try.ntmps12
      by_cases ha : a = 1
      · have ta : ((1 : Int) == a) = true := by simp [ha]
        have HF : Hid (o = false) := (by rw [← HO.out]; simp [ha] : o = false)
        clear ha
        go_wp2_with fail
        go_ret
        exact ⟨by rw [HF.out]; rfl, HXW.out⟩
      have ta : ((1 : Int) == a) = false := beq_eq_false_iff_ne.2 (fun e => ha e.symm)
      have HNA : Hid (decide ((1 : Int) ≠ a) = true) := (decide_eq_true (fun e => ha e.symm) : decide ((1 : Int) ≠ a) = true)
      by_cases h1 : l.length = 1
      · have t1 : ((l.length : Int) == 1) = true := beq_iff_eq.2 (by omega)
        have HF : Hid (o = false) := (by rw [← HO.out]; simp [h1] : o = false)
        clear ha h1
        go_wp2_with fail
        go_ret
        exact ⟨by rw [HF.out]; rfl, HXW.out⟩
      have t1 : ((l.length : Int) == 1) = false := beq_eq_false_iff_ne.2 (by omega)
      have HO2 : Hid (l.all (fun x => Pd.flat x 1) = o) := (by have h := HO.out; rw [HNA.out, decide_eq_true h1, Bool.true_and, Bool.true_and] at h; exact h : l.all (fun x => Pd.flat x 1) = o)
      clear ha h1 HO
      go_wp2_with fail
      clear p0 p1 p2 p3 p4 p5 p6
      go_loopw [5] (fun iv wr => ∃ i : Nat, i ≤ l.length ∧ iv = .int .i64 i ∧ Hid (∀ k ∈ l.take i, Pd.flat k 1 = true) ∧ Hid (Ex W wr)) (fun iv wr => l.length - (intOf iv).toNat)
      case atStart => exact ⟨0, by omega, rfl, (by simp : ∀ k ∈ l.take 0, Pd.flat k 1 = true), Ex.refl W⟩
      case round =>
        obtain ⟨i, hi, rfl, HA, HXr⟩ := hrel
        have hPr := HP.out.below HXr.out
        have c6 := hPr.all.2.2.2.2.2.2
        simp only at c6
        have HPR : Hid (PAt wr w.heap.size ⟨1, vcol, vn, vm, vs, vset, p, l.length, cap⟩) := hPr
        by_cases hlt : i < l.length
        · have hti : (i : Int) < (l.length : Int) := by omega
          obtain ⟨b, off, u, hpp, hbg, hLk, e0, e1, e2, e3, e4, e5, e6⟩ := (Pd.Lay.below _ HLW.out HXr.out).kid hlt
          simp only at hpp
          obtain ⟨k, hk⟩ : ∃ k, l[i] = k := ⟨_, rfl⟩
          rw [hk] at hLk
          have HK : Hid (k ∈ l) := (by rw [← hk]; exact List.getElem_mem hlt : k ∈ l)
          have HNX : Hid (l.take (i + 1) = l.take i ++ [k]) := (by rw [List.take_add_one, List.getElem?_eq_getElem hlt, hk]; rfl : l.take (i + 1) = l.take i ++ [k])
          have HLK : Hid (Pd.Lay (fun _ => True) k wr u) := hLk
          have HE : Hid (wr.cell? ⟨b, off + i * 7, none⟩ = some (.int .i64 u.k) ∧ wr.cell? ⟨b, off + i * 7 + 1, none⟩ = some (.string (str u.col)) ∧ wr.cell? ⟨b, off + i * 7 + 2, none⟩ = some (.int .i64 u.n) ∧ wr.cell? ⟨b, off + i * 7 + 3, none⟩ = some (.int .i64 u.m) ∧ wr.cell? ⟨b, off + i * 7 + 4, none⟩ = some (.string (str u.s)) ∧ wr.cell? ⟨b, off + i * 7 + 5, none⟩ = some (sv u.set) ∧ wr.cell? ⟨b, off + i * 7 + 6, none⟩ = some (sv u.kids)) := ⟨e0, e1, e2, e3, e4, e5, e6⟩
          obtain ⟨x, hx⟩ : ∃ x, Pd.flat k 1 = x := ⟨_, rfl⟩
          have HFX : Hid (Pd.flat k 1 = x) := hx
          subst hpp
          clear hk hLk hbg hx e0 e1 e2 e3 e4 e5 e6 hPr
          go_wp2_with fail
          have hre := Ex.refl
          refine Rg.wp_rows [.inl (Value.pointer (some ⟨w.heap.size, 6, none⟩)), .inl (Value.slice (some ⟨b, off, none⟩) l.length cap), .inl (.int .i64 i), .inl (Value.pointer (some ⟨b, off + i * 7, none⟩)), .inl (pvv u), .inl (Value.pointer (some ⟨w.heap.size, 0, none⟩)), .inl (.int .i64 1), .inl (.bool x), .inl (.bool !x)] (Ex wr) Ex 51 (by kernel_rfl) rfl (by kernel_rfl) ?st hre (Ex.drew _) ?goods ?fin
          case st => exact trivial
          case goods =>
            refine Rg.goods_cons (Rg.good_field hre rfl rfl rfl (fun wx hC => by go_simp)) ?_
            refine Rg.goods_cons (Rg.good_load hre rfl rfl rfl (fun wx hC => by have hz := (HPR.out.below hC).all.2.2.2.2.2.2; go_simp)) ?_
            refine Rg.goods_cons (Rg.good_move hre rfl rfl rfl) ?_
            refine Rg.goods_cons (Rg.good_index hre rfl rfl rfl rfl (fun wx hC => by go_simp)) ?_
            refine Rg.goods_cons (Rg.good_load hre rfl rfl rfl (fun wx hC => by obtain ⟨e0, e1, e2, e3, e4, e5, e6⟩ := HE.out; exact loadI_pred (cell_ex e0 hC) (cell_ex e1 hC) (cell_ex e2 hC) (cell_ex e3 hC) (cell_ex e4 hC) (cell_ex e5 hC) (cell_ex e6 hC))) ?_
            refine Rg.goods_cons (Rg.good_field hre rfl rfl rfl (fun wx hC => by go_simp)) ?_
            refine Rg.goods_cons (Rg.good_load hre rfl rfl rfl (fun wx hC => by have hz := (HPR.out.below hC).all.1; go_simp)) ?_
            refine Rg.goods_cons (Rg.good_call2 Try.func12 (by kernel_rfl) rfl rfl rfl (by rintro v0 v1 wx hC rfl rfl; exact ex_rowP (HIH.out k HK.out u 1 wx x (Pd.Lay.below _ HLK.out hC) HFX.out) hC)) ?_
            refine Rg.goods_cons (Rg.good_un hre rfl rfl rfl (fun w => by go_simp)) ?_
            exact Rg.goods_nil
          case fin =>
            intro wx hx
            simp only [Rg.later, Act.put, List.setIfInBounds_toArray, List.set_cons_succ, List.set_cons_zero]
            have HX9 : Hid (Ex W wx) := (HXr.out.trans hx : Ex W wx)
            clear hx c6
            cases x with
            | true =>
              have HA2 : Hid (∀ c ∈ l.take (i + 1), Pd.flat c 1 = true) := (by
                intro c hc
                rw [HNX.out] at hc
                rcases List.mem_append.1 hc with hc | hc
                · exact HA.out c hc
                · rw [List.mem_singleton] at hc; subst hc; exact HFX.out : ∀ c ∈ l.take (i + 1), Pd.flat c 1 = true)
              go_wp2_with fail
              go_roundw
              case rel => exact ⟨i + 1, by omega, by go_num, HA2, HX9⟩
              case measure => simp [intOf]; omega
            | false =>
              have HF : Hid (o = false) := (by rw [← HO2.out, List.all_eq_false]; exact ⟨k, HK.out, by rw [HFX.out]; simp⟩ : o = false)
              go_wp2_with fail
              go_ret
              exact ⟨by rw [HF.out]; rfl, HXW.out.trans HX9.out⟩
        · have hti : ¬ (i : Int) < (l.length : Int) := by omega
          have HF : Hid (o = true) := (by
            rw [← HO2.out, List.all_eq_true]
            have h := HA.out
            rwa [List.take_of_length_le (by omega)] at h : o = true)
          go_wp2_with fail
          go_ret
          exact ⟨by rw [HF.out]; rfl, HXW.out.trans HXr.out⟩
    · go_enter Try.func12, Try.ntmps12
      by_cases ha : a = 2
      · have ta : ((2 : Int) == a) = true := by simp [ha]
        have HF : Hid (o = false) := (by rw [← HO.out]; simp [ha] : o = false)
        clear ha
        go_wp2_with fail
        go_ret
        exact ⟨by rw [HF.out]; rfl, HXW.out⟩
      have ta : ((2 : Int) == a) = false := beq_eq_false_iff_ne.2 (fun e => ha e.symm)
      have HNA : Hid (decide ((2 : Int) ≠ a) = true) := (decide_eq_true (fun e => ha e.symm) : decide ((2 : Int) ≠ a) = true)
      by_cases h1 : l.length = 1
      · have t1 : ((l.length : Int) == 1) = true := beq_iff_eq.2 (by omega)
        have HF : Hid (o = false) := (by rw [← HO.out]; simp [h1] : o = false)
        clear ha h1
        go_wp2_with fail
        go_ret
        exact ⟨by rw [HF.out]; rfl, HXW.out⟩
      have t1 : ((l.length : Int) == 1) = false := beq_eq_false_iff_ne.2 (by omega)
      have HO2 : Hid (l.all (fun x => Pd.flat x 2) = o) := (by have h := HO.out; rw [HNA.out, decide_eq_true h1, Bool.true_and, Bool.true_and] at h; exact h : l.all (fun x => Pd.flat x 2) = o)
      clear ha h1 HO
      go_wp2_with fail
      clear p0 p1 p2 p3 p4 p5 p6
      go_loopw [5] (fun iv wr => ∃ i : Nat, i ≤ l.length ∧ iv = .int .i64 i ∧ Hid (∀ k ∈ l.take i, Pd.flat k 2 = true) ∧ Hid (Ex W wr)) (fun iv wr => l.length - (intOf iv).toNat)
      case atStart => exact ⟨0, by omega, rfl, (by simp : ∀ k ∈ l.take 0, Pd.flat k 2 = true), Ex.refl W⟩
      case round =>
        obtain ⟨i, hi, rfl, HA, HXr⟩ := hrel
        have hPr := HP.out.below HXr.out
        have c6 := hPr.all.2.2.2.2.2.2
        simp only at c6
        have HPR : Hid (PAt wr w.heap.size ⟨2, vcol, vn, vm, vs, vset, p, l.length, cap⟩) := hPr
        by_cases hlt : i < l.length
        · have hti : (i : Int) < (l.length : Int) := by omega
          obtain ⟨b, off, u, hpp, hbg, hLk, e0, e1, e2, e3, e4, e5, e6⟩ := (Pd.Lay.below _ HLW.out HXr.out).kid hlt
          simp only at hpp
          obtain ⟨k, hk⟩ : ∃ k, l[i] = k := ⟨_, rfl⟩
          rw [hk] at hLk
          have HK : Hid (k ∈ l) := (by rw [← hk]; exact List.getElem_mem hlt : k ∈ l)
          have HNX : Hid (l.take (i + 1) = l.take i ++ [k]) := (by rw [List.take_add_one, List.getElem?_eq_getElem hlt, hk]; rfl : l.take (i + 1) = l.take i ++ [k])
          have HLK : Hid (Pd.Lay (fun _ => True) k wr u) := hLk
          have HE : Hid (wr.cell? ⟨b, off + i * 7, none⟩ = some (.int .i64 u.k) ∧ wr.cell? ⟨b, off + i * 7 + 1, none⟩ = some (.string (str u.col)) ∧ wr.cell? ⟨b, off + i * 7 + 2, none⟩ = some (.int .i64 u.n) ∧ wr.cell? ⟨b, off + i * 7 + 3, none⟩ = some (.int .i64 u.m) ∧ wr.cell? ⟨b, off + i * 7 + 4, none⟩ = some (.string (str u.s)) ∧ wr.cell? ⟨b, off + i * 7 + 5, none⟩ = some (sv u.set) ∧ wr.cell? ⟨b, off + i * 7 + 6, none⟩ = some (sv u.kids)) := ⟨e0, e1, e2, e3, e4, e5, e6⟩
          obtain ⟨x, hx⟩ : ∃ x, Pd.flat k 2 = x := ⟨_, rfl⟩
          have HFX : Hid (Pd.flat k 2 = x) := hx
          subst hpp
          clear hk hLk hbg hx e0 e1 e2 e3 e4 e5 e6 hPr
          go_wp2_with fail
          have hre := Ex.refl
          refine Rg.wp_rows [.inl (Value.pointer (some ⟨w.heap.size, 6, none⟩)), .inl (Value.slice (some ⟨b, off, none⟩) l.length cap), .inl (.int .i64 i), .inl (Value.pointer (some ⟨b, off + i * 7, none⟩)), .inl (pvv u), .inl (Value.pointer (some ⟨w.heap.size, 0, none⟩)), .inl (.int .i64 2), .inl (.bool x), .inl (.bool !x)] (Ex wr) Ex 51 (by kernel_rfl) rfl (by kernel_rfl) ?st hre (Ex.drew _) ?goods ?fin
          case st => exact trivial
          case goods =>
            refine Rg.goods_cons (Rg.good_field hre rfl rfl rfl (fun wx hC => by go_simp)) ?_
            refine Rg.goods_cons (Rg.good_load hre rfl rfl rfl (fun wx hC => by have hz := (HPR.out.below hC).all.2.2.2.2.2.2; go_simp)) ?_
            refine Rg.goods_cons (Rg.good_move hre rfl rfl rfl) ?_
            refine Rg.goods_cons (Rg.good_index hre rfl rfl rfl rfl (fun wx hC => by go_simp)) ?_
            refine Rg.goods_cons (Rg.good_load hre rfl rfl rfl (fun wx hC => by obtain ⟨e0, e1, e2, e3, e4, e5, e6⟩ := HE.out; exact loadI_pred (cell_ex e0 hC) (cell_ex e1 hC) (cell_ex e2 hC) (cell_ex e3 hC) (cell_ex e4 hC) (cell_ex e5 hC) (cell_ex e6 hC))) ?_
            refine Rg.goods_cons (Rg.good_field hre rfl rfl rfl (fun wx hC => by go_simp)) ?_
            refine Rg.goods_cons (Rg.good_load hre rfl rfl rfl (fun wx hC => by have hz := (HPR.out.below hC).all.1; go_simp)) ?_
            refine Rg.goods_cons (Rg.good_call2 Try.func12 (by kernel_rfl) rfl rfl rfl (by rintro v0 v1 wx hC rfl rfl; exact ex_rowP (HIH.out k HK.out u 2 wx x (Pd.Lay.below _ HLK.out hC) HFX.out) hC)) ?_
            refine Rg.goods_cons (Rg.good_un hre rfl rfl rfl (fun w => by go_simp)) ?_
            exact Rg.goods_nil
          case fin =>
            intro wx hx
            simp only [Rg.later, Act.put, List.setIfInBounds_toArray, List.set_cons_succ, List.set_cons_zero]
            have HX9 : Hid (Ex W wx) := (HXr.out.trans hx : Ex W wx)
            clear hx c6
            cases x with
            | true =>
              have HA2 : Hid (∀ c ∈ l.take (i + 1), Pd.flat c 2 = true) := (by
                intro c hc
                rw [HNX.out] at hc
                rcases List.mem_append.1 hc with hc | hc
                · exact HA.out c hc
                · rw [List.mem_singleton] at hc; subst hc; exact HFX.out : ∀ c ∈ l.take (i + 1), Pd.flat c 2 = true)
              go_wp2_with fail
              go_roundw
              case rel => exact ⟨i + 1, by omega, by go_num, HA2, HX9⟩
              case measure => simp [intOf]; omega
            | false =>
              have HF : Hid (o = false) := (by rw [← HO2.out, List.all_eq_false]; exact ⟨k, HK.out, by rw [HFX.out]; simp⟩ : o = false)
              go_wp2_with fail
              go_ret
              exact ⟨by rw [HF.out]; rfl, HXW.out.trans HX9.out⟩
        · have hti : ¬ (i : Int) < (l.length : Int) := by omega
          have HF : Hid (o = true) := (by
            rw [← HO2.out, List.all_eq_true]
            have h := HA.out
            rwa [List.take_of_length_le (by omega)] at h : o = true)
          go_wp2_with fail
          go_ret
          exact ⟨by rw [HF.out]; rfl, HXW.out.trans HXr.out⟩
  · rw [if_neg h12] at ho
    subst ho
    have t1 : (vk == 1) = false := beq_eq_false_iff_ne.2 (by omega)
    have t2 : (vk == 2) = false := beq_eq_false_iff_ne.2 (by omega)
    clear hL hHd hkB ih hXW hvk HIH HLW h3 h12
    unfold pvv
    simp only [sv]
    go_enter Try.func12, Try.ntmps12
    go_wp2_with fail
    go_ret
    exact ⟨rfl, HXW.out⟩
end Go.Proofs.Ytbdjccmlgdfapaa
