/-
  The books' own Rows: the same rows?
-/
import Derived.Test.YtghnbohplonhoaaKrows
namespace Go.Proofs.Ytghnbohplonhoaa
open Go.RowKit
set_option linter.unusedVariables false
set_option linter.unusedSimpArgs false
set_option maxHeartbeats 800000 in
set_option maxRecDepth 100000 in
theorem krows_is (a : Option Addr) (n cap : Nat) (l : List Rw) (a' : Option Addr) (n' cap' : Nat) (m : List Rw) (w : World) (hn : n = l.length) (hn' : n' = m.length) (hB : RdR w a cap l) (hB' : RdR w a' cap' m) (r : Bool) (hr : r = true ↔ l = m) :
    Calls Try.prog 27 #[.slice a n cap, .slice a' n' cap'] w fun e w' => e = .returned (.bool r) ∧ Ex w w' := by
  subst hn
  subst hn'
  have HB : Hid (RdR w a cap l) := hB
  have HB' : Hid (RdR w a' cap' m) := hB'
  have HR : Hid (r = true ↔ l = m) := hr
  obtain ⟨h1, h2, _⟩ := hB.bounds
  obtain ⟨h3, h4, _⟩ := hB'.bounds
  unfold maxLen at h2 h4
  clear hB hB' hr
  go_enter Try.func27, Try.ntmps27
  by_cases hlm : l.length = m.length
  · have tl : ((l.length : Int) != (m.length : Int)) = false := by simp; omega
    go_wp2_with fail
    go_loopw [5] (fun iv wr => ∃ i : Nat, i ≤ l.length ∧ iv = .int .i64 i ∧ Hid (l.take i = m.take i) ∧ Hid (Ex w wr)) (fun iv wr => l.length - (intOf iv).toNat)
    case atStart => exact ⟨0, by omega, rfl, (by simp : l.take 0 = m.take 0), Ex.refl w⟩
    case round =>
      obtain ⟨i, hi, rfl, HT, HX⟩ := hrel
      by_cases hlt : i < l.length
      · have hti : (i : Int) < (l.length : Int) := by omega
        have hlt' : i < m.length := by omega
        obtain ⟨b, off, p1, c1, rfl, e0, e1, e2, e3⟩ := (HB.out.below HX.out).at hlt
        obtain ⟨b', off', p2, c2, rfl, d0, d1, d2, d3⟩ := (HB'.out.below HX.out).at hlt'
        obtain ⟨x, hx⟩ : ∃ x, l[i] = x := ⟨_, rfl⟩
        obtain ⟨y, hy⟩ : ∃ y, m[i] = y := ⟨_, rfl⟩
        rw [hx] at e0 e1 e2 e3
        rw [hy] at d0 d1 d2 d3
        have hnx : l.take (i + 1) = l.take i ++ [x] := by rw [List.take_add_one, List.getElem?_eq_getElem hlt, hx]; rfl
        have hny : m.take (i + 1) = m.take i ++ [y] := by rw [List.take_add_one, List.getElem?_eq_getElem hlt', hy]; rfl
        have HNX : Hid (l.take (i + 1) = l.take i ++ [x]) := hnx
        have HNY : Hid (m.take (i + 1) = m.take i ++ [y]) := hny
        obtain ⟨q, hq⟩ : ∃ q : Bool, q = true ↔ x = y := by
          by_cases h : x = y
          · exact ⟨true, by simp [h]⟩
          · exact ⟨false, by simp [h]⟩
        have HQ : Hid (q = true ↔ x = y) := hq
        have E0 : Hid (_ = _) := e0
        have E1 : Hid (_ = _) := e1
        have E2 : Hid (_ = _) := e2
        have E3 : Hid (RdC wr p1 c1 x.c) := e3
        have D0 : Hid (_ = _) := d0
        have D1 : Hid (_ = _) := d1
        have D2 : Hid (_ = _) := d2
        have D3 : Hid (RdC wr p2 c2 y.c) := d3
        clear hx hy hnx hny hq e0 e1 e2 e3 d0 d1 d2 d3
        go_wp2_with fail
        have hre := Ex.refl
        refine Rg.wp_rows [.inl (Value.slice (some ⟨b, off, none⟩) l.length cap), .inl (Value.int .i64 i), .inl (Value.pointer (some ⟨b, off + i * 3, none⟩)), .inl (rvv ⟨x.t, x.q, p1, x.c.length, c1⟩), .inl (Value.slice (some ⟨b', off', none⟩) m.length cap'), .inl (Value.int .i64 i), .inl (Value.pointer (some ⟨b', off' + i * 3, none⟩)), .inl (rvv ⟨y.t, y.q, p2, y.c.length, c2⟩), .inl (.bool q), .inl (.bool (!q))] (Ex wr) Ex 27 (by kernel_rfl) rfl (by kernel_rfl) ?st hre (Ex.drew _) ?goods ?fin
        case st => exact trivial
        case goods =>
          refine Rg.goods_cons (Rg.good_move hre rfl rfl rfl) ?_
          refine Rg.goods_cons (Rg.good_move hre rfl rfl rfl) ?_
          refine Rg.goods_cons (Rg.good_index hre rfl rfl rfl rfl (fun wx hC => by go_simp)) ?_
          refine Rg.goods_cons (Rg.good_load hre rfl rfl rfl (fun wx hC => loadI_row (cell_ex E0.out hC) (cell_ex E1.out hC) (cell_ex E2.out hC))) ?_
          refine Rg.goods_cons (Rg.good_move hre rfl rfl rfl) ?_
          refine Rg.goods_cons (Rg.good_move hre rfl rfl rfl) ?_
          refine Rg.goods_cons (Rg.good_index hre rfl rfl rfl rfl (fun wx hC => by go_simp)) ?_
          refine Rg.goods_cons (Rg.good_load hre rfl rfl rfl (fun wx hC => loadI_row (cell_ex D0.out hC) (cell_ex D1.out hC) (cell_ex D2.out hC))) ?_
          refine Rg.goods_cons (Rg.good_call2 Try.func18 (by kernel_rfl) rfl rfl rfl (by rintro u u2 wx hC rfl rfl; exact ex_row (krow_is x y p1 c1 p2 c2 wx (E3.out.below hC) (D3.out.below hC) q HQ.out) hC)) ?_
          refine Rg.goods_cons (Rg.good_un hre rfl rfl rfl (fun w => by go_simp)) ?_
          exact Rg.goods_nil
        case fin =>
          intro wx hx
          simp only [Rg.later, Act.put, List.setIfInBounds_toArray, List.set_cons_succ, List.set_cons_zero]
          have HXx : Hid (Ex w wx) := HX.out.trans hx
          clear hx
          cases q with
          | false =>
            go_wp2_with fail
            go_ret
            refine ⟨?_, HXx.out⟩
            have hne : ¬ x = y := fun h => by have := HQ.out.2 h; simp at this
            have hr : r = false := by
              cases r with
              | false => rfl
              | true =>
                have he := HR.out.1 rfl
                have h5 := HNX.out
                have h6 := HNY.out
                rw [he] at h5
                rw [h5, ← he, HT.out] at h6
                exact absurd (List.singleton_inj.1 (List.append_cancel_left h6)) hne
            rw [hr]; rfl
          | true =>
            have he : x = y := HQ.out.1 (by simp)
            have HT2 : Hid (l.take (i + 1) = m.take (i + 1)) := (by rw [HNX.out, HNY.out, HT.out, he] : l.take (i + 1) = m.take (i + 1))
            clear he
            go_wp2_with fail
            go_roundw
            case rel => exact ⟨i + 1, by omega, by go_num, HT2, HXx⟩
            case measure => simp [intOf]; omega
      · have hti : ¬ (i : Int) < (l.length : Int) := by omega
        obtain rfl : i = l.length := by omega
        go_wp2_with fail
        go_ret
        refine ⟨?_, HX.out⟩
        have he := HT.out
        rw [List.take_length, hlm, List.take_length] at he
        have hr := HR.out.2 he
        rw [hr]; rfl
  · have tl : ((l.length : Int) != (m.length : Int)) = true := by simp; omega
    go_wp2_with fail
    go_ret
    refine ⟨?_, Ex.refl _⟩
    have hr : r = false := by
      cases r with
      | false => rfl
      | true => exact absurd (congrArg List.length (HR.out.1 rfl)) hlm
    rw [hr]; rfl
end Go.Proofs.Ytghnbohplonhoaa
