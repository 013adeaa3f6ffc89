/-
  The books' own Cells and Cols: the same lists?
-/
import Derived.Test.YtghnbohplonhoaaKcel
namespace Go.Proofs.Ytghnbohplonhoaa
open Go.RowKit
set_option linter.unusedVariables false
set_option linter.unusedSimpArgs false
theorem cell_ex {w w' : World} {p : Addr} {u : Value} (h : w.cell? p = some u) (hx : Ex w w') : w'.cell? p = some u := by rw [hx.cell (World.block_lt_of_cell? w _ h)]; exact h
set_option maxHeartbeats 4000000 in
set_option maxRecDepth 100000 in
theorem cells_is (a : Option Addr) (n cap : Nat) (l : List Ce) (a' : Option Addr) (n' cap' : Nat) (m : List Ce) (w : World) (hn : n = l.length) (hn' : n' = m.length) (hB : RdC w a cap l) (hB' : RdC w a' cap' m) (r : Bool) (hr : r = true ↔ l = m) :
    Calls Try.prog 49 #[.slice a n cap, .slice a' n' cap'] w fun e w' => e = .returned (.bool r) ∧ Ex w w' := by
  subst hn
  subst hn'
  have HB : Hid (RdC w a cap l) := hB
  have HB' : Hid (RdC w a' cap' m) := hB'
  have HR : Hid (r = true ↔ l = m) := hr
  have h1 := hB.1
  have h2 := hB.2.1
  have h3 := hB'.1
  have h4 := hB'.2.1
  unfold maxLen at h2 h4
  clear hB hB' hr
  go_enter Try.func49, Try.ntmps49
  by_cases hlm : l.length = m.length
  · have tl : ((l.length : Int) != (m.length : Int)) = false := by simp; omega
    go_wp2_with fail
    go_loopw [5] (fun iv wr => ∃ i : Nat, i ≤ l.length ∧ iv = .int .i64 i ∧ Hid (l.take i = m.take i) ∧ Hid (Ex w wr)) (fun iv wr => l.length - (intOf iv).toNat)
    case atStart => exact ⟨0, by omega, rfl, (by simp : l.take 0 = m.take 0), Ex.refl w⟩
    case round =>
      obtain ⟨i, hi, rfl, HT, HX⟩ := hrel
      by_cases hlt : i < l.length
      · have hti : (i : Int) < (l.length : Int) := by omega
        have hlt' : i < m.length := by omega
        obtain ⟨b, off, rfl, e0, e1, e2, e3⟩ := (RdC.four (HB.out.below HX.out) hlt)
        obtain ⟨b', off', rfl, d0, d1, d2, d3⟩ := (RdC.four (HB'.out.below HX.out) hlt')
        obtain ⟨x, hx⟩ : ∃ x, l[i] = x := ⟨_, rfl⟩
        obtain ⟨y, hy⟩ : ∃ y, m[i] = y := ⟨_, rfl⟩
        rw [hx] at e0 e1 e2 e3
        rw [hy] at d0 d1 d2 d3
        have hnx : l.take (i + 1) = l.take i ++ [x] := by rw [List.take_add_one, List.getElem?_eq_getElem hlt, hx]; rfl
        have hny : m.take (i + 1) = m.take i ++ [y] := by rw [List.take_add_one, List.getElem?_eq_getElem hlt', hy]; rfl
        have HNX : Hid (l.take (i + 1) = l.take i ++ [x]) := hnx
        have HNY : Hid (m.take (i + 1) = m.take i ++ [y]) := hny
        obtain ⟨q, hq⟩ : ∃ q : Bool, q = true ↔ ¬ x = y := by
          by_cases h : x = y
          · exact ⟨false, by simp [h]⟩
          · exact ⟨true, by simp [h]⟩
        have HQ : Hid (q = true ↔ ¬ x = y) := hq
        have E0 : Hid (_ = _) := e0
        have D0 : Hid (_ = _) := d0
        have E1 : Hid (_ = _) := e1
        have D1 : Hid (_ = _) := d1
        have E2 : Hid (_ = _) := e2
        have D2 : Hid (_ = _) := d2
        have E3 : Hid (_ = _) := e3
        have D3 : Hid (_ = _) := d3
        clear hx hy hnx hny hq e0 e1 e2 e3 d0 d1 d2 d3
        go_wp2_with fail
        have hre := Ex.refl
        refine Rg.wp_rows [.inl (Value.slice (some ⟨b, off, none⟩) l.length cap), .inl (Value.int .i64 i), .inl (Value.pointer (some ⟨b, off + i * 4, none⟩)), .inl (cv x), .inl (Value.slice (some ⟨b', off', none⟩) m.length cap'), .inl (Value.int .i64 i), .inl (Value.pointer (some ⟨b', off' + i * 4, none⟩)), .inl (cv y), .inl (.bool q)] (Ex wr) Ex 26 (by kernel_rfl) rfl (by kernel_rfl) ?st hre (Ex.drew _) ?goods ?fin
        case st => exact trivial
        case goods =>
          refine Rg.goods_cons (Rg.good_move hre rfl rfl rfl) ?_
          refine Rg.goods_cons (Rg.good_move hre rfl rfl rfl) ?_
          refine Rg.goods_cons (Rg.good_index hre rfl rfl rfl rfl (fun wx hC => by go_simp)) ?_
          refine Rg.goods_cons (Rg.good_load hre rfl rfl rfl (fun wx hC => loadI_cell (cell_ex E0.out hC) (cell_ex E1.out hC) (cell_ex E2.out hC) (cell_ex E3.out hC))) ?_
          refine Rg.goods_cons (Rg.good_move hre rfl rfl rfl) ?_
          refine Rg.goods_cons (Rg.good_move hre rfl rfl rfl) ?_
          refine Rg.goods_cons (Rg.good_index hre rfl rfl rfl rfl (fun wx hC => by go_simp)) ?_
          refine Rg.goods_cons (Rg.good_load hre rfl rfl rfl (fun wx hC => loadI_cell (cell_ex D0.out hC) (cell_ex D1.out hC) (cell_ex D2.out hC) (cell_ex D3.out hC))) ?_
          refine Rg.goods_cons (Rg.good_bin hre rfl rfl rfl rfl (fun w => guard_cell _ _ _ x y w) (fun w => neq_cell x y q HQ.out w)) ?_
          exact Rg.goods_nil
        case fin =>
          intro wx hx
          simp only [Rg.later, Act.put, List.setIfInBounds_toArray, List.set_cons_succ, List.set_cons_zero]
          have HXx : Hid (Ex w wx) := HX.out.trans hx
          clear hx
          cases q with
          | true =>
            go_wp2_with fail
            go_ret
            refine ⟨?_, HXx.out⟩
            have hne := HQ.out.1 (by simp)
            have hr : r = false := by
              cases r with
              | false => rfl
              | true =>
                have he := HR.out.1 rfl
                have h5 := HNX.out
                have h6 := HNY.out
                rw [he] at h5
                rw [h5, ← he, HT.out] at h6
                exact absurd (List.singleton_inj.1 (List.append_cancel_left h6)) hne
            rw [hr]; rfl
          | false =>
            have he : x = y := Classical.byContradiction fun h => by have := HQ.out.2 h; cases this
            have HT2 : Hid (l.take (i + 1) = m.take (i + 1)) := (by rw [HNX.out, HNY.out, HT.out, he] : l.take (i + 1) = m.take (i + 1))
            clear he
            go_wp2_with fail
            go_roundw
            case rel => exact ⟨i + 1, by omega, by go_num, HT2, HXx⟩
            case measure => simp [intOf]; omega
      · have hti : ¬ (i : Int) < (l.length : Int) := by omega
        obtain rfl : i = l.length := by omega
        go_wp2_with fail
        go_ret
        refine ⟨?_, HX.out⟩
        have he := HT.out
        rw [List.take_length, hlm, List.take_length] at he
        have hr := HR.out.2 he
        rw [hr]; rfl
  · have tl : ((l.length : Int) != (m.length : Int)) = true := by simp; omega
    go_wp2_with fail
    go_ret
    refine ⟨?_, Ex.refl _⟩
    have hr : r = false := by
      cases r with
      | false => rfl
      | true => exact absurd (congrArg List.length (HR.out.1 rfl)) hlm
    rw [hr]; rfl
set_option maxHeartbeats 4000000 in
set_option maxRecDepth 100000 in
theorem kcols_is (a : Option Addr) (n cap : Nat) (l : List Co) (a' : Option Addr) (n' cap' : Nat) (m : List Co) (w : World) (hn : n = l.length) (hn' : n' = m.length) (hB : RdK w a cap l) (hB' : RdK w a' cap' m) (r : Bool) (hr : r = true ↔ l = m) :
    Calls Try.prog 20 #[.slice a n cap, .slice a' n' cap'] w fun e w' => e = .returned (.bool r) ∧ Ex w w' := by
  subst hn
  subst hn'
  have HB : Hid (RdK w a cap l) := hB
  have HB' : Hid (RdK w a' cap' m) := hB'
  have HR : Hid (r = true ↔ l = m) := hr
  have h1 := hB.1
  have h2 := hB.2.1
  have h3 := hB'.1
  have h4 := hB'.2.1
  unfold maxLen at h2 h4
  clear hB hB' hr
  go_enter Try.func20, Try.ntmps20
  by_cases hlm : l.length = m.length
  · have tl : ((l.length : Int) != (m.length : Int)) = false := by simp; omega
    go_wp2_with fail
    go_loopw [5] (fun iv wr => ∃ i : Nat, i ≤ l.length ∧ iv = .int .i64 i ∧ Hid (l.take i = m.take i) ∧ Hid (Ex w wr)) (fun iv wr => l.length - (intOf iv).toNat)
    case atStart => exact ⟨0, by omega, rfl, (by simp : l.take 0 = m.take 0), Ex.refl w⟩
    case round =>
      obtain ⟨i, hi, rfl, HT, HX⟩ := hrel
      by_cases hlt : i < l.length
      · have hti : (i : Int) < (l.length : Int) := by omega
        have hlt' : i < m.length := by omega
        obtain ⟨b, off, rfl, e0, e1⟩ := (RdK.two (HB.out.below HX.out) hlt)
        obtain ⟨b', off', rfl, d0, d1⟩ := (RdK.two (HB'.out.below HX.out) hlt')
        obtain ⟨x, hx⟩ : ∃ x, l[i] = x := ⟨_, rfl⟩
        obtain ⟨y, hy⟩ : ∃ y, m[i] = y := ⟨_, rfl⟩
        rw [hx] at e0 e1
        rw [hy] at d0 d1
        have hnx : l.take (i + 1) = l.take i ++ [x] := by rw [List.take_add_one, List.getElem?_eq_getElem hlt, hx]; rfl
        have hny : m.take (i + 1) = m.take i ++ [y] := by rw [List.take_add_one, List.getElem?_eq_getElem hlt', hy]; rfl
        have HNX : Hid (l.take (i + 1) = l.take i ++ [x]) := hnx
        have HNY : Hid (m.take (i + 1) = m.take i ++ [y]) := hny
        obtain ⟨q, hq⟩ : ∃ q : Bool, q = true ↔ ¬ x = y := by
          by_cases h : x = y
          · exact ⟨false, by simp [h]⟩
          · exact ⟨true, by simp [h]⟩
        have HQ : Hid (q = true ↔ ¬ x = y) := hq
        have E0 : Hid (_ = _) := e0
        have D0 : Hid (_ = _) := d0
        have E1 : Hid (_ = _) := e1
        have D1 : Hid (_ = _) := d1
        clear hx hy hnx hny hq e0 e1 d0 d1
        go_wp2_with fail
        have hre := Ex.refl
        refine Rg.wp_rows [.inl (Value.slice (some ⟨b, off, none⟩) l.length cap), .inl (Value.int .i64 i), .inl (Value.pointer (some ⟨b, off + i * 2, none⟩)), .inl (kv x), .inl (Value.slice (some ⟨b', off', none⟩) m.length cap'), .inl (Value.int .i64 i), .inl (Value.pointer (some ⟨b', off' + i * 2, none⟩)), .inl (kv y), .inl (.bool q)] (Ex wr) Ex 26 (by kernel_rfl) rfl (by kernel_rfl) ?st hre (Ex.drew _) ?goods ?fin
        case st => exact trivial
        case goods =>
          refine Rg.goods_cons (Rg.good_move hre rfl rfl rfl) ?_
          refine Rg.goods_cons (Rg.good_move hre rfl rfl rfl) ?_
          refine Rg.goods_cons (Rg.good_index hre rfl rfl rfl rfl (fun wx hC => by go_simp)) ?_
          refine Rg.goods_cons (Rg.good_load hre rfl rfl rfl (fun wx hC => loadI_col (cell_ex E0.out hC) (cell_ex E1.out hC))) ?_
          refine Rg.goods_cons (Rg.good_move hre rfl rfl rfl) ?_
          refine Rg.goods_cons (Rg.good_move hre rfl rfl rfl) ?_
          refine Rg.goods_cons (Rg.good_index hre rfl rfl rfl rfl (fun wx hC => by go_simp)) ?_
          refine Rg.goods_cons (Rg.good_load hre rfl rfl rfl (fun wx hC => loadI_col (cell_ex D0.out hC) (cell_ex D1.out hC))) ?_
          refine Rg.goods_cons (Rg.good_bin hre rfl rfl rfl rfl (fun w => guard_col _ _ _ x y w) (fun w => neq_col x y q HQ.out w)) ?_
          exact Rg.goods_nil
        case fin =>
          intro wx hx
          simp only [Rg.later, Act.put, List.setIfInBounds_toArray, List.set_cons_succ, List.set_cons_zero]
          have HXx : Hid (Ex w wx) := HX.out.trans hx
          clear hx
          cases q with
          | true =>
            go_wp2_with fail
            go_ret
            refine ⟨?_, HXx.out⟩
            have hne := HQ.out.1 (by simp)
            have hr : r = false := by
              cases r with
              | false => rfl
              | true =>
                have he := HR.out.1 rfl
                have h5 := HNX.out
                have h6 := HNY.out
                rw [he] at h5
                rw [h5, ← he, HT.out] at h6
                exact absurd (List.singleton_inj.1 (List.append_cancel_left h6)) hne
            rw [hr]; rfl
          | false =>
            have he : x = y := Classical.byContradiction fun h => by have := HQ.out.2 h; cases this
            have HT2 : Hid (l.take (i + 1) = m.take (i + 1)) := (by rw [HNX.out, HNY.out, HT.out, he] : l.take (i + 1) = m.take (i + 1))
            clear he
            go_wp2_with fail
            go_roundw
            case rel => exact ⟨i + 1, by omega, by go_num, HT2, HXx⟩
            case measure => simp [intOf]; omega
      · have hti : ¬ (i : Int) < (l.length : Int) := by omega
        obtain rfl : i = l.length := by omega
        go_wp2_with fail
        go_ret
        refine ⟨?_, HX.out⟩
        have he := HT.out
        rw [List.take_length, hlm, List.take_length] at he
        have hr := HR.out.2 he
        rw [hr]; rfl
  · have tl : ((l.length : Int) != (m.length : Int)) = true := by simp; omega
    go_wp2_with fail
    go_ret
    refine ⟨?_, Ex.refl _⟩
    have hr : r = false := by
      cases r with
      | false => rfl
      | true => exact absurd (congrArg List.length (HR.out.1 rfl)) hlm
    rw [hr]; rfl
end Go.Proofs.Ytghnbohplonhoaa
