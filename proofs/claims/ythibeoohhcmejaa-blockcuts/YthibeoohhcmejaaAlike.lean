/-
  The statements' own 'alike': two slices of slices of bytes.
-/
import Derived.Test.YthibeoohhcmejaaKnown
import Derived.Test.YthibeoohhcmejaaTail
namespace Go.Proofs.Ythibeoohhcmejaa
open Go.RowKit
set_option linter.unusedVariables false

theorem cell_ex {w1 wx : World} {p : Addr} {v : Value} (h : w1.cell? p = some v) (hC : Ex w1 wx) : wx.cell? p = some v := by
  rw [Below.cell hC (World.block_lt_of_cell? w1 _ h)]; exact h
theorem str_inj {x y : List UInt8} (h : str x = str y) : x = y := by
  have := congrArg (fun b => b.toList) h
  simpa [str_toList] using this

set_option maxRecDepth 100000 in
set_option maxHeartbeats 1000000 in
theorem alike_is (a1 a2 : Option Addr) (n1 n2 c1 c2 : Nat) (L M : List (List UInt8)) (w : World) (h1 : n1 = L.length) (h2 : n2 = M.length) (hB1 : RdB w a1 c1 L) (hB2 : RdB w a2 c2 M) (r : Bool) (hr : decide (L = M) = r) :
    Calls Try.prog 20 #[.slice a1 n1 c1, .slice a2 n2 c2] w fun e w' => e = .returned (.bool r) ∧ Ex w w' := by
  subst h1; subst h2
  have hc1 := hB1.bounds
  have hc2 := hB2.bounds
  unfold maxLen at hc1 hc2
  have h11 := hc1.1
  have h12 := hc1.2
  have h21 := hc2.1
  have h22 := hc2.2
  have H1 : Hid (RdB w a1 c1 L) := hB1
  have H2 : Hid (RdB w a2 c2 M) := hB2
  have HR : Hid (decide (L = M) = r) := hr
  clear hB1 hB2 hr hc1 hc2
  by_cases hl : L.length = M.length
  · have hla : L.length ≤ M.length := by omega
    have hlb : M.length ≤ L.length := by omega
    have t0 : ((L.length : Int) != (M.length : Int)) = false := by simp; omega
    clear hl
    go_enter Try.func20, Try.ntmps20
    go_wp2_with fail
    go_loopw [5] (fun i wr => ∃ k : Nat, k ≤ L.length ∧ i = .int .i64 k ∧ Hid (∀ i, i < k → L[i]? = M[i]?) ∧ Hid (Ex w wr)) (fun i _ => L.length - (intOf i).toNat)
    case atStart => exact ⟨0, by omega, rfl, (fun i hi => by omega : ∀ i, i < 0 → L[i]? = M[i]?), Ex.refl _⟩
    case round =>
      obtain ⟨k, hk, rfl, HS, HEx⟩ := hrel
      by_cases hlt : k < L.length
      · have tk : decide ((k : Int) < (L.length : Int)) = true := by simp; omega
        obtain ⟨b1, o1, q1, d1, rfl, hce1, hbx1⟩ := (H1.out.below HEx.out).at hlt
        obtain ⟨b2, o2, q2, d2, rfl, hce2, hbx2⟩ := (H2.out.below HEx.out).at (k := k) (by omega)
        obtain ⟨x, hx⟩ : ∃ x, x = L[k] := ⟨_, rfl⟩
        obtain ⟨y, hy⟩ : ∃ y, y = M[k]'(by omega) := ⟨_, rfl⟩
        rw [← hx] at hce1 hbx1
        rw [← hy] at hce2 hbx2
        have hxk : L[k]? = some x := by rw [hx, List.getElem?_eq_getElem hlt]
        have hyk : M[k]? = some y := by rw [hy]; exact List.getElem?_eq_getElem (by omega)
        have HC1 : Hid (wr.cell? ⟨b1, o1 + k, none⟩ = some (.slice q1 x.length d1)) := hce1
        have HC2 : Hid (wr.cell? ⟨b2, o2 + k, none⟩ = some (.slice q2 y.length d2)) := hce2
        have HX1 : Hid (Byt wr q1 d1 x) := hbx1
        have HX2 : Hid (Byt wr q2 d2 y) := hbx2
        have HXk : Hid (L[k]? = some x) := hxk
        have HYk : Hid (M[k]? = some y) := hyk
        have hk1 : (k : Int) < (L.length : Int) := by omega
        have hk2 : (k : Int) < (M.length : Int) := by omega
        clear hce1 hce2 hbx1 hbx2 hx hy hxk hyk
        by_cases he : x = y
        · subst he
          have HN : Hid (∀ i, i < k + 1 → L[i]? = M[i]?) := (by
            intro i hi
            by_cases h : i < k
            · exact HS.out i h
            · obtain rfl : i = k := by omega
              rw [HXk.out, HYk.out] : ∀ i, i < k + 1 → L[i]? = M[i]?)
          go_wp2_with fail
          have hre := Ex.refl
          refine Rg.wp_rows [.inl (Value.slice (some { block := b1, off := o1 }) L.length c1), .inl (Value.int IntKind.i64 ↑k), .inl (Value.pointer (some ⟨b1, o1 + k, none⟩)), .inl (Value.slice q1 x.length d1), .inl (Value.string (str x)), .inl (Value.slice (some { block := b2, off := o2 }) M.length c2), .inl (Value.int IntKind.i64 ↑k), .inl (Value.pointer (some ⟨b2, o2 + k, none⟩)), .inl (Value.slice q2 x.length d2), .inl (Value.string (str x)), .inl (.bool false)] (Ex wr) Ex 28 (by kernel_rfl) rfl (by kernel_rfl) ?st hre (Ex.drew _) ?goods ?fin
          case st => exact trivial
          case goods =>
            refine Rg.goods_cons (Rg.good_move hre rfl rfl rfl) ?_
            refine Rg.goods_cons (Rg.good_move hre rfl rfl rfl) ?_
            refine Rg.goods_cons (Rg.good_index hre rfl rfl rfl rfl (fun wx hC => by go_simp)) ?_
            refine Rg.goods_cons (Rg.good_load hre rfl rfl rfl (fun wx hC => by have hcz := cell_ex HC1.out hC; go_simp)) ?_
            refine Rg.goods_cons (Rg.good_conv hre rfl rfl (by rintro u wx hC rfl; exact conv_row ⟨q1, d1, rfl, HX1.out.below hC⟩)) ?_
            refine Rg.goods_cons (Rg.good_move hre rfl rfl rfl) ?_
            refine Rg.goods_cons (Rg.good_move hre rfl rfl rfl) ?_
            refine Rg.goods_cons (Rg.good_index hre rfl rfl rfl rfl (fun wx hC => by go_simp)) ?_
            refine Rg.goods_cons (Rg.good_load hre rfl rfl rfl (fun wx hC => by have hcz := cell_ex HC2.out hC; go_simp)) ?_
            refine Rg.goods_cons (Rg.good_conv hre rfl rfl (by rintro u wx hC rfl; exact conv_row ⟨q2, d2, rfl, HX2.out.below hC⟩)) ?_
            refine Rg.goods_cons (Rg.good_bin hre rfl rfl rfl rfl (fun _ => rfl) (fun w => by go_simp)) ?_
            exact Rg.goods_nil
          case fin =>
            intro wx hx
            simp only [Rg.later, Act.put, List.setIfInBounds_toArray, List.set_cons_succ, List.set_cons_zero]
            have HXx : Hid (Ex w wx) := HEx.out.trans hx
            clear hx
            go_wp2
            go_roundw
            case rel => exact ⟨k + 1, by omega, by go_num, HN, HXx⟩
            case measure => simp [intOf]; omega
        · have HNe : Hid (¬ x = y) := he
          have hf : decide (L = M) = false := by
            simp only [decide_eq_false_iff_not]
            intro h
            have h1 := HXk.out
            rw [h, HYk.out] at h1
            simp at h1
            exact he h1.symm
          rw [HR.out] at hf
          subst hf
          clear he
          go_wp2_with fail
          have hre := Ex.refl
          refine Rg.wp_rows [.inl (Value.slice (some { block := b1, off := o1 }) L.length c1), .inl (Value.int IntKind.i64 ↑k), .inl (Value.pointer (some ⟨b1, o1 + k, none⟩)), .inl (Value.slice q1 x.length d1), .inl (Value.string (str x)), .inl (Value.slice (some { block := b2, off := o2 }) M.length c2), .inl (Value.int IntKind.i64 ↑k), .inl (Value.pointer (some ⟨b2, o2 + k, none⟩)), .inl (Value.slice q2 y.length d2), .inl (Value.string (str y)), .inl (.bool true)] (Ex wr) Ex 28 (by kernel_rfl) rfl (by kernel_rfl) ?st hre (Ex.drew _) ?goods ?fin
          case st => exact trivial
          case goods =>
            refine Rg.goods_cons (Rg.good_move hre rfl rfl rfl) ?_
            refine Rg.goods_cons (Rg.good_move hre rfl rfl rfl) ?_
            refine Rg.goods_cons (Rg.good_index hre rfl rfl rfl rfl (fun wx hC => by go_simp)) ?_
            refine Rg.goods_cons (Rg.good_load hre rfl rfl rfl (fun wx hC => by have hcz := cell_ex HC1.out hC; go_simp)) ?_
            refine Rg.goods_cons (Rg.good_conv hre rfl rfl (by rintro u wx hC rfl; exact conv_row ⟨q1, d1, rfl, HX1.out.below hC⟩)) ?_
            refine Rg.goods_cons (Rg.good_move hre rfl rfl rfl) ?_
            refine Rg.goods_cons (Rg.good_move hre rfl rfl rfl) ?_
            refine Rg.goods_cons (Rg.good_index hre rfl rfl rfl rfl (fun wx hC => by go_simp)) ?_
            refine Rg.goods_cons (Rg.good_load hre rfl rfl rfl (fun wx hC => by have hcz := cell_ex HC2.out hC; go_simp)) ?_
            refine Rg.goods_cons (Rg.good_conv hre rfl rfl (by rintro u wx hC rfl; exact conv_row ⟨q2, d2, rfl, HX2.out.below hC⟩)) ?_
            refine Rg.goods_cons (Rg.good_bin hre rfl rfl rfl rfl (fun _ => rfl) (fun w => by go_simp; rw [str_toList, str_toList]; exact HNe.out)) ?_
            exact Rg.goods_nil
          case fin =>
            intro wx hx
            simp only [Rg.later, Act.put, List.setIfInBounds_toArray, List.set_cons_succ, List.set_cons_zero]
            have HXx : Hid (Ex w wx) := HEx.out.trans hx
            clear hx
            go_wp2
            go_ret
            exact ⟨rfl, HXx.out⟩
      · obtain rfl : k = L.length := by omega
        have ht : decide (L = M) = true := by
          simp only [decide_eq_true_eq]
          apply List.ext_getElem?
          intro i
          by_cases hi : i < L.length
          · exact HS.out i hi
          · rw [List.getElem?_eq_none (by omega), List.getElem?_eq_none (by omega)]
        rw [HR.out] at ht
        subst ht
        go_wp2
        go_ret
        exact ⟨rfl, HEx.out⟩
  · have t0 : ((L.length : Int) != (M.length : Int)) = true := by simp; omega
    have hf : decide (L = M) = false := by
      simp only [decide_eq_false_iff_not]
      intro h; exact hl (by rw [h])
    rw [HR.out] at hf
    subst hf
    go_enter Try.func20, Try.ntmps20
    go_wp2
    go_ret
    exact ⟨rfl, Ex.refl _⟩
theorem frm_known : K.frm [97] = [1, 0, 0, 0, 254, 255, 255, 255, 97, 48, 67, 208, 193] := by decide +kernel
theorem opens_known : K.opens [1, 0, 0, 0, 254, 255, 255, 255, 97, 48, 67, 208, 193] 0 = ([97], 13, 0) := by decide +kernel
/-- A slice that is laid out in a new block, with whatever mark. -/
theorem Byt.laidM (w : World) (fr : Nat × Nat) (l : List UInt8) (hl : l.length ≤ 1000) : Byt (w.alloc (.cells (cs l).toArray 5 fr)) (some ⟨w.heap.size, 0, none⟩) l.length l := by
  refine ⟨Nat.le_refl _, by simp [maxLen]; omega, by simp, fun i hi => ⟨w.heap.size, 0, rfl, ?_⟩⟩
  rw [cell_of_row _ w.heap.size (0 + i) (cs l).toArray 5 fr (heap_alloc_new w _)]
  simp [cs, M.bAt, hi]

set_option maxRecDepth 100000 in
theorem known_any (w : World) : Calls Try.prog 12 #[] w fun e w' => e = .returned (.bool true) ∧ Ex w w' := by
  have kc := fun (w : World) (C : Array Value) (n c : Nat) => Lib.run_convert_bytes_const (P := Try.prog) w 22 5 C n c Try.underlying22 Try.underlying5
  go_enter Try.func12, Try.ntmps12
  go_wp2_with fail
  refine (seal_is _ 1 1 [97] _ rfl (Byt.laidM w (1, 2) [97] (by simp)) (by simp) _ frm_known).mono ?_
  rintro e w1 ⟨v1, rfl, ⟨a1, c1, rfl, hb1⟩, hx1⟩
  have hx1' : Ex w w1 := Ex.trans ((Below.refl _ _).alloc (Nat.le_refl _) _) hx1
  clear hx1
  go_wp2_with fail
  refine (open_is a1 _ c1 _ 0 _ rfl hb1 (by simp) (by omega) (by omega) _ _ _ opens_known).mono ?_
  rintro e w2 ⟨v2, rfl, ⟨a2, c2, rfl, hb2⟩, hx2⟩
  have hb1' := hb1.below hx2
  have hcc := hb1.1
  have hcm := hb1.2.1
  unfold maxLen at hcm
  have h9 : (9 : Int) ≤ (c1 : Int) := by simp at hcc; omega
  have k9 := run_str (n := 9) (hb1'.take (k := 9) (by simp)) rfl
  have kx := run_str (n := 1) hb2 rfl
  have hs1 := str_toList [97]
  have hs2 := str_toList [1, 0, 0, 0, 254, 255, 255, 255, 97]
  simp only [List.take_succ_cons, List.take_zero] at k9
  go_wp2
  go_ret
  exact ⟨rfl, hx1'.trans hx2⟩
theorem bool_of {f : FuncId} {args : Array Value} {w0 w : World} {v : Value} (h : Calls Try.prog f args w fun e w' => e = .returned v ∧ Ex w w') (hC : Ex w0 w) :
    Calls Try.prog f args w (fun e w' => ∃ v', e = .returned v' ∧ Rg.Spec.ok (.inl v) v' w' ∧ Ex w w' ∧ Ex w0 w') :=
  h.mono fun e w' ⟨he, hw⟩ => ⟨v, he, rfl, hw, hC.trans hw⟩
theorem few_row {w0 : World} (s x : List UInt8) (w : World) (hC : Ex w0 w) (hs : s.length ≤ maxLen) (hx : s.take 200 = x) :
    Calls Try.prog 16 #[.string (str s)] w (fun e w' => ∃ v', e = .returned v' ∧ Rg.Spec.ok (.inl (.string (str x))) v' w' ∧ Ex w w' ∧ Ex w0 w') :=
  (few_is s x w hs hx).mono fun e w' ⟨he, hw⟩ => ⟨_, he, rfl, by rw [hw]; exact Ex.refl _, by rw [hw]; exact hC⟩
theorem known_row {w0 : World} (w : World) (hC : Ex w0 w) :
    Calls Try.prog 12 #[] w (fun e w' => ∃ v', e = .returned v' ∧ Rg.Spec.ok (.inl (.bool true)) v' w' ∧ Ex w w' ∧ Ex w0 w') := bool_of (known_any w) hC
end Go.Proofs.Ythibeoohhcmejaa
