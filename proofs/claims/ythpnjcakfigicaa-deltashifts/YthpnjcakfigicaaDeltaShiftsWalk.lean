/-
  The walk of the law DeltaShifts: whatever numbers it is given, it returns true.
-/
import Derived.Test.YthpnjcakfigicaaSlices
import Derived.Test.YthpnjcakfigicaaEven
namespace Go.Proofs.Ythpnjcakfigicaa.deltaShifts
open Go.RowKit
set_option linter.unusedVariables false

set_option maxRecDepth 100000 in
set_option maxHeartbeats 1000000 in
theorem walk (p0 : Option Addr) (c0 : Nat) (l0 : List Int) (a1 : Int) (w : World) (b0 : Rd z64 w p0 c0 l0) (m0 : ∀ x ∈ l0, In64 x) (w0 : l0.length ≤ 17592186043904) (w1 : -9223372036854775808 ≤ a1 ∧ a1 ≤ 9223372036854775807) :
    Calls Try.prog 7 #[.slice p0 l0.length c0, .int .i64 a1] w fun e w' => e = .returned (.bool true) ∧ Below w.heap.size w w' := by
  obtain ⟨L, hL⟩ : ∃ L, l0.take 60 = L := ⟨_, rfl⟩
  have hLl : L.length ≤ 60 := by rw [← hL]; simp; omega
  have hLB : Rd z64 w p0 c0 L := by rw [← hL]; exact b0.take 60
  have hLo : ∀ x ∈ L, D.ok x := by rw [← hL]; exact fun x hx => m0 x (List.mem_of_mem_take hx)
  obtain ⟨M, hM⟩ : ∃ M, D.sh L a1 = M := ⟨_, rfl⟩
  have hMl : M.length = L.length := by rw [← hM, D.sh_len]
  have hMo : ∀ x ∈ M, D.ok x := by rw [← hM]; exact D.sh_ok L a1
  have hMat : ∀ k (h : k < L.length), M.take (k + 1) = M.take k ++ [D.wr (L[k] + a1)] := fun k h => by
    have hk : k < M.length := by omega
    rw [List.take_succ_eq_append_getElem hk]
    congr 2
    subst hM
    simp [D.sh]
  have hsd : 0 < L.length → _ := fun h => D.shift_drop (d := a1) h (by omega)
  rw [hM] at hsd
  have hzero : L.length = 0 → D.enc L = D.enc M := fun h => by
    have h1 : L = [] := List.eq_nil_of_length_eq_zero h
    have h2 : M = [] := List.eq_nil_of_length_eq_zero (by omega)
    rw [h1, h2]
  obtain ⟨E1, hE1⟩ : ∃ E, D.enc L = E := ⟨_, rfl⟩
  obtain ⟨E2, hE2⟩ : ∃ E, D.enc M = E := ⟨_, rfl⟩
  obtain ⟨C1, hC1⟩ : ∃ E, D.enc (L.take 1) = E := ⟨_, rfl⟩
  obtain ⟨C2, hC2⟩ : ∃ E, D.enc (M.take 1) = E := ⟨_, rfl⟩
  rw [hE1, hE2, hC1, hC2] at hsd
  rw [hE1, hE2] at hzero
  have hm1 : E1.length ≤ 610 := by rw [← hE1]; have := (D.enc_len L).2; omega
  have hm2 : E2.length ≤ 610 := by rw [← hE2]; have := (D.enc_len M).2; omega
  have hm3 : C1.length ≤ 20 := by rw [← hC1]; have := (D.enc_len (L.take 1)).2; simp at this; omega
  have hm4 : C2.length ≤ 20 := by rw [← hC2]; have := (D.enc_len (M.take 1)).2; simp at this; omega
  have H0 : Hid (Rd z64 w p0 c0 l0) := b0
  have HLB : Hid (Rd z64 w p0 c0 L) := hLB
  have HL : Hid (l0.take 60 = L) := hL
  have HLo : Hid (∀ x ∈ L, D.ok x) := hLo
  have HMo : Hid (∀ x ∈ M, D.ok x) := hMo
  have HMl : Hid (M.length = L.length) := hMl
  have HMat : Hid (∀ k (h : k < L.length), M.take (k + 1) = M.take k ++ [D.wr (L[k] + a1)]) := hMat
  have HSd : Hid (0 < L.length → E1.drop C1.length = E2.drop C2.length ∧ C1.length ≤ E1.length ∧ C2.length ≤ E2.length) := hsd
  have HZero : Hid (L.length = 0 → E1 = E2) := hzero
  have HE1 : Hid (D.enc L = E1) := hE1
  have HE2 : Hid (D.enc M = E2) := hE2
  have HC1 : Hid (D.enc (L.take 1) = C1) := hC1
  have HC2 : Hid (D.enc (M.take 1) = C2) := hC2
  clear b0 hLB hL hLo m0 hM hMl hMo hMat hsd hzero hE1 hE2 hC1 hC2
  go_enter Try.func7, Try.ntmps7
  go_wp2_with fail
  refine (few_is p0 c0 l0 L _ H0.out HL.out).mono ?_
  rintro e wq ⟨rfl, hw⟩
  have hw' := hw.symm; clear hw; subst hw'
  go_wp2_with fail
  go_loopw [5, 6] (fun v i wr => ∃ k : Nat, k ≤ L.length ∧ i = .int .i64 k ∧ Hid (OwnR 2 z64 wr w.heap.size v (M.take k)) ∧ Hid (Below w.heap.size w wr)) (fun _ i _ => L.length - (intOf i).toNat)
  case atStart =>
    have h0 : OwnR 2 z64 w w.heap.size (.slice none 0 0) (M.take 0) := by rw [List.take_zero]; exact OwnR.nil w _
    exact ⟨0, by omega, rfl, h0, Below.refl _ _⟩
  case round =>
    obtain ⟨k, hk, rfl, HO, HX⟩ := hrel
    by_cases hlt : k < L.length
    · obtain ⟨q, off, rfl, hc⟩ := (HLB.out.below HX.out).at hlt
      have hnx := HMat.out k hlt
      obtain ⟨x, hx⟩ : ∃ x, x = L[k] := ⟨_, rfl⟩
      rw [← hx] at hc hnx
      rw [wr64] at hnx
      have hc' : wr.cell? ⟨q, off + k, none⟩ = some (.int .i64 x) := hc
      have HNx : Hid (M.take (k + 1) = M.take k ++ [wrap64 (x + a1)]) := hnx
      have HLn : Hid ((M.take k).length ≤ 60) := (by simp; omega : (M.take k).length ≤ 60)
      have hki : (k : Int) < (L.length : Int) := by omega
      clear hc hx hnx
      go_wp2_with (at_builtin; refine wpList_append_rd (e := 2) (enc := z64) rfl (.tmp 19) (.tmp 26) 22 rfl 0 8 Try.underlying22 Try.info2 rfl (fun _ => rfl) w.heap.size _ (M.take k) rfl (HO.out.alloc _) _ _ _ [wrap64 (x + a1)] rfl rfl (Rd.laid wr 2 [wrap64 (x + a1)] (by simp)) (by have := HLn.out; simp [maxLen]; omega) (by have := HLn.out; simp; omega) (by have := HX.out.size; simp; omega) ?_; intro v9 w9 ho9 hg9; have X9 : Below w.heap.size w w9 := step_belowR (Below.alloc HX.out HX.out.size _) (by have := HX.out.size; simp; omega) (HO.out.alloc _) hg9; clear hg9)
      have HO9 : Hid (OwnR 2 z64 w9 w.heap.size v9 (M.take (k + 1))) := (by rw [HNx.out]; exact ho9 : OwnR 2 z64 w9 w.heap.size v9 (M.take (k + 1)))
      have HX9 : Hid (Below w.heap.size w w9) := X9
      clear ho9 X9
      go_wp2
      go_roundw
      case rel => exact ⟨k + 1, by omega, by go_num, HO9, HX9⟩
      case measure => simp [intOf]; omega
    · obtain rfl : k = L.length := by omega
      have hO := HO.out
      rw [← HMl.out, List.take_length] at hO
      obtain ⟨aM, cM, rfl, hRM⟩ := hO.rd
      have HRM : Hid (Rd z64 wr aM cM M) := hRM
      have hcM := hRM.1
      have hcMm := hRM.2.1
      have hcL := HLB.out.1
      have hcLm := HLB.out.2.1
      have hMl1 : M.length ≤ L.length := by rw [HMl.out]; omega
      have hMl2 : L.length ≤ M.length := by rw [HMl.out]; omega
      clear hO HO hRM
      go_wp2_with fail
      refine (enc_is p0 _ c0 L _ rfl (HLB.out.below HX.out) HLo.out (by omega) _ HE1.out).mono ?_
      rintro e w7 ⟨v7, rfl, hv7, hx7⟩
      obtain ⟨a7, c7, rfl, hB7⟩ := hv7
      go_wp2_with fail
      refine (enc_is aM _ cM M _ rfl (HRM.out.below hx7) HMo.out (by omega) _ HE2.out).mono ?_
      rintro e w8 ⟨v8, rfl, hv8, hx8⟩
      obtain ⟨a8, c8, rfl, hB8⟩ := hv8
      have X8 : Ex wr w8 := hx7.trans hx8
      have XW : Ex w w8 := Ex.trans HX.out X8
      by_cases hz : L.length = 0
      · have tz : ((L.length : Int) == 0) = true := by rw [hz]; rfl
        have hEE := HZero.out hz
        subst hEE
        have hr7 := run_str (n := E1.length) (hB7.below hx8) rfl
        have hr8 := run_str (n := E1.length) hB8 rfl
        clear hB7 hB8
        go_wp2_with fail
        refine (known_any _).mono ?_
        rintro e w9 ⟨rfl, hx9⟩
        go_wp2
        go_ret
        exact ⟨rfl, XW.trans hx9⟩
      · have tz : ((L.length : Int) == 0) = false := by simp only [beq_eq_false_iff_ne, ne_eq]; omega
        have h3 := HSd.out (by omega)
        obtain ⟨R, hR⟩ : ∃ R, E1.drop C1.length = R := ⟨_, rfl⟩
        have HR1 : Hid (E1.drop C1.length = R) := hR
        have HR2 : Hid (E2.drop C2.length = R) := (by rw [← h3.1]; exact hR : E2.drop C2.length = R)
        have hle1 := h3.2.1
        have hle2 := h3.2.2
        have HG1 : Hid (decide ((C1.length : Int) ≤ (E1.length : Int)) = true) := decide_eq_true (by omega)
        have HG2 : Hid (decide ((C2.length : Int) ≤ (E2.length : Int)) = true) := decide_eq_true (by omega)
        have i1 : (1 : Int) ≤ (c0 : Int) := by omega
        have i2 : (1 : Int) ≤ (cM : Int) := by omega
        have i3 : c0 ≤ 9223372036854775807 := by unfold maxLen at hcLm; omega
        have i4 : cM ≤ 9223372036854775807 := by unfold maxLen at hcMm; omega
        have HT1 : Hid (1 = (L.take 1).length) := (by simp; omega : 1 = (L.take 1).length)
        have HT2 : Hid (1 = (M.take 1).length) := (by simp; omega : 1 = (M.take 1).length)
        clear hR h3
        go_wp2_with fail
        refine (enc_is p0 _ c0 (L.take 1) _ HT1.out ((HLB.out.below XW).take 1) (fun x hx => HLo.out x (List.mem_of_mem_take hx)) (by simp; omega) _ HC1.out).mono ?_
        rintro e w9 ⟨v9, rfl, hv9, hx9⟩
        obtain ⟨a9, c9, rfl, hB9⟩ := hv9
        go_wp2_with fail
        refine (enc_is aM _ cM (M.take 1) _ HT2.out (((HRM.out.below X8).below hx9).take 1) (fun x hx => HMo.out x (List.mem_of_mem_take hx)) (by simp; omega) _ HC2.out).mono ?_
        rintro e w10 ⟨v10, rfl, hv10, hx10⟩
        obtain ⟨a10, c10, rfl, hB10⟩ := hv10
        have HXA : Hid (Ex w w10) := (XW.trans hx9).trans hx10
        have HB7 : Hid (Byt w10 a7 c7 E1) := ((hB7.below hx8).below hx9).below hx10
        have HB8 : Hid (Byt w10 a8 c8 E2) := (hB8.below hx9).below hx10
        clear hB7 hB8 hB9 hB10 hx7 hx8 hx9 hx10 X8 XW
        go_wp2_with fail
        have hre := Ex.refl
        refine Rg.wp_rows [.inl (Value.slice a7 E1.length c7), .inl (Value.int IntKind.i64 ↑E1.length), .inl (Value.slice a9 C1.length c9), .inl (Value.int IntKind.i64 ↑C1.length), .inl (.bool true), .inl (.bool true), .inl (Value.slice a8 E2.length c8), .inl (Value.int IntKind.i64 ↑E2.length), .inl (Value.slice a10 C2.length c10), .inl (Value.int IntKind.i64 ↑C2.length), .inl (.bool true), .inl (.bool true), .inl (.bool true), .inl (Value.slice a7 E1.length c7), .inl (Value.slice a9 C1.length c9), .inl (Value.int IntKind.i64 ↑C1.length), .inr (IsByt R), .inl (Value.string (str R)), .inl (Value.slice a8 E2.length c8), .inl (Value.slice a10 C2.length c10), .inl (Value.int IntKind.i64 ↑C2.length), .inr (IsByt R), .inl (Value.string (str R)), .inl (.bool true), .inl (.bool true), .inl (.bool true), .inl (.bool true), .inl (.bool true), .inl (.bool true)] (Ex w10) Ex 77 (by kernel_rfl) rfl (by kernel_rfl) ?st hre (Ex.drew _) ?goods ?fin
        case st => exact ⟨IsByt.stands _, IsByt.stands _, trivial⟩
        case goods =>
          refine Rg.goods_cons (Rg.good_move hre rfl rfl rfl) ?_
          refine Rg.goods_cons (Rg.good_len hre rfl rfl (by rintro u w _ rfl; rfl)) ?_
          refine Rg.goods_cons (Rg.good_move hre rfl rfl rfl) ?_
          refine Rg.goods_cons (Rg.good_len hre rfl rfl (by rintro u w _ rfl; rfl)) ?_
          refine Rg.goods_cons (Rg.good_bin hre rfl rfl rfl rfl (fun _ => rfl) (fun w => by simp only [go_sem, HG1.out, Sem.run_pure])) ?_
          refine Rg.goods_cons (Rg.good_move hre rfl rfl rfl) ?_
          refine Rg.goods_cons (Rg.good_move hre rfl rfl rfl) ?_
          refine Rg.goods_cons (Rg.good_len hre rfl rfl (by rintro u w _ rfl; rfl)) ?_
          refine Rg.goods_cons (Rg.good_move hre rfl rfl rfl) ?_
          refine Rg.goods_cons (Rg.good_len hre rfl rfl (by rintro u w _ rfl; rfl)) ?_
          refine Rg.goods_cons (Rg.good_bin hre rfl rfl rfl rfl (fun _ => rfl) (fun w => by simp only [go_sem, HG2.out, Sem.run_pure])) ?_
          refine Rg.goods_cons (Rg.good_pick true hre rfl rfl rfl rfl) ?_
          refine Rg.goods_cons (Rg.good_move hre rfl rfl rfl) ?_
          refine Rg.goods_cons (Rg.good_move hre rfl rfl rfl) ?_
          refine Rg.goods_cons (Rg.good_move hre rfl rfl rfl) ?_
          refine Rg.goods_cons (Rg.good_len hre rfl rfl (by rintro u w _ rfl; rfl)) ?_
          refine Rg.goods_cons (Rg.good_slice1 hre rfl rfl rfl (by rintro u wx hC rfl; have h := slice_low a7 c7 C1.length E1 wx (HB7.out.below hC) hle1; rw [HR1.out] at h; exact h)) ?_
          refine Rg.goods_cons (Rg.good_conv hre rfl rfl (by exact fun u w _ h => conv_row h)) ?_
          refine Rg.goods_cons (Rg.good_move hre rfl rfl rfl) ?_
          refine Rg.goods_cons (Rg.good_move hre rfl rfl rfl) ?_
          refine Rg.goods_cons (Rg.good_len hre rfl rfl (by rintro u w _ rfl; rfl)) ?_
          refine Rg.goods_cons (Rg.good_slice1 hre rfl rfl rfl (by rintro u wx hC rfl; have h := slice_low a8 c8 C2.length E2 wx (HB8.out.below hC) hle2; rw [HR2.out] at h; exact h)) ?_
          refine Rg.goods_cons (Rg.good_conv hre rfl rfl (by exact fun u w _ h => conv_row h)) ?_
          refine Rg.goods_cons (Rg.good_bin hre rfl rfl rfl rfl (fun _ => rfl) (fun w => by go_simp)) ?_
          refine Rg.goods_cons (Rg.good_pick true hre rfl rfl rfl rfl) ?_
          refine Rg.goods_cons (Rg.good_move hre rfl rfl rfl) ?_
          refine Rg.goods_cons (Rg.good_call0 Try.func12 (by kernel_rfl) rfl rfl rfl (by exact fun wx hC => known_row wx hC)) ?_
          refine Rg.goods_cons (Rg.good_pick true hre rfl rfl rfl rfl) ?_
          refine Rg.goods_cons (Rg.good_assign hre rfl rfl rfl) ?_
          exact Rg.goods_nil
        case fin =>
          intro wx hx
          simp only [Rg.later, Act.put, List.setIfInBounds_toArray, List.set_cons_succ, List.set_cons_zero]
          intro va hva vb hvb
          clear hva hvb
          go_wp2
          go_ret
          exact ⟨rfl, HXA.out.trans hx⟩
end Go.Proofs.Ythpnjcakfigicaa.deltaShifts
