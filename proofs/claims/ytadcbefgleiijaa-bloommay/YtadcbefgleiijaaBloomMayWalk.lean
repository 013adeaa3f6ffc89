/-
  The walk of BloomMay.
-/
import Derived.Test.YtadcbefgleiijaaFback
import Derived.Test.YtadcbefgleiijaaBook
namespace Go.Proofs.Ytadcbefgleiijaa
open Go.RowKit
set_option linter.unusedVariables false
/-- Texts turned round and laid beside themselves. -/
def mixT (L : List (List UInt8)) (r : Nat) : Nat → List (List UInt8)
  | 0 => []
  | j + 1 => mixT L r j ++ [L.getD ((j + r) % L.length) [], L.getD j []]
theorem mixT_len (L : List (List UInt8)) (r : Nat) : ∀ j, (mixT L r j).length = 2 * j
  | 0 => rfl
  | j + 1 => by simp [mixT, mixT_len L r j]; omega
theorem mixT_in (L : List (List UInt8)) (r : Nat) : ∀ j, j ≤ L.length → ∀ x ∈ mixT L r j, x ∈ L
  | 0, _, x, h => by simp [mixT] at h
  | j + 1, hj, x, h => by
    have hg : ∀ k, k < L.length → L.getD k [] ∈ L := fun k hk => by
      rw [List.getD_eq_getElem?_getD, List.getElem?_eq_getElem hk]; exact List.getElem_mem hk
    simp only [mixT, List.mem_append, List.mem_cons, List.not_mem_nil, or_false] at h
    rcases h with h | rfl | rfl
    · exact mixT_in L r j (by omega) x h
    · exact hg _ (Nat.mod_lt _ (by omega))
    · exact hg _ (by omega)
theorem mixT_has (L : List (List UInt8)) (r : Nat) : ∀ j i, i < j → (h : i < L.length) → L[i] ∈ mixT L r j
  | 0, i, hi, _ => by omega
  | j + 1, i, hi, h => by
    simp only [mixT, List.mem_append, List.mem_cons, List.not_mem_nil, or_false]
    by_cases e : i < j
    · exact .inl (mixT_has L r j i e h)
    · obtain rfl : i = j := by omega
      right; right
      rw [List.getD_eq_getElem?_getD, List.getElem?_eq_getElem h]; rfl
theorem mixT_mem (L : List (List UInt8)) (r : Nat) (x : List UInt8) : x ∈ L ↔ x ∈ mixT L r L.length := by
  constructor
  · intro h
    obtain ⟨i, hi, rfl⟩ := List.getElem_of_mem h
    exact mixT_has L r L.length i hi hi
  · exact mixT_in L r L.length (Nat.le_refl _) x
end Go.Proofs.Ytadcbefgleiijaa
namespace Go.Proofs.Ytadcbefgleiijaa.bloomMay
open Go.RowKit Go.Proofs.Ytadcbefgleiijaa
set_option linter.unusedVariables false
set_option linter.unusedSimpArgs false
set_option maxRecDepth 100000 in
set_option maxHeartbeats 8000000 in
theorem walk (p0 : Option Addr) (c0 : Nat) (l0 : List (List UInt8)) (a1 : Int) (w : World) (b0 : Rd st w p0 c0 l0) (m0 : ∀ x ∈ l0, x.length ≤ maxLen) (w1 : -9223372036854775808 ≤ a1 ∧ a1 ≤ 9223372036854775807) :
    Calls Try.prog 5 #[.slice p0 l0.length c0, .int .i64 a1] w fun e w' => e = .returned (.bool true) ∧ Below w.heap.size w w' := by
  obtain ⟨wa1, wa2⟩ := w1
  obtain ⟨L, hL⟩ : ∃ L, l0.take 40 = L := ⟨_, rfl⟩
  have hLl : L.length ≤ 40 := by rw [← hL]; simp; omega
  have HLx : Hid (∀ x ∈ L, x.length ≤ 9223372036854775807) := (fun x h => by rw [← hL] at h; exact m0 x (List.mem_of_mem_take h) : ∀ x ∈ L, x.length ≤ 9223372036854775807)
  have HB0 : Hid (Rd st w p0 c0 l0) := b0
  have hRL : Rd st w p0 c0 L := by rw [← hL]; exact b0.take 40
  have HRL : Hid (Rd st w p0 c0 L) := hRL
  have HL : Hid (l0.take 40 = L) := hL
  have hcl := hRL.1
  have hcm := hRL.2.1
  unfold maxLen at hcm
  obtain ⟨K, hK⟩ : ∃ K, Fl.bits L = K := ⟨_, rfl⟩
  obtain ⟨B, hB⟩ : ∃ B, Fl.bytes L = B := ⟨_, rfl⟩
  have hR : Fl.rightB (K : Int) B.length = true := by rw [← hK, ← hB]; exact Fl.right_built L
  have HR : Hid (Fl.rightB (K : Int) B.length = true) := hR
  obtain ⟨_, hKm, hK1, hK2, hBl, _⟩ := Fl.right_div hR
  have hBl8 : B.length ≤ 8192 := by omega
  have HK : Hid (Fl.bits L = K) := hK
  have HBB : Hid (Fl.bytes L = B) := hB
  clear b0 m0 hL hK hB hR hKm hBl
  by_cases hne : 0 < L.length
  · obtain ⟨bb, off, rfl, _⟩ := hRL.2.2.2 0 L[0] (by rw [List.getElem?_eq_getElem hne])
    clear hRL
    go_enter Try.func5, Try.ntmps5
    go_wp2_with fail
    refine (few_is _ _ c0 l0 _ rfl HB0.out).mono ?_
    rintro e wq ⟨rfl, hw⟩
    have hw' := hw.symm; clear hw; subst hw'
    rw [HL.out]
    go_wp2_with fail
    refine (b_build _ _ c0 L _ rfl HRL.out (by omega) HLx.out).mono ?_
    rintro e wb ⟨af, cf, rfl, hbf, hxf⟩
    rw [HBB.out] at hbf
    rw [HK.out, HBB.out]
    obtain ⟨wf, hwwf⟩ : ∃ wf, wb.alloc (Obj.cells #[Value.int IntKind.i64 (K : Int), Value.slice af B.length cf] 25) = wf := ⟨_, rfl⟩
    have hxwf : Ex wb wf := by rw [← hwwf]; exact (Below.refl _ _).alloc (Nat.le_refl _) _
    have HFwf : Hid (FAt wf wb.heap.size (K : Int) (.slice af B.length cf) 25) := (by rw [← hwwf]; exact FAt.new wb (K : Int) _ 25 : FAt wf wb.heap.size (K : Int) (.slice af B.length cf) 25)
    have HBf : Hid (Byt wf af cf B) := hbf.below hxwf
    have HXf : Hid (Ex w wf) := hxf.trans hxwf
    clear hbf hxf hxwf
    simp only [fv]
    go_wp2_with fail
    go_loopw [6] (fun i wr => ∃ j : Nat, j ≤ L.length ∧ i = .int .i64 j ∧ Hid (Ex wf wr)) (fun i _ => L.length - (intOf i).toNat)
    case atStart => exact ⟨0, by omega, rfl, Ex.refl _⟩
    case round =>
      obtain ⟨j, hj, rfl, HXr⟩ := hrel
      by_cases hlt : j < L.length
      · obtain ⟨x, hx⟩ : ∃ x, L[j] = x := ⟨_, rfl⟩
        have hxm : x ∈ L := by rw [← hx]; exact List.getElem_mem hlt
        have HMx : Hid (Fl.may (K : Int) B x = true) := (by rw [← HK.out, ← HBB.out]; exact Fl.may_in hxm : Fl.may (K : Int) B x = true)
        have hxl := HLx.out x hxm
        obtain ⟨_, _, eb, hc⟩ := (HRL.out.below (HXf.out.trans HXr.out)).2.2.2 j x (by rw [List.getElem?_eq_getElem hlt, hx])
        simp only [Option.some.injEq, Addr.mk.injEq, and_true] at eb
        obtain ⟨rfl, rfl⟩ := eb
        have HC : Hid (wr.cell? ⟨bb, off + j, none⟩ = some (.string (str x))) := hc
        have tj : decide ((j : Int) < (L.length : Int)) = true := by simp; omega
        clear hx hxm hc
        go_wp2_with fail
        have hre := Ex.refl
        refine Rg.wp_rows [.inl (fv K (.slice af B.length cf)), .inl (Value.slice (some ⟨bb, off, none⟩) L.length c0), .inl (Value.int .i64 j), .inl (Value.pointer (some ⟨bb, off + j, none⟩)), .inl (Value.string (str x)), .inl (.bool true), .inl (.bool false)] (Ex wr) Ex 81 (by kernel_rfl) rfl (by kernel_rfl) ?st hre (Ex.drew _) ?goods ?fin
        case st => exact trivial
        case goods =>
          refine Rg.goods_cons (Rg.good_load hre rfl rfl rfl (fun wx hC => by exact load_filI (.inl rfl) ((HFwf.out.below HXr.out).below hC))) ?_
          refine Rg.goods_cons (Rg.good_move hre rfl rfl rfl) ?_
          refine Rg.goods_cons (Rg.good_move hre rfl rfl rfl) ?_
          refine Rg.goods_cons (Rg.good_index hre rfl rfl rfl rfl (fun wx hC => by go_simp)) ?_
          refine Rg.goods_cons (Rg.good_load hre rfl rfl rfl (fun wx hC => by have hcz := cell_ex HC.out hC; go_simp)) ?_
          refine Rg.goods_cons (Rg.good_call2 Try.func16 (by kernel_rfl) rfl rfl rfl (by rintro u u2 wx hC rfl rfl; exact ex_row (b_may K af B.length cf B x wx rfl ((HBf.out.below HXr.out).below hC) (by omega) hxl (Fl.right_i6 HR.out) true HMx.out) hC)) ?_
          refine Rg.goods_cons (Rg.good_un hre rfl rfl rfl (fun w => by go_simp)) ?_
          exact Rg.goods_nil
        case fin =>
          intro wx hx
          simp only [Rg.later, Act.put, List.setIfInBounds_toArray, List.set_cons_succ, List.set_cons_zero]
          have HXx : Hid (Ex wf wx) := HXr.out.trans hx
          clear hx
          go_wp2_with fail
          go_roundw
          case rel => exact ⟨j + 1, by omega, by go_num, HXx⟩
          case measure => simp [intOf]; omega
      · obtain rfl : j = L.length := by omega
        have tj : decide ((L.length : Int) < (L.length : Int)) = false := by simp
        have tp : decide (0 < (L.length : Int)) = true := by simp; omega
        go_wp2_with fail
        refine (within_any a1 ((L.length : Int) - 1) _ (by omega) (by omega) (by omega) (by omega)).mono ?_
        rintro e wq ⟨r, hr, rfl, hw⟩
        have hw' := hw.symm; clear hw; subst hw'
        go_wp2_with fail
        have hO0 : Hid (OwnR 9 st wr wr.heap.size (.slice none 0 0) (mixT L r 0)) := (⟨by simp [mixT], .inl ⟨rfl, rfl⟩⟩ : OwnR 9 st wr wr.heap.size (.slice none 0 0) (mixT L r 0))
        obtain ⟨w1, hw1⟩ : ∃ w1, w1 = wr := ⟨_, rfl⟩
        rw [← hw1] at hO0 HXr ⊢
        clear hw1
        go_loopw [7, 9] (fun v i wr => ∃ j : Nat, j ≤ L.length ∧ i = .int .i64 j ∧ Hid (OwnR 9 st wr w1.heap.size v (mixT L r j)) ∧ Hid (Ex w1 wr)) (fun _ i _ => L.length - (intOf i).toNat)
        case atStart => exact ⟨0, by omega, rfl, hO0, Ex.refl _⟩
        case round =>
          obtain ⟨j, hj, rfl, HO, HX1r⟩ := hrel
          clear hO0
          by_cases hlt : j < L.length
          · obtain ⟨q, hq⟩ : ∃ q, (j + r) % L.length = q := ⟨_, rfl⟩
            have hql : q < L.length := by rw [← hq]; exact Nat.mod_lt _ (by omega)
            have hqi : ((j : Int) + (r : Int)) % (L.length : Int) = (q : Int) := by rw [← hq]; simp
            have hLz : ((L.length : Int) == 0) = false := beq_eq_false_iff_ne.2 (by omega)
            have hLn : ¬ L = [] := fun e => by rw [e] at hne; simp at hne
            obtain ⟨x, hx⟩ : ∃ x, L[q] = x := ⟨_, rfl⟩
            obtain ⟨y, hy⟩ : ∃ y, L[j] = y := ⟨_, rfl⟩
            have HN : Hid (mixT L r j ++ [x, y] = mixT L r (j + 1)) := (by
              show _ = mixT L r j ++ [L.getD ((j + r) % L.length) [], L.getD j []]
              rw [hq, List.getD_eq_getElem?_getD, List.getD_eq_getElem?_getD, List.getElem?_eq_getElem hql, List.getElem?_eq_getElem hlt, hx, hy]
              rfl : mixT L r j ++ [x, y] = mixT L r (j + 1))
            have hRr := HRL.out.below (HXf.out.trans (HXr.out.trans HX1r.out))
            obtain ⟨_, _, eb, hcx⟩ := hRr.2.2.2 q x (by rw [List.getElem?_eq_getElem hql, hx])
            simp only [Option.some.injEq, Addr.mk.injEq, and_true] at eb
            obtain ⟨rfl, rfl⟩ := eb
            obtain ⟨_, _, eb, hcy⟩ := hRr.2.2.2 j y (by rw [List.getElem?_eq_getElem hlt, hy])
            simp only [Option.some.injEq, Addr.mk.injEq, and_true] at eb
            obtain ⟨rfl, rfl⟩ := eb
            have HCx : Hid (wr.cell? ⟨bb, off + q, none⟩ = some (.string (str x))) := hcx
            have HCy : Hid (wr.cell? ⟨bb, off + j, none⟩ = some (.string (str y))) := hcy
            have tj : decide ((j : Int) < (L.length : Int)) = true := by simp; omega
            have hmx := mixT_len L r j
            obtain ⟨jr, hjr⟩ : ∃ jr : Nat, j + r = jr := ⟨_, rfl⟩
            have hjri : (j : Int) + (r : Int) = (jr : Int) := by omega
            rw [hjri] at hqi
            have hjrb : jr ≤ 80 := by omega
            clear hq hx hy hcx hcy hRr hjr
            go_wp2_with fail
            have hre := Ex.refl
            refine Rg.wp_rows_tail (List.take 15 _) (List.drop 15 _) (List.take_append_drop 15 _).symm [.inl u7, .inl (Value.slice (some ⟨bb, off, none⟩) L.length c0), .inl (Value.int .i64 j), .inl (Value.int .i64 r), .inl (Value.int .i64 jr), .inl (Value.slice (some ⟨bb, off, none⟩) L.length c0), .inl (Value.int .i64 L.length), .inl (Value.int .i64 q), .inl (Value.pointer (some ⟨bb, off + q, none⟩)), .inl (Value.string (str x)), .inl (Value.slice (some ⟨bb, off, none⟩) L.length c0), .inl (Value.int .i64 j), .inl (Value.pointer (some ⟨bb, off + j, none⟩)), .inl (Value.string (str y)), .inr (IsRd st [x, y])] (Ex wr) Ex 81 (by kernel_rfl) rfl (by kernel_rfl) (by kernel_rfl) (by kernel_rfl) (by decide) (by kernel_rfl) ?st hre (Ex.drew _) ?goods ?fin
            case st => exact ⟨fun v w w' h hx => by obtain ⟨a, c, h1, h2⟩ := h; exact ⟨a, c, h1, h2.below hx⟩, trivial⟩
            case goods =>
              refine Rg.goods_cons (Rg.good_move hre rfl rfl rfl) ?_
              refine Rg.goods_cons (Rg.good_move hre rfl rfl rfl) ?_
              refine Rg.goods_cons (Rg.good_move hre rfl rfl rfl) ?_
              refine Rg.goods_cons (Rg.good_move hre rfl rfl rfl) ?_
              refine Rg.goods_cons (Rg.good_bin hre rfl rfl rfl rfl (fun _ => rfl) (fun w => by go_simp; rw [I.wi64 _ (by omega) (by omega)])) ?_
              refine Rg.goods_cons (Rg.good_move hre rfl rfl rfl) ?_
              refine Rg.goods_cons (Rg.good_len hre rfl rfl (by rintro u wx hC rfl; go_simp)) ?_
              refine Rg.goods_cons (Rg.good_bin hre rfl rfl rfl rfl (fun _ => rfl) (fun w => by go_simp; rw [Int.tmod_eq_emod_of_nonneg (by omega)]; exact hqi)) ?_
              refine Rg.goods_cons (Rg.good_index hre rfl rfl rfl rfl (fun wx hC => by go_simp)) ?_
              refine Rg.goods_cons (Rg.good_load hre rfl rfl rfl (fun wx hC => by have hcz := cell_ex HCx.out hC; go_simp)) ?_
              refine Rg.goods_cons (Rg.good_move hre rfl rfl rfl) ?_
              refine Rg.goods_cons (Rg.good_move hre rfl rfl rfl) ?_
              refine Rg.goods_cons (Rg.good_index hre rfl rfl rfl rfl (fun wx hC => by go_simp)) ?_
              refine Rg.goods_cons (Rg.good_load hre rfl rfl rfl (fun wx hC => by have hcz := cell_ex HCy.out hC; go_simp)) ?_
              refine Rg.goods_cons (Rg.good_strs2 rfl rfl rfl rfl) ?_
              exact Rg.goods_nil
            case fin =>
              intro wx hx
              simp only [Rg.later, List.take_succ_cons, List.take_zero, List.drop_succ_cons, List.drop_zero, Act.put, List.setIfInBounds_toArray, List.set_cons_succ, List.set_cons_zero]
              intro v56 h56
              obtain ⟨a56, c56, rfl, hr56⟩ := h56
              have hO := HO.out.later hx
              have hXx : Ex w1 wx := HX1r.out.trans hx
              have hsz := hXx.size
              clear hx
              go_wp2_with (at_builtin; refine wpList_append_rd (e := 9) (enc := st) rfl (.tmp 42) (.tmp 56) 22 rfl [] 16 Try.underlying22 Try.info9 rfl (fun _ => rfl) w1.heap.size _ (mixT L r j) rfl hO a56 _ c56 [x, y] rfl rfl hr56 (by simp [maxLen]; omega) (by simp; omega) hsz ?_; intro v9 w9 ho9 hg9; rw [HN.out] at ho9; have hX9 : Ex w1 w9 := step_belowR hXx hsz hO hg9; clear hg9)
              have HO9 : Hid (OwnR 9 st w9 w1.heap.size v9 (mixT L r (j + 1))) := ho9
              have HX9 : Hid (Ex w1 w9) := hX9
              clear ho9 hX9 hO hXx
              go_roundw
              case rel => exact ⟨j + 1, by omega, by go_num, HO9, HX9⟩
              case measure => simp [intOf]; omega
          · obtain rfl : j = L.length := by omega
            obtain ⟨M2, hM2⟩ : ∃ M2, mixT L r L.length = M2 := ⟨_, rfl⟩
            have hM2l : M2.length ≤ 80 := by rw [← hM2, mixT_len]; omega
            have hmem := mixT_mem L r
            rw [hM2] at hmem
            have e1 : Fl.bits M2 = K := by rw [← HK.out]; exact ((Fl.same hmem).1).symm
            have e2 : Fl.bytes M2 = B := by rw [← HBB.out]; exact ((Fl.same hmem).2).symm
            have HE1 : Hid (Fl.bits M2 = K) := e1
            have HE2 : Hid (Fl.bytes M2 = B) := e2
            have HMx : Hid (∀ x ∈ M2, x.length ≤ 9223372036854775807) := (fun x h => HLx.out x ((hmem x).2 h) : ∀ x ∈ M2, x.length ≤ 9223372036854775807)
            have hO := HO.out
            rw [hM2] at hO
            obtain ⟨am, cm, hvm, hrm⟩ := hO.rd
            subst hvm
            have HRm : Hid (Rd st wr am cm M2) := hrm
            clear hM2 hmem e1 e2 hO hrm HO
            go_wp2_with fail
            refine (b_build am _ cm M2 _ rfl HRm.out (by omega) HMx.out).mono ?_
            rintro e wc ⟨ag, cg, rfl, hbg, hxg⟩
            rw [HE2.out] at hbg
            rw [HE1.out, HE2.out]
            obtain ⟨wg, hwwg⟩ : ∃ wg, wc.alloc (Obj.cells #[Value.int IntKind.i64 (K : Int), Value.slice ag B.length cg] 25) = wg := ⟨_, rfl⟩
            have hxwg : Ex wc wg := by rw [← hwwg]; exact (Below.refl _ _).alloc (Nat.le_refl _) _
            have HFwg : Hid (FAt wg wc.heap.size (K : Int) (.slice ag B.length cg) 25) := (by rw [← hwwg]; exact FAt.new wc (K : Int) _ 25 : FAt wg wc.heap.size (K : Int) (.slice ag B.length cg) 25)
            have HXfg : Hid (Ex wf wg) := HXr.out.trans (HX1r.out.trans (hxg.trans hxwg))
            have HBg : Hid (Byt wg ag cg B) := hbg.below hxwg
            obtain ⟨i0, i1⟩ := HFwg.out.all
            obtain ⟨j0, j1⟩ := (HFwf.out.below HXfg.out).all
            have hs1 := run_str (n := B.length) HBg.out rfl
            have hs2 := run_str (n := B.length) (HBf.out.below HXfg.out) rfl
            clear hbg hxg hxwg
            simp only [fv]
            go_wp2_with fail
            refine (b_right K af B.length cf _ (by omega) (Fl.right_i6 HR.out) true HR.out).mono ?_
            rintro e wr2 ⟨rfl, hxr2⟩
            have HXr2 : Hid (Ex w wr2) := HXf.out.trans (HXfg.out.trans hxr2)
            clear hxr2 hwwg
            go_wp2_with fail
            refine (known_any _).mono ?_
            rintro e wk ⟨rfl, hxk⟩
            go_wp2_with fail
            go_ret
            exact ⟨rfl, HXr2.out.trans hxk⟩
  · clear hRL
    go_enter Try.func5, Try.ntmps5
    go_wp2_with fail
    refine (few_is _ _ c0 l0 _ rfl HB0.out).mono ?_
    rintro e wq ⟨rfl, hw⟩
    have hw' := hw.symm; clear hw; subst hw'
    rw [HL.out]
    go_wp2_with fail
    refine (b_build _ _ c0 L _ rfl HRL.out (by omega) HLx.out).mono ?_
    rintro e wb ⟨af, cf, rfl, hbf, hxf⟩
    rw [HBB.out] at hbf
    rw [HK.out, HBB.out]
    obtain ⟨wf, hwwf⟩ : ∃ wf, wb.alloc (Obj.cells #[Value.int IntKind.i64 (K : Int), Value.slice af B.length cf] 25) = wf := ⟨_, rfl⟩
    have hxwf : Ex wb wf := by rw [← hwwf]; exact (Below.refl _ _).alloc (Nat.le_refl _) _
    have HFwf : Hid (FAt wf wb.heap.size (K : Int) (.slice af B.length cf) 25) := (by rw [← hwwf]; exact FAt.new wb (K : Int) _ 25 : FAt wf wb.heap.size (K : Int) (.slice af B.length cf) 25)
    have HBf : Hid (Byt wf af cf B) := hbf.below hxwf
    have HXf : Hid (Ex w wf) := hxf.trans hxwf
    clear hbf hxf hxwf
    simp only [fv]
    go_wp2_with fail
    go_loopw [6] (fun i wr => ∃ j : Nat, j ≤ L.length ∧ i = .int .i64 j ∧ Hid (Ex wf wr)) (fun i _ => L.length - (intOf i).toNat)
    case atStart => exact ⟨0, by omega, rfl, Ex.refl _⟩
    case round =>
      obtain ⟨j, hj, rfl, HXr⟩ := hrel
      by_cases hlt : j < L.length
      · omega
      · obtain rfl : j = L.length := by omega
        have tj : decide ((L.length : Int) < (L.length : Int)) = false := by simp
        have tp : decide (0 < (L.length : Int)) = false := decide_eq_false (by omega)
        have tp2 : decide (0 < L.length) = false := decide_eq_false (by omega)
        go_wp2_with fail
        have hO0 : Hid (OwnR 9 st wr wr.heap.size (.slice none 0 0) (mixT L 0 0)) := (⟨by simp [mixT], .inl ⟨rfl, rfl⟩⟩ : OwnR 9 st wr wr.heap.size (.slice none 0 0) (mixT L 0 0))
        obtain ⟨w1, hw1⟩ : ∃ w1, w1 = wr := ⟨_, rfl⟩
        rw [← hw1] at hO0 HXr ⊢
        clear hw1
        go_loopw [7, 9] (fun v i wr => ∃ j : Nat, j ≤ L.length ∧ i = .int .i64 j ∧ Hid (OwnR 9 st wr w1.heap.size v (mixT L 0 j)) ∧ Hid (Ex w1 wr)) (fun _ i _ => L.length - (intOf i).toNat)
        case atStart => exact ⟨0, by omega, rfl, hO0, Ex.refl _⟩
        case round =>
          obtain ⟨j, hj, rfl, HO, HX1r⟩ := hrel
          clear hO0
          by_cases hlt : j < L.length
          · omega
          · obtain rfl : j = L.length := by omega
            obtain ⟨M2, hM2⟩ : ∃ M2, mixT L 0 L.length = M2 := ⟨_, rfl⟩
            have hM2l : M2.length ≤ 80 := by rw [← hM2, mixT_len]; omega
            have hmem := mixT_mem L 0
            rw [hM2] at hmem
            have e1 : Fl.bits M2 = K := by rw [← HK.out]; exact ((Fl.same hmem).1).symm
            have e2 : Fl.bytes M2 = B := by rw [← HBB.out]; exact ((Fl.same hmem).2).symm
            have HE1 : Hid (Fl.bits M2 = K) := e1
            have HE2 : Hid (Fl.bytes M2 = B) := e2
            have HMx : Hid (∀ x ∈ M2, x.length ≤ 9223372036854775807) := (fun x h => HLx.out x ((hmem x).2 h) : ∀ x ∈ M2, x.length ≤ 9223372036854775807)
            have hO := HO.out
            rw [hM2] at hO
            obtain ⟨am, cm, hvm, hrm⟩ := hO.rd
            subst hvm
            have HRm : Hid (Rd st wr am cm M2) := hrm
            clear hM2 hmem e1 e2 hO hrm HO
            go_wp2_with fail
            refine (b_build am _ cm M2 _ rfl HRm.out (by omega) HMx.out).mono ?_
            rintro e wc ⟨ag, cg, rfl, hbg, hxg⟩
            rw [HE2.out] at hbg
            rw [HE1.out, HE2.out]
            obtain ⟨wg, hwwg⟩ : ∃ wg, wc.alloc (Obj.cells #[Value.int IntKind.i64 (K : Int), Value.slice ag B.length cg] 25) = wg := ⟨_, rfl⟩
            have hxwg : Ex wc wg := by rw [← hwwg]; exact (Below.refl _ _).alloc (Nat.le_refl _) _
            have HFwg : Hid (FAt wg wc.heap.size (K : Int) (.slice ag B.length cg) 25) := (by rw [← hwwg]; exact FAt.new wc (K : Int) _ 25 : FAt wg wc.heap.size (K : Int) (.slice ag B.length cg) 25)
            have HXfg : Hid (Ex wf wg) := HXr.out.trans (HX1r.out.trans (hxg.trans hxwg))
            have HBg : Hid (Byt wg ag cg B) := hbg.below hxwg
            obtain ⟨i0, i1⟩ := HFwg.out.all
            obtain ⟨j0, j1⟩ := (HFwf.out.below HXfg.out).all
            have hs1 := run_str (n := B.length) HBg.out rfl
            have hs2 := run_str (n := B.length) (HBf.out.below HXfg.out) rfl
            clear hbg hxg hxwg
            simp only [fv]
            go_wp2_with fail
            refine (b_right K af B.length cf _ (by omega) (Fl.right_i6 HR.out) true HR.out).mono ?_
            rintro e wr2 ⟨rfl, hxr2⟩
            have HXr2 : Hid (Ex w wr2) := HXf.out.trans (HXfg.out.trans hxr2)
            clear hxr2 hwwg
            go_wp2_with fail
            refine (known_any _).mono ?_
            rintro e wk ⟨rfl, hxk⟩
            go_wp2_with fail
            go_ret
            exact ⟨rfl, HXr2.out.trans hxk⟩
end Go.Proofs.Ytadcbefgleiijaa.bloomMay
