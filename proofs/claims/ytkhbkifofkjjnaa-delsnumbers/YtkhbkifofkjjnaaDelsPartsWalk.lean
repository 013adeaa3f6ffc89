/-
  The walk of DelsParts.
-/
import Derived.Test.YtkhbkifofkjjnaaDelsBackWalk
namespace Go.Proofs.Ytkhbkifofkjjnaa.delsParts
open Go.RowKit Go.Proofs.Ytkhbkifofkjjnaa
set_option linter.unusedVariables false
set_option linter.unusedSimpArgs false
set_option maxRecDepth 100000 in
set_option maxHeartbeats 8000000 in
theorem walk (a0 : Int) (p1 : Option Addr) (c1 : Nat) (l1 : List Int) (w : World) (w0 : -9223372036854775808 ≤ a0 ∧ a0 ≤ 9223372036854775807) (b1 : Rd z64 w p1 c1 l1) (m1' : ∀ x ∈ l1, In64 x) (w1' : l1.length ≤ 17592186043904) :
    Calls Try.prog 7 #[.int .i64 a0, .slice p1 l1.length c1] w fun e w' => e = .returned (.bool true) ∧ Below w.heap.size w w' := by
  have HB1 : Hid (Rd z64 w p1 c1 l1) := b1
  have HO1 : Hid (∀ x ∈ l1, In64 x) := m1'
  have hcl1 := b1.1
  have hcm1 := b1.2.1
  unfold maxLen at hcm1
  clear b1 m1'
  go_enter Try.func7, Try.ntmps7
  go_wp2_with fail
  refine (within_any a0 300 _ w0.1 w0.2 (by omega) (by omega)).mono ?_
  rintro e wq ⟨n, hn, rfl, hw⟩
  have hw' := hw.symm; clear hw; subst hw'
  have hn300 : n ≤ 300 := by omega
  go_wp2_with fail
  refine (new_ok n _ (by omega)).mono ?_
  rintro e w1 ⟨v1, fp, rfl, hm1, hf1, hx1⟩
  obtain ⟨m1, rfl⟩ := hm1.some_
  have h0M : Hid (Mk w1 (.pointer (some ⟨m1, 0, none⟩)) fp (List.replicate n false)) := hm1
  have h0F : Hid (∀ k, fp k → w.heap.size ≤ k) := hf1
  have h0X : Hid (Ex w w1) := hx1
  have h0L : Hid ((List.replicate n false).length = n) := (by simp : (List.replicate n false).length = n)
  have h0C : Hid (0 = Dl.count (List.replicate n false)) := (by simp [Dl.count, List.countP_replicate] : 0 = Dl.count (List.replicate n false))
  clear hm1 hf1 hx1
  go_wp2_with fail
  go_loopw [7, 8] (fun vn vi wr => ∃ (i cnt : Nat) (fp : Nat → Prop) (ws : List Bool), i ≤ l1.length ∧ i ≤ 100 ∧ cnt ≤ i ∧ vi = .int .i64 (i : Int) ∧ vn = .int .i64 (cnt : Int) ∧ Hid (Mk wr (.pointer (some ⟨m1, 0, none⟩)) fp ws) ∧ Hid (∀ k, fp k → w.heap.size ≤ k) ∧ Hid (ws.length = n) ∧ Hid (cnt = Dl.count ws) ∧ Hid (Ex w wr)) (fun _ vi _ => l1.length - (intOf vi).toNat)
  case atStart => exact ⟨0, 0, fp, List.replicate n false, by omega, by omega, by omega, rfl, rfl, h0M, h0F, h0L, h0C, h0X⟩
  case round =>
    clear h0M h0F h0L h0X h0C
    obtain ⟨i, cnt, fp, ws, hi, hi2, hcnt, rfl, rfl, HM, HF, HLn0, HC, HX⟩ := hrel
    by_cases hlt : i < l1.length ∧ i < 100
    · obtain ⟨hlt1, hlt2⟩ := hlt
      have ti1 : decide ((i : Int) < (l1.length : Int)) = true := by simp; omega
      have ti2 : decide ((i : Int) < 100) = true := by simp; omega
      have ti3 : decide (i < 100) = true := by simp; omega
      obtain ⟨b, off, rfl, hcw⟩ := HB1.out.at hlt1
      obtain ⟨x, hx⟩ : ∃ x, x = l1[i] := ⟨_, rfl⟩
      rw [← hx] at hcw
      have hc' := cell_ex hcw HX.out
      have hii : (i : Int) < (l1.length : Int) := by omega
      obtain ⟨hx1, hx2⟩ : In64 x := by rw [hx]; exact HO1.out _ (List.getElem_mem hlt1)
      simp only [z64] at hcw hc'
      clear hx
      by_cases hx0 : x < 0
      · have tx : decide (0 ≤ x) = false := by simp; omega
        have HH1 : Hid (Dl.has ws x = false) := Dl.has_out (.inl hx0)
        have HS : Hid (Dl.setB ws x = false) := (by rw [Dl.setB, decide_eq_false (by omega)]; rfl : Dl.setB ws x = false)
        have HW : Hid (Dl.setW ws x = ws) := (by rw [Dl.setW, HS.out]; rfl : Dl.setW ws x = ws)
        have HH2 : Hid (Dl.has ws x = false) := HH1
        have HCn : Hid (cnt = Dl.count ws) := HC
        have HLn : Hid (ws.length = n) := HLn0
        go_wp2_with fail
        refine (has_is _ fp ws x _ HM.out (by omega) (by omega) false HH1.out).mono ?_
        rintro e w2 ⟨rfl, hx2⟩
        have HM2 : Hid (Mk w2 (.pointer (some ⟨m1, 0, none⟩)) fp ws) := HM.out.below hx2
        have HX2 : Hid (Ex w w2) := HX.out.trans hx2
        have hc2 := cell_ex hc' hx2
        clear hx2 hc'
        go_wp2_with fail
        refine (set_is _ fp ws x _ HM2.out (by omega) (by omega) false HS.out ws HW.out).mono ?_
        rintro e w3 ⟨rfl, fp2, hm3, ht3, hf3⟩
        have hsz := HX2.out.size
        have HM3 : Hid (Mk w3 (.pointer (some ⟨m1, 0, none⟩)) fp2 ws) := hm3
        have HF3 : Hid (∀ k, fp2 k → w.heap.size ≤ k) := (fun k hk => by rcases hf3 k hk with h | h; exact HF.out k h; omega : ∀ k, fp2 k → w.heap.size ≤ k)
        have HX3 : Hid (Ex w w3) := Touch.ex HX2.out ht3 HF.out
        have hc3 := cell_ex hcw HX3.out
        clear hm3 ht3 hf3 hsz hc2
        go_wp2_with fail
        refine (has_is _ fp2 ws x _ HM3.out (by omega) (by omega) false HH2.out).mono ?_
        rintro e w4 ⟨rfl, hx4⟩
        have HM4 : Hid (Mk w4 (.pointer (some ⟨m1, 0, none⟩)) fp2 ws) := HM3.out.below hx4
        have HX4 : Hid (Ex w w4) := HX3.out.trans hx4
        clear hx4 hc3
        go_wp2_with fail
        refine (count_is _ fp2 ws _ HM4.out (cnt) HCn.out.symm).mono ?_
        rintro e w5 ⟨rfl, hx5⟩
        have HM5 : Hid (Mk w5 (.pointer (some ⟨m1, 0, none⟩)) fp2 ws) := HM4.out.below hx5
        have HX5 : Hid (Ex w w5) := HX4.out.trans hx5
        clear hx5
        go_wp2_with fail
        go_roundw
        case rel => exact ⟨i + 1, cnt, fp2, ws, by omega, by omega, by omega, by go_num, rfl, HM5, HF3, HLn, HCn, HX5⟩
        case measure => simp [intOf]; omega
      · have tx : decide (0 ≤ x) = true := by simp; omega
        by_cases hqn : x < (n : Int)
        · have tq : decide (x < (n : Int)) = true := by simp; omega
          obtain ⟨q, hq⟩ : ∃ q : Nat, x = (q : Int) := ⟨x.toNat, by omega⟩
          have hql : q < ws.length := by rw [HLn0.out]; omega
          obtain ⟨c, hcq⟩ : ∃ c, c = ws[q] := ⟨_, rfl⟩
          have hat : Dl.has ws x = c := by rw [hq, Dl.has_nat, List.getD_eq_getElem?_getD, List.getElem?_eq_getElem hql, hcq]; rfl
          have hset : Dl.setB ws x = !c := by rw [Dl.setB, hat, decide_eq_true (by omega), decide_eq_true (by have := HLn0.out; omega)]; simp
          cases c with
          | true =>
            have HH1 : Hid (Dl.has ws x = true) := hat
            have HS : Hid (Dl.setB ws x = false) := hset
            have HW : Hid (Dl.setW ws x = ws) := (by rw [Dl.setW, HS.out]; rfl : Dl.setW ws x = ws)
            have HH2 : Hid (Dl.has ws x = true) := HH1
            have HCn : Hid (cnt = Dl.count ws) := HC
            have HLn : Hid (ws.length = n) := HLn0
            clear hat hset hcq hq
            go_wp2_with fail
            refine (has_is _ fp ws x _ HM.out (by omega) (by omega) true HH1.out).mono ?_
            rintro e w2 ⟨rfl, hx2⟩
            have HM2 : Hid (Mk w2 (.pointer (some ⟨m1, 0, none⟩)) fp ws) := HM.out.below hx2
            have HX2 : Hid (Ex w w2) := HX.out.trans hx2
            have hc2 := cell_ex hc' hx2
            clear hx2 hc'
            go_wp2_with fail
            refine (set_is _ fp ws x _ HM2.out (by omega) (by omega) false HS.out ws HW.out).mono ?_
            rintro e w3 ⟨rfl, fp2, hm3, ht3, hf3⟩
            have hsz := HX2.out.size
            have HM3 : Hid (Mk w3 (.pointer (some ⟨m1, 0, none⟩)) fp2 ws) := hm3
            have HF3 : Hid (∀ k, fp2 k → w.heap.size ≤ k) := (fun k hk => by rcases hf3 k hk with h | h; exact HF.out k h; omega : ∀ k, fp2 k → w.heap.size ≤ k)
            have HX3 : Hid (Ex w w3) := Touch.ex HX2.out ht3 HF.out
            have hc3 := cell_ex hcw HX3.out
            clear hm3 ht3 hf3 hsz hc2
            go_wp2_with fail
            refine (has_is _ fp2 ws x _ HM3.out (by omega) (by omega) true HH2.out).mono ?_
            rintro e w4 ⟨rfl, hx4⟩
            have HM4 : Hid (Mk w4 (.pointer (some ⟨m1, 0, none⟩)) fp2 ws) := HM3.out.below hx4
            have HX4 : Hid (Ex w w4) := HX3.out.trans hx4
            clear hx4 hc3
            go_wp2_with fail
            refine (count_is _ fp2 ws _ HM4.out (cnt) HCn.out.symm).mono ?_
            rintro e w5 ⟨rfl, hx5⟩
            have HM5 : Hid (Mk w5 (.pointer (some ⟨m1, 0, none⟩)) fp2 ws) := HM4.out.below hx5
            have HX5 : Hid (Ex w w5) := HX4.out.trans hx5
            clear hx5
            go_wp2_with fail
            go_roundw
            case rel => exact ⟨i + 1, cnt, fp2, ws, by omega, by omega, by omega, by go_num, rfl, HM5, HF3, HLn, HCn, HX5⟩
            case measure => simp [intOf]; omega
          | false =>
            have HH1 : Hid (Dl.has ws x = false) := hat
            have HS : Hid (Dl.setB ws x = true) := hset
            have hws2 : ws[q]? = some false := by rw [List.getElem?_eq_getElem hql, ← hcq]
            obtain ⟨ws2, hw2⟩ : ∃ ws2, ws.set q true = ws2 := ⟨_, rfl⟩
            have HW : Hid (Dl.setW ws x = ws2) := (by rw [Dl.setW, HS.out, if_pos rfl, hq, Int.toNat_natCast, hw2] : Dl.setW ws x = ws2)
            have HH2 : Hid (Dl.has ws2 x = true) := (by rw [hq, Dl.has_nat, ← hw2, List.getD_eq_getElem?_getD, List.getElem?_set_self hql]; rfl : Dl.has ws2 x = true)
            have HCn : Hid (cnt + 1 = Dl.count ws2) := (by rw [← hw2, Dl.count_set hws2, HC.out] : cnt + 1 = Dl.count ws2)
            have HLn : Hid (ws2.length = n) := (by rw [← hw2, List.length_set]; exact HLn0.out : ws2.length = n)
            clear hat hset hcq hq hws2 hw2
            go_wp2_with fail
            refine (has_is _ fp ws x _ HM.out (by omega) (by omega) false HH1.out).mono ?_
            rintro e w2 ⟨rfl, hx2⟩
            have HM2 : Hid (Mk w2 (.pointer (some ⟨m1, 0, none⟩)) fp ws) := HM.out.below hx2
            have HX2 : Hid (Ex w w2) := HX.out.trans hx2
            have hc2 := cell_ex hc' hx2
            clear hx2 hc'
            go_wp2_with fail
            refine (set_is _ fp ws x _ HM2.out (by omega) (by omega) true HS.out ws2 HW.out).mono ?_
            rintro e w3 ⟨rfl, fp2, hm3, ht3, hf3⟩
            have hsz := HX2.out.size
            have HM3 : Hid (Mk w3 (.pointer (some ⟨m1, 0, none⟩)) fp2 ws2) := hm3
            have HF3 : Hid (∀ k, fp2 k → w.heap.size ≤ k) := (fun k hk => by rcases hf3 k hk with h | h; exact HF.out k h; omega : ∀ k, fp2 k → w.heap.size ≤ k)
            have HX3 : Hid (Ex w w3) := Touch.ex HX2.out ht3 HF.out
            have hc3 := cell_ex hcw HX3.out
            clear hm3 ht3 hf3 hsz hc2
            go_wp2_with fail
            refine (has_is _ fp2 ws2 x _ HM3.out (by omega) (by omega) true HH2.out).mono ?_
            rintro e w4 ⟨rfl, hx4⟩
            have HM4 : Hid (Mk w4 (.pointer (some ⟨m1, 0, none⟩)) fp2 ws2) := HM3.out.below hx4
            have HX4 : Hid (Ex w w4) := HX3.out.trans hx4
            clear hx4 hc3
            go_wp2_with fail
            refine (count_is _ fp2 ws2 _ HM4.out (cnt + 1) HCn.out.symm).mono ?_
            rintro e w5 ⟨rfl, hx5⟩
            have HM5 : Hid (Mk w5 (.pointer (some ⟨m1, 0, none⟩)) fp2 ws2) := HM4.out.below hx5
            have HX5 : Hid (Ex w w5) := HX4.out.trans hx5
            clear hx5
            go_wp2_with fail
            go_roundw
            case rel => exact ⟨i + 1, cnt + 1, fp2, ws2, by omega, by omega, by omega, by go_num, by go_num, HM5, HF3, HLn, HCn, HX5⟩
            case measure => simp [intOf]; omega
        · have tq : decide (x < (n : Int)) = false := by simp; omega
          have HH1 : Hid (Dl.has ws x = false) := Dl.has_out (.inr (by have := HLn0.out; omega))
          have HS : Hid (Dl.setB ws x = false) := (by rw [Dl.setB, decide_eq_false (show ¬ x < (ws.length : Int) by have := HLn0.out; omega)]; simp : Dl.setB ws x = false)
          have HW : Hid (Dl.setW ws x = ws) := (by rw [Dl.setW, HS.out]; rfl : Dl.setW ws x = ws)
          have HH2 : Hid (Dl.has ws x = false) := HH1
          have HCn : Hid (cnt = Dl.count ws) := HC
          have HLn : Hid (ws.length = n) := HLn0
          go_wp2_with fail
          refine (has_is _ fp ws x _ HM.out (by omega) (by omega) false HH1.out).mono ?_
          rintro e w2 ⟨rfl, hx2⟩
          have HM2 : Hid (Mk w2 (.pointer (some ⟨m1, 0, none⟩)) fp ws) := HM.out.below hx2
          have HX2 : Hid (Ex w w2) := HX.out.trans hx2
          have hc2 := cell_ex hc' hx2
          clear hx2 hc'
          go_wp2_with fail
          refine (set_is _ fp ws x _ HM2.out (by omega) (by omega) false HS.out ws HW.out).mono ?_
          rintro e w3 ⟨rfl, fp2, hm3, ht3, hf3⟩
          have hsz := HX2.out.size
          have HM3 : Hid (Mk w3 (.pointer (some ⟨m1, 0, none⟩)) fp2 ws) := hm3
          have HF3 : Hid (∀ k, fp2 k → w.heap.size ≤ k) := (fun k hk => by rcases hf3 k hk with h | h; exact HF.out k h; omega : ∀ k, fp2 k → w.heap.size ≤ k)
          have HX3 : Hid (Ex w w3) := Touch.ex HX2.out ht3 HF.out
          have hc3 := cell_ex hcw HX3.out
          clear hm3 ht3 hf3 hsz hc2
          go_wp2_with fail
          refine (has_is _ fp2 ws x _ HM3.out (by omega) (by omega) false HH2.out).mono ?_
          rintro e w4 ⟨rfl, hx4⟩
          have HM4 : Hid (Mk w4 (.pointer (some ⟨m1, 0, none⟩)) fp2 ws) := HM3.out.below hx4
          have HX4 : Hid (Ex w w4) := HX3.out.trans hx4
          clear hx4 hc3
          go_wp2_with fail
          refine (count_is _ fp2 ws _ HM4.out (cnt) HCn.out.symm).mono ?_
          rintro e w5 ⟨rfl, hx5⟩
          have HM5 : Hid (Mk w5 (.pointer (some ⟨m1, 0, none⟩)) fp2 ws) := HM4.out.below hx5
          have HX5 : Hid (Ex w w5) := HX4.out.trans hx5
          clear hx5
          go_wp2_with fail
          go_roundw
          case rel => exact ⟨i + 1, cnt, fp2, ws, by omega, by omega, by omega, by go_num, rfl, HM5, HF3, HLn, HCn, HX5⟩
          case measure => simp [intOf]; omega
    · have HLn : Hid (ws.length = n) := HLn0
      obtain ⟨LF, hLF⟩ : ∃ L, Dl.left ws = L := ⟨_, rfl⟩
      have HLF : Hid (Dl.left ws = LF) := hLF
      have hLFl : LF.length ≤ 300 := by have := Dl.left_len ws; have h2 := HLn.out; rw [hLF] at this; omega
      clear hLF
      by_cases hl1 : i < l1.length
      · have ti1 : decide ((i : Int) < (l1.length : Int)) = true := by simp; omega
        have ti2 : decide ((i : Int) < 100) = false := by simp; omega
        have ti3 : decide (i < 100) = false := by simp; omega
        go_wp2_with fail
        refine (left_is _ fp ws _ HM.out LF HLF.out).mono ?_
        rintro e w5 ⟨u5, rfl, ⟨a12, c12, hv12, hb12⟩, hx5⟩
        subst hv12
        have hcl12 := hb12.1
        have hcm12 := hb12.2.1
        unfold maxLen at hcm12
        have HB12 : Hid (Rd z64 w5 a12 c12 LF) := hb12
        have HXr0 : Hid (Ex wr w5) := hx5
        have HX5 : Hid (Ex w w5) := HX.out.trans hx5
        clear hb12 hx5
        obtain ⟨wo, hwo⟩ : ∃ wo, wo = wr := ⟨_, rfl⟩
        subst hwo
        go_wp2_with fail
        go_loopw [13] (fun vi wr => ∃ k : Nat, k ≤ LF.length ∧ vi = .int .i64 (k : Int) ∧ Hid (Ex w5 wr)) (fun vi _ => LF.length - (intOf vi).toNat)
        case atStart => exact ⟨0, by omega, rfl, Ex.refl _⟩
        case round =>
          obtain ⟨k, hk, rfl, HXr2⟩ := hrel
          by_cases hlt : k < LF.length
          · have tk : decide ((k : Int) < (LF.length : Int)) = true := by simp; omega
            have hki : (k : Int) < (LF.length : Int) := by omega
            obtain ⟨bq, oq, rfl, hc⟩ := (HB12.out.below HXr2.out).at hlt
            obtain ⟨yk, hyk⟩ : ∃ y, y = LF[k] := ⟨_, rfl⟩
            rw [← hyk] at hc
            have HCk : Hid (wr.cell? ⟨bq, oq + k, none⟩ = some (.int .i64 yk)) := hc
            obtain ⟨q, hq1, hq2⟩ := Dl.left_at 0 ws yk (by rw [hyk]; have h := HLF.out; unfold Dl.left at h; rw [h]; exact List.getElem_mem hlt)
            have hql := (List.getElem?_eq_some_iff.1 hq2).1
            have hwl := HLn.out
            have hy0 : 0 ≤ yk := by omega
            have hy1 : yk ≤ 1000 := by omega
            have HHk : Hid (Dl.has ws yk = false) := (by rw [hq1, Nat.zero_add, Dl.has_nat, List.getD_eq_getElem?_getD, hq2]; rfl : Dl.has ws yk = false)
            have HMq : Hid (Mk w5 (.pointer (some ⟨m1, 0, none⟩)) fp ws) := HM.out.below HXr0.out
            clear hc hq1 hq2 hql hwl
            by_cases hk0 : k = 0
            · have hk1 : k ≤ 0 := by omega
              clear hk0 hyk
              go_wp2_with fail
              have hre := Ex.refl
              refine Rg.wp_rows [.inl (.pointer (some ⟨m1, 0, none⟩)), .inl (.slice (some ⟨bq, oq, none⟩) LF.length c12), .inl (.int .i64 (k : Int)), .inl (.pointer (some ⟨bq, oq + k, none⟩)), .inl (.int .i64 yk), .inl (.bool false), .inl (.bool false), .inl (.int .i64 (k : Int)), .inl (.bool false), .inl (.bool false), .inl undef, .inl undef, .inl undef, .inl undef, .inl undef, .inl undef, .inl undef, .inl undef, .inl undef, .inl undef, .inl (.bool false), .inl (.bool false)] (Ex wr) Ex 151 (by kernel_rfl) rfl (by kernel_rfl) ?st hre (Ex.drew _) ?goods ?fin
              case st => exact trivial
              case goods =>
                refine Rg.goods_cons (Rg.good_move hre rfl rfl rfl) ?_
                refine Rg.goods_cons (Rg.good_move hre rfl rfl rfl) ?_
                refine Rg.goods_cons (Rg.good_move hre rfl rfl rfl) ?_
                refine Rg.goods_cons (Rg.good_index hre rfl rfl rfl rfl (fun wx hC => by go_simp)) ?_
                refine Rg.goods_cons (Rg.good_load hre rfl rfl rfl (fun wx hC => by have hcz := cell_ex HCk.out hC; go_simp)) ?_
                refine Rg.goods_cons (Rg.good_call2 Try.func13 (by kernel_rfl) rfl rfl rfl (by rintro u u2 wx hC rfl rfl; exact ex_row (has_is _ fp ws yk wx (HMq.out.below (HXr2.out.trans hC)) (by omega) (by omega) false HHk.out) hC)) ?_
                refine Rg.goods_cons (Rg.good_move hre rfl rfl rfl) ?_
                refine Rg.goods_cons (Rg.good_move hre rfl rfl rfl) ?_
                refine Rg.goods_cons (Rg.good_bin hre rfl rfl rfl rfl (fun _ => rfl) (fun w => by simp [go_sem]; omega)) ?_
                refine Rg.goods_cons (Rg.good_move hre rfl rfl rfl) ?_
                refine Rg.goods_cons (Rg.good_skip rfl) ?_
                refine Rg.goods_cons (Rg.good_skip rfl) ?_
                refine Rg.goods_cons (Rg.good_skip rfl) ?_
                refine Rg.goods_cons (Rg.good_skip rfl) ?_
                refine Rg.goods_cons (Rg.good_skip rfl) ?_
                refine Rg.goods_cons (Rg.good_skip rfl) ?_
                refine Rg.goods_cons (Rg.good_skip rfl) ?_
                refine Rg.goods_cons (Rg.good_skip rfl) ?_
                refine Rg.goods_cons (Rg.good_skip rfl) ?_
                refine Rg.goods_cons (Rg.good_skip rfl) ?_
                refine Rg.goods_cons (Rg.good_pick false hre rfl rfl rfl rfl) ?_
                refine Rg.goods_cons (Rg.good_pick false hre rfl rfl rfl rfl) ?_
                exact Rg.goods_nil
              case fin =>
                intro wx hx
                simp only [Rg.later, Act.put, List.setIfInBounds_toArray, List.set_cons_succ, List.set_cons_zero]
                have HXx : Hid (Ex w5 wx) := HXr2.out.trans hx
                clear hx
                go_wp2_with fail
                go_roundw
                case rel => exact ⟨k + 1, by omega, by go_num, HXx⟩
                case measure => simp [intOf]; omega
            · obtain ⟨j, hj1, hj2⟩ : ∃ j, k ≤ j + 1 ∧ j + 1 ≤ k := ⟨k - 1, by omega, by omega⟩
              have hjl : j < LF.length := by omega
              have hji : (j : Int) < (LF.length : Int) := by omega
              obtain ⟨_, _, e2, hcj⟩ := (HB12.out.below HXr2.out).at hjl
              simp only [Option.some.injEq, Addr.mk.injEq, and_true] at e2
              obtain ⟨rfl, rfl⟩ := e2
              obtain ⟨yj, hyj⟩ : ∃ y, y = LF[j] := ⟨_, rfl⟩
              rw [← hyj] at hcj
              have HCj : Hid (wr.cell? ⟨bq, oq + j, none⟩ = some (.int .i64 yj)) := hcj
              have hlt2 : yj < yk := by
                rw [hyj, hyk]
                have hr := Dl.left_rise 0 ws
                have h := HLF.out
                unfold Dl.left at h
                rw [h] at hr
                exact (List.pairwise_iff_getElem.1 hr) j k hjl hlt (by omega)
              clear hcj hyk hyj hk0
              go_wp2_with fail
              have hre := Ex.refl
              refine Rg.wp_rows [.inl (.pointer (some ⟨m1, 0, none⟩)), .inl (.slice (some ⟨bq, oq, none⟩) LF.length c12), .inl (.int .i64 (k : Int)), .inl (.pointer (some ⟨bq, oq + k, none⟩)), .inl (.int .i64 yk), .inl (.bool false), .inl (.bool false), .inl (.int .i64 (k : Int)), .inl (.bool true), .inl (.bool true), .inl (.slice (some ⟨bq, oq, none⟩) LF.length c12), .inl (.int .i64 (k : Int)), .inl (.int .i64 (j : Int)), .inl (.pointer (some ⟨bq, oq + j, none⟩)), .inl (.int .i64 yj), .inl (.slice (some ⟨bq, oq, none⟩) LF.length c12), .inl (.int .i64 (k : Int)), .inl (.pointer (some ⟨bq, oq + k, none⟩)), .inl (.int .i64 yk), .inl (.bool false), .inl (.bool false), .inl (.bool false)] (Ex wr) Ex 151 (by kernel_rfl) rfl (by kernel_rfl) ?st hre (Ex.drew _) ?goods ?fin
              case st => exact trivial
              case goods =>
                refine Rg.goods_cons (Rg.good_move hre rfl rfl rfl) ?_
                refine Rg.goods_cons (Rg.good_move hre rfl rfl rfl) ?_
                refine Rg.goods_cons (Rg.good_move hre rfl rfl rfl) ?_
                refine Rg.goods_cons (Rg.good_index hre rfl rfl rfl rfl (fun wx hC => by go_simp)) ?_
                refine Rg.goods_cons (Rg.good_load hre rfl rfl rfl (fun wx hC => by have hcz := cell_ex HCk.out hC; go_simp)) ?_
                refine Rg.goods_cons (Rg.good_call2 Try.func13 (by kernel_rfl) rfl rfl rfl (by rintro u u2 wx hC rfl rfl; exact ex_row (has_is _ fp ws yk wx (HMq.out.below (HXr2.out.trans hC)) (by omega) (by omega) false HHk.out) hC)) ?_
                refine Rg.goods_cons (Rg.good_move hre rfl rfl rfl) ?_
                refine Rg.goods_cons (Rg.good_move hre rfl rfl rfl) ?_
                refine Rg.goods_cons (Rg.good_bin hre rfl rfl rfl rfl (fun _ => rfl) (fun w => by simp [go_sem]; omega)) ?_
                refine Rg.goods_cons (Rg.good_move hre rfl rfl rfl) ?_
                refine Rg.goods_cons (Rg.good_move hre rfl rfl rfl) ?_
                refine Rg.goods_cons (Rg.good_move hre rfl rfl rfl) ?_
                refine Rg.goods_cons (Rg.good_bin hre rfl rfl rfl rfl (fun _ => rfl) (fun w => by go_simp; rw [I.wi64 _ (by omega) (by omega)]; omega)) ?_
                refine Rg.goods_cons (Rg.good_index hre rfl rfl rfl rfl (fun wx hC => by go_simp)) ?_
                refine Rg.goods_cons (Rg.good_load hre rfl rfl rfl (fun wx hC => by have hcz := cell_ex HCj.out hC; go_simp)) ?_
                refine Rg.goods_cons (Rg.good_move hre rfl rfl rfl) ?_
                refine Rg.goods_cons (Rg.good_move hre rfl rfl rfl) ?_
                refine Rg.goods_cons (Rg.good_index hre rfl rfl rfl rfl (fun wx hC => by go_simp)) ?_
                refine Rg.goods_cons (Rg.good_load hre rfl rfl rfl (fun wx hC => by have hcz := cell_ex HCk.out hC; go_simp)) ?_
                refine Rg.goods_cons (Rg.good_bin hre rfl rfl rfl rfl (fun _ => rfl) (fun w => by simp [go_sem]; omega)) ?_
                refine Rg.goods_cons (Rg.good_pick true hre rfl rfl rfl rfl) ?_
                refine Rg.goods_cons (Rg.good_pick false hre rfl rfl rfl rfl) ?_
                exact Rg.goods_nil
              case fin =>
                intro wx hx
                simp only [Rg.later, Act.put, List.setIfInBounds_toArray, List.set_cons_succ, List.set_cons_zero]
                have HXx : Hid (Ex w5 wx) := HXr2.out.trans hx
                clear hx
                go_wp2_with fail
                go_roundw
                case rel => exact ⟨k + 1, by omega, by go_num, HXx⟩
                case measure => simp [intOf]; omega
          · have tk : decide ((k : Int) < (LF.length : Int)) = false := by simp; omega
            obtain ⟨n2, hn1⟩ : ∃ n2 : Nat, (n : Int) + 1 = (n2 : Int) := ⟨n + 1, by omega⟩
            have hn2a : n + 1 ≤ n2 := by omega
            have hn2b : n2 ≤ 400 := by omega
            go_wp2_with fail
            refine (new_ok n2 _ (by omega)).mono ?_
            rintro e w6 ⟨v6, fp6, rfl, hm6, hf6, hx6⟩
            obtain ⟨m6, rfl⟩ := hm6.some_
            have HM6 : Hid (Mk w6 (.pointer (some ⟨m6, 0, none⟩)) fp6 (List.replicate n2 false)) := hm6
            have HMr : Hid (Mk w6 (.pointer (some ⟨m1, 0, none⟩)) fp ws) := HM.out.below (HXr0.out.trans (HXr2.out.trans hx6))
            have HX6 : Hid (Ex w w6) := HX5.out.trans (HXr2.out.trans hx6)
            obtain ⟨lf, hlf⟩ : ∃ k, LF.length = k := ⟨_, rfl⟩
            have hsum : lf + cnt = n := by have := Dl.left_len ws; rw [HLF.out, ← HC.out, HLn.out, hlf] at this; exact this
            have hlc : (lf : Int) + (cnt : Int) = (n : Int) := by omega
            clear hm6 hf6 hx6 hn1 hsum
            rw [hlf]
            go_wp2_with fail
            refine (or_bad _ _ fp fp6 ws (List.replicate n2 false) _ HMr.out HM6.out (by rw [HLn.out, List.length_replicate]; omega)).mono ?_
            rintro e w7 ⟨rfl, hx7⟩
            have HMs : Hid (Mk w7 (.pointer (some ⟨m1, 0, none⟩)) fp ws) := HMr.out.below hx7
            have HX7 : Hid (Ex w w7) := HX6.out.trans hx7
            clear hx7
            go_wp2_with fail
            refine (count_is _ fp ws _ HMs.out cnt HC.out.symm).mono ?_
            rintro e w8 ⟨rfl, hx8⟩
            have HX8 : Hid (Ex w w8) := HX7.out.trans hx8
            clear hx8
            go_wp2_with fail
            refine (known_any _).mono ?_
            rintro e wk ⟨rfl, hxk⟩
            go_wp2_with fail
            go_ret
            exact ⟨rfl, HX8.out.trans hxk⟩
      · have ti1 : decide ((i : Int) < (l1.length : Int)) = false := by simp; omega
        go_wp2_with fail
        refine (left_is _ fp ws _ HM.out LF HLF.out).mono ?_
        rintro e w5 ⟨u5, rfl, ⟨a12, c12, hv12, hb12⟩, hx5⟩
        subst hv12
        have hcl12 := hb12.1
        have hcm12 := hb12.2.1
        unfold maxLen at hcm12
        have HB12 : Hid (Rd z64 w5 a12 c12 LF) := hb12
        have HXr0 : Hid (Ex wr w5) := hx5
        have HX5 : Hid (Ex w w5) := HX.out.trans hx5
        clear hb12 hx5
        obtain ⟨wo, hwo⟩ : ∃ wo, wo = wr := ⟨_, rfl⟩
        subst hwo
        go_wp2_with fail
        go_loopw [13] (fun vi wr => ∃ k : Nat, k ≤ LF.length ∧ vi = .int .i64 (k : Int) ∧ Hid (Ex w5 wr)) (fun vi _ => LF.length - (intOf vi).toNat)
        case atStart => exact ⟨0, by omega, rfl, Ex.refl _⟩
        case round =>
          obtain ⟨k, hk, rfl, HXr2⟩ := hrel
          by_cases hlt : k < LF.length
          · have tk : decide ((k : Int) < (LF.length : Int)) = true := by simp; omega
            have hki : (k : Int) < (LF.length : Int) := by omega
            obtain ⟨bq, oq, rfl, hc⟩ := (HB12.out.below HXr2.out).at hlt
            obtain ⟨yk, hyk⟩ : ∃ y, y = LF[k] := ⟨_, rfl⟩
            rw [← hyk] at hc
            have HCk : Hid (wr.cell? ⟨bq, oq + k, none⟩ = some (.int .i64 yk)) := hc
            obtain ⟨q, hq1, hq2⟩ := Dl.left_at 0 ws yk (by rw [hyk]; have h := HLF.out; unfold Dl.left at h; rw [h]; exact List.getElem_mem hlt)
            have hql := (List.getElem?_eq_some_iff.1 hq2).1
            have hwl := HLn.out
            have hy0 : 0 ≤ yk := by omega
            have hy1 : yk ≤ 1000 := by omega
            have HHk : Hid (Dl.has ws yk = false) := (by rw [hq1, Nat.zero_add, Dl.has_nat, List.getD_eq_getElem?_getD, hq2]; rfl : Dl.has ws yk = false)
            have HMq : Hid (Mk w5 (.pointer (some ⟨m1, 0, none⟩)) fp ws) := HM.out.below HXr0.out
            clear hc hq1 hq2 hql hwl
            by_cases hk0 : k = 0
            · have hk1 : k ≤ 0 := by omega
              clear hk0 hyk
              go_wp2_with fail
              have hre := Ex.refl
              refine Rg.wp_rows [.inl (.pointer (some ⟨m1, 0, none⟩)), .inl (.slice (some ⟨bq, oq, none⟩) LF.length c12), .inl (.int .i64 (k : Int)), .inl (.pointer (some ⟨bq, oq + k, none⟩)), .inl (.int .i64 yk), .inl (.bool false), .inl (.bool false), .inl (.int .i64 (k : Int)), .inl (.bool false), .inl (.bool false), .inl undef, .inl undef, .inl undef, .inl undef, .inl undef, .inl undef, .inl undef, .inl undef, .inl undef, .inl undef, .inl (.bool false), .inl (.bool false)] (Ex wr) Ex 151 (by kernel_rfl) rfl (by kernel_rfl) ?st hre (Ex.drew _) ?goods ?fin
              case st => exact trivial
              case goods =>
                refine Rg.goods_cons (Rg.good_move hre rfl rfl rfl) ?_
                refine Rg.goods_cons (Rg.good_move hre rfl rfl rfl) ?_
                refine Rg.goods_cons (Rg.good_move hre rfl rfl rfl) ?_
                refine Rg.goods_cons (Rg.good_index hre rfl rfl rfl rfl (fun wx hC => by go_simp)) ?_
                refine Rg.goods_cons (Rg.good_load hre rfl rfl rfl (fun wx hC => by have hcz := cell_ex HCk.out hC; go_simp)) ?_
                refine Rg.goods_cons (Rg.good_call2 Try.func13 (by kernel_rfl) rfl rfl rfl (by rintro u u2 wx hC rfl rfl; exact ex_row (has_is _ fp ws yk wx (HMq.out.below (HXr2.out.trans hC)) (by omega) (by omega) false HHk.out) hC)) ?_
                refine Rg.goods_cons (Rg.good_move hre rfl rfl rfl) ?_
                refine Rg.goods_cons (Rg.good_move hre rfl rfl rfl) ?_
                refine Rg.goods_cons (Rg.good_bin hre rfl rfl rfl rfl (fun _ => rfl) (fun w => by simp [go_sem]; omega)) ?_
                refine Rg.goods_cons (Rg.good_move hre rfl rfl rfl) ?_
                refine Rg.goods_cons (Rg.good_skip rfl) ?_
                refine Rg.goods_cons (Rg.good_skip rfl) ?_
                refine Rg.goods_cons (Rg.good_skip rfl) ?_
                refine Rg.goods_cons (Rg.good_skip rfl) ?_
                refine Rg.goods_cons (Rg.good_skip rfl) ?_
                refine Rg.goods_cons (Rg.good_skip rfl) ?_
                refine Rg.goods_cons (Rg.good_skip rfl) ?_
                refine Rg.goods_cons (Rg.good_skip rfl) ?_
                refine Rg.goods_cons (Rg.good_skip rfl) ?_
                refine Rg.goods_cons (Rg.good_skip rfl) ?_
                refine Rg.goods_cons (Rg.good_pick false hre rfl rfl rfl rfl) ?_
                refine Rg.goods_cons (Rg.good_pick false hre rfl rfl rfl rfl) ?_
                exact Rg.goods_nil
              case fin =>
                intro wx hx
                simp only [Rg.later, Act.put, List.setIfInBounds_toArray, List.set_cons_succ, List.set_cons_zero]
                have HXx : Hid (Ex w5 wx) := HXr2.out.trans hx
                clear hx
                go_wp2_with fail
                go_roundw
                case rel => exact ⟨k + 1, by omega, by go_num, HXx⟩
                case measure => simp [intOf]; omega
            · obtain ⟨j, hj1, hj2⟩ : ∃ j, k ≤ j + 1 ∧ j + 1 ≤ k := ⟨k - 1, by omega, by omega⟩
              have hjl : j < LF.length := by omega
              have hji : (j : Int) < (LF.length : Int) := by omega
              obtain ⟨_, _, e2, hcj⟩ := (HB12.out.below HXr2.out).at hjl
              simp only [Option.some.injEq, Addr.mk.injEq, and_true] at e2
              obtain ⟨rfl, rfl⟩ := e2
              obtain ⟨yj, hyj⟩ : ∃ y, y = LF[j] := ⟨_, rfl⟩
              rw [← hyj] at hcj
              have HCj : Hid (wr.cell? ⟨bq, oq + j, none⟩ = some (.int .i64 yj)) := hcj
              have hlt2 : yj < yk := by
                rw [hyj, hyk]
                have hr := Dl.left_rise 0 ws
                have h := HLF.out
                unfold Dl.left at h
                rw [h] at hr
                exact (List.pairwise_iff_getElem.1 hr) j k hjl hlt (by omega)
              clear hcj hyk hyj hk0
              go_wp2_with fail
              have hre := Ex.refl
              refine Rg.wp_rows [.inl (.pointer (some ⟨m1, 0, none⟩)), .inl (.slice (some ⟨bq, oq, none⟩) LF.length c12), .inl (.int .i64 (k : Int)), .inl (.pointer (some ⟨bq, oq + k, none⟩)), .inl (.int .i64 yk), .inl (.bool false), .inl (.bool false), .inl (.int .i64 (k : Int)), .inl (.bool true), .inl (.bool true), .inl (.slice (some ⟨bq, oq, none⟩) LF.length c12), .inl (.int .i64 (k : Int)), .inl (.int .i64 (j : Int)), .inl (.pointer (some ⟨bq, oq + j, none⟩)), .inl (.int .i64 yj), .inl (.slice (some ⟨bq, oq, none⟩) LF.length c12), .inl (.int .i64 (k : Int)), .inl (.pointer (some ⟨bq, oq + k, none⟩)), .inl (.int .i64 yk), .inl (.bool false), .inl (.bool false), .inl (.bool false)] (Ex wr) Ex 151 (by kernel_rfl) rfl (by kernel_rfl) ?st hre (Ex.drew _) ?goods ?fin
              case st => exact trivial
              case goods =>
                refine Rg.goods_cons (Rg.good_move hre rfl rfl rfl) ?_
                refine Rg.goods_cons (Rg.good_move hre rfl rfl rfl) ?_
                refine Rg.goods_cons (Rg.good_move hre rfl rfl rfl) ?_
                refine Rg.goods_cons (Rg.good_index hre rfl rfl rfl rfl (fun wx hC => by go_simp)) ?_
                refine Rg.goods_cons (Rg.good_load hre rfl rfl rfl (fun wx hC => by have hcz := cell_ex HCk.out hC; go_simp)) ?_
                refine Rg.goods_cons (Rg.good_call2 Try.func13 (by kernel_rfl) rfl rfl rfl (by rintro u u2 wx hC rfl rfl; exact ex_row (has_is _ fp ws yk wx (HMq.out.below (HXr2.out.trans hC)) (by omega) (by omega) false HHk.out) hC)) ?_
                refine Rg.goods_cons (Rg.good_move hre rfl rfl rfl) ?_
                refine Rg.goods_cons (Rg.good_move hre rfl rfl rfl) ?_
                refine Rg.goods_cons (Rg.good_bin hre rfl rfl rfl rfl (fun _ => rfl) (fun w => by simp [go_sem]; omega)) ?_
                refine Rg.goods_cons (Rg.good_move hre rfl rfl rfl) ?_
                refine Rg.goods_cons (Rg.good_move hre rfl rfl rfl) ?_
                refine Rg.goods_cons (Rg.good_move hre rfl rfl rfl) ?_
                refine Rg.goods_cons (Rg.good_bin hre rfl rfl rfl rfl (fun _ => rfl) (fun w => by go_simp; rw [I.wi64 _ (by omega) (by omega)]; omega)) ?_
                refine Rg.goods_cons (Rg.good_index hre rfl rfl rfl rfl (fun wx hC => by go_simp)) ?_
                refine Rg.goods_cons (Rg.good_load hre rfl rfl rfl (fun wx hC => by have hcz := cell_ex HCj.out hC; go_simp)) ?_
                refine Rg.goods_cons (Rg.good_move hre rfl rfl rfl) ?_
                refine Rg.goods_cons (Rg.good_move hre rfl rfl rfl) ?_
                refine Rg.goods_cons (Rg.good_index hre rfl rfl rfl rfl (fun wx hC => by go_simp)) ?_
                refine Rg.goods_cons (Rg.good_load hre rfl rfl rfl (fun wx hC => by have hcz := cell_ex HCk.out hC; go_simp)) ?_
                refine Rg.goods_cons (Rg.good_bin hre rfl rfl rfl rfl (fun _ => rfl) (fun w => by simp [go_sem]; omega)) ?_
                refine Rg.goods_cons (Rg.good_pick true hre rfl rfl rfl rfl) ?_
                refine Rg.goods_cons (Rg.good_pick false hre rfl rfl rfl rfl) ?_
                exact Rg.goods_nil
              case fin =>
                intro wx hx
                simp only [Rg.later, Act.put, List.setIfInBounds_toArray, List.set_cons_succ, List.set_cons_zero]
                have HXx : Hid (Ex w5 wx) := HXr2.out.trans hx
                clear hx
                go_wp2_with fail
                go_roundw
                case rel => exact ⟨k + 1, by omega, by go_num, HXx⟩
                case measure => simp [intOf]; omega
          · have tk : decide ((k : Int) < (LF.length : Int)) = false := by simp; omega
            obtain ⟨n2, hn1⟩ : ∃ n2 : Nat, (n : Int) + 1 = (n2 : Int) := ⟨n + 1, by omega⟩
            have hn2a : n + 1 ≤ n2 := by omega
            have hn2b : n2 ≤ 400 := by omega
            go_wp2_with fail
            refine (new_ok n2 _ (by omega)).mono ?_
            rintro e w6 ⟨v6, fp6, rfl, hm6, hf6, hx6⟩
            obtain ⟨m6, rfl⟩ := hm6.some_
            have HM6 : Hid (Mk w6 (.pointer (some ⟨m6, 0, none⟩)) fp6 (List.replicate n2 false)) := hm6
            have HMr : Hid (Mk w6 (.pointer (some ⟨m1, 0, none⟩)) fp ws) := HM.out.below (HXr0.out.trans (HXr2.out.trans hx6))
            have HX6 : Hid (Ex w w6) := HX5.out.trans (HXr2.out.trans hx6)
            obtain ⟨lf, hlf⟩ : ∃ k, LF.length = k := ⟨_, rfl⟩
            have hsum : lf + cnt = n := by have := Dl.left_len ws; rw [HLF.out, ← HC.out, HLn.out, hlf] at this; exact this
            have hlc : (lf : Int) + (cnt : Int) = (n : Int) := by omega
            clear hm6 hf6 hx6 hn1 hsum
            rw [hlf]
            go_wp2_with fail
            refine (or_bad _ _ fp fp6 ws (List.replicate n2 false) _ HMr.out HM6.out (by rw [HLn.out, List.length_replicate]; omega)).mono ?_
            rintro e w7 ⟨rfl, hx7⟩
            have HMs : Hid (Mk w7 (.pointer (some ⟨m1, 0, none⟩)) fp ws) := HMr.out.below hx7
            have HX7 : Hid (Ex w w7) := HX6.out.trans hx7
            clear hx7
            go_wp2_with fail
            refine (count_is _ fp ws _ HMs.out cnt HC.out.symm).mono ?_
            rintro e w8 ⟨rfl, hx8⟩
            have HX8 : Hid (Ex w w8) := HX7.out.trans hx8
            clear hx8
            go_wp2_with fail
            refine (known_any _).mono ?_
            rintro e wk ⟨rfl, hxk⟩
            go_wp2_with fail
            go_ret
            exact ⟨rfl, HX8.out.trans hxk⟩
end Go.Proofs.Ytkhbkifofkjjnaa.delsParts
