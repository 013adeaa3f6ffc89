/-
  The walk of DelsPlays.
-/
import Derived.Test.YtkhbkifofkjjnaaDmark
namespace Go.Proofs.Ytkhbkifofkjjnaa
open Go.RowKit
theorem row_ex {f : FuncId} {args : Array Value} {wx w1 : World} {Q : Value → World → Prop} (h : Calls Try.prog f args wx fun e w' => ∃ u, e = .returned u ∧ Q u w' ∧ Ex wx w') (hC : Ex w1 wx) :
    Calls Try.prog f args wx fun e w' => ∃ u, e = .returned u ∧ (Rg.Spec.ok (.inr Q) u w') ∧ Ex wx w' ∧ Ex w1 w' := by
  refine h.mono ?_
  rintro e w' ⟨u, rfl, hq, hx⟩
  exact ⟨_, rfl, hq, hx, hC.trans hx⟩
theorem own_ex {f : FuncId} {args : Array Value} {wx w1 : World} {r : List UInt8} (h : Calls Try.prog f args wx fun e w' => ∃ u, e = .returned u ∧ Own w' wx.heap.size u r ∧ Ex wx w') (hC : Ex w1 wx) :
    Calls Try.prog f args wx fun e w' => ∃ u, e = .returned u ∧ (Rg.Spec.ok (.inr (IsByt r)) u w') ∧ Ex wx w' ∧ Ex w1 w' := by
  refine h.mono ?_
  rintro e w' ⟨u, rfl, hq, hx⟩
  exact ⟨_, rfl, hq.isByt, hx, hC.trans hx⟩
end Go.Proofs.Ytkhbkifofkjjnaa
namespace Go.Proofs.Ytkhbkifofkjjnaa.delsPlays
open Go.RowKit Go.Proofs.Ytkhbkifofkjjnaa
set_option linter.unusedVariables false
set_option linter.unusedSimpArgs false
set_option maxRecDepth 100000 in
set_option maxHeartbeats 8000000 in
theorem walk (a0 : Int) (p1 : Option Addr) (c1 : Nat) (l1 : List Int) (p2 : Option Addr) (c2 : Nat) (l2 : List Int) (w : World) (w0 : -9223372036854775808 ≤ a0 ∧ a0 ≤ 9223372036854775807) (b1 : Rd z64 w p1 c1 l1) (m1' : ∀ x ∈ l1, In64 x) (w1' : l1.length ≤ 17592186043904) (b2 : Rd z64 w p2 c2 l2) (m2' : ∀ x ∈ l2, In64 x) (w2' : l2.length ≤ 17592186043904) :
    Calls Try.prog 4 #[.int .i64 a0, .slice p1 l1.length c1, .slice p2 l2.length c2] w fun e w' => e = .returned (.bool true) ∧ Below w.heap.size w w' := by
  have HB1 : Hid (Rd z64 w p1 c1 l1) := b1
  have HB2 : Hid (Rd z64 w p2 c2 l2) := b2
  have HO1 : Hid (∀ x ∈ l1, In64 x) := m1'
  have HO2 : Hid (∀ x ∈ l2, In64 x) := m2'
  clear b1 b2 m1' m2'
  go_enter Try.func4, Try.ntmps4
  go_wp2_with fail
  refine (within_any a0 200 _ w0.1 w0.2 (by omega) (by omega)).mono ?_
  rintro e wq ⟨n, hn, rfl, hw⟩
  have hw' := hw.symm; clear hw; subst hw'
  have hn200 : n ≤ 200 := by omega
  go_wp2_with fail
  refine (marked_is n p1 _ c1 l1 _ (by omega) rfl HB1.out HO1.out).mono ?_
  rintro e w1 ⟨m1, g1, fp1, x, rfl, hm1, hr1, hg1, hf1, hg1w, hl1, _, hx1⟩
  have HM1 : Hid (Mk w1 (.pointer (some ⟨m1, 0, none⟩)) fp1 x) := hm1
  have HR1 : Hid (RowAt bl 4 w1 g1 x) := hr1
  have HG11 : Hid (¬ fp1 g1) := hg1
  have HF1 : Hid (∀ k, fp1 k → w.heap.size ≤ k) := hf1
  have HLx : Hid (x.length = n) := hl1
  have HX1 : Hid (Ex w w1) := hx1
  clear hm1 hr1 hg1 hf1 hl1 hx1
  go_wp2_with fail
  refine (marked_is n p2 _ c2 l2 _ (by omega) rfl (HB2.out.below HX1.out) HO2.out).mono ?_
  rintro e w2 ⟨m2, g2, fp2, y, rfl, hm2, hr2, hg2, hf2, hg2w, hl2, _, hx2⟩
  have hlt1 := HM1.out.lt
  have hlt2 := HR1.out.lt
  have HMa : Hid (Mk w2 (.pointer (some ⟨m1, 0, none⟩)) fp1 x) := HM1.out.below hx2
  have HMb : Hid (Mk w2 (.pointer (some ⟨m2, 0, none⟩)) fp2 y) := hm2
  have HRa : Hid (RowAt bl 4 w2 g1 x) := HR1.out.below hx2
  have HRb : Hid (RowAt bl 4 w2 g2 y) := hr2
  have HG12 : Hid (¬ fp1 g2) := (fun h => by have := hlt1 g2 h; omega : ¬ fp1 g2)
  have HG21 : Hid (¬ fp2 g1) := (fun h => by have := hf2 g1 h; omega : ¬ fp2 g1)
  have HD12 : Hid (∀ k, fp1 k → ¬ fp2 k) := (fun k h1 h2 => by have := hlt1 k h1; have := hf2 k h2; omega : ∀ k, fp1 k → ¬ fp2 k)
  have HLy : Hid (y.length = n) := hl2
  have HX2 : Hid (Ex w w2) := HX1.out.trans hx2
  have hne : g1 < g2 := by omega
  obtain ⟨E1, hE1⟩ : ∃ E, Dl.enc x = E := ⟨_, rfl⟩
  have HE1 : Hid (Dl.enc x = E1) := hE1
  clear hm2 hr2 hg2 hf2 hl2 hx2 hlt1 hlt2 hE1 HM1 HR1
  go_wp2_with fail
  have hlx := HLx.out
  have hly := HLy.out
  have hre := Ex.refl
  refine Rg.wp_rows [.inl (.pointer (some ⟨m1, 0, none⟩)), .inl (.bool false), .inl (.bool false), .inl (.pointer (some ⟨m2, 0, none⟩)), .inl (.bool false), .inl (.bool false), .inl (.bool false), .inl (.pointer (some ⟨m1, 0, none⟩)), .inl (.slice (some ⟨g1, 0, none⟩) n n), .inl (.bool true), .inl (.bool false), .inl (.bool false), .inl (.bool false), .inl (.pointer (some ⟨m2, 0, none⟩)), .inl (.slice (some ⟨g2, 0, none⟩) n n), .inl (.bool true), .inl (.bool false), .inl (.bool false), .inl (.bool false), .inl (.pointer (some ⟨m1, 0, none⟩)), .inr (IsByt E1), .inl (.string (str E1)), .inl (.slice (some ⟨g1, 0, none⟩) n n), .inr (IsByt E1), .inl (.string (str E1)), .inl (.bool false), .inl (.bool false)] (Ex w2) Ex 95 (by kernel_rfl) rfl (by kernel_rfl) ?st hre (Ex.drew _) ?goods ?fin
  case st => exact ⟨IsByt.stands _, IsByt.stands _, trivial⟩
  case goods =>
    refine Rg.goods_cons (Rg.good_move hre rfl rfl rfl) ?_
    refine Rg.goods_cons (Rg.good_bin hre rfl rfl rfl rfl (fun _ => rfl) (fun w => by go_simp)) ?_
    refine Rg.goods_cons (Rg.good_move hre rfl rfl rfl) ?_
    refine Rg.goods_cons (Rg.good_move hre rfl rfl rfl) ?_
    refine Rg.goods_cons (Rg.good_bin hre rfl rfl rfl rfl (fun _ => rfl) (fun w => by go_simp)) ?_
    refine Rg.goods_cons (Rg.good_pick false hre rfl rfl rfl rfl) ?_
    refine Rg.goods_cons (Rg.good_move hre rfl rfl rfl) ?_
    refine Rg.goods_cons (Rg.good_move hre rfl rfl rfl) ?_
    refine Rg.goods_cons (Rg.good_move hre rfl rfl rfl) ?_
    refine Rg.goods_cons (Rg.good_call2 Try.func19 (by kernel_rfl) rfl rfl rfl (by rintro u u2 wx hC rfl rfl; exact ex_row (alike_is _ fp1 x (some ⟨g1, 0, none⟩) n n wx (HMa.out.below hC) (HLx.out.symm) ((HRa.out.below hC).rd (HLx.out.symm) (by omega)) (by omega)) hC)) ?_
    refine Rg.goods_cons (Rg.good_un hre rfl rfl rfl (fun w => by go_simp)) ?_
    refine Rg.goods_cons (Rg.good_pick false hre rfl rfl rfl rfl) ?_
    refine Rg.goods_cons (Rg.good_move hre rfl rfl rfl) ?_
    refine Rg.goods_cons (Rg.good_move hre rfl rfl rfl) ?_
    refine Rg.goods_cons (Rg.good_move hre rfl rfl rfl) ?_
    refine Rg.goods_cons (Rg.good_call2 Try.func19 (by kernel_rfl) rfl rfl rfl (by rintro u u2 wx hC rfl rfl; exact ex_row (alike_is _ fp2 y (some ⟨g2, 0, none⟩) n n wx (HMb.out.below hC) (HLy.out.symm) ((HRb.out.below hC).rd (HLy.out.symm) (by omega)) (by omega)) hC)) ?_
    refine Rg.goods_cons (Rg.good_un hre rfl rfl rfl (fun w => by go_simp)) ?_
    refine Rg.goods_cons (Rg.good_pick false hre rfl rfl rfl rfl) ?_
    refine Rg.goods_cons (Rg.good_move hre rfl rfl rfl) ?_
    refine Rg.goods_cons (Rg.good_move hre rfl rfl rfl) ?_
    refine Rg.goods_cons (Rg.good_call1 Try.func12 (by kernel_rfl) rfl rfl rfl (by rintro u wx hC rfl; exact row_ex (menc_is _ fp1 x wx (HMa.out.below hC) E1 HE1.out) hC)) ?_
    refine Rg.goods_cons (Rg.good_conv hre rfl rfl (by rintro u wx hC hu; exact conv_row hu)) ?_
    refine Rg.goods_cons (Rg.good_move hre rfl rfl rfl) ?_
    refine Rg.goods_cons (Rg.good_call1 Try.func20 (by kernel_rfl) rfl rfl rfl (by rintro u wx hC rfl; exact own_ex (rdenc_is (some ⟨g1, 0, none⟩) n n x wx (HLx.out.symm) ((HRa.out.below hC).rd (HLx.out.symm) (by omega)) (by omega) E1 HE1.out) hC)) ?_
    refine Rg.goods_cons (Rg.good_conv hre rfl rfl (by rintro u wx hC hu; exact conv_row hu)) ?_
    refine Rg.goods_cons (Rg.good_bin hre rfl rfl rfl rfl (fun _ => rfl) (fun w => by go_simp)) ?_
    refine Rg.goods_cons (Rg.good_pick false hre rfl rfl rfl rfl) ?_
    exact Rg.goods_nil
  case fin =>
    intro wx hx
    simp only [Rg.later, Act.put, List.setIfInBounds_toArray, List.set_cons_succ, List.set_cons_zero]
    intro vin0 hin0 vin1 hin1
    clear hin0 hin1
    clear hlx hly hre
    have HMa3 : Hid (Mk wx (.pointer (some ⟨m1, 0, none⟩)) fp1 x) := HMa.out.below hx
    have HMb3 : Hid (Mk wx (.pointer (some ⟨m2, 0, none⟩)) fp2 y) := HMb.out.below hx
    have HRa3 : Hid (RowAt bl 4 wx g1 x) := HRa.out.below hx
    have HRb3 : Hid (RowAt bl 4 wx g2 y) := HRb.out.below hx
    have HXx : Hid (Ex w wx) := HX2.out.trans hx
    have HLxy : Hid (x.length = y.length) := (by rw [HLx.out, HLy.out] : x.length = y.length)
    obtain ⟨z, hz⟩ : ∃ z, Dl.orr x y = z := ⟨_, rfl⟩
    have HZ : Hid (Dl.orr x y = z) := hz
    have HLz : Hid (z.length = n) := (by rw [← hz, Dl.orr_len HLxy.out]; exact HLx.out : z.length = n)
    obtain ⟨E2, hE2⟩ : ∃ E, Dl.enc z = E := ⟨_, rfl⟩
    have HE2 : Hid (Dl.enc z = E2) := hE2
    clear hx hz hE2
    go_wp2_with fail
    refine (or_is _ _ fp1 fp2 x y _ HMa3.out HMb3.out HLxy.out HD12.out z HZ.out).mono ?_
    rintro e w3 ⟨rfl, fp3, hm3, ht3, hf3⟩
    have hlb := HMb3.out.lt
    have hl1 := HRa3.out.lt
    have hl2 := HRb3.out.lt
    have HMa4 : Hid (Mk w3 (.pointer (some ⟨m1, 0, none⟩)) fp3 z) := hm3
    have HMb4 : Hid (Mk w3 (.pointer (some ⟨m2, 0, none⟩)) fp2 y) := HMb3.out.touch ht3 (fun k hk h => HD12.out k h hk)
    have HRa4 : Hid (RowAt bl 4 w3 g1 (z.take 0 ++ x.drop 0)) := (by simpa using HRa3.out.touch ht3 HG11.out : RowAt bl 4 w3 g1 (z.take 0 ++ x.drop 0))
    have HRb4 : Hid (RowAt bl 4 w3 g2 y) := HRb3.out.touch ht3 HG12.out
    have HG31 : Hid (¬ fp3 g1) := (fun h => by rcases hf3 g1 h with h' | h'; exact HG11.out h'; omega : ¬ fp3 g1)
    have HX3 : Hid (Ex w w3) := Touch.ex HXx.out ht3 HF1.out
    clear hm3 ht3 hf3 hlb hl1 hl2
    go_wp2_with fail
    go_loopw [11] (fun vi wr => ∃ k : Nat, k ≤ n ∧ vi = .int .i64 (k : Int) ∧ Hid (Mk wr (.pointer (some ⟨m1, 0, none⟩)) fp3 z) ∧ Hid (Mk wr (.pointer (some ⟨m2, 0, none⟩)) fp2 y) ∧ Hid (RowAt bl 4 wr g1 (z.take k ++ x.drop k)) ∧ Hid (RowAt bl 4 wr g2 y) ∧ Hid (Ex w wr)) (fun vi _ => n - (intOf vi).toNat)
    case atStart => exact ⟨0, by omega, rfl, HMa4, HMb4, HRa4, HRb4, HX3⟩
    case round =>
      obtain ⟨k, hk, rfl, HMa2, HMb2, HRk, HRb2, HXr⟩ := hrel
      clear HMa4 HMb4 HRa4 HRb4 HX3
      by_cases hlt : k < n
      · have tk : decide ((k : Int) < (n : Int)) = true := by simp; omega
        have hki : (k : Int) < (n : Int) := by omega
        have hkx : k < x.length := by rw [HLx.out]; exact hlt
        have hky : k < y.length := by rw [HLy.out]; exact hlt
        have hkz : k < z.length := by rw [HLz.out]; exact hlt
        have hcx := HRk.out.cell (k := k) (by simp; omega)
        have hxk : (z.take k ++ x.drop k)[k]'(by simp; omega) = x[k] := by rw [List.getElem_append_right (by simp; omega)]; simp [show min k z.length = k from by omega]
        rw [hxk] at hcx
        have hcy := HRb2.out.cell hky
        obtain ⟨c, hc⟩ : ∃ c, c = x[k] := ⟨_, rfl⟩
        obtain ⟨d, hd⟩ : ∃ d, d = y[k] := ⟨_, rfl⟩
        rw [← hc] at hcx
        rw [← hd] at hcy
        have hcx' : wr.cell? ⟨g1, k, none⟩ = some (.bool c) := hcx
        have hcy' : wr.cell? ⟨g2, k, none⟩ = some (.bool d) := hcy
        have hfr : wr.frozen? ⟨g1, k, none⟩ = false := HRk.out.frozen k
        have hzk : z[k] = (c || d) := by
          have h : ∀ (h' : k < (Dl.orr x y).length), (Dl.orr x y)[k] = (c || d) := fun h' => by simp [Dl.orr, ← hc, ← hd]
          have hz := HZ.out
          subst hz
          exact h _
        have hset : (z.take k ++ x.drop k).set k (c || d) = z.take (k + 1) ++ x.drop (k + 1) := by
          have htl : (z.take k).length = k := by simp; omega
          rw [List.set_append_right _ _ (by omega), htl, Nat.sub_self, List.drop_eq_getElem_cons hkx, List.set_cons_zero, List.take_succ_eq_append_getElem hkz, hzk, List.append_assoc]
          rfl
        obtain ⟨w5, hw5⟩ : ∃ w5, wr.setCell ⟨g1, k, none⟩ (.bool (c || d)) = w5 := ⟨_, rfl⟩
        have HR5 : Hid (RowAt bl 4 w5 g1 (z.take (k + 1) ++ x.drop (k + 1))) := (by rw [← hw5, ← hset]; exact HRk.out.set (c || d) rfl : RowAt bl 4 w5 g1 (z.take (k + 1) ++ x.drop (k + 1)))
        have HM5 : Hid (Mk w5 (.pointer (some ⟨m1, 0, none⟩)) fp3 z) := (by rw [← hw5]; exact HMa2.out.keep fun j hj => Below.heap_setCell _ _ _ _ (fun h => HG31.out (by rw [show g1 = j from h.symm]; exact hj)) : Mk w5 (.pointer (some ⟨m1, 0, none⟩)) fp3 z)
        have HN5 : Hid (Mk w5 (.pointer (some ⟨m2, 0, none⟩)) fp2 y) := (by rw [← hw5]; exact HMb2.out.keep fun j hj => Below.heap_setCell _ _ _ _ (fun h => HG21.out (by rw [show g1 = j from h.symm]; exact hj)) : Mk w5 (.pointer (some ⟨m2, 0, none⟩)) fp2 y)
        have HS5 : Hid (RowAt bl 4 w5 g2 y) := (by rw [← hw5]; exact HRb2.out.other (by omega) : RowAt bl 4 w5 g2 y)
        have HX5 : Hid (Ex w w5) := (by rw [← hw5]; exact HXr.out.setCell (p := ⟨g1, k, none⟩) hg1w _ : Ex w w5)
        clear hcx hcy hc hd hxk hzk hset
        cases c with
        | true =>
          simp only [Bool.true_or] at hw5
          go_wp2
          go_roundw
          case rel => exact ⟨k + 1, by omega, by go_num, HM5, HN5, HR5, HS5, HX5⟩
          case measure => simp [intOf]; omega
        | false =>
          simp only [Bool.false_or] at hw5
          go_wp2
          go_roundw
          case rel => exact ⟨k + 1, by omega, by go_num, HM5, HN5, HR5, HS5, HX5⟩
          case measure => simp [intOf]; omega
      · have tk : decide ((k : Int) < (n : Int)) = false := by simp; omega
        have hrk := HRk.out
        rw [List.take_of_length_le (by rw [HLz.out]; omega), List.drop_eq_nil_of_le (by rw [HLx.out]; omega), List.append_nil] at hrk
        have HRz : Hid (RowAt bl 4 wr g1 z) := hrk
        clear hrk HRk
        have hlz := HLz.out
        have hly := HLy.out
        go_wp2_with fail
        have hre := Ex.refl
        refine Rg.wp_rows [.inl (.pointer (some ⟨m1, 0, none⟩)), .inl (.slice (some ⟨g1, 0, none⟩) n n), .inl (.bool true), .inl (.bool true), .inl (.pointer (some ⟨m2, 0, none⟩)), .inl (.slice (some ⟨g2, 0, none⟩) n n), .inl (.bool true), .inl (.bool true), .inl (.bool true), .inl (.pointer (some ⟨m1, 0, none⟩)), .inr (IsByt E2), .inl (.string (str E2)), .inl (.slice (some ⟨g1, 0, none⟩) n n), .inr (IsByt E2), .inl (.string (str E2)), .inl (.bool true), .inl (.bool true), .inl (.bool true), .inl (.bool true), .inl (.bool true), .inl (.bool true)] (Ex wr) Ex 95 (by kernel_rfl) rfl (by kernel_rfl) ?st hre (Ex.drew _) ?goods ?fin
        case st => exact ⟨IsByt.stands _, IsByt.stands _, trivial⟩
        case goods =>
          refine Rg.goods_cons (Rg.good_move hre rfl rfl rfl) ?_
          refine Rg.goods_cons (Rg.good_move hre rfl rfl rfl) ?_
          refine Rg.goods_cons (Rg.good_call2 Try.func19 (by kernel_rfl) rfl rfl rfl (by rintro u u2 wx hC rfl rfl; exact ex_row (alike_is _ fp3 z (some ⟨g1, 0, none⟩) n n wx (HMa2.out.below hC) (HLz.out.symm) ((HRz.out.below hC).rd (HLz.out.symm) (by omega)) (by omega)) hC)) ?_
          refine Rg.goods_cons (Rg.good_move hre rfl rfl rfl) ?_
          refine Rg.goods_cons (Rg.good_move hre rfl rfl rfl) ?_
          refine Rg.goods_cons (Rg.good_move hre rfl rfl rfl) ?_
          refine Rg.goods_cons (Rg.good_call2 Try.func19 (by kernel_rfl) rfl rfl rfl (by rintro u u2 wx hC rfl rfl; exact ex_row (alike_is _ fp2 y (some ⟨g2, 0, none⟩) n n wx (HMb2.out.below hC) (HLy.out.symm) ((HRb2.out.below hC).rd (HLy.out.symm) (by omega)) (by omega)) hC)) ?_
          refine Rg.goods_cons (Rg.good_pick true hre rfl rfl rfl rfl) ?_
          refine Rg.goods_cons (Rg.good_move hre rfl rfl rfl) ?_
          refine Rg.goods_cons (Rg.good_move hre rfl rfl rfl) ?_
          refine Rg.goods_cons (Rg.good_call1 Try.func12 (by kernel_rfl) rfl rfl rfl (by rintro u wx hC rfl; exact row_ex (menc_is _ fp3 z wx (HMa2.out.below hC) E2 HE2.out) hC)) ?_
          refine Rg.goods_cons (Rg.good_conv hre rfl rfl (by rintro u wx hC hu; exact conv_row hu)) ?_
          refine Rg.goods_cons (Rg.good_move hre rfl rfl rfl) ?_
          refine Rg.goods_cons (Rg.good_call1 Try.func20 (by kernel_rfl) rfl rfl rfl (by rintro u wx hC rfl; exact own_ex (rdenc_is (some ⟨g1, 0, none⟩) n n z wx (HLz.out.symm) ((HRz.out.below hC).rd (HLz.out.symm) (by omega)) (by omega) E2 HE2.out) hC)) ?_
          refine Rg.goods_cons (Rg.good_conv hre rfl rfl (by rintro u wx hC hu; exact conv_row hu)) ?_
          refine Rg.goods_cons (Rg.good_bin hre rfl rfl rfl rfl (fun _ => rfl) (fun w => by go_simp)) ?_
          refine Rg.goods_cons (Rg.good_pick true hre rfl rfl rfl rfl) ?_
          refine Rg.goods_cons (Rg.good_move hre rfl rfl rfl) ?_
          refine Rg.goods_cons (Rg.good_call0 Try.func16 (by kernel_rfl) rfl rfl rfl (by intro wx hC; exact ex_row (known_any wx) hC)) ?_
          refine Rg.goods_cons (Rg.good_pick true hre rfl rfl rfl rfl) ?_
          refine Rg.goods_cons (Rg.good_assign hre rfl rfl rfl) ?_
          exact Rg.goods_nil
        case fin =>
          intro wx hx
          simp only [Rg.later, Act.put, List.setIfInBounds_toArray, List.set_cons_succ, List.set_cons_zero]
          intro vin0 hin0 vin1 hin1
          clear hin0 hin1
          have HXx : Hid (Ex w wx) := HXr.out.trans hx
          clear hx
          go_wp2_with fail
          go_ret
          exact ⟨rfl, HXx.out⟩
end Go.Proofs.Ytkhbkifofkjjnaa.delsPlays
