/-
  Of the landed ticks: spanStart, spanEnd, Span.
-/
import Derived.Test.YtaehchaimlklnaaLright
import Derived.Test.YtaehchaimlklnaaRts
import Derived.Test.YtaehchaimlklnaaZstep
namespace Go.Proofs.Ytaehchaimlklnaa
open Go.RowKit
set_option linter.unusedVariables false
set_option linter.unusedSimpArgs false
/-- Where times rise, all ahead of one that is below are below. -/
theorem Tk.below_all {a : List Int} (h : Tk.Rise a) {lo : Int} {i : Nat} (hi : i < a.length) (hx : Tk.at0 a i < lo) : Tk.below (a.take i) lo = i := by
  have hl : (a.take i).length = i := by rw [List.length_take]; omega
  have h2 : Tk.below (a.take i) lo = (a.take i).length := by
    unfold Tk.below
    rw [List.countP_eq_length]
    intro t ht
    obtain ⟨k, hk, rfl⟩ := List.getElem_of_mem ht
    rw [hl] at hk
    have h3 := h.le (i := k) (j := i) (by omega) hi
    rw [Tk.at0_eq (i := k) (by omega)] at h3
    rw [List.getElem_take]
    simp; omega
  rw [h2, hl]
theorem ex_rowS {f : FuncId} {args : Array Value} {wx w1 : World} {v : Value} (h : Calls Try.prog f args wx fun e w' => e = .returned v ∧ Ex wx w') (hC : Ex w1 wx) :
    Calls Try.prog f args wx (fun e w' => ∃ u, e = .returned u ∧ Rg.Spec.ok (.inl v) u w' ∧ Ex wx w' ∧ Ex w1 w') :=
  h.mono fun e w' ⟨h1, h2⟩ => ⟨v, h1, rfl, h2, hC.trans h2⟩
set_option maxRecDepth 100000 in
set_option maxHeartbeats 4000000 in
theorem start_is (r m : Int) (a : Option Addr) (n cap : Nat) (A : List Int) (lo : Int) (w : World) (hn : n = A.length) (hB : Rd z64 w a cap A) (hA : A.length ≤ 262144) (hR : Tk.Rise A) (p : Int) (hp : p = ((4 * (Tk.below A lo - 1) : Nat) : Int)) :
    Calls Try.prog 27 #[xv r m (.slice a n cap), .int .i64 lo] w fun e w' => e = .returned (.int .i64 p) ∧ Ex w w' := by
  subst hn
  have hcl := hB.1
  have hcm := hB.2.1
  unfold maxLen at hcm
  have HB : Hid (Rd z64 w a cap A) := hB
  have HR : Hid (Tk.Rise A) := hR
  have HP : Hid (p = ((4 * (Tk.below A lo - 1) : Nat) : Int)) := hp
  have hxa : Ex w (w.alloc (xb r m (.slice a A.length cap) 24)) := (Below.refl _ _).alloc (Nat.le_refl _) _
  have hF := XAt.new w r m (.slice a A.length cap) 24
  obtain ⟨wa, hwa⟩ : ∃ wa, w.alloc (Obj.cells #[Value.int IntKind.i64 r, Value.int IntKind.i64 m, Value.slice a A.length cap] 24) = wa := ⟨_, rfl⟩
  have HXa : Hid (Ex w wa) := (by rw [← hwa]; exact hxa : Ex w wa)
  have HF : Hid (XAt wa w.heap.size r m (.slice a A.length cap) 24) := (by rw [← hwa]; exact hF : XAt wa w.heap.size r m (.slice a A.length cap) 24)
  obtain ⟨f0, f1, f2⟩ := HF.out.all
  clear hB hxa hF hp hR
  unfold xv
  go_enter Try.func27, Try.ntmps27
  go_wp2_with fail
  go_loopw [5, 11] (fun n i wr => ∃ j N : Nat, j ≤ A.length ∧ N ≤ 262144 ∧ i = .int .i64 j ∧ n = .int .i64 (N : Int) ∧ Hid (N = Tk.below (A.take j) lo - 1) ∧ Hid (wr = wa)) (fun _ i _ => A.length - (intOf i).toNat)
  case atStart => exact ⟨0, 0, by omega, by omega, rfl, rfl, (rfl : (0 : Nat) = Tk.below (A.take 0) lo - 1), rfl⟩
  case round =>
    obtain ⟨j, N, hj, hN, rfl, rfl, HN, HW⟩ := hrel
    obtain rfl := HW.out
    by_cases hlt : j < A.length
    · obtain ⟨bb, off, rfl, hc1⟩ := (HB.out.below HXa.out).at0 hlt
      have hnx := Tk.below_next lo hlt
      have hbl := fun hx => Tk.below_all (lo := lo) HR.out hlt hx
      obtain ⟨x, hx⟩ : ∃ x, Tk.at0 A j = x := ⟨_, rfl⟩
      rw [hx] at hc1 hnx hbl
      have HNx : Hid (Tk.below (A.take (j + 1)) lo = Tk.below (A.take j) lo + (if x < lo then 1 else 0)) := hnx
      have HBl : Hid (x < lo → Tk.below (A.take j) lo = j) := hbl
      have tj : decide ((j : Int) < (A.length : Int)) = true := by simp; omega
      clear hx hnx hbl
      by_cases hl2 : x < lo
      · have t7 : decide (x < lo) = true := decide_eq_true hl2
        have HN2 : Hid (j = Tk.below (A.take (j + 1)) lo - 1) := (by rw [HNx.out, HBl.out hl2, if_pos hl2]; omega : j = Tk.below (A.take (j + 1)) lo - 1)
        go_wp2_with fail
        go_roundw
        case rel => exact ⟨j + 1, j, by omega, by omega, by go_num, rfl, HN2, trivial⟩
        case measure => simp [intOf]; omega
      · have t7 : decide (x < lo) = false := decide_eq_false hl2
        have HN2 : Hid (N = Tk.below (A.take (j + 1)) lo - 1) := (by rw [HNx.out, if_neg hl2]; exact HN.out : N = Tk.below (A.take (j + 1)) lo - 1)
        go_wp2_with fail
        go_roundw
        case rel => exact ⟨j + 1, N, by omega, hN, by go_num, rfl, HN2, trivial⟩
        case measure => simp [intOf]; omega
    · obtain rfl : j = A.length := by omega
      have tj : decide ((A.length : Int) < (A.length : Int)) = false := by simp
      have hpe : (N : Int) * 4 = p := by have h := HN.out; rw [List.take_length] at h; rw [HP.out, ← h]; omega
      have HPe : Hid ((N : Int) * 4 = p) := hpe
      clear hpe
      go_wp2_with fail
      go_ret
      refine ⟨?_, HXa.out⟩
      rw [← HPe.out]; rfl
set_option maxRecDepth 100000 in
set_option maxHeartbeats 4000000 in
theorem end_is (r m : Int) (a : Option Addr) (n cap : Nat) (A : List Int) (hi : Int) (w : World) (hn : n = A.length) (hB : Rd z64 w a cap A) (hA : A.length ≤ 262144) (q : Int) (hq : q = if Tk.above A hi < A.length then ((4 * Tk.above A hi : Nat) : Int) else r) :
    Calls Try.prog 28 #[xv r m (.slice a n cap), .int .i64 hi] w fun e w' => e = .returned (.int .i64 q) ∧ Ex w w' := by
  subst hn
  have hcl := hB.1
  have hcm := hB.2.1
  unfold maxLen at hcm
  have HB : Hid (Rd z64 w a cap A) := hB
  have HQ : Hid (q = if Tk.above A hi < A.length then ((4 * Tk.above A hi : Nat) : Int) else r) := hq
  have hxa : Ex w (w.alloc (xb r m (.slice a A.length cap) 24)) := (Below.refl _ _).alloc (Nat.le_refl _) _
  have hF := XAt.new w r m (.slice a A.length cap) 24
  obtain ⟨wa, hwa⟩ : ∃ wa, w.alloc (Obj.cells #[Value.int IntKind.i64 r, Value.int IntKind.i64 m, Value.slice a A.length cap] 24) = wa := ⟨_, rfl⟩
  have HXa : Hid (Ex w wa) := (by rw [← hwa]; exact hxa : Ex w wa)
  have HF : Hid (XAt wa w.heap.size r m (.slice a A.length cap) 24) := (by rw [← hwa]; exact hF : XAt wa w.heap.size r m (.slice a A.length cap) 24)
  obtain ⟨f0, f1, f2⟩ := HF.out.all
  clear hB hxa hF hq
  unfold xv
  go_enter Try.func28, Try.ntmps28
  go_wp2_with fail
  go_loopw [10] (fun i wr => ∃ j : Nat, j ≤ A.length ∧ i = .int .i64 j ∧ Hid (∀ k, k < j → Tk.at0 A k ≤ hi) ∧ Hid (wr = wa)) (fun i _ => A.length - (intOf i).toNat)
  case atStart => exact ⟨0, by omega, rfl, (fun k hk => by omega : ∀ k, k < 0 → Tk.at0 A k ≤ hi), rfl⟩
  case round =>
    obtain ⟨j, hj, rfl, HLe, HW⟩ := hrel
    obtain rfl := HW.out
    by_cases hlt : j < A.length
    · obtain ⟨bb, off, rfl, hc1⟩ := (HB.out.below HXa.out).at0 hlt
      obtain ⟨x, hx⟩ : ∃ x, Tk.at0 A j = x := ⟨_, rfl⟩
      rw [hx] at hc1
      have tj : decide ((j : Int) < (A.length : Int)) = true := by simp; omega
      by_cases hg : hi < x
      · have t8 : decide (hi < x) = true := decide_eq_true hg
        have hab : Tk.above A hi = j := Tk.above_at hlt (by rw [hx]; exact hg) HLe.out
        have hqe : (j : Int) * 4 = q := by rw [HQ.out, hab, if_pos hlt]; omega
        have HQe : Hid ((j : Int) * 4 = q) := hqe
        clear hab hx hqe
        go_wp2_with fail
        go_ret
        refine ⟨?_, HXa.out⟩
        rw [← HQe.out]; rfl
      · have t8 : decide (hi < x) = false := decide_eq_false hg
        have HLe2 : Hid (∀ k, k < j + 1 → Tk.at0 A k ≤ hi) := (fun k hk => by
          by_cases e : k < j
          · exact HLe.out k e
          · obtain rfl : k = j := by omega
            rw [hx]; omega : ∀ k, k < j + 1 → Tk.at0 A k ≤ hi)
        clear hx
        go_wp2_with fail
        go_roundw
        case rel => exact ⟨j + 1, by omega, by go_num, HLe2, trivial⟩
        case measure => simp [intOf]; omega
    · obtain rfl : j = A.length := by omega
      have tj : decide ((A.length : Int) < (A.length : Int)) = false := by simp
      have HQe : Hid (q = r) := (by rw [HQ.out, if_neg (Tk.above_none HLe.out)] : q = r)
      go_wp2_with fail
      go_ret
      refine ⟨?_, HXa.out⟩
      rw [HQe.out]; rfl
set_option maxRecDepth 100000 in
set_option maxHeartbeats 8000000 in
theorem lspan_is (r m : Int) (a : Option Addr) (n cap : Nat) (A : List Int) (lo hi : Int) (w : World) (hn : n = A.length) (hB : Rd z64 w a cap A) (hr1 : -9223372036854775808 ≤ r) (hr2 : r ≤ 9223372036854775807) (p q : Nat) (hs : Tk.span ⟨r, m, A⟩ lo hi = (p, q)) :
    Calls Try.prog 12 #[xv r m (.slice a n cap), .int .i64 lo, .int .i64 hi] w fun e w' => e = .returned (.tuple #[.int .i64 p, .int .i64 q]) ∧ Ex w w' := by
  subst hn
  have hcl := hB.1
  have hcm := hB.2.1
  unfold maxLen at hcm
  have HB : Hid (Rd z64 w a cap A) := hB
  have hxa : Ex w (w.alloc (xb r m (.slice a A.length cap) 24)) := (Below.refl _ _).alloc (Nat.le_refl _) _
  have hF := XAt.new w r m (.slice a A.length cap) 24
  obtain ⟨wa, hwa⟩ : ∃ wa, w.alloc (Obj.cells #[Value.int IntKind.i64 r, Value.int IntKind.i64 m, Value.slice a A.length cap] 24) = wa := ⟨_, rfl⟩
  have HXa : Hid (Ex w wa) := (by rw [← hwa]; exact hxa : Ex w wa)
  have HF : Hid (XAt wa w.heap.size r m (.slice a A.length cap) 24) := (by rw [← hwa]; exact hF : XAt wa w.heap.size r m (.slice a A.length cap) 24)
  obtain ⟨f0, f1, f2⟩ := HF.out.all
  unfold Tk.span at hs
  simp only at hs
  clear hB hxa hF
  by_cases c1 : hi < lo
  · rw [if_pos (.inl c1)] at hs
    simp only [Prod.mk.injEq] at hs
    obtain ⟨rfl, rfl⟩ := hs
    have t1 : decide (hi < lo) = true := decide_eq_true c1
    unfold xv
    go_enter Try.func12, Try.ntmps12
    go_wp2_with fail
    go_ret2
    exact ⟨rfl, HXa.out⟩
  · have t1 : decide (hi < lo) = false := decide_eq_false c1
    by_cases c0 : r = 0
    · rw [if_pos (.inr (.inr (.inl c0)))] at hs
      simp only [Prod.mk.injEq] at hs
      obtain ⟨rfl, rfl⟩ := hs
      have t2 : (r == 0) = true := by simpa using c0
      clear c0
      unfold xv
      go_enter Try.func12, Try.ntmps12
      go_wp2_with fail
      go_ret2
      exact ⟨rfl, HXa.out⟩
    · have t2 : (r == 0) = false := by simpa using c0
      obtain ⟨rb, hrb⟩ : ∃ rb, Tk.right ⟨r, m, A⟩ = rb := ⟨_, rfl⟩
      have HRb : Hid (Tk.right ⟨r, m, A⟩ = rb) := hrb
      rw [hrb] at hs
      cases rb with
      | false =>
        rw [if_pos (.inr (.inl rfl))] at hs
        simp only [Prod.mk.injEq] at hs
        obtain ⟨rfl, rfl⟩ := hs
        clear hrb
        unfold xv
        go_enter Try.func12, Try.ntmps12
        go_wp2_with fail
        refine (lright_is r m a A.length cap A _ rfl (HB.out.below HXa.out) hr1 hr2 false HRb.out).mono ?_
        rintro e w1 ⟨rfl, hx1⟩
        go_wp2_with fail
        go_ret2
        exact ⟨rfl, HXa.out.trans hx1⟩
      | true =>
        rw [Tk.right_top] at hrb
        simp only [Bool.and_eq_true, decide_eq_true_eq] at hrb
        obtain ⟨⟨⟨⟨hr0, hr3⟩, hAr⟩, hRi⟩, _⟩ := hrb
        have HRi : Hid (Tk.Rise A) := hRi
        have hAl : A.length ≤ 262144 := by omega
        have hA0 : 0 < A.length := by omega
        obtain ⟨bb, off, rfl, _⟩ := HB.out.at0 hA0
        obtain ⟨x0, hx0⟩ : ∃ x0, Tk.at0 A 0 = x0 := ⟨_, rfl⟩
        have HX0 : Hid (Tk.at0 A 0 = x0) := hx0
        rw [hx0] at hs
        clear hRi hx0 hAr
        by_cases d1 : hi < x0
        · rw [if_pos (.inr (.inr (.inr (.inl d1))))] at hs
          simp only [Prod.mk.injEq] at hs
          obtain ⟨rfl, rfl⟩ := hs
          have t3 : decide (hi < x0) = true := decide_eq_true d1
          unfold xv
          go_enter Try.func12, Try.ntmps12
          go_wp2_with fail
          refine (lright_is r m _ A.length cap A _ rfl (HB.out.below HXa.out) hr1 hr2 true HRb.out).mono ?_
          rintro e w1 ⟨rfl, hx1⟩
          have HX1 : Hid (Ex w w1) := HXa.out.trans hx1
          have HF1 : Hid (XAt w1 w.heap.size r m (.slice (some ⟨bb, off, none⟩) A.length cap) 24) := HF.out.below hx1
          clear f0 f1 f2
          obtain ⟨f0, f1, f2⟩ := HF1.out.all
          obtain ⟨_, _, e0, hc0⟩ := (HB.out.below HX1.out).at0 hA0
          simp only [Option.some.injEq, Addr.mk.injEq, and_true] at e0
          obtain ⟨rfl, rfl⟩ := e0
          rw [HX0.out, Nat.add_zero] at hc0
          clear hx1
          go_wp2_with fail
          go_ret2
          exact ⟨rfl, HX1.out⟩
        · have t3 : decide (hi < x0) = false := decide_eq_false d1
          by_cases d2 : m < lo
          · rw [if_pos (.inr (.inr (.inr (.inr d2))))] at hs
            simp only [Prod.mk.injEq] at hs
            obtain ⟨rfl, rfl⟩ := hs
            have t4 : decide (m < lo) = true := decide_eq_true d2
            unfold xv
            go_enter Try.func12, Try.ntmps12
            go_wp2_with fail
            refine (lright_is r m _ A.length cap A _ rfl (HB.out.below HXa.out) hr1 hr2 true HRb.out).mono ?_
            rintro e w1 ⟨rfl, hx1⟩
            have HX1 : Hid (Ex w w1) := HXa.out.trans hx1
            have HF1 : Hid (XAt w1 w.heap.size r m (.slice (some ⟨bb, off, none⟩) A.length cap) 24) := HF.out.below hx1
            clear f0 f1 f2
            obtain ⟨f0, f1, f2⟩ := HF1.out.all
            obtain ⟨_, _, e0, hc0⟩ := (HB.out.below HX1.out).at0 hA0
            simp only [Option.some.injEq, Addr.mk.injEq, and_true] at e0
            obtain ⟨rfl, rfl⟩ := e0
            rw [HX0.out, Nat.add_zero] at hc0
            clear hx1
            go_wp2_with fail
            go_ret2
            exact ⟨rfl, HX1.out⟩
          · have t4 : decide (m < lo) = false := decide_eq_false d2
            rw [if_neg (by rintro (h | h | h | h | h); exact c1 h; cases h; exact c0 h; exact d1 h; exact d2 h)] at hs
            simp only [Prod.mk.injEq] at hs
            have HP : Hid ((p : Int) = ((4 * (Tk.below A lo - 1) : Nat) : Int)) := (by rw [← hs.1] : (p : Int) = ((4 * (Tk.below A lo - 1) : Nat) : Int))
            have HQ : Hid ((q : Int) = if Tk.above A hi < A.length then ((4 * Tk.above A hi : Nat) : Int) else r) := (by
              rw [← hs.2]
              split
              · rfl
              · omega : (q : Int) = if Tk.above A hi < A.length then ((4 * Tk.above A hi : Nat) : Int) else r)
            clear hs
            unfold xv
            go_enter Try.func12, Try.ntmps12
            go_wp2_with fail
            refine (lright_is r m _ A.length cap A _ rfl (HB.out.below HXa.out) hr1 hr2 true HRb.out).mono ?_
            rintro e w1 ⟨rfl, hx1⟩
            have HX1 : Hid (Ex w w1) := HXa.out.trans hx1
            have HF1 : Hid (XAt w1 w.heap.size r m (.slice (some ⟨bb, off, none⟩) A.length cap) 24) := HF.out.below hx1
            clear f0 f1 f2
            obtain ⟨f0, f1, f2⟩ := HF1.out.all
            obtain ⟨_, _, e0, hc0⟩ := (HB.out.below HX1.out).at0 hA0
            simp only [Option.some.injEq, Addr.mk.injEq, and_true] at e0
            obtain ⟨rfl, rfl⟩ := e0
            rw [HX0.out, Nat.add_zero] at hc0
            clear hx1
            go_wp2_with fail
            have hre := Ex.refl
            refine Rg.wp_rows [.inl (xv r m (.slice (some ⟨bb, off, none⟩) A.length cap)), .inl (Value.int .i64 lo), .inl (Value.int .i64 (p : Int)), .inl (xv r m (.slice (some ⟨bb, off, none⟩) A.length cap)), .inl (Value.int .i64 hi), .inl (Value.int .i64 (q : Int)), .inl (Value.int .i64 (p : Int)), .inl (Value.int .i64 (q : Int))] (Ex w1) Ex 39 (by kernel_rfl) rfl (by kernel_rfl) trivial hre (Ex.drew _) ?goods ?fin
            case goods =>
              refine Rg.goods_cons (Rg.good_load hre rfl rfl rfl (fun wx hC => load_ixI (.inl rfl) (HF1.out.below hC))) ?_
              refine Rg.goods_cons (Rg.good_move hre rfl rfl rfl) ?_
              refine Rg.goods_cons (Rg.good_call2 Try.func27 (by kernel_rfl) rfl rfl rfl (by rintro u u2 wx hC rfl rfl; exact ex_rowS (start_is r m _ A.length cap A lo wx rfl (HB.out.below (HX1.out.trans hC)) hAl HRi.out _ HP.out) hC)) ?_
              refine Rg.goods_cons (Rg.good_load hre rfl rfl rfl (fun wx hC => load_ixI (.inl rfl) (HF1.out.below hC))) ?_
              refine Rg.goods_cons (Rg.good_move hre rfl rfl rfl) ?_
              refine Rg.goods_cons (Rg.good_call2 Try.func28 (by kernel_rfl) rfl rfl rfl (by rintro u u2 wx hC rfl rfl; exact ex_rowS (end_is r m _ A.length cap A hi wx rfl (HB.out.below (HX1.out.trans hC)) hAl _ HQ.out) hC)) ?_
              refine Rg.goods_cons (Rg.good_assign hre rfl rfl rfl) ?_
              refine Rg.goods_cons (Rg.good_assign hre rfl rfl rfl) ?_
              exact Rg.goods_nil
            case fin =>
              intro w3 hx3
              simp only [Rg.later, Act.put, List.setIfInBounds_toArray, List.set_cons_succ, List.set_cons_zero]
              go_wp2_with fail
              go_ret2
              exact ⟨rfl, HX1.out.trans hx3⟩
end Go.Proofs.Ytaehchaimlklnaa
