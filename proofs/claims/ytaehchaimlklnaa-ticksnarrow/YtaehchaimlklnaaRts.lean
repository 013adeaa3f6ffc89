/-
  The document's own Span (layer 10), over the program.
-/
import Derived.Test.YtaehchaimlklnaaRtr
namespace Go.Proofs.Ytaehchaimlklnaa
open Go.RowKit
set_option linter.unusedVariables false
set_option linter.unusedSimpArgs false
namespace Tk
theorem below_next {a : List Int} {i : Nat} (lo : Int) (h : i < a.length) : below (a.take (i + 1)) lo = below (a.take i) lo + (if at0 a i < lo then 1 else 0) := by
  unfold below
  rw [List.take_succ_eq_append_getElem h, List.countP_append, at0_eq h]
  congr 1
  by_cases e : a[i] < lo
  · simp [e]
  · simp [e]
theorem above_at {a : List Int} {i : Nat} {hi : Int} (h : i < a.length) (hg : hi < at0 a i) (hb : ∀ k, k < i → at0 a k ≤ hi) : above a hi = i := by
  have hle := above_le_len a hi
  rcases Nat.lt_trichotomy (above a hi) i with e | e | e
  · have h1 := above_gt (a := a) (hi := hi) (by omega)
    have h2 := hb _ e
    omega
  · exact e
  · have := above_not (a := a) (hi := hi) e
    omega
theorem above_none {a : List Int} {hi : Int} (hb : ∀ k, k < a.length → at0 a k ≤ hi) : ¬ above a hi < a.length := fun h => by
  have h1 := above_gt h
  have h2 := hb _ h
  omega
end Tk
set_option maxRecDepth 100000 in
set_option maxHeartbeats 8000000 in
theorem rts_is (r m : Int) (a : Option Addr) (n cap : Nat) (A : List Int) (lo hi : Int) (w : World) (hn : n = A.length) (hB : Rd z64 w a cap A) (hr1 : -9223372036854775808 ≤ r) (hr2 : r ≤ 9223372036854775807) (p q : Nat) (hs : Tk.span ⟨r, m, A⟩ lo hi = (p, q)) :
    Calls Try.prog 13 #[xv r m (.slice a n cap), .int .i64 lo, .int .i64 hi] w fun e w' => e = .returned (.tuple #[.int .i64 p, .int .i64 q]) ∧ Ex w w' := by
  subst hn
  have hcl := hB.1
  have hcm := hB.2.1
  unfold maxLen at hcm
  have HB : Hid (Rd z64 w a cap A) := hB
  have hxa : Ex w (w.alloc (xb r m (.slice a A.length cap) 28)) := (Below.refl _ _).alloc (Nat.le_refl _) _
  have hF := XAt.new w r m (.slice a A.length cap) 28
  obtain ⟨wa, hwa⟩ : ∃ wa, w.alloc (Obj.cells #[Value.int IntKind.i64 r, Value.int IntKind.i64 m, Value.slice a A.length cap] 28) = wa := ⟨_, rfl⟩
  have HXa : Hid (Ex w wa) := (by rw [← hwa]; exact hxa : Ex w wa)
  have HF : Hid (XAt wa w.heap.size r m (.slice a A.length cap) 28) := (by rw [← hwa]; exact hF : XAt wa w.heap.size r m (.slice a A.length cap) 28)
  obtain ⟨f0, f1, f2⟩ := HF.out.all
  unfold Tk.span at hs
  simp only at hs
  clear hB hxa hF
  by_cases c1 : hi < lo
  · rw [if_pos (.inl c1)] at hs
    simp only [Prod.mk.injEq] at hs
    obtain ⟨rfl, rfl⟩ := hs
    have t1 : decide (hi < lo) = true := decide_eq_true c1
    unfold xv
    go_enter Try.func13, Try.ntmps13
    go_wp2_with fail
    go_ret2
    exact ⟨rfl, HXa.out⟩
  · have t1 : decide (hi < lo) = false := decide_eq_false c1
    obtain ⟨rb, hrb⟩ : ∃ rb, Tk.right ⟨r, m, A⟩ = rb := ⟨_, rfl⟩
    have HRb : Hid (Tk.right ⟨r, m, A⟩ = rb) := hrb
    rw [hrb] at hs
    cases rb with
    | false =>
      rw [if_pos (.inr (.inl rfl))] at hs
      simp only [Prod.mk.injEq] at hs
      obtain ⟨rfl, rfl⟩ := hs
      clear hrb
      unfold xv
      go_enter Try.func13, Try.ntmps13
      go_wp2_with fail
      refine (rtr_is r m a A.length cap A _ rfl (HB.out.below HXa.out) hr1 hr2 false HRb.out).mono ?_
      rintro e w1 ⟨rfl, hx1⟩
      have HX1 : Hid (Ex w w1) := HXa.out.trans hx1
      clear hx1
      go_wp2_with fail
      go_ret2
      exact ⟨rfl, HX1.out⟩
    | true =>
      by_cases c0 : r = 0
      · rw [if_pos (.inr (.inr (.inl c0)))] at hs
        simp only [Prod.mk.injEq] at hs
        obtain ⟨rfl, rfl⟩ := hs
        have t4 : (r == 0) = true := by simpa using c0
        clear hrb c0
        unfold xv
        go_enter Try.func13, Try.ntmps13
        go_wp2_with fail
        refine (rtr_is r m a A.length cap A _ rfl (HB.out.below HXa.out) hr1 hr2 true HRb.out).mono ?_
        rintro e w1 ⟨rfl, hx1⟩
        have HX1 : Hid (Ex w w1) := HXa.out.trans hx1
        obtain ⟨g0, g1, g2⟩ := (HF.out.below hx1).all
        clear hx1
        go_wp2_with fail
        go_ret2
        exact ⟨rfl, HX1.out⟩
      · have t4 : (r == 0) = false := by simpa using c0
        have hRr := hrb
        unfold Tk.right at hRr
        simp only [Bool.and_eq_true, decide_eq_true_eq] at hRr
        obtain ⟨⟨hra, hrc, hrl⟩, _⟩ := hRr
        have hAl : A.length ≤ 262144 := by omega
        have hA1 : 1 ≤ A.length := by omega
        obtain ⟨bb, off, rfl, _⟩ := HB.out.at0 (k := 0) (by omega)
        obtain ⟨x0, hx0⟩ : ∃ x0, Tk.at0 A 0 = x0 := ⟨_, rfl⟩
        rw [hx0] at hs
        have HX0 : Hid (Tk.at0 A 0 = x0) := hx0
        clear hrb hrl hx0
        by_cases c4 : hi < x0
        · rw [if_pos (.inr (.inr (.inr (.inl c4))))] at hs
          simp only [Prod.mk.injEq] at hs
          obtain ⟨rfl, rfl⟩ := hs
          have t5 : decide (hi < x0) = true := decide_eq_true c4
          unfold xv
          go_enter Try.func13, Try.ntmps13
          go_wp2_with fail
          refine (rtr_is r m _ A.length cap A _ rfl (HB.out.below HXa.out) hr1 hr2 true HRb.out).mono ?_
          rintro e w1 ⟨rfl, hx1⟩
          have HX1 : Hid (Ex w w1) := HXa.out.trans hx1
          have HF1 : Hid (XAt w1 w.heap.size r m (.slice (some ⟨bb, off, none⟩) A.length cap) 28) := HF.out.below hx1
          obtain ⟨g0, g1, g2⟩ := HF1.out.all
          obtain ⟨_, _, e0, hc0⟩ := (HB.out.below HX1.out).at0 (k := 0) (by omega)
          simp only [Option.some.injEq, Addr.mk.injEq, and_true] at e0
          obtain ⟨rfl, rfl⟩ := e0
          rw [HX0.out, Nat.add_zero] at hc0
          clear hx1
          go_wp2_with fail
          go_ret2
          exact ⟨rfl, HX1.out⟩
        · have t5 : decide (hi < x0) = false := decide_eq_false c4
          by_cases c5 : m < lo
          · rw [if_pos (.inr (.inr (.inr (.inr c5))))] at hs
            simp only [Prod.mk.injEq] at hs
            obtain ⟨rfl, rfl⟩ := hs
            have t6 : decide (m < lo) = true := decide_eq_true c5
            unfold xv
            go_enter Try.func13, Try.ntmps13
            go_wp2_with fail
            refine (rtr_is r m _ A.length cap A _ rfl (HB.out.below HXa.out) hr1 hr2 true HRb.out).mono ?_
            rintro e w1 ⟨rfl, hx1⟩
            have HX1 : Hid (Ex w w1) := HXa.out.trans hx1
            have HF1 : Hid (XAt w1 w.heap.size r m (.slice (some ⟨bb, off, none⟩) A.length cap) 28) := HF.out.below hx1
            obtain ⟨g0, g1, g2⟩ := HF1.out.all
            obtain ⟨_, _, e0, hc0⟩ := (HB.out.below HX1.out).at0 (k := 0) (by omega)
            simp only [Option.some.injEq, Addr.mk.injEq, and_true] at e0
            obtain ⟨rfl, rfl⟩ := e0
            rw [HX0.out, Nat.add_zero] at hc0
            clear hx1
            go_wp2_with fail
            go_ret2
            exact ⟨rfl, HX1.out⟩
          · have t6 : decide (m < lo) = false := decide_eq_false c5
            rw [if_neg (by rintro (e | e | e | e | e) <;> first | omega | (cases e))] at hs
            simp only [Prod.mk.injEq] at hs
            have HS : Hid (4 * (Tk.below A lo - 1) = p ∧ (if Tk.above A hi < A.length then 4 * Tk.above A hi else r.toNat) = q) := hs
            clear hs
            unfold xv
            go_enter Try.func13, Try.ntmps13
            go_wp2_with fail
            refine (rtr_is r m _ A.length cap A _ rfl (HB.out.below HXa.out) hr1 hr2 true HRb.out).mono ?_
            rintro e w1 ⟨rfl, hx1⟩
            have HX1 : Hid (Ex w w1) := HXa.out.trans hx1
            have HF1 : Hid (XAt w1 w.heap.size r m (.slice (some ⟨bb, off, none⟩) A.length cap) 28) := HF.out.below hx1
            obtain ⟨g0, g1, g2⟩ := HF1.out.all
            obtain ⟨_, _, e0, hc0⟩ := (HB.out.below HX1.out).at0 (k := 0) (by omega)
            simp only [Option.some.injEq, Addr.mk.injEq, and_true] at e0
            obtain ⟨rfl, rfl⟩ := e0
            rw [HX0.out, Nat.add_zero] at hc0
            clear hx1
            go_wp2_with fail
            go_loopw [8, 9] (fun n i wr => ∃ j : Nat, j ≤ A.length ∧ i = .int .i64 j ∧ n = .int .i64 (Tk.below (A.take j) lo : Int) ∧ Hid (Ex w1 wr)) (fun _ i _ => A.length - (intOf i).toNat)
            case atStart => exact ⟨0, by omega, rfl, rfl, Ex.refl _⟩
            case round =>
              clear hc0 g0 g1 g2
              obtain ⟨j, hj, rfl, rfl, HXr⟩ := hrel
              obtain ⟨h0, h1, h2⟩ := (HF1.out.below HXr.out).all
              by_cases hlt : j < A.length
              · obtain ⟨_, _, e1, hc1⟩ := (HB.out.below (HX1.out.trans HXr.out)).at0 hlt
                simp only [Option.some.injEq, Addr.mk.injEq, and_true] at e1
                obtain ⟨rfl, rfl⟩ := e1
                obtain ⟨x, hx⟩ : ∃ x, Tk.at0 A j = x := ⟨_, rfl⟩
                rw [hx] at hc1
                have hnx := Tk.below_next lo hlt
                rw [hx] at hnx
                obtain ⟨n0, hn0⟩ : ∃ n0, Tk.below (A.take j) lo = n0 := ⟨_, rfl⟩
                have hn0b : n0 ≤ 262144 := by rw [← hn0]; exact Nat.le_trans (Tk.below_le _ _) (by simp; omega)
                rw [hn0] at hnx ⊢
                have HNx : Hid (Tk.below (A.take (j + 1)) lo = n0 + (if x < lo then 1 else 0)) := hnx
                have tj : decide ((j : Int) < (A.length : Int)) = true := by simp; omega
                clear hx hn0 hnx
                by_cases hl2 : x < lo
                · have t7 : decide (x < lo) = true := decide_eq_true hl2
                  have HN2 : Hid (Tk.below (A.take (j + 1)) lo = n0 + 1) := (by rw [HNx.out, if_pos hl2] : Tk.below (A.take (j + 1)) lo = n0 + 1)
                  go_wp2_with fail
                  go_roundw
                  case rel => exact ⟨j + 1, by omega, by go_num, by rw [HN2.out]; go_num, HXr⟩
                  case measure => simp [intOf]; omega
                · have t7 : decide (x < lo) = false := decide_eq_false hl2
                  have HN2 : Hid (Tk.below (A.take (j + 1)) lo = n0) := (by rw [HNx.out, if_neg hl2]; rfl : Tk.below (A.take (j + 1)) lo = n0)
                  go_wp2_with fail
                  go_roundw
                  case rel => exact ⟨j + 1, by omega, by go_num, by rw [HN2.out], HXr⟩
                  case measure => simp [intOf]; omega
              · obtain rfl : j = A.length := by omega
                rw [List.take_length]
                have tj : decide ((A.length : Int) < (A.length : Int)) = false := by simp
                obtain ⟨B0, hB0⟩ : ∃ B0, Tk.below A lo = B0 := ⟨_, rfl⟩
                have hB0b : B0 ≤ 262144 := by rw [← hB0]; exact Nat.le_trans (Tk.below_le _ _) hAl
                have hp := HS.out.1
                rw [hB0] at hp ⊢
                clear hB0
                by_cases hbp : 0 < B0
                · have t9 : decide (0 < (B0 : Int)) = true := decide_eq_true (by omega)
                  have t9' : decide (0 < B0) = true := decide_eq_true (by omega)
                  have hpi : 4 * ((B0 : Int) - 1) = (p : Int) := by omega
                  have HP : Hid (4 * ((B0 : Int) - 1) = (p : Int)) := hpi
                  have hpb : p ≤ 1048576 := by omega
                  clear hp
                  go_wp2_with fail
                  go_loopw [11] (fun i wr => ∃ j : Nat, j ≤ A.length ∧ i = .int .i64 j ∧ Hid (∀ k, k < j → Tk.at0 A k ≤ hi) ∧ Hid (Ex w1 wr)) (fun i _ => A.length - (intOf i).toNat)
                  case atStart => exact ⟨0, by omega, rfl, (fun k hk => by omega : ∀ k, k < 0 → Tk.at0 A k ≤ hi), HXr⟩
                  case round =>
                    obtain ⟨j, hj, rfl, HLe, HXr⟩ := hrel
                    obtain ⟨h0, h1, h2⟩ := (HF1.out.below HXr.out).all
                    by_cases hlt : j < A.length
                    · obtain ⟨_, _, e1, hc1⟩ := (HB.out.below (HX1.out.trans HXr.out)).at0 hlt
                      simp only [Option.some.injEq, Addr.mk.injEq, and_true] at e1
                      obtain ⟨rfl, rfl⟩ := e1
                      obtain ⟨x, hx⟩ : ∃ x, Tk.at0 A j = x := ⟨_, rfl⟩
                      rw [hx] at hc1
                      have tj : decide ((j : Int) < (A.length : Int)) = true := by simp; omega
                      by_cases hg : hi < x
                      · have t8 : decide (hi < x) = true := decide_eq_true hg
                        have hab : Tk.above A hi = j := Tk.above_at hlt (by rw [hx]; exact hg) HLe.out
                        have hq : q = 4 * j := by rw [← HS.out.2, hab, if_pos hlt]
                        subst hq
                        clear hab hx
                        go_wp2_with fail
                        go_ret2
                        exact ⟨by first | rfl | (rw [HP.out]; rfl) | (simp [HP.out]), HX1.out.trans HXr.out⟩
                      · have t8 : decide (hi < x) = false := decide_eq_false hg
                        have HLe2 : Hid (∀ k, k < j + 1 → Tk.at0 A k ≤ hi) := (fun k hk => by
                          by_cases e : k < j
                          · exact HLe.out k e
                          · obtain rfl : k = j := by omega
                            rw [hx]; omega : ∀ k, k < j + 1 → Tk.at0 A k ≤ hi)
                        clear hx
                        go_wp2_with fail
                        go_roundw
                        case rel => exact ⟨j + 1, by omega, by go_num, HLe2, HXr⟩
                        case measure => simp [intOf]; omega
                    · obtain rfl : j = A.length := by omega
                      have tj : decide ((A.length : Int) < (A.length : Int)) = false := by simp
                      have hq : q = r.toNat := by rw [← HS.out.2, if_neg (Tk.above_none HLe.out)]
                      have hqi : (q : Int) = r := by rw [hq]; omega
                      clear hq
                      go_wp2_with fail
                      go_quiet (fail)
                      go_wp2_with fail
                      go_ret2
                      refine ⟨?_, (HX1.out.trans HXr.out).trans (Ex.drewN _ _)⟩
                      first | (rw [hqi]; rfl) | (rw [hqi, HP.out]; rfl) | simp [hqi, HP.out]
                · have t9 : decide (0 < (B0 : Int)) = false := decide_eq_false (by omega)
                  have t9' : decide (0 < B0) = false := decide_eq_false (by omega)
                  have hp0 : p = 0 := by omega
                  subst hp0
                  have HP : Hid ((0 : Int) = 0) := (rfl : (0 : Int) = 0)
                  clear hp
                  go_wp2_with fail
                  go_loopw [11] (fun i wr => ∃ j : Nat, j ≤ A.length ∧ i = .int .i64 j ∧ Hid (∀ k, k < j → Tk.at0 A k ≤ hi) ∧ Hid (Ex w1 wr)) (fun i _ => A.length - (intOf i).toNat)
                  case atStart => exact ⟨0, by omega, rfl, (fun k hk => by omega : ∀ k, k < 0 → Tk.at0 A k ≤ hi), HXr⟩
                  case round =>
                    obtain ⟨j, hj, rfl, HLe, HXr⟩ := hrel
                    obtain ⟨h0, h1, h2⟩ := (HF1.out.below HXr.out).all
                    by_cases hlt : j < A.length
                    · obtain ⟨_, _, e1, hc1⟩ := (HB.out.below (HX1.out.trans HXr.out)).at0 hlt
                      simp only [Option.some.injEq, Addr.mk.injEq, and_true] at e1
                      obtain ⟨rfl, rfl⟩ := e1
                      obtain ⟨x, hx⟩ : ∃ x, Tk.at0 A j = x := ⟨_, rfl⟩
                      rw [hx] at hc1
                      have tj : decide ((j : Int) < (A.length : Int)) = true := by simp; omega
                      by_cases hg : hi < x
                      · have t8 : decide (hi < x) = true := decide_eq_true hg
                        have hab : Tk.above A hi = j := Tk.above_at hlt (by rw [hx]; exact hg) HLe.out
                        have hq : q = 4 * j := by rw [← HS.out.2, hab, if_pos hlt]
                        subst hq
                        clear hab hx
                        go_wp2_with fail
                        go_ret2
                        exact ⟨by first | rfl | (rw [HP.out]; rfl) | (simp [HP.out]), HX1.out.trans HXr.out⟩
                      · have t8 : decide (hi < x) = false := decide_eq_false hg
                        have HLe2 : Hid (∀ k, k < j + 1 → Tk.at0 A k ≤ hi) := (fun k hk => by
                          by_cases e : k < j
                          · exact HLe.out k e
                          · obtain rfl : k = j := by omega
                            rw [hx]; omega : ∀ k, k < j + 1 → Tk.at0 A k ≤ hi)
                        clear hx
                        go_wp2_with fail
                        go_roundw
                        case rel => exact ⟨j + 1, by omega, by go_num, HLe2, HXr⟩
                        case measure => simp [intOf]; omega
                    · obtain rfl : j = A.length := by omega
                      have tj : decide ((A.length : Int) < (A.length : Int)) = false := by simp
                      have hq : q = r.toNat := by rw [← HS.out.2, if_neg (Tk.above_none HLe.out)]
                      have hqi : (q : Int) = r := by rw [hq]; omega
                      clear hq
                      go_wp2_with fail
                      go_quiet (fail)
                      go_wp2_with fail
                      go_ret2
                      refine ⟨?_, (HX1.out.trans HXr.out).trans (Ex.drewN _ _)⟩
                      first | (rw [hqi]; rfl) | (rw [hqi, HP.out]; rfl) | simp [hqi, HP.out]
end Go.Proofs.Ytaehchaimlklnaa
