/-
  The walk of the law DictFinds: whatever texts it is given, it returns true.
-/
import Derived.Test.YtmnhoofjijiibaaKnown
namespace Go.Proofs.Ytmnhoofjijiibaa.dictFinds
open Go.RowKit
set_option linter.unusedVariables false

set_option maxRecDepth 100000 in
set_option maxHeartbeats 2000000 in
theorem walk (p0 : Option Addr) (c0 : Nat) (l0 : List (List UInt8)) (s1 : List UInt8) (w : World) (b0 : Rd st w p0 c0 l0) (m0 : ∀ x ∈ l0, x.length ≤ maxLen) (w1 : s1.length ≤ 140737488351232) :
    Calls Try.prog 7 #[.slice p0 l0.length c0, .string (str s1)] w fun e w' => e = .returned (.bool true) ∧ Below w.heap.size w w' := by
  obtain ⟨C, hC⟩ : ∃ C, cutTexts l0 = C := ⟨_, rfl⟩
  have hCl : C.length ≤ 40 := by rw [← hC, cutTexts_len]; omega
  have hCs : ∀ x ∈ C, x.length ≤ 41 := by rw [← hC]; exact cutTexts_short l0
  obtain ⟨D, hD⟩ : ∃ D, T.bld C = D := ⟨_, rfl⟩
  obtain ⟨P, hP⟩ : ∃ P, places D C = P := ⟨_, rfl⟩
  have hDl : D.length ≤ 40 := by rw [← hD]; have := T.bld_len C; omega
  have hRise : T.Rise D := by rw [← hD]; exact T.rise_bld C
  have hDm : ∀ x ∈ D, x.length ≤ maxLen := by
    intro x hx
    rw [← hD, T.mem_bld] at hx
    have := hCs x hx
    unfold maxLen; omega
  obtain ⟨r, hr⟩ : ∃ r, T.idx s1 D = r := ⟨_, rfl⟩
  obtain ⟨f, hf⟩ : ∃ f, T.pos s1 D = f := ⟨_, rfl⟩
  obtain ⟨t, ht⟩ : ∃ t, T.upto s1 D = t := ⟨_, rfl⟩
  obtain ⟨fb, hfb⟩ : ∃ fb, T.fits D = fb := ⟨_, rfl⟩
  obtain ⟨sb, hsb⟩ : ∃ sb, D.all (fun s => decide (s.length ≤ 40)) = sb := ⟨_, rfl⟩
  have hft : f ≤ t ∧ t ≤ D.length := by rw [← hf, ← ht]; exact T.upto_le s1 D
  have hft1 := hft.1
  have hft2 := hft.2
  have tft : decide ((f : Int) ≤ (t : Int)) = true := by simp; omega
  have H0 : Hid (Rd st w p0 c0 l0) := b0
  have HS : Hid (∀ x ∈ l0, x.length ≤ maxLen) := m0
  have HC : Hid (cutTexts l0 = C) := hC
  have HD : Hid (T.bld C = D) := hD
  have HP : Hid (places D C = P) := hP
  have HCm : Hid (∀ x ∈ C, x.length ≤ maxLen) := (fun x hx => by have := hCs x hx; unfold maxLen; omega : ∀ x ∈ C, x.length ≤ maxLen)
  have HRise : Hid (T.Rise D) := hRise
  have HDm : Hid (∀ x ∈ D, x.length ≤ maxLen) := hDm
  have HI : Hid (T.idx s1 D = r) := hr
  have HF : Hid (T.pos s1 D = f) := hf
  have HT : Hid (T.upto s1 D = t) := ht
  have HFits : Hid (T.fits D = fb) := hfb
  have HShort : Hid (D.all (fun s => decide (s.length ≤ 40)) = sb) := hsb
  have HSm : Hid (s1.length ≤ maxLen) := (by unfold maxLen; omega : s1.length ≤ maxLen)
  have hcap := b0.1
  have hcapm := b0.2.1
  unfold maxLen at hcapm
  have zs := str_toList s1
  clear b0 m0 hC hCs hD hP hRise hDm hr hf ht hfb hsb hft
  go_enter Try.func7, Try.ntmps7
  go_wp2_with fail
  refine (few_is p0 _ c0 l0 _ rfl H0.out HS.out C HC.out).mono ?_
  rintro e wa ⟨va, rfl, ⟨aa, ca, rfl, hba⟩, hxa⟩
  go_wp2_with fail
  refine (build_is aa _ ca C _ rfl hba (by omega) HCm.out D HD.out P HP.out).mono ?_
  rintro e wb ⟨v5, u5, rfl, ⟨a5, c5, rfl, hb5⟩, ⟨a6, c6, rfl, hb6⟩, hxb⟩
  have HX : Hid (Ex w wb) := hxa.trans hxb
  have HB5 : Hid (Rd st wb a5 c5 D) := hb5
  have h5a := hb5.1
  have h5m := hb5.2.1
  unfold maxLen at h5m
  clear hba hxa hb5 hb6 hxb
  go_wp2_with fail
  go_loop [7, 8] (fun v i => ∃ (k : Nat) (b : Bool), k ≤ D.length ∧ i = .int .i64 k ∧ v = .bool b ∧ Hid (b = decide (s1 ∈ D.take k))) (fun _ i => D.length - (intOf i).toNat)
  case atStart => exact ⟨0, false, by omega, rfl, rfl, (by simp : false = decide (s1 ∈ D.take 0))⟩
  case round =>
    obtain ⟨k, b, hk, rfl, rfl, HIn⟩ := hrel
    by_cases hlt : k < D.length
    · have tk : decide ((k : Int) < (D.length : Int)) = true := by simp; omega
      obtain ⟨g, off, rfl, hc⟩ := HB5.out.at hlt
      obtain ⟨x, hx⟩ : ∃ x, x = D[k] := ⟨_, rfl⟩
      rw [← hx] at hc
      have hc' : wb.cell? ⟨g, off + k, none⟩ = some (.string (str x)) := hc
      have zx := str_toList x
      have hki : (k : Int) < (D.length : Int) := by omega
      have hmem : s1 ∈ D.take (k + 1) ↔ s1 ∈ D.take k ∨ s1 = x := by
        rw [take_snoc hlt, List.mem_append, List.mem_singleton, hx]
      have HMem : Hid (s1 ∈ D.take (k + 1) ↔ s1 ∈ D.take k ∨ s1 = x) := hmem
      clear hc hx hmem
      cases b with
      | true =>
        have HN : Hid (true = decide (s1 ∈ D.take (k + 1))) := (by
          have h := HIn.out.symm
          rw [decide_eq_true_eq] at h
          exact (decide_eq_true (HMem.out.2 (.inl h))).symm : true = decide (s1 ∈ D.take (k + 1)))
        go_wp2
        go_round
        case rel => exact ⟨k + 1, true, by omega, by go_num, rfl, HN⟩
        case measure => simp [intOf]; omega
      | false =>
        have hno : ¬ s1 ∈ D.take k := by have h := HIn.out.symm; simpa using h
        by_cases he : x = s1
        · have hq : (x == s1) = true := by simpa using he
          have HN : Hid (true = decide (s1 ∈ D.take (k + 1))) := ((decide_eq_true (HMem.out.2 (.inr he.symm))).symm : true = decide (s1 ∈ D.take (k + 1)))
          clear he hno
          go_wp2
          go_round
          case rel => exact ⟨k + 1, true, by omega, by go_num, rfl, HN⟩
          case measure => simp [intOf]; omega
        · have hq : (x == s1) = false := by simpa using he
          have HN : Hid (false = decide (s1 ∈ D.take (k + 1))) := ((decide_eq_false (fun h => (HMem.out.1 h).elim hno (fun h => he h.symm))).symm : false = decide (s1 ∈ D.take (k + 1)))
          clear he hno
          go_wp2
          go_round
          case rel => exact ⟨k + 1, false, by omega, by go_num, rfl, HN⟩
          case measure => simp [intOf]; omega
    · obtain rfl : k = D.length := by omega
      have hIn := HIn.out
      rw [List.take_length] at hIn
      obtain ⟨wr, hwr⟩ : ∃ wr, wr = wb := ⟨_, rfl⟩
      rw [← hwr] at HX HB5 ⊢
      clear hwr HIn
      cases hcase : r with
      | none =>
        have hnm : ¬ s1 ∈ D := T.idx_none.1 (by rw [HI.out, hcase])
        rw [decide_eq_false hnm] at hIn
        subst hIn
        subst hcase
        clear hnm
        go_wp2_with fail
        refine (find_is a5 _ c5 D s1 _ rfl HB5.out (by omega) HDm.out HSm.out HRise.out none HI.out).mono ?_
        rintro e w2 ⟨rfl, hx2⟩
        simp only [Option.getD_none, Option.isSome_none]
        go_wp2_with fail
        refine (from_is a5 _ c5 D [] _ rfl (HB5.out.below hx2) (by omega) (by simp) HDm.out HRise.out 0 D.length (T.pos_nil D) (T.upto_nil D)).mono ?_
        rintro e w3 ⟨rfl, hx3⟩
        go_wp2_with fail
        refine (from_is a5 _ c5 D s1 _ rfl ((HB5.out.below hx2).below hx3) (by omega) HSm.out HDm.out HRise.out f t HF.out HT.out).mono ?_
        rintro e w4 ⟨rfl, hx4⟩
        have X4 : Ex wr w4 := (hx2.trans hx3).trans hx4
        clear hx2 hx3 hx4
        go_wp2_with fail
        refine (fits_is a5 _ c5 D _ rfl (HB5.out.below X4) (by omega) HDm.out fb HFits.out).mono ?_
        rintro e w5 ⟨rfl, hx5⟩
        have X5 : Ex wr w5 := X4.trans hx5
        by_cases h16 : D.length ≤ 16
        · have t16 : decide ((D.length : Int) ≤ 16) = true := by simp; omega
          have hfs : fb = sb := by
            have h1 := HFits.out
            unfold T.fits at h1
            rw [HShort.out, decide_eq_true h16, Bool.true_and, (T.adj_iff D).2 HRise.out, Bool.and_true] at h1
            exact h1.symm
          subst hfs
          go_wp2_with fail
          refine (shortD_is a5 _ c5 D _ rfl (HB5.out.below X5) HDm.out fb HShort.out).mono ?_
          rintro e wq ⟨rfl, hw⟩
          have hw' := hw.symm; clear hw; subst hw'
          go_wp2_with fail
          refine (known_any _).mono ?_
          rintro e w6 ⟨rfl, hx6⟩
          go_wp2
          go_ret
          exact ⟨rfl, (HX.out.trans X5).trans hx6⟩
        · have t16 : decide ((D.length : Int) ≤ 16) = false := by simp; omega
          have hff : fb = false := by
            rw [← HFits.out]
            unfold T.fits
            rw [decide_eq_false h16]; simp
          subst hff
          go_wp2_with fail
          refine (known_any _).mono ?_
          rintro e w6 ⟨rfl, hx6⟩
          go_wp2
          go_ret
          exact ⟨rfl, (HX.out.trans X5).trans hx6⟩
      | some i =>
        have hat : D[i]? = some s1 := T.idx_some (by rw [HI.out, hcase])
        have hil : i < D.length := (List.getElem?_eq_some_iff.1 hat).1
        have hm : s1 ∈ D := List.mem_of_getElem? hat
        rw [decide_eq_true hm] at hIn
        subst hIn
        have hpp := T.pos_place HRise.out hat
        rw [HF.out, HT.out] at hpp
        have hfi1 : f ≤ i := by omega
        have hfi2 : i ≤ f := by omega
        have hit : i < t := hpp.2
        have q1 : ((f : Int) != (i : Int)) = false := by simp; omega
        have q2 : decide ((t : Int) ≤ (i : Int)) = false := by simp; omega
        have hii : (i : Int) < (D.length : Int) := by omega
        subst hcase
        obtain ⟨g, off, rfl, hc⟩ := HB5.out.at hil
        have hDi : D[i] = s1 := by rw [List.getElem?_eq_getElem hil] at hat; simpa using hat
        rw [hDi] at hc
        have HC2 : Hid (wr.cell? ⟨g, off + i, none⟩ = some (.string (str s1))) := hc
        clear hat hm hpp hDi hc
        go_wp2_with fail
        refine (find_is (some ⟨g, off, none⟩) _ c5 D s1 _ rfl HB5.out (by omega) HDm.out HSm.out HRise.out (some i) HI.out).mono ?_
        rintro e w2 ⟨rfl, hx2⟩
        simp only [Option.getD_some, Option.isSome_some]
        have hc2 := cell_ex HC2.out hx2
        go_wp2_with fail
        refine (from_is (some ⟨g, off, none⟩) _ c5 D [] _ rfl (HB5.out.below hx2) (by omega) (by simp) HDm.out HRise.out 0 D.length (T.pos_nil D) (T.upto_nil D)).mono ?_
        rintro e w3 ⟨rfl, hx3⟩
        go_wp2_with fail
        refine (from_is (some ⟨g, off, none⟩) _ c5 D s1 _ rfl ((HB5.out.below hx2).below hx3) (by omega) HSm.out HDm.out HRise.out f t HF.out HT.out).mono ?_
        rintro e w4 ⟨rfl, hx4⟩
        have X4 : Ex wr w4 := (hx2.trans hx3).trans hx4
        clear hx2 hx3 hx4
        go_wp2_with fail
        refine (fits_is (some ⟨g, off, none⟩) _ c5 D _ rfl (HB5.out.below X4) (by omega) HDm.out fb HFits.out).mono ?_
        rintro e w5 ⟨rfl, hx5⟩
        have X5 : Ex wr w5 := X4.trans hx5
        by_cases h16 : D.length ≤ 16
        · have t16 : decide ((D.length : Int) ≤ 16) = true := by simp; omega
          have hfs : fb = sb := by
            have h1 := HFits.out
            unfold T.fits at h1
            rw [HShort.out, decide_eq_true h16, Bool.true_and, (T.adj_iff D).2 HRise.out, Bool.and_true] at h1
            exact h1.symm
          subst hfs
          go_wp2_with fail
          refine (shortD_is (some ⟨g, off, none⟩) _ c5 D _ rfl (HB5.out.below X5) HDm.out fb HShort.out).mono ?_
          rintro e wq ⟨rfl, hw⟩
          have hw' := hw.symm; clear hw; subst hw'
          go_wp2_with fail
          refine (known_any _).mono ?_
          rintro e w6 ⟨rfl, hx6⟩
          go_wp2
          go_ret
          exact ⟨rfl, (HX.out.trans X5).trans hx6⟩
        · have t16 : decide ((D.length : Int) ≤ 16) = false := by simp; omega
          have hff : fb = false := by
            rw [← HFits.out]
            unfold T.fits
            rw [decide_eq_false h16]; simp
          subst hff
          go_wp2_with fail
          refine (known_any _).mono ?_
          rintro e w6 ⟨rfl, hx6⟩
          go_wp2
          go_ret
          exact ⟨rfl, (HX.out.trans X5).trans hx6⟩
end Go.Proofs.Ytmnhoofjijiibaa.dictFinds
