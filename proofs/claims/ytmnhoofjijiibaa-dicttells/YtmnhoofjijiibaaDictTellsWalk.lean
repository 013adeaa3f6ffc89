/-
  The walk of the law DictTells: whatever texts, bytes and place it is given, it returns true.
-/
import Derived.Test.YtmnhoofjijiibaaKnown
import Derived.Test.YtmnhoofjijiibaaTwo
namespace Go.Proofs.Ytmnhoofjijiibaa.dictTells
open Go.RowKit
set_option linter.unusedVariables false

set_option maxRecDepth 100000 in
set_option maxHeartbeats 4000000 in
theorem walk (p0 : Option Addr) (c0 : Nat) (l0 : List (List UInt8)) (p1 : Option Addr) (c1 : Nat) (l1 : List (List UInt8)) (s2 : List UInt8) (p3 : Option Addr) (c3 : Nat) (l3 : List UInt8) (a4 : Int) (w : World) (b0 : Rd st w p0 c0 l0) (m0 : ∀ x ∈ l0, x.length ≤ maxLen) (b1 : Rd st w p1 c1 l1) (m1 : ∀ x ∈ l1, x.length ≤ maxLen) (w2 : s2.length ≤ 140737488351232) (b3 : Byt w p3 c3 l3) (w3 : l3.length ≤ 140737488351232) (w4 : -9223372036854775808 ≤ a4 ∧ a4 ≤ 9223372036854775807) :
    Calls Try.prog 3 #[.slice p0 l0.length c0, .slice p1 l1.length c1, .string (str s2), .slice p3 l3.length c3, .int .i64 a4] w fun e w' => e = .returned (.bool true) ∧ Below w.heap.size w w' := by
  obtain ⟨v4', u4'⟩ := w4
  obtain ⟨L, hL⟩ : ∃ C, cutTexts l0 = C := ⟨_, rfl⟩
  have hLl : L.length ≤ 40 := by rw [← hL, cutTexts_len]; omega
  have hL41 : ∀ x ∈ L, x.length ≤ 41 := by rw [← hL]; exact cutTexts_short l0
  have hLs : ∀ x ∈ L, x.length ≤ maxLen := fun x hx => by have := hL41 x hx; unfold maxLen; omega
  obtain ⟨M1, hM⟩ : ∃ C, cutTexts l1 = C := ⟨_, rfl⟩
  have hMl : M1.length ≤ 40 := by rw [← hM, cutTexts_len]; omega
  have hMs : ∀ x ∈ M1, x.length ≤ maxLen := by intro x hx; rw [← hM] at hx; have := cutTexts_short l1 x hx; unfold maxLen; omega
  obtain ⟨s, hs⟩ : ∃ s, s2.take 41 = s := ⟨_, rfl⟩
  have hsl : s.length ≤ 41 := by rw [← hs]; simp; omega
  have hcs : cutTexts [s2] = [s] := by rw [← hs]; rfl
  obtain ⟨D, hD⟩ : ∃ D, T.bld L = D := ⟨_, rfl⟩
  obtain ⟨P, hP⟩ : ∃ P, places D L = P := ⟨_, rfl⟩
  have hDl : D.length ≤ 40 := by rw [← hD]; have := T.bld_len L; omega
  have hRise : T.Rise D := by rw [← hD]; exact T.rise_bld L
  have hDL : ∀ x ∈ D, x ∈ L := fun x hx => by rw [← hD, T.mem_bld] at hx; exact hx
  have hDm : ∀ x ∈ D, x.length ≤ maxLen := fun x hx => hLs x (hDL x hx)
  obtain ⟨R, hR⟩ : ∃ D, T.bld M1 = D := ⟨_, rfl⟩
  obtain ⟨PR, hPR⟩ : ∃ P, places R M1 = P := ⟨_, rfl⟩
  have hRl : R.length ≤ 40 := by rw [← hR]; have := T.bld_len M1; omega
  have hRR : T.Rise R := by rw [← hR]; exact T.rise_bld M1
  have hRm : ∀ x ∈ R, x.length ≤ maxLen := fun x hx => hMs x (by rw [← hR, T.mem_bld] at hx; exact hx)
  obtain ⟨ri, hri⟩ : ∃ r, T.idx s D = r := ⟨_, rfl⟩
  obtain ⟨iv, hiv⟩ : ∃ n, ri.getD 0 = n := ⟨_, rfl⟩
  obtain ⟨ib, hib⟩ : ∃ b, ri.isSome = b := ⟨_, rfl⟩
  obtain ⟨f, hf⟩ : ∃ f, T.pos s D = f := ⟨_, rfl⟩
  obtain ⟨t, ht⟩ : ∃ t, T.upto s D = t := ⟨_, rfl⟩
  obtain ⟨G, hG⟩ : ∃ A, T.bld (flat [D, R, []]) = A := ⟨_, rfl⟩
  obtain ⟨PP, hPP⟩ : ∃ P, [D, R, []].map (places G) = P := ⟨_, rfl⟩
  have hPPl : PP.length = 3 := by rw [← hPP]; rfl
  have H0 : Hid (Rd st w p0 c0 l0) := b0
  have HS0 : Hid (∀ x ∈ l0, x.length ≤ maxLen) := m0
  have H1 : Hid (Rd st w p1 c1 l1) := b1
  have HS1 : Hid (∀ x ∈ l1, x.length ≤ maxLen) := m1
  have H3 : Hid (Byt w p3 c3 l3) := b3
  have HL : Hid (cutTexts l0 = L) := hL
  have HM : Hid (cutTexts l1 = M1) := hM
  have HCs : Hid (cutTexts [s2] = [s]) := hcs
  have HLm : Hid (∀ x ∈ L, x.length ≤ maxLen) := hLs
  have HMm : Hid (∀ x ∈ M1, x.length ≤ maxLen) := hMs
  have HD : Hid (T.bld L = D) := hD
  have HP : Hid (places D L = P) := hP
  have HRise : Hid (T.Rise D) := hRise
  have HDm : Hid (∀ x ∈ D, x.length ≤ maxLen) := hDm
  have HR : Hid (T.bld M1 = R) := hR
  have HPR : Hid (places R M1 = PR) := hPR
  have HI : Hid (T.idx s D = ri) := hri
  have HIv : Hid (ri.getD 0 = iv) := hiv
  have HIb : Hid (ri.isSome = ib) := hib
  have HF : Hid (T.pos s D = f) := hf
  have HT : Hid (T.upto s D = t) := ht
  have HG : Hid (T.bld (flat [D, R, []]) = G) := hG
  have HPP : Hid ([D, R, []].map (places G) = PP) := hPP
  have HSm : Hid (s.length ≤ maxLen) := (by unfold maxLen; omega : s.length ≤ maxLen)
  have HS2m : Hid (∀ x ∈ [s2], x.length ≤ maxLen) := (by intro x hx; rw [List.mem_singleton] at hx; rw [hx]; unfold maxLen; omega : ∀ x ∈ [s2], x.length ≤ maxLen)
  have HMx : Hid (∀ l ∈ [D, R, []], ∀ x ∈ l, x.length ≤ maxLen) := (by
    intro l hl
    simp at hl
    rcases hl with rfl | rfl | rfl
    · exact hDm
    · exact hRm
    · simp : ∀ l ∈ [D, R, []], ∀ x ∈ l, x.length ≤ maxLen)
  have HRx : Hid (∀ l ∈ [D, R, []], T.Rise l) := (by
    intro l hl
    simp at hl
    rcases hl with rfl | rfl | rfl
    · exact hRise
    · exact hRR
    · exact T.Rise.nil : ∀ l ∈ [D, R, []], T.Rise l)
  have HLD : Hid (∀ X ∈ [L, D], ∀ x ∈ X, x.length ≤ 41) := (by
    intro l hl
    simp at hl
    rcases hl with rfl | rfl
    · exact hL41
    · exact fun x hx => hL41 x (hDL x hx) : ∀ X ∈ [L, D], ∀ x ∈ X, x.length ≤ 41)
  have HLDl : Hid (∀ X ∈ [L, D], X.length ≤ 40) := (by
    intro l hl
    simp at hl
    rcases hl with rfl | rfl
    · exact hLl
    · exact hDl : ∀ X ∈ [L, D], X.length ≤ 40)
  have hPP1 : PP.length ≤ 3 := by omega
  have hcap0 := b0.1
  have hcap0m := b0.2.1
  have hcap1 := b1.1
  have hcap1m := b1.2.1
  have hcap3 := b3.1
  have hcap3m := b3.2.1
  unfold maxLen at hcap0m hcap1m hcap3m
  have hal : ∀ (w' : World) (o : Obj), Ex w' (w'.alloc o) := fun w' o => (Below.refl _ _).alloc (Nat.le_refl _) _
  clear b0 b1 b3 m0 m1 hL hM hs hcs hD hP hR hPR hri hiv hib hf ht hG hPP hPPl hL41 hLs hMs hRise hDL hDm hRR hRm
  go_enter Try.func3, Try.ntmps3
  go_wp2_with fail
  refine (few_is p0 _ c0 l0 _ rfl H0.out HS0.out L HL.out).mono ?_
  rintro e x1 ⟨va, rfl, ⟨a0, c0', rfl, hb0⟩, hx1⟩
  go_wp2_with fail
  refine (few_is p1 _ c1 l1 _ rfl (H1.out.below hx1) HS1.out M1 HM.out).mono ?_
  rintro e x2 ⟨vb, rfl, ⟨a1, c1', rfl, hb1⟩, hx2⟩
  have X2 : Ex w x2 := hx1.trans hx2
  have HL2 : Hid (Rd st x2 a0 c0' L) := hb0.below hx2
  have HM2 : Hid (Rd st x2 a1 c1' M1) := hb1
  have h0a := hb0.1
  have h0m := hb0.2.1
  have h1a := hb1.1
  have h1m := hb1.2.1
  unfold maxLen at h0m h1m
  clear hb0 hb1 hx1 hx2
  go_wp2_with fail
  refine (few_is _ 1 1 [s2] _ rfl (Rd.laid x2 9 [s2] (by simp)) HS2m.out [s] HCs.out).mono ?_
  rintro e x3 ⟨vs, rfl, ⟨aS, cs', rfl, hbs⟩, hx3⟩
  have X23 : Ex x2 x3 := (hal _ _).trans hx3
  have X3 : Ex w x3 := X2.trans X23
  have hsm := hbs.2.1
  unfold maxLen at hsm
  have hsa := hbs.1
  obtain ⟨gs, os, rfl, hcs⟩ := hbs.at (k := 0) (by simp)
  have hcs' : x3.cell? ⟨gs, os, none⟩ = some (.string (str s)) := hcs
  have HL3 : Hid (Rd st x3 a0 c0' L) := HL2.out.below X23
  have HM3 : Hid (Rd st x3 a1 c1' M1) := HM2.out.below X23
  clear hbs hcs hx3 X23 HL2 HM2
  go_wp2_with fail
  refine (build_is a0 _ c0' L _ rfl HL3.out (by omega) HLm.out D HD.out P HP.out).mono ?_
  rintro e x4 ⟨vp, ux, rfl, ⟨a11, c11, rfl, hb11⟩, ⟨a12, c12, rfl, hb12⟩, hx4⟩
  go_wp2_with fail
  refine (rbuild_is a0 _ c0' L _ rfl (HL3.out.below hx4) (by omega) D HD.out P HP.out).mono ?_
  rintro e x5 ⟨vq, uy, rfl, ⟨a13, c13, rfl, hb13⟩, ⟨a14, c14, rfl, hb14⟩, hx5⟩
  have X35 : Ex x3 x5 := hx4.trans hx5
  go_wp2_with fail
  refine (rbuild_is a1 _ c1' M1 _ rfl (HM3.out.below X35) (by omega) R HR.out PR HPR.out).mono ?_
  rintro e x6 ⟨vr, uz, rfl, ⟨a15, c15, rfl, hb15⟩, ⟨a16, c16, rfl, hb16⟩, hx6⟩
  have X36 : Ex x3 x6 := X35.trans hx6
  have X6 : Ex w x6 := X3.trans X36
  have HRp : Hid (Rd st x6 a11 c11 D) := (hb11.below hx5).below hx6
  have HRx' : Hid (Rd z64 x6 a12 c12 P) := (hb12.below hx5).below hx6
  have HRq : Hid (Rd st x6 a13 c13 D) := hb13.below hx6
  have HRy : Hid (Rd z64 x6 a14 c14 P) := hb14.below hx6
  have HRr : Hid (Rd st x6 a15 c15 R) := hb15
  have HRl : Hid (Rd st x6 a0 c0' L) := HL3.out.below X36
  have h13a := hb13.1
  have h13m := hb13.2.1
  unfold maxLen at h13m
  clear hb11 hb12 hb13 hb14 hb15 hb16 hx4 hx5 hx6 X35 X36 HL3 HM3 X3 X2
  go_wp2_with fail
  refine (find_is a13 _ c13 D s _ rfl HRq.out (by omega) HDm.out HSm.out HRise.out ri HI.out).mono ?_
  rintro e x7 ⟨rfl, hx7⟩
  rw [HIv.out, HIb.out]
  go_wp2_with fail
  refine (rfind_is a13 _ c13 D s _ rfl (HRq.out.below hx7) ri HI.out).mono ?_
  rintro e wq ⟨rfl, hw⟩
  have hw' := hw.symm; clear hw; subst hw'
  rw [HIv.out, HIb.out]
  go_wp2_with fail
  refine (from_is a13 _ c13 D s _ rfl (HRq.out.below hx7) (by omega) HSm.out HDm.out HRise.out f t HF.out HT.out).mono ?_
  rintro e x8 ⟨rfl, hx8⟩
  have X68 : Ex x6 x8 := hx7.trans hx8
  go_wp2_with fail
  refine (rfrom_is a13 _ c13 D s _ rfl (HRq.out.below X68) HSm.out HDm.out f t HF.out HT.out).mono ?_
  rintro e wq ⟨rfl, hw⟩
  have hw' := hw.symm; clear hw; subst hw'
  have hq8 := HRq.out.below X68
  have hr8 := HRr.out.below X68
  have hE8 : EachN st x8 [(a13, D.length, c13), (a15, R.length, c15), (none, 0, 0)] [D, R, []] := EachN.cons ⟨rfl, hq8⟩ (EachN.cons ⟨rfl, hr8⟩ (EachN.cons ⟨rfl, Rd.nil _⟩ (EachN.nil _)))
  have HN8 : Hid (RdN st (x8.alloc (.cells ([(a13, D.length, c13), (a15, R.length, c15), (none, 0, 0)].map sv).toArray 22)) (some ⟨x8.heap.size, 0, none⟩) 3 [D, R, []]) := RdN.laid x8 22 _ _ hE8 (by simp)
  clear hE8 hx7 hx8
  go_wp2_with fail
  refine (merge_is _ 3 3 [D, R, []] _ rfl HN8.out (by simp [flat]; omega) (by simp) HMx.out HRx.out G HG.out PP HPP.out).mono ?_
  rintro e x9 ⟨vg, uu, rfl, ⟨a25, c25, rfl, hb25⟩, ⟨a26, c26, rfl, hb26⟩, hx9⟩
  have X89 : Ex x8 x9 := (hal _ _).trans hx9
  have hq9 := hq8.below X89
  have hr9 := hr8.below X89
  have hE9 : EachN st x9 [(a13, D.length, c13), (a15, R.length, c15), (none, 0, 0)] [D, R, []] := EachN.cons ⟨rfl, hq9⟩ (EachN.cons ⟨rfl, hr9⟩ (EachN.cons ⟨rfl, Rd.nil _⟩ (EachN.nil _)))
  have HN9 : Hid (RdN st (x9.alloc (.cells ([(a13, D.length, c13), (a15, R.length, c15), (none, 0, 0)].map sv).toArray 22)) (some ⟨x9.heap.size, 0, none⟩) 3 [D, R, []]) := RdN.laid x9 22 _ _ hE9 (by simp)
  have HG25 : Hid (Rd st x9 a25 c25 G) := hb25
  have HU26 : Hid (RdN z64 x9 a26 c26 PP) := hb26
  have X69 : Ex x6 x9 := X68.trans X89
  clear hE9 hx9 hb25 hb26 HN8 hq8 hr8 hq9 hr9 X68 X89
  go_wp2_with fail
  refine (rmerge_is _ 3 3 [D, R, []] _ rfl HN9.out (by simp [flat]; omega) (by simp) G HG.out PP HPP.out).mono ?_
  rintro e w6 ⟨vh, uv, rfl, ⟨a27, c27, rfl, hb27⟩, ⟨a28, c28, rfl, hb28⟩, hx10⟩
  have X96 : Ex x9 w6 := (hal _ _).trans hx10
  have X66 : Ex x6 w6 := X69.trans X96
  have hbu := (HU26.out.below X96)
  have hU := hbu.bounds
  have hUa := hU.1
  have hUm := hU.2
  have hVb := hb28.bounds
  have hVm := hVb.2
  have hVa := hVb.1
  unfold maxLen at hUm hVm
  have HPp6 : Hid (Rd st w6 a11 c11 D) := HRp.out.below X66
  have HQq6 : Hid (Rd st w6 a13 c13 D) := HRq.out.below X66
  have HXx6 : Hid (Rd z64 w6 a12 c12 P) := HRx'.out.below X66
  have HYy6 : Hid (Rd z64 w6 a14 c14 P) := HRy.out.below X66
  have HLl6 : Hid (Rd st w6 a0 c0' L) := HRl.out.below X66
  have HG6 : Hid (Rd st w6 a25 c25 G) := HG25.out.below X96
  have HH6 : Hid (Rd st w6 a27 c27 G) := hb27
  have HU6 : Hid (RdN z64 w6 a26 c26 PP) := hbu
  have HV6 : Hid (RdN z64 w6 a28 c28 PP) := hb28
  have HX6 : Hid (Ex w w6) := X6.trans X66
  clear hbu hU hVb hb27 hb28 hx10 X96 X66 X69 HRp HRq HRx' HRy HRl HG25 HU26 HN9 HRr X6
  go_wp2_with fail
  refine (texts_is a11 a13 _ _ c11 c13 D D _ rfl rfl HPp6.out HQq6.out true (by simp)).mono ?_
  rintro e y1 ⟨rfl, ht1⟩
  go_wp2_with fail
  refine (sameInt_is a12 a14 _ _ c12 c14 P P _ rfl rfl (HXx6.out.below ht1) (HYy6.out.below ht1) true (by simp)).mono ?_
  rintro e y2 ⟨rfl, ht2⟩
  have T2 : Ex w6 y2 := ht1.trans ht2
  have tib : (ib != ib) = false := by simp
  go_wp2_with fail
  refine (texts_is a25 a27 _ _ c25 c27 G G _ rfl rfl (HG6.out.below T2) (HH6.out.below T2) true (by simp)).mono ?_
  rintro e y3 ⟨rfl, ht3⟩
  have T3 : Ex w6 y3 := T2.trans ht3
  have HW6' : Hid (Ex w y3) := HX6.out.trans T3
  have HU : Hid (RdN z64 y3 a26 c26 PP) := HU6.out.below T3
  have HV : Hid (RdN z64 y3 a28 c28 PP) := HV6.out.below T3
  have HRL : Hid (Rd st y3 a0 c0' L) := HLl6.out.below T3
  have HRD : Hid (Rd st y3 a13 c13 D) := HQq6.out.below T3
  have HB6 : Hid (Byt y3 p3 c3 l3) := H3.out.below HW6'.out
  clear ht1 ht2 ht3 T2 T3 HPp6 HQq6 HXx6 HYy6 HLl6 HG6 HH6 HU6 HV6 HX6
  obtain ⟨w6', hw6'⟩ : ∃ w6', w6' = y3 := ⟨_, rfl⟩
  rw [← hw6'] at HW6' HU HV HRL HRD HB6 ⊢
  clear hw6'
  have HW6 : Hid (Ex w w6') := HW6'
  clear HW6'
  go_wp2_with fail
  go_loopw [29] (fun i wr => ∃ k : Nat, k ≤ PP.length ∧ i = .int .i64 k ∧ Hid (Ex w6' wr)) (fun i _ => PP.length - (intOf i).toNat)
  case atStart => exact ⟨0, by omega, rfl, Ex.refl _⟩
  case round =>
    obtain ⟨k, hk, rfl, HEx⟩ := hrel
    by_cases hlt : k < PP.length
    · have tk : decide ((k : Int) < (PP.length : Int)) = true := by simp; omega
      obtain ⟨b26, o26, q1, d1, hb26, hc1, hz1⟩ := (HU.out.below HEx.out).at hlt
      obtain ⟨b28, o28, q2, d2, hb28, hc2, hz2⟩ := (HV.out.below HEx.out).at hlt
      subst hb26
      subst hb28
      obtain ⟨Z, hZ⟩ : ∃ Z, Z = PP[k] := ⟨_, rfl⟩
      rw [← hZ] at hc1 hc2 hz1 hz2
      have HC1 : Hid (wr.cell? ⟨b26, o26 + k, none⟩ = some (.slice q1 Z.length d1)) := hc1
      have HC2 : Hid (wr.cell? ⟨b28, o28 + k, none⟩ = some (.slice q2 Z.length d2)) := hc2
      have HZ1 : Hid (Rd z64 wr q1 d1 Z) := hz1
      have HZ2 : Hid (Rd z64 wr q2 d2 Z) := hz2
      have hk1 : (k : Int) < (PP.length : Int) := by omega
      clear hc1 hc2 hz1 hz2 hZ
      go_wp2_with fail
      have hre := Ex.refl
      refine Rg.wp_rows [.inl (Value.slice (some { block := b26, off := o26 }) PP.length c26), .inl (Value.int IntKind.i64 ↑k), .inl (Value.pointer (some ⟨b26, o26 + k, none⟩)), .inl (Value.slice q1 Z.length d1), .inl (Value.slice (some { block := b28, off := o28 }) PP.length c28), .inl (Value.int IntKind.i64 ↑k), .inl (Value.pointer (some ⟨b28, o28 + k, none⟩)), .inl (Value.slice q2 Z.length d2), .inl (.bool true), .inl (.bool false)] (Ex wr) Ex 233 (by kernel_rfl) rfl (by kernel_rfl) ?st hre (Ex.drew _) ?goods ?fin
      case st => exact trivial
      case goods =>
        refine Rg.goods_cons (Rg.good_move hre rfl rfl rfl) ?_
        refine Rg.goods_cons (Rg.good_move hre rfl rfl rfl) ?_
        refine Rg.goods_cons (Rg.good_index hre rfl rfl rfl rfl (fun wx hC => by go_simp)) ?_
        refine Rg.goods_cons (Rg.good_load hre rfl rfl rfl (fun wx hC => by have hcz := cell_ex HC1.out hC; go_simp)) ?_
        refine Rg.goods_cons (Rg.good_move hre rfl rfl rfl) ?_
        refine Rg.goods_cons (Rg.good_move hre rfl rfl rfl) ?_
        refine Rg.goods_cons (Rg.good_index hre rfl rfl rfl rfl (fun wx hC => by go_simp)) ?_
        refine Rg.goods_cons (Rg.good_load hre rfl rfl rfl (fun wx hC => by have hcz := cell_ex HC2.out hC; go_simp)) ?_
        refine Rg.goods_cons (Rg.good_call2 Try.func18 (by kernel_rfl) rfl rfl rfl (by rintro u u2 wx hC rfl rfl; exact bool_of (sameInt_is q1 q2 _ _ d1 d2 Z Z wx rfl rfl (HZ1.out.below hC) (HZ2.out.below hC) true (by simp)) hC)) ?_
        refine Rg.goods_cons (Rg.good_un hre rfl rfl rfl (fun w => by go_simp)) ?_
        exact Rg.goods_nil
      case fin =>
        intro wx hx
        simp only [Rg.later, Act.put, List.setIfInBounds_toArray, List.set_cons_succ, List.set_cons_zero]
        have HXx : Hid (Ex w6' wx) := HEx.out.trans hx
        clear hx
        go_wp2
        go_roundw
        case rel => exact ⟨k + 1, by omega, by go_num, HXx⟩
        case measure => simp [intOf]; omega
    · have tk : decide ((k : Int) < (PP.length : Int)) = false := by simp; omega
      have HW7 : Hid (Ex w wr) := HW6.out.trans HEx.out
      obtain ⟨w7, hw7⟩ : ∃ w7, w7 = wr := ⟨_, rfl⟩
      have hRL7 := HRL.out.below HEx.out
      have hRD7 := HRD.out.below HEx.out
      have hB7 := HB6.out.below HEx.out
      rw [← hw7] at HW7 hRL7 hRD7 hB7 ⊢
      have hE8 : EachN st w7 [(a0, L.length, c0'), (a13, D.length, c13)] [L, D] := EachN.cons ⟨rfl, hRL7⟩ (EachN.cons ⟨rfl, hRD7⟩ (EachN.nil _))
      obtain ⟨w8, hw8⟩ : ∃ w8, w8 = w7.alloc (.cells ([(a0, L.length, c0'), (a13, D.length, c13)].map sv).toArray 22) := ⟨_, rfl⟩
      have hx78 : Ex w7 w8 := by rw [hw8]; exact (Below.refl _ _).alloc (Nat.le_refl _) _
      have HN8 : Hid (RdN st w8 (some ⟨w7.heap.size, 0, none⟩) 2 [L, D]) := (by rw [hw8]; exact RdN.laid w7 22 _ _ hE8 (by simp) : RdN st w8 (some ⟨w7.heap.size, 0, none⟩) 2 [L, D])
      have HB8 : Hid (Byt w8 p3 c3 l3) := hB7.below hx78
      have HW8 : Hid (Ex w w8) := HW7.out.trans hx78
      have HWW : Hid (w7.alloc (.cells #[Value.slice a0 L.length c0', Value.slice a13 D.length c13] 22) = w8) := hw8.symm
      clear hE8 hx78 hw8 hw7 hRL7 hRD7 hB7 HEx
      go_wp2_with fail
      rw [HWW.out]
      go_loopw [3, 167] (fun bv iv wr => ∃ (i cb : Nat) (ab : Option Addr) (Bs : List UInt8), i ≤ 2 ∧ iv = .int .i64 i ∧ bv = .slice ab Bs.length cb ∧ Bs.length ≤ l3.length + 1000 * i ∧ Hid (Byt wr ab cb Bs) ∧ Hid (Ex w8 wr)) (fun _ iv _ => 2 - (intOf iv).toNat)
      case atStart => exact ⟨0, c3, p3, l3, by omega, rfl, rfl, by omega, HB8, Ex.refl _⟩
      case round =>
        obtain ⟨i, cb, ab, Bs, hi, rfl, rfl, hBl, HBs, HEx⟩ := hrel
        by_cases hlt : i < 2
        · have ti : decide ((i : Int) < 2) = true := decide_eq_true (by omega)
          have hii : (i : Int) < 2 := by omega
          have hi2 : i < [L, D].length := by simpa using hlt
          obtain ⟨g, o, pX, cX, hgo, hcX, hrX⟩ := (HN8.out.below HEx.out).at hi2
          simp only [Option.some.injEq, Addr.mk.injEq, and_true] at hgo
          obtain ⟨rfl, rfl⟩ := hgo
          obtain ⟨X, hX⟩ : ∃ X, X = [L, D][i] := ⟨_, rfl⟩
          rw [← hX] at hcX hrX
          have hXm : ∀ x ∈ X, x.length ≤ 41 := by rw [hX]; exact HLD.out _ (List.getElem_mem hi2)
          have hXl : X.length ≤ 40 := by rw [hX]; exact HLDl.out _ (List.getElem_mem hi2)
          have HXm : Hid (∀ x ∈ X, x.length ≤ maxLen) := (fun x hx => by have := hXm x hx; unfold maxLen; omega : ∀ x ∈ X, x.length ≤ maxLen)
          obtain ⟨fb, hfb⟩ : ∃ fb, T.fits X = fb := ⟨_, rfl⟩
          have HFb : Hid (T.fits X = fb) := hfb
          obtain ⟨⟨r, e0⟩, hEn⟩ : ∃ z : List UInt8 × Nat, (if T.fits X = true then (T.enc X, 0) else ([], 12)) = z := ⟨_, rfl⟩
          have HEn : Hid ((if T.fits X = true then (T.enc X, 0) else ([], 12)) = (r, e0)) := hEn
          have hrl : r.length ≤ 900 := by
            cases hfx : T.fits X with
            | false =>
              rw [hfx, if_neg (by simp)] at hEn
              simp only [Prod.mk.injEq] at hEn
              rw [← hEn.1]; simp
            | true =>
              rw [hfx, if_pos rfl] at hEn
              simp only [Prod.mk.injEq] at hEn
              have hf3 := (T.fits_iff X).1 hfx
              have h1 := M.digs_len X.length
              have h2 := T.texts_len X (fun s hs => hXm s hs)
              have h3 := hf3.2.1
              rw [← hEn.1]
              simp only [T.enc, List.length_append]; omega
          have HCX : Hid (wr.cell? ⟨w7.heap.size, 0 + i, none⟩ = some (.slice pX X.length cX)) := hcX
          have hcX' : wr.cell? ⟨w7.heap.size, i, none⟩ = some (.slice pX X.length cX) := by have := hcX; rw [Nat.zero_add] at this; exact this
          have HRX : Hid (Rd st wr pX cX X) := hrX
          have hXa := hrX.1
          have hXb := hrX.2.1
          unfold maxLen at hXb
          obtain ⟨B2, hB2⟩ : ∃ B2, Bs ++ r = B2 := ⟨_, rfl⟩
          have HB2 : Hid (Bs ++ r = B2) := hB2
          have hB2l : B2.length ≤ l3.length + 1000 * (i + 1) := by rw [← hB2]; simp; omega
          have hB2m : B2.length ≤ l3.length + 2000 := by omega
          obtain ⟨⟨Y, ky, ey⟩, hdy⟩ : ∃ z, T.dec B2 a4 = z := ⟨_, rfl⟩
          have HDy : Hid (T.dec B2 a4 = (Y, ky, ey)) := hdy
          clear hcX hrX hX hfb hEn hXm hB2 hdy HCX
          go_wp2_with fail
          refine (encode_is pX _ cX X _ rfl HRX.out (by omega) HXm.out r e0 HEn.out).mono ?_
          rintro e v1 ⟨va, rfl, hoa, hy1⟩
          obtain ⟨a32, c32, hva, hb32⟩ := hoa.byt
          subst hva
          go_wp2_with fail
          refine (rencode_is pX _ cX X _ rfl (HRX.out.below hy1) HXm.out r e0 HEn.out).mono ?_
          rintro e v2 ⟨vc, rfl, hoc, hy2⟩
          obtain ⟨a34, c34, hvc, hb34⟩ := hoc.byt
          subst hvc
          have hy12 : Ex wr v2 := hy1.trans hy2
          have k1 := run_str (n := r.length) (hb32.below hy2) rfl
          have k2 := run_str (n := r.length) hb34 rfl
          have HB34 : Hid (Byt v2 a34 c34 r) := hb34
          have HY12 : Hid (Ex wr v2) := hy12
          clear hoa hoc hb32 hb34 hy1 hy2 hy12
          go_wp2_with fail
          refine (fits_is pX _ cX X _ rfl (HRX.out.below HY12.out) (by omega) HXm.out fb HFb.out).mono ?_
          rintro e v3 ⟨rfl, hy3⟩
          go_wp2_with fail
          refine (rfits_is pX _ cX X _ rfl ((HRX.out.below HY12.out).below hy3) HXm.out fb HFb.out).mono ?_
          rintro e v4 ⟨rfl, hy4⟩
          have HY4 : Hid (Ex wr v4) := (HY12.out.trans hy3).trans hy4
          have HB34d : Hid (Byt v4 a34 c34 r) := (HB34.out.below hy3).below hy4
          have hBs4 := HBs.out.below HY4.out
          have tfb : (fb != fb) = false := by simp
          clear hy3 hy4 k1 k2 HB34 HY12
          go_wp2_with (first
            | (refine wpList_build_own rfl 198 rfl 0 [] rfl (by decide) (fun _ => by kernel_rfl) v4.heap.size (Nat.le_refl _) ?_; intro g198 w198 ho198 hx198)
            | (at_builtin; refine wpList_append_byt rfl (.tmp 198) (.tmp 199) rfl v4.heap.size _ [] rfl ho198 ab _ cb Bs rfl rfl (hBs4.below hx198) (by simp; omega) (Ex.size hx198) ?_; intro v200 w200 ho200 hg200; have hx200 : Ex v4 w200 := step_below0 hx198 (Ex.size hx198) ho198 hg200; clear hg200; rw [List.nil_append] at ho200)
            | (at_builtin; refine wpList_append_byt rfl (.tmp 200) (.tmp 201) rfl v4.heap.size _ Bs rfl ho200 a34 _ c34 r rfl rfl (HB34d.out.below hx200) (by omega) (Ex.size hx200) ?_; intro v202 w202 ho202 hg202; have hx202 : Ex v4 w202 := step_below0 hx200 (Ex.size hx200) ho200 hg202; clear hg202; rw [HB2.out] at ho202; obtain ⟨a3', c3', hv3', hb3'⟩ := ho202.byt; subst hv3'))
          have HB3 : Hid (Byt w202 a3' c3' B2) := hb3'
          have HY5 : Hid (Ex wr w202) := HY4.out.trans hx202
          clear ho198 hx198 ho200 hx200 ho202 hb3' hx202 hBs4
          refine (decode_is a3' _ c3' B2 a4 _ rfl HB3.out (by omega) v4' u4' Y ky ey HDy.out).mono ?_
          rintro e v6 ⟨vz, rfl, ⟨a36, c36, rfl, hb36⟩, hy6⟩
          go_wp2_with fail
          refine (rdecode_is a3' _ c3' B2 a4 _ rfl (HB3.out.below hy6) Y ky ey HDy.out).mono ?_
          rintro e v7 ⟨vt, rfl, ⟨a39, c39, rfl, hb39⟩, hy7⟩
          have HY7 : Hid (Ex wr v7) := (HY5.out.trans hy6).trans hy7
          have HB36 : Hid (Rd st v7 a36 c36 Y) := hb36.below hy7
          have HB39 : Hid (Rd st v7 a39 c39 Y) := hb39
          have HB37 : Hid (Byt v7 a3' c3' B2) := (HB3.out.below hy6).below hy7
          clear hb36 hb39 hy6 hy7 HB3 HY5
          go_wp2_with fail
          refine (texts_is a36 a39 _ _ c36 c39 Y Y _ rfl rfl HB36.out HB39.out true (by simp)).mono ?_
          rintro e v8 ⟨rfl, hy8⟩
          have HY8 : Hid (Ex w8 v8) := HEx.out.trans (HY7.out.trans hy8)
          have HB38 : Hid (Byt v8 a3' c3' B2) := HB37.out.below hy8
          clear hy8 HB36 HB39 HB37
          go_wp2
          go_roundw
          case rel => exact ⟨i + 1, c3', a3', B2, by omega, by go_num, rfl, hB2l, HB38, HY8⟩
          case measure => simp [intOf]; omega
        · have ti : decide ((i : Int) < 2) = false := decide_eq_false (by omega)
          go_wp2_with fail
          refine (known_any _).mono ?_
          rintro e w9 ⟨rfl, hx9⟩
          go_wp2
          go_ret
          exact ⟨rfl, (HW8.out.trans HEx.out).trans hx9⟩
end Go.Proofs.Ytmnhoofjijiibaa.dictTells
