/-
  The walk of the law DictMerges: whatever texts it is given, it returns true.
-/
import Derived.Test.YtmnhoofjijiibaaKnown
namespace Go.Proofs.Ytmnhoofjijiibaa.dictMerges
open Go.RowKit
set_option linter.unusedVariables false

theorem places_self {A : List (List UInt8)} (h : T.Rise A) {i : Nat} (hi : i < A.length) : (places A A)[i]? = some (i : Int) := by
  simp only [places, List.getElem?_map, List.getElem?_eq_getElem hi, Option.map_some, T.place]
  rw [T.idx_at h (List.getElem?_eq_getElem hi)]
  rfl
theorem one_of {A B C : List (List UInt8)} (q : List (List UInt8) → Prop) (hA : q A) (hB : q B) (hC : q C) (hn : q []) (L : List (List (List UInt8))) (hL : ∀ l ∈ L, l = A ∨ l = B ∨ l = C ∨ l = []) : ∀ l ∈ L, q l := by
  intro l hl
  rcases hL l hl with h | h | h | h <;> rw [h]
  · exact hA
  · exact hB
  · exact hC
  · exact hn

set_option maxRecDepth 100000 in
set_option maxHeartbeats 4000000 in
theorem walk (p0 : Option Addr) (c0 : Nat) (l0 : List (List UInt8)) (p1 : Option Addr) (c1 : Nat) (l1 : List (List UInt8)) (p2 : Option Addr) (c2 : Nat) (l2 : List (List UInt8)) (w : World) (b0 : Rd st w p0 c0 l0) (m0 : ∀ x ∈ l0, x.length ≤ maxLen) (b1 : Rd st w p1 c1 l1) (m1 : ∀ x ∈ l1, x.length ≤ maxLen) (b2 : Rd st w p2 c2 l2) (m2 : ∀ x ∈ l2, x.length ≤ maxLen) :
    Calls Try.prog 6 #[.slice p0 l0.length c0, .slice p1 l1.length c1, .slice p2 l2.length c2] w fun e w' => e = .returned (.bool true) ∧ Below w.heap.size w w' := by
  obtain ⟨FA, hFA⟩ : ∃ F, cutTexts l0 = F := ⟨_, rfl⟩
  have hFAl : FA.length ≤ 40 := by rw [← hFA, cutTexts_len]; omega
  have hFAs : ∀ x ∈ FA, x.length ≤ maxLen := by intro x hx; rw [← hFA] at hx; have := cutTexts_short l0 x hx; unfold maxLen; omega
  obtain ⟨A, hA⟩ : ∃ D, T.bld FA = D := ⟨_, rfl⟩
  obtain ⟨PA, hPA⟩ : ∃ P, places A FA = P := ⟨_, rfl⟩
  have hAl : A.length ≤ 40 := by rw [← hA]; have := T.bld_len FA; omega
  have hRA : T.Rise A := by rw [← hA]; exact T.rise_bld FA
  have hmemA : ∀ x, x ∈ A ↔ x ∈ FA := by intro x; rw [← hA]; exact T.mem_bld FA x
  have hmA : ∀ x ∈ A, x.length ≤ maxLen := fun x hx => hFAs x ((hmemA x).1 hx)
  obtain ⟨FB, hFB⟩ : ∃ F, cutTexts l1 = F := ⟨_, rfl⟩
  have hFBl : FB.length ≤ 40 := by rw [← hFB, cutTexts_len]; omega
  have hFBs : ∀ x ∈ FB, x.length ≤ maxLen := by intro x hx; rw [← hFB] at hx; have := cutTexts_short l1 x hx; unfold maxLen; omega
  obtain ⟨B, hB⟩ : ∃ D, T.bld FB = D := ⟨_, rfl⟩
  obtain ⟨PB, hPB⟩ : ∃ P, places B FB = P := ⟨_, rfl⟩
  have hBl : B.length ≤ 40 := by rw [← hB]; have := T.bld_len FB; omega
  have hRB : T.Rise B := by rw [← hB]; exact T.rise_bld FB
  have hmemB : ∀ x, x ∈ B ↔ x ∈ FB := by intro x; rw [← hB]; exact T.mem_bld FB x
  have hmB : ∀ x ∈ B, x.length ≤ maxLen := fun x hx => hFBs x ((hmemB x).1 hx)
  obtain ⟨FC, hFC⟩ : ∃ F, cutTexts l2 = F := ⟨_, rfl⟩
  have hFCl : FC.length ≤ 40 := by rw [← hFC, cutTexts_len]; omega
  have hFCs : ∀ x ∈ FC, x.length ≤ maxLen := by intro x hx; rw [← hFC] at hx; have := cutTexts_short l2 x hx; unfold maxLen; omega
  obtain ⟨C, hC⟩ : ∃ D, T.bld FC = D := ⟨_, rfl⟩
  obtain ⟨PC, hPC⟩ : ∃ P, places C FC = P := ⟨_, rfl⟩
  have hCl : C.length ≤ 40 := by rw [← hC]; have := T.bld_len FC; omega
  have hRC : T.Rise C := by rw [← hC]; exact T.rise_bld FC
  have hmemC : ∀ x, x ∈ C ↔ x ∈ FC := by intro x; rw [← hC]; exact T.mem_bld FC x
  have hmC : ∀ x ∈ C, x.length ≤ maxLen := fun x hx => hFCs x ((hmemC x).1 hx)
  obtain ⟨X, hX⟩ : ∃ X, T.bld (flat [A, B, C]) = X := ⟨_, rfl⟩
  have hXm : ∀ x, x ∈ X ↔ (x ∈ A ∨ x ∈ B ∨ x ∈ C) := by intro x; rw [← hX, T.mem_bld]; simp [flat]
  have hXR : T.Rise X := by rw [← hX]; exact T.rise_bld _
  have hY : T.bld (flat [C, A, B, A]) = X := by
    refine T.rise_same (T.rise_bld _) hXR (fun x => ?_)
    rw [T.mem_bld, hXm]
    simp [flat]
    constructor
    · rintro (h | h | h | h)
      · exact .inr (.inr h)
      · exact .inl h
      · exact .inr (.inl h)
      · exact .inl h
    · rintro (h | h | h)
      · exact .inr (.inl h)
      · exact .inr (.inr (.inl h))
      · exact .inl h
  have hZ : T.bld (flat [A, [], A]) = A := T.rise_same (T.rise_bld _) hRA (fun x => by rw [T.mem_bld]; simp [flat])
  have hW : T.bld A = A := T.bld_rise hRA
  have hAll : T.bld (FA ++ FB ++ FC) = X := by
    refine T.rise_same (T.rise_bld _) hXR (fun x => ?_)
    rw [T.mem_bld, hXm, hmemA, hmemB, hmemC]
    simp
  obtain ⟨PX, hPX⟩ : ∃ P, [A, B, C].map (places X) = P := ⟨_, rfl⟩
  obtain ⟨PY, hPY⟩ : ∃ P, [C, A, B, A].map (places X) = P := ⟨_, rfl⟩
  obtain ⟨S, hS⟩ : ∃ S, places A A = S := ⟨_, rfl⟩
  have hPZ : [A, [], A].map (places A) = [S, [], S] := by
    show [places A A, places A [], places A A] = _
    rw [hS]; rfl
  obtain ⟨Q, hQ⟩ : ∃ Q, FA ++ FB ++ FC = Q := ⟨_, rfl⟩
  rw [hQ] at hAll
  have hQl : Q.length ≤ 120 := by rw [← hQ]; simp; omega
  have HQ : Hid (FA ++ FB ++ FC = Q) := hQ
  obtain ⟨PQ, hPQ⟩ : ∃ P, places X Q = P := ⟨_, rfl⟩
  have hSl : S.length = A.length := by rw [← hS, places_len]
  have hSat : ∀ i, i < A.length → S[i]? = some (i : Int) := by intro i hi; rw [← hS]; exact places_self hRA hi
  have H0 : Hid (Rd st w p0 c0 l0) := b0
  have HS0 : Hid (∀ x ∈ l0, x.length ≤ maxLen) := m0
  have HFA : Hid (cutTexts l0 = FA) := hFA
  have HFmA : Hid (∀ x ∈ FA, x.length ≤ maxLen) := hFAs
  have HA : Hid (T.bld FA = A) := hA
  have HPA : Hid (places A FA = PA) := hPA
  have hcap0 := b0.1
  have hcapm0 := b0.2.1
  unfold maxLen at hcapm0
  have H1 : Hid (Rd st w p1 c1 l1) := b1
  have HS1 : Hid (∀ x ∈ l1, x.length ≤ maxLen) := m1
  have HFB : Hid (cutTexts l1 = FB) := hFB
  have HFmB : Hid (∀ x ∈ FB, x.length ≤ maxLen) := hFBs
  have HB : Hid (T.bld FB = B) := hB
  have HPB : Hid (places B FB = PB) := hPB
  have hcap1 := b1.1
  have hcapm1 := b1.2.1
  unfold maxLen at hcapm1
  have H2 : Hid (Rd st w p2 c2 l2) := b2
  have HS2 : Hid (∀ x ∈ l2, x.length ≤ maxLen) := m2
  have HFC : Hid (cutTexts l2 = FC) := hFC
  have HFmC : Hid (∀ x ∈ FC, x.length ≤ maxLen) := hFCs
  have HC : Hid (T.bld FC = C) := hC
  have HPC : Hid (places C FC = PC) := hPC
  have hcap2 := b2.1
  have hcapm2 := b2.2.1
  unfold maxLen at hcapm2
  have HX : Hid (T.bld (flat [A, B, C]) = X) := hX
  have HY : Hid (T.bld (flat [C, A, B, A]) = X) := hY
  have HZ : Hid (T.bld (flat [A, [], A]) = A) := hZ
  have HWA : Hid (T.bld A = A) := hW
  have HAll : Hid (T.bld Q = X) := hAll
  have HPX : Hid ([A, B, C].map (places X) = PX) := hPX
  have HPY : Hid ([C, A, B, A].map (places X) = PY) := hPY
  have HPZ : Hid ([A, [], A].map (places A) = [S, [], S]) := hPZ
  have HSS : Hid (places A A = S) := hS
  have HPQ : Hid (places X Q = PQ) := hPQ
  have HSl : Hid (S.length = A.length) := hSl
  have HSat : Hid (∀ i, i < A.length → S[i]? = some (i : Int)) := hSat
  have HMax : Hid (∀ (L : List (List (List UInt8))), (∀ l ∈ L, l = A ∨ l = B ∨ l = C ∨ l = []) → ∀ l ∈ L, ∀ x ∈ l, x.length ≤ maxLen) := (one_of (fun l => ∀ x ∈ l, x.length ≤ maxLen) hmA hmB hmC (by simp) : ∀ (L : List (List (List UInt8))), (∀ l ∈ L, l = A ∨ l = B ∨ l = C ∨ l = []) → ∀ l ∈ L, ∀ x ∈ l, x.length ≤ maxLen)
  have HRis : Hid (∀ (L : List (List (List UInt8))), (∀ l ∈ L, l = A ∨ l = B ∨ l = C ∨ l = []) → ∀ l ∈ L, T.Rise l) := (one_of T.Rise hRA hRB hRC T.Rise.nil : ∀ (L : List (List (List UInt8))), (∀ l ∈ L, l = A ∨ l = B ∨ l = C ∨ l = []) → ∀ l ∈ L, T.Rise l)
  have HMA : Hid (∀ x ∈ A, x.length ≤ maxLen) := hmA
  have HAllm : Hid (∀ x ∈ Q, x.length ≤ maxLen) := (by
    intro x hx
    rw [← hQ] at hx
    simp only [List.mem_append] at hx
    rcases hx with (h | h) | h
    · exact hFAs x h
    · exact hFBs x h
    · exact hFCs x h : ∀ x ∈ Q, x.length ≤ maxLen)
  have HW0 : Hid (Ex w w) := Ex.refl _
  clear b0 b1 b2 m0 m1 m2 hFA hFB hFC hFAs hFBs hFCs hA hB hC hPA hPB hPC hRA hRB hRC hmemA hmemB hmemC hmA hmB hmC hX hXm hXR hY hZ hW hAll hPX hPY hS hPZ hPQ hSl hSat hQ
  go_enter Try.func6, Try.ntmps6
  go_wp2_with fail
  refine (few_is p0 _ c0 l0 _ rfl (H0.out.below HW0.out) HS0.out FA HFA.out).mono ?_
  rintro e wf0 ⟨vf, rfl, ⟨af, cf, rfl, hbf⟩, hxf⟩
  go_wp2_with fail
  refine (build_is af _ cf FA _ rfl hbf (by omega) HFmA.out A HA.out PA HPA.out).mono ?_
  rintro e wg0 ⟨vd, ud, rfl, ⟨aA, cA, rfl, hbd⟩, ⟨ad2, cd2, rfl, hbp⟩, hxd⟩
  have HW1 : Hid (Ex w wg0) := (HW0.out.trans hxf).trans hxd
  have hs0 : Ex wg0 wg0 := Ex.refl _
  have HDA : Hid (Rd st wg0 aA cA A) := hbd
  clear hbf hxf hbd hbp hxd
  go_wp2_with fail
  refine (few_is p1 _ c1 l1 _ rfl (H1.out.below HW1.out) HS1.out FB HFB.out).mono ?_
  rintro e wf1 ⟨vf, rfl, ⟨af, cf, rfl, hbf⟩, hxf⟩
  go_wp2_with fail
  refine (build_is af _ cf FB _ rfl hbf (by omega) HFmB.out B HB.out PB HPB.out).mono ?_
  rintro e wg1 ⟨vd, ud, rfl, ⟨aB, cB, rfl, hbd⟩, ⟨ad2, cd2, rfl, hbp⟩, hxd⟩
  have HW2 : Hid (Ex w wg1) := (HW1.out.trans hxf).trans hxd
  have hs1 : Ex wg0 wg1 := hxf.trans hxd
  have HDB : Hid (Rd st wg1 aB cB B) := hbd
  clear hbf hxf hbd hbp hxd
  go_wp2_with fail
  refine (few_is p2 _ c2 l2 _ rfl (H2.out.below HW2.out) HS2.out FC HFC.out).mono ?_
  rintro e wf2 ⟨vf, rfl, ⟨af, cf, rfl, hbf⟩, hxf⟩
  go_wp2_with fail
  refine (build_is af _ cf FC _ rfl hbf (by omega) HFmC.out C HC.out PC HPC.out).mono ?_
  rintro e wg2 ⟨vd, ud, rfl, ⟨aC, cC, rfl, hbd⟩, ⟨ad2, cd2, rfl, hbp⟩, hxd⟩
  have HW3 : Hid (Ex w wg2) := (HW2.out.trans hxf).trans hxd
  have hs2 : Ex wg1 wg2 := hxf.trans hxd
  have HDC : Hid (Rd st wg2 aC cC C) := hbd
  clear hbf hxf hbd hbp hxd
  have HA2 : Hid (Rd st wg2 aA cA A) := HDA.out.below (hs1.trans hs2)
  have HB2 : Hid (Rd st wg2 aB cB B) := HDB.out.below hs2
  have HC2 : Hid (Rd st wg2 aC cC C) := HDC
  clear hs0 hs1 hs2 HDA HDB HDC
  have hE46 : EachN st wg2 [(aA, A.length, cA), (aB, B.length, cB), (aC, C.length, cC)] [A, B, C] := EachN.cons ⟨rfl, HA2.out⟩ (EachN.cons ⟨rfl, HB2.out⟩ (EachN.cons ⟨rfl, HC2.out⟩ (EachN.nil _)))
  have HN46 : Hid (RdN st (wg2.alloc (.cells ([(aA, A.length, cA), (aB, B.length, cB), (aC, C.length, cC)].map sv).toArray 22)) (some ⟨wg2.heap.size, 0, none⟩) 3 [A, B, C]) := RdN.laid wg2 22 _ _ hE46 (by simp)
  clear hE46
  go_wp2_with fail
  refine (merge_is _ 3 3 [A, B, C] _ rfl HN46.out (by simp [flat]; omega) (by simp) (HMax.out _ (by simp)) (HRis.out _ (by simp)) X HX.out PX HPX.out).mono ?_
  rintro e wm1 ⟨vm46, um46, rfl, ⟨am46, cm46, rfl, hbm46⟩, ⟨ap46, cp46, rfl, hbp46⟩, hxm46⟩
  have Xwm1 : Ex wg2 wm1 := Ex.trans ((Below.refl _ _).alloc (Nat.le_refl _) _) hxm46
  have HA3 : Hid (Rd st wm1 aA cA A) := HA2.out.below Xwm1
  have HB3 : Hid (Rd st wm1 aB cB B) := HB2.out.below Xwm1
  have HC3 : Hid (Rd st wm1 aC cC C) := HC2.out.below Xwm1
  have HX13 : Hid (Rd st wm1 am46 cm46 X) := hbm46
  have HWm1 : Hid (Ex w wm1) := HW3.out.trans Xwm1
  clear hbm46 hbp46 hxm46 HN46 HA2 HB2 HC2 Xwm1
  have hE55 : EachN st wm1 [(aC, C.length, cC), (aA, A.length, cA), (aB, B.length, cB), (aA, A.length, cA)] [C, A, B, A] := EachN.cons ⟨rfl, HC3.out⟩ (EachN.cons ⟨rfl, HA3.out⟩ (EachN.cons ⟨rfl, HB3.out⟩ (EachN.cons ⟨rfl, HA3.out⟩ (EachN.nil _))))
  have HN55 : Hid (RdN st (wm1.alloc (.cells ([(aC, C.length, cC), (aA, A.length, cA), (aB, B.length, cB), (aA, A.length, cA)].map sv).toArray 22)) (some ⟨wm1.heap.size, 0, none⟩) 4 [C, A, B, A]) := RdN.laid wm1 22 _ _ hE55 (by simp)
  clear hE55
  go_wp2_with fail
  refine (merge_is _ 4 4 [C, A, B, A] _ rfl HN55.out (by simp [flat]; omega) (by simp) (HMax.out _ (by simp)) (HRis.out _ (by simp)) X HY.out PY HPY.out).mono ?_
  rintro e wm2 ⟨vm55, um55, rfl, ⟨am55, cm55, rfl, hbm55⟩, ⟨ap55, cp55, rfl, hbp55⟩, hxm55⟩
  have Xwm2 : Ex wm1 wm2 := Ex.trans ((Below.refl _ _).alloc (Nat.le_refl _) _) hxm55
  have HA4 : Hid (Rd st wm2 aA cA A) := HA3.out.below Xwm2
  have HX14 : Hid (Rd st wm2 am46 cm46 X) := HX13.out.below Xwm2
  have HX24 : Hid (Rd st wm2 am55 cm55 X) := hbm55
  have HWm2 : Hid (Ex w wm2) := HWm1.out.trans Xwm2
  clear hbm55 hbp55 hxm55 HN55 HA3 HB3 HC3 HX13 Xwm2
  have hE62 : EachN st wm2 [(aA, A.length, cA), (none, 0, 0), (aA, A.length, cA)] [A, [], A] := EachN.cons ⟨rfl, HA4.out⟩ (EachN.cons ⟨rfl, Rd.nil _⟩ (EachN.cons ⟨rfl, HA4.out⟩ (EachN.nil _)))
  have HN62 : Hid (RdN st (wm2.alloc (.cells ([(aA, A.length, cA), (none, 0, 0), (aA, A.length, cA)].map sv).toArray 22)) (some ⟨wm2.heap.size, 0, none⟩) 3 [A, [], A]) := RdN.laid wm2 22 _ _ hE62 (by simp)
  clear hE62
  go_wp2_with fail
  refine (merge_is _ 3 3 [A, [], A] _ rfl HN62.out (by simp [flat]; omega) (by simp) (HMax.out _ (by simp)) (HRis.out _ (by simp)) A HZ.out [S, [], S] HPZ.out).mono ?_
  rintro e wm3 ⟨vm62, um62, rfl, ⟨am62, cm62, rfl, hbm62⟩, ⟨ap62, cp62, rfl, hbp62⟩, hxm62⟩
  have Xwm3 : Ex wm2 wm3 := Ex.trans ((Below.refl _ _).alloc (Nat.le_refl _) _) hxm62
  have HA5 : Hid (Rd st wm3 aA cA A) := HA4.out.below Xwm3
  have HX15 : Hid (Rd st wm3 am46 cm46 X) := HX14.out.below Xwm3
  have HX25 : Hid (Rd st wm3 am55 cm55 X) := HX24.out.below Xwm3
  have HZ5 : Hid (Rd st wm3 am62 cm62 A) := hbm62
  have HAt5 : Hid (RdN z64 wm3 ap62 cp62 [S, [], S]) := hbp62
  have HWm3 : Hid (Ex w wm3) := HWm2.out.trans Xwm3
  clear hbm62 hbp62 hxm62 HN62 HA4 HX14 HX24 Xwm3
  go_wp2_with fail
  refine (build_is aA _ cA A _ rfl HA5.out (by omega) HMA.out A HWA.out S HSS.out).mono ?_
  rintro e w7 ⟨v19, u20, rfl, ⟨a19, c19, rfl, hb19⟩, ⟨a20, c20, rfl, hb20⟩, hx7⟩
  have HW7 : Hid (Ex wm3 w7) := hx7
  have H19 : Hid (Rd st w7 a19 c19 A) := hb19
  have H20 : Hid (Rd z64 w7 a20 c20 S) := hb20
  clear hb19 hb20 hx7
  have hal : ∀ (w' : World) (o : Obj), Ex w' (w'.alloc o) := fun w' o => (Below.refl _ _).alloc (Nat.le_refl _) _
  have hO72 : OwnR 9 st (w7.alloc (.cells #[] 9)) w7.heap.size (.slice (some ⟨w7.heap.size, 0, none⟩) 0 0) [] := OwnR.empty w7 _ (Nat.le_refl _)
  have hX72 : Ex w7 (w7.alloc (.cells #[] 9)) := hal _ _
  have hwm3 := HWm3.out.trans HW7.out
  go_wp2_with fail
  refine (few_is p0 _ c0 l0 _ rfl (H0.out.below (hwm3.trans hX72)) HS0.out FA HFA.out).mono ?_
  rintro e w74 ⟨v74, rfl, ⟨a74, c74, rfl, hb74⟩, hx74⟩
  have hO74 := hO72.later hx74
  have hX74 : Ex w7 w74 := hX72.trans hx74
  clear hO72 hX72 hx74
  go_wp2_with (at_builtin; refine wpList_append_rd (e := 9) (enc := st) rfl (.tmp 72) (.tmp 74) 22 rfl [] 16 Try.underlying22 Try.info9 rfl (fun _ => rfl) w7.heap.size _ [] rfl hO74 _ _ _ FA rfl rfl hb74 (by simp [maxLen]; omega) (by simp; omega) hX74.size ?_; intro v75 w75 ho75 hg75; have hX75 : Ex w7 w75 := step_belowR hX74 hX74.size hO74 hg75; clear hg75; rw [List.nil_append] at ho75)
  clear hO74 hX74 hb74
  refine (few_is p1 _ c1 l1 _ rfl (H1.out.below (hwm3.trans hX75)) HS1.out FB HFB.out).mono ?_
  rintro e w77 ⟨v77, rfl, ⟨a77, c77, rfl, hb77⟩, hx77⟩
  have hO77 := ho75.later hx77
  have hX77 : Ex w7 w77 := hX75.trans hx77
  clear ho75 hX75 hx77
  go_wp2_with (at_builtin; refine wpList_append_rd (e := 9) (enc := st) rfl (.tmp 75) (.tmp 77) 22 rfl [] 16 Try.underlying22 Try.info9 rfl (fun _ => rfl) w7.heap.size _ FA rfl hO77 _ _ _ FB rfl rfl hb77 (by unfold maxLen; omega) (by omega) hX77.size ?_; intro v78 w78 ho78 hg78; have hX78 : Ex w7 w78 := step_belowR hX77 hX77.size hO77 hg78; clear hg78)
  clear hO77 hX77 hb77
  refine (few_is p2 _ c2 l2 _ rfl (H2.out.below (hwm3.trans hX78)) HS2.out FC HFC.out).mono ?_
  rintro e w80 ⟨v80, rfl, ⟨a80, c80, rfl, hb80⟩, hx80⟩
  have hO80 := ho78.later hx80
  have hX80 : Ex w7 w80 := hX78.trans hx80
  clear ho78 hX78 hx80
  go_wp2_with (at_builtin; refine wpList_append_rd (e := 9) (enc := st) rfl (.tmp 78) (.tmp 80) 22 rfl [] 16 Try.underlying22 Try.info9 rfl (fun _ => rfl) w7.heap.size _ (FA ++ FB) rfl hO80 _ _ _ FC rfl rfl hb80 (by simp [maxLen]; omega) (by simp; omega) hX80.size ?_; intro v81 w81 ho81 hg81; have hX81 : Ex w7 w81 := step_belowR hX80 hX80.size hO80 hg81; clear hg81; rw [HQ.out] at ho81; obtain ⟨a81, c81, hv81, hb81⟩ := ho81.rd; subst hv81)
  clear hO80 hX80 hb80 ho81
  refine (build_is a81 _ c81 Q _ rfl hb81 (by omega) HAllm.out X HAll.out PQ HPQ.out).mono ?_
  rintro e w8 ⟨v21, u22, rfl, ⟨a21, c21, rfl, hb21⟩, ⟨a22, c22, rfl, hb22⟩, hx8⟩
  have hX8 : Ex w7 w8 := hX81.trans hx8
  have hX38 : Ex wm3 w8 := HW7.out.trans hX8
  have HW8 : Hid (Ex w w8) := HWm3.out.trans hX38
  have HX21 : Hid (Rd st w8 a21 c21 X) := hb21
  have HX16 : Hid (Rd st w8 am46 cm46 X) := HX15.out.below hX38
  have HX26 : Hid (Rd st w8 am55 cm55 X) := HX25.out.below hX38
  have HZ6 : Hid (Rd st w8 am62 cm62 A) := HZ5.out.below hX38
  have HA6 : Hid (Rd st w8 aA cA A) := HA5.out.below hX38
  have H196 : Hid (Rd st w8 a19 c19 A) := H19.out.below hX8
  have H206 : Hid (Rd z64 w8 a20 c20 S) := H20.out.below hX8
  have HAt6 : Hid (RdN z64 w8 ap62 cp62 [S, [], S]) := HAt5.out.below hX38
  clear hb81 hX81 hb21 hb22 hx8 hX8 hX38 HX15 HX25 HZ5 HA5 H19 H20 HAt5 hwm3
  go_wp2_with fail
  refine (texts_is am46 am55 _ _ cm46 cm55 X X _ rfl rfl HX16.out HX26.out true (by simp)).mono ?_
  rintro e wt1 ⟨rfl, ht1⟩
  go_wp2_with fail
  refine (texts_is am46 a21 _ _ cm46 c21 X X _ rfl rfl (HX16.out.below ht1) (HX21.out.below ht1) true (by simp)).mono ?_
  rintro e wt2 ⟨rfl, ht2⟩
  have T2 : Ex w8 wt2 := ht1.trans ht2
  go_wp2_with fail
  refine (texts_is am62 aA _ _ cm62 cA A A _ rfl rfl (HZ6.out.below T2) (HA6.out.below T2) true (by simp)).mono ?_
  rintro e wt3 ⟨rfl, ht3⟩
  have T3 : Ex w8 wt3 := T2.trans ht3
  go_wp2_with fail
  refine (texts_is a19 aA _ _ c19 cA A A _ rfl rfl (H196.out.below T3) (HA6.out.below T3) true (by simp)).mono ?_
  rintro e wt4 ⟨rfl, ht4⟩
  have T4 : Ex w8 wt4 := T3.trans ht4
  have HT4 : Hid (Ex w wt4) := HW8.out.trans T4
  have hat := HAt6.out.below T4
  have hab := hat.bounds
  have hab1 := hab.1
  have hab2 := hab.2
  unfold maxLen at hab2
  obtain ⟨b4, o4, q0, d0, rfl, hc0, hr0⟩ := hat.at (k := 0) (by simp)
  obtain ⟨_, _, q1, d1, e1, hc1, hr1⟩ := hat.at (k := 1) (by simp)
  obtain ⟨_, _, q2, d2, e2, hc2, hr2⟩ := hat.at (k := 2) (by simp)
  simp only [Option.some.injEq, Addr.mk.injEq, and_true] at e1 e2
  obtain ⟨rfl, rfl⟩ := e1
  obtain ⟨rfl, rfl⟩ := e2
  have hc0' : wt4.cell? ⟨b4, o4, none⟩ = some (.slice q0 S.length d0) := hc0
  have hc1' : wt4.cell? ⟨b4, o4 + 1, none⟩ = some (.slice q1 0 d1) := hc1
  have hc2' : wt4.cell? ⟨b4, o4 + 2, none⟩ = some (.slice q2 S.length d2) := hc2
  have HR0 : Hid (Rd z64 wt4 q0 d0 S) := hr0
  have HR2 : Hid (Rd z64 wt4 q2 d2 S) := hr2
  have H20f := H206.out.below T4
  have HR20 : Hid (Rd z64 wt4 a20 c20 S) := H20f
  have hA7 := HA6.out.1
  have hA7m := HA6.out.2.1
  unfold maxLen at hA7m
  clear hat hab hc0 hc1 hc2 hr0 hr1 hr2 H20f ht1 ht2 ht3 ht4 T2 T3 T4 HAt6 H206 H196 HZ6 HX16 HX26 HX21
  go_wp2_with fail
  go_loop [23] (fun i => ∃ k : Nat, k ≤ A.length ∧ i = .int .i64 k) (fun i => A.length - (intOf i).toNat)
  case atStart => exact ⟨0, by omega, rfl⟩
  case round =>
    obtain ⟨k, hk, rfl⟩ := hrel
    by_cases hlt : k < A.length
    · have tk : decide ((k : Int) < (A.length : Int)) = true := by simp; omega
      have hkS : k < S.length := by rw [HSl.out]; exact hlt
      have hSk : S[k] = (k : Int) := by
        have h1 := HSat.out k hlt
        rw [List.getElem?_eq_getElem hkS] at h1
        simpa using h1
      obtain ⟨g0, f0, rfl, hx0⟩ := HR0.out.at hkS
      obtain ⟨g2, f2, rfl, hx2⟩ := HR2.out.at hkS
      obtain ⟨g3, f3, rfl, hx3⟩ := HR20.out.at hkS
      rw [hSk] at hx0 hx2 hx3
      have hx0' : wt4.cell? ⟨g0, f0 + k, none⟩ = some (.int .i64 (k : Int)) := hx0
      have hx2' : wt4.cell? ⟨g2, f2 + k, none⟩ = some (.int .i64 (k : Int)) := hx2
      have hx3' : wt4.cell? ⟨g3, f3 + k, none⟩ = some (.int .i64 (k : Int)) := hx3
      have hki : (k : Int) < (S.length : Int) := by omega
      clear hx0 hx2 hx3 hSk
      go_wp2
      go_round
      case rel => exact ⟨k + 1, by omega, by go_num⟩
      case measure => simp [intOf]; omega
    · have tk : decide ((k : Int) < (A.length : Int)) = false := by simp; omega
      go_wp2_with fail
      refine (known_any _).mono ?_
      rintro e w9 ⟨rfl, hx9⟩
      go_wp2
      go_ret
      exact ⟨rfl, HT4.out.trans hx9⟩
end Go.Proofs.Ytmnhoofjijiibaa.dictMerges
