/-
  The walk of the law DictBack: whatever bytes, texts, place and byte it is given, it returns true.
-/
import Derived.Test.YtmnhoofjijiibaaKnown
import Derived.Test.YtmnhoofjijiibaaTwo
namespace Go.Proofs.Ytmnhoofjijiibaa.dictBack
open Go.RowKit
set_option linter.unusedVariables false

theorem xor_nat (k : IntKind) (j : Nat) (hj : j ≤ k.bits) (hk : ∀ n : Int, 0 ≤ n → n < 2 ^ j → k.wrap n = n) (a b : Nat) (ha : a < 2 ^ j) (hb : b < 2 ^ j) :
    bits .xor k a b = ((a ^^^ b : Nat) : Int) := by
  have hp : 2 ^ j ≤ 2 ^ k.bits := Nat.pow_le_pow_right (by decide) hj
  have ha' : a % 2 ^ k.bits = a := Nat.mod_eq_of_lt (Nat.lt_of_lt_of_le ha hp)
  have hb' : b % 2 ^ k.bits = b := Nat.mod_eq_of_lt (Nat.lt_of_lt_of_le hb hp)
  have cast : ∀ n : Nat, n < 2 ^ j → ((n : Nat) : Int) < 2 ^ j := fun n h => by exact_mod_cast h
  simp only [bits, BitVec.ofInt_natCast, BitVec.toNat_xor, BitVec.toNat_ofNat, ha', hb']
  exact hk _ (Int.natCast_nonneg _) (cast _ (Nat.xor_lt_two_pow ha hb))
theorem xor8n (a b : Nat) (ha : a < 256) (hb : b < 256) : bits .xor .u8 (a : Int) (b : Int) = ((a ^^^ b : Nat) : Int) := xor_nat .u8 8 (by decide) wraps_u8 a b (by omega) (by omega)

set_option maxRecDepth 100000 in
set_option maxHeartbeats 4000000 in
theorem walk (p0 : Option Addr) (c0 : Nat) (l0 : List UInt8) (p1 : Option Addr) (c1 : Nat) (l1 : List (List UInt8)) (a2 : Int) (a3 : Int) (w : World) (b0 : Byt w p0 c0 l0) (w0 : l0.length ≤ 140737488351232) (b1 : Rd st w p1 c1 l1) (m1 : ∀ x ∈ l1, x.length ≤ maxLen) (w2 : -9223372036854775808 ≤ a2 ∧ a2 ≤ 9223372036854775807) (w3 : 0 ≤ a3 ∧ a3 ≤ 255) :
    Calls Try.prog 5 #[.slice p0 l0.length c0, .slice p1 l1.length c1, .int .i64 a2, .int .u8 a3] w fun e w' => e = .returned (.bool true) ∧ Below w.heap.size w w' := by
  obtain ⟨v2, u2⟩ := w2
  obtain ⟨t, rfl⟩ := Int.eq_ofNat_of_zero_le w3.1
  have ht8 : t < 256 := by omega
  clear w3
  obtain ⟨C, hC⟩ : ∃ C, cutTexts l1 = C := ⟨_, rfl⟩
  have hCl : C.length ≤ 40 := by rw [← hC, cutTexts_len]; omega
  have hCs : ∀ x ∈ C, x.length ≤ 41 := by rw [← hC]; exact cutTexts_short l1
  obtain ⟨C2, hC2⟩ : ∃ C2, C.take 12 = C2 := ⟨_, rfl⟩
  have hC2l : C2.length ≤ 12 := by rw [← hC2]; simp; omega
  obtain ⟨D, hD⟩ : ∃ D, T.bld C2 = D := ⟨_, rfl⟩
  obtain ⟨P, hP⟩ : ∃ P, places D C2 = P := ⟨_, rfl⟩
  have hDl : D.length ≤ 12 := by rw [← hD]; have := T.bld_len C2; omega
  have hDm : ∀ x ∈ D, x.length ≤ maxLen := by
    intro x hx
    rw [← hD, T.mem_bld, ← hC2] at hx
    have := hCs x (List.mem_of_mem_take hx)
    unfold maxLen; omega
  obtain ⟨fb, hfb⟩ : ∃ fb, T.fits D = fb := ⟨_, rfl⟩
  obtain ⟨⟨r, e0⟩, hEn⟩ : ∃ z : List UInt8 × Nat, (if T.fits D = true then (T.enc D, 0) else ([], 12)) = z := ⟨_, rfl⟩
  have HEnc : Hid ((if T.fits D = true then (T.enc D, 0) else ([], 12)) = (r, e0)) := hEn
  have HFits : Hid (T.fits D = fb) := hfb
  have HB0 : Hid (Byt w p0 c0 l0) := b0
  have H1 : Hid (Rd st w p1 c1 l1) := b1
  have HS : Hid (∀ x ∈ l1, x.length ≤ maxLen) := m1
  have HC : Hid (cutTexts l1 = C) := hC
  have HC2 : Hid (C.take 12 = C2) := hC2
  have HD : Hid (T.bld C2 = D) := hD
  have HP : Hid (places D C2 = P) := hP
  have HCm : Hid (∀ x ∈ C2, x.length ≤ maxLen) := (fun x hx => by rw [← hC2] at hx; have := hCs x (List.mem_of_mem_take hx); unfold maxLen; omega : ∀ x ∈ C2, x.length ≤ maxLen)
  have HDm : Hid (∀ x ∈ D, x.length ≤ maxLen) := hDm
  have hc0 := b0.1
  have hc0m := b0.2.1
  have hc1 := b1.1
  have hc1m := b1.2.1
  unfold maxLen at hc0m hc1m
  clear b0 b1 m1 hC hCs hC2 hD hP hDm hfb hEn
  go_enter Try.func5, Try.ntmps5
  go_wp2_with fail
  refine (few_is p1 _ c1 l1 _ rfl H1.out HS.out C HC.out).mono ?_
  rintro e wa ⟨va, rfl, ⟨aa, ca, rfl, hba⟩, hxa⟩
  have HXa : Hid (Ex w wa) := hxa
  have haa := hba.1
  have ham := hba.2.1
  unfold maxLen at ham
  have hb1 := hba.take 12
  rw [HC2.out] at hb1
  have HB1 : Hid (Rd st wa aa ca C2) := hb1
  clear hxa hba hb1
  by_cases h12 : 12 < C.length
  · have t12 : decide (12 < (C.length : Int)) = true := by simp; omega
    have hc12 : (12 : Int) ≤ (ca : Int) := by omega
    have hl12 : C2.length = 12 := by rw [← HC2.out]; simp; omega
    have HL12 : Hid (12 = C2.length) := hl12.symm
    clear hl12
    go_wp2_with fail
    rw [HL12.out]
    refine (build_is aa _ ca C2 _ rfl HB1.out (by omega) HCm.out D HD.out P HP.out).mono ?_
    rintro e wb ⟨v5, u5, rfl, ⟨a9, c9, rfl, hb9⟩, ⟨a6, c6, rfl, hb6⟩, hxb⟩
    have HXb : Hid (Ex w wb) := HXa.out.trans hxb
    have HB9 : Hid (Rd st wb a9 c9 D) := hb9
    have h9a := hb9.1
    have h9m := hb9.2.1
    unfold maxLen at h9m
    clear hb9 hb6 hxb
    go_wp2_with fail
    refine (encode_is a9 _ c9 D _ rfl HB9.out (by omega) HDm.out r e0 HEnc.out).mono ?_
    rintro e wc ⟨v11, rfl, ho11, hxc⟩
    obtain ⟨a11, c11, hv11, hb11⟩ := ho11.byt
    subst hv11
    have HO11 : Hid (Own wc wb.heap.size (.slice a11 r.length c11) r) := ho11
    have HXc : Hid (Ex w wc) := HXb.out.trans hxc
    have HB9c : Hid (Rd st wc a9 c9 D) := HB9.out.below hxc
    have h11a := hb11.1
    have h11m := hb11.2.1
    unfold maxLen at h11m
    clear ho11 hb11 hxc
    go_wp2_with fail
    refine (fits_is a9 _ c9 D _ rfl HB9c.out (by omega) HDm.out fb HFits.out).mono ?_
    rintro e wd ⟨rfl, hxd⟩
    have HXd : Hid (Ex w wd) := HXc.out.trans hxd
    have HO11d : Hid (Own wd wb.heap.size (.slice a11 r.length c11) r) := HO11.out.later hxd
    have HB9d : Hid (Rd st wd a9 c9 D) := HB9c.out.below hxd
    clear hxd HO11 HB9c
    cases hfb : fb with
    | false =>
      have he : e0 = 12 := by
        have h1 := HEnc.out
        rw [HFits.out, hfb, if_neg (by simp)] at h1
        simp only [Prod.mk.injEq] at h1
        exact h1.2.symm
      subst he
      subst hfb
      go_wp2_with fail
      refine (known_any _).mono ?_
      rintro e w6 ⟨rfl, hx6⟩
      go_wp2
      go_ret
      exact ⟨rfl, HXd.out.trans hx6⟩
    | true =>
      subst hfb
      have hr := HEnc.out
      rw [HFits.out, if_pos rfl] at hr
      simp only [Prod.mk.injEq] at hr
      obtain ⟨hrE, rfl⟩ := hr
      have hf3 := (T.fits_iff D).1 HFits.out
      have hrl : r.length ≤ 1000 := by
        rw [← hrE]
        have h1 := M.digs_len D.length
        have h2 := T.texts_len D (fun s hs => by have := hf3.1 s hs; omega)
        have h3 := hf3.2.1
        simp only [T.enc, List.length_append]; omega
      have hrp : 1 ≤ r.length := by
        rw [← hrE]
        have h1 := M.digs_len D.length
        simp only [T.enc, List.length_append]; omega
      obtain ⟨F, hF⟩ : ∃ F, l0 ++ r = F := ⟨_, rfl⟩
      have hdec : T.dec F (l0.length : Int) = (D, F.length, 0) := by
        have h := T.dec_enc (d := D) HFits.out l0 []
        rw [List.append_nil, hrE, hF] at h
        exact h
      have HDec : Hid (T.dec F (l0.length : Int) = (D, F.length, 0)) := hdec
      have HF : Hid (l0 ++ r = F) := hF
      have hFl1 : F.length ≤ l0.length + r.length := by rw [← hF]; simp
      have hFl2 : l0.length + r.length ≤ F.length := by rw [← hF]; simp
      have tr0 : ((r.length : Int) == 0) = false := beq_eq_false_iff_ne.2 (by omega)
      have hb0' := HB0.out.below HXd.out
      clear hrE hf3 hF hdec
      go_wp2_with (first
        | (refine wpList_build_own rfl 46 rfl 0 [] rfl (by decide) (fun _ => by kernel_rfl) wd.heap.size (Nat.le_refl _) ?_; intro g46 w46 ho46 hx46)
        | (at_builtin; refine wpList_append_byt rfl (.tmp 46) (.tmp 47) rfl wd.heap.size _ [] rfl ho46 p0 _ c0 l0 rfl rfl (hb0'.below hx46) (by simp; omega) (Ex.size hx46) ?_; intro v48 w48 ho48 hg48; have hx48 : Ex wd w48 := step_below0 hx46 (Ex.size hx46) ho46 hg48; clear hg48; rw [List.nil_append] at ho48)
        | (at_builtin; refine wpList_append_byt rfl (.tmp 48) (.tmp 49) rfl wd.heap.size _ l0 rfl ho48 a11 _ c11 r rfl rfl (HO11d.out.bytS.below hx48) (by omega) (Ex.size hx48) ?_; intro v50 w50 ho50 hg50; have hx50 : Ex wd w50 := step_below0 hx48 (Ex.size hx48) ho48 hg50; clear hg50; rw [HF.out] at ho50; obtain ⟨a50, c50, hv50, hb50⟩ := ho50.byt; subst hv50))
      have HB50 : Hid (Byt w50 a50 c50 F) := hb50
      have HX50 : Hid (Ex wd w50) := hx50
      clear ho46 hx46 ho48 hx48 ho50 hb50 hx50 hb0'
      refine (decode_is a50 _ c50 F (l0.length : Int) _ rfl HB50.out (by omega) (by omega) (by omega) D F.length 0 HDec.out).mono ?_
      rintro e w51 ⟨v14, rfl, ⟨a14, c14, rfl, hb14⟩, hx51⟩
      have HX51 : Hid (Ex wd w51) := HX50.out.trans hx51
      have HB14 : Hid (Rd st w51 a14 c14 D) := hb14
      clear hb14 hx51
      go_wp2_with fail
      refine (texts_is a14 a9 _ _ c14 c9 D D _ rfl rfl HB14.out (HB9d.out.below HX51.out) true (by simp)).mono ?_
      rintro e w52 ⟨rfl, hx52⟩
      have HX52 : Hid (Ex wd w52) := HX51.out.trans hx52
      have HO52 : Hid (Own w52 wb.heap.size (.slice a11 r.length c11) r) := HO11d.out.later HX52.out
      obtain ⟨g7, d7, hv7, hg7b, hg7s, hg7c, hg7m⟩ := HO52.out.form (by omega)
      simp only [Value.slice.injEq, true_and] at hv7
      obtain ⟨rfl, hc7⟩ := hv7
      have HG7 : Hid (w.heap.size ≤ g7) := Nat.le_trans HXb.out.size hg7b
      clear hx52 hc7 hg7c hg7m d7 hg7s hg7b
      go_wp2_with fail
      refine (within_any a2 ((r.length : Int) - 1) _ v2 u2 (by omega) (by omega)).mono ?_
      rintro e wq ⟨n, hn, rfl, hw⟩
      have hw' := hw.symm; clear hw; subst hw'
      have hnl : n < r.length := by omega
      have hni : (n : Int) < (r.length : Int) := by omega
      obtain ⟨y, hy⟩ : ∃ y, y = r[n].toNat := ⟨_, rfl⟩
      have hy8 : y < 256 := by rw [hy]; exact UInt8.toNat_lt _
      have hcy : w52.cell? ⟨g7, n, none⟩ = some (.int .u8 (y : Int)) := by
        have h1 := HO52.out.bytS
        obtain ⟨b', off', hbo, hc⟩ := h1.2.2.2 n hnl
        simp only [Option.some.injEq, Addr.mk.injEq, and_true] at hbo
        obtain ⟨rfl, rfl⟩ := hbo
        rw [Nat.zero_add] at hc
        rw [hc, hy]
        simp [M.bAt, hnl]
      have hfz := HO52.out.frozen n rfl
      obtain ⟨x8, hx8⟩ : ∃ x8, x8 = y ^^^ t := ⟨_, rfl⟩
      have hxl : x8 < 256 := by rw [hx8]; exact Nat.xor_lt_two_pow (n := 8) (by omega) (by omega)
      have hxor : bits .xor .u8 (y : Int) (t : Int) = (x8 : Int) := by rw [hx8]; exact xor8n y t (by omega) (by omega)
      obtain ⟨B2, hB2⟩ : ∃ B2, B2 = r.set n (UInt8.ofNat x8) := ⟨_, rfl⟩
      have hset := HO52.out.set (k := n) (c := UInt8.ofNat x8) (v := .int .u8 (x8 : Int)) rfl (by simp; omega)
      rw [← hB2] at hset
      have HB2l : Hid (r.length = B2.length) := (by rw [hB2]; simp : r.length = B2.length)
      obtain ⟨w7, hw7⟩ : ∃ w7, w7 = w52.setCell ⟨g7, n, none⟩ (.int .u8 (x8 : Int)) := ⟨_, rfl⟩
      rw [← hw7] at hset
      have HW7 : Hid (w52.setCell ⟨g7, n, none⟩ (.int .u8 (x8 : Int)) = w7) := hw7.symm
      have HB72 : Hid (Byt w7 (some ⟨g7, 0, none⟩) c11 B2) := hset.1.bytS
      have HX7 : Hid (Ex w w7) := (by
        have h2 := Below.setCell (HXd.out.trans HX52.out) (p := ⟨g7, n, none⟩) HG7.out (.int .u8 (x8 : Int))
        rw [← hw7] at h2
        exact h2 : Ex w w7)
      obtain ⟨⟨Y, ky, ey⟩, hdy⟩ : ∃ z, T.dec B2 0 = z := ⟨_, rfl⟩
      have HDy : Hid (T.dec B2 0 = (Y, ky, ey)) := hdy
      have hall := T.dec_all hdy
      have hey : ey ≤ 12 := hall.2.2
      clear hset hw7 hB2 hy hx8 hdy HO52
      by_cases hz : ey = 0
      · subst hz
        have hfY := (hall.1 rfl).1
        have hYf := (T.fits_iff Y).1 hfY
        have hYl : Y.length ≤ 16 := hYf.2.1
        have HFY : Hid (T.fits Y = true) := hfY
        have HYm : Hid (∀ x ∈ Y, x.length ≤ maxLen) := (fun x hx => by have := hYf.1 x hx; unfold maxLen; omega : ∀ x ∈ Y, x.length ≤ maxLen)
        clear hall hfY hYf
        go_wp2_with fail
        rw [HW7.out]
        refine (decode_is (some ⟨g7, 0, none⟩) _ c11 B2 0 _ HB2l.out HB72.out (by have := HB2l.out; omega) (by omega) (by omega) Y ky 0 HDy.out).mono ?_
        rintro e w8 ⟨v18, rfl, ⟨a18, c18, rfl, hb18⟩, hx8'⟩
        have h18m := hb18.2.1
        have h18a := hb18.1
        unfold maxLen at h18m
        have HB18 : Hid (Rd st w8 a18 c18 Y) := hb18
        clear hb18
        go_wp2_with fail
        refine (fits_is a18 _ c18 Y _ rfl HB18.out (by omega) HYm.out true HFY.out).mono ?_
        rintro e w9 ⟨rfl, hx9⟩
        go_wp2_with fail
        refine (known_any _).mono ?_
        rintro e w10 ⟨rfl, hx10⟩
        go_wp2
        go_ret
        exact ⟨rfl, ((HX7.out.trans hx8').trans hx9).trans hx10⟩
      · have hY := (hall.2.1 hz).1
        subst hY
        have tz : ((ey : Int) != 0) = true := by simp; omega
        clear hall
        go_wp2_with fail
        rw [HW7.out]
        refine (decode_is (some ⟨g7, 0, none⟩) _ c11 B2 0 _ HB2l.out HB72.out (by have := HB2l.out; omega) (by omega) (by omega) [] ky ey HDy.out).mono ?_
        rintro e w8 ⟨v18, rfl, ⟨a18, c18, rfl, hb18⟩, hx8'⟩
        clear hb18
        go_wp2_with fail
        refine (known_any _).mono ?_
        rintro e w10 ⟨rfl, hx10⟩
        go_wp2
        go_ret
        exact ⟨rfl, (HX7.out.trans hx8').trans hx10⟩
  · have t12 : decide (12 < (C.length : Int)) = false := by simp; omega
    have hCC : C2 = C := by rw [← HC2.out]; exact List.take_of_length_le (by omega)
    subst hCC
    go_wp2_with fail
    refine (build_is aa _ ca C2 _ rfl HB1.out (by omega) HCm.out D HD.out P HP.out).mono ?_
    rintro e wb ⟨v5, u5, rfl, ⟨a9, c9, rfl, hb9⟩, ⟨a6, c6, rfl, hb6⟩, hxb⟩
    have HXb : Hid (Ex w wb) := HXa.out.trans hxb
    have HB9 : Hid (Rd st wb a9 c9 D) := hb9
    have h9a := hb9.1
    have h9m := hb9.2.1
    unfold maxLen at h9m
    clear hb9 hb6 hxb
    go_wp2_with fail
    refine (encode_is a9 _ c9 D _ rfl HB9.out (by omega) HDm.out r e0 HEnc.out).mono ?_
    rintro e wc ⟨v11, rfl, ho11, hxc⟩
    obtain ⟨a11, c11, hv11, hb11⟩ := ho11.byt
    subst hv11
    have HO11 : Hid (Own wc wb.heap.size (.slice a11 r.length c11) r) := ho11
    have HXc : Hid (Ex w wc) := HXb.out.trans hxc
    have HB9c : Hid (Rd st wc a9 c9 D) := HB9.out.below hxc
    have h11a := hb11.1
    have h11m := hb11.2.1
    unfold maxLen at h11m
    clear ho11 hb11 hxc
    go_wp2_with fail
    refine (fits_is a9 _ c9 D _ rfl HB9c.out (by omega) HDm.out fb HFits.out).mono ?_
    rintro e wd ⟨rfl, hxd⟩
    have HXd : Hid (Ex w wd) := HXc.out.trans hxd
    have HO11d : Hid (Own wd wb.heap.size (.slice a11 r.length c11) r) := HO11.out.later hxd
    have HB9d : Hid (Rd st wd a9 c9 D) := HB9c.out.below hxd
    clear hxd HO11 HB9c
    cases hfb : fb with
    | false =>
      have he : e0 = 12 := by
        have h1 := HEnc.out
        rw [HFits.out, hfb, if_neg (by simp)] at h1
        simp only [Prod.mk.injEq] at h1
        exact h1.2.symm
      subst he
      subst hfb
      go_wp2_with fail
      refine (known_any _).mono ?_
      rintro e w6 ⟨rfl, hx6⟩
      go_wp2
      go_ret
      exact ⟨rfl, HXd.out.trans hx6⟩
    | true =>
      subst hfb
      have hr := HEnc.out
      rw [HFits.out, if_pos rfl] at hr
      simp only [Prod.mk.injEq] at hr
      obtain ⟨hrE, rfl⟩ := hr
      have hf3 := (T.fits_iff D).1 HFits.out
      have hrl : r.length ≤ 1000 := by
        rw [← hrE]
        have h1 := M.digs_len D.length
        have h2 := T.texts_len D (fun s hs => by have := hf3.1 s hs; omega)
        have h3 := hf3.2.1
        simp only [T.enc, List.length_append]; omega
      have hrp : 1 ≤ r.length := by
        rw [← hrE]
        have h1 := M.digs_len D.length
        simp only [T.enc, List.length_append]; omega
      obtain ⟨F, hF⟩ : ∃ F, l0 ++ r = F := ⟨_, rfl⟩
      have hdec : T.dec F (l0.length : Int) = (D, F.length, 0) := by
        have h := T.dec_enc (d := D) HFits.out l0 []
        rw [List.append_nil, hrE, hF] at h
        exact h
      have HDec : Hid (T.dec F (l0.length : Int) = (D, F.length, 0)) := hdec
      have HF : Hid (l0 ++ r = F) := hF
      have hFl1 : F.length ≤ l0.length + r.length := by rw [← hF]; simp
      have hFl2 : l0.length + r.length ≤ F.length := by rw [← hF]; simp
      have tr0 : ((r.length : Int) == 0) = false := beq_eq_false_iff_ne.2 (by omega)
      have hb0' := HB0.out.below HXd.out
      clear hrE hf3 hF hdec
      go_wp2_with (first
        | (refine wpList_build_own rfl 46 rfl 0 [] rfl (by decide) (fun _ => by kernel_rfl) wd.heap.size (Nat.le_refl _) ?_; intro g46 w46 ho46 hx46)
        | (at_builtin; refine wpList_append_byt rfl (.tmp 46) (.tmp 47) rfl wd.heap.size _ [] rfl ho46 p0 _ c0 l0 rfl rfl (hb0'.below hx46) (by simp; omega) (Ex.size hx46) ?_; intro v48 w48 ho48 hg48; have hx48 : Ex wd w48 := step_below0 hx46 (Ex.size hx46) ho46 hg48; clear hg48; rw [List.nil_append] at ho48)
        | (at_builtin; refine wpList_append_byt rfl (.tmp 48) (.tmp 49) rfl wd.heap.size _ l0 rfl ho48 a11 _ c11 r rfl rfl (HO11d.out.bytS.below hx48) (by omega) (Ex.size hx48) ?_; intro v50 w50 ho50 hg50; have hx50 : Ex wd w50 := step_below0 hx48 (Ex.size hx48) ho48 hg50; clear hg50; rw [HF.out] at ho50; obtain ⟨a50, c50, hv50, hb50⟩ := ho50.byt; subst hv50))
      have HB50 : Hid (Byt w50 a50 c50 F) := hb50
      have HX50 : Hid (Ex wd w50) := hx50
      clear ho46 hx46 ho48 hx48 ho50 hb50 hx50 hb0'
      refine (decode_is a50 _ c50 F (l0.length : Int) _ rfl HB50.out (by omega) (by omega) (by omega) D F.length 0 HDec.out).mono ?_
      rintro e w51 ⟨v14, rfl, ⟨a14, c14, rfl, hb14⟩, hx51⟩
      have HX51 : Hid (Ex wd w51) := HX50.out.trans hx51
      have HB14 : Hid (Rd st w51 a14 c14 D) := hb14
      clear hb14 hx51
      go_wp2_with fail
      refine (texts_is a14 a9 _ _ c14 c9 D D _ rfl rfl HB14.out (HB9d.out.below HX51.out) true (by simp)).mono ?_
      rintro e w52 ⟨rfl, hx52⟩
      have HX52 : Hid (Ex wd w52) := HX51.out.trans hx52
      have HO52 : Hid (Own w52 wb.heap.size (.slice a11 r.length c11) r) := HO11d.out.later HX52.out
      obtain ⟨g7, d7, hv7, hg7b, hg7s, hg7c, hg7m⟩ := HO52.out.form (by omega)
      simp only [Value.slice.injEq, true_and] at hv7
      obtain ⟨rfl, hc7⟩ := hv7
      have HG7 : Hid (w.heap.size ≤ g7) := Nat.le_trans HXb.out.size hg7b
      clear hx52 hc7 hg7c hg7m d7 hg7s hg7b
      go_wp2_with fail
      refine (within_any a2 ((r.length : Int) - 1) _ v2 u2 (by omega) (by omega)).mono ?_
      rintro e wq ⟨n, hn, rfl, hw⟩
      have hw' := hw.symm; clear hw; subst hw'
      have hnl : n < r.length := by omega
      have hni : (n : Int) < (r.length : Int) := by omega
      obtain ⟨y, hy⟩ : ∃ y, y = r[n].toNat := ⟨_, rfl⟩
      have hy8 : y < 256 := by rw [hy]; exact UInt8.toNat_lt _
      have hcy : w52.cell? ⟨g7, n, none⟩ = some (.int .u8 (y : Int)) := by
        have h1 := HO52.out.bytS
        obtain ⟨b', off', hbo, hc⟩ := h1.2.2.2 n hnl
        simp only [Option.some.injEq, Addr.mk.injEq, and_true] at hbo
        obtain ⟨rfl, rfl⟩ := hbo
        rw [Nat.zero_add] at hc
        rw [hc, hy]
        simp [M.bAt, hnl]
      have hfz := HO52.out.frozen n rfl
      obtain ⟨x8, hx8⟩ : ∃ x8, x8 = y ^^^ t := ⟨_, rfl⟩
      have hxl : x8 < 256 := by rw [hx8]; exact Nat.xor_lt_two_pow (n := 8) (by omega) (by omega)
      have hxor : bits .xor .u8 (y : Int) (t : Int) = (x8 : Int) := by rw [hx8]; exact xor8n y t (by omega) (by omega)
      obtain ⟨B2, hB2⟩ : ∃ B2, B2 = r.set n (UInt8.ofNat x8) := ⟨_, rfl⟩
      have hset := HO52.out.set (k := n) (c := UInt8.ofNat x8) (v := .int .u8 (x8 : Int)) rfl (by simp; omega)
      rw [← hB2] at hset
      have HB2l : Hid (r.length = B2.length) := (by rw [hB2]; simp : r.length = B2.length)
      obtain ⟨w7, hw7⟩ : ∃ w7, w7 = w52.setCell ⟨g7, n, none⟩ (.int .u8 (x8 : Int)) := ⟨_, rfl⟩
      rw [← hw7] at hset
      have HW7 : Hid (w52.setCell ⟨g7, n, none⟩ (.int .u8 (x8 : Int)) = w7) := hw7.symm
      have HB72 : Hid (Byt w7 (some ⟨g7, 0, none⟩) c11 B2) := hset.1.bytS
      have HX7 : Hid (Ex w w7) := (by
        have h2 := Below.setCell (HXd.out.trans HX52.out) (p := ⟨g7, n, none⟩) HG7.out (.int .u8 (x8 : Int))
        rw [← hw7] at h2
        exact h2 : Ex w w7)
      obtain ⟨⟨Y, ky, ey⟩, hdy⟩ : ∃ z, T.dec B2 0 = z := ⟨_, rfl⟩
      have HDy : Hid (T.dec B2 0 = (Y, ky, ey)) := hdy
      have hall := T.dec_all hdy
      have hey : ey ≤ 12 := hall.2.2
      clear hset hw7 hB2 hy hx8 hdy HO52
      by_cases hz : ey = 0
      · subst hz
        have hfY := (hall.1 rfl).1
        have hYf := (T.fits_iff Y).1 hfY
        have hYl : Y.length ≤ 16 := hYf.2.1
        have HFY : Hid (T.fits Y = true) := hfY
        have HYm : Hid (∀ x ∈ Y, x.length ≤ maxLen) := (fun x hx => by have := hYf.1 x hx; unfold maxLen; omega : ∀ x ∈ Y, x.length ≤ maxLen)
        clear hall hfY hYf
        go_wp2_with fail
        rw [HW7.out]
        refine (decode_is (some ⟨g7, 0, none⟩) _ c11 B2 0 _ HB2l.out HB72.out (by have := HB2l.out; omega) (by omega) (by omega) Y ky 0 HDy.out).mono ?_
        rintro e w8 ⟨v18, rfl, ⟨a18, c18, rfl, hb18⟩, hx8'⟩
        have h18m := hb18.2.1
        have h18a := hb18.1
        unfold maxLen at h18m
        have HB18 : Hid (Rd st w8 a18 c18 Y) := hb18
        clear hb18
        go_wp2_with fail
        refine (fits_is a18 _ c18 Y _ rfl HB18.out (by omega) HYm.out true HFY.out).mono ?_
        rintro e w9 ⟨rfl, hx9⟩
        go_wp2_with fail
        refine (known_any _).mono ?_
        rintro e w10 ⟨rfl, hx10⟩
        go_wp2
        go_ret
        exact ⟨rfl, ((HX7.out.trans hx8').trans hx9).trans hx10⟩
      · have hY := (hall.2.1 hz).1
        subst hY
        have tz : ((ey : Int) != 0) = true := by simp; omega
        clear hall
        go_wp2_with fail
        rw [HW7.out]
        refine (decode_is (some ⟨g7, 0, none⟩) _ c11 B2 0 _ HB2l.out HB72.out (by have := HB2l.out; omega) (by omega) (by omega) [] ky ey HDy.out).mono ?_
        rintro e w8 ⟨v18, rfl, ⟨a18, c18, rfl, hb18⟩, hx8'⟩
        clear hb18
        go_wp2_with fail
        refine (known_any _).mono ?_
        rintro e w10 ⟨rfl, hx10⟩
        go_wp2
        go_ret
        exact ⟨rfl, (HX7.out.trans hx8').trans hx10⟩
end Go.Proofs.Ytmnhoofjijiibaa.dictBack
