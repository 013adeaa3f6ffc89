/-
  The walk of the law BitsPlaces: whatever numbers and place it is given, it returns true.
-/
import Derived.Test.YtljfbgnefmikpaaBitsWidthWalk
import Derived.Test.YtljfbgnefmikpaaLists
namespace Go.Proofs.Ytljfbgnefmikpaa.bitsPlaces
open Go.RowKit
open bitsWidth (few_is)
set_option linter.unusedVariables false

theorem bit8_num (b : List UInt8) (p : Nat) : bits .and .u8 ((M.bAt b (p / 8) : Int) / 2 ^ (p % 8)) 1 = ((B.bit8 b p).toNat : Int) := by
  cases h : B.bit8 b p
  · rw [bit8_none h]; rfl
  · rw [bit8_one h]; rfl
theorem bit64_num (x j : Nat) (hx : x < 18446744073709551616) : bits .and .u64 ((x : Int) / 2 ^ j) 1 = ((x.testBit j).toNat : Int) := by
  cases h : x.testBit j
  · rw [bit_none hx h]; rfl
  · rw [bit_one hx h]; rfl
/-- Outside of the place all bits are the same. -/
theorem places_out {L : List Nat} {K W v p : Nat} (hK : K < L.length) (h : ¬ (K * W ≤ p ∧ p < K * W + W)) : B.bit8 (B.pack W L) p = B.bit8 (B.pack W (L.set K v)) p := by
  rw [B.pack_bit, B.pack_bit, List.length_set]
  by_cases hp : p < L.length * W
  · have hW : 0 < W := by
      rcases Nat.eq_zero_or_pos W with h0 | h0
      · rw [h0] at hp; omega
      · exact h0
    have hne : p / W ≠ K := by
      intro e
      apply h
      have h1 := Nat.div_add_mod p W
      have h2 := Nat.mod_lt p hW
      rw [e, Nat.mul_comm] at h1
      omega
    have : B.bitW W L p = B.bitW W (L.set K v) p := by
      unfold B.bitW
      simp only [List.getD_eq_getElem?_getD]
      rw [List.getElem?_set_ne (fun e => hne e.symm)]
    rw [this]
  · simp [hp]
/-- At the place the bits are the number's own. -/
theorem places_in {L : List Nat} {K W t : Nat} (hK : K < L.length) (ht : t < W) : B.bit8 (B.pack W L) (K * W + t) = L[K].testBit t := by
  rw [B.pack_bit]
  have := B.place_lt hK ht
  unfold B.bitW
  rw [B.place_div ht, B.place_mod ht]
  simp [this, hK]

set_option maxRecDepth 100000 in
theorem walk_none (p0 : Option Addr) (c0 : Nat) (l0 : List Nat) (a1 a2 : Int) (w : World) (b0 : Rd n64 w p0 c0 l0) (h0 : l0.length = 0) :
    Calls Try.prog 7 #[.slice p0 l0.length c0, .int .i64 a1, .int .u64 a2] w fun e w' => e = .returned (.bool true) ∧ Below w.heap.size w w' := by
  obtain ⟨L, hL⟩ : ∃ L, l0.take 60 = L := ⟨_, rfl⟩
  have hL0 : L.length = 0 := by rw [← hL, List.length_take, h0]; rfl
  have HL : Hid (l0.take 60 = L) := hL
  have H0 : Hid (Rd n64 w p0 c0 l0) := b0
  have ht : ((L.length : Int) == 0) = true := by rw [hL0]; rfl
  clear hL b0 hL0 h0
  go_enter Try.func7, Try.ntmps7
  go_wp2_with fail
  refine (few_is p0 c0 l0 L _ H0.out HL.out).mono ?_
  rintro e wq ⟨rfl, hw⟩
  have hw' := hw.symm; clear hw; subst hw'
  go_wp2_with fail
  refine (known_any _).mono ?_
  rintro e w7 ⟨rfl, hx7⟩
  go_wp2
  go_ret
  exact ⟨rfl, hx7⟩

set_option maxRecDepth 100000 in
set_option maxHeartbeats 2000000 in
theorem walk_some (p0 : Option Addr) (c0 : Nat) (l0 : List Nat) (a1 : Int) (v : Nat) (w : World) (b0 : Rd n64 w p0 c0 l0) (m0 : ∀ x ∈ l0, x < 18446744073709551616) (w0 : l0.length ≤ 17592186043904) (w1 : -9223372036854775808 ≤ a1) (u1 : a1 ≤ 9223372036854775807) (hv : v < 18446744073709551616) (h0 : 0 < l0.length) :
    Calls Try.prog 7 #[.slice p0 l0.length c0, .int .i64 a1, .int .u64 v] w fun e w' => e = .returned (.bool true) ∧ Below w.heap.size w w' := by
  obtain ⟨L, hL⟩ : ∃ L, l0.take 60 = L := ⟨_, rfl⟩
  have hLl : L.length ≤ 60 := by rw [← hL]; simp; omega
  have hLp : 0 < L.length := by rw [← hL]; simp; omega
  have hLB : Rd n64 w p0 c0 L := by rw [← hL]; exact b0.take 60
  have hL64 : ∀ x ∈ L, x < 18446744073709551616 := by rw [← hL]; exact fun x hx => m0 x (List.mem_of_mem_take hx)
  have hLv : ∀ x ∈ L ++ [v], x < 18446744073709551616 := by
    intro x hx
    rcases List.mem_append.1 hx with h | h
    · exact hL64 x h
    · simp at h; rw [h]; exact hv
  obtain ⟨W, hW⟩ : ∃ W, B.width (L ++ [v]) = W := ⟨_, rfl⟩
  have hW64 : W ≤ 64 := by rw [← hW]; exact B.width64 hLv
  have H0 : Hid (Rd n64 w p0 c0 l0) := b0
  have HLB : Hid (Rd n64 w p0 c0 L) := hLB
  have HL : Hid (l0.take 60 = L) := hL
  have HL64 : Hid (∀ x ∈ L, x < 18446744073709551616) := hL64
  have HLv : Hid (∀ x ∈ L ++ [v], x < 18446744073709551616) := hLv
  have HW : Hid (B.width (L ++ [v]) = W) := hW
  have ht : ((L.length : Int) == 0) = false := by simp only [beq_eq_false_iff_ne, ne_eq]; omega
  clear b0 hLB hL hL64 hLv hW m0
  go_enter Try.func7, Try.ntmps7
  go_wp2_with fail
  refine (few_is p0 c0 l0 L _ H0.out HL.out).mono ?_
  rintro e wq ⟨rfl, hw⟩
  have hw' := hw.symm; clear hw; subst hw'
  go_wp2_with fail
  refine (within_any a1 _ _ w1 u1 (by omega) (by omega)).mono ?_
  rintro e wq ⟨K, hK, rfl, hw⟩
  have hw' := hw.symm; clear hw; subst hw'
  have hKl : K < L.length := by omega
  go_wp2_with (first
    | (at_builtin; refine wpList_append_rd (e := 26) (enc := n64) rfl (.tmp 29) (.tmp 30) 27 rfl 0 8 Try.underlying27 Try.info26 rfl (fun _ => rfl) w.heap.size _ [] rfl (OwnR.empty w w.heap.size (Nat.le_refl _)) _ _ _ L rfl rfl (HLB.out.below ((Below.refl _ _).alloc (Nat.le_refl _) _)) (by simp [maxLen]; omega) (by simp; omega) (by simp) ?_; intro v31 w31 ho31 hg31; have X31 : Ex w w31 := step_belowR ((Below.refl _ _).alloc (Nat.le_refl _) _) (by simp) (OwnR.empty (e := 26) (enc := n64) w w.heap.size (Nat.le_refl _)) hg31; clear hg31; rw [List.nil_append] at ho31)
    | (at_builtin; refine wpList_append_rd (e := 26) (enc := n64) rfl (.tmp 31) (.tmp 33) 27 rfl 0 8 Try.underlying27 Try.info26 rfl (fun _ => rfl) w.heap.size _ L rfl (ho31.alloc _) _ _ _ [v] rfl rfl (Rd.laid w31 26 [v] (by simp)) (by simp [maxLen]; omega) (by simp; omega) (by have := Ex.size X31; simp; omega) ?_; intro v34 w34 ho34 hg34; have X34 : Ex w w34 := step_belowR (Below.alloc X31 (Ex.size X31) _) (by have := Ex.size X31; simp; omega) (ho31.alloc _) hg34; clear hg34))
  obtain ⟨a34, c34, rfl, hB34⟩ := ho34.rd
  refine (width_is a34 _ c34 (L ++ [v]) _ rfl hB34 HLv.out (by simp; omega) W HW.out).mono ?_
  rintro e w35 ⟨rfl, hx35⟩
  have X35 : Ex w w35 := X34.trans hx35
  clear hx35 hB34 ho34 ho31 X31 X34
  go_wp2_with (at_builtin; refine wpList_append_rd (e := 26) (enc := n64) rfl (.tmp 36) (.tmp 37) 27 rfl 0 8 Try.underlying27 Try.info26 rfl (fun _ => rfl) w35.heap.size _ [] rfl (OwnR.empty w35 w35.heap.size (Nat.le_refl _)) _ _ _ L rfl rfl ((HLB.out.below X35).below ((Below.refl _ _).alloc (Nat.le_refl _) _)) (by simp [maxLen]; omega) (by simp; omega) (by simp) ?_; intro v38 w38 ho38 hg38; have X38 : Ex w35 w38 := step_belowR ((Below.refl _ _).alloc (Nat.le_refl _) _) (by simp) (OwnR.empty (e := 26) (enc := n64) w35 w35.heap.size (Nat.le_refl _)) hg38; clear hg38; rw [List.nil_append] at ho38; obtain ⟨g, cap, hvg, hgb, hgs, hcap, hcapm⟩ := ho38.form hLp; subst hvg; have hc38 := ho38.cell rfl hKl; have hf38 := ho38.frozen K rfl; have hi38 : (K : Int) < (L.length : Int) := by omega)
  obtain ⟨M, eM⟩ : ∃ M, M = L.set K v := ⟨_, rfl⟩
  have hMl : L.length = M.length := by rw [eM, List.length_set]
  have hM64 : ∀ x ∈ M, x < 18446744073709551616 := by
    rw [eM]
    intro x hx
    rcases List.mem_or_eq_of_mem_set hx with h | h
    · exact HL64.out x h
    · rw [h]; exact hv
  have hfit : ∀ x ∈ L ++ [v], x < 2 ^ W := B.fits (by rw [HW.out]; omega)
  have hwL : B.width L ≤ W := (B.width_le W L).2 fun x hx => hfit x (List.mem_append_left _ hx)
  have hwM : B.width M ≤ W := (B.width_le W M).2 fun x hx => by
    rw [eM] at hx
    rcases List.mem_or_eq_of_mem_set hx with h | h
    · exact hfit x (List.mem_append_left _ h)
    · exact hfit x (by rw [h]; simp)
  obtain ⟨w39, hw39⟩ : ∃ w39, w38.setCell ⟨g, K, none⟩ (.int .u64 (v : Int)) = w39 := ⟨_, rfl⟩
  have ho39 : OwnR 26 n64 w39 w35.heap.size (.slice (some ⟨g, 0, none⟩) L.length cap) M := by
    rw [← hw39, eM]; exact ho38.set rfl v rfl
  have X39 : Ex w w39 := X35.trans (by rw [← hw39]; exact Below.setCell X38 (p := ⟨g, K, none⟩) hgb _)
  rw [hw39]
  have HMB : Hid (Rd n64 w39 (some ⟨g, 0, none⟩) cap M) := ho39.rdS
  obtain ⟨x, hx⟩ : ∃ x, x = L[K] := ⟨_, rfl⟩
  have hx64 : x < 18446744073709551616 := by rw [hx]; exact HL64.out _ (List.getElem_mem hKl)
  obtain ⟨m, hm⟩ : ∃ m, m = K * W := ⟨_, rfl⟩
  have hmi : (K : Int) * (W : Int) = (m : Int) := by rw [hm]; simp
  have hmm : m ≤ 60 * 64 := by rw [hm]; exact Nat.mul_le_mul (by omega) hW64
  obtain ⟨PL, ePL⟩ : ∃ P, P = B.pack W L := ⟨_, rfl⟩
  obtain ⟨PM, ePM⟩ : ∃ P, P = B.pack W M := ⟨_, rfl⟩
  have hpL : B.pck L (W : Int) = (PL, 0) := by rw [ePL]; exact B.pck_ok hW64 hwL
  have hpM : B.pck M (W : Int) = (PM, 0) := by rw [ePM]; exact B.pck_ok hW64 hwM
  have hPP : PL.length = PM.length := by rw [ePL, ePM, B.pack_len, B.pack_len, hMl]
  have hPLm : PL.length ≤ 480 := by
    rw [ePL, B.pack_len]
    have h1 := B.size_lt L.length W
    have h2 : L.length * W ≤ 60 * 64 := Nat.mul_le_mul hLl hW64
    omega
  have hout : ∀ p, ¬ (m ≤ p ∧ p < m + W) → B.bit8 PL p = B.bit8 PM p := fun p hp => by
    rw [ePL, ePM, eM]; exact places_out hKl (by rw [← hm]; exact hp)
  have hin1 : ∀ t, t < W → B.bit8 PL (m + t) = x.testBit t := fun t ht => by
    rw [ePL, hm, hx]; exact places_in hKl ht
  have hin2 : ∀ t, t < W → B.bit8 PM (m + t) = v.testBit t := fun t ht => by
    rw [ePM, hm, eM, places_in (by rw [List.length_set]; exact hKl) ht]; simp
  obtain ⟨q, off, hp0, hcx0⟩ := HLB.out.at hKl
  rw [← hx] at hcx0
  have HP0 : Hid (p0 = some ⟨q, off, none⟩) := hp0
  have HCx : Hid (w.cell? ⟨q, off + K, none⟩ = some (.int .u64 (x : Int))) := hcx0
  have HOut : Hid (∀ p, ¬ (m ≤ p ∧ p < m + W) → B.bit8 PL p = B.bit8 PM p) := hout
  have HIn1 : Hid (∀ t, t < W → B.bit8 PL (m + t) = x.testBit t) := hin1
  have HIn2 : Hid (∀ t, t < W → B.bit8 PM (m + t) = v.testBit t) := hin2
  have HpL : Hid (B.pck L (W : Int) = (PL, 0)) := hpL
  have HpM : Hid (B.pck M (W : Int) = (PM, 0)) := hpM
  have HM64 : Hid (∀ x ∈ M, x < 18446744073709551616) := hM64
  have HMl : Hid (L.length = M.length) := hMl
  have HPP : Hid (PL.length = PM.length) := hPP
  have hne : ((PL.length : Int) != (PM.length : Int)) = false := by rw [hPP]; simp
  have hMl' : M.length ≤ 60 := by omega
  clear eM hM64 hfit hwL hwM hw39 ho39 ho38 hc38 hf38 hx hm ePL ePM hpL hpM hout hin1 hin2 hp0 hcx0 hMl hPP X35 X38
  refine (pack_is p0 _ c0 L _ _ rfl (HLB.out.below X39) HL64.out (by omega) (by omega) (by omega) _ _ HpL.out).mono ?_
  rintro e w40 ⟨v40, rfl, hv40, hx40⟩
  obtain ⟨aa, ca, rfl, hBa⟩ := hv40
  go_wp2_with fail
  refine (pack_is (some ⟨g, 0, none⟩) _ cap M _ _ HMl.out (HMB.out.below hx40) HM64.out (by omega) (by omega) (by omega) _ _ HpM.out).mono ?_
  rintro e w41 ⟨v41, rfl, hv41, hx41⟩
  obtain ⟨ab, cb, rfl, hBb⟩ := hv41
  have X41 : Ex w w41 := (X39.trans hx40).trans hx41
  have HBa : Hid (Byt w41 aa ca PL) := hBa.below hx41
  have HBb : Hid (Byt w41 ab cb PM) := hBb
  have hcx : w41.cell? ⟨q, off + K, none⟩ = some (.int .u64 (x : Int)) := by
    rw [X41.cell (p := ⟨q, off + K, none⟩) (World.block_lt_of_cell? _ _ HCx.out)]; exact HCx.out
  clear hBa hBb hx40 hx41 X39 HMB HCx
  have hp0 := HP0.out
  subst hp0
  go_wp2_with fail
  go_loop [14] (fun i => ∃ p : Nat, p ≤ 8 * PL.length ∧ i = .int .i64 p) (fun i => 8 * PL.length - (intOf i).toNat)
  case atStart => exact ⟨0, by omega, rfl⟩
  case round =>
    obtain ⟨p, hp, rfl⟩ := hrel
    by_cases hlt : p < 8 * PL.length
    · have hPPl := HPP.out
      obtain ⟨b1, o1, rfl, hc1⟩ := HBa.out.2.2.2 (p / 8) (by omega)
      obtain ⟨b2, o2, rfl, hc2⟩ := HBb.out.2.2.2 (p / 8) (by omega)
      have hi1 : (p : Int) / 8 < (PL.length : Int) := by omega
      have hi2 : (p : Int) / 8 < (PM.length : Int) := by omega
      have hn1 := bit8_num PL p
      have hn2 := bit8_num PM p
      by_cases hin : m ≤ p ∧ p < m + W
      · obtain ⟨t, rfl⟩ : ∃ t, p = m + t := ⟨p - m, by omega⟩
        have htW : t < W := by omega
        rw [HIn1.out t htW] at hn1
        rw [HIn2.out t htW] at hn2
        have hx1 := bit64_num x t hx64
        have hx2 := bit64_num v t hv
        have hl1 : (x.testBit t).toNat ≤ 1 := Bool.toNat_le _
        have hl2 : (v.testBit t).toNat ≤ 1 := Bool.toNat_le _
        generalize (x.testBit t).toNat = n1 at hn1 hx1 hl1
        generalize (v.testBit t).toNat = n2 at hn2 hx2 hl2
        have d1 : decide ((m : Int) ≤ (m : Int) + (t : Int)) = true := decide_eq_true (by omega)
        have d2 : decide ((m : Int) + (t : Int) < (m : Int) + (W : Int)) = true := decide_eq_true (by omega)
        clear hPPl
        go_wp2
        go_round
        case rel => exact ⟨m + t + 1, by omega, by go_num⟩
        case measure => simp [intOf]; omega
      · rw [HOut.out p hin] at hn1
        have hl1 : (B.bit8 PM p).toNat ≤ 1 := Bool.toNat_le _
        generalize (B.bit8 PM p).toNat = n1 at hn1 hn2 hl1
        by_cases hlo : m ≤ p
        · have d1 : decide ((m : Int) ≤ (p : Int)) = true := by simp; omega
          have d2 : decide ((p : Int) < (m : Int) + (W : Int)) = false := by simp; omega
          clear hPPl
          go_wp2
          go_round
          case rel => exact ⟨p + 1, by omega, by go_num⟩
          case measure => simp [intOf]; omega
        · have d1 : decide ((m : Int) ≤ (p : Int)) = false := by simp; omega
          clear hPPl
          go_wp2
          go_round
          case rel => exact ⟨p + 1, by omega, by go_num⟩
          case measure => simp [intOf]; omega
    · go_wp2_with fail
      refine (known_any _).mono ?_
      rintro e w7 ⟨rfl, hx7⟩
      go_wp2
      go_ret
      exact ⟨rfl, X41.trans hx7⟩

theorem walk (p0 : Option Addr) (c0 : Nat) (l0 : List Nat) (a1 : Int) (a2 : Int) (w : World) (b0 : Rd n64 w p0 c0 l0) (m0 : ∀ x ∈ l0, x < 18446744073709551616) (w0 : l0.length ≤ 17592186043904) (w1 : -9223372036854775808 ≤ a1 ∧ a1 ≤ 9223372036854775807) (w2 : 0 ≤ a2 ∧ a2 ≤ 18446744073709551615) :
    Calls Try.prog 7 #[.slice p0 l0.length c0, .int .i64 a1, .int .u64 a2] w fun e w' => e = .returned (.bool true) ∧ Below w.heap.size w w' := by
  by_cases h : l0.length = 0
  · exact walk_none p0 c0 l0 a1 a2 w b0 h
  · obtain ⟨v, rfl⟩ := Int.eq_ofNat_of_zero_le w2.1
    exact walk_some p0 c0 l0 a1 v w b0 m0 w0 w1.1 w1.2 (by omega) (by omega)
end Go.Proofs.Ytljfbgnefmikpaa.bitsPlaces
