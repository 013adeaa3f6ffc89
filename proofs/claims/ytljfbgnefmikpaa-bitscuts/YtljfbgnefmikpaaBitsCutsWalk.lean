/-
  The walk of the law BitsCuts: whatever numbers it is given, it returns true.
-/
import Derived.Test.YtljfbgnefmikpaaBitsWidthWalk
namespace Go.Proofs.Ytljfbgnefmikpaa.bitsCuts
open Go.RowKit
open bitsWidth (few_is)
set_option linter.unusedVariables false

theorem unp_tail {b : List UInt8} {n w : Nat} (h1 : w ≤ 64) (h2 : n ≤ 16777216) (h : B.size n w < b.length) : B.unp b n w = ([], 11) := by
  unfold B.unp
  rw [if_neg (by omega), if_neg (by omega)]
  simp only [Int.toNat_natCast]
  rw [if_neg (by omega), if_pos h]
theorem unp_end {b : List UInt8} {n w : Nat} (h1 : w ≤ 64) (h2 : n ≤ 16777216) (h : b.length < B.size n w) : B.unp b n w = ([], 10) := by
  unfold B.unp
  rw [if_neg (by omega), if_neg (by omega)]
  simp only [Int.toNat_natCast]
  rw [if_pos h]
theorem unp_left {b : List UInt8} {n w : Nat} (h1 : w ≤ 64) (h2 : n ≤ 16777216) (h : b.length = B.size n w) (hl : B.left w n b = true) : B.unp b n w = ([], 12) := by
  unfold B.unp
  rw [if_neg (by omega), if_neg (by omega)]
  simp only [Int.toNat_natCast]
  rw [if_neg (by omega), if_neg (by omega), if_pos hl]
/-- A slice value that owns something names its block. -/
theorem Own_form {w : World} {base : Nat} {v : Value} {l : List UInt8} (h : Own w base v l) (hn : 0 < l.length) : ∃ g cap, v = .slice (some ⟨g, 0, none⟩) l.length cap ∧ base ≤ g ∧ g < w.heap.size ∧ l.length ≤ cap ∧ cap ≤ maxLen := by
  rcases h.2 with ⟨_, h0⟩ | ⟨g, cap, cur, hv, hb, hg, h1, h2, _⟩
  · omega
  · exact ⟨g, cap, hv, hb, (Array.getElem?_eq_some_iff.1 hg).1, h1, h2⟩

set_option maxRecDepth 100000 in
set_option maxHeartbeats 2000000 in
theorem walk0 (p0 : Option Addr) (c0 : Nat) (l0 : List Nat) (a1 : Int) (X : UInt8) (w : World) (b0 : Rd n64 w p0 c0 l0) (m0 : ∀ x ∈ l0, x < 18446744073709551616) (w0 : l0.length ≤ 17592186043904) (w1 : -9223372036854775808 ≤ a1) (u1 : a1 ≤ 9223372036854775807) :
    Calls Try.prog 8 #[.slice p0 l0.length c0, .int .i64 a1, .int .u8 (X.toNat : Int)] w fun e w' => e = .returned (.bool true) ∧ Below w.heap.size w w' := by
  obtain ⟨L, hL⟩ : ∃ L, l0.take 60 = L := ⟨_, rfl⟩
  have hLl : L.length ≤ 60 := by rw [← hL]; simp; omega
  have hLB : Rd n64 w p0 c0 L := by rw [← hL]; exact b0.take 60
  have hL64 : ∀ x ∈ L, x < 18446744073709551616 := by rw [← hL]; exact fun x hx => m0 x (List.mem_of_mem_take hx)
  obtain ⟨U, hU⟩ : ∃ U, B.width L = U := ⟨_, rfl⟩
  have hU64 : U ≤ 64 := by rw [← hU]; exact B.width64 hL64
  have H0 : Hid (Rd n64 w p0 c0 l0) := b0
  have HLB : Hid (Rd n64 w p0 c0 L) := hLB
  have HL : Hid (l0.take 60 = L) := hL
  have HL64 : Hid (∀ x ∈ L, x < 18446744073709551616) := hL64
  have HU : Hid (B.width L = U) := hU
  clear b0 hLB hL hL64 hU m0
  go_enter Try.func8, Try.ntmps8
  go_wp2_with fail
  refine (few_is p0 c0 l0 L _ H0.out HL.out).mono ?_
  rintro e wq ⟨rfl, hw⟩
  have hw' := hw.symm; clear hw; subst hw'
  go_wp2_with fail
  refine (width_is p0 _ c0 L _ rfl HLB.out HL64.out (by omega) U HU.out).mono ?_
  rintro e w3 ⟨rfl, hx3⟩
  go_wp2_with fail
  refine (width_is p0 _ c0 L _ rfl (HLB.out.below hx3) HL64.out (by omega) U HU.out).mono ?_
  rintro e w4 ⟨rfl, hx4⟩
  have X4 : Ex w w4 := hx3.trans hx4
  clear hx3 hx4
  go_wp2_with fail
  refine (within_any a1 _ _ w1 u1 (by omega) (by omega)).mono ?_
  rintro e wq ⟨R, hR, rfl, hw⟩
  have hw' := hw.symm; clear hw; subst hw'
  obtain ⟨T, hT⟩ : ∃ T, U + R = T := ⟨_, rfl⟩
  have hTi : (U : Int) + (R : Int) = (T : Int) := by omega
  have hT64 : T ≤ 64 := by omega
  have hwL : B.width L ≤ T := by rw [HU.out]; omega
  clear hT
  obtain ⟨P, eP⟩ : ∃ P, P = B.pack T L := ⟨_, rfl⟩
  have hpL : B.pck L (T : Int) = (P, 0) := by rw [eP]; exact B.pck_ok hT64 hwL
  have hPn : P.length = B.size L.length T := by rw [eP, B.pack_len]
  obtain ⟨S, hS⟩ : ∃ S, S = L.length * T := ⟨_, rfl⟩
  have hSi : (L.length : Int) * (T : Int) = (S : Int) := by rw [hS]; simp
  have hSm : S ≤ 60 * 64 := by rw [hS]; exact Nat.mul_le_mul hLl hT64
  have hs1 : S ≤ 8 * P.length := by rw [hPn, hS]; exact B.size_le _ _
  have hs2 : 8 * P.length < S + 8 := by rw [hPn, hS]; exact B.size_lt _ _
  have hPm : P.length ≤ 480 := by omega
  have htail : B.unp (P ++ [X]) (L.length : Int) (T : Int) = ([], 11) := unp_tail hT64 (by omega) (by simp; omega)
  have HPn : Hid (P.length = B.size L.length T) := hPn
  have HS : Hid (S = L.length * T) := hS
  have HpL : Hid (B.pck L (T : Int) = (P, 0)) := hpL
  have HTail : Hid (B.unp (P ++ [X]) (L.length : Int) (T : Int) = ([], 11)) := htail
  clear eP hpL hPn hS htail hwL
  go_wp2_with fail
  refine (pack_is p0 _ c0 L _ _ rfl (HLB.out.below X4) HL64.out (by omega) (by omega) (by omega) _ _ HpL.out).mono ?_
  rintro e w5 ⟨v5, rfl, hv5, hx5⟩
  obtain ⟨ap, cp, rfl, hBp⟩ := hv5
  have X5 : Ex w w5 := X4.trans hx5
  have HBp : Hid (Byt w5 ap cp P) := hBp
  have hcp := hBp.1
  have hcpm := hBp.2.1
  clear hBp X4 hx5
  go_wp2_with (first
    | (refine wpList_build_own rfl 37 rfl 0 [] rfl (by decide) (fun _ => by kernel_rfl) w5.heap.size (Nat.le_refl _) ?_; intro g37 w37 ho37 hx37)
    | (at_builtin; refine wpList_append_byt rfl (.tmp 37) (.tmp 38) rfl w5.heap.size _ [] rfl ho37 _ _ _ P rfl rfl (HBp.out.below hx37) (by simp; omega) (Ex.size hx37) ?_; intro v39 w39 ho39 hg39; have X39 : Ex w5 w39 := step_below0 hx37 (Ex.size hx37) ho37 hg39; clear hg39; rw [List.nil_append] at ho39)
    | (at_builtin; refine wpList_append_byt rfl (.tmp 39) (.tmp 41) rfl w5.heap.size _ P rfl (World.ownsRow.alloc ho39 _) _ _ _ [X] rfl rfl (Byt.laid w39 [X] (by simp)) (by simp; omega) (by have := Ex.size X39; simp; omega) ?_; intro v42 w42 ho42 hg42; have X42 : Ex w5 w42 := step_below0 (Below.alloc X39 (Ex.size X39) _) (by have := Ex.size X39; simp; omega) (World.ownsRow.alloc ho39 _) hg42; clear hg42))
  obtain ⟨a42, c42, rfl, hB42⟩ := ho42.byt
  refine (unpack_is a42 _ c42 (P ++ [X]) _ _ _ (by simp) hB42 (by simp; omega) (by omega) (by omega) (by omega) (by omega) _ _ HTail.out).mono ?_
  rintro e w6 ⟨v6, rfl, hv6, hx6⟩
  have X6 : Ex w5 w6 := X42.trans hx6
  clear hv6 hx6 ho42 hB42 X42 ho39 X39 ho37 hx37
  by_cases hP0 : P.length = 0
  · have hp0 : ((P.length : Int) == 0) = true := by rw [hP0]; rfl
    go_wp2_with fail
    refine (known_any _).mono ?_
    rintro e w7 ⟨rfl, hx7⟩
    go_wp2
    go_ret
    exact ⟨rfl, (X5.trans X6).trans hx7⟩
  · have hp0 : ((P.length : Int) == 0) = false := by simp only [beq_eq_false_iff_ne, ne_eq]; omega
    obtain ⟨z, hz⟩ : ∃ z, P.length = z + 1 := ⟨P.length - 1, by omega⟩
    have hzi : (P.length : Int) - 1 = (z : Int) := by omega
    have hzc : (z : Int) ≤ (cp : Int) := by omega
    have hcut : B.unp (P.take z) (L.length : Int) (T : Int) = ([], 10) := unp_end hT64 (by omega) (by have := HPn.out; simp; omega)
    have HCut : Hid (B.unp (P.take z) (L.length : Int) (T : Int) = ([], 10)) := hcut
    have hzl : z = (P.take z).length := by simp; omega
    have HZl : Hid (z = (P.take z).length) := hzl
    have HZ : Hid (P.length = z + 1) := hz
    have hz1 : z < P.length := by omega
    have hz2 : P.length ≤ z + 1 := by omega
    clear hcut hzl hz hP0
    obtain ⟨sp, hsp⟩ : ∃ sp, 8 * P.length = S + sp := ⟨8 * P.length - S, by omega⟩
    have hspi : 8 * (P.length : Int) - (S : Int) = (sp : Int) := by omega
    have HSp : Hid (8 * P.length = S + sp) := hsp
    have hsp8 : sp < 8 := by omega
    clear hsp
    have hcpi : cp ≤ 9223372036854775807 := by unfold maxLen at hcpm; omega
    go_wp2_with fail
    refine (unpack_is ap _ cp (P.take z) _ _ _ HZl.out ((HBp.out.below X6).take (by omega)) (by simp; omega) (by omega) (by omega) (by omega) (by omega) _ _ HCut.out).mono ?_
    rintro e w7 ⟨v7, rfl, hv7, hx7⟩
    have X7 : Ex w5 w7 := X6.trans hx7
    clear hv7 hx7 X6
    by_cases hs0 : sp = 0
    · have hsz : ((sp : Int) == 0) = true := by simp; omega
      go_wp2_with fail
      refine (known_any _).mono ?_
      rintro e w8 ⟨rfl, hx8⟩
      go_wp2
      go_ret
      exact ⟨rfl, (X5.trans X7).trans hx8⟩
    · have hsz : ((sp : Int) == 0) = false := by simp; omega
      obtain ⟨y, hy⟩ : ∃ y, y = X.toNat % sp := ⟨_, rfl⟩
      have hyi : (X.toNat : Int) % (sp : Int) = (y : Int) := by rw [hy]; simp
      have hyl : y < sp := by rw [hy]; exact Nat.mod_lt _ (by omega)
      obtain ⟨t, ht⟩ : ∃ t, 8 + y = t + sp := ⟨8 + y - sp, by omega⟩
      have hti : (8 : Int) - (sp : Int) + (y : Int) = (t : Int) := by omega
      have ht8 : t < 8 := by omega
      have HT8 : Hid (8 + y = t + sp) := ht
      clear hy ht
      have hXl := X.toNat_lt
      go_wp2_with (first
        | (refine wpList_build_own rfl 80 rfl 0 [] rfl (by decide) (fun _ => by kernel_rfl) w7.heap.size (Nat.le_refl _) ?_; intro g80 w80 ho80 hx80)
        | (at_builtin; refine wpList_append_byt rfl (.tmp 80) (.tmp 81) rfl w7.heap.size _ [] rfl ho80 _ _ _ P rfl rfl ((HBp.out.below X7).below hx80) (by simp; omega) (Ex.size hx80) ?_; intro v82 w82 ho82 hg82; have X82 : Ex w7 w82 := step_below0 hx80 (Ex.size hx80) ho80 hg82; clear hg82; rw [List.nil_append] at ho82))
      obtain ⟨g, cap, rfl, hgb, hgs, hcap, hcapm⟩ := Own_form ho82 (by omega)
      have ho' : w82.ownsRow w7.heap.size 5 1 (.slice (some ⟨g, 0, none⟩) P.length cap) P.length (cs P) := ho82
      have hcC : w82.cell? ⟨g, z, none⟩ = some (.int .u8 (M.bAt P z)) := by
        rw [World.ownsRow.cellAt ho' z (by omega)]
        simp [cs, M.bAt, hz1]
      have hfC : w82.frozen? ⟨g, z, none⟩ = false := World.ownsRow.frozenAt ho' _
      have hoB := M.bAt_lt P z
      obtain ⟨N, hN⟩ : ∃ N : UInt8, N = UInt8.ofNat (M.bAt P z ||| 2 ^ t) := ⟨_, rfl⟩
      have hNt : N.toNat = M.bAt P z ||| 2 ^ t := by rw [hN, UInt8.toNat_ofNat', Nat.mod_eq_of_lt (or_lt _ _ hoB ht8)]
      have hnew : Own (w82.setCell ⟨g, z, none⟩ (.int .u8 (bits .or .u8 (M.bAt P z : Int) (2 ^ t % 256)))) w7.heap.size (.slice (some ⟨g, 0, none⟩) P.length cap) (P.set z N) := by
        have h := (World.ownsRow.stored ho' z (.int .u8 (bits .or .u8 (M.bAt P z : Int) (2 ^ t % 256)))).1
        rw [or_bit _ _ hoB ht8] at h ⊢
        show World.ownsRow _ _ _ _ _ _ _
        rw [List.length_set]
        have e : cs (P.set z N) = (cs P).set z (.int .u8 ((M.bAt P z ||| 2 ^ t : Nat) : Int)) := by
          simp only [cs, List.map_set, hNt]
        rw [e]
        exact h
      have hform : B.unp (P.set z N) (L.length : Int) (T : Int) = ([], 12) := by
        refine unp_left hT64 (by omega) (by rw [List.length_set]; exact HPn.out) ?_
        refine B.left_true (p := 8 * z + t) (by rw [← HS.out]; have := HSp.out; have := HZ.out; have := HT8.out; omega) (by rw [List.length_set]; have := HZ.out; omega) ?_
        have hq : (8 * z + t) / 8 = z := by omega
        have hr : (8 * z + t) % 8 = t := by omega
        have hb := bit8_set P (8 * z + t) (by omega) N (by rw [hq, hr]; exact hNt) (8 * z + t)
        rw [hq] at hb
        rw [hb]; simp
      have HForm : Hid (B.unp (P.set z N) (L.length : Int) (T : Int) = ([], 12)) := hform
      have HNew : Hid (Own (w82.setCell ⟨g, z, none⟩ (.int .u8 (bits .or .u8 (M.bAt P z : Int) (2 ^ t % 256)))) w7.heap.size (.slice (some ⟨g, 0, none⟩) P.length cap) (P.set z N)) := hnew
      have X83 : Ex w7 (w82.setCell ⟨g, z, none⟩ (.int .u8 (bits .or .u8 (M.bAt P z : Int) (2 ^ t % 256)))).drew := (Below.setCell X82 (p := ⟨g, z, none⟩) hgb _).drew
      clear hform hnew hNt hN ho' ho82 ho80 hx80
      go_big_region
      obtain ⟨wZ, hwZ⟩ : ∃ wZ, (w82.setCell ⟨g, z, none⟩ (.int .u8 (bits .or .u8 (M.bAt P z : Int) (2 ^ t % 256)))).drew = wZ := ⟨_, rfl⟩
      have hBZ : Byt wZ (some ⟨g, 0, none⟩) cap (P.set z N) := by
        rw [← hwZ]
        obtain ⟨a', cap', hv, hb⟩ := HNew.out.byt
        simp only [Value.slice.injEq] at hv
        obtain ⟨rfl, _, rfl⟩ := hv
        exact hb
      rw [hwZ] at X83 ⊢
      have HBZ : Hid (Byt wZ (some ⟨g, 0, none⟩) cap (P.set z N)) := hBZ
      clear hBZ hwZ HNew hcC hfC
      go_wp2_with fail
      refine (unpack_is (some ⟨g, 0, none⟩) _ cap (P.set z N) _ _ _ (by rw [List.length_set]) HBZ.out (by rw [List.length_set]; omega) (by omega) (by omega) (by omega) (by omega) _ _ HForm.out).mono ?_
      rintro e w9 ⟨v9, rfl, hv9, hx9⟩
      clear hv9
      go_wp2_with fail
      refine (known_any _).mono ?_
      rintro e w10 ⟨rfl, hx10⟩
      go_wp2
      go_ret
      exact ⟨rfl, (((X5.trans X7).trans X83).trans hx9).trans hx10⟩

theorem walk (p0 : Option Addr) (c0 : Nat) (l0 : List Nat) (a1 : Int) (a2 : Int) (w : World) (b0 : Rd n64 w p0 c0 l0) (m0 : ∀ x ∈ l0, x < 18446744073709551616) (w0 : l0.length ≤ 17592186043904) (w1 : -9223372036854775808 ≤ a1 ∧ a1 ≤ 9223372036854775807) (w2 : 0 ≤ a2 ∧ a2 ≤ 255) :
    Calls Try.prog 8 #[.slice p0 l0.length c0, .int .i64 a1, .int .u8 a2] w fun e w' => e = .returned (.bool true) ∧ Below w.heap.size w w' := by
  obtain ⟨X, rfl⟩ : ∃ X : UInt8, a2 = (X.toNat : Int) := ⟨UInt8.ofNat a2.toNat, by simp; omega⟩
  exact walk0 p0 c0 l0 a1 X w b0 m0 w0 w1.1 w1.2
end Go.Proofs.Ytljfbgnefmikpaa.bitsCuts
