/-
  The walk of ZoneJoins.
-/
import Derived.Test.YtnfbmffafclaaaaZoneBackWalk
import Derived.Test.YtnfbmffafclaaaaZcut
import Derived.Test.YtnfbmffafclaaaaZput
namespace Go.Proofs.Ytnfbmffafclaaaa
open Go.RowKit
theorem Z.build_text (k : Int) {l : List Cel} (h : ∀ c ∈ l, c.s.length ≤ 41) : (Z.build k l).ms.length ≤ 41 ∧ (Z.build k l).xs.length ≤ 41 :=
  Z.fold_text (k := k) (B := 41) l (⟨k, l.length, 0, 0, 0, [], []⟩, true) (by simp) (by simp) h
end Go.Proofs.Ytnfbmffafclaaaa
namespace Go.Proofs.Ytnfbmffafclaaaa.zoneJoins
open Go.RowKit Go.Proofs.Ytnfbmffafclaaaa
set_option linter.unusedVariables false
set_option linter.unusedSimpArgs false
set_option maxHeartbeats 8000000 in
set_option maxRecDepth 100000 in
theorem walk (a0 : Int) (p1 : Option Addr) (c1 : Nat) (l1 : List Cel) (a2 : Int) (a3 : Int) (w : World) (w0 : -9223372036854775808 ≤ a0 ∧ a0 ≤ 9223372036854775807) (b1 : RdC w p1 c1 l1) (m1 : ∀ c ∈ l1, CelOk c) (w2 : -9223372036854775808 ≤ a2 ∧ a2 ≤ 9223372036854775807) (w3 : -9223372036854775808 ≤ a3 ∧ a3 ≤ 9223372036854775807) :
    Calls Try.prog 5 #[.int .i64 a0, .slice p1 l1.length c1, .int .i64 a2, .int .i64 a3] w fun e w' => e = .returned (.bool true) ∧ Below w.heap.size w w' := by
  obtain ⟨w01, w02⟩ := w0
  obtain ⟨w21, w22⟩ := w2
  obtain ⟨w31, w32⟩ := w3
  have HB1 : Hid (RdC w p1 c1 l1) := b1
  have hfl := Z.few_len l1
  have hft := @Z.few_text l1
  obtain ⟨base, hbase⟩ : ∃ base, base = w.heap.size := ⟨_, rfl⟩
  have HBa : Hid (base = w.heap.size) := hbase
  clear b1 m1
  go_enter Try.func5, Try.ntmps5
  go_wp2_with fail
  refine (few_is p1 _ c1 l1 _ rfl HB1.out).mono ?_
  rintro e wa ⟨va, rfl, hoa, hxa⟩
  rw [← hbase] at hoa
  clear hbase
  obtain ⟨C, hC⟩ : ∃ C, C = Z.few l1 := ⟨_, rfl⟩
  rw [← hC] at hoa hfl hft
  clear hC
  obtain ⟨n, hn⟩ : ∃ n, n = C.length := ⟨_, rfl⟩
  obtain ⟨aC, cC, hv, hrC⟩ := hoa.rd
  rw [← hn] at hv
  subst hv
  have hcC := hrC.1
  have hcC2 := hrC.2.1
  unfold maxLen at hcC2
  have hn40 : n ≤ 40 := by omega
  have hncC : n ≤ cC := by omega
  have HnoneC : Hid (aC = none → cC = 0) := hrC.2.2.1
  have hform : 0 < n → ∃ bC, aC = some ⟨bC, 0, none⟩ ∧ base ≤ bC := fun h0 => by
    rcases hoa.2 with ⟨h1, h2⟩ | ⟨g, cap, cur, h1, h2, _⟩
    · omega
    · simp only [Value.slice.injEq] at h1; exact ⟨g, h1.1, h2⟩
  have HForm : Hid (0 < n → ∃ bC, aC = some ⟨bC, 0, none⟩ ∧ base ≤ bC) := hform
  have HL0 : Hid (n = C.length ∧ (∀ c ∈ C, c.s.length ≤ 41) ∧ (∀ (j : Nat) (c : Cel), j < 0 → C[j]? = some c → c.k = 2 → c.s.length ≤ 40)) := ⟨hn, hft, fun j c h => by omega⟩
  have HO0 : Hid (OwnC wa base (.slice aC n cC) C) := hoa
  have HX0 : Hid (Below base w wa) := (by have h := hxa; rw [HBa.out]; exact h : Below base w wa)
  clear hoa hxa hrC hcC hfl hft hn hform
  go_wp2_with fail
  refine (within_any _ 1 _ (by omega) (by omega) (by omega) (by omega)).mono ?_
  rintro e wq ⟨r, hr1, rfl, hw'⟩
  have hw'' := hw'.symm
  clear hw'
  subst hw''
  obtain ⟨K, hK⟩ : ∃ K : Int, K = 1 + (r : Int) := ⟨_, rfl⟩
  have hKi : (1 : Int) + (r : Int) = K := hK.symm
  have hKb : 1 ≤ K ∧ K ≤ 2 := by omega
  have HKk : Hid (Z.Kind K) := (by unfold Z.Kind; omega : Z.Kind K)
  clear hK
  go_wp2_with fail
  go_loopw [9] (fun iv wr => ∃ (i : Nat) (L : List Cel), i ≤ n ∧ iv = .int .i64 i ∧ Hid (n = L.length ∧ (∀ c ∈ L, c.s.length ≤ 41) ∧ (∀ (j : Nat) (c : Cel), j < i → L[j]? = some c → c.k = 2 → c.s.length ≤ 40)) ∧ Hid (OwnC wr base (.slice aC n cC) L) ∧ Hid (Below base w wr)) (fun iv wr => n - (intOf iv).toNat)
  case atStart => exact ⟨0, C, by omega, rfl, HL0, HO0, HX0⟩
  case round =>
    obtain ⟨i, L, hin, rfl, HL, HO, HX⟩ := hrel
    clear HL0 HO0 HX0
    by_cases hlt : i < n
    · have tdi : decide ((i : Int) < (n : Int)) = true := by simp; omega
      have hii : (i : Int) < (n : Int) := by omega
      obtain ⟨bC, haC, hbC⟩ := HForm.out (by omega)
      subst haC
      obtain ⟨c, hc⟩ : ∃ c, L[i]? = some c := ⟨_, List.getElem?_eq_getElem (by have := HL.out.1; omega)⟩
      obtain ⟨aL, cL, hv, hrL⟩ := HO.out.rd
      simp only [Value.slice.injEq] at hv
      obtain ⟨rfl, hvn, rfl⟩ := hv
      clear hvn
      obtain ⟨b', o', he, e0, e1, e2, e3⟩ := hrL.2.2.2 i c hc
      simp only [Option.some.injEq, Addr.mk.injEq, and_true] at he
      obtain ⟨rfl, rfl⟩ := he
      simp only [Nat.zero_add] at e0 e1 e2 e3
      have hfz : wr.frozen? ⟨bC, i * 4 + 3, none⟩ = false := OwnC.frozen (i * 4 + 3) HO.out HL.out.1
      have hss := str_size c.s
      by_cases h2 : c.k = 2
      · have t2 : (c.k == 2) = true := by simp [h2]
        by_cases h40 : 40 < c.s.length
        · have t4 : decide (40 < (c.s.length : Int)) = true := by simp; omega
          have t5 : decide (40 < c.s.length) = true := by simp; omega
          have hcut := str_cut c.s 40
          have HO2 : Hid (OwnC (wr.setCell ⟨bC, i * 4 + 3, none⟩ (.string (str (c.s.take 40)))) base (.slice (some ⟨bC, 0, none⟩) n cC) (L.set i { c with s := c.s.take 40 })) := HO.out.set HL.out.1 hc _
          have HX2 : Hid (Below base w (wr.setCell ⟨bC, i * 4 + 3, none⟩ (.string (str (c.s.take 40))))) := Below.setCell HX.out (p := ⟨bC, i * 4 + 3, none⟩) hbC _
          have HL2 : Hid (n = (L.set i { c with s := c.s.take 40 }).length ∧ (∀ d ∈ L.set i { c with s := c.s.take 40 }, d.s.length ≤ 41) ∧ (∀ (j : Nat) (d : Cel), j < i + 1 → (L.set i { c with s := c.s.take 40 })[j]? = some d → d.k = 2 → d.s.length ≤ 40)) := ⟨by rw [List.length_set]; exact HL.out.1, fun d hd => by
              rcases List.mem_or_eq_of_mem_set hd with h | h
              · exact HL.out.2.1 d h
              · rw [h]; simp; omega, fun j d hj hd hk => by
              by_cases hji : j = i
              · subst hji
                rw [List.getElem?_set_self (by have := HL.out.1; omega)] at hd
                simp at hd
                rw [← hd]
                simp; omega
              · rw [List.getElem?_set_ne (Ne.symm hji)] at hd
                exact HL.out.2.2 j d (by omega) hd hk⟩
          clear hrL
          go_wp2_with fail
          go_roundw
          case rel => exact ⟨i + 1, _, by omega, by go_num, HL2, HO2, HX2⟩
          case measure => simp [intOf]; omega
        · have t4 : decide (40 < (c.s.length : Int)) = false := by simp; omega
          have t5 : decide (40 < c.s.length) = false := by simp; omega
          have HL2 : Hid (n = L.length ∧ (∀ c ∈ L, c.s.length ≤ 41) ∧ (∀ (j : Nat) (c : Cel), j < i + 1 → L[j]? = some c → c.k = 2 → c.s.length ≤ 40)) := ⟨HL.out.1, HL.out.2.1, fun j d hj hd hk => by
            by_cases hji : j = i
            · subst hji; rw [hc] at hd; simp at hd; subst hd; omega
            · exact HL.out.2.2 j d (by omega) hd hk⟩
          clear hrL
          go_wp2_with fail
          go_roundw
          case rel => exact ⟨i + 1, L, by omega, by go_num, HL2, HO, HX⟩
          case measure => simp [intOf]; omega
      · have t2 : (c.k == 2) = false := by simp [h2]
        have HL2 : Hid (n = L.length ∧ (∀ c ∈ L, c.s.length ≤ 41) ∧ (∀ (j : Nat) (c : Cel), j < i + 1 → L[j]? = some c → c.k = 2 → c.s.length ≤ 40)) := ⟨HL.out.1, HL.out.2.1, fun j d hj hd hk => by
          by_cases hji : j = i
          · subst hji; rw [hc] at hd; simp at hd; subst hd; exact absurd hk h2
          · exact HL.out.2.2 j d (by omega) hd hk⟩
        clear hrL
        go_wp2_with fail
        go_roundw
        case rel => exact ⟨i + 1, L, by omega, by go_num, HL2, HO, HX⟩
        case measure => simp [intOf]; omega
    · have tdi : decide ((i : Int) < (n : Int)) = false := by simp; omega
      obtain rfl : i = n := by omega
      rename World => wl
      obtain ⟨aL, cL, hv, hrL⟩ := HO.out.rd
      simp only [Value.slice.injEq] at hv
      obtain ⟨rfl, hvn, rfl⟩ := hv
      clear hvn
      have HRL : Hid (RdC wl aC cC L) := hrL
      have HXl : Hid (Ex w wl) := (by have h := HX.out; rw [HBa.out] at h; exact h : Ex w wl)
      have hLt : ∀ c ∈ L, c.k = 2 → c.s.length ≤ 40 := fun c hc hk => by
        obtain ⟨j, hj⟩ := List.getElem?_of_mem hc
        exact HL.out.2.2 j c (by have := (List.getElem?_eq_some_iff.1 hj).1; have := HL.out.1; omega) hj hk
      have HLt : Hid (∀ c ∈ L, c.k = 2 → c.s.length ≤ 40) := hLt
      have HN : Hid (i = L.length) := HL.out.1
      clear hrL hLt
      go_wp2_with fail
      refine (within_any _ (i : Int) _ (by omega) (by omega) (by omega) (by omega)).mono ?_
      rintro e wq ⟨k, hk1, rfl, hw'⟩
      have hw'' := hw'.symm
      clear hw'
      subst hw''
      have hkn : k ≤ i := by omega
      go_wp2_with fail
      refine (within_any _ ((i : Int) - (k : Int)) _ (by omega) (by omega) (by omega) (by omega)).mono ?_
      rintro e wq ⟨q, hq1, rfl, hw'⟩
      have hw'' := hw'.symm
      clear hw'
      subst hw''
      obtain ⟨m, hm⟩ : ∃ m, m = k + q := ⟨_, rfl⟩
      have hmi : (k : Int) + (q : Int) = (m : Int) := by omega
      have hkm : k ≤ m := by omega
      have hmn : m ≤ i := by omega
      clear hm
      obtain ⟨z, hz⟩ : ∃ z, z = Z.build K L := ⟨_, rfl⟩
      have Hbz : Hid (Z.build K L = z) := hz.symm
      obtain ⟨X, hX⟩ : ∃ X, X = Z.build K (L.take k) := ⟨_, rfl⟩
      have HbX : Hid (Z.build K (L.take k) = X) := hX.symm
      obtain ⟨Y, hY⟩ : ∃ Y, Y = Z.build K (L.drop k) := ⟨_, rfl⟩
      have HbY : Hid (Z.build K (L.drop k) = Y) := hY.symm
      obtain ⟨M, hM⟩ : ∃ M, M = Z.build K ((L.drop k).take (m - k)) := ⟨_, rfl⟩
      have HbM : Hid (Z.build K ((L.drop k).take (m - k)) = M) := hM.symm
      obtain ⟨V, hV⟩ : ∃ V, V = Z.build K (L.drop m) := ⟨_, rfl⟩
      have HbV : Hid (Z.build K (L.drop m) = V) := hV.symm
      have ht41 := HL.out.2.1
      have hzb := Z.build_text K (l := L) ht41
      have hXb := Z.build_text K (l := L.take k) (fun c hc => ht41 c (List.mem_of_mem_take hc))
      have hYb := Z.build_text K (l := L.drop k) (fun c hc => ht41 c (List.mem_of_mem_drop hc))
      have hMb := Z.build_text K (l := (L.drop k).take (m - k)) (fun c hc => ht41 c (List.mem_of_mem_drop (List.mem_of_mem_take hc)))
      have hVb := Z.build_text K (l := L.drop m) (fun c hc => ht41 c (List.mem_of_mem_drop hc))
      rw [← hz] at hzb
      rw [← hX] at hXb
      rw [← hY] at hYb
      rw [← hM] at hMb
      rw [← hV] at hVb
      have Hmz : Hid (z.ms.length ≤ maxLen) := (by have := hzb.1; unfold maxLen; omega : z.ms.length ≤ maxLen)
      have Hxz : Hid (z.xs.length ≤ maxLen) := (by have := hzb.2; unfold maxLen; omega : z.xs.length ≤ maxLen)
      have HmX : Hid (X.ms.length ≤ maxLen) := (by have := hXb.1; unfold maxLen; omega : X.ms.length ≤ maxLen)
      have HxX : Hid (X.xs.length ≤ maxLen) := (by have := hXb.2; unfold maxLen; omega : X.xs.length ≤ maxLen)
      have HmY : Hid (Y.ms.length ≤ maxLen) := (by have := hYb.1; unfold maxLen; omega : Y.ms.length ≤ maxLen)
      have HxY : Hid (Y.xs.length ≤ maxLen) := (by have := hYb.2; unfold maxLen; omega : Y.xs.length ≤ maxLen)
      have HmM : Hid (M.ms.length ≤ maxLen) := (by have := hMb.1; unfold maxLen; omega : M.ms.length ≤ maxLen)
      have HxM : Hid (M.xs.length ≤ maxLen) := (by have := hMb.2; unfold maxLen; omega : M.xs.length ≤ maxLen)
      have HmV : Hid (V.ms.length ≤ maxLen) := (by have := hVb.1; unfold maxLen; omega : V.ms.length ≤ maxLen)
      have HxV : Hid (V.xs.length ≤ maxLen) := (by have := hVb.2; unfold maxLen; omega : V.xs.length ≤ maxLen)
      have hLn := HN.out
      have HJ1 : Hid (Z.join X Y = (z, 0)) := (by
        rw [hX, hY, hz, Z.join_build HKk.out (by simp; omega) (fun c hc => HLt.out c (List.mem_of_mem_take hc)) (fun c hc => HLt.out c (List.mem_of_mem_drop hc)), List.take_append_drop] : Z.join X Y = (z, 0))
      have hdd : (L.drop k).drop (m - k) = L.drop m := by rw [List.drop_drop]; congr 1; omega
      have HJ2 : Hid (Z.join M V = (Y, 0)) := (by
        rw [hM, hV, hY, Z.join_build HKk.out (by simp; omega) (fun c hc => HLt.out c (List.mem_of_mem_drop (List.mem_of_mem_take hc))) (fun c hc => HLt.out c (List.mem_of_mem_drop hc)), ← hdd, List.take_append_drop] : Z.join M V = (Y, 0))
      have Hrz : Hid (Z.right z = true) := (by rw [hz]; exact Z.build_right HKk.out (by omega) HLt.out : Z.right z = true)
      have hzk := Z.build_k HKk.out L
      have hzu := Z.build_nulls HKk.out L
      rw [← hz] at hzk hzu
      have HzK : Hid (z.r = (i : Int)) := (by rw [hzk.2]; omega : z.r = (i : Int))
      have HzU : Hid (z.u = (Z.nulls K L : Int)) := hzu
      have HIn1 : Hid (K = 1 → ∀ c ∈ L, c.k = 1 → z.mn ≤ c.n ∧ c.n ≤ z.mx) := (fun h c hc hk => by rw [hz, h]; exact Z.build_in1 hc hk : K = 1 → ∀ c ∈ L, c.k = 1 → z.mn ≤ c.n ∧ c.n ≤ z.mx)
      have HIn2 : Hid (K = 2 → ∀ c ∈ L, c.k = 2 → T.lt c.s z.ms = false ∧ T.lt z.xs c.s = false) := (fun h c hc hk => by rw [hz, h]; exact Z.build_in2 hc hk : K = 2 → ∀ c ∈ L, c.k = 2 → T.lt c.s z.ms = false ∧ T.lt z.xs c.s = false)
      have HkT : Hid (k = (L.take k).length) := (by simp; omega : k = (L.take k).length)
      have HkD : Hid (i - k = (L.drop k).length) := (by simp; omega : i - k = (L.drop k).length)
      have HkM : Hid (m - k = ((L.drop k).take (m - k)).length) := (by simp; omega : m - k = ((L.drop k).take (m - k)).length)
      have HkE : Hid (i - m = (L.drop m).length) := (by simp; omega : i - m = (L.drop m).length)
      have hLc : L.length ≤ cC := by omega
      have hcCm : cC ≤ maxLen := by unfold maxLen; omega
      obtain ⟨aD, cD, hrD, hD⟩ := slice_rest aC i cC L k HN.out (by omega) hLc hcCm HnoneC.out
      obtain ⟨aE, cE, hrE, hE⟩ := slice_rest aC i cC L m HN.out (by omega) hLc hcCm HnoneC.out
      obtain ⟨aM, cM, hrM, hMr⟩ := slice_cells aC i cC L k m HN.out hkm (by omega) hLc hcCm HnoneC.out
      have HrD : Hid (∀ w, (Instr.sliceAt 46 (.slice aC i cC) (some (.int .i64 k)) none none).run Try.prog w = .ok (.slice aD (i - k) cD) w) := hrD
      have HrE : Hid (∀ w, (Instr.sliceAt 46 (.slice aC i cC) (some (.int .i64 m)) none none).run Try.prog w = .ok (.slice aE (i - m) cE) w) := hrE
      have HrM : Hid (∀ w, (Instr.sliceAt 46 (.slice aC i cC) (some (.int .i64 k)) (some (.int .i64 m)) none).run Try.prog w = .ok (.slice aM (m - k) cM) w) := hrM
      have HDf : Hid (∀ w, RdC w aC cC L → RdC w aD cD (L.drop k)) := hD
      have HEf : Hid (∀ w, RdC w aC cC L → RdC w aE cE (L.drop m)) := hE
      have HMf : Hid (∀ w, RdC w aC cC L → RdC w aM cM ((L.drop k).take (m - k))) := hMr
      clear hz hX hY hM hV ht41 hzb hXb hYb hMb hVb hdd hzk hzu hLn hLc hcCm hrD hrE hrM hD hE hMr
      go_wp2_with fail
      refine (z_build K aC _ cC L _ HN.out HRL.out).mono ?_
      rintro e w6 ⟨rfl, hx6⟩
      rw [Hbz.out]
      have hxa6 : Ex w6 (w6.alloc (zb z 23)) := (Below.refl _ _).alloc (Nat.le_refl _) _
      obtain ⟨w7, hw7⟩ : ∃ w7, w7 = w6.alloc (zb z 23) := ⟨_, rfl⟩
      have HX7 : Hid (Ex wl w7) := (by rw [hw7]; exact hx6.trans hxa6 : Ex wl w7)
      have HA7 : Hid (ZAt w7 w6.heap.size z 23) := (by rw [hw7]; exact ZAt.new w6 z 23 : ZAt w7 w6.heap.size z 23)
      have HRL7 : Hid (RdC w7 aC cC L) := HRL.out.below HX7.out
      have HT : Hid (RdC w7 aC cC (L.take k)) := HRL7.out.take k
      have HD : Hid (RdC w7 aD cD (L.drop k)) := HDf.out w7 HRL7.out
      have HW7 : Hid (w6.alloc (zb z 23) = w7) := hw7.symm
      clear hx6 hxa6 hw7
      simp only [zv]
      go_wp2_with fail
      have e7 := HW7.out
      rw [e7]
      clear e7
      have hre := Ex.refl
      refine Rg.wp_rows_zone (t := 23) [.inl (Value.int .i64 K), .inl (Value.slice aC i cC), .inl (Value.int .i64 (k : Int)), .inl (Value.slice aC k cC), .inl (zv X), .inl (Value.int .i64 K), .inl (Value.slice aC i cC), .inl (Value.int .i64 (k : Int)), .inl (Value.slice aD (i - k) cD), .inl (zv Y), .inl (.tuple #[zv z, .int .i64 ((0 : Nat) : Int)]), .inl (.tuple #[zv z, .int .i64 ((0 : Nat) : Int)]), .inl (zv z), .inl (Value.int .i64 ((0 : Nat) : Int)), .inr (fun _ _ => True), .inr (fun _ _ => True), .inl (Value.int .i64 ((0 : Nat) : Int))] 14 15 13 z 205 (by kernel_rfl) zvar23 rfl (by kernel_rfl) _ _ (.tmp 85) rfl rfl rfl rfl rfl rfl rfl rfl (by kernel_rfl) rfl rfl rfl ?st (by kernel_rfl) ?goods ?fin
      case st => exact ⟨fun _ _ _ _ _ => trivial, fun _ _ _ _ _ => trivial, trivial⟩
      case goods =>
        refine Rg.goodsB_cons (.inr <| Rg.good_move hre rfl rfl rfl) ?_
        refine Rg.goodsB_cons (.inr <| Rg.good_move hre rfl rfl rfl) ?_
        refine Rg.goodsB_cons (.inr <| Rg.good_move hre rfl rfl rfl) ?_
        refine Rg.goodsB_cons (.inr <| Rg.good_slice0 hre rfl rfl rfl rfl (fun w => slice_head aC i cC k w (by omega) (by unfold maxLen; omega))) ?_
        refine Rg.goodsB_cons (.inr <| Rg.good_call2 Try.func18 (by kernel_rfl) rfl rfl rfl (by rintro u u2 wx hC rfl rfl; have hb := z_build K aC _ cC (L.take k) wx HkT.out (HT.out.below hC); rw [HbX.out] at hb; exact ex_row hb hC)) ?_
        refine Rg.goodsB_cons (.inr <| Rg.good_move hre rfl rfl rfl) ?_
        refine Rg.goodsB_cons (.inr <| Rg.good_move hre rfl rfl rfl) ?_
        refine Rg.goodsB_cons (.inr <| Rg.good_move hre rfl rfl rfl) ?_
        refine Rg.goodsB_cons (.inr <| Rg.good_slice1 hre rfl rfl rfl rfl HrD.out) ?_
        refine Rg.goodsB_cons (.inr <| Rg.good_call2 Try.func18 (by kernel_rfl) rfl rfl rfl (by rintro u u2 wx hC rfl rfl; have hb := z_build K aD _ cD (L.drop k) wx HkD.out (HD.out.below hC); rw [HbY.out] at hb; exact ex_row hb hC)) ?_
        refine Rg.goodsB_cons (.inr <| Rg.good_call2 Try.func14 (by kernel_rfl) rfl rfl rfl (by rintro u u2 wx hC rfl rfl; exact ex_row (z_join X Y wx HmX.out HxX.out HmY.out HxY.out (Z.W3.of_join HJ1.out).1 (Z.W3.of_join HJ1.out).2 z 0 HJ1.out) hC)) ?_
        refine Rg.goodsB_cons (.inr <| Rg.good_move hre rfl rfl rfl) ?_
        refine Rg.goodsB_cons (.inr <| Rg.good_extract hre rfl rfl rfl (fun w => by go_simp)) ?_
        refine Rg.goodsB_cons (.inr <| Rg.good_extract hre rfl rfl rfl (fun w => by go_simp)) ?_
        refine Rg.goodsB_cons (.inl rfl) ?_
        refine Rg.goodsB_cons (.inl rfl) ?_
        refine Rg.goodsB_cons (.inr <| Rg.good_assign hre rfl rfl rfl) ?_
        exact Rg.goodsB_nil
      case fin =>
        intro w8 g13 hx8 hz13
        simp only [Rg.later, Act.put, List.setIfInBounds_toArray, List.set_cons_succ, List.set_cons_zero]
        intro v13 _ hv13
        simp at hv13
        subst hv13
        have HX8 : Hid (Ex wl w8) := HX7.out.trans hx8
        have HRL8 : Hid (RdC w8 aC cC L) := HRL7.out.below hx8
        have HM : Hid (RdC w8 aM cM ((L.drop k).take (m - k))) := HMf.out w8 HRL8.out
        have HE : Hid (RdC w8 aE cE (L.drop m)) := HEf.out w8 HRL8.out
        have HA8 : Hid (ZAt w8 w6.heap.size z 23) := HA7.out.below hx8
        have HB8 : Hid (ZAt w8 g13 z 23) := hz13
        clear hx8 hz13 HT HD
        go_wp2_with fail
        have hre := Ex.refl
        refine Rg.wp_rows_zone (t := 23) [.inl (Value.int .i64 K), .inl (Value.slice aC i cC), .inl (Value.int .i64 (k : Int)), .inl (Value.int .i64 (m : Int)), .inl (Value.slice aM (m - k) cM), .inl (zv M), .inl (Value.int .i64 K), .inl (Value.slice aC i cC), .inl (Value.int .i64 (m : Int)), .inl (Value.slice aE (i - m) cE), .inl (zv V), .inl (.tuple #[zv Y, .int .i64 ((0 : Nat) : Int)]), .inl (.tuple #[zv Y, .int .i64 ((0 : Nat) : Int)]), .inl (zv Y), .inl (Value.int .i64 ((0 : Nat) : Int)), .inr (fun _ _ => True), .inr (fun _ _ => True), .inl (Value.int .i64 ((0 : Nat) : Int))] 15 16 15 Y 205 (by kernel_rfl) zvar23 rfl (by kernel_rfl) _ _ (.tmp 100) rfl rfl rfl rfl rfl rfl rfl rfl (by kernel_rfl) rfl rfl rfl ?st (by kernel_rfl) ?goods ?fin
        case st => exact ⟨fun _ _ _ _ _ => trivial, fun _ _ _ _ _ => trivial, trivial⟩
        case goods =>
          refine Rg.goodsB_cons (.inr <| Rg.good_move hre rfl rfl rfl) ?_
          refine Rg.goodsB_cons (.inr <| Rg.good_move hre rfl rfl rfl) ?_
          refine Rg.goodsB_cons (.inr <| Rg.good_move hre rfl rfl rfl) ?_
          refine Rg.goodsB_cons (.inr <| Rg.good_move hre rfl rfl rfl) ?_
          refine Rg.goodsB_cons (.inr <| Rg.good_slice4 hre rfl rfl rfl rfl rfl HrM.out) ?_
          refine Rg.goodsB_cons (.inr <| Rg.good_call2 Try.func18 (by kernel_rfl) rfl rfl rfl (by rintro u u2 wx hC rfl rfl; have hb := z_build K aM _ cM ((L.drop k).take (m - k)) wx HkM.out (HM.out.below hC); rw [HbM.out] at hb; exact ex_row hb hC)) ?_
          refine Rg.goodsB_cons (.inr <| Rg.good_move hre rfl rfl rfl) ?_
          refine Rg.goodsB_cons (.inr <| Rg.good_move hre rfl rfl rfl) ?_
          refine Rg.goodsB_cons (.inr <| Rg.good_move hre rfl rfl rfl) ?_
          refine Rg.goodsB_cons (.inr <| Rg.good_slice1 hre rfl rfl rfl rfl HrE.out) ?_
          refine Rg.goodsB_cons (.inr <| Rg.good_call2 Try.func18 (by kernel_rfl) rfl rfl rfl (by rintro u u2 wx hC rfl rfl; have hb := z_build K aE _ cE (L.drop m) wx HkE.out (HE.out.below hC); rw [HbV.out] at hb; exact ex_row hb hC)) ?_
          refine Rg.goodsB_cons (.inr <| Rg.good_call2 Try.func14 (by kernel_rfl) rfl rfl rfl (by rintro u u2 wx hC rfl rfl; exact ex_row (z_join M V wx HmM.out HxM.out HmV.out HxV.out (Z.W3.of_join HJ2.out).1 (Z.W3.of_join HJ2.out).2 Y 0 HJ2.out) hC)) ?_
          refine Rg.goodsB_cons (.inr <| Rg.good_move hre rfl rfl rfl) ?_
          refine Rg.goodsB_cons (.inr <| Rg.good_extract hre rfl rfl rfl (fun w => by go_simp)) ?_
          refine Rg.goodsB_cons (.inr <| Rg.good_extract hre rfl rfl rfl (fun w => by go_simp)) ?_
          refine Rg.goodsB_cons (.inl rfl) ?_
          refine Rg.goodsB_cons (.inl rfl) ?_
          refine Rg.goodsB_cons (.inr <| Rg.good_assign hre rfl rfl rfl) ?_
          exact Rg.goodsB_nil
        case fin =>
          intro w9 g15 hx9 hz15
          simp only [Rg.later, Act.put, List.setIfInBounds_toArray, List.set_cons_succ, List.set_cons_zero]
          intro v15 _ hv15
          simp at hv15
          subst hv15
          have HX9 : Hid (Ex wl w9) := HX8.out.trans hx9
          have HRL9 : Hid (RdC w9 aC cC L) := HRL8.out.below hx9
          have HT : Hid (RdC w9 aC cC (L.take k)) := HRL9.out.take k
          have HYb : Hid (ZAt w9 g15 Y 23) := hz15
          have HA9 : Hid (ZAt w9 w6.heap.size z 23) := HA8.out.below hx9
          have HB9 : Hid (ZAt w9 g13 z 23) := HB8.out.below hx9
          clear hx9 hz15 HM HE
          go_wp2_with fail
          have hre := Ex.refl
          refine Rg.wp_rows_zone (t := 23) [.inl (Value.int .i64 K), .inl (Value.slice aC i cC), .inl (Value.int .i64 (k : Int)), .inl (Value.slice aC k cC), .inl (zv X), .inl (zv Y), .inl (.tuple #[zv z, .int .i64 ((0 : Nat) : Int)]), .inl (.tuple #[zv z, .int .i64 ((0 : Nat) : Int)]), .inl (zv z), .inl (Value.int .i64 ((0 : Nat) : Int)), .inr (fun _ _ => True), .inr (fun _ _ => True), .inl (Value.int .i64 ((0 : Nat) : Int))] 10 11 17 z 205 (by kernel_rfl) zvar23 rfl (by kernel_rfl) _ _ (.tmp 110) rfl rfl rfl rfl rfl rfl rfl rfl (by kernel_rfl) rfl rfl rfl ?st (by kernel_rfl) ?goods ?fin
          case st => exact ⟨fun _ _ _ _ _ => trivial, fun _ _ _ _ _ => trivial, trivial⟩
          case goods =>
            refine Rg.goodsB_cons (.inr <| Rg.good_move hre rfl rfl rfl) ?_
            refine Rg.goodsB_cons (.inr <| Rg.good_move hre rfl rfl rfl) ?_
            refine Rg.goodsB_cons (.inr <| Rg.good_move hre rfl rfl rfl) ?_
            refine Rg.goodsB_cons (.inr <| Rg.good_slice0 hre rfl rfl rfl rfl (fun w => slice_head aC i cC k w (by omega) (by unfold maxLen; omega))) ?_
            refine Rg.goodsB_cons (.inr <| Rg.good_call2 Try.func18 (by kernel_rfl) rfl rfl rfl (by rintro u u2 wx hC rfl rfl; have hb := z_build K aC _ cC (L.take k) wx HkT.out (HT.out.below hC); rw [HbX.out] at hb; exact ex_row hb hC)) ?_
            refine Rg.goodsB_cons (.inr <| Rg.good_load hre rfl rfl rfl (fun wx hC => by exact loadI_zone (HYb.out.below hC))) ?_
            refine Rg.goodsB_cons (.inr <| Rg.good_call2 Try.func14 (by kernel_rfl) rfl rfl rfl (by rintro u u2 wx hC rfl rfl; exact ex_row (z_join X Y wx HmX.out HxX.out HmY.out HxY.out (Z.W3.of_join HJ1.out).1 (Z.W3.of_join HJ1.out).2 z 0 HJ1.out) hC)) ?_
            refine Rg.goodsB_cons (.inr <| Rg.good_move hre rfl rfl rfl) ?_
            refine Rg.goodsB_cons (.inr <| Rg.good_extract hre rfl rfl rfl (fun w => by go_simp)) ?_
            refine Rg.goodsB_cons (.inr <| Rg.good_extract hre rfl rfl rfl (fun w => by go_simp)) ?_
            refine Rg.goodsB_cons (.inl rfl) ?_
            refine Rg.goodsB_cons (.inl rfl) ?_
            refine Rg.goodsB_cons (.inr <| Rg.good_assign hre rfl rfl rfl) ?_
            exact Rg.goodsB_nil
          case fin =>
            intro w10 g17 hx10 hz17
            simp only [Rg.later, Act.put, List.setIfInBounds_toArray, List.set_cons_succ, List.set_cons_zero]
            intro v17 _ hv17
            simp at hv17
            subst hv17
            have HX10 : Hid (Ex wl w10) := HX9.out.trans hx10
            have HA12 : Hid (ZAt w10 w6.heap.size z 23) := HA9.out.below hx10
            have HA13 : Hid (ZAt w10 g13 z 23) := HB9.out.below hx10
            have HA17 : Hid (ZAt w10 g17 z 23) := hz17
            clear hx10 hz17 HT
            go_wp2_with fail
            have hre := Ex.refl
            refine Rg.wp_rows [.inl (Value.int .i64 ((0 : Nat) : Int)), .inl (.bool false), .inl (.bool false), .inl (Value.int .i64 ((0 : Nat) : Int)), .inl (.bool false), .inl (.bool false), .inl (.bool false), .inl (Value.int .i64 ((0 : Nat) : Int)), .inl (.bool false), .inl (.bool false), .inl (.bool false), .inl (zv z), .inl (zv z), .inl (zv z), .inl (zv z), .inl (.bool false), .inl (.bool false), .inl (.bool false), .inl (zv z), .inl (zv z), .inl (zv z), .inl (zv z), .inl (.bool false), .inl (.bool false), .inl (.bool false), .inl (zv z), .inl (.bool true), .inl (.bool false), .inl (.bool false)] (Ex w10) Ex 205 (by kernel_rfl) rfl (by kernel_rfl) ?st hre (Ex.drew _) ?goods ?fin
            case st => exact trivial
            case goods =>
              refine Rg.goods_cons (Rg.good_move hre rfl rfl rfl) ?_
              refine Rg.goods_cons (Rg.good_bin hre rfl rfl rfl rfl (fun _ => rfl) (fun w => by simp [go_sem])) ?_
              refine Rg.goods_cons (Rg.good_move hre rfl rfl rfl) ?_
              refine Rg.goods_cons (Rg.good_move hre rfl rfl rfl) ?_
              refine Rg.goods_cons (Rg.good_bin hre rfl rfl rfl rfl (fun _ => rfl) (fun w => by simp [go_sem])) ?_
              refine Rg.goods_cons (Rg.good_pick false hre rfl rfl rfl rfl) ?_
              refine Rg.goods_cons (Rg.good_move hre rfl rfl rfl) ?_
              refine Rg.goods_cons (Rg.good_move hre rfl rfl rfl) ?_
              refine Rg.goods_cons (Rg.good_bin hre rfl rfl rfl rfl (fun _ => rfl) (fun w => by simp [go_sem])) ?_
              refine Rg.goods_cons (Rg.good_pick false hre rfl rfl rfl rfl) ?_
              refine Rg.goods_cons (Rg.good_move hre rfl rfl rfl) ?_
              refine Rg.goods_cons (Rg.good_load hre rfl rfl rfl (fun wx hC => by exact loadI_zone (HA13.out.below hC))) ?_
              refine Rg.goods_cons (Rg.good_call1 Try.func11 (by kernel_rfl) rfl rfl rfl (by rintro u wx hC rfl; exact ex_row (in_is z wx) hC)) ?_
              refine Rg.goods_cons (Rg.good_load hre rfl rfl rfl (fun wx hC => by exact loadI_zone (HA12.out.below hC))) ?_
              refine Rg.goods_cons (Rg.good_call1 Try.func11 (by kernel_rfl) rfl rfl rfl (by rintro u wx hC rfl; exact ex_row (in_is z wx) hC)) ?_
              refine Rg.goods_cons (Rg.good_bin hre rfl rfl rfl rfl (fun w => guard_zone _ _ _ z z w) (fun w => neq_zone z w)) ?_
              refine Rg.goods_cons (Rg.good_pick false hre rfl rfl rfl rfl) ?_
              refine Rg.goods_cons (Rg.good_move hre rfl rfl rfl) ?_
              refine Rg.goods_cons (Rg.good_load hre rfl rfl rfl (fun wx hC => by exact loadI_zone (HA17.out.below hC))) ?_
              refine Rg.goods_cons (Rg.good_call1 Try.func11 (by kernel_rfl) rfl rfl rfl (by rintro u wx hC rfl; exact ex_row (in_is z wx) hC)) ?_
              refine Rg.goods_cons (Rg.good_load hre rfl rfl rfl (fun wx hC => by exact loadI_zone (HA12.out.below hC))) ?_
              refine Rg.goods_cons (Rg.good_call1 Try.func11 (by kernel_rfl) rfl rfl rfl (by rintro u wx hC rfl; exact ex_row (in_is z wx) hC)) ?_
              refine Rg.goods_cons (Rg.good_bin hre rfl rfl rfl rfl (fun w => guard_zone _ _ _ z z w) (fun w => neq_zone z w)) ?_
              refine Rg.goods_cons (Rg.good_pick false hre rfl rfl rfl rfl) ?_
              refine Rg.goods_cons (Rg.good_move hre rfl rfl rfl) ?_
              refine Rg.goods_cons (Rg.good_load hre rfl rfl rfl (fun wx hC => by exact loadI_zone (HA12.out.below hC))) ?_
              refine Rg.goods_cons (Rg.good_call1 Try.func12 (by kernel_rfl) rfl rfl rfl (by rintro u wx hC rfl; exact ex_row (z_right z wx Hmz.out Hxz.out (Z.W3.of_right Hrz.out) true Hrz.out) hC)) ?_
              refine Rg.goods_cons (Rg.good_un hre rfl rfl rfl (fun w => by go_simp)) ?_
              refine Rg.goods_cons (Rg.good_pick false hre rfl rfl rfl rfl) ?_
              exact Rg.goods_nil
            case fin =>
              intro w11 hx11
              simp only [Rg.later, Act.put, List.setIfInBounds_toArray, List.set_cons_succ, List.set_cons_zero]
              have HX11 : Hid (Ex wl w11) := HX10.out.trans hx11
              have HA11 : Hid (ZAt w11 w6.heap.size z 23) := HA12.out.below hx11
              have HRL11 : Hid (RdC w11 aC cC L) := HRL.out.below HX11.out
              clear hx11
              simp only [zv]
              go_wp2_with fail
              go_loopw [19, 20] (fun nv iv wr => ∃ j : Nat, j ≤ i ∧ iv = .int .i64 j ∧ nv = .int .i64 ((Z.nulls K (L.take j) : Nat) : Int) ∧ Hid (Ex w11 wr)) (fun nv iv wr => i - (intOf iv).toNat)
              case atStart => exact ⟨0, by omega, rfl, rfl, Ex.refl w11⟩
              case round =>
                obtain ⟨j, hji, rfl, rfl, HXr⟩ := hrel
                have HAr : Hid (ZAt wr w6.heap.size z 23) := HA11.out.below HXr.out
                obtain ⟨y0, y1, y2, y3, y4, y5, y6⟩ := HAr.out.all
                have hnul : Z.nulls K (L.take j) ≤ 40 := by
                  unfold Z.nulls
                  have := List.length_filter_le (fun c : Cel => c.k != K) (L.take j)
                  simp at this
                  omega
                by_cases hlt : j < i
                · have tdj : decide ((j : Int) < (i : Int)) = true := by simp; omega
                  have hjj : (j : Int) < (i : Int) := by omega
                  obtain ⟨c, hc⟩ : ∃ c, L[j]? = some c := ⟨_, List.getElem?_eq_getElem (by have := HN.out; omega)⟩
                  have hmem : c ∈ L := List.mem_of_getElem? hc
                  obtain ⟨bb, of, rfl, e0, e1, e2, e3⟩ := (HRL11.out.below HXr.out).2.2.2 j c hc
                  have hsn : Z.nulls K (L.take (j + 1)) = Z.nulls K (L.take j) + if c.k = K then 0 else 1 := by
                    rw [List.take_add_one, hc, Option.toList_some, Z.nulls_snoc]
                  have hxa : Ex wr (wr.alloc (cb c)) := (Below.refl _ _).alloc (Nat.le_refl _) _
                  have HX2 : Hid (Ex w11 (wr.alloc (cb c))) := HXr.out.trans hxa
                  have hlt6 : w6.heap.size < wr.heap.size := HAr.out.lt
                  by_cases hk : c.k = K
                  · have tk : (c.k == K) = true := by simp [hk]
                    rw [if_pos hk] at hsn
                    have HSn : Hid (Z.nulls K (L.take (j + 1)) = Z.nulls K (L.take j)) := (by omega : Z.nulls K (L.take (j + 1)) = Z.nulls K (L.take j))
                    have z1 := str_toList c.s
                    have z2 := str_toList z.ms
                    have z3 := str_toList z.xs
                    rcases (show K = 1 ∨ K = 2 by omega) with hK1 | hK1
                    · obtain ⟨i1, i2⟩ := HIn1.out hK1 c hmem (by omega)
                      have ti1 : decide (c.n < z.mn) = false := by simp; omega
                      have ti2 : decide (z.mx < c.n) = false := by simp; omega
                      subst hK1
                      clear hsn hxa
                      go_wp2_with fail
                      go_roundw
                      case rel => exact ⟨j + 1, by omega, by go_num, by rw [HSn.out], HXr.out.trans ((Below.refl _ _).alloc (Nat.le_refl _) _)⟩
                      case measure => simp [intOf]; omega
                    · obtain ⟨i1, i2⟩ := HIn2.out hK1 c hmem (by omega)
                      have g4 := le_form c.s z.xs
                      have i3 : Op.bytesLess c.s z.ms = false := i1
                      rw [i2] at g4
                      have i4 : Op.bytesLess z.xs c.s = false := i2
                      subst hK1
                      clear hsn hxa
                      go_wp2_with fail
                      go_roundw
                      case rel => exact ⟨j + 1, by omega, by go_num, by rw [HSn.out], HXr.out.trans ((Below.refl _ _).alloc (Nat.le_refl _) _)⟩
                      case measure => simp [intOf]; omega
                  · have tk : (c.k == K) = false := by simp [hk]
                    rw [if_neg hk] at hsn
                    have HSn : Hid (Z.nulls K (L.take (j + 1)) = Z.nulls K (L.take j) + 1) := hsn
                    clear hsn hxa
                    go_wp2_with fail
                    go_roundw
                    case rel => exact ⟨j + 1, by omega, by go_num, by rw [HSn.out]; go_num, HX2⟩
                    case measure => simp [intOf]; omega
                · have tdj : decide ((j : Int) < (i : Int)) = false := by simp; omega
                  obtain rfl : j = i := by omega
                  have htl : L.take j = L := List.take_of_length_le (by have := HN.out; omega)
                  have HU1 : Hid (z.u = ((Z.nulls K (L.take j) : Nat) : Int)) := (by rw [htl]; exact HzU.out : z.u = ((Z.nulls K (L.take j) : Nat) : Int))
                  obtain ⟨q2, hq2⟩ : ∃ q2, q2 = Z.nulls K (L.take j) := ⟨_, rfl⟩
                  have hu2 : z.u = (q2 : Int) := by rw [hq2]; exact HU1.out
                  have hr2 : z.r = (j : Int) := HzK.out
                  rw [hu2] at y2
                  rw [hr2] at y1
                  rw [← hq2]
                  clear htl hu2 hr2 hq2
                  go_wp2_with fail
                  refine (known_any _).mono ?_
                  rintro e wk ⟨rfl, hxk⟩
                  go_wp2_with fail
                  go_ret
                  exact ⟨rfl, HXl.out.trans (HX11.out.trans (HXr.out.trans hxk))⟩
end Go.Proofs.Ytnfbmffafclaaaa.zoneJoins
