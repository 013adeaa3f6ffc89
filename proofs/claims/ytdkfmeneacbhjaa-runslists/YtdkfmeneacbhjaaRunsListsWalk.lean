/-
  The walk of the law RunsLists: whatever it is given, it returns true.
-/
import Derived.Test.YtdkfmeneacbhjaaRunsBackWalk
namespace Go.Proofs.Ytdkfmeneacbhjaa.runsLists
open Go.RowKit
open runsBack (enc_len6 row_int)
set_option linter.unusedVariables false

set_option maxRecDepth 100000 in
set_option maxHeartbeats 2000000 in
theorem walk (p0 : Option Addr) (c0 : Nat) (l0 : List (Int × Int)) (p1 : Option Addr) (c1 : Nat) (l1 : List (Int × Int)) (a2 : Int) (a3 : Int) (w : World) (b0 : P2 w p0 c0 l0) (m0 : ∀ q ∈ l0, In64 q.1 ∧ In64 q.2) (b1 : P2 w p1 c1 l1) (m1 : ∀ q ∈ l1, In64 q.1 ∧ In64 q.2) (w2 : -9223372036854775808 ≤ a2 ∧ a2 ≤ 9223372036854775807) (w3 : -9223372036854775808 ≤ a3 ∧ a3 ≤ 9223372036854775807) :
    Calls Try.prog 8 #[.slice p0 l0.length c0, .slice p1 l1.length c1, .int .i64 a2, .int .i64 a3] w fun e w' => e = .returned (.bool true) ∧ Below w.heap.size w w' := by
  obtain ⟨w21, w22⟩ := w2
  obtain ⟨w31, w32⟩ := w3
  have H0 : Hid (P2 w p0 c0 l0) := b0
  have H1 : Hid (P2 w p1 c1 l1) := b1
  have HM0 : Hid (∀ q ∈ l0, In64 q.1 ∧ In64 q.2) := m0
  have HM1 : Hid (∀ q ∈ l1, In64 q.1 ∧ In64 q.2) := m1
  clear b0 b1 m0 m1
  go_enter Try.func8, Try.ntmps8
  go_wp2_with fail
  refine (within_any a2 32 _ w21 w22 (by omega) (by omega)).mono ?_
  rintro e wq ⟨D, hD, rfl, hw'⟩
  have hw'' := hw'.symm
  clear hw'
  subst hw''
  have h2D : 2 ^ D ≤ 2 ^ 32 := Nat.pow_le_pow_right (by decide) (by omega)
  have H2D : Hid (2 ^ D ≤ 2 ^ 32) := h2D
  clear h2D
  go_wp2_with fail
  refine (shaped_any p0 c0 l0 D _ H0.out HM0.out (by omega)).mono ?_
  rintro e w4 ⟨vx, X, rfl, hXl, hXD, ⟨ax, cx, rfl, hrx⟩, hx4⟩
  have hXw : B.width X ≤ D := (B.width_le D X).2 hXD
  have HX64 : Hid (∀ x ∈ X, x < 18446744073709551616) := (fun x hx => by have h1 := hXD x hx; have := H2D.out; omega : ∀ x ∈ X, x < 18446744073709551616)
  have HX4 : Hid (Ex w w4) := hx4
  have HRX : Hid (Rd n64 w4 ax cx X) := hrx
  have HXw : Hid (B.width X ≤ D) := hXw
  clear hXD hrx hx4
  go_wp2_with fail
  refine (shaped_any p1 c1 l1 D _ (H1.out.below HX4.out) HM1.out (by omega)).mono ?_
  rintro e w5 ⟨vy, Y, rfl, hYl, hYD, ⟨ay, cy, rfl, hry⟩, hx5⟩
  have hYw : B.width Y ≤ D := (B.width_le D Y).2 hYD
  have HY64 : Hid (∀ x ∈ Y, x < 18446744073709551616) := (fun x hx => by have h1 := hYD x hx; have := H2D.out; omega : ∀ x ∈ Y, x < 18446744073709551616)
  have HX5 : Hid (Ex w w5) := HX4.out.trans hx5
  have HRX5 : Hid (Rd n64 w5 ax cx X) := HRX.out.below hx5
  have HRY5 : Hid (Rd n64 w5 ay cy Y) := hry
  obtain ⟨EA, hEA⟩ : ∃ EA, EA = R.enc D X := ⟨_, rfl⟩
  obtain ⟨EB, hEB⟩ : ∃ EB, EB = R.enc D Y := ⟨_, rfl⟩
  have HEA : Hid (R.encE X (D : Int) = (EA, 0)) := (by unfold R.encE; rw [if_neg (by simp; omega), hEA]; simp : R.encE X (D : Int) = (EA, 0))
  have HEB : Hid (R.encE Y (D : Int) = (EB, 0)) := (by unfold R.encE; rw [if_neg (by simp; omega), hEB]; simp : R.encE Y (D : Int) = (EB, 0))
  have hEAl : EA.length ≤ 4000 := by
    have := enc_len6 (w := D) (by omega) X.length X (Nat.le_refl _)
    rw [← hEA] at this; omega
  have HInj : Hid (X.length = Y.length → (EA = EB ↔ X = Y)) := (fun h => by
    rw [hEA, hEB]; exact R.enc_inj (by omega) hXw hYw (by omega) h : X.length = Y.length → (EA = EB ↔ X = Y))
  clear hYD hry hx5 hXw hYw hEA hEB
  go_wp2_with fail
  refine (enc_is ax _ cx X _ _ rfl HRX5.out HX64.out (by omega) EA 0 HEA.out).mono ?_
  rintro e w6 ⟨va, rfl, ⟨aa, ca, rfl, hba⟩, hx6⟩
  have HX6 : Hid (Ex w5 w6) := hx6
  have HA6 : Hid (Byt w6 aa ca EA) := hba
  clear hba hx6
  go_wp2_with fail
  refine (enc_is ay _ cy Y _ _ rfl (HRY5.out.below HX6.out) HY64.out (by omega) EB 0 HEB.out).mono ?_
  rintro e w7 ⟨vb, rfl, ⟨ab, cb, rfl, hbb⟩, hx7⟩
  have HX7 : Hid (Ex w w7) := (HX5.out.trans HX6.out).trans hx7
  have HA7 : Hid (Byt w7 aa ca EA) := HA6.out.below hx7
  have HB7 : Hid (Byt w7 ab cb EB) := hbb
  have HRX7 : Hid (Rd n64 w7 ax cx X) := (HRX5.out.below HX6.out).below hx7
  have HRY7 : Hid (Rd n64 w7 ay cy Y) := (HRY5.out.below HX6.out).below hx7
  clear hbb hx7
  by_cases hle : X.length = Y.length
  · have HLe : Hid (((X.length : Int) == (Y.length : Int)) = true) := (by simp; omega : ((X.length : Int) == (Y.length : Int)) = true)
    have hinj := HInj.out hle
    obtain ⟨Q, hQ⟩ : ∃ Q : Bool, Q = decide (X = Y) := ⟨_, rfl⟩
    have HQs : Hid (decide (X = Y) = Q) := hQ.symm
    have HQe : Hid ((EA == EB) = Q) := (by
      rw [hQ]
      by_cases h : X = Y
      · simp [h, hinj.2 h]
      · have : ¬ EA = EB := fun h2 => h (hinj.1 h2)
        simp [h, this] : (EA == EB) = Q)
    clear hinj hQ hle
    go_wp2_with fail
    have hre := Ex.refl
    refine Rg.wp_rows [.inl (Value.slice ax X.length cx), .inl (Value.int IntKind.i64 ↑X.length), .inl (Value.slice ay Y.length cy), .inl (Value.int IntKind.i64 ↑Y.length), .inl (.bool true), .inl (.bool true), .inl (Value.slice aa EA.length ca), .inl (.string (str EA)), .inl (Value.slice ab EB.length cb), .inl (.string (str EB)), .inl (.bool Q), .inl (Value.slice ax X.length cx), .inl (Value.slice ay Y.length cy), .inl (.bool Q), .inl (.bool false), .inl (.bool false)] (Ex w7) Ex 125 (by kernel_rfl) rfl (by kernel_rfl) ?st hre (Ex.drew _) ?goods ?fin
    case st => exact trivial
    case goods =>
      refine Rg.goods_cons (Rg.good_move hre rfl rfl rfl) ?_
      refine Rg.goods_cons (Rg.good_len hre rfl rfl (by rintro u w _ rfl; rfl)) ?_
      refine Rg.goods_cons (Rg.good_move hre rfl rfl rfl) ?_
      refine Rg.goods_cons (Rg.good_len hre rfl rfl (by rintro u w _ rfl; rfl)) ?_
      refine Rg.goods_cons (Rg.good_bin hre rfl rfl rfl rfl (fun _ => rfl) (fun w => by simp only [go_sem, HLe.out, Sem.run_pure])) ?_
      refine Rg.goods_cons (Rg.good_move hre rfl rfl rfl) ?_
      refine Rg.goods_cons (Rg.good_move hre rfl rfl rfl) ?_
      refine Rg.goods_cons (Rg.good_conv hre rfl rfl (by rintro u wx hC rfl; exact run_str (HA7.out.below hC) rfl)) ?_
      refine Rg.goods_cons (Rg.good_move hre rfl rfl rfl) ?_
      refine Rg.goods_cons (Rg.good_conv hre rfl rfl (by rintro u wx hC rfl; exact run_str (HB7.out.below hC) rfl)) ?_
      refine Rg.goods_cons (Rg.good_bin hre rfl rfl rfl rfl (fun _ => rfl) (fun w => by simp only [go_sem, str_toList, HQe.out, Sem.run_pure])) ?_
      refine Rg.goods_cons (Rg.good_move hre rfl rfl rfl) ?_
      refine Rg.goods_cons (Rg.good_move hre rfl rfl rfl) ?_
      refine Rg.goods_cons (Rg.good_call2 Try.func13 (by kernel_rfl) rfl rfl rfl (by rintro u u2 wx hC rfl rfl; exact row_int (same64_any ax ay cx cy _ _ X Y wx rfl rfl (HRX7.out.below hC) (HRY7.out.below hC) Q HQs.out) hC)) ?_
      refine Rg.goods_cons (Rg.good_bin hre rfl rfl rfl rfl (fun _ => rfl) (fun w => by cases Q <;> first | rfl | go_simp)) ?_
      refine Rg.goods_cons (Rg.good_pick true hre rfl rfl rfl rfl) ?_
      exact Rg.goods_nil
    case fin =>
      intro w8 hx8
      simp only [Rg.later, Act.put, List.setIfInBounds_toArray, List.set_cons_succ, List.set_cons_zero]
      have HX8 : Hid (Ex w w8) := HX7.out.trans hx8
      have HA8 : Hid (Byt w8 aa ca EA) := HA7.out.below hx8
      clear hx8
      go_wp2_with fail
      refine (within_any a3 ((X.length : Int) + 20) _ w31 w32 (by omega) (by omega)).mono ?_
      rintro e wq ⟨N2, hN2, rfl, hw'⟩
      have hw'' := hw'.symm
      clear hw'
      subst hw''
      by_cases hNX : N2 = X.length
      · have tN : ((N2 : Int) == (X.length : Int)) = true := by simp; omega
        have tN2 : decide (N2 = X.length) = true := by simp; omega
        go_wp2_with fail
        refine (known_any _).mono ?_
        rintro e w9 ⟨rfl, hx9⟩
        go_wp2
        go_ret
        exact ⟨rfl, HX8.out.trans hx9⟩
      · have tN : ((N2 : Int) == (X.length : Int)) = false := by simp; omega
        have tN2 : decide (N2 = X.length) = false := by simp; omega
        obtain ⟨⟨Z, kz, ez⟩, hz⟩ : ∃ r, R.dec EA 0 (N2 : Int) (D : Int) = r := ⟨_, rfl⟩
        have HZ : Hid (R.dec EA 0 (N2 : Int) (D : Int) = (Z, kz, ez)) := hz
        clear hz
        go_wp2_with fail
        refine (dec_is aa _ ca EA _ _ _ _ rfl HA8.out (by omega) Z kz ez HZ.out).mono ?_
        rintro e w10 ⟨vz, rfl, ⟨az, cz, rfl, hrz⟩, hx10⟩
        have HX10 : Hid (Ex w w10) := HX8.out.trans hx10
        have HA10 : Hid (Byt w10 aa ca EA) := HA8.out.below hx10
        have HRZ : Hid (Rd n64 w10 az cz Z) := hrz
        clear hx10 hrz
        by_cases hez : ez = 0
        · subst hez
          obtain ⟨_, _, _, _, _, _, hZl, _, hkz, hZw, hZe⟩ := R.dec_ok HZ.out
          simp only [Int.toNat_natCast, Int.toNat_zero, List.drop_zero, Nat.sub_zero] at hZl hZw hZe
          obtain ⟨EZ, hEZ⟩ : ∃ EZ, EZ = R.enc D Z := ⟨_, rfl⟩
          have HEZE : Hid (R.encE Z (D : Int) = (EZ, 0)) := (by unfold R.encE; rw [if_neg (by simp; omega), hEZ]; simp : R.encE Z (D : Int) = (EZ, 0))
          have HEZ : Hid (EZ = EA.take kz) := (by rw [hEZ]; exact hZe : EZ = EA.take kz)
          have hZ64 : ∀ x ∈ Z, x < 18446744073709551616 := fun x hx => by
            have h1 := B.fits hZw x hx
            have h2 : 2 ^ D ≤ 2 ^ 32 := Nat.pow_le_pow_right (by decide) (by omega)
            omega
          have HZ64 : Hid (∀ x ∈ Z, x < 18446744073709551616) := hZ64
          have hZ300 : Z.length ≤ 300 := by omega
          have HKZ : Hid (kz ≤ EA.length) := hkz
          have HZN : Hid (((Z.length : Int) == (N2 : Int)) = true) := (by simp; omega : ((Z.length : Int) == (N2 : Int)) = true)
          have HCA : Hid (EA.length ≤ ca) := HA10.out.1
          have HCM : Hid (ca ≤ maxLen) := HA10.out.2.1
          clear hZl hZw hZe hEZ hZ64 hkz
          go_wp2_with fail
          refine (enc_is az _ cz Z _ _ rfl HRZ.out HZ64.out (by omega) EZ 0 HEZE.out).mono ?_
          rintro e w11 ⟨ve, rfl, ⟨ae, ce, rfl, hbe⟩, hx11⟩
          have HBE : Hid (Byt w11 ae ce EZ) := hbe
          have HBA : Hid (Byt w11 aa ca EA) := HA10.out.below hx11
          have HX11 : Hid (Ex w w11) := HX10.out.trans hx11
          clear hbe hx11
          go_wp2_with fail
          have hre := Ex.refl
          refine Rg.wp_rows [.inl (Value.int IntKind.i64 0), .inl (.bool true), .inl (.bool true), .inl (Value.slice az Z.length cz), .inl (Value.int IntKind.i64 ↑Z.length), .inl (Value.int IntKind.i64 ↑N2), .inl (.bool true), .inl (.bool true), .inl (.bool true), .inl (Value.int IntKind.i64 ↑kz), .inl (.bool true), .inl (.bool true), .inl (.bool true), .inl (Value.int IntKind.i64 ↑kz), .inl (Value.slice aa EA.length ca), .inl (Value.int IntKind.i64 ↑EA.length), .inl (.bool true), .inl (.bool true), .inl (.bool true), .inl (Value.slice ae EZ.length ce), .inl (.string (str EZ)), .inl (Value.slice aa EA.length ca), .inl (Value.int IntKind.i64 ↑kz), .inl (Value.slice aa kz ca), .inl (.string (str EZ)), .inl (.bool true), .inl (.bool true), .inl (.bool true), .inl (.bool true), .inl (.bool true), .inl (.bool true)] (Ex w11) Ex 125 (by kernel_rfl) rfl (by kernel_rfl) ?st hre (Ex.drew _) ?goods ?fin
          case st => exact trivial
          case goods =>
            refine Rg.goods_cons (Rg.good_move hre rfl rfl rfl) ?_
            refine Rg.goods_cons (Rg.good_bin hre rfl rfl rfl rfl (fun _ => rfl) (fun w => by rfl)) ?_
            refine Rg.goods_cons (Rg.good_move hre rfl rfl rfl) ?_
            refine Rg.goods_cons (Rg.good_move hre rfl rfl rfl) ?_
            refine Rg.goods_cons (Rg.good_len hre rfl rfl (by rintro u w _ rfl; rfl)) ?_
            refine Rg.goods_cons (Rg.good_move hre rfl rfl rfl) ?_
            refine Rg.goods_cons (Rg.good_bin hre rfl rfl rfl rfl (fun _ => rfl) (fun w => by simp only [go_sem, HZN.out, Sem.run_pure])) ?_
            refine Rg.goods_cons (Rg.good_pick true hre rfl rfl rfl rfl) ?_
            refine Rg.goods_cons (Rg.good_move hre rfl rfl rfl) ?_
            refine Rg.goods_cons (Rg.good_move hre rfl rfl rfl) ?_
            refine Rg.goods_cons (Rg.good_bin hre rfl rfl rfl rfl (fun _ => rfl) (fun w => by go_simp)) ?_
            refine Rg.goods_cons (Rg.good_pick true hre rfl rfl rfl rfl) ?_
            refine Rg.goods_cons (Rg.good_move hre rfl rfl rfl) ?_
            refine Rg.goods_cons (Rg.good_move hre rfl rfl rfl) ?_
            refine Rg.goods_cons (Rg.good_move hre rfl rfl rfl) ?_
            refine Rg.goods_cons (Rg.good_len hre rfl rfl (by rintro u w _ rfl; rfl)) ?_
            refine Rg.goods_cons (Rg.good_bin hre rfl rfl rfl rfl (fun _ => rfl) (fun w => by have := HKZ.out; go_simp; try omega)) ?_
            refine Rg.goods_cons (Rg.good_pick true hre rfl rfl rfl rfl) ?_
            refine Rg.goods_cons (Rg.good_move hre rfl rfl rfl) ?_
            refine Rg.goods_cons (Rg.good_move hre rfl rfl rfl) ?_
            refine Rg.goods_cons (Rg.good_conv hre rfl rfl (by rintro u wx hC rfl; exact run_str (HBE.out.below hC) rfl)) ?_
            refine Rg.goods_cons (Rg.good_move hre rfl rfl rfl) ?_
            refine Rg.goods_cons (Rg.good_move hre rfl rfl rfl) ?_
            refine Rg.goods_cons (Rg.good_slice2 hre rfl rfl rfl (by rintro u wx hC rfl; exact ⟨_, slice_row aa _ ca kz wx (by have := HKZ.out; have := HCA.out; omega) HCM.out, rfl⟩)) ?_
            refine Rg.goods_cons (Rg.good_conv hre rfl rfl (by rintro u wx hC rfl; rw [HEZ.out]; exact run_str ((HBA.out.below hC).take HKZ.out) (by have := HKZ.out; simp; omega))) ?_
            refine Rg.goods_cons (Rg.good_bin hre rfl rfl rfl rfl (fun _ => rfl) (fun w => by simp only [go_sem, str_toList, Sem.run_pure]; simp)) ?_
            refine Rg.goods_cons (Rg.good_pick true hre rfl rfl rfl rfl) ?_
            refine Rg.goods_cons (Rg.good_move hre rfl rfl rfl) ?_
            refine Rg.goods_cons (Rg.good_call0 Try.func14 (by kernel_rfl) rfl rfl rfl (by exact fun wx hC => row_int (known_any wx) hC)) ?_
            refine Rg.goods_cons (Rg.good_pick true hre rfl rfl rfl rfl) ?_
            refine Rg.goods_cons (Rg.good_assign hre rfl rfl rfl) ?_
            exact Rg.goods_nil
          case fin =>
            intro wx hx
            simp only [Rg.later, Act.put, List.setIfInBounds_toArray, List.set_cons_succ, List.set_cons_zero]
            go_wp2
            go_ret
            exact ⟨rfl, HX11.out.trans hx⟩
        · have tez : ((ez : Int) != 0) = true := by simp; omega
          have tez2 : decide (ez = 0) = false := by simp; omega
          obtain ⟨hZ0, _⟩ := R.dec_bad HZ.out hez
          subst hZ0
          go_wp2_with fail
          refine (known_any _).mono ?_
          rintro e w12 ⟨rfl, hx12⟩
          go_wp2
          go_ret
          exact ⟨rfl, HX10.out.trans hx12⟩
  · have HLe : Hid (((X.length : Int) == (Y.length : Int)) = false) := (by simp; omega : ((X.length : Int) == (Y.length : Int)) = false)
    go_wp2_with fail
    have hre := Ex.refl
    refine Rg.wp_rows [.inl (Value.slice ax X.length cx), .inl (Value.int IntKind.i64 ↑X.length), .inl (Value.slice ay Y.length cy), .inl (Value.int IntKind.i64 ↑Y.length), .inl (.bool false), .inl (.bool false), .inl undef, .inl undef, .inl undef, .inl undef, .inl undef, .inl undef, .inl undef, .inl undef, .inl undef, .inl (Value.bool false)] (Ex w7) Ex 125 (by kernel_rfl) rfl (by kernel_rfl) ?st hre (Ex.drew _) ?goods ?fin
    case st => exact trivial
    case goods =>
      refine Rg.goods_cons (Rg.good_move hre rfl rfl rfl) ?_
      refine Rg.goods_cons (Rg.good_len hre rfl rfl (by rintro u w _ rfl; rfl)) ?_
      refine Rg.goods_cons (Rg.good_move hre rfl rfl rfl) ?_
      refine Rg.goods_cons (Rg.good_len hre rfl rfl (by rintro u w _ rfl; rfl)) ?_
      refine Rg.goods_cons (Rg.good_bin hre rfl rfl rfl rfl (fun _ => rfl) (fun w => by simp only [go_sem, HLe.out, Sem.run_pure])) ?_
      refine Rg.goods_cons (Rg.good_move hre rfl rfl rfl) ?_
      refine Rg.goods_cons (Rg.good_skip rfl) ?_
      refine Rg.goods_cons (Rg.good_skip rfl) ?_
      refine Rg.goods_cons (Rg.good_skip rfl) ?_
      refine Rg.goods_cons (Rg.good_skip rfl) ?_
      refine Rg.goods_cons (Rg.good_skip rfl) ?_
      refine Rg.goods_cons (Rg.good_skip rfl) ?_
      refine Rg.goods_cons (Rg.good_skip rfl) ?_
      refine Rg.goods_cons (Rg.good_skip rfl) ?_
      refine Rg.goods_cons (Rg.good_skip rfl) ?_
      refine Rg.goods_cons (Rg.good_pick false hre rfl rfl rfl rfl) ?_
      exact Rg.goods_nil
    case fin =>
      intro w8 hx8
      simp only [Rg.later, Act.put, List.setIfInBounds_toArray, List.set_cons_succ, List.set_cons_zero]
      have HX8 : Hid (Ex w w8) := HX7.out.trans hx8
      have HA8 : Hid (Byt w8 aa ca EA) := HA7.out.below hx8
      clear hx8
      go_wp2_with fail
      refine (within_any a3 ((X.length : Int) + 20) _ w31 w32 (by omega) (by omega)).mono ?_
      rintro e wq ⟨N2, hN2, rfl, hw'⟩
      have hw'' := hw'.symm
      clear hw'
      subst hw''
      by_cases hNX : N2 = X.length
      · have tN : ((N2 : Int) == (X.length : Int)) = true := by simp; omega
        have tN2 : decide (N2 = X.length) = true := by simp; omega
        go_wp2_with fail
        refine (known_any _).mono ?_
        rintro e w9 ⟨rfl, hx9⟩
        go_wp2
        go_ret
        exact ⟨rfl, HX8.out.trans hx9⟩
      · have tN : ((N2 : Int) == (X.length : Int)) = false := by simp; omega
        have tN2 : decide (N2 = X.length) = false := by simp; omega
        obtain ⟨⟨Z, kz, ez⟩, hz⟩ : ∃ r, R.dec EA 0 (N2 : Int) (D : Int) = r := ⟨_, rfl⟩
        have HZ : Hid (R.dec EA 0 (N2 : Int) (D : Int) = (Z, kz, ez)) := hz
        clear hz
        go_wp2_with fail
        refine (dec_is aa _ ca EA _ _ _ _ rfl HA8.out (by omega) Z kz ez HZ.out).mono ?_
        rintro e w10 ⟨vz, rfl, ⟨az, cz, rfl, hrz⟩, hx10⟩
        have HX10 : Hid (Ex w w10) := HX8.out.trans hx10
        have HA10 : Hid (Byt w10 aa ca EA) := HA8.out.below hx10
        have HRZ : Hid (Rd n64 w10 az cz Z) := hrz
        clear hx10 hrz
        by_cases hez : ez = 0
        · subst hez
          obtain ⟨_, _, _, _, _, _, hZl, _, hkz, hZw, hZe⟩ := R.dec_ok HZ.out
          simp only [Int.toNat_natCast, Int.toNat_zero, List.drop_zero, Nat.sub_zero] at hZl hZw hZe
          obtain ⟨EZ, hEZ⟩ : ∃ EZ, EZ = R.enc D Z := ⟨_, rfl⟩
          have HEZE : Hid (R.encE Z (D : Int) = (EZ, 0)) := (by unfold R.encE; rw [if_neg (by simp; omega), hEZ]; simp : R.encE Z (D : Int) = (EZ, 0))
          have HEZ : Hid (EZ = EA.take kz) := (by rw [hEZ]; exact hZe : EZ = EA.take kz)
          have hZ64 : ∀ x ∈ Z, x < 18446744073709551616 := fun x hx => by
            have h1 := B.fits hZw x hx
            have h2 : 2 ^ D ≤ 2 ^ 32 := Nat.pow_le_pow_right (by decide) (by omega)
            omega
          have HZ64 : Hid (∀ x ∈ Z, x < 18446744073709551616) := hZ64
          have hZ300 : Z.length ≤ 300 := by omega
          have HKZ : Hid (kz ≤ EA.length) := hkz
          have HZN : Hid (((Z.length : Int) == (N2 : Int)) = true) := (by simp; omega : ((Z.length : Int) == (N2 : Int)) = true)
          have HCA : Hid (EA.length ≤ ca) := HA10.out.1
          have HCM : Hid (ca ≤ maxLen) := HA10.out.2.1
          clear hZl hZw hZe hEZ hZ64 hkz
          go_wp2_with fail
          refine (enc_is az _ cz Z _ _ rfl HRZ.out HZ64.out (by omega) EZ 0 HEZE.out).mono ?_
          rintro e w11 ⟨ve, rfl, ⟨ae, ce, rfl, hbe⟩, hx11⟩
          have HBE : Hid (Byt w11 ae ce EZ) := hbe
          have HBA : Hid (Byt w11 aa ca EA) := HA10.out.below hx11
          have HX11 : Hid (Ex w w11) := HX10.out.trans hx11
          clear hbe hx11
          go_wp2_with fail
          have hre := Ex.refl
          refine Rg.wp_rows [.inl (Value.int IntKind.i64 0), .inl (.bool true), .inl (.bool true), .inl (Value.slice az Z.length cz), .inl (Value.int IntKind.i64 ↑Z.length), .inl (Value.int IntKind.i64 ↑N2), .inl (.bool true), .inl (.bool true), .inl (.bool true), .inl (Value.int IntKind.i64 ↑kz), .inl (.bool true), .inl (.bool true), .inl (.bool true), .inl (Value.int IntKind.i64 ↑kz), .inl (Value.slice aa EA.length ca), .inl (Value.int IntKind.i64 ↑EA.length), .inl (.bool true), .inl (.bool true), .inl (.bool true), .inl (Value.slice ae EZ.length ce), .inl (.string (str EZ)), .inl (Value.slice aa EA.length ca), .inl (Value.int IntKind.i64 ↑kz), .inl (Value.slice aa kz ca), .inl (.string (str EZ)), .inl (.bool true), .inl (.bool true), .inl (.bool true), .inl (.bool true), .inl (.bool true), .inl (.bool true)] (Ex w11) Ex 125 (by kernel_rfl) rfl (by kernel_rfl) ?st hre (Ex.drew _) ?goods ?fin
          case st => exact trivial
          case goods =>
            refine Rg.goods_cons (Rg.good_move hre rfl rfl rfl) ?_
            refine Rg.goods_cons (Rg.good_bin hre rfl rfl rfl rfl (fun _ => rfl) (fun w => by rfl)) ?_
            refine Rg.goods_cons (Rg.good_move hre rfl rfl rfl) ?_
            refine Rg.goods_cons (Rg.good_move hre rfl rfl rfl) ?_
            refine Rg.goods_cons (Rg.good_len hre rfl rfl (by rintro u w _ rfl; rfl)) ?_
            refine Rg.goods_cons (Rg.good_move hre rfl rfl rfl) ?_
            refine Rg.goods_cons (Rg.good_bin hre rfl rfl rfl rfl (fun _ => rfl) (fun w => by simp only [go_sem, HZN.out, Sem.run_pure])) ?_
            refine Rg.goods_cons (Rg.good_pick true hre rfl rfl rfl rfl) ?_
            refine Rg.goods_cons (Rg.good_move hre rfl rfl rfl) ?_
            refine Rg.goods_cons (Rg.good_move hre rfl rfl rfl) ?_
            refine Rg.goods_cons (Rg.good_bin hre rfl rfl rfl rfl (fun _ => rfl) (fun w => by go_simp)) ?_
            refine Rg.goods_cons (Rg.good_pick true hre rfl rfl rfl rfl) ?_
            refine Rg.goods_cons (Rg.good_move hre rfl rfl rfl) ?_
            refine Rg.goods_cons (Rg.good_move hre rfl rfl rfl) ?_
            refine Rg.goods_cons (Rg.good_move hre rfl rfl rfl) ?_
            refine Rg.goods_cons (Rg.good_len hre rfl rfl (by rintro u w _ rfl; rfl)) ?_
            refine Rg.goods_cons (Rg.good_bin hre rfl rfl rfl rfl (fun _ => rfl) (fun w => by have := HKZ.out; go_simp; try omega)) ?_
            refine Rg.goods_cons (Rg.good_pick true hre rfl rfl rfl rfl) ?_
            refine Rg.goods_cons (Rg.good_move hre rfl rfl rfl) ?_
            refine Rg.goods_cons (Rg.good_move hre rfl rfl rfl) ?_
            refine Rg.goods_cons (Rg.good_conv hre rfl rfl (by rintro u wx hC rfl; exact run_str (HBE.out.below hC) rfl)) ?_
            refine Rg.goods_cons (Rg.good_move hre rfl rfl rfl) ?_
            refine Rg.goods_cons (Rg.good_move hre rfl rfl rfl) ?_
            refine Rg.goods_cons (Rg.good_slice2 hre rfl rfl rfl (by rintro u wx hC rfl; exact ⟨_, slice_row aa _ ca kz wx (by have := HKZ.out; have := HCA.out; omega) HCM.out, rfl⟩)) ?_
            refine Rg.goods_cons (Rg.good_conv hre rfl rfl (by rintro u wx hC rfl; rw [HEZ.out]; exact run_str ((HBA.out.below hC).take HKZ.out) (by have := HKZ.out; simp; omega))) ?_
            refine Rg.goods_cons (Rg.good_bin hre rfl rfl rfl rfl (fun _ => rfl) (fun w => by simp only [go_sem, str_toList, Sem.run_pure]; simp)) ?_
            refine Rg.goods_cons (Rg.good_pick true hre rfl rfl rfl rfl) ?_
            refine Rg.goods_cons (Rg.good_move hre rfl rfl rfl) ?_
            refine Rg.goods_cons (Rg.good_call0 Try.func14 (by kernel_rfl) rfl rfl rfl (by exact fun wx hC => row_int (known_any wx) hC)) ?_
            refine Rg.goods_cons (Rg.good_pick true hre rfl rfl rfl rfl) ?_
            refine Rg.goods_cons (Rg.good_assign hre rfl rfl rfl) ?_
            exact Rg.goods_nil
          case fin =>
            intro wx hx
            simp only [Rg.later, Act.put, List.setIfInBounds_toArray, List.set_cons_succ, List.set_cons_zero]
            go_wp2
            go_ret
            exact ⟨rfl, HX11.out.trans hx⟩
        · have tez : ((ez : Int) != 0) = true := by simp; omega
          have tez2 : decide (ez = 0) = false := by simp; omega
          obtain ⟨hZ0, _⟩ := R.dec_bad HZ.out hez
          subst hZ0
          go_wp2_with fail
          refine (known_any _).mono ?_
          rintro e w12 ⟨rfl, hx12⟩
          go_wp2
          go_ret
          exact ⟨rfl, HX10.out.trans hx12⟩
end Go.Proofs.Ytdkfmeneacbhjaa.runsLists
