/-
  The walk of the law RunsBack: whatever it is given, it returns true.
-/
import Derived.Test.YtdkfmeneacbhjaaKnown
import Derived.Test.YtdkfmeneacbhjaaShaped
namespace Go.Proofs.Ytdkfmeneacbhjaa.runsBack
open Go.RowKit
set_option linter.unusedVariables false

theorem enc_len6 {w : Nat} (hw : w ≤ 32) : ∀ (m : Nat) (l : List Nat), l.length ≤ m → (R.enc w l).length ≤ 6 * l.length + 50
  | 0, l, hm => by
    obtain rfl : l = [] := List.length_eq_zero_iff.1 (by omega)
    simp [R.enc_nil]
  | m + 1, l, hm => by
    by_cases hl : l = []
    · subst hl; simp [R.enc_nil]
    · have hp : 0 < l.length := List.length_pos_iff.2 hl
      rw [R.enc_eq w hl]
      split
      · rename_i h8
        have hr := R.runLen_le l
        have ih := enc_len6 hw m (l.drop (R.runLen l)) (by simp; omega)
        have hd := M.digs_len (2 * R.runLen l)
        simp only [List.length_append, List.length_drop, R.few_len] at ih ⊢
        omega
      · have hg := R.groups_pos hl
        have hg2 := R.groups_le l
        have ih := enc_len6 hw m (l.drop (8 * R.groups l)) (by simp; omega)
        have hd := M.digs_len (2 * R.groups l + 1)
        have hpl : (R.pad (8 * R.groups l) (l.take (8 * R.groups l))).length = 8 * R.groups l := R.pad_len (by simp; omega)
        have hpk : (B.pack w (R.pad (8 * R.groups l) (l.take (8 * R.groups l)))).length ≤ 32 * R.groups l := by
          rw [B.pack_len, hpl]
          unfold B.size
          have h1 : 8 * R.groups l * w ≤ 8 * R.groups l * 32 := Nat.mul_le_mul_left _ hw
          omega
        by_cases hend : l.length ≤ 8 * R.groups l
        · have : l.drop (8 * R.groups l) = [] := List.drop_of_length_le hend
          rw [this, R.enc_nil]
          simp only [List.length_append, List.length_nil]
          omega
        · simp only [List.length_append, List.length_drop] at ih ⊢
          omega
theorem row_int {f : FuncId} {args : Array Value} {wx w1 : World} {v : Value} (h : Calls Try.prog f args wx fun e w' => e = .returned v ∧ Ex wx w') (hC : Ex w1 wx) :
    Calls Try.prog f args wx (fun e w' => ∃ u, e = .returned u ∧ Rg.Spec.ok (.inl v) u w' ∧ Ex wx w' ∧ Ex w1 w') :=
  h.mono fun e w' ⟨h1, h2⟩ => ⟨v, h1, rfl, h2, hC.trans h2⟩

set_option maxRecDepth 100000 in
set_option maxHeartbeats 2000000 in
theorem walk_l (p0 : Option Addr) (c0 : Nat) (l0 : List UInt8) (p1 : Option Addr) (c1 : Nat) (l1 : List (Int × Int)) (a2 a3 : Int) (w : World) (b0 : Byt w p0 c0 l0) (w0 : l0.length ≤ 140737488351232) (b1 : P2 w p1 c1 l1) (m1 : ∀ q ∈ l1, In64 q.1 ∧ In64 q.2) (w2 : -9223372036854775808 ≤ a2 ∧ a2 ≤ 9223372036854775807) (w3 : -9223372036854775808 ≤ a3 ∧ a3 ≤ 9223372036854775807) (h0 : 100 < l0.length) :
    Calls Try.prog 6 #[.slice p0 l0.length c0, .slice p1 l1.length c1, .int .i64 a2, .int .i64 a3] w fun e w' => e = .returned (.bool true) ∧ Below w.heap.size w w' := by
  obtain ⟨w21, w22⟩ := w2
  obtain ⟨w31, w32⟩ := w3
  have hcl0 := b0.1
  have hcm0 := b0.2.1
  have HCM : Hid (c0 ≤ maxLen) := hcm0
  unfold maxLen at hcm0
  obtain ⟨A, hA⟩ : ∃ A, A = l0.take 100 := ⟨_, rfl⟩
  have hAl : 100 = A.length := by rw [hA]; simp; try omega
  have HAl : Hid (100 = A.length) := hAl
  have hA100 : A.length ≤ 100 := by rw [hA]; simp; omega
  have HA0 : Hid (Byt w p0 c0 A) := (by rw [hA]; exact b0.take (by omega) : Byt w p0 c0 A)
  have H0 : Hid (Byt w p0 c0 l0) := b0
  have H1 : Hid (P2 w p1 c1 l1) := b1
  have HM1 : Hid (∀ q ∈ l1, In64 q.1 ∧ In64 q.2) := m1
  have t100 : decide (100 < (l0.length : Int)) = true := by simp; omega
  have hc100 : (100 : Int) ≤ (c0 : Int) := by omega
  clear b0 b1 m1 hA hAl
  go_enter Try.func6, Try.ntmps6
  go_wp2_with fail
  refine (within_any a2 32 _ w21 w22 (by omega) (by omega)).mono ?_
  rintro e wq ⟨D, hD, rfl, hw'⟩
  have hw'' := hw'.symm
  clear hw'
  subst hw''
  go_wp2_with fail
  refine (shaped_any p1 c1 l1 D _ H1.out HM1.out (by omega)).mono ?_
  rintro e w4 ⟨vx, X, rfl, hXl, hXD, ⟨ax, cx, rfl, hrx⟩, hx4⟩
  have hXw : B.width X ≤ D := (B.width_le D X).2 hXD
  have hX64 : ∀ x ∈ X, x < 18446744073709551616 := fun x hx => by
    have h1 := hXD x hx
    have h2 : 2 ^ D ≤ 2 ^ 32 := Nat.pow_le_pow_right (by decide) (by omega)
    omega
  obtain ⟨EN, hEN⟩ : ∃ EN, EN = R.enc D X := ⟨_, rfl⟩
  have HEE : Hid (R.encE X (D : Int) = (EN, 0)) := (by unfold R.encE; rw [if_neg (by simp; omega), hEN]; simp : R.encE X (D : Int) = (EN, 0))
  have hENl : EN.length ≤ 4000 := by
    have := enc_len6 (w := D) (by omega) X.length X (Nat.le_refl _)
    rw [← hEN] at this; omega
  have HDE : Hid (R.dec (l0 ++ EN) (l0.length : Int) (X.length : Int) (D : Int) = (X, l0.length + EN.length, 0)) := (by
    have := R.dec_enc (l := X) (w := D) (by omega) hXw (by omega) l0 []
    rw [List.append_nil, ← hEN] at this
    exact this : R.dec (l0 ++ EN) (l0.length : Int) (X.length : Int) (D : Int) = (X, l0.length + EN.length, 0))
  have HRX : Hid (Rd n64 w4 ax cx X) := hrx
  have HX64 : Hid (∀ x ∈ X, x < 18446744073709551616) := hX64
  have HX4 : Hid (Ex w w4) := hx4
  clear hrx hXD hXw hX64 hEN hx4
  go_wp2_with fail
  refine (enc_is ax _ cx X _ _ rfl HRX.out HX64.out (by omega) EN 0 HEE.out).mono ?_
  rintro e w5 ⟨vb, rfl, ⟨ab, cb, rfl, hbb⟩, hx5⟩
  obtain ⟨base, hbase⟩ : ∃ base, base = w5.heap.size := ⟨_, rfl⟩
  have hoe := own_empty w5 base (by omega)
  have hbx : Ex w5 (w5.alloc (.cells #[] 5)) := (Below.refl _ _).alloc (Nat.le_refl _) _
  have HX5 : Hid (Ex w w5) := HX4.out.trans hx5
  have HB0 : Hid (Byt (w5.alloc (.cells #[] 5)) p0 c0 l0) := (H0.out.below HX5.out).below hbx
  have HBB : Hid (Byt w5 ab cb EN) := hbb
  have HRX5 : Hid (Rd n64 w5 ax cx X) := HRX.out.below hx5
  have HOE : Hid (Own (w5.alloc (.cells #[] 5)) base (.slice (some ⟨w5.heap.size, 0, none⟩) 0 0) []) := hoe
  have HBa : Hid (base = w5.heap.size) := hbase
  have HBx : Hid (Below base w5 (w5.alloc (.cells #[] 5))) := (by rw [hbase]; exact hbx : Below base w5 (w5.alloc (.cells #[] 5)))
  clear hbb hx5 hoe hbx hbase
  go_wp2_with (at_builtin; refine wpList_append_byt rfl (.tmp 34) (.tmp 35) rfl base _ [] rfl HOE.out p0 _ c0 l0 rfl rfl HB0.out ?z1 ?z2 ?_)
  case z1 => simp; omega
  case z2 => have := HBa.out; simp; omega
  intro v6 w6 ho6 hg6
  have HB6 : Hid (Below base w5 w6) := step_below0 HBx.out (by have := HBa.out; simp; omega) HOE.out hg6
  have HO6 : Hid (Own w6 base v6 l0) := (by simpa using ho6 : Own w6 base v6 l0)
  have HBB6 : Hid (Byt w6 ab cb EN) := HBB.out.below (by have := HB6.out; rw [HBa.out] at this; exact this)
  clear ho6 hg6
  go_wp2_with (at_builtin; refine wpList_append_byt rfl (.tmp 36) (.tmp 37) rfl base _ l0 rfl HO6.out ab _ cb EN rfl rfl HBB6.out ?y1 ?y2 ?_)
  case y1 => omega
  case y2 => have := HB6.out.size; have := HBa.out; omega
  intro v7 w7 ho7 hg7
  have HB7 : Hid (Below base w5 w7) := step_below0 HB6.out (by have := HB6.out.size; have := HBa.out; omega) HO6.out hg7
  obtain ⟨ac, cc, hvc, hbc⟩ := ho7.byt
  obtain ⟨C, hC⟩ : ∃ C, C = l0 ++ EN := ⟨_, rfl⟩
  have hCl : C.length = l0.length + EN.length := by rw [hC]; simp
  rw [← hC] at hvc hbc
  have HDE2 : Hid (R.dec C (l0.length : Int) (X.length : Int) (D : Int) = (X, C.length, 0)) := (by rw [hCl, hC]; exact HDE.out : R.dec C (l0.length : Int) (X.length : Int) (D : Int) = (X, C.length, 0))
  have hClb : C.length ≤ 140737488355328 := by omega
  subst hvc
  have HBC : Hid (Byt w7 ac cc C) := hbc
  have HX7 : Hid (Ex w5 w7) := (by have := HB7.out; rw [HBa.out] at this; exact this : Ex w5 w7)
  clear ho7 hg7 hC hCl hbc
  go_wp2_with fail
  refine (dec_is ac _ cc C _ _ _ _ rfl HBC.out hClb X C.length 0 HDE2.out).mono ?_
  rintro e w8 ⟨vy, rfl, ⟨ay, cy, rfl, hry⟩, hx8⟩
  have HRY : Hid (Rd n64 w8 ay cy X) := hry
  have HRX8 : Hid (Rd n64 w8 ax cx X) := (HRX5.out.below HX7.out).below hx8
  have HX8 : Hid (Ex w5 w8) := HX7.out.trans hx8
  have hne : ((C.length : Int) != (C.length : Int)) = false := by simp
  clear hry hx8
  go_wp2_with fail
  refine (same64_any ax ay cx cy _ _ X X _ rfl rfl HRX8.out HRY.out true (by simp)).mono ?_
  rintro e w9 ⟨rfl, hx9⟩
  have HX9 : Hid (Ex w w9) := (HX5.out.trans HX8.out).trans hx9
  clear hx9
  go_wp2_with fail
  refine (within_any a3 100 _ w31 w32 (by omega) (by omega)).mono ?_
  rintro e wq ⟨N2, hN2, rfl, hw'⟩
  have hw'' := hw'.symm
  clear hw'
  subst hw''
  obtain ⟨⟨Z, kz, ez⟩, hz⟩ : ∃ r, R.dec A 0 (N2 : Int) (D : Int) = r := ⟨_, rfl⟩
  have HZ : Hid (R.dec A 0 (N2 : Int) (D : Int) = (Z, kz, ez)) := hz
  have HBA9 : Hid (Byt w9 p0 c0 A) := HA0.out.below HX9.out
  clear hz
  go_wp2_with fail
  refine (dec_is p0 _ c0 A _ _ _ _ HAl.out HBA9.out (by omega) Z kz ez HZ.out).mono ?_
  rintro e w10 ⟨vz, rfl, ⟨az, cz, rfl, hrz⟩, hx10⟩
  have HX10 : Hid (Ex w w10) := HX9.out.trans hx10
  have HBA10 : Hid (Byt w10 p0 c0 A) := HBA9.out.below hx10
  have HRZ : Hid (Rd n64 w10 az cz Z) := hrz
  clear hx10 hrz
  by_cases hez : ez = 0
  · subst hez
    obtain ⟨_, _, _, _, _, _, hZl, _, hkz, hZw, hZe⟩ := R.dec_ok HZ.out
    simp only [Int.toNat_natCast, Int.toNat_zero, List.drop_zero, Nat.sub_zero] at hZl hZw hZe
    obtain ⟨EZ, hEZ⟩ : ∃ EZ, EZ = R.enc D Z := ⟨_, rfl⟩
    have HEZE : Hid (R.encE Z (D : Int) = (EZ, 0)) := (by unfold R.encE; rw [if_neg (by simp; omega), hEZ]; simp : R.encE Z (D : Int) = (EZ, 0))
    have HEZ : Hid (EZ = A.take kz) := (by rw [hEZ]; exact hZe : EZ = A.take kz)
    have hZ64 : ∀ x ∈ Z, x < 18446744073709551616 := fun x hx => by
      have h1 := B.fits hZw x hx
      have h2 : 2 ^ D ≤ 2 ^ 32 := Nat.pow_le_pow_right (by decide) (by omega)
      omega
    have HZ64 : Hid (∀ x ∈ Z, x < 18446744073709551616) := hZ64
    have hZ100 : Z.length ≤ 100 := by omega
    have hkz2 : kz ≤ 100 := by have := HAl.out; omega
    have HKZ : Hid (kz ≤ 100) := hkz2
    obtain ⟨WZ, hWZ⟩ : ∃ WZ, B.width Z = WZ := ⟨_, rfl⟩
    have HWZ : Hid (B.width Z = WZ) := hWZ
    have HWD : Hid (WZ ≤ D) := (by rw [← hWZ]; exact hZw : WZ ≤ D)
    clear hZl hZw hZe hEZ hZ64 hWZ hkz hkz2
    go_wp2_with fail
    refine (enc_is az _ cz Z _ _ rfl HRZ.out HZ64.out (by omega) EZ 0 HEZE.out).mono ?_
    rintro e w11 ⟨ve, rfl, ⟨ae, ce, rfl, hbe⟩, hx11⟩
    have HBE : Hid (Byt w11 ae ce EZ) := hbe
    have HBA : Hid (Byt w11 p0 c0 A) := HBA10.out.below hx11
    have HBZ : Hid (Rd n64 w11 az cz Z) := HRZ.out.below hx11
    have HX11 : Hid (Ex w w11) := HX10.out.trans hx11
    clear hbe hx11
    go_wp2_with fail
    have hre := Ex.refl
    refine Rg.wp_rows [.inl (Value.int IntKind.i64 0), .inl (.bool false), .inl (.bool false), .inl (Value.int IntKind.i64 ↑kz), .inl (.bool false), .inl (.bool false), .inl (.bool false), .inl (Value.int IntKind.i64 ↑kz), .inl (Value.slice p0 100 c0), .inl (Value.int IntKind.i64 100), .inl (.bool false), .inl (.bool false), .inl (.bool false), .inl (Value.slice ae EZ.length ce), .inl (.string (str EZ)), .inl (Value.slice p0 100 c0), .inl (Value.int IntKind.i64 ↑kz), .inl (Value.slice p0 kz c0), .inl (.string (str EZ)), .inl (.bool false), .inl (.bool false), .inl (.bool false), .inl (Value.slice az Z.length cz), .inl (Value.int IntKind.i64 ↑WZ), .inl (Value.int IntKind.i64 ↑D), .inl (.bool false), .inl (.bool false)] (Ex w11) Ex 114 (by kernel_rfl) rfl (by kernel_rfl) ?st hre (Ex.drew _) ?goods ?fin
    case st => exact trivial
    case goods =>
      refine Rg.goods_cons (Rg.good_move hre rfl rfl rfl) ?_
      refine Rg.goods_cons (Rg.good_bin hre rfl rfl rfl rfl (fun _ => rfl) (fun w => by rfl)) ?_
      refine Rg.goods_cons (Rg.good_move hre rfl rfl rfl) ?_
      refine Rg.goods_cons (Rg.good_move hre rfl rfl rfl) ?_
      refine Rg.goods_cons (Rg.good_bin hre rfl rfl rfl rfl (fun _ => rfl) (fun w => by go_simp)) ?_
      refine Rg.goods_cons (Rg.good_pick false hre rfl rfl rfl rfl) ?_
      refine Rg.goods_cons (Rg.good_move hre rfl rfl rfl) ?_
      refine Rg.goods_cons (Rg.good_move hre rfl rfl rfl) ?_
      refine Rg.goods_cons (Rg.good_move hre rfl rfl rfl) ?_
      refine Rg.goods_cons (Rg.good_len hre rfl rfl (by rintro u w _ rfl; rfl)) ?_
      refine Rg.goods_cons (Rg.good_bin hre rfl rfl rfl rfl (fun _ => rfl) (fun w => by have := HKZ.out; go_simp; try omega)) ?_
      refine Rg.goods_cons (Rg.good_pick false hre rfl rfl rfl rfl) ?_
      refine Rg.goods_cons (Rg.good_move hre rfl rfl rfl) ?_
      refine Rg.goods_cons (Rg.good_move hre rfl rfl rfl) ?_
      refine Rg.goods_cons (Rg.good_conv hre rfl rfl (by rintro u wx hC rfl; exact run_str (HBE.out.below hC) rfl)) ?_
      refine Rg.goods_cons (Rg.good_move hre rfl rfl rfl) ?_
      refine Rg.goods_cons (Rg.good_move hre rfl rfl rfl) ?_
      refine Rg.goods_cons (Rg.good_slice2 hre rfl rfl rfl (by rintro u wx hC rfl; exact ⟨_, slice_row p0 _ c0 kz wx (by have := HKZ.out; omega) HCM.out, rfl⟩)) ?_
      refine Rg.goods_cons (Rg.good_conv hre rfl rfl (by rintro u wx hC rfl; rw [HEZ.out]; exact run_str ((HBA.out.below hC).take (by have := HKZ.out; have := HAl.out; omega)) (by have := HKZ.out; have := HAl.out; simp; omega))) ?_
      refine Rg.goods_cons (Rg.good_bin hre rfl rfl rfl rfl (fun _ => rfl) (fun w => by simp only [go_sem, str_toList, Sem.run_pure]; simp)) ?_
      refine Rg.goods_cons (Rg.good_pick false hre rfl rfl rfl rfl) ?_
      refine Rg.goods_cons (Rg.good_move hre rfl rfl rfl) ?_
      refine Rg.goods_cons (Rg.good_move hre rfl rfl rfl) ?_
      refine Rg.goods_cons (Rg.good_call1 Try.func17 (by kernel_rfl) rfl rfl rfl (by rintro u wx hC rfl; exact row_int (width_is az _ cz Z wx rfl (HBZ.out.below hC) HZ64.out (by omega) WZ HWZ.out) hC)) ?_
      refine Rg.goods_cons (Rg.good_move hre rfl rfl rfl) ?_
      refine Rg.goods_cons (Rg.good_bin hre rfl rfl rfl rfl (fun _ => rfl) (fun w => by have := HWD.out; go_simp)) ?_
      refine Rg.goods_cons (Rg.good_pick false hre rfl rfl rfl rfl) ?_
      exact Rg.goods_nil
    case fin =>
      intro wx hx
      simp only [Rg.later, Act.put, List.setIfInBounds_toArray, List.set_cons_succ, List.set_cons_zero]
      go_wp2_with fail
      refine (known_any _).mono ?_
      rintro e w12 ⟨rfl, hx12⟩
      go_wp2
      go_ret
      exact ⟨rfl, (HX11.out.trans hx).trans hx12⟩
  · have tez : ((ez : Int) == 0) = false := by simp; omega
    have tez2 : decide (ez = 0) = false := by simp; omega
    go_wp2_with fail
    refine (known_any _).mono ?_
    rintro e w12 ⟨rfl, hx12⟩
    go_wp2
    go_ret
    exact ⟨rfl, HX10.out.trans hx12⟩

set_option maxRecDepth 100000 in
set_option maxHeartbeats 2000000 in
theorem walk_f (p0 : Option Addr) (c0 : Nat) (l0 : List UInt8) (p1 : Option Addr) (c1 : Nat) (l1 : List (Int × Int)) (a2 a3 : Int) (w : World) (b0 : Byt w p0 c0 l0) (w0 : l0.length ≤ 140737488351232) (b1 : P2 w p1 c1 l1) (m1 : ∀ q ∈ l1, In64 q.1 ∧ In64 q.2) (w2 : -9223372036854775808 ≤ a2 ∧ a2 ≤ 9223372036854775807) (w3 : -9223372036854775808 ≤ a3 ∧ a3 ≤ 9223372036854775807) (h0 : l0.length ≤ 100) :
    Calls Try.prog 6 #[.slice p0 l0.length c0, .slice p1 l1.length c1, .int .i64 a2, .int .i64 a3] w fun e w' => e = .returned (.bool true) ∧ Below w.heap.size w w' := by
  obtain ⟨w21, w22⟩ := w2
  obtain ⟨w31, w32⟩ := w3
  have hcl0 := b0.1
  have hcm0 := b0.2.1
  have HCM : Hid (c0 ≤ maxLen) := hcm0
  unfold maxLen at hcm0
  obtain ⟨A, hA⟩ : ∃ A, A = l0.take 100 := ⟨_, rfl⟩
  have hAl : l0.length = A.length := by rw [hA]; simp; try omega
  have HAl : Hid (l0.length = A.length) := hAl
  have hA100 : A.length ≤ 100 := by rw [hA]; simp; omega
  have HA0 : Hid (Byt w p0 c0 A) := (by rw [hA]; rw [List.take_of_length_le h0]; exact b0 : Byt w p0 c0 A)
  have H0 : Hid (Byt w p0 c0 l0) := b0
  have H1 : Hid (P2 w p1 c1 l1) := b1
  have HM1 : Hid (∀ q ∈ l1, In64 q.1 ∧ In64 q.2) := m1
  have t100 : decide (100 < (l0.length : Int)) = false := by simp; omega
  skip
  clear b0 b1 m1 hA hAl
  go_enter Try.func6, Try.ntmps6
  go_wp2_with fail
  refine (within_any a2 32 _ w21 w22 (by omega) (by omega)).mono ?_
  rintro e wq ⟨D, hD, rfl, hw'⟩
  have hw'' := hw'.symm
  clear hw'
  subst hw''
  go_wp2_with fail
  refine (shaped_any p1 c1 l1 D _ H1.out HM1.out (by omega)).mono ?_
  rintro e w4 ⟨vx, X, rfl, hXl, hXD, ⟨ax, cx, rfl, hrx⟩, hx4⟩
  have hXw : B.width X ≤ D := (B.width_le D X).2 hXD
  have hX64 : ∀ x ∈ X, x < 18446744073709551616 := fun x hx => by
    have h1 := hXD x hx
    have h2 : 2 ^ D ≤ 2 ^ 32 := Nat.pow_le_pow_right (by decide) (by omega)
    omega
  obtain ⟨EN, hEN⟩ : ∃ EN, EN = R.enc D X := ⟨_, rfl⟩
  have HEE : Hid (R.encE X (D : Int) = (EN, 0)) := (by unfold R.encE; rw [if_neg (by simp; omega), hEN]; simp : R.encE X (D : Int) = (EN, 0))
  have hENl : EN.length ≤ 4000 := by
    have := enc_len6 (w := D) (by omega) X.length X (Nat.le_refl _)
    rw [← hEN] at this; omega
  have HDE : Hid (R.dec (l0 ++ EN) (l0.length : Int) (X.length : Int) (D : Int) = (X, l0.length + EN.length, 0)) := (by
    have := R.dec_enc (l := X) (w := D) (by omega) hXw (by omega) l0 []
    rw [List.append_nil, ← hEN] at this
    exact this : R.dec (l0 ++ EN) (l0.length : Int) (X.length : Int) (D : Int) = (X, l0.length + EN.length, 0))
  have HRX : Hid (Rd n64 w4 ax cx X) := hrx
  have HX64 : Hid (∀ x ∈ X, x < 18446744073709551616) := hX64
  have HX4 : Hid (Ex w w4) := hx4
  clear hrx hXD hXw hX64 hEN hx4
  go_wp2_with fail
  refine (enc_is ax _ cx X _ _ rfl HRX.out HX64.out (by omega) EN 0 HEE.out).mono ?_
  rintro e w5 ⟨vb, rfl, ⟨ab, cb, rfl, hbb⟩, hx5⟩
  obtain ⟨base, hbase⟩ : ∃ base, base = w5.heap.size := ⟨_, rfl⟩
  have hoe := own_empty w5 base (by omega)
  have hbx : Ex w5 (w5.alloc (.cells #[] 5)) := (Below.refl _ _).alloc (Nat.le_refl _) _
  have HX5 : Hid (Ex w w5) := HX4.out.trans hx5
  have HB0 : Hid (Byt (w5.alloc (.cells #[] 5)) p0 c0 l0) := (H0.out.below HX5.out).below hbx
  have HBB : Hid (Byt w5 ab cb EN) := hbb
  have HRX5 : Hid (Rd n64 w5 ax cx X) := HRX.out.below hx5
  have HOE : Hid (Own (w5.alloc (.cells #[] 5)) base (.slice (some ⟨w5.heap.size, 0, none⟩) 0 0) []) := hoe
  have HBa : Hid (base = w5.heap.size) := hbase
  have HBx : Hid (Below base w5 (w5.alloc (.cells #[] 5))) := (by rw [hbase]; exact hbx : Below base w5 (w5.alloc (.cells #[] 5)))
  clear hbb hx5 hoe hbx hbase
  go_wp2_with (at_builtin; refine wpList_append_byt rfl (.tmp 34) (.tmp 35) rfl base _ [] rfl HOE.out p0 _ c0 l0 rfl rfl HB0.out ?z1 ?z2 ?_)
  case z1 => simp; omega
  case z2 => have := HBa.out; simp; omega
  intro v6 w6 ho6 hg6
  have HB6 : Hid (Below base w5 w6) := step_below0 HBx.out (by have := HBa.out; simp; omega) HOE.out hg6
  have HO6 : Hid (Own w6 base v6 l0) := (by simpa using ho6 : Own w6 base v6 l0)
  have HBB6 : Hid (Byt w6 ab cb EN) := HBB.out.below (by have := HB6.out; rw [HBa.out] at this; exact this)
  clear ho6 hg6
  go_wp2_with (at_builtin; refine wpList_append_byt rfl (.tmp 36) (.tmp 37) rfl base _ l0 rfl HO6.out ab _ cb EN rfl rfl HBB6.out ?y1 ?y2 ?_)
  case y1 => omega
  case y2 => have := HB6.out.size; have := HBa.out; omega
  intro v7 w7 ho7 hg7
  have HB7 : Hid (Below base w5 w7) := step_below0 HB6.out (by have := HB6.out.size; have := HBa.out; omega) HO6.out hg7
  obtain ⟨ac, cc, hvc, hbc⟩ := ho7.byt
  obtain ⟨C, hC⟩ : ∃ C, C = l0 ++ EN := ⟨_, rfl⟩
  have hCl : C.length = l0.length + EN.length := by rw [hC]; simp
  rw [← hC] at hvc hbc
  have HDE2 : Hid (R.dec C (l0.length : Int) (X.length : Int) (D : Int) = (X, C.length, 0)) := (by rw [hCl, hC]; exact HDE.out : R.dec C (l0.length : Int) (X.length : Int) (D : Int) = (X, C.length, 0))
  have hClb : C.length ≤ 140737488355328 := by omega
  subst hvc
  have HBC : Hid (Byt w7 ac cc C) := hbc
  have HX7 : Hid (Ex w5 w7) := (by have := HB7.out; rw [HBa.out] at this; exact this : Ex w5 w7)
  clear ho7 hg7 hC hCl hbc
  go_wp2_with fail
  refine (dec_is ac _ cc C _ _ _ _ rfl HBC.out hClb X C.length 0 HDE2.out).mono ?_
  rintro e w8 ⟨vy, rfl, ⟨ay, cy, rfl, hry⟩, hx8⟩
  have HRY : Hid (Rd n64 w8 ay cy X) := hry
  have HRX8 : Hid (Rd n64 w8 ax cx X) := (HRX5.out.below HX7.out).below hx8
  have HX8 : Hid (Ex w5 w8) := HX7.out.trans hx8
  have hne : ((C.length : Int) != (C.length : Int)) = false := by simp
  clear hry hx8
  go_wp2_with fail
  refine (same64_any ax ay cx cy _ _ X X _ rfl rfl HRX8.out HRY.out true (by simp)).mono ?_
  rintro e w9 ⟨rfl, hx9⟩
  have HX9 : Hid (Ex w w9) := (HX5.out.trans HX8.out).trans hx9
  clear hx9
  go_wp2_with fail
  refine (within_any a3 100 _ w31 w32 (by omega) (by omega)).mono ?_
  rintro e wq ⟨N2, hN2, rfl, hw'⟩
  have hw'' := hw'.symm
  clear hw'
  subst hw''
  obtain ⟨⟨Z, kz, ez⟩, hz⟩ : ∃ r, R.dec A 0 (N2 : Int) (D : Int) = r := ⟨_, rfl⟩
  have HZ : Hid (R.dec A 0 (N2 : Int) (D : Int) = (Z, kz, ez)) := hz
  have HBA9 : Hid (Byt w9 p0 c0 A) := HA0.out.below HX9.out
  clear hz
  go_wp2_with fail
  refine (dec_is p0 _ c0 A _ _ _ _ HAl.out HBA9.out (by omega) Z kz ez HZ.out).mono ?_
  rintro e w10 ⟨vz, rfl, ⟨az, cz, rfl, hrz⟩, hx10⟩
  have HX10 : Hid (Ex w w10) := HX9.out.trans hx10
  have HBA10 : Hid (Byt w10 p0 c0 A) := HBA9.out.below hx10
  have HRZ : Hid (Rd n64 w10 az cz Z) := hrz
  clear hx10 hrz
  by_cases hez : ez = 0
  · subst hez
    obtain ⟨_, _, _, _, _, _, hZl, _, hkz, hZw, hZe⟩ := R.dec_ok HZ.out
    simp only [Int.toNat_natCast, Int.toNat_zero, List.drop_zero, Nat.sub_zero] at hZl hZw hZe
    obtain ⟨EZ, hEZ⟩ : ∃ EZ, EZ = R.enc D Z := ⟨_, rfl⟩
    have HEZE : Hid (R.encE Z (D : Int) = (EZ, 0)) := (by unfold R.encE; rw [if_neg (by simp; omega), hEZ]; simp : R.encE Z (D : Int) = (EZ, 0))
    have HEZ : Hid (EZ = A.take kz) := (by rw [hEZ]; exact hZe : EZ = A.take kz)
    have hZ64 : ∀ x ∈ Z, x < 18446744073709551616 := fun x hx => by
      have h1 := B.fits hZw x hx
      have h2 : 2 ^ D ≤ 2 ^ 32 := Nat.pow_le_pow_right (by decide) (by omega)
      omega
    have HZ64 : Hid (∀ x ∈ Z, x < 18446744073709551616) := hZ64
    have hZ100 : Z.length ≤ 100 := by omega
    have hkz2 : kz ≤ l0.length := by have := HAl.out; omega
    have HKZ : Hid (kz ≤ l0.length) := hkz2
    obtain ⟨WZ, hWZ⟩ : ∃ WZ, B.width Z = WZ := ⟨_, rfl⟩
    have HWZ : Hid (B.width Z = WZ) := hWZ
    have HWD : Hid (WZ ≤ D) := (by rw [← hWZ]; exact hZw : WZ ≤ D)
    clear hZl hZw hZe hEZ hZ64 hWZ hkz hkz2
    go_wp2_with fail
    refine (enc_is az _ cz Z _ _ rfl HRZ.out HZ64.out (by omega) EZ 0 HEZE.out).mono ?_
    rintro e w11 ⟨ve, rfl, ⟨ae, ce, rfl, hbe⟩, hx11⟩
    have HBE : Hid (Byt w11 ae ce EZ) := hbe
    have HBA : Hid (Byt w11 p0 c0 A) := HBA10.out.below hx11
    have HBZ : Hid (Rd n64 w11 az cz Z) := HRZ.out.below hx11
    have HX11 : Hid (Ex w w11) := HX10.out.trans hx11
    clear hbe hx11
    go_wp2_with fail
    have hre := Ex.refl
    refine Rg.wp_rows [.inl (Value.int IntKind.i64 0), .inl (.bool false), .inl (.bool false), .inl (Value.int IntKind.i64 ↑kz), .inl (.bool false), .inl (.bool false), .inl (.bool false), .inl (Value.int IntKind.i64 ↑kz), .inl (Value.slice p0 l0.length c0), .inl (Value.int IntKind.i64 ↑l0.length), .inl (.bool false), .inl (.bool false), .inl (.bool false), .inl (Value.slice ae EZ.length ce), .inl (.string (str EZ)), .inl (Value.slice p0 l0.length c0), .inl (Value.int IntKind.i64 ↑kz), .inl (Value.slice p0 kz c0), .inl (.string (str EZ)), .inl (.bool false), .inl (.bool false), .inl (.bool false), .inl (Value.slice az Z.length cz), .inl (Value.int IntKind.i64 ↑WZ), .inl (Value.int IntKind.i64 ↑D), .inl (.bool false), .inl (.bool false)] (Ex w11) Ex 114 (by kernel_rfl) rfl (by kernel_rfl) ?st hre (Ex.drew _) ?goods ?fin
    case st => exact trivial
    case goods =>
      refine Rg.goods_cons (Rg.good_move hre rfl rfl rfl) ?_
      refine Rg.goods_cons (Rg.good_bin hre rfl rfl rfl rfl (fun _ => rfl) (fun w => by rfl)) ?_
      refine Rg.goods_cons (Rg.good_move hre rfl rfl rfl) ?_
      refine Rg.goods_cons (Rg.good_move hre rfl rfl rfl) ?_
      refine Rg.goods_cons (Rg.good_bin hre rfl rfl rfl rfl (fun _ => rfl) (fun w => by go_simp)) ?_
      refine Rg.goods_cons (Rg.good_pick false hre rfl rfl rfl rfl) ?_
      refine Rg.goods_cons (Rg.good_move hre rfl rfl rfl) ?_
      refine Rg.goods_cons (Rg.good_move hre rfl rfl rfl) ?_
      refine Rg.goods_cons (Rg.good_move hre rfl rfl rfl) ?_
      refine Rg.goods_cons (Rg.good_len hre rfl rfl (by rintro u w _ rfl; rfl)) ?_
      refine Rg.goods_cons (Rg.good_bin hre rfl rfl rfl rfl (fun _ => rfl) (fun w => by have := HKZ.out; go_simp; try omega)) ?_
      refine Rg.goods_cons (Rg.good_pick false hre rfl rfl rfl rfl) ?_
      refine Rg.goods_cons (Rg.good_move hre rfl rfl rfl) ?_
      refine Rg.goods_cons (Rg.good_move hre rfl rfl rfl) ?_
      refine Rg.goods_cons (Rg.good_conv hre rfl rfl (by rintro u wx hC rfl; exact run_str (HBE.out.below hC) rfl)) ?_
      refine Rg.goods_cons (Rg.good_move hre rfl rfl rfl) ?_
      refine Rg.goods_cons (Rg.good_move hre rfl rfl rfl) ?_
      refine Rg.goods_cons (Rg.good_slice2 hre rfl rfl rfl (by rintro u wx hC rfl; exact ⟨_, slice_row p0 _ c0 kz wx (by have := HKZ.out; omega) HCM.out, rfl⟩)) ?_
      refine Rg.goods_cons (Rg.good_conv hre rfl rfl (by rintro u wx hC rfl; rw [HEZ.out]; exact run_str ((HBA.out.below hC).take (by have := HKZ.out; have := HAl.out; omega)) (by have := HKZ.out; have := HAl.out; simp; omega))) ?_
      refine Rg.goods_cons (Rg.good_bin hre rfl rfl rfl rfl (fun _ => rfl) (fun w => by simp only [go_sem, str_toList, Sem.run_pure]; simp)) ?_
      refine Rg.goods_cons (Rg.good_pick false hre rfl rfl rfl rfl) ?_
      refine Rg.goods_cons (Rg.good_move hre rfl rfl rfl) ?_
      refine Rg.goods_cons (Rg.good_move hre rfl rfl rfl) ?_
      refine Rg.goods_cons (Rg.good_call1 Try.func17 (by kernel_rfl) rfl rfl rfl (by rintro u wx hC rfl; exact row_int (width_is az _ cz Z wx rfl (HBZ.out.below hC) HZ64.out (by omega) WZ HWZ.out) hC)) ?_
      refine Rg.goods_cons (Rg.good_move hre rfl rfl rfl) ?_
      refine Rg.goods_cons (Rg.good_bin hre rfl rfl rfl rfl (fun _ => rfl) (fun w => by have := HWD.out; go_simp)) ?_
      refine Rg.goods_cons (Rg.good_pick false hre rfl rfl rfl rfl) ?_
      exact Rg.goods_nil
    case fin =>
      intro wx hx
      simp only [Rg.later, Act.put, List.setIfInBounds_toArray, List.set_cons_succ, List.set_cons_zero]
      go_wp2_with fail
      refine (known_any _).mono ?_
      rintro e w12 ⟨rfl, hx12⟩
      go_wp2
      go_ret
      exact ⟨rfl, (HX11.out.trans hx).trans hx12⟩
  · have tez : ((ez : Int) == 0) = false := by simp; omega
    have tez2 : decide (ez = 0) = false := by simp; omega
    go_wp2_with fail
    refine (known_any _).mono ?_
    rintro e w12 ⟨rfl, hx12⟩
    go_wp2
    go_ret
    exact ⟨rfl, HX10.out.trans hx12⟩

theorem walk (p0 : Option Addr) (c0 : Nat) (l0 : List UInt8) (p1 : Option Addr) (c1 : Nat) (l1 : List (Int × Int)) (a2 : Int) (a3 : Int) (w : World) (b0 : Byt w p0 c0 l0) (w0 : l0.length ≤ 140737488351232) (b1 : P2 w p1 c1 l1) (m1 : ∀ q ∈ l1, In64 q.1 ∧ In64 q.2) (w2 : -9223372036854775808 ≤ a2 ∧ a2 ≤ 9223372036854775807) (w3 : -9223372036854775808 ≤ a3 ∧ a3 ≤ 9223372036854775807) :
    Calls Try.prog 6 #[.slice p0 l0.length c0, .slice p1 l1.length c1, .int .i64 a2, .int .i64 a3] w fun e w' => e = .returned (.bool true) ∧ Below w.heap.size w w' := by
  by_cases h1 : 100 < l0.length
  · exact walk_l p0 c0 l0 p1 c1 l1 a2 a3 w b0 w0 b1 m1 w2 w3 h1
  · exact walk_f p0 c0 l0 p1 c1 l1 a2 a3 w b0 w0 b1 m1 w2 w3 (by omega)
end Go.Proofs.Ytdkfmeneacbhjaa.runsBack
