/-
  The walk of the law RunsShapes: whatever it is given, it returns true.
-/
import Derived.Test.YtdkfmeneacbhjaaRunsBackWalk
namespace Go.Proofs.Ytdkfmeneacbhjaa.runsShapes
open Go.RowKit
open runsBack (enc_len6)
set_option linter.unusedVariables false

theorem xor_nat (k : IntKind) (j : Nat) (hj : j ≤ k.bits) (hk : ∀ n : Int, 0 ≤ n → n < 2 ^ j → k.wrap n = n) (a b : Nat) (ha : a < 2 ^ j) (hb : b < 2 ^ j) :
    bits .xor k a b = ((a ^^^ b : Nat) : Int) := by
  have hp : 2 ^ j ≤ 2 ^ k.bits := Nat.pow_le_pow_right (by decide) hj
  have ha' : a % 2 ^ k.bits = a := Nat.mod_eq_of_lt (Nat.lt_of_lt_of_le ha hp)
  have hb' : b % 2 ^ k.bits = b := Nat.mod_eq_of_lt (Nat.lt_of_lt_of_le hb hp)
  have cast : ∀ n : Nat, n < 2 ^ j → ((n : Nat) : Int) < 2 ^ j := fun n h => by exact_mod_cast h
  simp only [bits, BitVec.ofInt_natCast, BitVec.toNat_xor, BitVec.toNat_ofNat, ha', hb']
  exact hk _ (Int.natCast_nonneg _) (cast _ (Nat.xor_lt_two_pow ha hb))

set_option maxRecDepth 100000 in
set_option maxHeartbeats 2000000 in
theorem walk (p0 : Option Addr) (c0 : Nat) (l0 : List (Int × Int)) (a1 : Int) (a2 : Int) (a3 : Int) (a4 : Bool) (w : World) (b0 : P2 w p0 c0 l0) (m0 : ∀ q ∈ l0, In64 q.1 ∧ In64 q.2) (w1 : -9223372036854775808 ≤ a1 ∧ a1 ≤ 9223372036854775807) (w2 : -9223372036854775808 ≤ a2 ∧ a2 ≤ 9223372036854775807) (w3 : 0 ≤ a3 ∧ a3 ≤ 255) :
    Calls Try.prog 5 #[.slice p0 l0.length c0, .int .i64 a1, .int .i64 a2, .int .u8 a3, .bool a4] w fun e w' => e = .returned (.bool true) ∧ Below w.heap.size w w' := by
  obtain ⟨w11, w12⟩ := w1
  obtain ⟨w21, w22⟩ := w2
  obtain ⟨tu, rfl⟩ := Int.eq_ofNat_of_zero_le w3.1
  have htu : tu < 256 := by omega
  have H0 : Hid (P2 w p0 c0 l0) := b0
  have HM0 : Hid (∀ q ∈ l0, In64 q.1 ∧ In64 q.2) := m0
  clear b0 m0 w3
  go_enter Try.func5, Try.ntmps5
  go_wp2_with fail
  refine (within_any a1 32 _ w11 w12 (by omega) (by omega)).mono ?_
  rintro e wq ⟨D, hD, rfl, hw'⟩
  have hw'' := hw'.symm
  clear hw'
  subst hw''
  go_wp2_with fail
  refine (shaped_any p0 c0 l0 D _ H0.out HM0.out (by omega)).mono ?_
  rintro e w4 ⟨vx, X, rfl, hXl, hXD, ⟨ax, cx, rfl, hrx⟩, hx4⟩
  have hXw : B.width X ≤ D := (B.width_le D X).2 hXD
  have h2D : 2 ^ D ≤ 2 ^ 32 := Nat.pow_le_pow_right (by decide) (by omega)
  have HX64 : Hid (∀ x ∈ X, x < 18446744073709551616) := (fun x hx => by have h1 := hXD x hx; omega : ∀ x ∈ X, x < 18446744073709551616)
  have HX4 : Hid (Ex w w4) := hx4
  have HRX : Hid (Rd n64 w4 ax cx X) := hrx
  obtain ⟨EA, hEA⟩ : ∃ EA, EA = R.enc D X := ⟨_, rfl⟩
  have HEA : Hid (R.encE X (D : Int) = (EA, 0)) := (by unfold R.encE; rw [if_neg (by simp; omega), hEA]; simp : R.encE X (D : Int) = (EA, 0))
  have hEAl : EA.length ≤ 4000 := by
    have := enc_len6 (w := D) (by omega) X.length X (Nat.le_refl _)
    rw [← hEA] at this; omega
  clear hXD hrx hx4 hXw h2D hEA
  go_wp2_with fail
  refine (enc_is ax _ cx X _ _ rfl HRX.out HX64.out (by omega) EA 0 HEA.out).mono ?_
  rintro e w5 ⟨va, rfl, hva, hx5⟩
  go_wp2_with fail
  refine (renc_own ax _ cx X _ _ rfl (HRX.out.below hx5) HX64.out (by omega) EA 0 HEA.out).mono ?_
  rintro e w6 ⟨vb, rfl, hob, hx6⟩
  have hca := conv_row (IsByt.stands _ _ _ _ hva hx6)
  have hcb := conv_row hob.isByt
  have HOB : Hid (Own w6 w5.heap.size vb EA) := hob
  have HX5 : Hid (Ex w w5) := HX4.out.trans hx5
  have HX6 : Hid (Ex w5 w6) := hx6
  have HRX5 : Hid (Rd n64 w5 ax cx X) := HRX.out.below hx5
  obtain ⟨base, hbase⟩ : ∃ base, base = w5.heap.size := ⟨_, rfl⟩
  rw [← hbase] at HOB
  have HBa : Hid (base = w5.heap.size) := hbase
  clear hva hob hx5 hx6 hbase
  by_cases hE0 : EA.length = 0
  · obtain rfl : EA = [] := List.length_eq_zero_iff.1 hE0
    obtain ⟨ab, cb, rfl, hbb⟩ := HOB.out.byt
    have HT : Hid (Byt w6 ab cb []) := hbb
    have HTl : Hid (0 = ([] : List UInt8).length) := (rfl : 0 = ([] : List UInt8).length)
    have HXT : Hid (Ex w w6) := HX5.out.trans HX6.out
    clear hE0 hbb
    clear hcb
    have hcb : (convert 26 9 (Value.slice ab 0 cb)).run Try.prog w6 = .ok (.string (str [])) w6 := conv_row ⟨ab, cb, rfl, HT.out⟩
    obtain ⟨⟨Z, kz, ez⟩, hz⟩ : ∃ r, R.dec [] 0 (X.length : Int) (D : Int) = r := ⟨_, rfl⟩
    have HZ : Hid (R.dec [] 0 (X.length : Int) (D : Int) = (Z, kz, ez)) := hz
    clear hz
    go_wp2_with fail
    refine (dec_is ab _ cb [] _ _ _ _ HTl.out HT.out (by have := HTl.out; omega) Z kz ez HZ.out).mono ?_
    rintro e w10 ⟨vz, rfl, hvz, hx10⟩
    go_wp2_with fail
    refine (rdec_is ab _ cb [] _ _ _ _ HTl.out (HT.out.below hx10) (by have := HTl.out; omega) Z kz ez HZ.out).mono ?_
    rintro e w11 ⟨vu, rfl, ⟨au, cu, rfl, hru⟩, hx11⟩
    obtain ⟨az, cz, rfl, hrz⟩ := IsRd.stands _ _ _ _ hvz hx11
    have HRU : Hid (Rd n64 w11 au cu Z) := hru
    have HRZ : Hid (Rd n64 w11 az cz Z) := hrz
    have HX11 : Hid (Ex w w11) := (HXT.out.trans hx10).trans hx11
    clear hvz hx10 hx11 hru hrz
    go_wp2_with fail
    refine (same64_any az au cz cu _ _ Z Z _ rfl rfl HRZ.out HRU.out true (by simp)).mono ?_
    rintro e w12 ⟨rfl, hx12⟩
    go_wp2_with fail
    refine (known_any _).mono ?_
    rintro e w13 ⟨rfl, hx13⟩
    go_wp2
    go_ret
    exact ⟨rfl, (HX11.out.trans hx12).trans hx13⟩
  · obtain ⟨g, cb, rfl, hg1, hg2, hg3, hg4⟩ := OwnR.form (e := 5) (enc := n8) HOB.out (by omega)
    have t0 : decide (0 < (EA.length : Int)) = true := by simp; omega
    have t02 : decide (0 < EA.length) = true := by simp; omega
    have hhi : ((EA.length - 1 : Nat) : Int) = (EA.length : Int) - 1 := by omega
    go_wp2_with fail
    clear hca hcb
    refine (within_any a2 ((EA.length : Int) - 1) _ w21 w22 (by omega) (by omega)).mono ?_
    rintro e wq ⟨k, hk, rfl, hw'⟩
    have hw'' := hw'.symm
    clear hw'
    subst hw''
    have hkl : k < EA.length := by omega
    have hki : (k : Int) < (EA.length : Int) := by omega
    have hcell := OwnR.cell (e := 5) (enc := n8) HOB.out rfl hkl
    have hfz := OwnR.frozen (e := 5) (enc := n8) k HOB.out rfl
    obtain ⟨y, hy⟩ : ∃ y, y = EA[k].toNat := ⟨_, rfl⟩
    have hy8 : y < 256 := by rw [hy]; exact UInt8.toNat_lt _
    have hcy : w6.cell? ⟨g, k, none⟩ = some (.int .u8 (y : Int)) := by rw [hcell, hy]
    obtain ⟨x8, hx8⟩ : ∃ x8, x8 = y ^^^ tu := ⟨_, rfl⟩
    have hxl : x8 < 256 := by rw [hx8]; exact Nat.xor_lt_two_pow (n := 8) (by omega) (by omega)
    have hxor : bits .xor .u8 (y : Int) (tu : Int) = (x8 : Int) := by rw [hx8]; exact xor_nat .u8 8 (by decide) wraps_u8 y tu (by omega) (by omega)
    obtain ⟨EC, hEC⟩ : ∃ EC, EC = EA.set k (UInt8.ofNat x8) := ⟨_, rfl⟩
    have hset : Own (w6.setCell ⟨g, k, none⟩ (.int .u8 (x8 : Int))) base (.slice (some ⟨g, 0, none⟩) EA.length cb) EC := by
      have := OwnR.set (e := 5) (enc := n8) (k := k) (v := .int .u8 (x8 : Int)) HOB.out rfl (UInt8.ofNat x8) (by simp [n8]; omega)
      rw [hEC]; exact this
    have hECl : EA.length = EC.length := by rw [hEC]; simp
    obtain ⟨w7, hw7⟩ : ∃ w7, w7 = w6.setCell ⟨g, k, none⟩ (.int .u8 (x8 : Int)) := ⟨_, rfl⟩
    have hx67 : Below base w5 w7 := by rw [hw7]; exact Below.setCell (by rw [HBa.out]; exact HX6.out) hg1 _
    rw [← hw7] at hset
    have HO7 : Hid (Own w7 base (.slice (some ⟨g, 0, none⟩) EA.length cb) EC) := hset
    have HW7 : Hid (w6.setCell ⟨g, k, none⟩ (.int .u8 (x8 : Int)) = w7) := hw7.symm
    have HECl : Hid (EA.length = EC.length) := hECl
    have HX7 : Hid (Ex w w7) := HX5.out.trans (by have := hx67; rw [HBa.out] at this; exact this)
    have hb7 := HO7.out.bytS
    have HB7 : Hid (Byt w7 (some ⟨g, 0, none⟩) cb EC) := hb7
    clear hcell hy hx8 hEC hset hECl hw7 hx67 hb7
    cases a4
    · have HT : Hid (Byt w7 (some ⟨g, 0, none⟩) cb EC) := HB7
      have HTl : Hid (EA.length = EC.length) := HECl
      have HXT : Hid (Ex w w7) := HX7
      obtain ⟨⟨Z, kz, ez⟩, hz⟩ : ∃ r, R.dec EC 0 (X.length : Int) (D : Int) = r := ⟨_, rfl⟩
      have HZ : Hid (R.dec EC 0 (X.length : Int) (D : Int) = (Z, kz, ez)) := hz
      clear hz
      go_wp2_with fail
      rw [HW7.out]
      refine (dec_is (some ⟨g, 0, none⟩) _ cb EC _ _ _ _ HTl.out HT.out (by have := HTl.out; omega) Z kz ez HZ.out).mono ?_
      rintro e w10 ⟨vz, rfl, hvz, hx10⟩
      go_wp2_with fail
      refine (rdec_is (some ⟨g, 0, none⟩) _ cb EC _ _ _ _ HTl.out (HT.out.below hx10) (by have := HTl.out; omega) Z kz ez HZ.out).mono ?_
      rintro e w11 ⟨vu, rfl, ⟨au, cu, rfl, hru⟩, hx11⟩
      obtain ⟨az, cz, rfl, hrz⟩ := IsRd.stands _ _ _ _ hvz hx11
      have HRU : Hid (Rd n64 w11 au cu Z) := hru
      have HRZ : Hid (Rd n64 w11 az cz Z) := hrz
      have HX11 : Hid (Ex w w11) := (HXT.out.trans hx10).trans hx11
      clear hvz hx10 hx11 hru hrz
      go_wp2_with fail
      refine (same64_any az au cz cu _ _ Z Z _ rfl rfl HRZ.out HRU.out true (by simp)).mono ?_
      rintro e w12 ⟨rfl, hx12⟩
      go_wp2_with fail
      refine (known_any _).mono ?_
      rintro e w13 ⟨rfl, hx13⟩
      go_wp2
      go_ret
      exact ⟨rfl, (HX11.out.trans hx12).trans hx13⟩
    · obtain ⟨T, hT⟩ : ∃ T, T = EC.take k := ⟨_, rfl⟩
      have HT : Hid (Byt w7 (some ⟨g, 0, none⟩) cb T) := (by rw [hT]; exact HB7.out.take (by have := HECl.out; omega) : Byt w7 (some ⟨g, 0, none⟩) cb T)
      have HTl : Hid (k = T.length) := (by rw [hT]; have := HECl.out; simp; omega : k = T.length)
      have HXT : Hid (Ex w w7) := HX7
      have hkc : (k : Int) ≤ (cb : Int) := by omega
      clear hT
      obtain ⟨⟨Z, kz, ez⟩, hz⟩ : ∃ r, R.dec T 0 (X.length : Int) (D : Int) = r := ⟨_, rfl⟩
      have HZ : Hid (R.dec T 0 (X.length : Int) (D : Int) = (Z, kz, ez)) := hz
      clear hz
      go_wp2_with fail
      rw [HW7.out]
      refine (dec_is (some ⟨g, 0, none⟩) _ cb T _ _ _ _ HTl.out HT.out (by have := HTl.out; omega) Z kz ez HZ.out).mono ?_
      rintro e w10 ⟨vz, rfl, hvz, hx10⟩
      go_wp2_with fail
      refine (rdec_is (some ⟨g, 0, none⟩) _ cb T _ _ _ _ HTl.out (HT.out.below hx10) (by have := HTl.out; omega) Z kz ez HZ.out).mono ?_
      rintro e w11 ⟨vu, rfl, ⟨au, cu, rfl, hru⟩, hx11⟩
      obtain ⟨az, cz, rfl, hrz⟩ := IsRd.stands _ _ _ _ hvz hx11
      have HRU : Hid (Rd n64 w11 au cu Z) := hru
      have HRZ : Hid (Rd n64 w11 az cz Z) := hrz
      have HX11 : Hid (Ex w w11) := (HXT.out.trans hx10).trans hx11
      clear hvz hx10 hx11 hru hrz
      go_wp2_with fail
      refine (same64_any az au cz cu _ _ Z Z _ rfl rfl HRZ.out HRU.out true (by simp)).mono ?_
      rintro e w12 ⟨rfl, hx12⟩
      go_wp2_with fail
      refine (known_any _).mono ?_
      rintro e w13 ⟨rfl, hx13⟩
      go_wp2
      go_ret
      exact ⟨rfl, (HX11.out.trans hx12).trans hx13⟩
end Go.Proofs.Ytdkfmeneacbhjaa.runsShapes
