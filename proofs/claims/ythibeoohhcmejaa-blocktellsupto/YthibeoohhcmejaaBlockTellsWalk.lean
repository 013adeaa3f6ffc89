/-
  The walk of the law BlockTells: whatever texts, bytes and places it is given (of bulk at most 1048576), it returns true.
-/
import Derived.Test.YthibeoohhcmejaaAlike
import Derived.Test.YthibeoohhcmejaaTwo
namespace Go.Proofs.Ythibeoohhcmejaa.blockTells
open Go.RowKit
set_option linter.unusedVariables false

theorem rseal_is (a : Option Addr) (n cap : Nat) (l : List UInt8) (w : World) (hn : n = l.length) (hB : Byt w a cap l) (hl : l.length ≤ 1048576) (r : List UInt8) (hr : K.frm l = r) :
    Calls Try.prog 17 #[.slice a n cap] w fun e w' => ∃ v, e = .returned (.tuple #[v, .int .i64 0]) ∧ IsByt r v w' ∧ Ex w w' := by
  subst hn; subst hr
  refine (rseal_any a cap l w hB hl).mono ?_
  rintro e w' ⟨v, rfl, ho, hx⟩
  exact ⟨v, rfl, ho.isByt, hx⟩

set_option maxRecDepth 100000 in
set_option maxHeartbeats 4000000 in
theorem walk (s0 : List UInt8) (p1 : Option Addr) (c1 : Nat) (l1 : List (List UInt8)) (p2 : Option Addr) (c2 : Nat) (l2 : List UInt8) (a3 : Int) (a4 : Int) (a5 : Int) (w : World) (w0 : s0.length ≤ 1048576) (b1 : Rd st w p1 c1 l1) (m1 : ∀ x ∈ l1, x.length ≤ maxLen) (b2 : Byt w p2 c2 l2) (w2 : l2.length ≤ 1048576) (w3 : -9223372036854775808 ≤ a3 ∧ a3 ≤ 9223372036854775807) (w4 : 0 ≤ a4 ∧ a4 ≤ 255) (w5 : -9223372036854775808 ≤ a5 ∧ a5 ≤ 9223372036854775807) :
    Calls Try.prog 4 #[.string (str s0), .slice p1 l1.length c1, .slice p2 l2.length c2, .int .i64 a3, .int .u8 a4, .int .i64 a5] w fun e w' => e = .returned (.bool true) ∧ Below w.heap.size w w' := by
  obtain ⟨v3, u3⟩ := w3
  obtain ⟨v5, u5⟩ := w5
  obtain ⟨t, rfl⟩ := Int.eq_ofNat_of_zero_le w4.1
  have ht8 : t < 256 := by omega
  clear w4
  obtain ⟨base, hbase⟩ : ∃ base, base = w.heap.size := ⟨_, rfl⟩
  have HBa : Hid (base = w.heap.size) := hbase
  obtain ⟨A, hA⟩ : ∃ A, s0.take 200 = A := ⟨_, rfl⟩
  have hAl : A.length ≤ 200 := by rw [← hA]; simp; omega
  obtain ⟨F, hF⟩ : ∃ F, K.frm A = F := ⟨_, rfl⟩
  obtain ⟨L, hL⟩ : ∃ L, cutTexts l1 = L := ⟨_, rfl⟩
  obtain ⟨B, hB⟩ : ∃ B, K.written (cutTexts l1) = B := ⟨_, rfl⟩
  have hBl : B.length ≤ 2120 := by
    rw [← hB]
    have h1 := written_short (cutTexts l1) (cutTexts_short l1)
    have h2 := cutTexts_len l1
    omega
  have HA : Hid (s0.take 200 = A) := hA
  have HFr : Hid (K.frm A = F) := hF
  have H1 : Hid (Rd st w p1 c1 l1) := b1
  have HS : Hid (∀ x ∈ l1, x.length ≤ maxLen) := m1
  have HB : Hid (K.written (cutTexts l1) = B) := hB
  have HB2 : Hid (Byt w p2 c2 l2) := b2
  have hc1 := b1.1
  have hc1m := b1.2.1
  have hc2 := b2.1
  have hc2m := b2.2.1
  unfold maxLen at hc1m hc2m
  clear b1 m1 b2 hA hF hL hB hbase
  go_enter Try.func4, Try.ntmps4
  go_wp2_with fail
  refine (written_is p1 _ c1 l1 _ rfl H1.out HS.out B HB.out).mono ?_
  rintro e w1 ⟨v13, rfl, ho1, hx1⟩
  rw [← HBa.out] at ho1
  obtain ⟨a13, c13, hv13, hb13⟩ := ho1.byt
  subst hv13
  have h13c := hb13.1
  have h13m := hb13.2.1
  unfold maxLen at h13m
  have HO1 : Hid (Own w1 base (.slice a13 B.length c13) B) := ho1
  have HX1 : Hid (Ex w w1) := hx1
  clear ho1 hx1 hb13
  by_cases hB0 : B.length = 0
  · have t0 : decide (0 < (B.length : Int)) = false := decide_eq_false (by omega)
    have t0' : decide (0 < B.length) = false := decide_eq_false (by omega)
    have hbz : B.length ≤ 0 := by omega
    obtain ⟨XB, hXB⟩ : ∃ XB, XB = B := ⟨_, rfl⟩
    have hXl : XB.length ≤ 2120 := by rw [hXB]; exact hBl
    obtain ⟨Z, hZ⟩ : ∃ Z, XB ++ l2 = Z := ⟨_, rfl⟩
    have hZl : Z.length = XB.length + l2.length := by rw [← hZ]; simp
    have HZ : Hid (XB ++ l2 = Z) := hZ
    have hz1 : Z.length ≤ 1050696 := by omega
    have hrm := room_len Z
    have hrm1 : (room Z).length ≤ Z.length + 80 := by omega
    have hrm2 : Z.length + 80 ≤ (room Z).length := by omega
    obtain ⟨⟨X, K1, E1⟩, ho⟩ : ∃ r, K.opens Z a5 = r := ⟨_, rfl⟩
    obtain ⟨⟨R, T, E2⟩, ha⟩ : ∃ r, K.all Z = r := ⟨_, rfl⟩
    have HOpen : Hid (K.opens Z a5 = (X, K1, E1)) := ho
    have HAll : Hid (K.all Z = (R, T, E2)) := ha
    clear hZ hZl hrm ho ha
    obtain ⟨wx, hwx⟩ : ∃ wx, wx = w1 := ⟨_, rfl⟩
    have HOx : Hid (Own wx base (.slice a13 B.length c13) XB) := (by rw [hwx, hXB]; exact HO1.out : Own wx base (.slice a13 B.length c13) XB)
    have HXx : Hid (Ex w wx) := (by rw [hwx]; exact HX1.out : Ex w wx)
    rw [← hwx]
    clear hwx hXB hB0 HO1 HX1
    have hs1 : base ≤ wx.heap.size := by rw [HBa.out]; exact HXx.out.size
    have hbx : Below base w wx := by rw [HBa.out]; exact HXx.out
    have hox := HOx.out
    have hb2' := HB2.out.below HXx.out
    go_wp2_with (at_builtin; refine wpList_append_byt rfl (.tmp 52) (.tmp 53) rfl base _ XB rfl hox p2 _ c2 l2 rfl rfl hb2' (by omega) hs1 ?_; intro v13 w3 ho3 hg3; have hb3 : Below base w w3 := step_below0 hbx hs1 hox hg3; clear hg3; rw [HZ.out] at ho3; obtain ⟨a13, c13, hv13, hb13⟩ := ho3.byt; subst hv13)
    have HX3 : Hid (Ex w w3) := (by rw [HBa.out] at hb3; exact hb3 : Ex w w3)
    have HB13 : Hid (Byt w3 a13 c13 Z) := hb13
    clear hox hb2' hs1 hbx ho3 hb3 hb13
    refine (roomy_any a13 c13 Z _ HB13.out (by omega)).mono ?_
    rintro e w4 ⟨af, cf, rfl, hff, hx4⟩
    have hcf := hff.1
    have hcf2 := hff.2.1
    have hcf3 : cf ≤ 9223372036854775807 := by unfold maxLen at hcf2; omega
    have hle : (Z.length : Int) ≤ (cf : Int) := by omega
    have hf : Byt w4 af cf Z := by
      have := hff.take (k := Z.length) (by omega)
      rw [room_take] at this
      exact this
    have HF : Hid (Byt w4 af cf Z) := hf
    have HFF : Hid (Byt w4 af cf (room Z)) := hff
    have HX4 : Hid (Ex w w4) := HX3.out.trans hx4
    have HB4 : Hid (Byt w4 a13 c13 Z) := HB13.out.below hx4
    clear hff hf hx4 HB13
    go_wp2_with fail
    refine (few_is s0 A _ (by unfold maxLen; omega) HA.out).mono ?_
    rintro e wq ⟨rfl, hw⟩
    have hw' := hw.symm; clear hw; subst hw'
    go_wp2_with (refine wpList_bytes_of rfl (.tmp 63) rfl A rfl (by unfold maxLen; omega) ?_; intro g5 c5 w5 hb5 hg5 hx5)
    refine (seal_is _ _ c5 A _ rfl hb5 (by omega) F HFr.out).mono ?_
    rintro e w6 ⟨v17, rfl, ⟨a17, c17, rfl, hb17⟩, hx6⟩
    have hx46 : Ex w4 w6 := hx5.trans hx6
    clear hb5 hg5 hx5 hx6
    go_wp2_with fail
    refine (few_is s0 A _ (by unfold maxLen; omega) HA.out).mono ?_
    rintro e wq ⟨rfl, hw⟩
    have hw' := hw.symm; clear hw; subst hw'
    go_wp2_with (refine wpList_bytes_of rfl (.tmp 70) rfl A rfl (by unfold maxLen; omega) ?_; intro g7 c7 w7 hb7 hg7 hx7)
    refine (rseal_is _ _ c7 A _ rfl hb7 (by omega) F HFr.out).mono ?_
    rintro e w8 ⟨v19, rfl, ⟨a19, c19, rfl, hb19⟩, hx8⟩
    have hx68 : Ex w6 w8 := hx7.trans hx8
    have HX8 : Hid (Ex w4 w8) := hx46.trans hx68
    have HB17 : Hid (Byt w8 a17 c17 F) := hb17.below hx68
    have HB19 : Hid (Byt w8 a19 c19 F) := hb19
    clear hb7 hg7 hx7 hx8 hb17 hb19 hx46 hx68
    go_wp2_with fail
    refine (open_is af _ cf Z a5 _ rfl (HF.out.below HX8.out) (by omega) v5 u5 X K1 E1 HOpen.out).mono ?_
    rintro e w9 ⟨v21, rfl, ⟨a21, c21, rfl, hb21⟩, hx9⟩
    go_wp2_with fail
    refine (ropen_is a13 _ c13 Z a5 _ rfl ((HB4.out.below HX8.out).below hx9) (by omega) X K1 E1 HOpen.out).mono ?_
    rintro e w10 ⟨v24, rfl, ho24, hx10⟩
    obtain ⟨a24, c24, hv24, hb24⟩ := ho24.byt
    subst hv24
    have HX10 : Hid (Ex w4 w10) := (HX8.out.trans hx9).trans hx10
    have HB17a : Hid (Byt w10 a17 c17 F) := (HB17.out.below hx9).below hx10
    have HB19a : Hid (Byt w10 a19 c19 F) := (HB19.out.below hx9).below hx10
    have HB21 : Hid (Byt w10 a21 c21 X) := hb21.below hx10
    have HB24 : Hid (Byt w10 a24 c24 X) := hb24
    clear hx9 hx10 hb21 hb24 ho24 HB17 HB19
    go_wp2_with fail
    refine (all_is af _ cf Z _ rfl (HF.out.below HX10.out) (by omega) R T E2 HAll.out).mono ?_
    rintro e w11 ⟨v27, rfl, ⟨a27, c27, rfl, hb27⟩, hx11⟩
    go_wp2_with fail
    refine (rall_is a13 _ c13 Z _ rfl ((HB4.out.below HX10.out).below hx11) (by omega) R T E2 HAll.out).mono ?_
    rintro e w12 ⟨v30, rfl, ⟨a30, c30, rfl, hb30⟩, hx12⟩
    have HX12 : Hid (Ex w4 w12) := (HX10.out.trans hx11).trans hx12
    have hx1012 := hx11.trans hx12
    have k1 := run_str (n := F.length) (HB17a.out.below hx1012) rfl
    have k2 := run_str (n := F.length) (HB19a.out.below hx1012) rfl
    have k3 := run_str (n := X.length) (HB21.out.below hx1012) rfl
    have k4 := run_str (n := X.length) (HB24.out.below hx1012) rfl
    have HB27 : Hid (RdB w12 a27 c27 R) := hb27.below hx12
    have HB30 : Hid (RdB w12 a30 c30 R) := hb30
    clear hx11 hx12 hx1012 hb27 hb30 HB17a HB19a HB21 HB24
    go_wp2_with fail
    refine (alike_is a27 a30 _ _ c27 c30 R R _ rfl rfl HB27.out HB30.out true (by simp)).mono ?_
    rintro e w13 ⟨rfl, hx13⟩
    go_wp2_with fail
    refine (intact_yes af a13 cf c13 _ Z _ rfl (HFF.out.below (HX12.out.trans hx13)) (HB4.out.below (HX12.out.trans hx13)) (by omega)).mono ?_
    rintro e w14 ⟨rfl, hx14⟩
    go_wp2_with fail
    refine (known_any _).mono ?_
    rintro e w15 ⟨rfl, hx15⟩
    go_wp2
    go_ret
    exact ⟨rfl, (((HX4.out.trans HX12.out).trans hx13).trans hx14).trans hx15⟩
  · have t0 : decide (0 < (B.length : Int)) = true := decide_eq_true (by omega)
    have t0' : decide (0 < B.length) = true := decide_eq_true (by omega)
    have hbp : 1 ≤ B.length := by omega
    obtain ⟨g7, d7, hv7, hg7b, hg7s, hg7c, hg7m⟩ := HO1.out.form (by omega)
    simp only [Value.slice.injEq, true_and] at hv7
    obtain ⟨rfl, hc7⟩ := hv7
    clear hc7 hg7c hg7m d7 hB0 hg7s
    go_wp2_with fail
    refine (within_any a3 ((B.length : Int) - 1) _ v3 u3 (by omega) (by omega)).mono ?_
    rintro e wq ⟨n, hn, rfl, hw⟩
    have hw' := hw.symm; clear hw; subst hw'
    have hnl : n < B.length := by omega
    have hni : (n : Int) < (B.length : Int) := by omega
    obtain ⟨y, hy⟩ : ∃ y, y = B[n].toNat := ⟨_, rfl⟩
    have hy8 : y < 256 := by rw [hy]; exact UInt8.toNat_lt _
    have hcy : w1.cell? ⟨g7, n, none⟩ = some (.int .u8 (y : Int)) := by
      have h1 := HO1.out.bytS
      obtain ⟨b', off', hbo, hc⟩ := h1.2.2.2 n hnl
      simp only [Option.some.injEq, Addr.mk.injEq, and_true] at hbo
      obtain ⟨rfl, rfl⟩ := hbo
      rw [Nat.zero_add] at hc
      rw [hc, hy]
      simp [M.bAt, hnl]
    have hfz := HO1.out.frozen n rfl
    obtain ⟨x8, hx8⟩ : ∃ x8, x8 = y ^^^ t := ⟨_, rfl⟩
    have hxl : x8 < 256 := by rw [hx8]; exact Nat.xor_lt_two_pow (n := 8) (by omega) (by omega)
    have hxor : bits .xor .u8 (y : Int) (t : Int) = (x8 : Int) := by rw [hx8]; exact I.xor8 _ _ y t rfl rfl (by omega) (by omega)
    have hset := HO1.out.set (k := n) (c := UInt8.ofNat x8) (v := .int .u8 (x8 : Int)) rfl (by rw [K.ofNat_toNat, Nat.mod_eq_of_lt hxl])
    obtain ⟨XB, hXB⟩ : ∃ XB, XB = B.set n (UInt8.ofNat x8) := ⟨_, rfl⟩
    rw [← hXB] at hset
    have hXl : XB.length ≤ 2120 := by rw [hXB]; simpa using hBl
    obtain ⟨Z, hZ⟩ : ∃ Z, XB ++ l2 = Z := ⟨_, rfl⟩
    have hZl : Z.length = XB.length + l2.length := by rw [← hZ]; simp
    have HZ : Hid (XB ++ l2 = Z) := hZ
    have hz1 : Z.length ≤ 1050696 := by omega
    have hrm := room_len Z
    have hrm1 : (room Z).length ≤ Z.length + 80 := by omega
    have hrm2 : Z.length + 80 ≤ (room Z).length := by omega
    obtain ⟨⟨X, K1, E1⟩, ho⟩ : ∃ r, K.opens Z a5 = r := ⟨_, rfl⟩
    obtain ⟨⟨R, T, E2⟩, ha⟩ : ∃ r, K.all Z = r := ⟨_, rfl⟩
    have HOpen : Hid (K.opens Z a5 = (X, K1, E1)) := ho
    have HAll : Hid (K.all Z = (R, T, E2)) := ha
    clear hZ hZl hrm ho ha
    obtain ⟨wx, hwx⟩ : ∃ wx, wx = w1.setCell ⟨g7, n, none⟩ (.int .u8 (x8 : Int)) := ⟨_, rfl⟩
    have HOx : Hid (Own wx base (.slice (some ⟨g7, 0, none⟩) B.length c13) XB) := (by rw [hwx]; exact hset.1 : Own wx base (.slice (some ⟨g7, 0, none⟩) B.length c13) XB)
    have HXx : Hid (Ex w wx) := (by
      have h1 : Below base w w1 := by rw [HBa.out]; exact HX1.out
      have h2 := Below.setCell h1 (p := ⟨g7, n, none⟩) hg7b (.int .u8 (x8 : Int))
      rw [← hwx, HBa.out] at h2
      exact h2 : Ex w wx)
    have HWx : Hid (w1.setCell ⟨g7, n, none⟩ (.int .u8 (x8 : Int)) = wx) := hwx.symm
    clear hset hwx hXB hx8 hy hg7b HO1 HX1
    have hs1 : base ≤ wx.heap.size := by rw [HBa.out]; exact HXx.out.size
    have hbx : Below base w wx := by rw [HBa.out]; exact HXx.out
    have hox := HOx.out
    have hb2' := HB2.out.below HXx.out
    go_wp2_with (at_builtin; rw [HWx.out]; refine wpList_append_byt rfl (.tmp 52) (.tmp 53) rfl base _ XB rfl hox p2 _ c2 l2 rfl rfl hb2' (by omega) hs1 ?_; intro v13 w3 ho3 hg3; have hb3 : Below base w w3 := step_below0 hbx hs1 hox hg3; clear hg3; rw [HZ.out] at ho3; obtain ⟨a13, c13, hv13, hb13⟩ := ho3.byt; subst hv13)
    have HX3 : Hid (Ex w w3) := (by rw [HBa.out] at hb3; exact hb3 : Ex w w3)
    have HB13 : Hid (Byt w3 a13 c13 Z) := hb13
    clear hox hb2' hs1 hbx ho3 hb3 hb13
    refine (roomy_any a13 c13 Z _ HB13.out (by omega)).mono ?_
    rintro e w4 ⟨af, cf, rfl, hff, hx4⟩
    have hcf := hff.1
    have hcf2 := hff.2.1
    have hcf3 : cf ≤ 9223372036854775807 := by unfold maxLen at hcf2; omega
    have hle : (Z.length : Int) ≤ (cf : Int) := by omega
    have hf : Byt w4 af cf Z := by
      have := hff.take (k := Z.length) (by omega)
      rw [room_take] at this
      exact this
    have HF : Hid (Byt w4 af cf Z) := hf
    have HFF : Hid (Byt w4 af cf (room Z)) := hff
    have HX4 : Hid (Ex w w4) := HX3.out.trans hx4
    have HB4 : Hid (Byt w4 a13 c13 Z) := HB13.out.below hx4
    clear hff hf hx4 HB13
    go_wp2_with fail
    refine (few_is s0 A _ (by unfold maxLen; omega) HA.out).mono ?_
    rintro e wq ⟨rfl, hw⟩
    have hw' := hw.symm; clear hw; subst hw'
    go_wp2_with (refine wpList_bytes_of rfl (.tmp 63) rfl A rfl (by unfold maxLen; omega) ?_; intro g5 c5 w5 hb5 hg5 hx5)
    refine (seal_is _ _ c5 A _ rfl hb5 (by omega) F HFr.out).mono ?_
    rintro e w6 ⟨v17, rfl, ⟨a17, c17, rfl, hb17⟩, hx6⟩
    have hx46 : Ex w4 w6 := hx5.trans hx6
    clear hb5 hg5 hx5 hx6
    go_wp2_with fail
    refine (few_is s0 A _ (by unfold maxLen; omega) HA.out).mono ?_
    rintro e wq ⟨rfl, hw⟩
    have hw' := hw.symm; clear hw; subst hw'
    go_wp2_with (refine wpList_bytes_of rfl (.tmp 70) rfl A rfl (by unfold maxLen; omega) ?_; intro g7 c7 w7 hb7 hg7 hx7)
    refine (rseal_is _ _ c7 A _ rfl hb7 (by omega) F HFr.out).mono ?_
    rintro e w8 ⟨v19, rfl, ⟨a19, c19, rfl, hb19⟩, hx8⟩
    have hx68 : Ex w6 w8 := hx7.trans hx8
    have HX8 : Hid (Ex w4 w8) := hx46.trans hx68
    have HB17 : Hid (Byt w8 a17 c17 F) := hb17.below hx68
    have HB19 : Hid (Byt w8 a19 c19 F) := hb19
    clear hb7 hg7 hx7 hx8 hb17 hb19 hx46 hx68
    go_wp2_with fail
    refine (open_is af _ cf Z a5 _ rfl (HF.out.below HX8.out) (by omega) v5 u5 X K1 E1 HOpen.out).mono ?_
    rintro e w9 ⟨v21, rfl, ⟨a21, c21, rfl, hb21⟩, hx9⟩
    go_wp2_with fail
    refine (ropen_is a13 _ c13 Z a5 _ rfl ((HB4.out.below HX8.out).below hx9) (by omega) X K1 E1 HOpen.out).mono ?_
    rintro e w10 ⟨v24, rfl, ho24, hx10⟩
    obtain ⟨a24, c24, hv24, hb24⟩ := ho24.byt
    subst hv24
    have HX10 : Hid (Ex w4 w10) := (HX8.out.trans hx9).trans hx10
    have HB17a : Hid (Byt w10 a17 c17 F) := (HB17.out.below hx9).below hx10
    have HB19a : Hid (Byt w10 a19 c19 F) := (HB19.out.below hx9).below hx10
    have HB21 : Hid (Byt w10 a21 c21 X) := hb21.below hx10
    have HB24 : Hid (Byt w10 a24 c24 X) := hb24
    clear hx9 hx10 hb21 hb24 ho24 HB17 HB19
    go_wp2_with fail
    refine (all_is af _ cf Z _ rfl (HF.out.below HX10.out) (by omega) R T E2 HAll.out).mono ?_
    rintro e w11 ⟨v27, rfl, ⟨a27, c27, rfl, hb27⟩, hx11⟩
    go_wp2_with fail
    refine (rall_is a13 _ c13 Z _ rfl ((HB4.out.below HX10.out).below hx11) (by omega) R T E2 HAll.out).mono ?_
    rintro e w12 ⟨v30, rfl, ⟨a30, c30, rfl, hb30⟩, hx12⟩
    have HX12 : Hid (Ex w4 w12) := (HX10.out.trans hx11).trans hx12
    have hx1012 := hx11.trans hx12
    have k1 := run_str (n := F.length) (HB17a.out.below hx1012) rfl
    have k2 := run_str (n := F.length) (HB19a.out.below hx1012) rfl
    have k3 := run_str (n := X.length) (HB21.out.below hx1012) rfl
    have k4 := run_str (n := X.length) (HB24.out.below hx1012) rfl
    have HB27 : Hid (RdB w12 a27 c27 R) := hb27.below hx12
    have HB30 : Hid (RdB w12 a30 c30 R) := hb30
    clear hx11 hx12 hx1012 hb27 hb30 HB17a HB19a HB21 HB24
    go_wp2_with fail
    refine (alike_is a27 a30 _ _ c27 c30 R R _ rfl rfl HB27.out HB30.out true (by simp)).mono ?_
    rintro e w13 ⟨rfl, hx13⟩
    go_wp2_with fail
    refine (intact_yes af a13 cf c13 _ Z _ rfl (HFF.out.below (HX12.out.trans hx13)) (HB4.out.below (HX12.out.trans hx13)) (by omega)).mono ?_
    rintro e w14 ⟨rfl, hx14⟩
    go_wp2_with fail
    refine (known_any _).mono ?_
    rintro e w15 ⟨rfl, hx15⟩
    go_wp2
    go_ret
    exact ⟨rfl, (((HX4.out.trans HX12.out).trans hx13).trans hx14).trans hx15⟩
end Go.Proofs.Ythibeoohhcmejaa.blockTells
