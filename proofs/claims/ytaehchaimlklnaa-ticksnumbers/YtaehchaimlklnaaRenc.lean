/-
  The contract of the document's own Encode over the program.
-/
import Derived.Test.YtaehchaimlklnaaRvarint
import Derived.Test.YtaehchaimlklnaaKinds
import Derived.Test.YtaehchaimlklnaaDelta
namespace Go.Proofs.Ytaehchaimlklnaa
open Go.RowKit
set_option linter.unusedVariables false

theorem wr64 (n : Int) : D.wr n = wrap64 n := by unfold D.wr wrap64; rfl
theorem wr64_ok (n : Int) : D.ok (wrap64 n) := by rw [← wr64]; exact D.wr_ok n
theorem rzig_is (n m : Int) (w : World) (h : D.ok n) (hm : M.zig n = m) :
    Calls Try.prog 33 #[.int .i64 n] w fun e w' => e = .returned (.int .u64 m) ∧ w' = w := rzig_any n m w h.1 h.2 hm

set_option maxRecDepth 100000 in
set_option maxHeartbeats 1000000 in
theorem renc_any (a : Option Addr) (n cap : Nat) (l : List Int) (w : World) (hn : n = l.length) (hB : Rd z64 w a cap l) (hok : ∀ x ∈ l, D.ok x) (hl : l.length ≤ 300000) (r : List UInt8) (hr : D.enc l = r) :
    Calls Try.prog 34 #[.slice a n cap] w fun e w' => ∃ v, e = .returned v ∧ IsByt r v w' ∧ Ex w w' := by
  subst hn
  have HB : Hid (Rd z64 w a cap l) := hB
  have HO : Hid (∀ x ∈ l, D.ok x) := hok
  have HR : Hid (D.enc l = r) := hr
  clear hB hok hr
  go_enter Try.func34, Try.ntmps34
  go_wp2_with fail
  refine (rput_is none 0 0 [] (M.digs l.length) _ l.length _ (by first | rfl | omega) (by simp) (Byt.nil _) rfl (by omega) (by simp)).mono ?_
  rintro e w1 ⟨v1, rfl, ho1, hb1⟩
  have HS1 : Hid (IsByt (M.digs l.length ++ D.bytes (D.us l 0)) v1 w1) := (by have h := ho1.isByt; simpa [D.us, D.bytes] using h : IsByt (M.digs l.length ++ D.bytes (D.us l 0)) v1 w1)
  have HX1 : Hid (Ex w w1) := hb1
  clear ho1 hb1
  go_wp2_with fail
  go_loopw [3, 4] (fun v i wr => ∃ k : Nat, k ≤ l.length ∧ i = .int .i64 k ∧ Hid (IsByt (M.digs l.length ++ D.bytes (D.us l k)) v wr) ∧ Hid (Ex w wr)) (fun _ i _ => l.length - (intOf i).toNat)
  case atStart => exact ⟨0, by omega, rfl, HS1, HX1⟩
  case round =>
    obtain ⟨k, hk, rfl, HS, HX⟩ := hrel
    clear HS1 HX1
    by_cases hlt : k < l.length
    · obtain ⟨E, hE⟩ : ∃ E, E = M.digs l.length ++ D.bytes (D.us l k) := ⟨_, rfl⟩
      obtain ⟨E2, hE2⟩ : ∃ E, E = M.digs l.length ++ D.bytes (D.us l (k + 1)) := ⟨_, rfl⟩
      obtain ⟨U, hU⟩ : ∃ U, U = D.u l k := ⟨_, rfl⟩
      have hEE : E ++ M.digs U = E2 := by rw [hE, hE2, hU, D.us_succ, D.bytes_snoc, List.append_assoc]
      have HEE : Hid (E ++ M.digs U = E2) := hEE
      have HE2 : Hid (E2 = M.digs l.length ++ D.bytes (D.us l (k + 1))) := hE2
      have hS := HS.out
      rw [← hE] at hS
      obtain ⟨a3, c3, rfl, hB3⟩ := hS
      have HB3 : Hid (Byt wr a3 c3 E) := hB3
      have hpl : E.length ≤ 3000010 := by
        have h1 := M.digs_len l.length
        have h2 := D.bytes_len (D.us l k)
        rw [D.us_len] at h2
        rw [hE]
        simp only [List.length_append]; omega
      have hUl : U < 18446744073709551616 := by rw [hU]; exact D.u_lt HO.out k
      have HUz : Hid ((U : Int) = M.zig (D.df l k)) := (by rw [hU]; exact D.u_zig HO.out k : (U : Int) = M.zig (D.df l k))
      clear hE hE2 hU hEE
      obtain ⟨q, off, rfl, hc⟩ := (HB.out.below HX.out).at hlt
      obtain ⟨x, hx⟩ : ∃ x, x = l[k] := ⟨_, rfl⟩
      rw [← hx] at hc
      have hc' : wr.cell? ⟨q, off + k, none⟩ = some (.int .i64 x) := hc
      have hxg : l.getD k 0 = x := by rw [hx]; simp [hlt]
      have hxo : D.ok x := by rw [hx]; exact HO.out _ (List.getElem_mem hlt)
      have HXg : Hid (l.getD k 0 = x) := hxg
      have HXo : Hid (D.ok x) := hxo
      have hki : (k : Int) < (l.length : Int) := by omega
      clear hc hx hxg hxo hB3 HS
      by_cases k0 : k = 0
      · have t1 : decide (0 < (k : Int)) = false := by simp; omega
        have t2 : decide (1 < (k : Int)) = false := by simp; omega
        have hdf : D.df l k = x := by rw [← HXg.out, k0]; simp [D.df]
        have HDf : Hid (D.df l k = x) := hdf
        have hk0 : k ≤ 0 := by omega
        clear k0 hdf
        go_wp2_with fail
        refine (rzig_is _ (U : Int) _ ?ok ?eq).mono ?_
        case ok => exact HXo.out
        case eq => rw [HUz.out, HDf.out]
        rintro e wq ⟨rfl, hw⟩
        have hw' := hw.symm; clear hw; subst hw'
        go_wp2_with fail
        refine (rput_is a3 _ c3 E E2 _ U _ rfl HEE.out HB3.out rfl hUl (by omega)).mono ?_
        rintro e w5 ⟨v5, rfl, ho5, hb5⟩
        have HN : Hid (IsByt (M.digs l.length ++ D.bytes (D.us l (k + 1))) v5 w5) := (by rw [← HE2.out]; exact ho5.isByt : IsByt (M.digs l.length ++ D.bytes (D.us l (k + 1))) v5 w5)
        have HXn : Hid (Ex w w5) := HX.out.trans hb5
        clear ho5 hb5
        go_wp2
        go_roundw
        case rel => exact ⟨k + 1, by omega, by go_num, HN, HXn⟩
        case measure => simp [intOf]; omega
      · obtain ⟨j, hj⟩ : ∃ j, k = j + 1 := ⟨k - 1, by omega⟩
        have hji : (k : Int) - 1 = (j : Int) := by omega
        have t1 : decide (0 < (k : Int)) = true := by simp; omega
        obtain ⟨_, _, e1, hc1⟩ := (HB.out.below HX.out).at (k := j) (by omega)
        simp only [Option.some.injEq, Addr.mk.injEq, and_true] at e1
        obtain ⟨rfl, rfl⟩ := e1
        obtain ⟨y, hy⟩ : ∃ y, y = l[j]'(by omega) := ⟨_, rfl⟩
        rw [← hy] at hc1
        have hc1' : wr.cell? ⟨q, off + j, none⟩ = some (.int .i64 y) := hc1
        have hjl : j < l.length := by omega
        have hyg : l.getD j 0 = y := by rw [hy]; simp [hjl]
        have hjli : (j : Int) < (l.length : Int) := by omega
        have hkj : j + 1 ≤ k := by omega
        have hjk : k ≤ j + 1 := by omega
        by_cases k1 : k = 1
        · have t2 : decide (1 < (k : Int)) = false := by simp; omega
          have hdf : D.df l k = wrap64 (x - y) := by
            rw [← HXg.out, ← hyg]
            unfold D.df
            rw [if_neg k0, if_pos k1, k1, show j = 0 from by omega, wr64]
          have HDf : Hid (D.df l k = wrap64 (x - y)) := hdf
          clear k0 k1 hdf hj hyg hy hc1
          go_wp2_with fail
          go_quiet (fail)
          go_wp2_with fail
          refine (rzig_is _ (U : Int) _ ?ok ?eq).mono ?_
          case ok => exact wr64_ok _
          case eq => rw [HUz.out, HDf.out]
          rintro e wq ⟨rfl, hw⟩
          have hw' := hw.symm; clear hw; subst hw'
          go_wp2_with fail
          refine (rput_is a3 _ c3 E E2 _ U _ rfl HEE.out (HB3.out.below (Ex.drewN _ _)) rfl hUl (by omega)).mono ?_
          rintro e w5 ⟨v5, rfl, ho5, hb5⟩
          have HN : Hid (IsByt (M.digs l.length ++ D.bytes (D.us l (k + 1))) v5 w5) := (by rw [← HE2.out]; exact ho5.isByt : IsByt (M.digs l.length ++ D.bytes (D.us l (k + 1))) v5 w5)
          have HXn : Hid (Ex w w5) := (HX.out.trans (Ex.drewN _ _)).trans hb5
          clear ho5 hb5
          go_wp2
          go_roundw
          case rel => exact ⟨k + 1, by omega, by go_num, HN, HXn⟩
          case measure => simp [intOf]; omega
        · have t2 : decide (1 < (k : Int)) = true := by simp; omega
          obtain ⟨j2, hj2⟩ : ∃ j2, k = j2 + 2 := ⟨k - 2, by omega⟩
          have hj2i : (k : Int) - 2 = (j2 : Int) := by omega
          obtain ⟨_, _, e2, hc2⟩ := (HB.out.below HX.out).at (k := j2) (by omega)
          simp only [Option.some.injEq, Addr.mk.injEq, and_true] at e2
          obtain ⟨rfl, rfl⟩ := e2
          obtain ⟨z, hz⟩ : ∃ z, z = l[j2]'(by omega) := ⟨_, rfl⟩
          rw [← hz] at hc2
          have hc2' : wr.cell? ⟨q, off + j2, none⟩ = some (.int .i64 z) := hc2
          have hj2l : j2 < l.length := by omega
          have hzg : l.getD j2 0 = z := by rw [hz]; simp [hj2l]
          have hj2li : (j2 : Int) < (l.length : Int) := by omega
          have hdf : D.df l k = wrap64 (wrap64 (x - y) - wrap64 (y - z)) := by
            rw [← HXg.out, ← hyg, ← hzg]
            unfold D.df
            rw [if_neg k0, if_neg k1, show k - 1 = j from by omega, show k - 2 = j2 from by omega, wr64, wr64, wr64]
          have HDf : Hid (D.df l k = wrap64 (wrap64 (x - y) - wrap64 (y - z))) := hdf
          clear k0 k1 hdf hj hj2 hyg hy hzg hz hc1 hc2
          go_wp2_with fail
          go_quiet (fail)
          go_wp2_with fail
          go_quiet (fail)
          go_wp2_with fail
          refine (rzig_is _ (U : Int) _ ?ok ?eq).mono ?_
          case ok => exact wr64_ok _
          case eq => rw [HUz.out, HDf.out]
          rintro e wq ⟨rfl, hw⟩
          have hw' := hw.symm; clear hw; subst hw'
          go_wp2_with fail
          refine (rput_is a3 _ c3 E E2 _ U _ rfl HEE.out (HB3.out.below (by first | exact Ex.drewN _ _ | exact (Ex.drewN _ _).trans (Ex.drewN _ _))) rfl hUl (by omega)).mono ?_
          rintro e w5 ⟨v5, rfl, ho5, hb5⟩
          have HN : Hid (IsByt (M.digs l.length ++ D.bytes (D.us l (k + 1))) v5 w5) := (by rw [← HE2.out]; exact ho5.isByt : IsByt (M.digs l.length ++ D.bytes (D.us l (k + 1))) v5 w5)
          have HXn : Hid (Ex w w5) := (HX.out.trans (by first | exact Ex.drewN _ _ | exact (Ex.drewN _ _).trans (Ex.drewN _ _))).trans hb5
          clear ho5 hb5
          go_wp2
          go_roundw
          case rel => exact ⟨k + 1, by omega, by go_num, HN, HXn⟩
          case measure => simp [intOf]; omega
    · obtain rfl : k = l.length := by omega
      have hfin := HS.out
      rw [show M.digs l.length ++ D.bytes (D.us l l.length) = r from HR.out] at hfin
      have HF : Hid (IsByt r u3 wr) := hfin
      clear hfin HS
      go_wp2
      go_ret
      exact ⟨_, rfl, HF.out, HX.out⟩
end Go.Proofs.Ytaehchaimlklnaa
