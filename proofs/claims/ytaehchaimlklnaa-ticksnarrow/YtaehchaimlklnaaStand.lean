/-
  Package delta: the contracts of stepTo and Encode.
-/
import Derived.Test.YtaehchaimlklnaaRdec
import Derived.Test.YtaehchaimlklnaaCarry
import Derived.Test.YtaehchaimlklnaaTail
namespace Go.Proofs.Ytaehchaimlklnaa
open Go.RowKit
set_option linter.unusedVariables false

theorem szig_is (n m : Int) (w : World) (h : D.ok n) (hm : M.zig n = m) :
    Calls Try.prog 30 #[.int .i64 n] w fun e w' => e = .returned (.int .u64 m) ∧ w' = w := zig_is n m w h.1 h.2 hm
theorem szig_row {w0 : World} (n m : Int) (w : World) (hC : Ex w0 w) (h : D.ok n) (hm : M.zig n = m) :
    Calls Try.prog 30 #[.int .i64 n] w fun e w' => ∃ u, e = .returned u ∧ Rg.Spec.ok (.inl (.int .u64 m)) u w' ∧ Ex w w' ∧ Ex w0 w' := by
  refine (szig_is n m w h hm).mono ?_
  rintro e w' ⟨rfl, rfl⟩
  exact ⟨_, rfl, rfl, Ex.refl _, hC⟩
theorem sput_row {w0 : World} (U : Nat) (w : World) (hC : Ex w0 w) (h : U < 18446744073709551616) :
    Calls Try.prog 29 #[.slice none 0 0, .int .u64 (U : Int)] w fun e w' => ∃ u, e = .returned u ∧ Rg.Spec.ok (.inr (IsByt (M.digs U))) u w' ∧ Ex w w' ∧ Ex w0 w' := by
  refine (put_is none 0 0 [] (M.digs U) _ U _ rfl (by simp) (Byt.nil _) rfl h (by simp)).mono ?_
  rintro e w' ⟨v, rfl, ho, hb⟩
  exact ⟨v, rfl, ho.isByt, hb, Ex.trans hC hb⟩
theorem stepTo_is (i last n : Int) (k : Nat) (r : Int) (w : World) (hi : i = (k : Int)) (hr : (if k = 0 then 0 else wrap64 (n - last)) = r) :
    Calls Try.prog 44 #[.int .i64 i, .int .i64 last, .int .i64 n] w fun e w' => e = .returned (.int .i64 r) ∧ w' = w := by
  subst hi
  by_cases h0 : k = 0
  · rw [if_pos h0] at hr
    subst h0; subst hr
    go_enter Try.func44, Try.ntmps44
    go_wp2
    go_ret
    exact ⟨rfl, rfl⟩
  · rw [if_neg h0] at hr
    subst hr
    have t0 : ((k : Int) == 0) = false := by simp; omega
    have hk : 0 < k := by omega
    clear h0
    go_enter Try.func44, Try.ntmps44
    go_wp2
    go_ret
    exact ⟨rfl, rfl⟩

set_option maxRecDepth 100000 in
set_option maxHeartbeats 1000000 in
theorem senc_any (a : Option Addr) (n cap : Nat) (l : List Int) (w : World) (hn : n = l.length) (hB : Rd z64 w a cap l) (hok : ∀ x ∈ l, D.ok x) (hl : l.length ≤ 300000) (r : List UInt8) (hr : D.enc l = r) :
    Calls Try.prog 31 #[.slice a n cap] w fun e w' => ∃ v, e = .returned v ∧ IsByt r v w' ∧ Ex w w' := by
  subst hn
  obtain ⟨base, hbase⟩ : ∃ base, base = w.heap.size := ⟨_, rfl⟩
  have HBa : Hid (base = w.heap.size) := hbase
  have HB : Hid (Rd z64 w a cap l) := hB
  have HO : Hid (∀ x ∈ l, D.ok x) := hok
  have HR : Hid (D.enc l = r) := hr
  clear hB hok hr hbase
  go_enter Try.func31, Try.ntmps31
  go_wp2_with fail
  refine (put_is none 0 0 [] (M.digs l.length) _ l.length _ (by first | rfl | omega) (by simp) (Byt.nil _) rfl (by omega) (by simp)).mono ?_
  rintro e w1 ⟨v1, rfl, ho1, hb1⟩
  have HS1 : Hid (Own w1 base v1 (M.digs l.length ++ D.bytes (D.us l 0))) := (by have h := ho1; rw [← HBa.out] at h; simpa [D.us, D.bytes] using h : Own w1 base v1 (M.digs l.length ++ D.bytes (D.us l 0)))
  have HX1 : Hid (Below base w w1) := (by rw [HBa.out]; exact hb1 : Below base w w1)
  clear ho1 hb1
  go_wp2_with fail
  go_loopw [3, 4, 5, 14] (fun v x1 x2 i wr => ∃ (k : Nat) (LA ST : Int), k ≤ l.length ∧ i = .int .i64 k ∧ x1 = .int .i64 LA ∧ x2 = .int .i64 ST ∧ Hid (LA = D.la l k) ∧ Hid (ST = D.st l k) ∧ Hid (Own wr base v (M.digs l.length ++ D.bytes (D.us l k))) ∧ Hid (Below base w wr)) (fun _ _ _ i _ => l.length - (intOf i).toNat)
  case atStart => exact ⟨0, 0, 0, by omega, rfl, rfl, rfl, (rfl : (0 : Int) = D.la l 0), (rfl : (0 : Int) = D.st l 0), HS1, HX1⟩
  case round =>
    obtain ⟨k, LA, ST, hk, rfl, rfl, rfl, HLA, HST, HS, HX⟩ := hrel
    clear HS1 HX1
    have hEx : Ex w wr := by have := HX.out; rw [HBa.out] at this; exact this
    have hsz : base ≤ wr.heap.size := by rw [HBa.out]; exact hEx.size
    have HSz : Hid (base ≤ wr.heap.size) := hsz
    have HEx : Hid (Ex w wr) := hEx
    clear hEx hsz
    by_cases hlt : k < l.length
    · obtain ⟨E, hE⟩ : ∃ E, E = M.digs l.length ++ D.bytes (D.us l k) := ⟨_, rfl⟩
      obtain ⟨E2, hE2⟩ : ∃ E, E = M.digs l.length ++ D.bytes (D.us l (k + 1)) := ⟨_, rfl⟩
      obtain ⟨U, hU⟩ : ∃ U, U = D.u l k := ⟨_, rfl⟩
      have hEE : E ++ M.digs U = E2 := by rw [hE, hE2, hU, D.us_succ, D.bytes_snoc, List.append_assoc]
      have HEE : Hid (E ++ M.digs U = E2) := hEE
      have HE2 : Hid (E2 = M.digs l.length ++ D.bytes (D.us l (k + 1))) := hE2
      have hS := HS.out
      rw [← hE] at hS
      obtain ⟨a3, c3, hv3, _⟩ := hS.byt
      subst hv3
      have HO3 : Hid (Own wr base (.slice a3 E.length c3) E) := hS
      have hpl : E.length ≤ 3000010 := by
        have h1 := M.digs_len l.length
        have h2 := D.bytes_len (D.us l k)
        rw [D.us_len] at h2
        rw [hE]
        simp only [List.length_append]; omega
      have hUl : U < 18446744073709551616 := by rw [hU]; exact D.u_lt HO.out k
      have hUd := M.digs_len U
      have HUz : Hid ((U : Int) = M.zig (D.df l k)) := (by rw [hU]; exact D.u_zig HO.out k : (U : Int) = M.zig (D.df l k))
      clear hE hE2 hU hEE hS
      obtain ⟨q, off, rfl, hc⟩ := (HB.out.below HEx.out).at hlt
      obtain ⟨x, hx⟩ : ∃ x, x = l[k] := ⟨_, rfl⟩
      rw [← hx] at hc
      have hc' : wr.cell? ⟨q, off + k, none⟩ = some (.int .i64 x) := hc
      have hxg : l.getD k 0 = x := by rw [hx]; simp [hlt]
      have hxo : D.ok x := by rw [hx]; exact HO.out _ (List.getElem_mem hlt)
      have hdf : D.df l k = wrap64 (wrap64 (x - LA) - ST) := by
        rw [D.df_carry (by rw [hxg]; exact hxo), hxg, ← HLA.out, ← HST.out, wr64, wr64]
      have HDf : Hid (D.df l k = wrap64 (wrap64 (x - LA) - ST)) := hdf
      have HXg : Hid (x = D.la l (k + 1)) := (by rw [D.la_succ, hxg] : x = D.la l (k + 1))
      obtain ⟨S2, hS2⟩ : ∃ S2, (if k = 0 then 0 else wrap64 (x - LA)) = S2 := ⟨_, rfl⟩
      have HS2 : Hid ((if k = 0 then 0 else wrap64 (x - LA)) = S2) := hS2
      have HS3 : Hid (S2 = D.st l (k + 1)) := (by rw [D.st_succ, ← hS2, hxg, ← HLA.out, wr64] : S2 = D.st l (k + 1))
      have hki : (k : Int) < (l.length : Int) := by omega
      clear hc hx hxg hxo HS hdf hS2
      go_wp2_with fail
      refine (szig_is _ (U : Int) _ (wr64_ok _) (by rw [HUz.out, HDf.out])).mono ?_
      rintro e wq ⟨rfl, hw⟩
      have hw' := hw.symm; clear hw; subst hw'
      go_wp2_with fail
      refine (put_is none 0 0 [] (M.digs U) _ U _ rfl (by simp) (Byt.nil _) rfl hUl (by simp)).mono ?_
      rintro e wx ⟨v26, rfl, ho26, hx⟩
      obtain ⟨p26, c26, rfl, hb26⟩ := ho26.isByt
      have hx' : Ex wr wx := hx
      have h19 := HO3.out.later hx'
      have hbw : base ≤ wx.heap.size := Nat.le_trans HSz.out hx'.size
      have hbx : Below base w wx := HX.out.trans (Below.mono hx HSz.out)
      clear ho26 hx hx'
      go_wp2_with (at_builtin; refine wpList_append_byt rfl (.tmp 19) (.tmp 26) rfl base _ E rfl h19 p26 _ c26 (M.digs U) rfl rfl hb26 (by omega) hbw ?_; intro v' w3 ho3 hg3; have HB3 : Hid (Below base w w3) := step_below0 hbx hbw h19 hg3; clear hg3)
      have HN3 : Hid (Own w3 base v' (M.digs l.length ++ D.bytes (D.us l (k + 1)))) := (by rw [← HE2.out, ← HEE.out]; exact ho3 : Own w3 base v' (M.digs l.length ++ D.bytes (D.us l (k + 1))))
      clear ho3 hbx h19 hb26
      go_wp2_with fail
      refine (stepTo_is _ LA x k S2 _ (by first | rfl | omega) HS2.out).mono ?_
      rintro e wq ⟨rfl, hw⟩
      have hw' := hw.symm; clear hw; subst hw'
      go_wp2
      go_roundw
      case rel => exact ⟨k + 1, x, S2, by omega, by go_num, rfl, rfl, HXg, HS3, HN3, HB3⟩
      case measure => simp [intOf]; omega
    · obtain rfl : k = l.length := by omega
      have hfin := HS.out.isByt
      rw [show M.digs l.length ++ D.bytes (D.us l l.length) = r from HR.out] at hfin
      have HF : Hid (IsByt r u3 wr) := hfin
      clear hfin HS
      go_wp2
      go_ret
      exact ⟨_, rfl, HF.out, HEx.out⟩
end Go.Proofs.Ytaehchaimlklnaa
