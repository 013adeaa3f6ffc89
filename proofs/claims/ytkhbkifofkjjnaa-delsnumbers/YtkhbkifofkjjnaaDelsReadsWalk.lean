/-
  The walk of DelsReads.
-/
import Derived.Test.YtkhbkifofkjjnaaDelsPartsWalk
namespace Go.Proofs.Ytkhbkifofkjjnaa
open Go.RowKit
theorem Dl.dec_bad {b : List UInt8} {p : Int} {ws : List Bool} {k e : Nat} (h : Dl.dec b p = (ws, k, e)) (he : e ≠ 0) : ws = [] ∧ k = 0 := by
  unfold Dl.dec at h
  split at h
  · simp only [Prod.mk.injEq] at h; exact ⟨h.1.symm, h.2.1.symm⟩
  · split at h
    · simp only [Prod.mk.injEq] at h; exact ⟨h.1.symm, h.2.1.symm⟩
    · split at h
      · simp only [Prod.mk.injEq] at h; exact ⟨h.1.symm, h.2.1.symm⟩
      · simp only [Prod.mk.injEq] at h; exact absurd h.2.2.symm he
theorem xor_nat (k : IntKind) (j : Nat) (hj : j ≤ k.bits) (hk : ∀ n : Int, 0 ≤ n → n < 2 ^ j → k.wrap n = n) (a b : Nat) (ha : a < 2 ^ j) (hb : b < 2 ^ j) :
    bits .xor k a b = ((a ^^^ b : Nat) : Int) := by
  have hp : 2 ^ j ≤ 2 ^ k.bits := Nat.pow_le_pow_right (by decide) hj
  have ha' : a % 2 ^ k.bits = a := Nat.mod_eq_of_lt (Nat.lt_of_lt_of_le ha hp)
  have hb' : b % 2 ^ k.bits = b := Nat.mod_eq_of_lt (Nat.lt_of_lt_of_le hb hp)
  have cast : ∀ n : Nat, n < 2 ^ j → ((n : Nat) : Int) < 2 ^ j := fun n h => by exact_mod_cast h
  simp only [bits, BitVec.ofInt_natCast, BitVec.toNat_xor, BitVec.toNat_ofNat, ha', hb']
  exact hk _ (Int.natCast_nonneg _) (cast _ (Nat.xor_lt_two_pow ha hb))
end Go.Proofs.Ytkhbkifofkjjnaa
namespace Go.Proofs.Ytkhbkifofkjjnaa.delsReads
open Go.RowKit Go.Proofs.Ytkhbkifofkjjnaa
set_option linter.unusedVariables false
set_option linter.unusedSimpArgs false
set_option maxRecDepth 100000 in
set_option maxHeartbeats 8000000 in
theorem walk (p0 : Option Addr) (c0 : Nat) (l0 : List UInt8) (a1 : Int) (a2 : Int) (p3 : Option Addr) (c3 : Nat) (l3 : List Int) (a4 : Int) (a5 : Int) (w : World) (b0 : Byt w p0 c0 l0) (w0 : l0.length ≤ 140737488351232) (w1' : -9223372036854775808 ≤ a1 ∧ a1 ≤ 9223372036854775807) (w2' : -9223372036854775808 ≤ a2 ∧ a2 ≤ 9223372036854775807) (b3 : Rd z64 w p3 c3 l3) (m3' : ∀ x ∈ l3, In64 x) (w3' : l3.length ≤ 17592186043904) (w4' : -9223372036854775808 ≤ a4 ∧ a4 ≤ 9223372036854775807) (w5' : 0 ≤ a5 ∧ a5 ≤ 255) :
    Calls Try.prog 5 #[.slice p0 l0.length c0, .int .i64 a1, .int .i64 a2, .slice p3 l3.length c3, .int .i64 a4, .int .u8 a5] w fun e w' => e = .returned (.bool true) ∧ Below w.heap.size w w' := by
  have HB0 : Hid (Byt w p0 c0 l0) := b0
  have HB3 : Hid (Rd z64 w p3 c3 l3) := b3
  have HO3 : Hid (∀ x ∈ l3, In64 x) := m3'
  have hcl0 := b0.1
  have hcm0 := b0.2.1
  have hcl3 := b3.1
  have hcm3 := b3.2.1
  unfold maxLen at hcm0 hcm3
  obtain ⟨tu, htu⟩ : ∃ tu : Nat, a5 = (tu : Int) := ⟨a5.toNat, by omega⟩
  subst htu
  have htu8 : tu < 256 := by omega
  obtain ⟨w11, w12⟩ := w1'
  obtain ⟨w41, w42⟩ := w4'
  clear b0 b3 m3'
  go_enter Try.func5, Try.ntmps5
  go_wp2_with fail
  refine (within_any a2 200 _ w2'.1 w2'.2 (by omega) (by omega)).mono ?_
  rintro e wq ⟨n, hn, rfl, hw⟩
  have hw' := hw.symm; clear hw; subst hw'
  have hn200 : n ≤ 200 := by omega
  go_wp2_with (at_make; refine wpList_make_row (enc := bl) rfl _ _ 37 4 rfl false 1 Try.underlying37 rfl Try.info4 _ _ n rfl rfl rfl rfl (by omega) (by omega) ?_; intro w1 hr1 hb1)
  obtain ⟨g, hg⟩ : ∃ g, g = w.heap.size := ⟨_, rfl⟩
  rw [← hg]
  have hgw : w.heap.size ≤ g := by omega
  have h0R : Hid (RowAt bl 4 w1 g (List.replicate n false)) := (by rw [hg]; exact hr1 : RowAt bl 4 w1 g (List.replicate n false))
  have h0L : Hid ((List.replicate n false).length = n) := (by simp : (List.replicate n false).length = n)
  have h0X : Hid (Ex w w1) := hb1
  clear hr1 hb1 hg
  go_loopw [14] (fun vi wr => ∃ (i : Nat) (ws : List Bool), i ≤ l3.length ∧ vi = .int .i64 (i : Int) ∧ Hid (RowAt bl 4 wr g ws) ∧ Hid (ws.length = n) ∧ Hid (Ex w wr)) (fun vi _ => l3.length - (intOf vi).toNat)
  case atStart => exact ⟨0, List.replicate n false, by omega, rfl, h0R, h0L, h0X⟩
  case round =>
    clear h0R h0L h0X
    obtain ⟨i, ws, hi, rfl, HR, HL, HX⟩ := hrel
    by_cases hlt : i < l3.length
    · have ti : decide ((i : Int) < (l3.length : Int)) = true := by simp; omega
      have hii : (i : Int) < (l3.length : Int) := by omega
      obtain ⟨b, off, rfl, hcw⟩ := (HB3.out.below HX.out).at hlt
      obtain ⟨x, hx⟩ : ∃ x, x = l3[i] := ⟨_, rfl⟩
      rw [← hx] at hcw
      obtain ⟨hx1, hx2⟩ : In64 x := by rw [hx]; exact HO3.out _ (List.getElem_mem hlt)
      simp only [z64] at hcw
      clear hx
      by_cases hx0 : x < 0
      · have tx : decide (0 ≤ x) = false := by simp; omega
        go_wp2
        go_roundw
        case rel => exact ⟨i + 1, ws, by omega, by go_num, HR, HL, HX⟩
        case measure => simp [intOf]; omega
      · have tx : decide (0 ≤ x) = true := by simp; omega
        by_cases hqn : x < (n : Int)
        · have tq : decide (x < (n : Int)) = true := by simp; omega
          obtain ⟨q, hq⟩ : ∃ q : Nat, x = (q : Int) := ⟨x.toNat, by omega⟩
          subst hq
          have hql : q < ws.length := by rw [HL.out]; omega
          have hcell := HR.out.cell hql
          obtain ⟨cc, hcc⟩ : ∃ c, c = ws[q] := ⟨_, rfl⟩
          rw [← hcc] at hcell
          have hcell' : wr.cell? ⟨g, q, none⟩ = some (.bool cc) := hcell
          have hfz : wr.frozen? ⟨g, q, none⟩ = false := HR.out.frozen q
          obtain ⟨w3, hw3⟩ : ∃ w3, wr.setCell ⟨g, q, none⟩ (.bool true) = w3 := ⟨_, rfl⟩
          have HR3 : Hid (RowAt bl 4 w3 g (ws.set q true)) := (by rw [← hw3]; exact HR.out.set true rfl : RowAt bl 4 w3 g (ws.set q true))
          have HX3 : Hid (Ex w w3) := (by rw [← hw3]; exact HX.out.setCell (p := ⟨g, q, none⟩) hgw _ : Ex w w3)
          have HL3 : Hid ((ws.set q true).length = n) := (by rw [List.length_set]; exact HL.out : (ws.set q true).length = n)
          clear hcell hcc
          go_wp2
          go_roundw
          case rel => exact ⟨i + 1, ws.set q true, by omega, by go_num, HR3, HL3, HX3⟩
          case measure => simp [intOf]; omega
        · have tq : decide (x < (n : Int)) = false := by simp; omega
          go_wp2
          go_roundw
          case rel => exact ⟨i + 1, ws, by omega, by go_num, HR, HL, HX⟩
          case measure => simp [intOf]; omega
    · have ti : decide ((i : Int) < (l3.length : Int)) = false := by simp; omega
      obtain ⟨wo, hwo⟩ : ∃ wo, wo = wr := ⟨_, rfl⟩
      subst hwo
      obtain ⟨E, hE⟩ : ∃ E, Dl.enc ws = E := ⟨_, rfl⟩
      have HE : Hid (Dl.enc ws = E) := hE
      have hE1 : 1 ≤ E.length := by
        rw [← hE, Dl.enc, List.length_append]
        have := M.digs_len ws.length
        omega
      have hE2 : E.length ≤ 2000 := by have h := Dl.enc_len ws; have h3 := HL.out; rw [hE] at h; omega
      clear hE
      go_wp2_with fail
      refine (rdenc_is (some ⟨g, 0, none⟩) n n ws _ HL.out.symm (HR.out.rd HL.out.symm (by omega)) (by have := HL.out; omega) E HE.out).mono ?_
      rintro e w6 ⟨v6, rfl, ho6, hx6⟩
      obtain ⟨gc, cb, rfl, hg1, hg2, hg3, hg4⟩ := OwnR.form (e := 5) (enc := n8) ho6 (by omega)
      have HO6 : Hid (Own w6 wo.heap.size (.slice (some ⟨gc, 0, none⟩) E.length cb) E) := ho6
      have HX6 : Hid (Ex w w6) := HX.out.trans hx6
      have hsw := HX.out.size
      have hgcw : w.heap.size ≤ gc := by omega
      unfold maxLen at hg4
      clear ho6 hx6 hg1 hsw
      go_wp2_with fail
      refine (within_any a4 ((E.length : Int) - 1) _ w41 w42 (by omega) (by omega)).mono ?_
      rintro e wq ⟨k, hk, rfl, hw⟩
      have hw' := hw.symm; clear hw; subst hw'
      have hkl : k < E.length := by omega
      have hki : (k : Int) < (E.length : Int) := by omega
      have hcell := OwnR.cell (e := 5) (enc := n8) HO6.out rfl hkl
      have hfz := OwnR.frozen (e := 5) (enc := n8) k HO6.out rfl
      obtain ⟨y, hy⟩ : ∃ y, y = E[k].toNat := ⟨_, rfl⟩
      have hy8 : y < 256 := by rw [hy]; exact UInt8.toNat_lt _
      have hcy : w6.cell? ⟨gc, k, none⟩ = some (.int .u8 (y : Int)) := by rw [hcell, hy]
      obtain ⟨x8, hx8⟩ : ∃ x8, x8 = y ^^^ tu := ⟨_, rfl⟩
      have hxl : x8 < 256 := by rw [hx8]; exact Nat.xor_lt_two_pow (n := 8) (by omega) (by omega)
      have hxor : bits .xor .u8 (y : Int) (tu : Int) = (x8 : Int) := by rw [hx8]; exact xor_nat .u8 8 (by decide) wraps_u8 y tu (by omega) (by omega)
      obtain ⟨EC, hEC⟩ : ∃ EC, EC = E.set k (UInt8.ofNat x8) := ⟨_, rfl⟩
      have hset : Own (w6.setCell ⟨gc, k, none⟩ (.int .u8 (x8 : Int))) wo.heap.size (.slice (some ⟨gc, 0, none⟩) E.length cb) EC := by
        have := OwnR.set (e := 5) (enc := n8) (k := k) (v := .int .u8 (x8 : Int)) HO6.out rfl (UInt8.ofNat x8) (by simp [n8]; omega)
        rw [hEC]; exact this
      have hECl : E.length = EC.length := by rw [hEC]; simp
      obtain ⟨w7, hw7⟩ : ∃ w7, w6.setCell ⟨gc, k, none⟩ (.int .u8 (x8 : Int)) = w7 := ⟨_, rfl⟩
      have HX7 : Hid (Ex w w7) := (by rw [← hw7]; exact HX6.out.setCell (p := ⟨gc, k, none⟩) hgcw _ : Ex w w7)
      rw [hw7] at hset
      have HB7 : Hid (Byt w7 (some ⟨gc, 0, none⟩) cb EC) := hset.bytS
      have HECl : Hid (E.length = EC.length) := hECl
      obtain ⟨wp, hwp⟩ : ∃ wp, w7.alloc (Obj.cells #[Value.slice p0 l0.length c0, Value.slice (some ⟨gc, 0, none⟩) E.length cb] 29) = wp := ⟨_, rfl⟩
      have hxp : Ex w7 wp := by rw [← hwp]; exact (Below.refl _ _).alloc (Nat.le_refl _) _
      have hblk : wp.heap[w7.heap.size]? = some (.cells [Value.slice p0 l0.length c0, Value.slice (some ⟨gc, 0, none⟩) E.length cb].toArray 29 (0, 0)) := by rw [← hwp]; exact heap_alloc_new w7 _
      have hcel : ∀ k, wp.cell? ⟨w7.heap.size, k, none⟩ = [Value.slice p0 l0.length c0, Value.slice (some ⟨gc, 0, none⟩) E.length cb][k]? := fun k => by
        rw [cell_of_row wp _ k _ 29 (0, 0) hblk, List.getElem?_toArray]
      have HC0 : Hid (wp.cell? ⟨w7.heap.size, 0, none⟩ = some (Value.slice p0 l0.length c0)) := hcel 0
      have HC1 : Hid (wp.cell? ⟨w7.heap.size, 1, none⟩ = some (Value.slice (some ⟨gc, 0, none⟩) E.length cb)) := hcel 1
      have HXp : Hid (Ex w wp) := HX7.out.trans hxp
      have HBp : Hid (Byt wp (some ⟨gc, 0, none⟩) cb EC) := HB7.out.below hxp
      clear hcell hy hx8 hEC hset hECl hxp hblk hcel HB7
      go_wp2_with fail
      go_loopw [75] (fun vi wr => ∃ j : Nat, j ≤ 2 ∧ vi = .int .i64 (j : Int) ∧ Hid (Ex wp wr)) (fun vi _ => 2 - (intOf vi).toNat)
      case atStart => exact ⟨0, by omega, rfl, Ex.refl _⟩
      case round =>
        obtain ⟨j, hj, rfl, HXr⟩ := hrel
        clear hwp hw7 hcy hfz hxor
        match j, hj with
        | 0, _ =>
          rw [show ((0 : Nat) : Int) = (0 : Int) from rfl]
          have hc0' := cell_ex HC0.out HXr.out
          obtain ⟨ax, hax⟩ : ∃ ax, ax = p0 := ⟨_, rfl⟩
          subst hax
          obtain ⟨cx, hcx⟩ : ∃ cx, cx = c0 := ⟨_, rfl⟩
          subst hcx
          obtain ⟨lb, hlb⟩ : ∃ lb, lb = l0 := ⟨_, rfl⟩
          subst hlb
          have HBx : Hid (Byt wr ax cx lb) := HB0.out.below (HXp.out.trans HXr.out)
          by_cases h4 : 4000 < lb.length
          · have t4 : decide ((4000 : Int) < (lb.length : Int)) = true := by simp; omega
            have t4' : decide (4000 < lb.length) = true := by simp; omega
            go_wp2_with fail
            refine (known_any _).mono ?_
            rintro e wk ⟨rfl, hxk⟩
            go_wp2_with fail
            go_ret
            exact ⟨rfl, (HXp.out.trans HXr.out).trans hxk⟩
          · have t4 : decide ((4000 : Int) < (lb.length : Int)) = false := by simp; omega
            have t4' : decide (4000 < lb.length) = false := by simp; omega
            obtain ⟨⟨us, k0, e0⟩, hdec⟩ : ∃ z, Dl.dec lb a1 = z := ⟨_, rfl⟩
            have HD : Hid (Dl.dec lb a1 = (us, k0, e0)) := hdec
            by_cases he : e0 = 0
            · subst he
              clear hdec
              go_wp2_with fail
              refine (mdec_ok ax _ cx lb _ _ rfl HBx.out (by omega) ⟨by omega, by omega⟩ us k0 HD.out).mono ?_
              rintro e w5 ⟨v5, fp5, rfl, hm5, hf5, hx5⟩
              obtain ⟨m5, rfl⟩ := hm5.some_
              have HM5 : Hid (Mk w5 (.pointer (some ⟨m5, 0, none⟩)) fp5 us) := hm5
              have HX5 : Hid (Ex wr w5) := hx5
              clear hm5 hf5 hx5
              go_wp2_with fail
              refine (rddec_is ax _ cx lb _ _ rfl (HBx.out.below HX5.out) (by omega) us k0 0 HD.out).mono ?_
              rintro e w6 ⟨v6, rfl, ⟨a6, c6, hv6, hb6⟩, hx6⟩
              subst hv6
              have hc61 := hb6.1
              have hc62 := hb6.2.1
              unfold maxLen at hc62
              have HM6 : Hid (Mk w6 (.pointer (some ⟨m5, 0, none⟩)) fp5 us) := HM5.out.below hx6
              have HB6 : Hid (Rd bl w6 a6 c6 us) := hb6
              have HX6 : Hid (Ex wp w6) := HXr.out.trans (HX5.out.trans hx6)
              clear hb6 hx6
              by_cases h3 : us.length < 3000
              · have t3 : decide ((us.length : Int) < 3000) = true := by simp; omega
                have t3' : decide (us.length < 3000) = true := by simp; omega
                go_wp2_with fail
                refine (alike_is _ fp5 us a6 us.length c6 _ HM6.out rfl HB6.out (by omega)).mono ?_
                rintro e w7 ⟨rfl, hx7⟩
                have HX7 : Hid (Ex wp w7) := HX6.out.trans hx7
                clear hx7
                go_wp2_with fail
                go_roundw
                case rel => exact ⟨1, by omega, by go_num, HX7⟩
                case measure => simp [intOf]
              · have t3 : decide ((us.length : Int) < 3000) = false := by simp; omega
                have t3' : decide (us.length < 3000) = false := by simp; omega
                go_wp2_with fail
                go_roundw
                case rel => exact ⟨1, by omega, by go_num, HX6⟩
                case measure => simp [intOf]
            · obtain ⟨hus, hk0⟩ := Dl.dec_bad hdec he
              subst hus
              subst hk0
              have te : ((e0 : Int) != 0) = true := by simp; omega
              have HE : Hid (e0 ≠ 0) := he
              clear hdec he
              go_wp2_with fail
              refine (mdec_bad ax _ cx lb _ _ rfl HBx.out (by omega) ⟨by omega, by omega⟩ [] 0 e0 HD.out HE.out).mono ?_
              rintro e w5 ⟨rfl, hx5⟩
              have HX5 : Hid (Ex wr w5) := hx5
              clear hx5
              go_wp2_with fail
              refine (rddec_is ax _ cx lb _ _ rfl (HBx.out.below HX5.out) (by omega) [] 0 e0 HD.out).mono ?_
              rintro e w6 ⟨v6, rfl, ⟨a6, c6, hv6, hb6⟩, hx6⟩
              subst hv6
              have HX6 : Hid (Ex wp w6) := HXr.out.trans (HX5.out.trans hx6)
              clear hb6 hx6
              go_wp2_with fail
              go_roundw
              case rel => exact ⟨1, by omega, by go_num, HX6⟩
              case measure => simp [intOf]
        | 1, _ =>
          rw [show ((1 : Nat) : Int) = (1 : Int) from rfl]
          have hc1' := cell_ex HC1.out HXr.out
          obtain ⟨lb, hlb⟩ : ∃ lb, lb = EC := ⟨_, rfl⟩
          subst hlb
          obtain ⟨ax, hax⟩ : ∃ ax : Option Addr, some ⟨gc, 0, none⟩ = ax := ⟨_, rfl⟩
          obtain ⟨cx, hcx⟩ : ∃ cx, cx = cb := ⟨_, rfl⟩
          subst hcx
          have HBx : Hid (Byt wr ax cx lb) := (by rw [← hax]; exact HBp.out.below HXr.out : Byt wr ax cx lb)
          have HNx : Hid (E.length = lb.length) := HECl
          have hlbl : lb.length ≤ 2000 := by have := HECl.out; omega
          rw [hax] at hc1'
          clear hax
          obtain ⟨⟨us, k0, e0⟩, hdec⟩ : ∃ z, Dl.dec lb 0 = z := ⟨_, rfl⟩
          have HD : Hid (Dl.dec lb 0 = (us, k0, e0)) := hdec
          by_cases he : e0 = 0
          · subst he
            clear hdec
            go_wp2_with fail
            refine (mdec_ok ax _ cx lb _ _ HNx.out HBx.out (by omega) ⟨by omega, by omega⟩ us k0 HD.out).mono ?_
            rintro e w5 ⟨v5, fp5, rfl, hm5, hf5, hx5⟩
            obtain ⟨m5, rfl⟩ := hm5.some_
            have HM5 : Hid (Mk w5 (.pointer (some ⟨m5, 0, none⟩)) fp5 us) := hm5
            have HX5 : Hid (Ex wr w5) := hx5
            clear hm5 hf5 hx5
            go_wp2_with fail
            refine (rddec_is ax _ cx lb _ _ HNx.out (HBx.out.below HX5.out) (by omega) us k0 0 HD.out).mono ?_
            rintro e w6 ⟨v6, rfl, ⟨a6, c6, hv6, hb6⟩, hx6⟩
            subst hv6
            have hc61 := hb6.1
            have hc62 := hb6.2.1
            unfold maxLen at hc62
            have HM6 : Hid (Mk w6 (.pointer (some ⟨m5, 0, none⟩)) fp5 us) := HM5.out.below hx6
            have HB6 : Hid (Rd bl w6 a6 c6 us) := hb6
            have HX6 : Hid (Ex wp w6) := HXr.out.trans (HX5.out.trans hx6)
            clear hb6 hx6
            by_cases h3 : us.length < 3000
            · have t3 : decide ((us.length : Int) < 3000) = true := by simp; omega
              have t3' : decide (us.length < 3000) = true := by simp; omega
              go_wp2_with fail
              refine (alike_is _ fp5 us a6 us.length c6 _ HM6.out rfl HB6.out (by omega)).mono ?_
              rintro e w7 ⟨rfl, hx7⟩
              have HX7 : Hid (Ex wp w7) := HX6.out.trans hx7
              clear hx7
              go_wp2_with fail
              go_roundw
              case rel => exact ⟨2, by omega, by go_num, HX7⟩
              case measure => simp [intOf]
            · have t3 : decide ((us.length : Int) < 3000) = false := by simp; omega
              have t3' : decide (us.length < 3000) = false := by simp; omega
              go_wp2_with fail
              go_roundw
              case rel => exact ⟨2, by omega, by go_num, HX6⟩
              case measure => simp [intOf]
          · obtain ⟨hus, hk0⟩ := Dl.dec_bad hdec he
            subst hus
            subst hk0
            have te : ((e0 : Int) != 0) = true := by simp; omega
            have HE : Hid (e0 ≠ 0) := he
            clear hdec he
            go_wp2_with fail
            refine (mdec_bad ax _ cx lb _ _ HNx.out HBx.out (by omega) ⟨by omega, by omega⟩ [] 0 e0 HD.out HE.out).mono ?_
            rintro e w5 ⟨rfl, hx5⟩
            have HX5 : Hid (Ex wr w5) := hx5
            clear hx5
            go_wp2_with fail
            refine (rddec_is ax _ cx lb _ _ HNx.out (HBx.out.below HX5.out) (by omega) [] 0 e0 HD.out).mono ?_
            rintro e w6 ⟨v6, rfl, ⟨a6, c6, hv6, hb6⟩, hx6⟩
            subst hv6
            have HX6 : Hid (Ex wp w6) := HXr.out.trans (HX5.out.trans hx6)
            clear hb6 hx6
            go_wp2_with fail
            go_roundw
            case rel => exact ⟨2, by omega, by go_num, HX6⟩
            case measure => simp [intOf]
        | 2, _ =>
          rw [show ((2 : Nat) : Int) = (2 : Int) from rfl]
          go_wp2_with fail
          refine (known_any _).mono ?_
          rintro e wk ⟨rfl, hxk⟩
          go_wp2_with fail
          go_ret
          exact ⟨rfl, (HXp.out.trans HXr.out).trans hxk⟩
end Go.Proofs.Ytkhbkifofkjjnaa.delsReads
