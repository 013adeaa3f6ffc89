/-
  The walk of BloomTells.
-/
import Derived.Test.YtadcbefgleiijaaFback
import Derived.Test.YtadcbefgleiijaaOpenf
namespace Go.Proofs.Ytadcbefgleiijaa
open Go.RowKit
set_option linter.unusedVariables false
set_option linter.unusedSimpArgs false
theorem rb_build (a : Option Addr) (n cap : Nat) (l : List (List UInt8)) (w : World) (hn : n = l.length) (hB : Rd st w a cap l) (hl : l.length ≤ 500) (hx : ∀ x ∈ l, x.length ≤ 9223372036854775807) :
    Calls Try.prog 10 #[.slice a n cap] w fun e w' => ∃ a' c', e = .returned (fv (Fl.bits l : Int) (.slice a' (Fl.bytes l).length c')) ∧ Byt w' a' c' (Fl.bytes l) ∧ Ex w w' := by
  refine (rfil_is a n cap l w hn hB hl hx).mono ?_
  rintro e w' ⟨v, rfl, ho, hx⟩
  obtain ⟨a', c', rfl, hb⟩ := ho.byt
  exact ⟨a', c', rfl, hb, hx⟩
theorem rb_enc (k : Int) (a : Option Addr) (n cap : Nat) (B : List UInt8) (w : World) (hn : n = B.length) (hB : Byt w a cap B) (hbl : B.length ≤ 281474976710656) (r : List UInt8) (e0 : Nat) (hr : Fl.encE k B = (r, e0)) :
    Calls Try.prog 12 #[fv k (.slice a n cap)] w fun e w' => ∃ a' c', e = .returned (.tuple #[.slice a' r.length c', .int .i64 e0]) ∧ Byt w' a' c' r ∧ Ex w w' := by
  refine (renc_is k a n cap B w hn hB hbl r e0 hr).mono ?_
  rintro e w' ⟨v, rfl, ho, hx⟩
  obtain ⟨a', c', rfl, hb⟩ := ho.byt
  exact ⟨a', c', rfl, hb, hx⟩
theorem rb_dec (a : Option Addr) (len cap : Nat) (b : List UInt8) (p : Int) (w : World) (hlen : len = b.length) (hB : Byt w a cap b) (hbl : b.length ≤ 281474976710656) (N0 : Nat) (x : List UInt8) (k0 e0 : Nat) (hr : Fl.decE b p = (N0, x, k0, e0)) :
    Calls Try.prog 19 #[.slice a len cap, .int .i64 p] w fun e w' => ∃ a' c', e = .returned (.tuple #[fv N0 (.slice a' x.length c'), .int .i64 k0, .int .i64 e0]) ∧ Byt w' a' c' x ∧ Ex w w' := by
  refine (rdec_is a len cap b p w hlen hB hbl N0 x k0 e0 hr).mono ?_
  rintro e w' ⟨v, rfl, ho, hx⟩
  obtain ⟨a', c', rfl, hb⟩ := ho.byt
  exact ⟨a', c', rfl, hb, hx⟩
theorem Fl.enc_small {k : Int} {B r : List UInt8} {e0 : Nat} (h : Fl.encE k B = (r, e0)) : r.length ≤ 8202 ∧ e0 ≤ 12 := by
  unfold Fl.encE at h
  split at h
  · rename_i hR
    simp only [Prod.mk.injEq] at h
    obtain ⟨rfl, rfl⟩ := h
    obtain ⟨m, hm, h1, h2, h3, _⟩ := Fl.right_div hR
    have := M.digs_len k.toNat
    simp; omega
  · simp only [Prod.mk.injEq] at h
    obtain ⟨rfl, rfl⟩ := h
    simp
theorem Fl.dec_small {b x : List UInt8} {p : Int} {N k e0 : Nat} (h : Fl.decE b p = (N, x, k, e0)) : N < 18446744073709551616 ∧ k ≤ b.length ∧ e0 ≤ 12 := by
  have ha := M.get_all b p
  unfold Fl.decE at h
  split at h
  · simp only [Prod.mk.injEq] at h; obtain ⟨rfl, _, rfl, rfl⟩ := h; omega
  · split at h
    · simp only [Prod.mk.injEq] at h; obtain ⟨rfl, _, rfl, rfl⟩ := h; omega
    · split at h
      · simp only [Prod.mk.injEq] at h; obtain ⟨rfl, _, rfl, rfl⟩ := h; omega
      · simp only [Prod.mk.injEq] at h; obtain ⟨rfl, _, rfl, rfl⟩ := h; omega
end Go.Proofs.Ytadcbefgleiijaa
namespace Go.Proofs.Ytadcbefgleiijaa.bloomTells
open Go.RowKit Go.Proofs.Ytadcbefgleiijaa
set_option linter.unusedVariables false
set_option linter.unusedSimpArgs false
set_option maxRecDepth 100000 in
set_option maxHeartbeats 8000000 in
theorem walk (p0 : Option Addr) (c0 : Nat) (l0 : List (List UInt8)) (s1 : List UInt8) (i2 : Int) (p2 : Option Addr) (c2 : Nat) (l2 : List UInt8) (p3 : Option Addr) (c3 : Nat) (l3 : List UInt8) (a4 : Int) (w : World) (b0 : Rd st w p0 c0 l0) (m0 : ∀ x ∈ l0, x.length ≤ maxLen) (w1 : s1.length ≤ 140737488351232) (m2 : In64 i2) (b2 : Byt w p2 c2 l2) (b3 : Byt w p3 c3 l3) (w3 : l3.length ≤ 140737488351232) (w4 : -9223372036854775808 ≤ a4 ∧ a4 ≤ 9223372036854775807) :
    Calls Try.prog 4 #[.slice p0 l0.length c0, .string (str s1), fv i2 (.slice p2 l2.length c2), .slice p3 l3.length c3, .int .i64 a4] w fun e w' => e = .returned (.bool true) ∧ Below w.heap.size w w' := by
  obtain ⟨wa1, wa2⟩ := w4
  obtain ⟨L, hL⟩ : ∃ L, l0.take 40 = L := ⟨_, rfl⟩
  have hLl : L.length ≤ 40 := by rw [← hL]; simp; omega
  have HLx : Hid (∀ x ∈ L, x.length ≤ 9223372036854775807) := (fun x h => by rw [← hL] at h; exact m0 x (List.mem_of_mem_take h) : ∀ x ∈ L, x.length ≤ 9223372036854775807)
  have HB0 : Hid (Rd st w p0 c0 l0) := b0
  have HRL : Hid (Rd st w p0 c0 L) := (by rw [← hL]; exact b0.take 40 : Rd st w p0 c0 L)
  have HL : Hid (l0.take 40 = L) := hL
  have HB2 : Hid (Byt w p2 c2 l2) := b2
  have HB3 : Hid (Byt w p3 c3 l3) := b3
  have hcl2 := b2.1
  have hcm2 := b2.2.1
  unfold maxLen at hcm2
  have hss : (str s1).size = s1.length := str_size s1
  have hxA : Ex w (w.alloc (fb i2 (.slice p2 l2.length c2) 25)) := (Below.refl _ _).alloc (Nat.le_refl _) _
  have hFA := FAt.new w i2 (.slice p2 l2.length c2) 25
  obtain ⟨wA, hwA⟩ : ∃ wA, w.alloc (Obj.cells #[Value.int IntKind.i64 i2, Value.slice p2 l2.length c2] 25) = wA := ⟨_, rfl⟩
  have HXA : Hid (Ex w wA) := (by rw [← hwA]; exact hxA : Ex w wA)
  have HFA : Hid (FAt wA w.heap.size i2 (.slice p2 l2.length c2) 25) := (by rw [← hwA]; exact hFA : FAt wA w.heap.size i2 (.slice p2 l2.length c2) 25)
  have HWA : Hid (w.alloc (Obj.cells #[Value.int IntKind.i64 i2, Value.slice p2 l2.length c2] 25) = wA) := hwA
  obtain ⟨q0, q1⟩ := HFA.out.all
  clear b0 m0 b2 b3 hL hxA hFA hwA
  by_cases hbig : 9000 < l2.length
  · have t1 : decide (9000 < (l2.length : Int)) = true := by simp; omega
    unfold fv
    go_enter Try.func4, Try.ntmps4
    go_wp2_with fail
    have hwz := HWA.out
    rw [hwz]
    clear hwz
    refine (few_is _ _ c0 l0 _ rfl (HB0.out.below HXA.out)).mono ?_
    rintro e wq ⟨rfl, hw⟩
    have hw' := hw.symm; clear hw; subst hw'
    rw [HL.out]
    go_wp2_with fail
    refine (known_any _).mono ?_
    rintro e wk ⟨rfl, hxk⟩
    go_wp2_with fail
    go_ret
    exact ⟨rfl, HXA.out.trans hxk⟩
  · have t1 : decide (9000 < (l2.length : Int)) = false := by simp; omega
    by_cases hbs : 300 < s1.length
    · have t2 : decide (300 < (s1.length : Int)) = true := by simp; omega
      have t2' : decide (300 < s1.length) = true := by simp; omega
      unfold fv
      go_enter Try.func4, Try.ntmps4
      go_wp2_with fail
      have hwz := HWA.out
      rw [hwz]
      clear hwz
      refine (few_is _ _ c0 l0 _ rfl (HB0.out.below HXA.out)).mono ?_
      rintro e wq ⟨rfl, hw⟩
      have hw' := hw.symm; clear hw; subst hw'
      rw [HL.out]
      go_wp2_with fail
      refine (known_any _).mono ?_
      rintro e wk ⟨rfl, hxk⟩
      go_wp2_with fail
      go_ret
      exact ⟨rfl, HXA.out.trans hxk⟩
    · have t2 : decide (300 < (s1.length : Int)) = false := by simp; omega
      have t2' : decide (300 < s1.length) = false := by simp; omega
      obtain ⟨K, hK⟩ : ∃ K, Fl.bits L = K := ⟨_, rfl⟩
      obtain ⟨B, hB⟩ : ∃ B, Fl.bytes L = B := ⟨_, rfl⟩
      have hR : Fl.rightB (K : Int) B.length = true := by rw [← hK, ← hB]; exact Fl.right_built L
      obtain ⟨_, hKm, hK1, hK2, hBl, _⟩ := Fl.right_div hR
      have hBl8 : B.length ≤ 8192 := by omega
      have HK : Hid (Fl.bits L = K) := hK
      have HBB : Hid (Fl.bytes L = B) := hB
      clear hK hB hR hKm hK1 hK2 hBl
      unfold fv
      go_enter Try.func4, Try.ntmps4
      go_wp2_with fail
      have hwz := HWA.out
      rw [hwz]
      clear hwz
      refine (few_is _ _ c0 l0 _ rfl (HB0.out.below HXA.out)).mono ?_
      rintro e wq ⟨rfl, hw⟩
      have hw' := hw.symm; clear hw; subst hw'
      rw [HL.out]
      go_wp2_with fail
      refine (b_build _ _ c0 L _ rfl (HRL.out.below HXA.out) (by omega) HLx.out).mono ?_
      rintro e wb ⟨af, cf, rfl, hbf, hxf⟩
      rw [HBB.out] at hbf
      rw [HK.out, HBB.out]
      obtain ⟨wf, hwwf⟩ : ∃ wf, wb.alloc (Obj.cells #[Value.int IntKind.i64 (K : Int), Value.slice af B.length cf] 25) = wf := ⟨_, rfl⟩
      have hxwf : Ex wb wf := by rw [← hwwf]; exact (Below.refl _ _).alloc (Nat.le_refl _) _
      have HFwf : Hid (FAt wf wb.heap.size (K : Int) (.slice af B.length cf) 25) := (by rw [← hwwf]; exact FAt.new wb (K : Int) _ 25 : FAt wf wb.heap.size (K : Int) (.slice af B.length cf) 25)
      have HBf : Hid (Byt wf af cf B) := hbf.below hxwf
      have HXf : Hid (Ex wA wf) := hxf.trans hxwf
      clear hbf hxf hxwf q0 q1
      simp only [fv]
      go_wp2_with fail
      refine (rb_build _ _ c0 L _ rfl (HRL.out.below (HXA.out.trans HXf.out)) (by omega) HLx.out).mono ?_
      rintro e wc ⟨ag, cg, rfl, hbg, hxg⟩
      rw [HBB.out] at hbg
      rw [HK.out, HBB.out]
      obtain ⟨wg, hwwg⟩ : ∃ wg, wc.alloc (Obj.cells #[Value.int IntKind.i64 (K : Int), Value.slice ag B.length cg] 27) = wg := ⟨_, rfl⟩
      have hxwg : Ex wc wg := by rw [← hwwg]; exact (Below.refl _ _).alloc (Nat.le_refl _) _
      have HFwg : Hid (FAt wg wc.heap.size (K : Int) (.slice ag B.length cg) 27) := (by rw [← hwwg]; exact FAt.new wc (K : Int) _ 27 : FAt wg wc.heap.size (K : Int) (.slice ag B.length cg) 27)
      have HXfg : Hid (Ex wf wg) := hxg.trans hxwg
      have HBg : Hid (Byt wg ag cg B) := hbg.below hxwg
      have HBfg : Hid (Byt wg af cf B) := HBf.out.below HXfg.out
      have HFfg : Hid (FAt wg wb.heap.size K (.slice af B.length cf) 25) := HFwf.out.below HXfg.out
      have HFAg : Hid (FAt wg w.heap.size i2 (.slice p2 l2.length c2) 25) := HFA.out.below (HXf.out.trans HXfg.out)
      have HXg : Hid (Ex w wg) := HXA.out.trans (HXf.out.trans HXfg.out)
      obtain ⟨i0, i1⟩ := HFwg.out.all
      obtain ⟨j0, j1⟩ := HFfg.out.all
      obtain ⟨q0, q1⟩ := HFAg.out.all
      have hs1 := run_str (n := B.length) HBg.out rfl
      have hs2 := run_str (n := B.length) HBfg.out rfl
      obtain ⟨wp, hwp⟩ : ∃ wp, wg.alloc (Obj.cells #[Value.int IntKind.i64 i2, Value.slice p2 l2.length c2, Value.int IntKind.i64 (K : Int), Value.slice af B.length cf] 25) = wp := ⟨_, rfl⟩
      have hxp : Ex wg wp := by rw [← hwp]; exact (Below.refl _ _).alloc (Nat.le_refl _) _
      have hblk : wp.heap[wg.heap.size]? = some (.cells [Value.int IntKind.i64 i2, Value.slice p2 l2.length c2, Value.int IntKind.i64 (K : Int), Value.slice af B.length cf].toArray 25 (0, 0)) := by rw [← hwp]; exact heap_alloc_new wg _
      have hcel : ∀ k, wp.cell? ⟨wg.heap.size, k, none⟩ = [Value.int IntKind.i64 i2, Value.slice p2 l2.length c2, Value.int IntKind.i64 (K : Int), Value.slice af B.length cf][k]? := fun k => by
        rw [cell_of_row wp _ k _ 25 (0, 0) hblk, List.getElem?_toArray]
      have HEach : Hid (∀ j, j < 2 → ∃ (kx : Int) (ax : Option Addr) (cx : Nat) (lx : List UInt8), wp.cell? ⟨wg.heap.size, j * 2, none⟩ = some (.int .i64 kx) ∧ wp.cell? ⟨wg.heap.size, j * 2 + 1, none⟩ = some (.slice ax lx.length cx) ∧ Byt wp ax cx lx ∧ lx.length ≤ 9000 ∧ Fl.I6 kx) := (by
        intro j hj
        match j, hj with
        | 0, _ => exact ⟨i2, p2, c2, l2, hcel 0, hcel 1, (HB2.out.below HXg.out).below hxp, by omega, by have h1 := m2.1; have h2 := m2.2; exact ⟨by omega, by omega⟩⟩
        | 1, _ => exact ⟨K, af, cf, B, hcel 2, hcel 3, HBfg.out.below hxp, by omega, by rw [← HK.out]; exact Fl.bits_i6 _⟩ : ∀ j, j < 2 → ∃ (kx : Int) (ax : Option Addr) (cx : Nat) (lx : List UInt8), wp.cell? ⟨wg.heap.size, j * 2, none⟩ = some (.int .i64 kx) ∧ wp.cell? ⟨wg.heap.size, j * 2 + 1, none⟩ = some (.slice ax lx.length cx) ∧ Byt wp ax cx lx ∧ lx.length ≤ 9000 ∧ Fl.I6 kx)
      have HXp : Hid (Ex w wp) := HXg.out.trans hxp
      clear hbg hxg hxwg hwwf hxp hblk hcel
      simp only [fv]
      go_wp2_with fail
      go_loopw [3, 59] (fun v i wr => ∃ j : Nat, j ≤ 2 ∧ i = .int .i64 j ∧ Hid (∃ a3 c3' lb, v = .slice a3 (List.length lb) c3' ∧ Byt wr a3 c3' lb ∧ lb.length ≤ 140737488351232 + 10000 * j) ∧ Hid (Ex wp wr)) (fun _ i _ => 2 - (intOf i).toNat)
      case atStart => exact ⟨0, by omega, rfl, (⟨p3, c3, l3, rfl, HB3.out.below HXp.out, by omega⟩ : ∃ a3 c3' lb, Value.slice p3 l3.length c3 = .slice a3 (List.length lb) c3' ∧ Byt wp a3 c3' lb ∧ lb.length ≤ 140737488351232 + 10000 * 0), Ex.refl _⟩
      case round =>
        obtain ⟨j, hj, rfl, HV, HXr⟩ := hrel
        obtain ⟨a3, c3', lb, hv3, hb3, hlb⟩ := HV.out
        subst hv3
        have HB3r : Hid (Byt wr a3 c3' lb) := hb3
        have hcb := hb3.1
        have hcb2 := hb3.2.1
        unfold maxLen at hcb2
        clear HV hb3 i0 i1 j0 j1 q0 q1 hs1 hs2 hwwg hwp
        by_cases hlt : j < 2
        · obtain ⟨kx, ax, cx, lx, hc0, hc1, hbx, hlx, hi6⟩ := HEach.out j hlt
          have HI6 : Hid (Fl.I6 kx) := hi6
          clear hi6
          have hc0' := cell_ex hc0 HXr.out
          have hc1' := cell_ex hc1 HXr.out
          have HBx : Hid (Byt wr ax cx lx) := hbx.below HXr.out
          have tj : decide ((j : Int) < 2) = true := by simp; omega
          have tj2 : decide (j < 2) = true := by simp; omega
          obtain ⟨w5, hw5⟩ : ∃ w5, wr.alloc (Obj.cells #[Value.int IntKind.i64 kx, Value.slice ax lx.length cx] 25) = w5 := ⟨_, rfl⟩
          have hx5 : Ex wr w5 := by rw [← hw5]; exact (Below.refl _ _).alloc (Nat.le_refl _) _
          have HF5 : Hid (FAt w5 wr.heap.size kx (.slice ax lx.length cx) 25) := (by rw [← hw5]; exact FAt.new wr kx _ 25 : FAt w5 wr.heap.size kx (.slice ax lx.length cx) 25)
          have HX5 : Hid (Ex wr w5) := hx5
          have HB5 : Hid (Byt w5 ax cx lx) := HBx.out.below hx5
          obtain ⟨g0, g1⟩ := HF5.out.all
          obtain ⟨⟨Cb, e0⟩, henc⟩ : ∃ z, Fl.encE kx lx = z := ⟨_, rfl⟩
          have HEnc : Hid (Fl.encE kx lx = (Cb, e0)) := henc
          obtain ⟨hCl, he0⟩ := Fl.enc_small henc
          obtain ⟨rm, hrm⟩ : ∃ rm, Fl.may kx lx s1 = rm := ⟨_, rfl⟩
          have HRm : Hid (Fl.may kx lx s1 = rm) := hrm
          obtain ⟨rr, hrr⟩ : ∃ rr, Fl.rightB kx lx.length = rr := ⟨_, rfl⟩
          have HRr : Hid (Fl.rightB kx lx.length = rr) := hrr
          clear hc0 hc1 hbx hx5 henc hrm hrr
          go_wp2_with fail
          refine (b_enc kx ax lx.length cx lx _ rfl HB5.out (by omega) HI6.out Cb e0 HEnc.out).mono ?_
          rintro e w6 ⟨ac, cc, rfl, hbc, hxc⟩
          have HX6 : Hid (Ex w5 w6) := hxc
          have HC6 : Hid (Byt w6 ac cc Cb) := hbc
          obtain ⟨g0', g1'⟩ := (HF5.out.below hxc).all
          clear hbc hxc g0 g1 hc0' hc1' hw5
          go_wp2_with fail
          refine (in_is kx ax lx.length cx _).mono ?_
          rintro e w7 ⟨rfl, hx7⟩
          have HX7 : Hid (Ex w6 w7) := hx7
          clear hx7 g0' g1'
          simp only [fv]
          go_wp2_with fail
          refine (rb_enc kx ax lx.length cx lx _ rfl (HB5.out.below (HX6.out.trans HX7.out)) (by omega) Cb e0 HEnc.out).mono ?_
          rintro e w8 ⟨ad, cd, rfl, hbd, hxd⟩
          have HX8 : Hid (Ex w5 w8) := HX6.out.trans (HX7.out.trans hxd)
          have HC8 : Hid (Byt w8 ac cc Cb) := HC6.out.below (HX7.out.trans hxd)
          have HD8 : Hid (Byt w8 ad cd Cb) := hbd
          have HF8 : Hid (FAt w8 wr.heap.size kx (.slice ax lx.length cx) 25) := HF5.out.below HX8.out
          have HB8 : Hid (Byt w8 ax cx lx) := HB5.out.below HX8.out
          have HL8 : Hid (Byt w8 a3 c3' lb) := HB3r.out.below (HX5.out.trans HX8.out)
          have HXr8 : Hid (Ex wp w8) := HXr.out.trans (HX5.out.trans HX8.out)
          clear hbd hxd
          go_wp2_with fail
          have hre := Ex.refl
          refine Rg.wp_rows [.inl (fv kx (.slice ax lx.length cx)), .inl (Value.string (str s1)), .inl (.bool rm), .inl (fv kx (.slice ax lx.length cx)), .inl (fv kx (.slice ax lx.length cx)), .inl (Value.string (str s1)), .inl (.bool rm), .inl (.bool false), .inl (.bool false), .inl (fv kx (.slice ax lx.length cx)), .inl (.bool rr), .inl (fv kx (.slice ax lx.length cx)), .inl (fv kx (.slice ax lx.length cx)), .inl (.bool rr), .inl (.bool false), .inl (.bool false), .inl (.bool false), .inl (Value.slice ac Cb.length cc), .inl (Value.string (str Cb)), .inl (Value.slice ad Cb.length cd), .inl (Value.string (str Cb)), .inl (.bool false), .inl (.bool false), .inl (.bool false), .inl (Value.int .i64 e0), .inl (Value.int .i64 e0), .inl (.bool false), .inl (.bool false)] (Ex w8) Ex 149 (by kernel_rfl) rfl (by kernel_rfl) ?st hre (Ex.drew _) ?goods ?fin
          case st => exact trivial
          case goods =>
            refine Rg.goods_cons (Rg.good_load hre rfl rfl rfl (fun wx hC => by exact load_filI (.inl rfl) (HF8.out.below hC))) ?_
            refine Rg.goods_cons (Rg.good_move hre rfl rfl rfl) ?_
            refine Rg.goods_cons (Rg.good_call2 Try.func16 (by kernel_rfl) rfl rfl rfl (by rintro u u2 wx hC rfl rfl; exact ex_row (b_may kx ax lx.length cx lx s1 wx rfl (HB8.out.below hC) (by omega) (by omega) HI6.out rm HRm.out) hC)) ?_
            refine Rg.goods_cons (Rg.good_load hre rfl rfl rfl (fun wx hC => by exact load_filI (.inl rfl) (HF8.out.below hC))) ?_
            refine Rg.goods_cons (Rg.good_call1 Try.func13 (by kernel_rfl) rfl rfl rfl (by rintro u wx hC rfl; exact ex_row (in_is kx ax lx.length cx wx) hC)) ?_
            refine Rg.goods_cons (Rg.good_move hre rfl rfl rfl) ?_
            refine Rg.goods_cons (Rg.good_call2 Try.func17 (by kernel_rfl) rfl rfl rfl (by rintro u u2 wx hC rfl rfl; exact ex_row (rmay_is kx ax lx.length cx lx s1 wx rfl (HB8.out.below hC) (by omega) (by omega) rm HRm.out) hC)) ?_
            refine Rg.goods_cons (Rg.good_bin hre rfl rfl rfl rfl (fun _ => rfl) (fun w => by cases rm <;> go_simp)) ?_
            refine Rg.goods_cons (Rg.good_move hre rfl rfl rfl) ?_
            refine Rg.goods_cons (Rg.good_load hre rfl rfl rfl (fun wx hC => by exact load_filI (.inl rfl) (HF8.out.below hC))) ?_
            refine Rg.goods_cons (Rg.good_call1 Try.func14 (by kernel_rfl) rfl rfl rfl (by rintro u wx hC rfl; exact ex_row (b_right kx ax lx.length cx wx (by omega) HI6.out rr HRr.out) hC)) ?_
            refine Rg.goods_cons (Rg.good_load hre rfl rfl rfl (fun wx hC => by exact load_filI (.inl rfl) (HF8.out.below hC))) ?_
            refine Rg.goods_cons (Rg.good_call1 Try.func13 (by kernel_rfl) rfl rfl rfl (by rintro u wx hC rfl; exact ex_row (in_is kx ax lx.length cx wx) hC)) ?_
            refine Rg.goods_cons (Rg.good_call1 Try.func15 (by kernel_rfl) rfl rfl rfl (by rintro u wx hC rfl; exact ex_row (rright_is kx ax lx.length cx wx (by omega) rr HRr.out) hC)) ?_
            refine Rg.goods_cons (Rg.good_bin hre rfl rfl rfl rfl (fun _ => rfl) (fun w => by cases rr <;> go_simp)) ?_
            refine Rg.goods_cons (Rg.good_pick false hre rfl rfl rfl rfl) ?_
            refine Rg.goods_cons (Rg.good_move hre rfl rfl rfl) ?_
            refine Rg.goods_cons (Rg.good_move hre rfl rfl rfl) ?_
            refine Rg.goods_cons (Rg.good_conv hre rfl rfl (by rintro u wx hC rfl; exact run_str (HC8.out.below hC) rfl)) ?_
            refine Rg.goods_cons (Rg.good_move hre rfl rfl rfl) ?_
            refine Rg.goods_cons (Rg.good_conv hre rfl rfl (by rintro u wx hC rfl; exact run_str (HD8.out.below hC) rfl)) ?_
            refine Rg.goods_cons (Rg.good_bin hre rfl rfl rfl rfl (fun _ => rfl) (fun w => by go_simp)) ?_
            refine Rg.goods_cons (Rg.good_pick false hre rfl rfl rfl rfl) ?_
            refine Rg.goods_cons (Rg.good_move hre rfl rfl rfl) ?_
            refine Rg.goods_cons (Rg.good_move hre rfl rfl rfl) ?_
            refine Rg.goods_cons (Rg.good_move hre rfl rfl rfl) ?_
            refine Rg.goods_cons (Rg.good_bin hre rfl rfl rfl rfl (fun _ => rfl) (fun w => by go_simp)) ?_
            refine Rg.goods_cons (Rg.good_pick false hre rfl rfl rfl rfl) ?_
            exact Rg.goods_nil
          case fin =>
            intro wx hx
            simp only [Rg.later, Act.put, List.setIfInBounds_toArray, List.set_cons_succ, List.set_cons_zero]
            have HXx : Hid (Ex w8 wx) := hx
            clear hx
            go_wp2_with (first
              | (refine wpList_build_own rfl 102 rfl 0 [] rfl (by decide) (fun _ => by kernel_rfl) wx.heap.size (Nat.le_refl _) ?_; intro g102 w102 ho102 hx102)
              | (at_builtin; refine wpList_append_byt2 rfl (.tmp 102) (.tmp 103) rfl wx.heap.size _ [] rfl ho102 a3 _ c3' lb rfl rfl ((HL8.out.below HXx.out).below hx102) (by simp; omega) (Ex.size hx102) ?_; intro v104 w104 ho104 hg104; have X104 : Ex wx w104 := step_below0 hx102 (Ex.size hx102) ho102 hg104; clear hg104; rw [List.nil_append] at ho104)
              | (at_builtin; refine wpList_append_byt2 rfl (.tmp 104) (.tmp 105) rfl wx.heap.size _ lb rfl ho104 ad _ cd Cb rfl rfl ((HD8.out.below HXx.out).below X104) (by omega) (Ex.size X104) ?_; intro v106 w106 ho106 hg106; have X106 : Ex wx w106 := step_below0 X104 (Ex.size X104) ho104 hg106; clear hg106; obtain ⟨a6, c6, hv6, hb6⟩ := ho106.byt; subst hv6))
            have HX106 : Hid (Ex wp w106) := HXr8.out.trans (HXx.out.trans X106)
            have hle : (lb ++ Cb).length ≤ 140737488351232 + 10000 * (j + 1) := by simp; omega
            have HV6 : Hid (∃ a3 c3' lb2, Value.slice a6 (lb.length + Cb.length) c6 = .slice a3 (List.length lb2) c3' ∧ Byt w106 a3 c3' lb2 ∧ lb2.length ≤ 140737488351232 + 10000 * (j + 1)) := (⟨a6, c6, lb ++ Cb, by rw [List.length_append], hb6, hle⟩ : ∃ a3 c3' lb2, Value.slice a6 (lb.length + Cb.length) c6 = .slice a3 (List.length lb2) c3' ∧ Byt w106 a3 c3' lb2 ∧ lb2.length ≤ 140737488351232 + 10000 * (j + 1))
            clear X106 hb6 ho106 X104 ho104 hx102 ho102 hle
            go_roundw
            case rel => exact ⟨j + 1, by omega, by go_num, HV6, HX106⟩
            case measure => simp [intOf]; omega
        · obtain rfl : j = 2 := by omega
          obtain ⟨⟨N2, x2, k2, e2⟩, hdec⟩ : ∃ z, Fl.decE lb a4 = z := ⟨_, rfl⟩
          have HD2 : Hid (Fl.decE lb a4 = (N2, x2, k2, e2)) := hdec
          obtain ⟨hN2, hk2, he2⟩ := Fl.dec_small hdec
          clear hdec
          go_wp2_with fail
          refine (b_dec a3 _ c3' lb _ _ rfl HB3r.out (by omega) N2 x2 k2 e2 HD2.out).mono ?_
          rintro e wd ⟨ah, ch, rfl, hbh, hxh⟩
          obtain ⟨wh, hwwh⟩ : ∃ wh, wd.alloc (Obj.cells #[Value.int IntKind.i64 (N2 : Int), Value.slice ah x2.length ch] 25) = wh := ⟨_, rfl⟩
          have hxwh : Ex wd wh := by rw [← hwwh]; exact (Below.refl _ _).alloc (Nat.le_refl _) _
          have HFwh : Hid (FAt wh wd.heap.size (N2 : Int) (.slice ah x2.length ch) 25) := (by rw [← hwwh]; exact FAt.new wd (N2 : Int) _ 25 : FAt wh wd.heap.size (N2 : Int) (.slice ah x2.length ch) 25)
          have HXh : Hid (Ex wr wh) := hxh.trans hxwh
          have HBh : Hid (Byt wh ah ch x2) := hbh.below hxwh
          clear hbh hxh hxwh
          simp only [fv]
          go_wp2_with fail
          refine (rb_dec a3 _ c3' lb _ _ rfl (HB3r.out.below HXh.out) (by omega) N2 x2 k2 e2 HD2.out).mono ?_
          rintro e we ⟨ai, ci, rfl, hbi, hxi⟩
          obtain ⟨wi, hwwi⟩ : ∃ wi, we.alloc (Obj.cells #[Value.int IntKind.i64 (N2 : Int), Value.slice ai x2.length ci] 27) = wi := ⟨_, rfl⟩
          have hxwi : Ex we wi := by rw [← hwwi]; exact (Below.refl _ _).alloc (Nat.le_refl _) _
          have HFwi : Hid (FAt wi we.heap.size (N2 : Int) (.slice ai x2.length ci) 27) := (by rw [← hwwi]; exact FAt.new we (N2 : Int) _ 27 : FAt wi we.heap.size (N2 : Int) (.slice ai x2.length ci) 27)
          have HXhi : Hid (Ex wh wi) := hxi.trans hxwi
          have HBi : Hid (Byt wi ai ci x2) := hbi.below hxwi
          have HXi : Hid (Ex w wi) := HXp.out.trans (HXr.out.trans (HXh.out.trans HXhi.out))
          obtain ⟨i0, i1⟩ := HFwi.out.all
          obtain ⟨j0, j1⟩ := (HFwh.out.below HXhi.out).all
          have hs1 := run_str (n := x2.length) HBi.out rfl
          have hs2 := run_str (n := x2.length) (HBh.out.below HXhi.out) rfl
          clear hbi hxi hxwi hwwh
          simp only [fv]
          go_wp2_with fail
          refine (known_any _).mono ?_
          rintro e wk ⟨rfl, hxk⟩
          go_wp2_with fail
          go_ret
          exact ⟨rfl, HXi.out.trans hxk⟩
end Go.Proofs.Ytadcbefgleiijaa.bloomTells
