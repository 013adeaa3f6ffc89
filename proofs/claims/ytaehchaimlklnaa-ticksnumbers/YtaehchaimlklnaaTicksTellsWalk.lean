/-
  The walk of TicksTells.
-/
import Derived.Test.YtaehchaimlklnaaTicksBackWalk
import Derived.Test.YtaehchaimlklnaaOpenx
namespace Go.Proofs.Ytaehchaimlklnaa
open Go.RowKit
set_option linter.unusedVariables false
set_option linter.unusedSimpArgs false
theorem rt_build (a : Option Addr) (n cap : Nat) (l : List Int) (w : World) (hn : n = l.length) (hB : Rd z64 w a cap l) (X : Tk.Ix) (c : Nat) (hx : Tk.build l = (X, c)) :
    Calls Try.prog 10 #[.slice a n cap] w fun e w' => ∃ p c2, e = .returned (.tuple #[xv X.r X.m (.slice p X.a.length c2), .int .i64 c]) ∧ Rd z64 w' p c2 X.a ∧ Ex w w' :=
  (rtb_is a n cap l w hn hB X c hx).mono fun e w' ⟨v, h1, h2, h3⟩ => by
    obtain ⟨p, c2, rfl, hr⟩ := h2.rd
    exact ⟨p, c2, h1, hr, h3⟩
theorem rt_dec (a : Option Addr) (len cap : Nat) (b : List UInt8) (p : Int) (w : World) (hlen : len = b.length) (hB : Byt w a cap b) (hbl : b.length ≤ 140737488355328) (X : Tk.Ix) (k0 e0 : Nat) (hr : Tk.dec b p = (X, k0, e0)) :
    Calls Try.prog 20 #[.slice a len cap, .int .i64 p] w fun e w' => ∃ q c2, e = .returned (.tuple #[xv X.r X.m (.slice q X.a.length c2), .int .i64 k0, .int .i64 e0]) ∧ Rd z64 w' q c2 X.a ∧ Ex w w' :=
  (rtd_is a len cap b p w hlen hB hbl X k0 e0 hr).mono fun e w' ⟨v, h1, h2, h3⟩ => by
    obtain ⟨q, c2, rfl, hr⟩ := h2.rd
    exact ⟨q, c2, h1, hr, h3⟩
theorem Tk.encE_len {x : Tk.Ix} {C : List UInt8} {e : Nat} (h : Tk.encE x = (C, e)) (hl : x.a.length ≤ 60) : C.length ≤ 1000 := by
  unfold Tk.encE at h
  have := Tk.enc_len x
  split at h
  · simp only [Prod.mk.injEq] at h; rw [← h.1]; omega
  · simp only [Prod.mk.injEq] at h; rw [← h.1]; simp
theorem Tk.build_ok {l : List Int} {X : Tk.Ix} {c : Nat} (h : Tk.build l = (X, c)) (hl : l.length ≤ 60) (ho : ∀ x ∈ l, D.ok x) : X.a.length ≤ 60 ∧ D.ok X.r ∧ D.ok X.m ∧ (∀ x ∈ X.a, D.ok x) := by
  unfold Tk.build at h
  split at h
  · simp only [Prod.mk.injEq] at h
    rw [← h.1]
    refine ⟨?_, ⟨by simp only [Tk.ix]; omega, by simp only [Tk.ix]; omega⟩, Tk.lst_ok ho, Tk.ix_a_ok ho⟩
    show (Tk.evs l).length ≤ 60
    rw [Tk.evs_len]; omega
  · simp only [Prod.mk.injEq] at h
    rw [← h.1]
    refine ⟨by simp [Tk.zero], ⟨by simp [Tk.zero], by simp [Tk.zero]⟩, ⟨by simp [Tk.zero], by simp [Tk.zero]⟩, by simp [Tk.zero]⟩
theorem cell_ex {w w' : World} {a : Addr} {v : Value} (h : w.cell? a = some v) (hx : Ex w w') : w'.cell? a = some v := by
  rw [hx.cell (World.block_lt_of_cell? w a h)]; exact h
end Go.Proofs.Ytaehchaimlklnaa
namespace Go.Proofs.Ytaehchaimlklnaa.ticksTells
open Go.RowKit Go.Proofs.Ytaehchaimlklnaa
set_option linter.unusedVariables false
set_option linter.unusedSimpArgs false
set_option maxRecDepth 100000 in
set_option maxHeartbeats 16000000 in
theorem walk (p0 : Option Addr) (c0 : Nat) (l0 : List Int) (r1 : Int) (i1 : Int) (p1 : Option Addr) (c1 : Nat) (l1 : List Int) (a2 : Int) (a3' : Int) (p4 : Option Addr) (c4 : Nat) (l4 : List UInt8) (a5 : Int) (w : World) (b0 : Rd z64 w p0 c0 l0) (m0 : ∀ x ∈ l0, In64 x) (w0 : l0.length ≤ 17592186043904) (n1 : In64 r1) (m1 : In64 i1) (b1 : Rd z64 w p1 c1 l1) (o1 : ∀ x ∈ l1, In64 x) (w2 : -9223372036854775808 ≤ a2 ∧ a2 ≤ 9223372036854775807) (w3 : -9223372036854775808 ≤ a3' ∧ a3' ≤ 9223372036854775807) (b4 : Byt w p4 c4 l4) (w4 : l4.length ≤ 140737488351232) (w5 : -9223372036854775808 ≤ a5 ∧ a5 ≤ 9223372036854775807) :
    Calls Try.prog 4 #[.slice p0 l0.length c0, xv r1 i1 (.slice p1 l1.length c1), .int .i64 a2, .int .i64 a3', .slice p4 l4.length c4, .int .i64 a5] w fun e w' => e = .returned (.bool true) ∧ Below w.heap.size w w' := by
  have hcl0 := b0.1
  have hcm0 := b0.2.1
  have hcl1 := b1.1
  have hcm1 := b1.2.1
  have hcl4 := b4.1
  have hcm4 := b4.2.1
  unfold maxLen at hcm0 hcm1 hcm4
  obtain ⟨L, hL⟩ : ∃ L, l0.take 60 = L := ⟨_, rfl⟩
  obtain ⟨A, hA⟩ : ∃ A, l1.take 60 = A := ⟨_, rfl⟩
  have hLl : L.length ≤ 60 := by rw [← hL]; simp; omega
  have hAl : A.length ≤ 60 := by rw [← hA]; simp; omega
  have HLt : Hid (l0.take 60 = L) := hL
  have HAt : Hid (l1.take 60 = A) := hA
  have HRL : Hid (Rd z64 w p0 c0 L) := (by rw [← hL]; exact b0.take 60 : Rd z64 w p0 c0 L)
  have HRA : Hid (Rd z64 w p1 c1 A) := (by rw [← hA]; exact b1.take 60 : Rd z64 w p1 c1 A)
  have HOkL : Hid (∀ x ∈ L, D.ok x) := (fun x hx => m0 x (by rw [← hL] at hx; exact List.mem_of_mem_take hx) : ∀ x ∈ L, D.ok x)
  have HOkA : Hid (∀ x ∈ A, D.ok x) := (fun x hx => o1 x (by rw [← hA] at hx; exact List.mem_of_mem_take hx) : ∀ x ∈ A, D.ok x)
  have HB4 : Hid (Byt w p4 c4 l4) := b4
  have HR1 : Hid (D.ok r1) := n1
  have HM1 : Hid (D.ok i1) := m1
  have HA2 : Hid (D.ok a2) := w2
  have HA3 : Hid (D.ok a3') := w3
  have HA5 : Hid (D.ok a5) := w5
  obtain ⟨⟨⟨XR, XM, XA⟩, c⟩, hbu⟩ : ∃ z, Tk.build L = z := ⟨_, rfl⟩
  have HBu : Hid (Tk.build L = (⟨XR, XM, XA⟩, c)) := hbu
  obtain ⟨hXAl, hxr, hxm, hxo⟩ := Tk.build_ok hbu hLl HOkL.out
  simp only at hXAl hxr hxm hxo
  have HXR : Hid (D.ok XR) := hxr
  have HXM : Hid (D.ok XM) := hxm
  have HXO : Hid (∀ x ∈ XA, D.ok x) := hxo
  obtain ⟨w21, w22⟩ := w2
  obtain ⟨w31, w32⟩ := w3
  obtain ⟨w51, w52⟩ := w5
  clear b0 b1 b4 m0 n1 m1 o1 hL hA hbu hxr hxm hxo
  by_cases h0 : 60 < l0.length
  · by_cases h1 : 60 < l1.length
    · have HLn : Hid (60 = L.length) := (by rw [← HLt.out, List.length_take]; omega : 60 = L.length)
      have t0 : decide ((60 : Int) < (l0.length : Int)) = true := by simp; omega
      have t0' : decide (60 < l0.length) = true := by simp; omega
      have h60 : 60 ≤ c0 := by omega
      have HAn : Hid (60 = A.length) := (by rw [← HAt.out, List.length_take]; omega : 60 = A.length)
      have t1 : decide ((60 : Int) < (l1.length : Int)) = true := by simp; omega
      have t1' : decide (60 < l1.length) = true := by simp; omega
      have h61 : 60 ≤ c1 := by omega
      obtain ⟨wA, hwwA⟩ : ∃ wA, w.alloc (Obj.cells #[Value.int IntKind.i64 r1, Value.int IntKind.i64 i1, Value.slice p1 60 c1] 24) = wA := ⟨_, rfl⟩
      have hxwA : Ex w wA := by rw [← hwwA]; exact (Below.refl _ _).alloc (Nat.le_refl _) _
      have HFwA : Hid (XAt wA w.heap.size r1 i1 (.slice p1 60 c1) 24) := (by rw [← hwwA]; exact XAt.new w r1 i1 _ 24 : XAt wA w.heap.size r1 i1 (.slice p1 60 c1) 24)
      have HXA : Hid (Ex w wA) := hxwA
      have HFA : Hid (XAt wA w.heap.size r1 i1 (.slice p1 60 c1) 24) := HFwA.out
      obtain ⟨q0, q1, q2⟩ := HFA.out.all
      clear hxwA HFwA
      unfold xv
      go_enter Try.func4, Try.ntmps4
      go_wp2_with fail
      refine (t_build p0 _ c0 L _ HLn.out (HRL.out.below HXA.out) HOkL.out (by omega) ⟨XR, XM, XA⟩ c HBu.out).mono ?_
      rintro e wb ⟨af, cf, rfl, hbf, hxf⟩
      simp only at hbf
      obtain ⟨wf, hwwf⟩ : ∃ wf, wb.alloc (Obj.cells #[Value.int IntKind.i64 XR, Value.int IntKind.i64 XM, Value.slice af XA.length cf] 24) = wf := ⟨_, rfl⟩
      have hxwf : Ex wb wf := by rw [← hwwf]; exact (Below.refl _ _).alloc (Nat.le_refl _) _
      have HFwf : Hid (XAt wf wb.heap.size XR XM (.slice af XA.length cf) 24) := (by rw [← hwwf]; exact XAt.new wb XR XM _ 24 : XAt wf wb.heap.size XR XM (.slice af XA.length cf) 24)
      have HBf : Hid (Rd z64 wf af cf XA) := hbf.below hxwf
      have HXf : Hid (Ex wA wf) := hxf.trans hxwf
      clear hbf hxf hxwf hwwA q0 q1 q2
      simp only [xv]
      go_wp2_with fail
      refine (rt_build p0 _ c0 L _ HLn.out (HRL.out.below (HXA.out.trans HXf.out)) ⟨XR, XM, XA⟩ c HBu.out).mono ?_
      rintro e wc ⟨ag, cg, rfl, hbg, hxg⟩
      simp only at hbg
      obtain ⟨wg, hwwg⟩ : ∃ wg, wc.alloc (Obj.cells #[Value.int IntKind.i64 XR, Value.int IntKind.i64 XM, Value.slice ag XA.length cg] 28) = wg := ⟨_, rfl⟩
      have hxwg : Ex wc wg := by rw [← hwwg]; exact (Below.refl _ _).alloc (Nat.le_refl _) _
      have HFwg : Hid (XAt wg wc.heap.size XR XM (.slice ag XA.length cg) 28) := (by rw [← hwwg]; exact XAt.new wc XR XM _ 28 : XAt wg wc.heap.size XR XM (.slice ag XA.length cg) 28)
      have HXfg : Hid (Ex wf wg) := hxg.trans hxwg
      have HBg : Hid (Rd z64 wg ag cg XA) := hbg.below hxwg
      have HBfg : Hid (Rd z64 wg af cf XA) := HBf.out.below HXfg.out
      have HFfg : Hid (XAt wg wb.heap.size XR XM (.slice af XA.length cf) 24) := HFwf.out.below HXfg.out
      have HFAg : Hid (XAt wg w.heap.size r1 i1 (.slice p1 60 c1) 24) := HFA.out.below (HXf.out.trans HXfg.out)
      have HXg0 : Hid (Ex w wg) := HXA.out.trans (HXf.out.trans HXfg.out)
      obtain ⟨j0, j1, j2⟩ := HFfg.out.all
      obtain ⟨k0, k1, k2⟩ := HFwg.out.all
      clear hbg hxg hxwg hwwf
      simp only [xv]
      go_wp2_with fail
      refine (alike_is XR XM af _ cf XA ag _ cg _ rfl rfl HBfg.out HBg.out).mono ?_
      rintro e wh ⟨rfl, hxh⟩
      have HXgh : Hid (Ex wg wh) := hxh
      obtain ⟨j0', j1', j2'⟩ := (HFfg.out.below hxh).all
      obtain ⟨q0', q1', q2'⟩ := (HFAg.out.below hxh).all
      obtain ⟨wp, hwp⟩ : ∃ wp, wh.alloc (Obj.cells #[Value.int IntKind.i64 r1, Value.int IntKind.i64 i1, Value.slice p1 60 c1, Value.int IntKind.i64 XR, Value.int IntKind.i64 XM, Value.slice af XA.length cf] 24) = wp := ⟨_, rfl⟩
      have hxp : Ex wh wp := by rw [← hwp]; exact (Below.refl _ _).alloc (Nat.le_refl _) _
      have hblk : wp.heap[wh.heap.size]? = some (.cells [Value.int IntKind.i64 r1, Value.int IntKind.i64 i1, Value.slice p1 60 c1, Value.int IntKind.i64 XR, Value.int IntKind.i64 XM, Value.slice af XA.length cf].toArray 24 (0, 0)) := by rw [← hwp]; exact heap_alloc_new wh _
      have hcel : ∀ k, wp.cell? ⟨wh.heap.size, k, none⟩ = [Value.int IntKind.i64 r1, Value.int IntKind.i64 i1, Value.slice p1 60 c1, Value.int IntKind.i64 XR, Value.int IntKind.i64 XM, Value.slice af XA.length cf][k]? := fun k => by
        rw [cell_of_row wp _ k _ 24 (0, 0) hblk, List.getElem?_toArray]
      have HXp : Hid (Ex w wp) := HXg0.out.trans (HXgh.out.trans hxp)
      have HEach : Hid (∀ j, j < 2 → ∃ (rx mx : Int) (ax : Option Addr) (nx cx : Nat) (lx : List Int), wp.cell? ⟨wh.heap.size, j * 3, none⟩ = some (.int .i64 rx) ∧ wp.cell? ⟨wh.heap.size, j * 3 + 1, none⟩ = some (.int .i64 mx) ∧ wp.cell? ⟨wh.heap.size, j * 3 + 2, none⟩ = some (.slice ax nx cx) ∧ nx = lx.length ∧ Rd z64 wp ax cx lx ∧ lx.length ≤ 60 ∧ D.ok rx ∧ D.ok mx ∧ ∀ x ∈ lx, D.ok x) := (by
        intro j hj
        match j, hj with
        | 0, _ => exact ⟨r1, i1, p1, _, c1, A, hcel 0, hcel 1, hcel 2, HAn.out, HRA.out.below HXp.out, hAl, HR1.out, HM1.out, HOkA.out⟩
        | 1, _ => exact ⟨XR, XM, af, _, cf, XA, hcel 3, hcel 4, hcel 5, rfl, (HBfg.out.below HXgh.out).below hxp, hXAl, HXR.out, HXM.out, HXO.out⟩ : ∀ j, j < 2 → ∃ (rx mx : Int) (ax : Option Addr) (nx cx : Nat) (lx : List Int), wp.cell? ⟨wh.heap.size, j * 3, none⟩ = some (.int .i64 rx) ∧ wp.cell? ⟨wh.heap.size, j * 3 + 1, none⟩ = some (.int .i64 mx) ∧ wp.cell? ⟨wh.heap.size, j * 3 + 2, none⟩ = some (.slice ax nx cx) ∧ nx = lx.length ∧ Rd z64 wp ax cx lx ∧ lx.length ≤ 60 ∧ D.ok rx ∧ D.ok mx ∧ ∀ x ∈ lx, D.ok x)
      clear hxh hxp hblk hcel hwwg j0 j1 j2 k0 k1 k2
      go_wp2_with fail
      go_loopw [4, 69] (fun v i wr => ∃ j : Nat, j ≤ 2 ∧ i = .int .i64 j ∧ Hid (∃ a3 n3 c3 bb, v = .slice a3 n3 c3 ∧ n3 = List.length bb ∧ Byt wr a3 c3 bb ∧ bb.length ≤ 140737488351232 + 1000 * j) ∧ Hid (Ex wp wr)) (fun _ i _ => 2 - (intOf i).toNat)
      case atStart => exact ⟨0, by omega, rfl, (⟨p4, _, c4, l4, rfl, rfl, HB4.out.below HXp.out, by omega⟩ : ∃ a3 n3 c3 bb, Value.slice p4 l4.length c4 = .slice a3 n3 c3 ∧ n3 = List.length bb ∧ Byt wp a3 c3 bb ∧ bb.length ≤ 140737488351232 + 1000 * 0), Ex.refl _⟩
      case round =>
        obtain ⟨j, hj, rfl, HV, HXr⟩ := hrel
        obtain ⟨a3, n3, c3', lb, hv3, hn3, hb3, hlb⟩ := HV.out
        subst hv3
        have HB3r : Hid (Byt wr a3 c3' lb) := hb3
        have HN3 : Hid (n3 = lb.length) := hn3
        have hcb := hb3.1
        have hcb2 := hb3.2.1
        have hn31 : n3 ≤ lb.length := by omega
        have hn32 : lb.length ≤ n3 := by omega
        unfold maxLen at hcb2
        clear HV hb3 hn3 hwp j0' j1' j2' q0' q1' q2'
        by_cases hlt : j < 2
        · obtain ⟨rx, mx, ax, nx, cx, lx, hc0, hc1, hc2, hnx0, hbx, hlx, hrx, hmx, hox⟩ := HEach.out j hlt
          have hc0' := cell_ex hc0 HXr.out
          have hc1' := cell_ex hc1 HXr.out
          have hc2' := cell_ex hc2 HXr.out
          have HBx : Hid (Rd z64 wr ax cx lx) := hbx.below HXr.out
          have HNx : Hid (nx = lx.length) := hnx0
          have HRx : Hid (D.ok rx) := hrx
          have HMx : Hid (D.ok mx) := hmx
          have HOx : Hid (∀ x ∈ lx, D.ok x) := hox
          have hcx := hbx.1
          have hcx2 := hbx.2.1
          unfold maxLen at hcx2
          have hnx1 : nx ≤ lx.length := by omega
          have hnx2 : lx.length ≤ nx := by omega
          have tj : decide ((j : Int) < 2) = true := by simp; omega
          have tj2 : decide (j < 2) = true := by simp; omega
          obtain ⟨w5, hww5⟩ : ∃ w5, wr.alloc (Obj.cells #[Value.int IntKind.i64 rx, Value.int IntKind.i64 mx, Value.slice ax nx cx] 24) = w5 := ⟨_, rfl⟩
          have hxw5 : Ex wr w5 := by rw [← hww5]; exact (Below.refl _ _).alloc (Nat.le_refl _) _
          have HFw5 : Hid (XAt w5 wr.heap.size rx mx (.slice ax nx cx) 24) := (by rw [← hww5]; exact XAt.new wr rx mx _ 24 : XAt w5 wr.heap.size rx mx (.slice ax nx cx) 24)
          have HX5 : Hid (Ex wr w5) := hxw5
          have HB5 : Hid (Rd z64 w5 ax cx lx) := HBx.out.below hxw5
          obtain ⟨g0, g1, g2⟩ := HFw5.out.all
          obtain ⟨⟨Cb, e0⟩, henc⟩ : ∃ z, Tk.encE ⟨rx, mx, lx⟩ = z := ⟨_, rfl⟩
          have HEnc : Hid (Tk.encE ⟨rx, mx, lx⟩ = (Cb, e0)) := henc
          have hCl : Cb.length ≤ 1000 := Tk.encE_len henc (by omega)
          obtain ⟨⟨sp, sq⟩, hspan⟩ : ∃ z, Tk.span ⟨rx, mx, lx⟩ a2 a3' = z := ⟨_, rfl⟩
          have HSp : Hid (Tk.span ⟨rx, mx, lx⟩ a2 a3' = (sp, sq)) := hspan
          obtain ⟨rr, hrr⟩ : ∃ rr, Tk.right ⟨rx, mx, lx⟩ = rr := ⟨_, rfl⟩
          have HRr : Hid (Tk.right ⟨rx, mx, lx⟩ = rr) := hrr
          clear hc0 hc1 hc2 hbx hxw5 henc hspan hrr hrx hmx hox hnx0
          go_wp2_with fail
          refine (t_enc rx mx ax nx cx lx _ HNx.out HB5.out HOx.out (by omega) HRx.out HMx.out Cb e0 HEnc.out).mono ?_
          rintro e w6 ⟨v6, rfl, ⟨ac, cc, hv6, hbc⟩, hxc⟩
          subst hv6
          have HX6 : Hid (Ex w5 w6) := hxc
          have HC6 : Hid (Byt w6 ac cc Cb) := hbc
          obtain ⟨g0', g1', g2'⟩ := (HFw5.out.below hxc).all
          clear hbc hxc g0 g1 g2 hc0' hc1' hc2' hww5
          go_wp2_with fail
          refine (in_is rx mx ax nx cx _).mono ?_
          rintro e w7 ⟨rfl, hx7⟩
          have HX7 : Hid (Ex w5 w7) := HX6.out.trans hx7
          have HC7 : Hid (Byt w7 ac cc Cb) := HC6.out.below hx7
          clear hx7 g0' g1' g2'
          simp only [xv]
          go_wp2_with fail
          refine (rte_is rx mx ax nx cx lx _ HNx.out (HB5.out.below HX7.out) HOx.out HRx.out.1 HRx.out.2 HMx.out.1 HMx.out.2 Cb e0 HEnc.out).mono ?_
          rintro e w7b ⟨v7, rfl, ⟨ad, cd, hv7, hbd⟩, hxd⟩
          subst hv7
          have HX7b : Hid (Ex w5 w7b) := HX7.out.trans hxd
          have HC7b : Hid (Byt w7b ac cc Cb) := HC7.out.below hxd
          have HD7b : Hid (Byt w7b ad cd Cb) := hbd
          obtain ⟨g0, g1, g2⟩ := (HFw5.out.below HX7b.out).all
          clear hbd hxd
          go_wp2_with fail
          refine (t_span rx mx ax nx cx lx a2 a3' _ HNx.out (HB5.out.below HX7b.out) HOx.out (by omega) HRx.out HMx.out HA2.out HA3.out sp sq HSp.out).mono ?_
          rintro e w7c ⟨rfl, hxs⟩
          have HX7c : Hid (Ex w7b w7c) := hxs
          obtain ⟨g0', g1', g2'⟩ := (HFw5.out.below (HX7b.out.trans hxs)).all
          clear hxs g0 g1 g2
          go_wp2_with fail
          refine (in_is rx mx ax nx cx _).mono ?_
          rintro e w7d ⟨rfl, hx7d⟩
          have HX7d : Hid (Ex w7b w7d) := HX7c.out.trans hx7d
          clear hx7d g0' g1' g2'
          simp only [xv]
          go_wp2_with fail
          refine (rts_is rx mx ax nx cx lx a2 a3' _ HNx.out (HB5.out.below (HX7b.out.trans HX7d.out)) HRx.out.1 HRx.out.2 sp sq HSp.out).mono ?_
          rintro e w8 ⟨rfl, hx8⟩
          have HX8b : Hid (Ex w7b w8) := HX7d.out.trans hx8
          have HX8 : Hid (Ex w5 w8) := HX7b.out.trans HX8b.out
          have HC8 : Hid (Byt w8 ac cc Cb) := HC7b.out.below HX8b.out
          have HD8 : Hid (Byt w8 ad cd Cb) := HD7b.out.below HX8b.out
          have HF8 : Hid (XAt w8 wr.heap.size rx mx (.slice ax nx cx) 24) := HFw5.out.below HX8.out
          have HB8 : Hid (Rd z64 w8 ax cx lx) := HB5.out.below HX8.out
          have HL8 : Hid (Byt w8 a3 c3' lb) := HB3r.out.below (HX5.out.trans HX8.out)
          have HXr8 : Hid (Ex wp w8) := HXr.out.trans (HX5.out.trans HX8.out)
          clear hx8
          go_wp2_with fail
          have hre := Ex.refl
          have hnx : nx = lx.length := HNx.out
          refine Rg.wp_rows [.inl (xv rx mx (.slice ax nx cx)), .inl (.bool rr), .inl (xv rx mx (.slice ax nx cx)), .inl (xv rx mx (.slice ax nx cx)), .inl (.bool rr), .inl (.bool false), .inl (.bool false), .inl (Value.slice ac Cb.length cc), .inl (Value.string (str Cb)), .inl (Value.slice ad Cb.length cd), .inl (Value.string (str Cb)), .inl (.bool false), .inl (.bool false), .inl (.bool false), .inl (Value.int .i64 e0), .inl (Value.int .i64 e0), .inl (.bool false), .inl (.bool false), .inl (.bool false), .inl (Value.int .i64 sp), .inl (Value.int .i64 sp), .inl (.bool false), .inl (.bool false), .inl (.bool false), .inl (Value.int .i64 sq), .inl (Value.int .i64 sq), .inl (.bool false), .inl (.bool false)] (Ex w8) Ex 163 (by kernel_rfl) rfl (by kernel_rfl) ?st hre (Ex.drew _) ?goods ?fin
          case st => exact trivial
          case goods =>
            refine Rg.goods_cons (Rg.good_load hre rfl rfl rfl (fun wx hC => by exact load_ixI (.inl rfl) (HF8.out.below hC))) ?_
            refine Rg.goods_cons (Rg.good_call1 Try.func17 (by kernel_rfl) rfl rfl rfl (by rintro u wx hC rfl; exact ex_row (t_right rx mx ax nx cx lx wx hnx (HB8.out.below hC) HOx.out (by omega) HRx.out HMx.out rr HRr.out) hC)) ?_
            refine Rg.goods_cons (Rg.good_load hre rfl rfl rfl (fun wx hC => by exact load_ixI (.inl rfl) (HF8.out.below hC))) ?_
            refine Rg.goods_cons (Rg.good_call1 Try.func16 (by kernel_rfl) rfl rfl rfl (by rintro u wx hC rfl; exact ex_row (in_is rx mx ax nx cx wx) hC)) ?_
            refine Rg.goods_cons (Rg.good_call1 Try.func18 (by kernel_rfl) rfl rfl rfl (by rintro u wx hC rfl; exact ex_row (rtr_is rx mx ax nx cx lx wx hnx (HB8.out.below hC) HRx.out.1 HRx.out.2 rr HRr.out) hC)) ?_
            refine Rg.goods_cons (Rg.good_bin hre rfl rfl rfl rfl (fun _ => rfl) (fun w => by cases rr <;> go_simp)) ?_
            refine Rg.goods_cons (Rg.good_move hre rfl rfl rfl) ?_
            refine Rg.goods_cons (Rg.good_move hre rfl rfl rfl) ?_
            refine Rg.goods_cons (Rg.good_conv hre rfl rfl (by rintro u wx hC rfl; exact run_str (HC8.out.below hC) rfl)) ?_
            refine Rg.goods_cons (Rg.good_move hre rfl rfl rfl) ?_
            refine Rg.goods_cons (Rg.good_conv hre rfl rfl (by rintro u wx hC rfl; exact run_str (HD8.out.below hC) rfl)) ?_
            refine Rg.goods_cons (Rg.good_bin hre rfl rfl rfl rfl (fun _ => rfl) (fun w => by go_simp)) ?_
            refine Rg.goods_cons (Rg.good_pick false hre rfl rfl rfl rfl) ?_
            refine Rg.goods_cons (Rg.good_move hre rfl rfl rfl) ?_
            refine Rg.goods_cons (Rg.good_move hre rfl rfl rfl) ?_
            refine Rg.goods_cons (Rg.good_move hre rfl rfl rfl) ?_
            refine Rg.goods_cons (Rg.good_bin hre rfl rfl rfl rfl (fun _ => rfl) (fun w => by go_simp)) ?_
            refine Rg.goods_cons (Rg.good_pick false hre rfl rfl rfl rfl) ?_
            refine Rg.goods_cons (Rg.good_move hre rfl rfl rfl) ?_
            refine Rg.goods_cons (Rg.good_move hre rfl rfl rfl) ?_
            refine Rg.goods_cons (Rg.good_move hre rfl rfl rfl) ?_
            refine Rg.goods_cons (Rg.good_bin hre rfl rfl rfl rfl (fun _ => rfl) (fun w => by go_simp)) ?_
            refine Rg.goods_cons (Rg.good_pick false hre rfl rfl rfl rfl) ?_
            refine Rg.goods_cons (Rg.good_move hre rfl rfl rfl) ?_
            refine Rg.goods_cons (Rg.good_move hre rfl rfl rfl) ?_
            refine Rg.goods_cons (Rg.good_move hre rfl rfl rfl) ?_
            refine Rg.goods_cons (Rg.good_bin hre rfl rfl rfl rfl (fun _ => rfl) (fun w => by go_simp)) ?_
            refine Rg.goods_cons (Rg.good_pick false hre rfl rfl rfl rfl) ?_
            exact Rg.goods_nil
          case fin =>
            intro wx hx
            simp only [Rg.later, Act.put, List.setIfInBounds_toArray, List.set_cons_succ, List.set_cons_zero]
            have HXx : Hid (Ex w8 wx) := hx
            clear hx hnx
            go_wp2_with (first
              | (refine wpList_build_own rfl 127 rfl 0 [] rfl (by decide) (fun _ => by kernel_rfl) wx.heap.size (Nat.le_refl _) ?_; intro g127 w127 ho127 hx127)
              | (at_builtin; refine wpList_append_byt rfl (.tmp 127) (.tmp 128) rfl wx.heap.size _ [] rfl ho127 a3 _ c3' lb rfl HN3.out ((HL8.out.below HXx.out).below hx127) (by simp; omega) (Ex.size hx127) ?_; intro v129 w129 ho129 hg129; have X129 : Ex wx w129 := step_below0 hx127 (Ex.size hx127) ho127 hg129; clear hg129; rw [List.nil_append] at ho129)
              | (at_builtin; refine wpList_append_byt rfl (.tmp 129) (.tmp 130) rfl wx.heap.size _ lb rfl ho129 ad _ cd Cb rfl rfl ((HD8.out.below HXx.out).below X129) (by omega) (Ex.size X129) ?_; intro v131 w131 ho131 hg131; have X131 : Ex wx w131 := step_below0 X129 (Ex.size X129) ho129 hg131; clear hg131; obtain ⟨a6, c6, hv6, hb6⟩ := ho131.byt; subst hv6))
            have HX131 : Hid (Ex wp w131) := HXr8.out.trans (HXx.out.trans X131)
            have hle : (lb ++ Cb).length ≤ 140737488351232 + 1000 * (j + 1) := by simp; omega
            have HV6 : Hid (∃ a3 n3 c3 bb, Value.slice a6 (lb.length + Cb.length) c6 = .slice a3 n3 c3 ∧ n3 = List.length bb ∧ Byt w131 a3 c3 bb ∧ bb.length ≤ 140737488351232 + 1000 * (j + 1)) := (⟨a6, _, c6, lb ++ Cb, rfl, by rw [List.length_append], hb6, hle⟩ : ∃ a3 n3 c3 bb, Value.slice a6 (lb.length + Cb.length) c6 = .slice a3 n3 c3 ∧ n3 = List.length bb ∧ Byt w131 a3 c3 bb ∧ bb.length ≤ 140737488351232 + 1000 * (j + 1))
            clear X131 hb6 ho131 X129 ho129 hx127 ho127 hle
            go_roundw
            case rel => exact ⟨j + 1, by omega, by go_num, HV6, HX131⟩
            case measure => simp [intOf]; omega
        · have tj : decide ((j : Int) < 2) = false := by simp; omega
          have tj2 : decide (j < 2) = false := by simp; omega
          obtain ⟨⟨⟨YR, YM, YA⟩, k2, e2⟩, hdec⟩ : ∃ z, Tk.dec lb a5 = z := ⟨_, rfl⟩
          have HD2 : Hid (Tk.dec lb a5 = (⟨YR, YM, YA⟩, k2, e2)) := hdec
          clear hdec
          go_wp2_with fail
          refine (t_dec a3 _ c3' lb _ _ HN3.out HB3r.out (by omega) HA5.out ⟨YR, YM, YA⟩ k2 e2 HD2.out).mono ?_
          rintro e wd ⟨ah, ch, rfl, hbh, hxh⟩
          simp only at hbh
          obtain ⟨wq, hwwq⟩ : ∃ wq, wd.alloc (Obj.cells #[Value.int IntKind.i64 YR, Value.int IntKind.i64 YM, Value.slice ah YA.length ch] 24) = wq := ⟨_, rfl⟩
          have hxwq : Ex wd wq := by rw [← hwwq]; exact (Below.refl _ _).alloc (Nat.le_refl _) _
          have HFwq : Hid (XAt wq wd.heap.size YR YM (.slice ah YA.length ch) 24) := (by rw [← hwwq]; exact XAt.new wd YR YM _ 24 : XAt wq wd.heap.size YR YM (.slice ah YA.length ch) 24)
          have HXq : Hid (Ex wr wq) := hxh.trans hxwq
          have HBq : Hid (Rd z64 wq ah ch YA) := hbh.below hxwq
          clear hbh hxh hxwq
          simp only [xv]
          go_wp2_with fail
          refine (rt_dec a3 _ c3' lb _ _ HN3.out (HB3r.out.below HXq.out) (by omega) ⟨YR, YM, YA⟩ k2 e2 HD2.out).mono ?_
          rintro e we ⟨ai, ci, rfl, hbi, hxi⟩
          simp only at hbi
          obtain ⟨wi, hwwi⟩ : ∃ wi, we.alloc (Obj.cells #[Value.int IntKind.i64 YR, Value.int IntKind.i64 YM, Value.slice ai YA.length ci] 28) = wi := ⟨_, rfl⟩
          have hxwi : Ex we wi := by rw [← hwwi]; exact (Below.refl _ _).alloc (Nat.le_refl _) _
          have HFwi : Hid (XAt wi we.heap.size YR YM (.slice ai YA.length ci) 28) := (by rw [← hwwi]; exact XAt.new we YR YM _ 28 : XAt wi we.heap.size YR YM (.slice ai YA.length ci) 28)
          have HXqi : Hid (Ex wq wi) := hxi.trans hxwi
          have HBi : Hid (Rd z64 wi ai ci YA) := hbi.below hxwi
          have HBqi : Hid (Rd z64 wi ah ch YA) := HBq.out.below HXqi.out
          have HXi : Hid (Ex w wi) := HXp.out.trans (HXr.out.trans (HXq.out.trans HXqi.out))
          obtain ⟨i0, i1', i2⟩ := HFwi.out.all
          obtain ⟨j0, j1, j2⟩ := (HFwq.out.below HXqi.out).all
          clear hbi hxi hxwi hwwq
          simp only [xv]
          go_wp2_with fail
          refine (alike_is YR YM ah _ ch YA ai _ ci _ rfl rfl HBqi.out HBi.out).mono ?_
          rintro e wj ⟨rfl, hxj⟩
          have HXj : Hid (Ex w wj) := HXi.out.trans hxj
          clear hxj i0 i1' i2 j0 j1 j2 hwwi
          go_wp2_with fail
          refine (known_any _).mono ?_
          rintro e wk ⟨rfl, hxk⟩
          go_wp2_with fail
          go_ret
          exact ⟨rfl, HXj.out.trans hxk⟩
    · have HLn : Hid (60 = L.length) := (by rw [← HLt.out, List.length_take]; omega : 60 = L.length)
      have t0 : decide ((60 : Int) < (l0.length : Int)) = true := by simp; omega
      have t0' : decide (60 < l0.length) = true := by simp; omega
      have h60 : 60 ≤ c0 := by omega
      have HAn : Hid (l1.length = A.length) := (by rw [← HAt.out, List.length_take]; omega : l1.length = A.length)
      have t1 : decide ((60 : Int) < (l1.length : Int)) = false := by simp; omega
      have t1' : decide (60 < l1.length) = false := by simp; omega
      obtain ⟨wA, hwwA⟩ : ∃ wA, w.alloc (Obj.cells #[Value.int IntKind.i64 r1, Value.int IntKind.i64 i1, Value.slice p1 l1.length c1] 24) = wA := ⟨_, rfl⟩
      have hxwA : Ex w wA := by rw [← hwwA]; exact (Below.refl _ _).alloc (Nat.le_refl _) _
      have HFwA : Hid (XAt wA w.heap.size r1 i1 (.slice p1 l1.length c1) 24) := (by rw [← hwwA]; exact XAt.new w r1 i1 _ 24 : XAt wA w.heap.size r1 i1 (.slice p1 l1.length c1) 24)
      have HXA : Hid (Ex w wA) := hxwA
      have HFA : Hid (XAt wA w.heap.size r1 i1 (.slice p1 l1.length c1) 24) := HFwA.out
      obtain ⟨q0, q1, q2⟩ := HFA.out.all
      clear hxwA HFwA
      unfold xv
      go_enter Try.func4, Try.ntmps4
      go_wp2_with fail
      refine (t_build p0 _ c0 L _ HLn.out (HRL.out.below HXA.out) HOkL.out (by omega) ⟨XR, XM, XA⟩ c HBu.out).mono ?_
      rintro e wb ⟨af, cf, rfl, hbf, hxf⟩
      simp only at hbf
      obtain ⟨wf, hwwf⟩ : ∃ wf, wb.alloc (Obj.cells #[Value.int IntKind.i64 XR, Value.int IntKind.i64 XM, Value.slice af XA.length cf] 24) = wf := ⟨_, rfl⟩
      have hxwf : Ex wb wf := by rw [← hwwf]; exact (Below.refl _ _).alloc (Nat.le_refl _) _
      have HFwf : Hid (XAt wf wb.heap.size XR XM (.slice af XA.length cf) 24) := (by rw [← hwwf]; exact XAt.new wb XR XM _ 24 : XAt wf wb.heap.size XR XM (.slice af XA.length cf) 24)
      have HBf : Hid (Rd z64 wf af cf XA) := hbf.below hxwf
      have HXf : Hid (Ex wA wf) := hxf.trans hxwf
      clear hbf hxf hxwf hwwA q0 q1 q2
      simp only [xv]
      go_wp2_with fail
      refine (rt_build p0 _ c0 L _ HLn.out (HRL.out.below (HXA.out.trans HXf.out)) ⟨XR, XM, XA⟩ c HBu.out).mono ?_
      rintro e wc ⟨ag, cg, rfl, hbg, hxg⟩
      simp only at hbg
      obtain ⟨wg, hwwg⟩ : ∃ wg, wc.alloc (Obj.cells #[Value.int IntKind.i64 XR, Value.int IntKind.i64 XM, Value.slice ag XA.length cg] 28) = wg := ⟨_, rfl⟩
      have hxwg : Ex wc wg := by rw [← hwwg]; exact (Below.refl _ _).alloc (Nat.le_refl _) _
      have HFwg : Hid (XAt wg wc.heap.size XR XM (.slice ag XA.length cg) 28) := (by rw [← hwwg]; exact XAt.new wc XR XM _ 28 : XAt wg wc.heap.size XR XM (.slice ag XA.length cg) 28)
      have HXfg : Hid (Ex wf wg) := hxg.trans hxwg
      have HBg : Hid (Rd z64 wg ag cg XA) := hbg.below hxwg
      have HBfg : Hid (Rd z64 wg af cf XA) := HBf.out.below HXfg.out
      have HFfg : Hid (XAt wg wb.heap.size XR XM (.slice af XA.length cf) 24) := HFwf.out.below HXfg.out
      have HFAg : Hid (XAt wg w.heap.size r1 i1 (.slice p1 l1.length c1) 24) := HFA.out.below (HXf.out.trans HXfg.out)
      have HXg0 : Hid (Ex w wg) := HXA.out.trans (HXf.out.trans HXfg.out)
      obtain ⟨j0, j1, j2⟩ := HFfg.out.all
      obtain ⟨k0, k1, k2⟩ := HFwg.out.all
      clear hbg hxg hxwg hwwf
      simp only [xv]
      go_wp2_with fail
      refine (alike_is XR XM af _ cf XA ag _ cg _ rfl rfl HBfg.out HBg.out).mono ?_
      rintro e wh ⟨rfl, hxh⟩
      have HXgh : Hid (Ex wg wh) := hxh
      obtain ⟨j0', j1', j2'⟩ := (HFfg.out.below hxh).all
      obtain ⟨q0', q1', q2'⟩ := (HFAg.out.below hxh).all
      obtain ⟨wp, hwp⟩ : ∃ wp, wh.alloc (Obj.cells #[Value.int IntKind.i64 r1, Value.int IntKind.i64 i1, Value.slice p1 l1.length c1, Value.int IntKind.i64 XR, Value.int IntKind.i64 XM, Value.slice af XA.length cf] 24) = wp := ⟨_, rfl⟩
      have hxp : Ex wh wp := by rw [← hwp]; exact (Below.refl _ _).alloc (Nat.le_refl _) _
      have hblk : wp.heap[wh.heap.size]? = some (.cells [Value.int IntKind.i64 r1, Value.int IntKind.i64 i1, Value.slice p1 l1.length c1, Value.int IntKind.i64 XR, Value.int IntKind.i64 XM, Value.slice af XA.length cf].toArray 24 (0, 0)) := by rw [← hwp]; exact heap_alloc_new wh _
      have hcel : ∀ k, wp.cell? ⟨wh.heap.size, k, none⟩ = [Value.int IntKind.i64 r1, Value.int IntKind.i64 i1, Value.slice p1 l1.length c1, Value.int IntKind.i64 XR, Value.int IntKind.i64 XM, Value.slice af XA.length cf][k]? := fun k => by
        rw [cell_of_row wp _ k _ 24 (0, 0) hblk, List.getElem?_toArray]
      have HXp : Hid (Ex w wp) := HXg0.out.trans (HXgh.out.trans hxp)
      have HEach : Hid (∀ j, j < 2 → ∃ (rx mx : Int) (ax : Option Addr) (nx cx : Nat) (lx : List Int), wp.cell? ⟨wh.heap.size, j * 3, none⟩ = some (.int .i64 rx) ∧ wp.cell? ⟨wh.heap.size, j * 3 + 1, none⟩ = some (.int .i64 mx) ∧ wp.cell? ⟨wh.heap.size, j * 3 + 2, none⟩ = some (.slice ax nx cx) ∧ nx = lx.length ∧ Rd z64 wp ax cx lx ∧ lx.length ≤ 60 ∧ D.ok rx ∧ D.ok mx ∧ ∀ x ∈ lx, D.ok x) := (by
        intro j hj
        match j, hj with
        | 0, _ => exact ⟨r1, i1, p1, _, c1, A, hcel 0, hcel 1, hcel 2, HAn.out, HRA.out.below HXp.out, hAl, HR1.out, HM1.out, HOkA.out⟩
        | 1, _ => exact ⟨XR, XM, af, _, cf, XA, hcel 3, hcel 4, hcel 5, rfl, (HBfg.out.below HXgh.out).below hxp, hXAl, HXR.out, HXM.out, HXO.out⟩ : ∀ j, j < 2 → ∃ (rx mx : Int) (ax : Option Addr) (nx cx : Nat) (lx : List Int), wp.cell? ⟨wh.heap.size, j * 3, none⟩ = some (.int .i64 rx) ∧ wp.cell? ⟨wh.heap.size, j * 3 + 1, none⟩ = some (.int .i64 mx) ∧ wp.cell? ⟨wh.heap.size, j * 3 + 2, none⟩ = some (.slice ax nx cx) ∧ nx = lx.length ∧ Rd z64 wp ax cx lx ∧ lx.length ≤ 60 ∧ D.ok rx ∧ D.ok mx ∧ ∀ x ∈ lx, D.ok x)
      clear hxh hxp hblk hcel hwwg j0 j1 j2 k0 k1 k2
      go_wp2_with fail
      go_loopw [4, 69] (fun v i wr => ∃ j : Nat, j ≤ 2 ∧ i = .int .i64 j ∧ Hid (∃ a3 n3 c3 bb, v = .slice a3 n3 c3 ∧ n3 = List.length bb ∧ Byt wr a3 c3 bb ∧ bb.length ≤ 140737488351232 + 1000 * j) ∧ Hid (Ex wp wr)) (fun _ i _ => 2 - (intOf i).toNat)
      case atStart => exact ⟨0, by omega, rfl, (⟨p4, _, c4, l4, rfl, rfl, HB4.out.below HXp.out, by omega⟩ : ∃ a3 n3 c3 bb, Value.slice p4 l4.length c4 = .slice a3 n3 c3 ∧ n3 = List.length bb ∧ Byt wp a3 c3 bb ∧ bb.length ≤ 140737488351232 + 1000 * 0), Ex.refl _⟩
      case round =>
        obtain ⟨j, hj, rfl, HV, HXr⟩ := hrel
        obtain ⟨a3, n3, c3', lb, hv3, hn3, hb3, hlb⟩ := HV.out
        subst hv3
        have HB3r : Hid (Byt wr a3 c3' lb) := hb3
        have HN3 : Hid (n3 = lb.length) := hn3
        have hcb := hb3.1
        have hcb2 := hb3.2.1
        have hn31 : n3 ≤ lb.length := by omega
        have hn32 : lb.length ≤ n3 := by omega
        unfold maxLen at hcb2
        clear HV hb3 hn3 hwp j0' j1' j2' q0' q1' q2'
        by_cases hlt : j < 2
        · obtain ⟨rx, mx, ax, nx, cx, lx, hc0, hc1, hc2, hnx0, hbx, hlx, hrx, hmx, hox⟩ := HEach.out j hlt
          have hc0' := cell_ex hc0 HXr.out
          have hc1' := cell_ex hc1 HXr.out
          have hc2' := cell_ex hc2 HXr.out
          have HBx : Hid (Rd z64 wr ax cx lx) := hbx.below HXr.out
          have HNx : Hid (nx = lx.length) := hnx0
          have HRx : Hid (D.ok rx) := hrx
          have HMx : Hid (D.ok mx) := hmx
          have HOx : Hid (∀ x ∈ lx, D.ok x) := hox
          have hcx := hbx.1
          have hcx2 := hbx.2.1
          unfold maxLen at hcx2
          have hnx1 : nx ≤ lx.length := by omega
          have hnx2 : lx.length ≤ nx := by omega
          have tj : decide ((j : Int) < 2) = true := by simp; omega
          have tj2 : decide (j < 2) = true := by simp; omega
          obtain ⟨w5, hww5⟩ : ∃ w5, wr.alloc (Obj.cells #[Value.int IntKind.i64 rx, Value.int IntKind.i64 mx, Value.slice ax nx cx] 24) = w5 := ⟨_, rfl⟩
          have hxw5 : Ex wr w5 := by rw [← hww5]; exact (Below.refl _ _).alloc (Nat.le_refl _) _
          have HFw5 : Hid (XAt w5 wr.heap.size rx mx (.slice ax nx cx) 24) := (by rw [← hww5]; exact XAt.new wr rx mx _ 24 : XAt w5 wr.heap.size rx mx (.slice ax nx cx) 24)
          have HX5 : Hid (Ex wr w5) := hxw5
          have HB5 : Hid (Rd z64 w5 ax cx lx) := HBx.out.below hxw5
          obtain ⟨g0, g1, g2⟩ := HFw5.out.all
          obtain ⟨⟨Cb, e0⟩, henc⟩ : ∃ z, Tk.encE ⟨rx, mx, lx⟩ = z := ⟨_, rfl⟩
          have HEnc : Hid (Tk.encE ⟨rx, mx, lx⟩ = (Cb, e0)) := henc
          have hCl : Cb.length ≤ 1000 := Tk.encE_len henc (by omega)
          obtain ⟨⟨sp, sq⟩, hspan⟩ : ∃ z, Tk.span ⟨rx, mx, lx⟩ a2 a3' = z := ⟨_, rfl⟩
          have HSp : Hid (Tk.span ⟨rx, mx, lx⟩ a2 a3' = (sp, sq)) := hspan
          obtain ⟨rr, hrr⟩ : ∃ rr, Tk.right ⟨rx, mx, lx⟩ = rr := ⟨_, rfl⟩
          have HRr : Hid (Tk.right ⟨rx, mx, lx⟩ = rr) := hrr
          clear hc0 hc1 hc2 hbx hxw5 henc hspan hrr hrx hmx hox hnx0
          go_wp2_with fail
          refine (t_enc rx mx ax nx cx lx _ HNx.out HB5.out HOx.out (by omega) HRx.out HMx.out Cb e0 HEnc.out).mono ?_
          rintro e w6 ⟨v6, rfl, ⟨ac, cc, hv6, hbc⟩, hxc⟩
          subst hv6
          have HX6 : Hid (Ex w5 w6) := hxc
          have HC6 : Hid (Byt w6 ac cc Cb) := hbc
          obtain ⟨g0', g1', g2'⟩ := (HFw5.out.below hxc).all
          clear hbc hxc g0 g1 g2 hc0' hc1' hc2' hww5
          go_wp2_with fail
          refine (in_is rx mx ax nx cx _).mono ?_
          rintro e w7 ⟨rfl, hx7⟩
          have HX7 : Hid (Ex w5 w7) := HX6.out.trans hx7
          have HC7 : Hid (Byt w7 ac cc Cb) := HC6.out.below hx7
          clear hx7 g0' g1' g2'
          simp only [xv]
          go_wp2_with fail
          refine (rte_is rx mx ax nx cx lx _ HNx.out (HB5.out.below HX7.out) HOx.out HRx.out.1 HRx.out.2 HMx.out.1 HMx.out.2 Cb e0 HEnc.out).mono ?_
          rintro e w7b ⟨v7, rfl, ⟨ad, cd, hv7, hbd⟩, hxd⟩
          subst hv7
          have HX7b : Hid (Ex w5 w7b) := HX7.out.trans hxd
          have HC7b : Hid (Byt w7b ac cc Cb) := HC7.out.below hxd
          have HD7b : Hid (Byt w7b ad cd Cb) := hbd
          obtain ⟨g0, g1, g2⟩ := (HFw5.out.below HX7b.out).all
          clear hbd hxd
          go_wp2_with fail
          refine (t_span rx mx ax nx cx lx a2 a3' _ HNx.out (HB5.out.below HX7b.out) HOx.out (by omega) HRx.out HMx.out HA2.out HA3.out sp sq HSp.out).mono ?_
          rintro e w7c ⟨rfl, hxs⟩
          have HX7c : Hid (Ex w7b w7c) := hxs
          obtain ⟨g0', g1', g2'⟩ := (HFw5.out.below (HX7b.out.trans hxs)).all
          clear hxs g0 g1 g2
          go_wp2_with fail
          refine (in_is rx mx ax nx cx _).mono ?_
          rintro e w7d ⟨rfl, hx7d⟩
          have HX7d : Hid (Ex w7b w7d) := HX7c.out.trans hx7d
          clear hx7d g0' g1' g2'
          simp only [xv]
          go_wp2_with fail
          refine (rts_is rx mx ax nx cx lx a2 a3' _ HNx.out (HB5.out.below (HX7b.out.trans HX7d.out)) HRx.out.1 HRx.out.2 sp sq HSp.out).mono ?_
          rintro e w8 ⟨rfl, hx8⟩
          have HX8b : Hid (Ex w7b w8) := HX7d.out.trans hx8
          have HX8 : Hid (Ex w5 w8) := HX7b.out.trans HX8b.out
          have HC8 : Hid (Byt w8 ac cc Cb) := HC7b.out.below HX8b.out
          have HD8 : Hid (Byt w8 ad cd Cb) := HD7b.out.below HX8b.out
          have HF8 : Hid (XAt w8 wr.heap.size rx mx (.slice ax nx cx) 24) := HFw5.out.below HX8.out
          have HB8 : Hid (Rd z64 w8 ax cx lx) := HB5.out.below HX8.out
          have HL8 : Hid (Byt w8 a3 c3' lb) := HB3r.out.below (HX5.out.trans HX8.out)
          have HXr8 : Hid (Ex wp w8) := HXr.out.trans (HX5.out.trans HX8.out)
          clear hx8
          go_wp2_with fail
          have hre := Ex.refl
          have hnx : nx = lx.length := HNx.out
          refine Rg.wp_rows [.inl (xv rx mx (.slice ax nx cx)), .inl (.bool rr), .inl (xv rx mx (.slice ax nx cx)), .inl (xv rx mx (.slice ax nx cx)), .inl (.bool rr), .inl (.bool false), .inl (.bool false), .inl (Value.slice ac Cb.length cc), .inl (Value.string (str Cb)), .inl (Value.slice ad Cb.length cd), .inl (Value.string (str Cb)), .inl (.bool false), .inl (.bool false), .inl (.bool false), .inl (Value.int .i64 e0), .inl (Value.int .i64 e0), .inl (.bool false), .inl (.bool false), .inl (.bool false), .inl (Value.int .i64 sp), .inl (Value.int .i64 sp), .inl (.bool false), .inl (.bool false), .inl (.bool false), .inl (Value.int .i64 sq), .inl (Value.int .i64 sq), .inl (.bool false), .inl (.bool false)] (Ex w8) Ex 163 (by kernel_rfl) rfl (by kernel_rfl) ?st hre (Ex.drew _) ?goods ?fin
          case st => exact trivial
          case goods =>
            refine Rg.goods_cons (Rg.good_load hre rfl rfl rfl (fun wx hC => by exact load_ixI (.inl rfl) (HF8.out.below hC))) ?_
            refine Rg.goods_cons (Rg.good_call1 Try.func17 (by kernel_rfl) rfl rfl rfl (by rintro u wx hC rfl; exact ex_row (t_right rx mx ax nx cx lx wx hnx (HB8.out.below hC) HOx.out (by omega) HRx.out HMx.out rr HRr.out) hC)) ?_
            refine Rg.goods_cons (Rg.good_load hre rfl rfl rfl (fun wx hC => by exact load_ixI (.inl rfl) (HF8.out.below hC))) ?_
            refine Rg.goods_cons (Rg.good_call1 Try.func16 (by kernel_rfl) rfl rfl rfl (by rintro u wx hC rfl; exact ex_row (in_is rx mx ax nx cx wx) hC)) ?_
            refine Rg.goods_cons (Rg.good_call1 Try.func18 (by kernel_rfl) rfl rfl rfl (by rintro u wx hC rfl; exact ex_row (rtr_is rx mx ax nx cx lx wx hnx (HB8.out.below hC) HRx.out.1 HRx.out.2 rr HRr.out) hC)) ?_
            refine Rg.goods_cons (Rg.good_bin hre rfl rfl rfl rfl (fun _ => rfl) (fun w => by cases rr <;> go_simp)) ?_
            refine Rg.goods_cons (Rg.good_move hre rfl rfl rfl) ?_
            refine Rg.goods_cons (Rg.good_move hre rfl rfl rfl) ?_
            refine Rg.goods_cons (Rg.good_conv hre rfl rfl (by rintro u wx hC rfl; exact run_str (HC8.out.below hC) rfl)) ?_
            refine Rg.goods_cons (Rg.good_move hre rfl rfl rfl) ?_
            refine Rg.goods_cons (Rg.good_conv hre rfl rfl (by rintro u wx hC rfl; exact run_str (HD8.out.below hC) rfl)) ?_
            refine Rg.goods_cons (Rg.good_bin hre rfl rfl rfl rfl (fun _ => rfl) (fun w => by go_simp)) ?_
            refine Rg.goods_cons (Rg.good_pick false hre rfl rfl rfl rfl) ?_
            refine Rg.goods_cons (Rg.good_move hre rfl rfl rfl) ?_
            refine Rg.goods_cons (Rg.good_move hre rfl rfl rfl) ?_
            refine Rg.goods_cons (Rg.good_move hre rfl rfl rfl) ?_
            refine Rg.goods_cons (Rg.good_bin hre rfl rfl rfl rfl (fun _ => rfl) (fun w => by go_simp)) ?_
            refine Rg.goods_cons (Rg.good_pick false hre rfl rfl rfl rfl) ?_
            refine Rg.goods_cons (Rg.good_move hre rfl rfl rfl) ?_
            refine Rg.goods_cons (Rg.good_move hre rfl rfl rfl) ?_
            refine Rg.goods_cons (Rg.good_move hre rfl rfl rfl) ?_
            refine Rg.goods_cons (Rg.good_bin hre rfl rfl rfl rfl (fun _ => rfl) (fun w => by go_simp)) ?_
            refine Rg.goods_cons (Rg.good_pick false hre rfl rfl rfl rfl) ?_
            refine Rg.goods_cons (Rg.good_move hre rfl rfl rfl) ?_
            refine Rg.goods_cons (Rg.good_move hre rfl rfl rfl) ?_
            refine Rg.goods_cons (Rg.good_move hre rfl rfl rfl) ?_
            refine Rg.goods_cons (Rg.good_bin hre rfl rfl rfl rfl (fun _ => rfl) (fun w => by go_simp)) ?_
            refine Rg.goods_cons (Rg.good_pick false hre rfl rfl rfl rfl) ?_
            exact Rg.goods_nil
          case fin =>
            intro wx hx
            simp only [Rg.later, Act.put, List.setIfInBounds_toArray, List.set_cons_succ, List.set_cons_zero]
            have HXx : Hid (Ex w8 wx) := hx
            clear hx hnx
            go_wp2_with (first
              | (refine wpList_build_own rfl 127 rfl 0 [] rfl (by decide) (fun _ => by kernel_rfl) wx.heap.size (Nat.le_refl _) ?_; intro g127 w127 ho127 hx127)
              | (at_builtin; refine wpList_append_byt rfl (.tmp 127) (.tmp 128) rfl wx.heap.size _ [] rfl ho127 a3 _ c3' lb rfl HN3.out ((HL8.out.below HXx.out).below hx127) (by simp; omega) (Ex.size hx127) ?_; intro v129 w129 ho129 hg129; have X129 : Ex wx w129 := step_below0 hx127 (Ex.size hx127) ho127 hg129; clear hg129; rw [List.nil_append] at ho129)
              | (at_builtin; refine wpList_append_byt rfl (.tmp 129) (.tmp 130) rfl wx.heap.size _ lb rfl ho129 ad _ cd Cb rfl rfl ((HD8.out.below HXx.out).below X129) (by omega) (Ex.size X129) ?_; intro v131 w131 ho131 hg131; have X131 : Ex wx w131 := step_below0 X129 (Ex.size X129) ho129 hg131; clear hg131; obtain ⟨a6, c6, hv6, hb6⟩ := ho131.byt; subst hv6))
            have HX131 : Hid (Ex wp w131) := HXr8.out.trans (HXx.out.trans X131)
            have hle : (lb ++ Cb).length ≤ 140737488351232 + 1000 * (j + 1) := by simp; omega
            have HV6 : Hid (∃ a3 n3 c3 bb, Value.slice a6 (lb.length + Cb.length) c6 = .slice a3 n3 c3 ∧ n3 = List.length bb ∧ Byt w131 a3 c3 bb ∧ bb.length ≤ 140737488351232 + 1000 * (j + 1)) := (⟨a6, _, c6, lb ++ Cb, rfl, by rw [List.length_append], hb6, hle⟩ : ∃ a3 n3 c3 bb, Value.slice a6 (lb.length + Cb.length) c6 = .slice a3 n3 c3 ∧ n3 = List.length bb ∧ Byt w131 a3 c3 bb ∧ bb.length ≤ 140737488351232 + 1000 * (j + 1))
            clear X131 hb6 ho131 X129 ho129 hx127 ho127 hle
            go_roundw
            case rel => exact ⟨j + 1, by omega, by go_num, HV6, HX131⟩
            case measure => simp [intOf]; omega
        · have tj : decide ((j : Int) < 2) = false := by simp; omega
          have tj2 : decide (j < 2) = false := by simp; omega
          obtain ⟨⟨⟨YR, YM, YA⟩, k2, e2⟩, hdec⟩ : ∃ z, Tk.dec lb a5 = z := ⟨_, rfl⟩
          have HD2 : Hid (Tk.dec lb a5 = (⟨YR, YM, YA⟩, k2, e2)) := hdec
          clear hdec
          go_wp2_with fail
          refine (t_dec a3 _ c3' lb _ _ HN3.out HB3r.out (by omega) HA5.out ⟨YR, YM, YA⟩ k2 e2 HD2.out).mono ?_
          rintro e wd ⟨ah, ch, rfl, hbh, hxh⟩
          simp only at hbh
          obtain ⟨wq, hwwq⟩ : ∃ wq, wd.alloc (Obj.cells #[Value.int IntKind.i64 YR, Value.int IntKind.i64 YM, Value.slice ah YA.length ch] 24) = wq := ⟨_, rfl⟩
          have hxwq : Ex wd wq := by rw [← hwwq]; exact (Below.refl _ _).alloc (Nat.le_refl _) _
          have HFwq : Hid (XAt wq wd.heap.size YR YM (.slice ah YA.length ch) 24) := (by rw [← hwwq]; exact XAt.new wd YR YM _ 24 : XAt wq wd.heap.size YR YM (.slice ah YA.length ch) 24)
          have HXq : Hid (Ex wr wq) := hxh.trans hxwq
          have HBq : Hid (Rd z64 wq ah ch YA) := hbh.below hxwq
          clear hbh hxh hxwq
          simp only [xv]
          go_wp2_with fail
          refine (rt_dec a3 _ c3' lb _ _ HN3.out (HB3r.out.below HXq.out) (by omega) ⟨YR, YM, YA⟩ k2 e2 HD2.out).mono ?_
          rintro e we ⟨ai, ci, rfl, hbi, hxi⟩
          simp only at hbi
          obtain ⟨wi, hwwi⟩ : ∃ wi, we.alloc (Obj.cells #[Value.int IntKind.i64 YR, Value.int IntKind.i64 YM, Value.slice ai YA.length ci] 28) = wi := ⟨_, rfl⟩
          have hxwi : Ex we wi := by rw [← hwwi]; exact (Below.refl _ _).alloc (Nat.le_refl _) _
          have HFwi : Hid (XAt wi we.heap.size YR YM (.slice ai YA.length ci) 28) := (by rw [← hwwi]; exact XAt.new we YR YM _ 28 : XAt wi we.heap.size YR YM (.slice ai YA.length ci) 28)
          have HXqi : Hid (Ex wq wi) := hxi.trans hxwi
          have HBi : Hid (Rd z64 wi ai ci YA) := hbi.below hxwi
          have HBqi : Hid (Rd z64 wi ah ch YA) := HBq.out.below HXqi.out
          have HXi : Hid (Ex w wi) := HXp.out.trans (HXr.out.trans (HXq.out.trans HXqi.out))
          obtain ⟨i0, i1', i2⟩ := HFwi.out.all
          obtain ⟨j0, j1, j2⟩ := (HFwq.out.below HXqi.out).all
          clear hbi hxi hxwi hwwq
          simp only [xv]
          go_wp2_with fail
          refine (alike_is YR YM ah _ ch YA ai _ ci _ rfl rfl HBqi.out HBi.out).mono ?_
          rintro e wj ⟨rfl, hxj⟩
          have HXj : Hid (Ex w wj) := HXi.out.trans hxj
          clear hxj i0 i1' i2 j0 j1 j2 hwwi
          go_wp2_with fail
          refine (known_any _).mono ?_
          rintro e wk ⟨rfl, hxk⟩
          go_wp2_with fail
          go_ret
          exact ⟨rfl, HXj.out.trans hxk⟩
  · by_cases h1 : 60 < l1.length
    · have HLn : Hid (l0.length = L.length) := (by rw [← HLt.out, List.length_take]; omega : l0.length = L.length)
      have t0 : decide ((60 : Int) < (l0.length : Int)) = false := by simp; omega
      have t0' : decide (60 < l0.length) = false := by simp; omega
      have HAn : Hid (60 = A.length) := (by rw [← HAt.out, List.length_take]; omega : 60 = A.length)
      have t1 : decide ((60 : Int) < (l1.length : Int)) = true := by simp; omega
      have t1' : decide (60 < l1.length) = true := by simp; omega
      have h61 : 60 ≤ c1 := by omega
      obtain ⟨wA, hwwA⟩ : ∃ wA, w.alloc (Obj.cells #[Value.int IntKind.i64 r1, Value.int IntKind.i64 i1, Value.slice p1 60 c1] 24) = wA := ⟨_, rfl⟩
      have hxwA : Ex w wA := by rw [← hwwA]; exact (Below.refl _ _).alloc (Nat.le_refl _) _
      have HFwA : Hid (XAt wA w.heap.size r1 i1 (.slice p1 60 c1) 24) := (by rw [← hwwA]; exact XAt.new w r1 i1 _ 24 : XAt wA w.heap.size r1 i1 (.slice p1 60 c1) 24)
      have HXA : Hid (Ex w wA) := hxwA
      have HFA : Hid (XAt wA w.heap.size r1 i1 (.slice p1 60 c1) 24) := HFwA.out
      obtain ⟨q0, q1, q2⟩ := HFA.out.all
      clear hxwA HFwA
      unfold xv
      go_enter Try.func4, Try.ntmps4
      go_wp2_with fail
      refine (t_build p0 _ c0 L _ HLn.out (HRL.out.below HXA.out) HOkL.out (by omega) ⟨XR, XM, XA⟩ c HBu.out).mono ?_
      rintro e wb ⟨af, cf, rfl, hbf, hxf⟩
      simp only at hbf
      obtain ⟨wf, hwwf⟩ : ∃ wf, wb.alloc (Obj.cells #[Value.int IntKind.i64 XR, Value.int IntKind.i64 XM, Value.slice af XA.length cf] 24) = wf := ⟨_, rfl⟩
      have hxwf : Ex wb wf := by rw [← hwwf]; exact (Below.refl _ _).alloc (Nat.le_refl _) _
      have HFwf : Hid (XAt wf wb.heap.size XR XM (.slice af XA.length cf) 24) := (by rw [← hwwf]; exact XAt.new wb XR XM _ 24 : XAt wf wb.heap.size XR XM (.slice af XA.length cf) 24)
      have HBf : Hid (Rd z64 wf af cf XA) := hbf.below hxwf
      have HXf : Hid (Ex wA wf) := hxf.trans hxwf
      clear hbf hxf hxwf hwwA q0 q1 q2
      simp only [xv]
      go_wp2_with fail
      refine (rt_build p0 _ c0 L _ HLn.out (HRL.out.below (HXA.out.trans HXf.out)) ⟨XR, XM, XA⟩ c HBu.out).mono ?_
      rintro e wc ⟨ag, cg, rfl, hbg, hxg⟩
      simp only at hbg
      obtain ⟨wg, hwwg⟩ : ∃ wg, wc.alloc (Obj.cells #[Value.int IntKind.i64 XR, Value.int IntKind.i64 XM, Value.slice ag XA.length cg] 28) = wg := ⟨_, rfl⟩
      have hxwg : Ex wc wg := by rw [← hwwg]; exact (Below.refl _ _).alloc (Nat.le_refl _) _
      have HFwg : Hid (XAt wg wc.heap.size XR XM (.slice ag XA.length cg) 28) := (by rw [← hwwg]; exact XAt.new wc XR XM _ 28 : XAt wg wc.heap.size XR XM (.slice ag XA.length cg) 28)
      have HXfg : Hid (Ex wf wg) := hxg.trans hxwg
      have HBg : Hid (Rd z64 wg ag cg XA) := hbg.below hxwg
      have HBfg : Hid (Rd z64 wg af cf XA) := HBf.out.below HXfg.out
      have HFfg : Hid (XAt wg wb.heap.size XR XM (.slice af XA.length cf) 24) := HFwf.out.below HXfg.out
      have HFAg : Hid (XAt wg w.heap.size r1 i1 (.slice p1 60 c1) 24) := HFA.out.below (HXf.out.trans HXfg.out)
      have HXg0 : Hid (Ex w wg) := HXA.out.trans (HXf.out.trans HXfg.out)
      obtain ⟨j0, j1, j2⟩ := HFfg.out.all
      obtain ⟨k0, k1, k2⟩ := HFwg.out.all
      clear hbg hxg hxwg hwwf
      simp only [xv]
      go_wp2_with fail
      refine (alike_is XR XM af _ cf XA ag _ cg _ rfl rfl HBfg.out HBg.out).mono ?_
      rintro e wh ⟨rfl, hxh⟩
      have HXgh : Hid (Ex wg wh) := hxh
      obtain ⟨j0', j1', j2'⟩ := (HFfg.out.below hxh).all
      obtain ⟨q0', q1', q2'⟩ := (HFAg.out.below hxh).all
      obtain ⟨wp, hwp⟩ : ∃ wp, wh.alloc (Obj.cells #[Value.int IntKind.i64 r1, Value.int IntKind.i64 i1, Value.slice p1 60 c1, Value.int IntKind.i64 XR, Value.int IntKind.i64 XM, Value.slice af XA.length cf] 24) = wp := ⟨_, rfl⟩
      have hxp : Ex wh wp := by rw [← hwp]; exact (Below.refl _ _).alloc (Nat.le_refl _) _
      have hblk : wp.heap[wh.heap.size]? = some (.cells [Value.int IntKind.i64 r1, Value.int IntKind.i64 i1, Value.slice p1 60 c1, Value.int IntKind.i64 XR, Value.int IntKind.i64 XM, Value.slice af XA.length cf].toArray 24 (0, 0)) := by rw [← hwp]; exact heap_alloc_new wh _
      have hcel : ∀ k, wp.cell? ⟨wh.heap.size, k, none⟩ = [Value.int IntKind.i64 r1, Value.int IntKind.i64 i1, Value.slice p1 60 c1, Value.int IntKind.i64 XR, Value.int IntKind.i64 XM, Value.slice af XA.length cf][k]? := fun k => by
        rw [cell_of_row wp _ k _ 24 (0, 0) hblk, List.getElem?_toArray]
      have HXp : Hid (Ex w wp) := HXg0.out.trans (HXgh.out.trans hxp)
      have HEach : Hid (∀ j, j < 2 → ∃ (rx mx : Int) (ax : Option Addr) (nx cx : Nat) (lx : List Int), wp.cell? ⟨wh.heap.size, j * 3, none⟩ = some (.int .i64 rx) ∧ wp.cell? ⟨wh.heap.size, j * 3 + 1, none⟩ = some (.int .i64 mx) ∧ wp.cell? ⟨wh.heap.size, j * 3 + 2, none⟩ = some (.slice ax nx cx) ∧ nx = lx.length ∧ Rd z64 wp ax cx lx ∧ lx.length ≤ 60 ∧ D.ok rx ∧ D.ok mx ∧ ∀ x ∈ lx, D.ok x) := (by
        intro j hj
        match j, hj with
        | 0, _ => exact ⟨r1, i1, p1, _, c1, A, hcel 0, hcel 1, hcel 2, HAn.out, HRA.out.below HXp.out, hAl, HR1.out, HM1.out, HOkA.out⟩
        | 1, _ => exact ⟨XR, XM, af, _, cf, XA, hcel 3, hcel 4, hcel 5, rfl, (HBfg.out.below HXgh.out).below hxp, hXAl, HXR.out, HXM.out, HXO.out⟩ : ∀ j, j < 2 → ∃ (rx mx : Int) (ax : Option Addr) (nx cx : Nat) (lx : List Int), wp.cell? ⟨wh.heap.size, j * 3, none⟩ = some (.int .i64 rx) ∧ wp.cell? ⟨wh.heap.size, j * 3 + 1, none⟩ = some (.int .i64 mx) ∧ wp.cell? ⟨wh.heap.size, j * 3 + 2, none⟩ = some (.slice ax nx cx) ∧ nx = lx.length ∧ Rd z64 wp ax cx lx ∧ lx.length ≤ 60 ∧ D.ok rx ∧ D.ok mx ∧ ∀ x ∈ lx, D.ok x)
      clear hxh hxp hblk hcel hwwg j0 j1 j2 k0 k1 k2
      go_wp2_with fail
      go_loopw [4, 69] (fun v i wr => ∃ j : Nat, j ≤ 2 ∧ i = .int .i64 j ∧ Hid (∃ a3 n3 c3 bb, v = .slice a3 n3 c3 ∧ n3 = List.length bb ∧ Byt wr a3 c3 bb ∧ bb.length ≤ 140737488351232 + 1000 * j) ∧ Hid (Ex wp wr)) (fun _ i _ => 2 - (intOf i).toNat)
      case atStart => exact ⟨0, by omega, rfl, (⟨p4, _, c4, l4, rfl, rfl, HB4.out.below HXp.out, by omega⟩ : ∃ a3 n3 c3 bb, Value.slice p4 l4.length c4 = .slice a3 n3 c3 ∧ n3 = List.length bb ∧ Byt wp a3 c3 bb ∧ bb.length ≤ 140737488351232 + 1000 * 0), Ex.refl _⟩
      case round =>
        obtain ⟨j, hj, rfl, HV, HXr⟩ := hrel
        obtain ⟨a3, n3, c3', lb, hv3, hn3, hb3, hlb⟩ := HV.out
        subst hv3
        have HB3r : Hid (Byt wr a3 c3' lb) := hb3
        have HN3 : Hid (n3 = lb.length) := hn3
        have hcb := hb3.1
        have hcb2 := hb3.2.1
        have hn31 : n3 ≤ lb.length := by omega
        have hn32 : lb.length ≤ n3 := by omega
        unfold maxLen at hcb2
        clear HV hb3 hn3 hwp j0' j1' j2' q0' q1' q2'
        by_cases hlt : j < 2
        · obtain ⟨rx, mx, ax, nx, cx, lx, hc0, hc1, hc2, hnx0, hbx, hlx, hrx, hmx, hox⟩ := HEach.out j hlt
          have hc0' := cell_ex hc0 HXr.out
          have hc1' := cell_ex hc1 HXr.out
          have hc2' := cell_ex hc2 HXr.out
          have HBx : Hid (Rd z64 wr ax cx lx) := hbx.below HXr.out
          have HNx : Hid (nx = lx.length) := hnx0
          have HRx : Hid (D.ok rx) := hrx
          have HMx : Hid (D.ok mx) := hmx
          have HOx : Hid (∀ x ∈ lx, D.ok x) := hox
          have hcx := hbx.1
          have hcx2 := hbx.2.1
          unfold maxLen at hcx2
          have hnx1 : nx ≤ lx.length := by omega
          have hnx2 : lx.length ≤ nx := by omega
          have tj : decide ((j : Int) < 2) = true := by simp; omega
          have tj2 : decide (j < 2) = true := by simp; omega
          obtain ⟨w5, hww5⟩ : ∃ w5, wr.alloc (Obj.cells #[Value.int IntKind.i64 rx, Value.int IntKind.i64 mx, Value.slice ax nx cx] 24) = w5 := ⟨_, rfl⟩
          have hxw5 : Ex wr w5 := by rw [← hww5]; exact (Below.refl _ _).alloc (Nat.le_refl _) _
          have HFw5 : Hid (XAt w5 wr.heap.size rx mx (.slice ax nx cx) 24) := (by rw [← hww5]; exact XAt.new wr rx mx _ 24 : XAt w5 wr.heap.size rx mx (.slice ax nx cx) 24)
          have HX5 : Hid (Ex wr w5) := hxw5
          have HB5 : Hid (Rd z64 w5 ax cx lx) := HBx.out.below hxw5
          obtain ⟨g0, g1, g2⟩ := HFw5.out.all
          obtain ⟨⟨Cb, e0⟩, henc⟩ : ∃ z, Tk.encE ⟨rx, mx, lx⟩ = z := ⟨_, rfl⟩
          have HEnc : Hid (Tk.encE ⟨rx, mx, lx⟩ = (Cb, e0)) := henc
          have hCl : Cb.length ≤ 1000 := Tk.encE_len henc (by omega)
          obtain ⟨⟨sp, sq⟩, hspan⟩ : ∃ z, Tk.span ⟨rx, mx, lx⟩ a2 a3' = z := ⟨_, rfl⟩
          have HSp : Hid (Tk.span ⟨rx, mx, lx⟩ a2 a3' = (sp, sq)) := hspan
          obtain ⟨rr, hrr⟩ : ∃ rr, Tk.right ⟨rx, mx, lx⟩ = rr := ⟨_, rfl⟩
          have HRr : Hid (Tk.right ⟨rx, mx, lx⟩ = rr) := hrr
          clear hc0 hc1 hc2 hbx hxw5 henc hspan hrr hrx hmx hox hnx0
          go_wp2_with fail
          refine (t_enc rx mx ax nx cx lx _ HNx.out HB5.out HOx.out (by omega) HRx.out HMx.out Cb e0 HEnc.out).mono ?_
          rintro e w6 ⟨v6, rfl, ⟨ac, cc, hv6, hbc⟩, hxc⟩
          subst hv6
          have HX6 : Hid (Ex w5 w6) := hxc
          have HC6 : Hid (Byt w6 ac cc Cb) := hbc
          obtain ⟨g0', g1', g2'⟩ := (HFw5.out.below hxc).all
          clear hbc hxc g0 g1 g2 hc0' hc1' hc2' hww5
          go_wp2_with fail
          refine (in_is rx mx ax nx cx _).mono ?_
          rintro e w7 ⟨rfl, hx7⟩
          have HX7 : Hid (Ex w5 w7) := HX6.out.trans hx7
          have HC7 : Hid (Byt w7 ac cc Cb) := HC6.out.below hx7
          clear hx7 g0' g1' g2'
          simp only [xv]
          go_wp2_with fail
          refine (rte_is rx mx ax nx cx lx _ HNx.out (HB5.out.below HX7.out) HOx.out HRx.out.1 HRx.out.2 HMx.out.1 HMx.out.2 Cb e0 HEnc.out).mono ?_
          rintro e w7b ⟨v7, rfl, ⟨ad, cd, hv7, hbd⟩, hxd⟩
          subst hv7
          have HX7b : Hid (Ex w5 w7b) := HX7.out.trans hxd
          have HC7b : Hid (Byt w7b ac cc Cb) := HC7.out.below hxd
          have HD7b : Hid (Byt w7b ad cd Cb) := hbd
          obtain ⟨g0, g1, g2⟩ := (HFw5.out.below HX7b.out).all
          clear hbd hxd
          go_wp2_with fail
          refine (t_span rx mx ax nx cx lx a2 a3' _ HNx.out (HB5.out.below HX7b.out) HOx.out (by omega) HRx.out HMx.out HA2.out HA3.out sp sq HSp.out).mono ?_
          rintro e w7c ⟨rfl, hxs⟩
          have HX7c : Hid (Ex w7b w7c) := hxs
          obtain ⟨g0', g1', g2'⟩ := (HFw5.out.below (HX7b.out.trans hxs)).all
          clear hxs g0 g1 g2
          go_wp2_with fail
          refine (in_is rx mx ax nx cx _).mono ?_
          rintro e w7d ⟨rfl, hx7d⟩
          have HX7d : Hid (Ex w7b w7d) := HX7c.out.trans hx7d
          clear hx7d g0' g1' g2'
          simp only [xv]
          go_wp2_with fail
          refine (rts_is rx mx ax nx cx lx a2 a3' _ HNx.out (HB5.out.below (HX7b.out.trans HX7d.out)) HRx.out.1 HRx.out.2 sp sq HSp.out).mono ?_
          rintro e w8 ⟨rfl, hx8⟩
          have HX8b : Hid (Ex w7b w8) := HX7d.out.trans hx8
          have HX8 : Hid (Ex w5 w8) := HX7b.out.trans HX8b.out
          have HC8 : Hid (Byt w8 ac cc Cb) := HC7b.out.below HX8b.out
          have HD8 : Hid (Byt w8 ad cd Cb) := HD7b.out.below HX8b.out
          have HF8 : Hid (XAt w8 wr.heap.size rx mx (.slice ax nx cx) 24) := HFw5.out.below HX8.out
          have HB8 : Hid (Rd z64 w8 ax cx lx) := HB5.out.below HX8.out
          have HL8 : Hid (Byt w8 a3 c3' lb) := HB3r.out.below (HX5.out.trans HX8.out)
          have HXr8 : Hid (Ex wp w8) := HXr.out.trans (HX5.out.trans HX8.out)
          clear hx8
          go_wp2_with fail
          have hre := Ex.refl
          have hnx : nx = lx.length := HNx.out
          refine Rg.wp_rows [.inl (xv rx mx (.slice ax nx cx)), .inl (.bool rr), .inl (xv rx mx (.slice ax nx cx)), .inl (xv rx mx (.slice ax nx cx)), .inl (.bool rr), .inl (.bool false), .inl (.bool false), .inl (Value.slice ac Cb.length cc), .inl (Value.string (str Cb)), .inl (Value.slice ad Cb.length cd), .inl (Value.string (str Cb)), .inl (.bool false), .inl (.bool false), .inl (.bool false), .inl (Value.int .i64 e0), .inl (Value.int .i64 e0), .inl (.bool false), .inl (.bool false), .inl (.bool false), .inl (Value.int .i64 sp), .inl (Value.int .i64 sp), .inl (.bool false), .inl (.bool false), .inl (.bool false), .inl (Value.int .i64 sq), .inl (Value.int .i64 sq), .inl (.bool false), .inl (.bool false)] (Ex w8) Ex 163 (by kernel_rfl) rfl (by kernel_rfl) ?st hre (Ex.drew _) ?goods ?fin
          case st => exact trivial
          case goods =>
            refine Rg.goods_cons (Rg.good_load hre rfl rfl rfl (fun wx hC => by exact load_ixI (.inl rfl) (HF8.out.below hC))) ?_
            refine Rg.goods_cons (Rg.good_call1 Try.func17 (by kernel_rfl) rfl rfl rfl (by rintro u wx hC rfl; exact ex_row (t_right rx mx ax nx cx lx wx hnx (HB8.out.below hC) HOx.out (by omega) HRx.out HMx.out rr HRr.out) hC)) ?_
            refine Rg.goods_cons (Rg.good_load hre rfl rfl rfl (fun wx hC => by exact load_ixI (.inl rfl) (HF8.out.below hC))) ?_
            refine Rg.goods_cons (Rg.good_call1 Try.func16 (by kernel_rfl) rfl rfl rfl (by rintro u wx hC rfl; exact ex_row (in_is rx mx ax nx cx wx) hC)) ?_
            refine Rg.goods_cons (Rg.good_call1 Try.func18 (by kernel_rfl) rfl rfl rfl (by rintro u wx hC rfl; exact ex_row (rtr_is rx mx ax nx cx lx wx hnx (HB8.out.below hC) HRx.out.1 HRx.out.2 rr HRr.out) hC)) ?_
            refine Rg.goods_cons (Rg.good_bin hre rfl rfl rfl rfl (fun _ => rfl) (fun w => by cases rr <;> go_simp)) ?_
            refine Rg.goods_cons (Rg.good_move hre rfl rfl rfl) ?_
            refine Rg.goods_cons (Rg.good_move hre rfl rfl rfl) ?_
            refine Rg.goods_cons (Rg.good_conv hre rfl rfl (by rintro u wx hC rfl; exact run_str (HC8.out.below hC) rfl)) ?_
            refine Rg.goods_cons (Rg.good_move hre rfl rfl rfl) ?_
            refine Rg.goods_cons (Rg.good_conv hre rfl rfl (by rintro u wx hC rfl; exact run_str (HD8.out.below hC) rfl)) ?_
            refine Rg.goods_cons (Rg.good_bin hre rfl rfl rfl rfl (fun _ => rfl) (fun w => by go_simp)) ?_
            refine Rg.goods_cons (Rg.good_pick false hre rfl rfl rfl rfl) ?_
            refine Rg.goods_cons (Rg.good_move hre rfl rfl rfl) ?_
            refine Rg.goods_cons (Rg.good_move hre rfl rfl rfl) ?_
            refine Rg.goods_cons (Rg.good_move hre rfl rfl rfl) ?_
            refine Rg.goods_cons (Rg.good_bin hre rfl rfl rfl rfl (fun _ => rfl) (fun w => by go_simp)) ?_
            refine Rg.goods_cons (Rg.good_pick false hre rfl rfl rfl rfl) ?_
            refine Rg.goods_cons (Rg.good_move hre rfl rfl rfl) ?_
            refine Rg.goods_cons (Rg.good_move hre rfl rfl rfl) ?_
            refine Rg.goods_cons (Rg.good_move hre rfl rfl rfl) ?_
            refine Rg.goods_cons (Rg.good_bin hre rfl rfl rfl rfl (fun _ => rfl) (fun w => by go_simp)) ?_
            refine Rg.goods_cons (Rg.good_pick false hre rfl rfl rfl rfl) ?_
            refine Rg.goods_cons (Rg.good_move hre rfl rfl rfl) ?_
            refine Rg.goods_cons (Rg.good_move hre rfl rfl rfl) ?_
            refine Rg.goods_cons (Rg.good_move hre rfl rfl rfl) ?_
            refine Rg.goods_cons (Rg.good_bin hre rfl rfl rfl rfl (fun _ => rfl) (fun w => by go_simp)) ?_
            refine Rg.goods_cons (Rg.good_pick false hre rfl rfl rfl rfl) ?_
            exact Rg.goods_nil
          case fin =>
            intro wx hx
            simp only [Rg.later, Act.put, List.setIfInBounds_toArray, List.set_cons_succ, List.set_cons_zero]
            have HXx : Hid (Ex w8 wx) := hx
            clear hx hnx
            go_wp2_with (first
              | (refine wpList_build_own rfl 127 rfl 0 [] rfl (by decide) (fun _ => by kernel_rfl) wx.heap.size (Nat.le_refl _) ?_; intro g127 w127 ho127 hx127)
              | (at_builtin; refine wpList_append_byt rfl (.tmp 127) (.tmp 128) rfl wx.heap.size _ [] rfl ho127 a3 _ c3' lb rfl HN3.out ((HL8.out.below HXx.out).below hx127) (by simp; omega) (Ex.size hx127) ?_; intro v129 w129 ho129 hg129; have X129 : Ex wx w129 := step_below0 hx127 (Ex.size hx127) ho127 hg129; clear hg129; rw [List.nil_append] at ho129)
              | (at_builtin; refine wpList_append_byt rfl (.tmp 129) (.tmp 130) rfl wx.heap.size _ lb rfl ho129 ad _ cd Cb rfl rfl ((HD8.out.below HXx.out).below X129) (by omega) (Ex.size X129) ?_; intro v131 w131 ho131 hg131; have X131 : Ex wx w131 := step_below0 X129 (Ex.size X129) ho129 hg131; clear hg131; obtain ⟨a6, c6, hv6, hb6⟩ := ho131.byt; subst hv6))
            have HX131 : Hid (Ex wp w131) := HXr8.out.trans (HXx.out.trans X131)
            have hle : (lb ++ Cb).length ≤ 140737488351232 + 1000 * (j + 1) := by simp; omega
            have HV6 : Hid (∃ a3 n3 c3 bb, Value.slice a6 (lb.length + Cb.length) c6 = .slice a3 n3 c3 ∧ n3 = List.length bb ∧ Byt w131 a3 c3 bb ∧ bb.length ≤ 140737488351232 + 1000 * (j + 1)) := (⟨a6, _, c6, lb ++ Cb, rfl, by rw [List.length_append], hb6, hle⟩ : ∃ a3 n3 c3 bb, Value.slice a6 (lb.length + Cb.length) c6 = .slice a3 n3 c3 ∧ n3 = List.length bb ∧ Byt w131 a3 c3 bb ∧ bb.length ≤ 140737488351232 + 1000 * (j + 1))
            clear X131 hb6 ho131 X129 ho129 hx127 ho127 hle
            go_roundw
            case rel => exact ⟨j + 1, by omega, by go_num, HV6, HX131⟩
            case measure => simp [intOf]; omega
        · have tj : decide ((j : Int) < 2) = false := by simp; omega
          have tj2 : decide (j < 2) = false := by simp; omega
          obtain ⟨⟨⟨YR, YM, YA⟩, k2, e2⟩, hdec⟩ : ∃ z, Tk.dec lb a5 = z := ⟨_, rfl⟩
          have HD2 : Hid (Tk.dec lb a5 = (⟨YR, YM, YA⟩, k2, e2)) := hdec
          clear hdec
          go_wp2_with fail
          refine (t_dec a3 _ c3' lb _ _ HN3.out HB3r.out (by omega) HA5.out ⟨YR, YM, YA⟩ k2 e2 HD2.out).mono ?_
          rintro e wd ⟨ah, ch, rfl, hbh, hxh⟩
          simp only at hbh
          obtain ⟨wq, hwwq⟩ : ∃ wq, wd.alloc (Obj.cells #[Value.int IntKind.i64 YR, Value.int IntKind.i64 YM, Value.slice ah YA.length ch] 24) = wq := ⟨_, rfl⟩
          have hxwq : Ex wd wq := by rw [← hwwq]; exact (Below.refl _ _).alloc (Nat.le_refl _) _
          have HFwq : Hid (XAt wq wd.heap.size YR YM (.slice ah YA.length ch) 24) := (by rw [← hwwq]; exact XAt.new wd YR YM _ 24 : XAt wq wd.heap.size YR YM (.slice ah YA.length ch) 24)
          have HXq : Hid (Ex wr wq) := hxh.trans hxwq
          have HBq : Hid (Rd z64 wq ah ch YA) := hbh.below hxwq
          clear hbh hxh hxwq
          simp only [xv]
          go_wp2_with fail
          refine (rt_dec a3 _ c3' lb _ _ HN3.out (HB3r.out.below HXq.out) (by omega) ⟨YR, YM, YA⟩ k2 e2 HD2.out).mono ?_
          rintro e we ⟨ai, ci, rfl, hbi, hxi⟩
          simp only at hbi
          obtain ⟨wi, hwwi⟩ : ∃ wi, we.alloc (Obj.cells #[Value.int IntKind.i64 YR, Value.int IntKind.i64 YM, Value.slice ai YA.length ci] 28) = wi := ⟨_, rfl⟩
          have hxwi : Ex we wi := by rw [← hwwi]; exact (Below.refl _ _).alloc (Nat.le_refl _) _
          have HFwi : Hid (XAt wi we.heap.size YR YM (.slice ai YA.length ci) 28) := (by rw [← hwwi]; exact XAt.new we YR YM _ 28 : XAt wi we.heap.size YR YM (.slice ai YA.length ci) 28)
          have HXqi : Hid (Ex wq wi) := hxi.trans hxwi
          have HBi : Hid (Rd z64 wi ai ci YA) := hbi.below hxwi
          have HBqi : Hid (Rd z64 wi ah ch YA) := HBq.out.below HXqi.out
          have HXi : Hid (Ex w wi) := HXp.out.trans (HXr.out.trans (HXq.out.trans HXqi.out))
          obtain ⟨i0, i1', i2⟩ := HFwi.out.all
          obtain ⟨j0, j1, j2⟩ := (HFwq.out.below HXqi.out).all
          clear hbi hxi hxwi hwwq
          simp only [xv]
          go_wp2_with fail
          refine (alike_is YR YM ah _ ch YA ai _ ci _ rfl rfl HBqi.out HBi.out).mono ?_
          rintro e wj ⟨rfl, hxj⟩
          have HXj : Hid (Ex w wj) := HXi.out.trans hxj
          clear hxj i0 i1' i2 j0 j1 j2 hwwi
          go_wp2_with fail
          refine (known_any _).mono ?_
          rintro e wk ⟨rfl, hxk⟩
          go_wp2_with fail
          go_ret
          exact ⟨rfl, HXj.out.trans hxk⟩
    · have HLn : Hid (l0.length = L.length) := (by rw [← HLt.out, List.length_take]; omega : l0.length = L.length)
      have t0 : decide ((60 : Int) < (l0.length : Int)) = false := by simp; omega
      have t0' : decide (60 < l0.length) = false := by simp; omega
      have HAn : Hid (l1.length = A.length) := (by rw [← HAt.out, List.length_take]; omega : l1.length = A.length)
      have t1 : decide ((60 : Int) < (l1.length : Int)) = false := by simp; omega
      have t1' : decide (60 < l1.length) = false := by simp; omega
      obtain ⟨wA, hwwA⟩ : ∃ wA, w.alloc (Obj.cells #[Value.int IntKind.i64 r1, Value.int IntKind.i64 i1, Value.slice p1 l1.length c1] 24) = wA := ⟨_, rfl⟩
      have hxwA : Ex w wA := by rw [← hwwA]; exact (Below.refl _ _).alloc (Nat.le_refl _) _
      have HFwA : Hid (XAt wA w.heap.size r1 i1 (.slice p1 l1.length c1) 24) := (by rw [← hwwA]; exact XAt.new w r1 i1 _ 24 : XAt wA w.heap.size r1 i1 (.slice p1 l1.length c1) 24)
      have HXA : Hid (Ex w wA) := hxwA
      have HFA : Hid (XAt wA w.heap.size r1 i1 (.slice p1 l1.length c1) 24) := HFwA.out
      obtain ⟨q0, q1, q2⟩ := HFA.out.all
      clear hxwA HFwA
      unfold xv
      go_enter Try.func4, Try.ntmps4
      go_wp2_with fail
      refine (t_build p0 _ c0 L _ HLn.out (HRL.out.below HXA.out) HOkL.out (by omega) ⟨XR, XM, XA⟩ c HBu.out).mono ?_
      rintro e wb ⟨af, cf, rfl, hbf, hxf⟩
      simp only at hbf
      obtain ⟨wf, hwwf⟩ : ∃ wf, wb.alloc (Obj.cells #[Value.int IntKind.i64 XR, Value.int IntKind.i64 XM, Value.slice af XA.length cf] 24) = wf := ⟨_, rfl⟩
      have hxwf : Ex wb wf := by rw [← hwwf]; exact (Below.refl _ _).alloc (Nat.le_refl _) _
      have HFwf : Hid (XAt wf wb.heap.size XR XM (.slice af XA.length cf) 24) := (by rw [← hwwf]; exact XAt.new wb XR XM _ 24 : XAt wf wb.heap.size XR XM (.slice af XA.length cf) 24)
      have HBf : Hid (Rd z64 wf af cf XA) := hbf.below hxwf
      have HXf : Hid (Ex wA wf) := hxf.trans hxwf
      clear hbf hxf hxwf hwwA q0 q1 q2
      simp only [xv]
      go_wp2_with fail
      refine (rt_build p0 _ c0 L _ HLn.out (HRL.out.below (HXA.out.trans HXf.out)) ⟨XR, XM, XA⟩ c HBu.out).mono ?_
      rintro e wc ⟨ag, cg, rfl, hbg, hxg⟩
      simp only at hbg
      obtain ⟨wg, hwwg⟩ : ∃ wg, wc.alloc (Obj.cells #[Value.int IntKind.i64 XR, Value.int IntKind.i64 XM, Value.slice ag XA.length cg] 28) = wg := ⟨_, rfl⟩
      have hxwg : Ex wc wg := by rw [← hwwg]; exact (Below.refl _ _).alloc (Nat.le_refl _) _
      have HFwg : Hid (XAt wg wc.heap.size XR XM (.slice ag XA.length cg) 28) := (by rw [← hwwg]; exact XAt.new wc XR XM _ 28 : XAt wg wc.heap.size XR XM (.slice ag XA.length cg) 28)
      have HXfg : Hid (Ex wf wg) := hxg.trans hxwg
      have HBg : Hid (Rd z64 wg ag cg XA) := hbg.below hxwg
      have HBfg : Hid (Rd z64 wg af cf XA) := HBf.out.below HXfg.out
      have HFfg : Hid (XAt wg wb.heap.size XR XM (.slice af XA.length cf) 24) := HFwf.out.below HXfg.out
      have HFAg : Hid (XAt wg w.heap.size r1 i1 (.slice p1 l1.length c1) 24) := HFA.out.below (HXf.out.trans HXfg.out)
      have HXg0 : Hid (Ex w wg) := HXA.out.trans (HXf.out.trans HXfg.out)
      obtain ⟨j0, j1, j2⟩ := HFfg.out.all
      obtain ⟨k0, k1, k2⟩ := HFwg.out.all
      clear hbg hxg hxwg hwwf
      simp only [xv]
      go_wp2_with fail
      refine (alike_is XR XM af _ cf XA ag _ cg _ rfl rfl HBfg.out HBg.out).mono ?_
      rintro e wh ⟨rfl, hxh⟩
      have HXgh : Hid (Ex wg wh) := hxh
      obtain ⟨j0', j1', j2'⟩ := (HFfg.out.below hxh).all
      obtain ⟨q0', q1', q2'⟩ := (HFAg.out.below hxh).all
      obtain ⟨wp, hwp⟩ : ∃ wp, wh.alloc (Obj.cells #[Value.int IntKind.i64 r1, Value.int IntKind.i64 i1, Value.slice p1 l1.length c1, Value.int IntKind.i64 XR, Value.int IntKind.i64 XM, Value.slice af XA.length cf] 24) = wp := ⟨_, rfl⟩
      have hxp : Ex wh wp := by rw [← hwp]; exact (Below.refl _ _).alloc (Nat.le_refl _) _
      have hblk : wp.heap[wh.heap.size]? = some (.cells [Value.int IntKind.i64 r1, Value.int IntKind.i64 i1, Value.slice p1 l1.length c1, Value.int IntKind.i64 XR, Value.int IntKind.i64 XM, Value.slice af XA.length cf].toArray 24 (0, 0)) := by rw [← hwp]; exact heap_alloc_new wh _
      have hcel : ∀ k, wp.cell? ⟨wh.heap.size, k, none⟩ = [Value.int IntKind.i64 r1, Value.int IntKind.i64 i1, Value.slice p1 l1.length c1, Value.int IntKind.i64 XR, Value.int IntKind.i64 XM, Value.slice af XA.length cf][k]? := fun k => by
        rw [cell_of_row wp _ k _ 24 (0, 0) hblk, List.getElem?_toArray]
      have HXp : Hid (Ex w wp) := HXg0.out.trans (HXgh.out.trans hxp)
      have HEach : Hid (∀ j, j < 2 → ∃ (rx mx : Int) (ax : Option Addr) (nx cx : Nat) (lx : List Int), wp.cell? ⟨wh.heap.size, j * 3, none⟩ = some (.int .i64 rx) ∧ wp.cell? ⟨wh.heap.size, j * 3 + 1, none⟩ = some (.int .i64 mx) ∧ wp.cell? ⟨wh.heap.size, j * 3 + 2, none⟩ = some (.slice ax nx cx) ∧ nx = lx.length ∧ Rd z64 wp ax cx lx ∧ lx.length ≤ 60 ∧ D.ok rx ∧ D.ok mx ∧ ∀ x ∈ lx, D.ok x) := (by
        intro j hj
        match j, hj with
        | 0, _ => exact ⟨r1, i1, p1, _, c1, A, hcel 0, hcel 1, hcel 2, HAn.out, HRA.out.below HXp.out, hAl, HR1.out, HM1.out, HOkA.out⟩
        | 1, _ => exact ⟨XR, XM, af, _, cf, XA, hcel 3, hcel 4, hcel 5, rfl, (HBfg.out.below HXgh.out).below hxp, hXAl, HXR.out, HXM.out, HXO.out⟩ : ∀ j, j < 2 → ∃ (rx mx : Int) (ax : Option Addr) (nx cx : Nat) (lx : List Int), wp.cell? ⟨wh.heap.size, j * 3, none⟩ = some (.int .i64 rx) ∧ wp.cell? ⟨wh.heap.size, j * 3 + 1, none⟩ = some (.int .i64 mx) ∧ wp.cell? ⟨wh.heap.size, j * 3 + 2, none⟩ = some (.slice ax nx cx) ∧ nx = lx.length ∧ Rd z64 wp ax cx lx ∧ lx.length ≤ 60 ∧ D.ok rx ∧ D.ok mx ∧ ∀ x ∈ lx, D.ok x)
      clear hxh hxp hblk hcel hwwg j0 j1 j2 k0 k1 k2
      go_wp2_with fail
      go_loopw [4, 69] (fun v i wr => ∃ j : Nat, j ≤ 2 ∧ i = .int .i64 j ∧ Hid (∃ a3 n3 c3 bb, v = .slice a3 n3 c3 ∧ n3 = List.length bb ∧ Byt wr a3 c3 bb ∧ bb.length ≤ 140737488351232 + 1000 * j) ∧ Hid (Ex wp wr)) (fun _ i _ => 2 - (intOf i).toNat)
      case atStart => exact ⟨0, by omega, rfl, (⟨p4, _, c4, l4, rfl, rfl, HB4.out.below HXp.out, by omega⟩ : ∃ a3 n3 c3 bb, Value.slice p4 l4.length c4 = .slice a3 n3 c3 ∧ n3 = List.length bb ∧ Byt wp a3 c3 bb ∧ bb.length ≤ 140737488351232 + 1000 * 0), Ex.refl _⟩
      case round =>
        obtain ⟨j, hj, rfl, HV, HXr⟩ := hrel
        obtain ⟨a3, n3, c3', lb, hv3, hn3, hb3, hlb⟩ := HV.out
        subst hv3
        have HB3r : Hid (Byt wr a3 c3' lb) := hb3
        have HN3 : Hid (n3 = lb.length) := hn3
        have hcb := hb3.1
        have hcb2 := hb3.2.1
        have hn31 : n3 ≤ lb.length := by omega
        have hn32 : lb.length ≤ n3 := by omega
        unfold maxLen at hcb2
        clear HV hb3 hn3 hwp j0' j1' j2' q0' q1' q2'
        by_cases hlt : j < 2
        · obtain ⟨rx, mx, ax, nx, cx, lx, hc0, hc1, hc2, hnx0, hbx, hlx, hrx, hmx, hox⟩ := HEach.out j hlt
          have hc0' := cell_ex hc0 HXr.out
          have hc1' := cell_ex hc1 HXr.out
          have hc2' := cell_ex hc2 HXr.out
          have HBx : Hid (Rd z64 wr ax cx lx) := hbx.below HXr.out
          have HNx : Hid (nx = lx.length) := hnx0
          have HRx : Hid (D.ok rx) := hrx
          have HMx : Hid (D.ok mx) := hmx
          have HOx : Hid (∀ x ∈ lx, D.ok x) := hox
          have hcx := hbx.1
          have hcx2 := hbx.2.1
          unfold maxLen at hcx2
          have hnx1 : nx ≤ lx.length := by omega
          have hnx2 : lx.length ≤ nx := by omega
          have tj : decide ((j : Int) < 2) = true := by simp; omega
          have tj2 : decide (j < 2) = true := by simp; omega
          obtain ⟨w5, hww5⟩ : ∃ w5, wr.alloc (Obj.cells #[Value.int IntKind.i64 rx, Value.int IntKind.i64 mx, Value.slice ax nx cx] 24) = w5 := ⟨_, rfl⟩
          have hxw5 : Ex wr w5 := by rw [← hww5]; exact (Below.refl _ _).alloc (Nat.le_refl _) _
          have HFw5 : Hid (XAt w5 wr.heap.size rx mx (.slice ax nx cx) 24) := (by rw [← hww5]; exact XAt.new wr rx mx _ 24 : XAt w5 wr.heap.size rx mx (.slice ax nx cx) 24)
          have HX5 : Hid (Ex wr w5) := hxw5
          have HB5 : Hid (Rd z64 w5 ax cx lx) := HBx.out.below hxw5
          obtain ⟨g0, g1, g2⟩ := HFw5.out.all
          obtain ⟨⟨Cb, e0⟩, henc⟩ : ∃ z, Tk.encE ⟨rx, mx, lx⟩ = z := ⟨_, rfl⟩
          have HEnc : Hid (Tk.encE ⟨rx, mx, lx⟩ = (Cb, e0)) := henc
          have hCl : Cb.length ≤ 1000 := Tk.encE_len henc (by omega)
          obtain ⟨⟨sp, sq⟩, hspan⟩ : ∃ z, Tk.span ⟨rx, mx, lx⟩ a2 a3' = z := ⟨_, rfl⟩
          have HSp : Hid (Tk.span ⟨rx, mx, lx⟩ a2 a3' = (sp, sq)) := hspan
          obtain ⟨rr, hrr⟩ : ∃ rr, Tk.right ⟨rx, mx, lx⟩ = rr := ⟨_, rfl⟩
          have HRr : Hid (Tk.right ⟨rx, mx, lx⟩ = rr) := hrr
          clear hc0 hc1 hc2 hbx hxw5 henc hspan hrr hrx hmx hox hnx0
          go_wp2_with fail
          refine (t_enc rx mx ax nx cx lx _ HNx.out HB5.out HOx.out (by omega) HRx.out HMx.out Cb e0 HEnc.out).mono ?_
          rintro e w6 ⟨v6, rfl, ⟨ac, cc, hv6, hbc⟩, hxc⟩
          subst hv6
          have HX6 : Hid (Ex w5 w6) := hxc
          have HC6 : Hid (Byt w6 ac cc Cb) := hbc
          obtain ⟨g0', g1', g2'⟩ := (HFw5.out.below hxc).all
          clear hbc hxc g0 g1 g2 hc0' hc1' hc2' hww5
          go_wp2_with fail
          refine (in_is rx mx ax nx cx _).mono ?_
          rintro e w7 ⟨rfl, hx7⟩
          have HX7 : Hid (Ex w5 w7) := HX6.out.trans hx7
          have HC7 : Hid (Byt w7 ac cc Cb) := HC6.out.below hx7
          clear hx7 g0' g1' g2'
          simp only [xv]
          go_wp2_with fail
          refine (rte_is rx mx ax nx cx lx _ HNx.out (HB5.out.below HX7.out) HOx.out HRx.out.1 HRx.out.2 HMx.out.1 HMx.out.2 Cb e0 HEnc.out).mono ?_
          rintro e w7b ⟨v7, rfl, ⟨ad, cd, hv7, hbd⟩, hxd⟩
          subst hv7
          have HX7b : Hid (Ex w5 w7b) := HX7.out.trans hxd
          have HC7b : Hid (Byt w7b ac cc Cb) := HC7.out.below hxd
          have HD7b : Hid (Byt w7b ad cd Cb) := hbd
          obtain ⟨g0, g1, g2⟩ := (HFw5.out.below HX7b.out).all
          clear hbd hxd
          go_wp2_with fail
          refine (t_span rx mx ax nx cx lx a2 a3' _ HNx.out (HB5.out.below HX7b.out) HOx.out (by omega) HRx.out HMx.out HA2.out HA3.out sp sq HSp.out).mono ?_
          rintro e w7c ⟨rfl, hxs⟩
          have HX7c : Hid (Ex w7b w7c) := hxs
          obtain ⟨g0', g1', g2'⟩ := (HFw5.out.below (HX7b.out.trans hxs)).all
          clear hxs g0 g1 g2
          go_wp2_with fail
          refine (in_is rx mx ax nx cx _).mono ?_
          rintro e w7d ⟨rfl, hx7d⟩
          have HX7d : Hid (Ex w7b w7d) := HX7c.out.trans hx7d
          clear hx7d g0' g1' g2'
          simp only [xv]
          go_wp2_with fail
          refine (rts_is rx mx ax nx cx lx a2 a3' _ HNx.out (HB5.out.below (HX7b.out.trans HX7d.out)) HRx.out.1 HRx.out.2 sp sq HSp.out).mono ?_
          rintro e w8 ⟨rfl, hx8⟩
          have HX8b : Hid (Ex w7b w8) := HX7d.out.trans hx8
          have HX8 : Hid (Ex w5 w8) := HX7b.out.trans HX8b.out
          have HC8 : Hid (Byt w8 ac cc Cb) := HC7b.out.below HX8b.out
          have HD8 : Hid (Byt w8 ad cd Cb) := HD7b.out.below HX8b.out
          have HF8 : Hid (XAt w8 wr.heap.size rx mx (.slice ax nx cx) 24) := HFw5.out.below HX8.out
          have HB8 : Hid (Rd z64 w8 ax cx lx) := HB5.out.below HX8.out
          have HL8 : Hid (Byt w8 a3 c3' lb) := HB3r.out.below (HX5.out.trans HX8.out)
          have HXr8 : Hid (Ex wp w8) := HXr.out.trans (HX5.out.trans HX8.out)
          clear hx8
          go_wp2_with fail
          have hre := Ex.refl
          have hnx : nx = lx.length := HNx.out
          refine Rg.wp_rows [.inl (xv rx mx (.slice ax nx cx)), .inl (.bool rr), .inl (xv rx mx (.slice ax nx cx)), .inl (xv rx mx (.slice ax nx cx)), .inl (.bool rr), .inl (.bool false), .inl (.bool false), .inl (Value.slice ac Cb.length cc), .inl (Value.string (str Cb)), .inl (Value.slice ad Cb.length cd), .inl (Value.string (str Cb)), .inl (.bool false), .inl (.bool false), .inl (.bool false), .inl (Value.int .i64 e0), .inl (Value.int .i64 e0), .inl (.bool false), .inl (.bool false), .inl (.bool false), .inl (Value.int .i64 sp), .inl (Value.int .i64 sp), .inl (.bool false), .inl (.bool false), .inl (.bool false), .inl (Value.int .i64 sq), .inl (Value.int .i64 sq), .inl (.bool false), .inl (.bool false)] (Ex w8) Ex 163 (by kernel_rfl) rfl (by kernel_rfl) ?st hre (Ex.drew _) ?goods ?fin
          case st => exact trivial
          case goods =>
            refine Rg.goods_cons (Rg.good_load hre rfl rfl rfl (fun wx hC => by exact load_ixI (.inl rfl) (HF8.out.below hC))) ?_
            refine Rg.goods_cons (Rg.good_call1 Try.func17 (by kernel_rfl) rfl rfl rfl (by rintro u wx hC rfl; exact ex_row (t_right rx mx ax nx cx lx wx hnx (HB8.out.below hC) HOx.out (by omega) HRx.out HMx.out rr HRr.out) hC)) ?_
            refine Rg.goods_cons (Rg.good_load hre rfl rfl rfl (fun wx hC => by exact load_ixI (.inl rfl) (HF8.out.below hC))) ?_
            refine Rg.goods_cons (Rg.good_call1 Try.func16 (by kernel_rfl) rfl rfl rfl (by rintro u wx hC rfl; exact ex_row (in_is rx mx ax nx cx wx) hC)) ?_
            refine Rg.goods_cons (Rg.good_call1 Try.func18 (by kernel_rfl) rfl rfl rfl (by rintro u wx hC rfl; exact ex_row (rtr_is rx mx ax nx cx lx wx hnx (HB8.out.below hC) HRx.out.1 HRx.out.2 rr HRr.out) hC)) ?_
            refine Rg.goods_cons (Rg.good_bin hre rfl rfl rfl rfl (fun _ => rfl) (fun w => by cases rr <;> go_simp)) ?_
            refine Rg.goods_cons (Rg.good_move hre rfl rfl rfl) ?_
            refine Rg.goods_cons (Rg.good_move hre rfl rfl rfl) ?_
            refine Rg.goods_cons (Rg.good_conv hre rfl rfl (by rintro u wx hC rfl; exact run_str (HC8.out.below hC) rfl)) ?_
            refine Rg.goods_cons (Rg.good_move hre rfl rfl rfl) ?_
            refine Rg.goods_cons (Rg.good_conv hre rfl rfl (by rintro u wx hC rfl; exact run_str (HD8.out.below hC) rfl)) ?_
            refine Rg.goods_cons (Rg.good_bin hre rfl rfl rfl rfl (fun _ => rfl) (fun w => by go_simp)) ?_
            refine Rg.goods_cons (Rg.good_pick false hre rfl rfl rfl rfl) ?_
            refine Rg.goods_cons (Rg.good_move hre rfl rfl rfl) ?_
            refine Rg.goods_cons (Rg.good_move hre rfl rfl rfl) ?_
            refine Rg.goods_cons (Rg.good_move hre rfl rfl rfl) ?_
            refine Rg.goods_cons (Rg.good_bin hre rfl rfl rfl rfl (fun _ => rfl) (fun w => by go_simp)) ?_
            refine Rg.goods_cons (Rg.good_pick false hre rfl rfl rfl rfl) ?_
            refine Rg.goods_cons (Rg.good_move hre rfl rfl rfl) ?_
            refine Rg.goods_cons (Rg.good_move hre rfl rfl rfl) ?_
            refine Rg.goods_cons (Rg.good_move hre rfl rfl rfl) ?_
            refine Rg.goods_cons (Rg.good_bin hre rfl rfl rfl rfl (fun _ => rfl) (fun w => by go_simp)) ?_
            refine Rg.goods_cons (Rg.good_pick false hre rfl rfl rfl rfl) ?_
            refine Rg.goods_cons (Rg.good_move hre rfl rfl rfl) ?_
            refine Rg.goods_cons (Rg.good_move hre rfl rfl rfl) ?_
            refine Rg.goods_cons (Rg.good_move hre rfl rfl rfl) ?_
            refine Rg.goods_cons (Rg.good_bin hre rfl rfl rfl rfl (fun _ => rfl) (fun w => by go_simp)) ?_
            refine Rg.goods_cons (Rg.good_pick false hre rfl rfl rfl rfl) ?_
            exact Rg.goods_nil
          case fin =>
            intro wx hx
            simp only [Rg.later, Act.put, List.setIfInBounds_toArray, List.set_cons_succ, List.set_cons_zero]
            have HXx : Hid (Ex w8 wx) := hx
            clear hx hnx
            go_wp2_with (first
              | (refine wpList_build_own rfl 127 rfl 0 [] rfl (by decide) (fun _ => by kernel_rfl) wx.heap.size (Nat.le_refl _) ?_; intro g127 w127 ho127 hx127)
              | (at_builtin; refine wpList_append_byt rfl (.tmp 127) (.tmp 128) rfl wx.heap.size _ [] rfl ho127 a3 _ c3' lb rfl HN3.out ((HL8.out.below HXx.out).below hx127) (by simp; omega) (Ex.size hx127) ?_; intro v129 w129 ho129 hg129; have X129 : Ex wx w129 := step_below0 hx127 (Ex.size hx127) ho127 hg129; clear hg129; rw [List.nil_append] at ho129)
              | (at_builtin; refine wpList_append_byt rfl (.tmp 129) (.tmp 130) rfl wx.heap.size _ lb rfl ho129 ad _ cd Cb rfl rfl ((HD8.out.below HXx.out).below X129) (by omega) (Ex.size X129) ?_; intro v131 w131 ho131 hg131; have X131 : Ex wx w131 := step_below0 X129 (Ex.size X129) ho129 hg131; clear hg131; obtain ⟨a6, c6, hv6, hb6⟩ := ho131.byt; subst hv6))
            have HX131 : Hid (Ex wp w131) := HXr8.out.trans (HXx.out.trans X131)
            have hle : (lb ++ Cb).length ≤ 140737488351232 + 1000 * (j + 1) := by simp; omega
            have HV6 : Hid (∃ a3 n3 c3 bb, Value.slice a6 (lb.length + Cb.length) c6 = .slice a3 n3 c3 ∧ n3 = List.length bb ∧ Byt w131 a3 c3 bb ∧ bb.length ≤ 140737488351232 + 1000 * (j + 1)) := (⟨a6, _, c6, lb ++ Cb, rfl, by rw [List.length_append], hb6, hle⟩ : ∃ a3 n3 c3 bb, Value.slice a6 (lb.length + Cb.length) c6 = .slice a3 n3 c3 ∧ n3 = List.length bb ∧ Byt w131 a3 c3 bb ∧ bb.length ≤ 140737488351232 + 1000 * (j + 1))
            clear X131 hb6 ho131 X129 ho129 hx127 ho127 hle
            go_roundw
            case rel => exact ⟨j + 1, by omega, by go_num, HV6, HX131⟩
            case measure => simp [intOf]; omega
        · have tj : decide ((j : Int) < 2) = false := by simp; omega
          have tj2 : decide (j < 2) = false := by simp; omega
          obtain ⟨⟨⟨YR, YM, YA⟩, k2, e2⟩, hdec⟩ : ∃ z, Tk.dec lb a5 = z := ⟨_, rfl⟩
          have HD2 : Hid (Tk.dec lb a5 = (⟨YR, YM, YA⟩, k2, e2)) := hdec
          clear hdec
          go_wp2_with fail
          refine (t_dec a3 _ c3' lb _ _ HN3.out HB3r.out (by omega) HA5.out ⟨YR, YM, YA⟩ k2 e2 HD2.out).mono ?_
          rintro e wd ⟨ah, ch, rfl, hbh, hxh⟩
          simp only at hbh
          obtain ⟨wq, hwwq⟩ : ∃ wq, wd.alloc (Obj.cells #[Value.int IntKind.i64 YR, Value.int IntKind.i64 YM, Value.slice ah YA.length ch] 24) = wq := ⟨_, rfl⟩
          have hxwq : Ex wd wq := by rw [← hwwq]; exact (Below.refl _ _).alloc (Nat.le_refl _) _
          have HFwq : Hid (XAt wq wd.heap.size YR YM (.slice ah YA.length ch) 24) := (by rw [← hwwq]; exact XAt.new wd YR YM _ 24 : XAt wq wd.heap.size YR YM (.slice ah YA.length ch) 24)
          have HXq : Hid (Ex wr wq) := hxh.trans hxwq
          have HBq : Hid (Rd z64 wq ah ch YA) := hbh.below hxwq
          clear hbh hxh hxwq
          simp only [xv]
          go_wp2_with fail
          refine (rt_dec a3 _ c3' lb _ _ HN3.out (HB3r.out.below HXq.out) (by omega) ⟨YR, YM, YA⟩ k2 e2 HD2.out).mono ?_
          rintro e we ⟨ai, ci, rfl, hbi, hxi⟩
          simp only at hbi
          obtain ⟨wi, hwwi⟩ : ∃ wi, we.alloc (Obj.cells #[Value.int IntKind.i64 YR, Value.int IntKind.i64 YM, Value.slice ai YA.length ci] 28) = wi := ⟨_, rfl⟩
          have hxwi : Ex we wi := by rw [← hwwi]; exact (Below.refl _ _).alloc (Nat.le_refl _) _
          have HFwi : Hid (XAt wi we.heap.size YR YM (.slice ai YA.length ci) 28) := (by rw [← hwwi]; exact XAt.new we YR YM _ 28 : XAt wi we.heap.size YR YM (.slice ai YA.length ci) 28)
          have HXqi : Hid (Ex wq wi) := hxi.trans hxwi
          have HBi : Hid (Rd z64 wi ai ci YA) := hbi.below hxwi
          have HBqi : Hid (Rd z64 wi ah ch YA) := HBq.out.below HXqi.out
          have HXi : Hid (Ex w wi) := HXp.out.trans (HXr.out.trans (HXq.out.trans HXqi.out))
          obtain ⟨i0, i1', i2⟩ := HFwi.out.all
          obtain ⟨j0, j1, j2⟩ := (HFwq.out.below HXqi.out).all
          clear hbi hxi hxwi hwwq
          simp only [xv]
          go_wp2_with fail
          refine (alike_is YR YM ah _ ch YA ai _ ci _ rfl rfl HBqi.out HBi.out).mono ?_
          rintro e wj ⟨rfl, hxj⟩
          have HXj : Hid (Ex w wj) := HXi.out.trans hxj
          clear hxj i0 i1' i2 j0 j1 j2 hwwi
          go_wp2_with fail
          refine (known_any _).mono ?_
          rintro e wk ⟨rfl, hxk⟩
          go_wp2_with fail
          go_ret
          exact ⟨rfl, HXj.out.trans hxk⟩
end Go.Proofs.Ytaehchaimlklnaa.ticksTells
