/-
  The walk of TicksBuild.
-/
import Derived.Test.YtaehchaimlklnaaTicksNarrowWalk
namespace Go.Proofs.Ytaehchaimlklnaa
open Go.RowKit
set_option linter.unusedVariables false
theorem ex_row {f : FuncId} {args : Array Value} {wx w1 : World} {v : Value} (h : Calls Try.prog f args wx fun e w' => e = .returned v ∧ Ex wx w') (hC : Ex w1 wx) :
    Calls Try.prog f args wx (fun e w' => ∃ u, e = .returned u ∧ Rg.Spec.ok (.inl v) u w' ∧ Ex wx w' ∧ Ex w1 w') :=
  h.mono fun e w' ⟨h1, h2⟩ => ⟨v, h1, rfl, h2, hC.trans h2⟩
namespace ticksBuild
set_option linter.unusedVariables false
set_option linter.unusedSimpArgs false
set_option maxRecDepth 100000 in
set_option maxHeartbeats 8000000 in
theorem walk (p0 : Option Addr) (c0 : Nat) (l0 : List Int) (w : World) (b0 : Rd z64 w p0 c0 l0) (m0 : ∀ x ∈ l0, In64 x) (w0 : l0.length ≤ 17592186043904) :
    Calls Try.prog 8 #[.slice p0 l0.length c0] w fun e w' => e = .returned (.bool true) ∧ Below w.heap.size w w' := by
  have hcl := b0.1
  have hcm := b0.2.1
  unfold maxLen at hcm
  by_cases hlong : 60 < l0.length
  · obtain ⟨L, hL⟩ : ∃ L, L = l0.take 60 := ⟨_, rfl⟩
    have hLl : L.length = 60 := by rw [hL, List.length_take]; omega
    have HB : Hid (Rd z64 w p0 c0 L) := (by rw [hL]; exact b0.take 60 : Rd z64 w p0 c0 L)
    have HOk : Hid (∀ x ∈ L, D.ok x) := (fun x hx => m0 x (by rw [hL] at hx; exact List.mem_of_mem_take hx) : ∀ x ∈ L, D.ok x)
    have t0 : decide ((60 : Int) < (l0.length : Int)) = true := by simp; omega
    have h60 : 60 ≤ c0 := by omega
    clear b0 m0 hL
    go_enter Try.func8, Try.ntmps8
    go_wp2_with fail
    generalize hn : (60 : Nat) = n
    have hn60 : n ≤ 60 := by omega
    have hnc : n ≤ c0 := by omega
    have HN : Hid (n = L.length) := (by omega : n = L.length)
    clear hn hLl h60 t0 hlong
    by_cases hR : Tk.Rise L
    · have hbuild := Tk.build_ix (show L.length ≤ 1048576 by rw [← HN.out]; omega) hR
      have hright := Tk.right_ix (show L.length ≤ 1048576 by rw [← HN.out]; omega) hR
      have hevl := Tk.evs_len L
      have hev : ∀ i, i < (Tk.evs L).length → Tk.at0 (Tk.evs L) i = Tk.at0 L (4 * i) := fun i hi => Tk.evs_at (by rw [hevl] at hi; exact hi)
      have hAok : ∀ x ∈ Tk.evs L, D.ok x := fun x hx => HOk.out x (Tk.evs_mem hx)
      have hMok : D.ok (Tk.lst L) := Tk.lst_ok HOk.out
      have hM0 : Tk.lst L = Tk.at0 L (n - 1) := by rw [HN.out]; rfl
      have hix : Tk.ix L = ⟨n, Tk.lst L, Tk.evs L⟩ := by unfold Tk.ix; rw [HN.out]
      rw [hix] at hbuild hright
      rw [← HN.out] at hevl
      obtain ⟨M, hM⟩ : ∃ M, Tk.lst L = M := ⟨_, rfl⟩
      obtain ⟨A, hA⟩ : ∃ A, Tk.evs L = A := ⟨_, rfl⟩
      rw [hM] at hbuild hright hMok hM0
      rw [hA] at hbuild hright hevl hev hAok
      have HBu : Hid (Tk.build L = (⟨n, M, A⟩, 0)) := hbuild
      have HRt : Hid (Tk.right ⟨n, M, A⟩ = true) := hright
      have HEv : Hid (∀ i, i < A.length → Tk.at0 A i = Tk.at0 L (4 * i)) := hev
      have HAok : Hid (∀ x ∈ A, D.ok x) := hAok
      have HMok : Hid (D.ok M) := hMok
      have HM0 : Hid (M = Tk.at0 L (n - 1)) := hM0
      have HRs : Hid (Tk.Rise L) := hR
      obtain ⟨q, hq⟩ : ∃ q, A.length = q := ⟨_, rfl⟩
      have hq1 : ((n : Int) + 3) / 4 = (q : Int) := by omega
      have hq2 : ((n : Int) + 3).tdiv 4 = (q : Int) := by rw [Int.tdiv_eq_ediv_of_nonneg (by omega)]; exact hq1
      have hq3 : q ≤ 15 := by omega
      have hq4 : ∀ i, i < q → 4 * i < n := fun i hi => by omega
      have HQ4 : Hid (∀ i, i < q → 4 * i < n) := hq4
      have HQ : Hid (A.length = q) := hq
      have HNok : Hid (D.ok (n : Int)) := (⟨by omega, by omega⟩ : D.ok (n : Int))
      clear hbuild hright hev hAok hMok hM0 hR hM hA hix hq hq4 hevl
      refine (t_build p0 n c0 L _ HN.out HB.out HOk.out (by rw [← HN.out]; omega) ⟨n, M, A⟩ 0 HBu.out).mono ?_
      rintro e wb ⟨p2, c2, rfl, hr2, hx2⟩
      have hcl2 := hr2.1
      have hcm2 := hr2.2.1
      unfold maxLen at hcm2
      simp only at hr2 hcl2
      simp only [xv]
      rw [HQ.out]
      rw [HQ.out] at hcl2
      obtain ⟨wc, hwc⟩ : ∃ wc, wb.alloc (Obj.cells #[Value.int IntKind.i64 n, Value.int IntKind.i64 M, Value.slice p2 q c2] 24) = wc := ⟨_, rfl⟩
      have hxc : Ex wb wc := by rw [← hwc]; exact (Below.refl _ _).alloc (Nat.le_refl _) _
      have HFc : Hid (XAt wc wb.heap.size n M (.slice p2 q c2) 24) := (by rw [← hwc]; exact XAt.new wb n M _ 24 : XAt wc wb.heap.size n M (.slice p2 q c2) 24)
      have HRc : Hid (Rd z64 wc p2 c2 A) := hr2.below hxc
      have HBc : Hid (Rd z64 wc p0 c0 L) := HB.out.below (hx2.trans hxc)
      have HXc : Hid (Ex w wc) := hx2.trans hxc
      obtain ⟨g0, g1, g2⟩ := HFc.out.all
      clear hr2 hx2 hxc
      go_wp2_with fail
      go_loopw [5, 6] (fun b i wr => ∃ j : Nat, 1 ≤ j ∧ (j ≤ n ∨ j = 1) ∧ b = .bool true ∧ i = .int .i64 j ∧ Hid (Ex wc wr)) (fun _ i _ => n - (intOf i).toNat)
      case atStart => exact ⟨1, by omega, by omega, rfl, rfl, Ex.refl _⟩
      case round =>
        obtain ⟨j, hj1, hj, rfl, rfl, HXr⟩ := hrel
        have HJ : Hid (j ≤ n ∨ j = 1) := hj
        clear hj
        by_cases hlt : j < n
        · have hltL : j < L.length := by rw [← HN.out]; exact hlt
          obtain ⟨bb, off, rfl, hc1⟩ := (HBc.out.below HXr.out).at0 hltL
          obtain ⟨j1, hj1'⟩ : ∃ j1 : Nat, j1 = j - 1 := ⟨_, rfl⟩
          have hj1i : (j : Int) - 1 = (j1 : Int) := by omega
          have hj1n : j1 < n := by omega
          have hj1l : j1 < L.length := by omega
          obtain ⟨_, _, e2, hc2⟩ := (HBc.out.below HXr.out).at0 hj1l
          simp only [Option.some.injEq, Addr.mk.injEq, and_true] at e2
          obtain ⟨rfl, rfl⟩ := e2
          have hle := HRs.out.le (i := j1) (j := j) (by omega) hltL
          obtain ⟨x, hx⟩ : ∃ x, Tk.at0 L j = x := ⟨_, rfl⟩
          obtain ⟨y, hy⟩ : ∃ y, Tk.at0 L j1 = y := ⟨_, rfl⟩
          rw [hx] at hc1 hle
          rw [hy] at hc2 hle
          have t1 : decide (y ≤ x) = true := decide_eq_true hle
          have tj : decide ((j : Int) < (n : Int)) = true := by simp; omega
          clear hx hy hj1' hltL hj1l
          go_wp2_with fail
          go_quiet (fail)
          go_wp2_with fail
          go_roundw
          case rel => exact ⟨j + 1, by omega, by omega, rfl, by go_num, HXr.out.trans (Ex.drewN _ _)⟩
          case measure => simp [intOf]; omega
        · have tj : decide ((j : Int) < (n : Int)) = false := by simp; omega
          have tjn : decide (j < n) = false := by simp; omega
          have HFr : Hid (XAt wr wb.heap.size n M (.slice p2 q c2) 24) := HFc.out.below HXr.out
          have HRr : Hid (Rd z64 wr p2 c2 A) := HRc.out.below HXr.out
          have HBr : Hid (Rd z64 wr p0 c0 L) := HBc.out.below HXr.out
          have HXw : Hid (Ex w wr) := HXc.out.trans HXr.out
          clear g0 g1 g2
          obtain ⟨g0, g1, g2⟩ := HFr.out.all
          go_wp2_with fail
          refine (t_right n M _ q c2 A _ HQ.out.symm HRr.out HAok.out (by rw [HQ.out]; omega) HNok.out HMok.out true HRt.out).mono ?_
          rintro e we ⟨rfl, hxe⟩
          have HFe : Hid (XAt we wb.heap.size n M (.slice p2 q c2) 24) := HFr.out.below hxe
          have HRe : Hid (Rd z64 we p2 c2 A) := HRr.out.below hxe
          have HBe : Hid (Rd z64 we p0 c0 L) := HBr.out.below hxe
          have HXe : Hid (Ex w we) := HXw.out.trans hxe
          clear g0 g1 g2 hxe
          obtain ⟨g0, g1, g2⟩ := HFe.out.all
          go_wp2_with fail
          go_loopw [7] (fun i wr => ∃ k : Nat, k ≤ q ∧ i = .int .i64 k ∧ Hid (Ex we wr)) (fun i _ => q - (intOf i).toNat)
          case atStart => exact ⟨0, by omega, rfl, Ex.refl _⟩
          case round =>
            obtain ⟨k, hk, rfl, HXk⟩ := hrel
            have HF9 : Hid (XAt wr wb.heap.size n M (.slice p2 q c2) 24) := HFe.out.below HXk.out
            have HX9 : Hid (Ex w wr) := HXe.out.trans HXk.out
            clear g0 g1 g2
            obtain ⟨g0, g1, g2⟩ := HF9.out.all
            by_cases hkq : k < q
            · have hkA : k < A.length := by rw [HQ.out]; exact hkq
              obtain ⟨b1, o1, rfl, hd1⟩ := (HRe.out.below HXk.out).at0 hkA
              obtain ⟨k4, hk4⟩ : ∃ k4 : Nat, k4 = 4 * k := ⟨_, rfl⟩
              have hk4n : k4 < n := by rw [hk4]; exact HQ4.out k hkq
              have hk4L : k4 < L.length := by rw [← HN.out]; exact hk4n
              have hk4i : 4 * (k : Int) = (k4 : Int) := by omega
              obtain ⟨b2, o2, rfl, hd2⟩ := (HBe.out.below HXk.out).at0 hk4L
              have hev := HEv.out k hkA
              rw [← hk4] at hev
              rw [hev] at hd1
              obtain ⟨x, hx⟩ : ∃ x, Tk.at0 L k4 = x := ⟨_, rfl⟩
              rw [hx] at hd1 hd2
              clear hx hev hk4 hkA hk4L
              go_wp2_with fail
              go_quiet (fail)
              go_wp2_with fail
              go_roundw
              case rel => exact ⟨k + 1, by omega, by go_num, HXk.out.trans (Ex.drewN _ _)⟩
              case measure => simp [intOf]; omega
            · obtain rfl : k = q := by omega
              go_wp2_with fail
              have hre := Ex.refl
              by_cases hn0 : n = 0
              · have tn : ((n : Int) == 0) = true := by simpa using hn0
                refine Rg.wp_rows [.inl (Value.slice p0 n c0), .inl (Value.int .i64 (n : Int)), .inl (.bool true), .inl (.bool true), .inl undef, .inl undef, .inl undef, .inl undef, .inl undef, .inl undef, .inl undef, .inl undef, .inl undef, .inl (Value.bool true), .inl (Value.bool true), .inl (.bool true), .inl (.bool true), .inl (.bool true)] (Ex wr) Ex 114 (by kernel_rfl) rfl (by kernel_rfl) ?st hre (Ex.drew _) ?goods ?fin
                case st => exact trivial
                case goods =>
                  refine Rg.goods_cons (Rg.good_move hre rfl rfl rfl) ?_
                  refine Rg.goods_cons (Rg.good_len hre rfl rfl (by rintro u w _ rfl; rfl)) ?_
                  refine Rg.goods_cons (Rg.good_bin hre rfl rfl rfl rfl (fun _ => rfl) (fun w => by go_simp)) ?_
                  refine Rg.goods_cons (Rg.good_move hre rfl rfl rfl) ?_
                  refine Rg.goods_cons (Rg.good_skip rfl) ?_
                  refine Rg.goods_cons (Rg.good_skip rfl) ?_
                  refine Rg.goods_cons (Rg.good_skip rfl) ?_
                  refine Rg.goods_cons (Rg.good_skip rfl) ?_
                  refine Rg.goods_cons (Rg.good_skip rfl) ?_
                  refine Rg.goods_cons (Rg.good_skip rfl) ?_
                  refine Rg.goods_cons (Rg.good_skip rfl) ?_
                  refine Rg.goods_cons (Rg.good_skip rfl) ?_
                  refine Rg.goods_cons (Rg.good_skip rfl) ?_
                  refine Rg.goods_cons (Rg.good_pick true hre rfl rfl rfl rfl) ?_
                  refine Rg.goods_cons (Rg.good_move hre rfl rfl rfl) ?_
                  refine Rg.goods_cons (Rg.good_call0 Try.func21 (by kernel_rfl) rfl rfl rfl (by intro wx hC; exact ex_row (known_any wx) hC)) ?_
                  refine Rg.goods_cons (Rg.good_pick true hre rfl rfl rfl rfl) ?_
                  refine Rg.goods_cons (Rg.good_assign hre rfl rfl rfl) ?_
                  exact Rg.goods_nil
                case fin =>
                  intro wy hxy
                  simp only [Rg.later, Act.put, List.setIfInBounds_toArray, List.set_cons_succ, List.set_cons_zero]
                  go_wp2_with fail
                  go_ret
                  exact ⟨rfl, HX9.out.trans hxy⟩
              · have tn : ((n : Int) == 0) = false := by simp; omega
                obtain ⟨n1, hn1⟩ : ∃ n1 : Nat, n1 = n - 1 := ⟨_, rfl⟩
                have hn1i : (n : Int) - 1 = (n1 : Int) := by omega
                have hn1n : n1 < n := by omega
                have hn1L : n1 < L.length := by rw [← HN.out]; exact hn1n
                obtain ⟨bb, off, rfl, _⟩ := (HBe.out.below HXk.out).at0 hn1L
                have HC9 : Hid (∀ wx, Ex wr wx → wx.cell? ⟨bb, off + n1, none⟩ = some (.int .i64 M)) := (fun wx hx => by
                  obtain ⟨_, _, e9, hc9⟩ := ((HBe.out.below HXk.out).below hx).at0 hn1L
                  simp only [Option.some.injEq, Addr.mk.injEq, and_true] at e9
                  obtain ⟨rfl, rfl⟩ := e9
                  rw [hc9, HM0.out, hn1] : ∀ wx, Ex wr wx → wx.cell? ⟨bb, off + n1, none⟩ = some (.int .i64 M))
                clear hn1 hn1L
                refine Rg.wp_rows [.inl (Value.slice (some ⟨bb, off, none⟩) n c0), .inl (Value.int .i64 (n : Int)), .inl (.bool false), .inl (.bool false), .inl (Value.pointer (some ⟨wb.heap.size, 1, none⟩)), .inl (Value.int .i64 M), .inl (Value.slice (some ⟨bb, off, none⟩) n c0), .inl (Value.slice (some ⟨bb, off, none⟩) n c0), .inl (Value.int .i64 (n : Int)), .inl (Value.int .i64 (n1 : Int)), .inl (Value.pointer (some ⟨bb, off + n1, none⟩)), .inl (Value.int .i64 M), .inl (.bool true), .inl (.bool true), .inl (.bool true), .inl (.bool true), .inl (.bool true), .inl (.bool true)] (Ex wr) Ex 114 (by kernel_rfl) rfl (by kernel_rfl) ?st hre (Ex.drew _) ?goods ?fin
                case st => exact trivial
                case goods =>
                  refine Rg.goods_cons (Rg.good_move hre rfl rfl rfl) ?_
                  refine Rg.goods_cons (Rg.good_len hre rfl rfl (by rintro u w _ rfl; rfl)) ?_
                  refine Rg.goods_cons (Rg.good_bin hre rfl rfl rfl rfl (fun _ => rfl) (fun w => by go_simp)) ?_
                  refine Rg.goods_cons (Rg.good_move hre rfl rfl rfl) ?_
                  refine Rg.goods_cons (Rg.good_field hre rfl rfl rfl (fun wx hC => by go_simp)) ?_
                  refine Rg.goods_cons (Rg.good_load hre rfl rfl rfl (fun wx hC => by have hcz := (HF9.out.below hC).all; obtain ⟨c0, c1, c2⟩ := hcz; go_simp)) ?_
                  refine Rg.goods_cons (Rg.good_move hre rfl rfl rfl) ?_
                  refine Rg.goods_cons (Rg.good_move hre rfl rfl rfl) ?_
                  refine Rg.goods_cons (Rg.good_len hre rfl rfl (by rintro u w _ rfl; rfl)) ?_
                  refine Rg.goods_cons (Rg.good_bin hre rfl rfl rfl rfl (fun _ => rfl) (fun w => by go_simp; rw [IntKind.wrap_i64]; omega)) ?_
                  refine Rg.goods_cons (Rg.good_index hre rfl rfl rfl rfl (fun wx hC => by go_simp)) ?_
                  refine Rg.goods_cons (Rg.good_load hre rfl rfl rfl (fun wx hC => by have hcz := HC9.out wx hC; go_simp)) ?_
                  refine Rg.goods_cons (Rg.good_bin hre rfl rfl rfl rfl (fun _ => rfl) (fun w => by go_simp)) ?_
                  refine Rg.goods_cons (Rg.good_pick false hre rfl rfl rfl rfl) ?_
                  refine Rg.goods_cons (Rg.good_move hre rfl rfl rfl) ?_
                  refine Rg.goods_cons (Rg.good_call0 Try.func21 (by kernel_rfl) rfl rfl rfl (by intro wx hC; exact ex_row (known_any wx) hC)) ?_
                  refine Rg.goods_cons (Rg.good_pick true hre rfl rfl rfl rfl) ?_
                  refine Rg.goods_cons (Rg.good_assign hre rfl rfl rfl) ?_
                  exact Rg.goods_nil
                case fin =>
                  intro wy hxy
                  simp only [Rg.later, Act.put, List.setIfInBounds_toArray, List.set_cons_succ, List.set_cons_zero]
                  go_wp2_with fail
                  go_ret
                  exact ⟨rfl, HX9.out.trans hxy⟩
    · have hbuild : Tk.build L = (Tk.zero, 12) := by unfold Tk.build; rw [if_neg (fun h => hR h.2)]
      have HBu : Hid (Tk.build L = (Tk.zero, 12)) := hbuild
      have HRs : Hid (¬ Tk.Rise L) := hR
      clear hbuild hR
      refine (t_build p0 n c0 L _ HN.out HB.out HOk.out (by rw [← HN.out]; omega) Tk.zero 12 HBu.out).mono ?_
      rintro e wb ⟨p2, c2, rfl, hr2, hx2⟩
      have hcl2 := hr2.1
      have hcm2 := hr2.2.1
      unfold maxLen at hcm2
      simp only [xv, Tk.zero, List.length_nil, show ((12 : Nat) : Int) = 12 from rfl]
      obtain ⟨wc, hwc⟩ : ∃ wc, wb.alloc (Obj.cells #[Value.int IntKind.i64 0, Value.int IntKind.i64 0, Value.slice p2 0 c2] 24) = wc := ⟨_, rfl⟩
      have hxc : Ex wb wc := by rw [← hwc]; exact (Below.refl _ _).alloc (Nat.le_refl _) _
      have HFc : Hid (XAt wc wb.heap.size 0 0 (.slice p2 0 c2) 24) := (by rw [← hwc]; exact XAt.new wb 0 0 _ 24 : XAt wc wb.heap.size 0 0 (.slice p2 0 c2) 24)
      have HBc : Hid (Rd z64 wc p0 c0 L) := HB.out.below (hx2.trans hxc)
      have HXc : Hid (Ex w wc) := hx2.trans hxc
      clear hr2 hx2 hxc
      go_wp2_with fail
      go_loopw [5, 6] (fun b i wr => ∃ (j : Nat) (t : Bool), 1 ≤ j ∧ (j ≤ n ∨ j = 1) ∧ b = .bool t ∧ i = .int .i64 j ∧ Hid (t = true ↔ Tk.Rise (L.take j)) ∧ Hid (Ex wc wr)) (fun _ i _ => n - (intOf i).toNat)
      case atStart =>
        have h1 : true = true ↔ Tk.Rise (L.take 1) := ⟨fun _ j hj => by rw [List.length_take] at hj; omega, fun _ => rfl⟩
        exact ⟨1, true, by omega, by omega, rfl, rfl, h1, Ex.refl _⟩
      case round =>
        obtain ⟨j, t, hj1, hj, rfl, rfl, HT, HXr⟩ := hrel
        have HJ : Hid (j ≤ n ∨ j = 1) := hj
        clear hj
        by_cases hlt : j < n
        · have hltL : j < L.length := by rw [← HN.out]; exact hlt
          have tj : decide ((j : Int) < (n : Int)) = true := by simp; omega
          have hnx := Tk.rise_next (l := L) hltL
          cases t with
          | false =>
            have HT2 : Hid (false = true ↔ Tk.Rise (L.take (j + 1))) := (⟨fun h => (by cases h), fun h => HT.out.2 (hnx.1 h).1⟩ : false = true ↔ Tk.Rise (L.take (j + 1)))
            clear hnx hltL
            go_wp2_with fail
            go_quiet (fail)
            go_wp2_with fail
            go_roundw
            case rel => exact ⟨j + 1, false, by omega, by omega, rfl, by go_num, HT2, HXr.out.trans (Ex.drewN _ _)⟩
            case measure => simp [intOf]; omega
          | true =>
            obtain ⟨bb, off, rfl, hc1⟩ := (HBc.out.below HXr.out).at0 hltL
            obtain ⟨j1, hj1'⟩ : ∃ j1 : Nat, j1 = j - 1 := ⟨_, rfl⟩
            have hj1i : (j : Int) - 1 = (j1 : Int) := by omega
            have hj1n : j1 < n := by omega
            have hj1l : j1 < L.length := by omega
            obtain ⟨_, _, e2, hc2⟩ := (HBc.out.below HXr.out).at0 hj1l
            simp only [Option.some.injEq, Addr.mk.injEq, and_true] at e2
            obtain ⟨rfl, rfl⟩ := e2
            rw [← hj1'] at hnx
            obtain ⟨x, hx⟩ : ∃ x, Tk.at0 L j = x := ⟨_, rfl⟩
            obtain ⟨y, hy⟩ : ∃ y, Tk.at0 L j1 = y := ⟨_, rfl⟩
            rw [hx] at hc1 hnx
            rw [hy] at hc2 hnx
            have HNx : Hid (Tk.Rise (L.take (j + 1)) ↔ Tk.Rise (L.take j) ∧ (0 < j → y ≤ x)) := hnx
            clear hx hy hj1' hltL hj1l hnx
            by_cases hle : y ≤ x
            · have t1 : decide (y ≤ x) = true := decide_eq_true hle
              have HT2 : Hid (Tk.Rise (L.take (j + 1))) := HNx.out.2 ⟨HT.out.1 rfl, fun _ => hle⟩
              go_wp2_with fail
              go_quiet (fail)
              go_wp2_with fail
              go_roundw
              case rel =>
                have h : true = true ↔ Tk.Rise (L.take (j + 1)) := ⟨fun _ => HT2.out, fun _ => rfl⟩
                exact ⟨j + 1, true, by omega, by omega, rfl, by go_num, h, HXr.out.trans (Ex.drewN _ _)⟩
              case measure => simp [intOf]; omega
            · have t1 : decide (y ≤ x) = false := decide_eq_false hle
              have HT2 : Hid (false = true ↔ Tk.Rise (L.take (j + 1))) := (⟨fun h => (by cases h), fun h => absurd ((HNx.out.1 h).2 (by omega)) hle⟩ : false = true ↔ Tk.Rise (L.take (j + 1)))
              go_wp2_with fail
              go_quiet (fail)
              go_wp2_with fail
              go_roundw
              case rel => exact ⟨j + 1, false, by omega, by omega, rfl, by go_num, HT2, HXr.out.trans (Ex.drewN _ _)⟩
              case measure => simp [intOf]; omega
        · have tj : decide ((j : Int) < (n : Int)) = false := by simp; omega
          have tjn : decide (j < n) = false := by simp; omega
          have htf : t = false := by
            cases t with
            | false => rfl
            | true =>
              have h := HT.out.1 rfl
              rw [List.take_of_length_le (by rw [← HN.out]; omega)] at h
              exact absurd h HRs.out
          subst htf
          obtain ⟨g0, g1, g2⟩ := (HFc.out.below HXr.out).all
          go_wp2_with fail
          refine (known_any _).mono ?_
          rintro e we ⟨rfl, hxe⟩
          go_wp2_with fail
          go_ret
          exact ⟨rfl, (HXc.out.trans HXr.out).trans hxe⟩
  · obtain ⟨L, hL⟩ : ∃ L, L = l0 := ⟨_, rfl⟩
    obtain ⟨n, hn⟩ : ∃ n, n = l0.length := ⟨_, rfl⟩
    have HB : Hid (Rd z64 w p0 c0 L) := (by rw [hL]; exact b0 : Rd z64 w p0 c0 L)
    have HOk : Hid (∀ x ∈ L, D.ok x) := (fun x hx => m0 x (by rw [hL] at hx; exact hx) : ∀ x ∈ L, D.ok x)
    have HN : Hid (n = L.length) := (by rw [hL]; exact hn : n = L.length)
    have hn60 : n ≤ 60 := by omega
    have hnc : n ≤ c0 := by omega
    have t0 : decide ((60 : Int) < (n : Int)) = false := by simp; omega
    have t0n : decide (60 < n) = false := by simp; omega
    rw [← hn]
    clear b0 m0 hL hn hlong hcl w0
    go_enter Try.func8, Try.ntmps8
    go_wp2_with fail
    by_cases hR : Tk.Rise L
    · have hbuild := Tk.build_ix (show L.length ≤ 1048576 by rw [← HN.out]; omega) hR
      have hright := Tk.right_ix (show L.length ≤ 1048576 by rw [← HN.out]; omega) hR
      have hevl := Tk.evs_len L
      have hev : ∀ i, i < (Tk.evs L).length → Tk.at0 (Tk.evs L) i = Tk.at0 L (4 * i) := fun i hi => Tk.evs_at (by rw [hevl] at hi; exact hi)
      have hAok : ∀ x ∈ Tk.evs L, D.ok x := fun x hx => HOk.out x (Tk.evs_mem hx)
      have hMok : D.ok (Tk.lst L) := Tk.lst_ok HOk.out
      have hM0 : Tk.lst L = Tk.at0 L (n - 1) := by rw [HN.out]; rfl
      have hix : Tk.ix L = ⟨n, Tk.lst L, Tk.evs L⟩ := by unfold Tk.ix; rw [HN.out]
      rw [hix] at hbuild hright
      rw [← HN.out] at hevl
      obtain ⟨M, hM⟩ : ∃ M, Tk.lst L = M := ⟨_, rfl⟩
      obtain ⟨A, hA⟩ : ∃ A, Tk.evs L = A := ⟨_, rfl⟩
      rw [hM] at hbuild hright hMok hM0
      rw [hA] at hbuild hright hevl hev hAok
      have HBu : Hid (Tk.build L = (⟨n, M, A⟩, 0)) := hbuild
      have HRt : Hid (Tk.right ⟨n, M, A⟩ = true) := hright
      have HEv : Hid (∀ i, i < A.length → Tk.at0 A i = Tk.at0 L (4 * i)) := hev
      have HAok : Hid (∀ x ∈ A, D.ok x) := hAok
      have HMok : Hid (D.ok M) := hMok
      have HM0 : Hid (M = Tk.at0 L (n - 1)) := hM0
      have HRs : Hid (Tk.Rise L) := hR
      obtain ⟨q, hq⟩ : ∃ q, A.length = q := ⟨_, rfl⟩
      have hq1 : ((n : Int) + 3) / 4 = (q : Int) := by omega
      have hq2 : ((n : Int) + 3).tdiv 4 = (q : Int) := by rw [Int.tdiv_eq_ediv_of_nonneg (by omega)]; exact hq1
      have hq3 : q ≤ 15 := by omega
      have hq4 : ∀ i, i < q → 4 * i < n := fun i hi => by omega
      have HQ4 : Hid (∀ i, i < q → 4 * i < n) := hq4
      have HQ : Hid (A.length = q) := hq
      have HNok : Hid (D.ok (n : Int)) := (⟨by omega, by omega⟩ : D.ok (n : Int))
      clear hbuild hright hev hAok hMok hM0 hR hM hA hix hq hq4 hevl
      refine (t_build p0 n c0 L _ HN.out HB.out HOk.out (by rw [← HN.out]; omega) ⟨n, M, A⟩ 0 HBu.out).mono ?_
      rintro e wb ⟨p2, c2, rfl, hr2, hx2⟩
      have hcl2 := hr2.1
      have hcm2 := hr2.2.1
      unfold maxLen at hcm2
      simp only at hr2 hcl2
      simp only [xv]
      rw [HQ.out]
      rw [HQ.out] at hcl2
      obtain ⟨wc, hwc⟩ : ∃ wc, wb.alloc (Obj.cells #[Value.int IntKind.i64 n, Value.int IntKind.i64 M, Value.slice p2 q c2] 24) = wc := ⟨_, rfl⟩
      have hxc : Ex wb wc := by rw [← hwc]; exact (Below.refl _ _).alloc (Nat.le_refl _) _
      have HFc : Hid (XAt wc wb.heap.size n M (.slice p2 q c2) 24) := (by rw [← hwc]; exact XAt.new wb n M _ 24 : XAt wc wb.heap.size n M (.slice p2 q c2) 24)
      have HRc : Hid (Rd z64 wc p2 c2 A) := hr2.below hxc
      have HBc : Hid (Rd z64 wc p0 c0 L) := HB.out.below (hx2.trans hxc)
      have HXc : Hid (Ex w wc) := hx2.trans hxc
      obtain ⟨g0, g1, g2⟩ := HFc.out.all
      clear hr2 hx2 hxc
      go_wp2_with fail
      go_loopw [5, 6] (fun b i wr => ∃ j : Nat, 1 ≤ j ∧ (j ≤ n ∨ j = 1) ∧ b = .bool true ∧ i = .int .i64 j ∧ Hid (Ex wc wr)) (fun _ i _ => n - (intOf i).toNat)
      case atStart => exact ⟨1, by omega, by omega, rfl, rfl, Ex.refl _⟩
      case round =>
        obtain ⟨j, hj1, hj, rfl, rfl, HXr⟩ := hrel
        have HJ : Hid (j ≤ n ∨ j = 1) := hj
        clear hj
        by_cases hlt : j < n
        · have hltL : j < L.length := by rw [← HN.out]; exact hlt
          obtain ⟨bb, off, rfl, hc1⟩ := (HBc.out.below HXr.out).at0 hltL
          obtain ⟨j1, hj1'⟩ : ∃ j1 : Nat, j1 = j - 1 := ⟨_, rfl⟩
          have hj1i : (j : Int) - 1 = (j1 : Int) := by omega
          have hj1n : j1 < n := by omega
          have hj1l : j1 < L.length := by omega
          obtain ⟨_, _, e2, hc2⟩ := (HBc.out.below HXr.out).at0 hj1l
          simp only [Option.some.injEq, Addr.mk.injEq, and_true] at e2
          obtain ⟨rfl, rfl⟩ := e2
          have hle := HRs.out.le (i := j1) (j := j) (by omega) hltL
          obtain ⟨x, hx⟩ : ∃ x, Tk.at0 L j = x := ⟨_, rfl⟩
          obtain ⟨y, hy⟩ : ∃ y, Tk.at0 L j1 = y := ⟨_, rfl⟩
          rw [hx] at hc1 hle
          rw [hy] at hc2 hle
          have t1 : decide (y ≤ x) = true := decide_eq_true hle
          have tj : decide ((j : Int) < (n : Int)) = true := by simp; omega
          clear hx hy hj1' hltL hj1l
          go_wp2_with fail
          go_quiet (fail)
          go_wp2_with fail
          go_roundw
          case rel => exact ⟨j + 1, by omega, by omega, rfl, by go_num, HXr.out.trans (Ex.drewN _ _)⟩
          case measure => simp [intOf]; omega
        · have tj : decide ((j : Int) < (n : Int)) = false := by simp; omega
          have tjn : decide (j < n) = false := by simp; omega
          have HFr : Hid (XAt wr wb.heap.size n M (.slice p2 q c2) 24) := HFc.out.below HXr.out
          have HRr : Hid (Rd z64 wr p2 c2 A) := HRc.out.below HXr.out
          have HBr : Hid (Rd z64 wr p0 c0 L) := HBc.out.below HXr.out
          have HXw : Hid (Ex w wr) := HXc.out.trans HXr.out
          clear g0 g1 g2
          obtain ⟨g0, g1, g2⟩ := HFr.out.all
          go_wp2_with fail
          refine (t_right n M _ q c2 A _ HQ.out.symm HRr.out HAok.out (by rw [HQ.out]; omega) HNok.out HMok.out true HRt.out).mono ?_
          rintro e we ⟨rfl, hxe⟩
          have HFe : Hid (XAt we wb.heap.size n M (.slice p2 q c2) 24) := HFr.out.below hxe
          have HRe : Hid (Rd z64 we p2 c2 A) := HRr.out.below hxe
          have HBe : Hid (Rd z64 we p0 c0 L) := HBr.out.below hxe
          have HXe : Hid (Ex w we) := HXw.out.trans hxe
          clear g0 g1 g2 hxe
          obtain ⟨g0, g1, g2⟩ := HFe.out.all
          go_wp2_with fail
          go_loopw [7] (fun i wr => ∃ k : Nat, k ≤ q ∧ i = .int .i64 k ∧ Hid (Ex we wr)) (fun i _ => q - (intOf i).toNat)
          case atStart => exact ⟨0, by omega, rfl, Ex.refl _⟩
          case round =>
            obtain ⟨k, hk, rfl, HXk⟩ := hrel
            have HF9 : Hid (XAt wr wb.heap.size n M (.slice p2 q c2) 24) := HFe.out.below HXk.out
            have HX9 : Hid (Ex w wr) := HXe.out.trans HXk.out
            clear g0 g1 g2
            obtain ⟨g0, g1, g2⟩ := HF9.out.all
            by_cases hkq : k < q
            · have hkA : k < A.length := by rw [HQ.out]; exact hkq
              obtain ⟨b1, o1, rfl, hd1⟩ := (HRe.out.below HXk.out).at0 hkA
              obtain ⟨k4, hk4⟩ : ∃ k4 : Nat, k4 = 4 * k := ⟨_, rfl⟩
              have hk4n : k4 < n := by rw [hk4]; exact HQ4.out k hkq
              have hk4L : k4 < L.length := by rw [← HN.out]; exact hk4n
              have hk4i : 4 * (k : Int) = (k4 : Int) := by omega
              obtain ⟨b2, o2, rfl, hd2⟩ := (HBe.out.below HXk.out).at0 hk4L
              have hev := HEv.out k hkA
              rw [← hk4] at hev
              rw [hev] at hd1
              obtain ⟨x, hx⟩ : ∃ x, Tk.at0 L k4 = x := ⟨_, rfl⟩
              rw [hx] at hd1 hd2
              clear hx hev hk4 hkA hk4L
              go_wp2_with fail
              go_quiet (fail)
              go_wp2_with fail
              go_roundw
              case rel => exact ⟨k + 1, by omega, by go_num, HXk.out.trans (Ex.drewN _ _)⟩
              case measure => simp [intOf]; omega
            · obtain rfl : k = q := by omega
              go_wp2_with fail
              have hre := Ex.refl
              by_cases hn0 : n = 0
              · have tn : ((n : Int) == 0) = true := by simpa using hn0
                refine Rg.wp_rows [.inl (Value.slice p0 n c0), .inl (Value.int .i64 (n : Int)), .inl (.bool true), .inl (.bool true), .inl undef, .inl undef, .inl undef, .inl undef, .inl undef, .inl undef, .inl undef, .inl undef, .inl undef, .inl (Value.bool true), .inl (Value.bool true), .inl (.bool true), .inl (.bool true), .inl (.bool true)] (Ex wr) Ex 114 (by kernel_rfl) rfl (by kernel_rfl) ?st hre (Ex.drew _) ?goods ?fin
                case st => exact trivial
                case goods =>
                  refine Rg.goods_cons (Rg.good_move hre rfl rfl rfl) ?_
                  refine Rg.goods_cons (Rg.good_len hre rfl rfl (by rintro u w _ rfl; rfl)) ?_
                  refine Rg.goods_cons (Rg.good_bin hre rfl rfl rfl rfl (fun _ => rfl) (fun w => by go_simp)) ?_
                  refine Rg.goods_cons (Rg.good_move hre rfl rfl rfl) ?_
                  refine Rg.goods_cons (Rg.good_skip rfl) ?_
                  refine Rg.goods_cons (Rg.good_skip rfl) ?_
                  refine Rg.goods_cons (Rg.good_skip rfl) ?_
                  refine Rg.goods_cons (Rg.good_skip rfl) ?_
                  refine Rg.goods_cons (Rg.good_skip rfl) ?_
                  refine Rg.goods_cons (Rg.good_skip rfl) ?_
                  refine Rg.goods_cons (Rg.good_skip rfl) ?_
                  refine Rg.goods_cons (Rg.good_skip rfl) ?_
                  refine Rg.goods_cons (Rg.good_skip rfl) ?_
                  refine Rg.goods_cons (Rg.good_pick true hre rfl rfl rfl rfl) ?_
                  refine Rg.goods_cons (Rg.good_move hre rfl rfl rfl) ?_
                  refine Rg.goods_cons (Rg.good_call0 Try.func21 (by kernel_rfl) rfl rfl rfl (by intro wx hC; exact ex_row (known_any wx) hC)) ?_
                  refine Rg.goods_cons (Rg.good_pick true hre rfl rfl rfl rfl) ?_
                  refine Rg.goods_cons (Rg.good_assign hre rfl rfl rfl) ?_
                  exact Rg.goods_nil
                case fin =>
                  intro wy hxy
                  simp only [Rg.later, Act.put, List.setIfInBounds_toArray, List.set_cons_succ, List.set_cons_zero]
                  go_wp2_with fail
                  go_ret
                  exact ⟨rfl, HX9.out.trans hxy⟩
              · have tn : ((n : Int) == 0) = false := by simp; omega
                obtain ⟨n1, hn1⟩ : ∃ n1 : Nat, n1 = n - 1 := ⟨_, rfl⟩
                have hn1i : (n : Int) - 1 = (n1 : Int) := by omega
                have hn1n : n1 < n := by omega
                have hn1L : n1 < L.length := by rw [← HN.out]; exact hn1n
                obtain ⟨bb, off, rfl, _⟩ := (HBe.out.below HXk.out).at0 hn1L
                have HC9 : Hid (∀ wx, Ex wr wx → wx.cell? ⟨bb, off + n1, none⟩ = some (.int .i64 M)) := (fun wx hx => by
                  obtain ⟨_, _, e9, hc9⟩ := ((HBe.out.below HXk.out).below hx).at0 hn1L
                  simp only [Option.some.injEq, Addr.mk.injEq, and_true] at e9
                  obtain ⟨rfl, rfl⟩ := e9
                  rw [hc9, HM0.out, hn1] : ∀ wx, Ex wr wx → wx.cell? ⟨bb, off + n1, none⟩ = some (.int .i64 M))
                clear hn1 hn1L
                refine Rg.wp_rows [.inl (Value.slice (some ⟨bb, off, none⟩) n c0), .inl (Value.int .i64 (n : Int)), .inl (.bool false), .inl (.bool false), .inl (Value.pointer (some ⟨wb.heap.size, 1, none⟩)), .inl (Value.int .i64 M), .inl (Value.slice (some ⟨bb, off, none⟩) n c0), .inl (Value.slice (some ⟨bb, off, none⟩) n c0), .inl (Value.int .i64 (n : Int)), .inl (Value.int .i64 (n1 : Int)), .inl (Value.pointer (some ⟨bb, off + n1, none⟩)), .inl (Value.int .i64 M), .inl (.bool true), .inl (.bool true), .inl (.bool true), .inl (.bool true), .inl (.bool true), .inl (.bool true)] (Ex wr) Ex 114 (by kernel_rfl) rfl (by kernel_rfl) ?st hre (Ex.drew _) ?goods ?fin
                case st => exact trivial
                case goods =>
                  refine Rg.goods_cons (Rg.good_move hre rfl rfl rfl) ?_
                  refine Rg.goods_cons (Rg.good_len hre rfl rfl (by rintro u w _ rfl; rfl)) ?_
                  refine Rg.goods_cons (Rg.good_bin hre rfl rfl rfl rfl (fun _ => rfl) (fun w => by go_simp)) ?_
                  refine Rg.goods_cons (Rg.good_move hre rfl rfl rfl) ?_
                  refine Rg.goods_cons (Rg.good_field hre rfl rfl rfl (fun wx hC => by go_simp)) ?_
                  refine Rg.goods_cons (Rg.good_load hre rfl rfl rfl (fun wx hC => by have hcz := (HF9.out.below hC).all; obtain ⟨c0, c1, c2⟩ := hcz; go_simp)) ?_
                  refine Rg.goods_cons (Rg.good_move hre rfl rfl rfl) ?_
                  refine Rg.goods_cons (Rg.good_move hre rfl rfl rfl) ?_
                  refine Rg.goods_cons (Rg.good_len hre rfl rfl (by rintro u w _ rfl; rfl)) ?_
                  refine Rg.goods_cons (Rg.good_bin hre rfl rfl rfl rfl (fun _ => rfl) (fun w => by go_simp; rw [IntKind.wrap_i64]; omega)) ?_
                  refine Rg.goods_cons (Rg.good_index hre rfl rfl rfl rfl (fun wx hC => by go_simp)) ?_
                  refine Rg.goods_cons (Rg.good_load hre rfl rfl rfl (fun wx hC => by have hcz := HC9.out wx hC; go_simp)) ?_
                  refine Rg.goods_cons (Rg.good_bin hre rfl rfl rfl rfl (fun _ => rfl) (fun w => by go_simp)) ?_
                  refine Rg.goods_cons (Rg.good_pick false hre rfl rfl rfl rfl) ?_
                  refine Rg.goods_cons (Rg.good_move hre rfl rfl rfl) ?_
                  refine Rg.goods_cons (Rg.good_call0 Try.func21 (by kernel_rfl) rfl rfl rfl (by intro wx hC; exact ex_row (known_any wx) hC)) ?_
                  refine Rg.goods_cons (Rg.good_pick true hre rfl rfl rfl rfl) ?_
                  refine Rg.goods_cons (Rg.good_assign hre rfl rfl rfl) ?_
                  exact Rg.goods_nil
                case fin =>
                  intro wy hxy
                  simp only [Rg.later, Act.put, List.setIfInBounds_toArray, List.set_cons_succ, List.set_cons_zero]
                  go_wp2_with fail
                  go_ret
                  exact ⟨rfl, HX9.out.trans hxy⟩
    · have hbuild : Tk.build L = (Tk.zero, 12) := by unfold Tk.build; rw [if_neg (fun h => hR h.2)]
      have HBu : Hid (Tk.build L = (Tk.zero, 12)) := hbuild
      have HRs : Hid (¬ Tk.Rise L) := hR
      clear hbuild hR
      refine (t_build p0 n c0 L _ HN.out HB.out HOk.out (by rw [← HN.out]; omega) Tk.zero 12 HBu.out).mono ?_
      rintro e wb ⟨p2, c2, rfl, hr2, hx2⟩
      have hcl2 := hr2.1
      have hcm2 := hr2.2.1
      unfold maxLen at hcm2
      simp only [xv, Tk.zero, List.length_nil, show ((12 : Nat) : Int) = 12 from rfl]
      obtain ⟨wc, hwc⟩ : ∃ wc, wb.alloc (Obj.cells #[Value.int IntKind.i64 0, Value.int IntKind.i64 0, Value.slice p2 0 c2] 24) = wc := ⟨_, rfl⟩
      have hxc : Ex wb wc := by rw [← hwc]; exact (Below.refl _ _).alloc (Nat.le_refl _) _
      have HFc : Hid (XAt wc wb.heap.size 0 0 (.slice p2 0 c2) 24) := (by rw [← hwc]; exact XAt.new wb 0 0 _ 24 : XAt wc wb.heap.size 0 0 (.slice p2 0 c2) 24)
      have HBc : Hid (Rd z64 wc p0 c0 L) := HB.out.below (hx2.trans hxc)
      have HXc : Hid (Ex w wc) := hx2.trans hxc
      clear hr2 hx2 hxc
      go_wp2_with fail
      go_loopw [5, 6] (fun b i wr => ∃ (j : Nat) (t : Bool), 1 ≤ j ∧ (j ≤ n ∨ j = 1) ∧ b = .bool t ∧ i = .int .i64 j ∧ Hid (t = true ↔ Tk.Rise (L.take j)) ∧ Hid (Ex wc wr)) (fun _ i _ => n - (intOf i).toNat)
      case atStart =>
        have h1 : true = true ↔ Tk.Rise (L.take 1) := ⟨fun _ j hj => by rw [List.length_take] at hj; omega, fun _ => rfl⟩
        exact ⟨1, true, by omega, by omega, rfl, rfl, h1, Ex.refl _⟩
      case round =>
        obtain ⟨j, t, hj1, hj, rfl, rfl, HT, HXr⟩ := hrel
        have HJ : Hid (j ≤ n ∨ j = 1) := hj
        clear hj
        by_cases hlt : j < n
        · have hltL : j < L.length := by rw [← HN.out]; exact hlt
          have tj : decide ((j : Int) < (n : Int)) = true := by simp; omega
          have hnx := Tk.rise_next (l := L) hltL
          cases t with
          | false =>
            have HT2 : Hid (false = true ↔ Tk.Rise (L.take (j + 1))) := (⟨fun h => (by cases h), fun h => HT.out.2 (hnx.1 h).1⟩ : false = true ↔ Tk.Rise (L.take (j + 1)))
            clear hnx hltL
            go_wp2_with fail
            go_quiet (fail)
            go_wp2_with fail
            go_roundw
            case rel => exact ⟨j + 1, false, by omega, by omega, rfl, by go_num, HT2, HXr.out.trans (Ex.drewN _ _)⟩
            case measure => simp [intOf]; omega
          | true =>
            obtain ⟨bb, off, rfl, hc1⟩ := (HBc.out.below HXr.out).at0 hltL
            obtain ⟨j1, hj1'⟩ : ∃ j1 : Nat, j1 = j - 1 := ⟨_, rfl⟩
            have hj1i : (j : Int) - 1 = (j1 : Int) := by omega
            have hj1n : j1 < n := by omega
            have hj1l : j1 < L.length := by omega
            obtain ⟨_, _, e2, hc2⟩ := (HBc.out.below HXr.out).at0 hj1l
            simp only [Option.some.injEq, Addr.mk.injEq, and_true] at e2
            obtain ⟨rfl, rfl⟩ := e2
            rw [← hj1'] at hnx
            obtain ⟨x, hx⟩ : ∃ x, Tk.at0 L j = x := ⟨_, rfl⟩
            obtain ⟨y, hy⟩ : ∃ y, Tk.at0 L j1 = y := ⟨_, rfl⟩
            rw [hx] at hc1 hnx
            rw [hy] at hc2 hnx
            have HNx : Hid (Tk.Rise (L.take (j + 1)) ↔ Tk.Rise (L.take j) ∧ (0 < j → y ≤ x)) := hnx
            clear hx hy hj1' hltL hj1l hnx
            by_cases hle : y ≤ x
            · have t1 : decide (y ≤ x) = true := decide_eq_true hle
              have HT2 : Hid (Tk.Rise (L.take (j + 1))) := HNx.out.2 ⟨HT.out.1 rfl, fun _ => hle⟩
              go_wp2_with fail
              go_quiet (fail)
              go_wp2_with fail
              go_roundw
              case rel =>
                have h : true = true ↔ Tk.Rise (L.take (j + 1)) := ⟨fun _ => HT2.out, fun _ => rfl⟩
                exact ⟨j + 1, true, by omega, by omega, rfl, by go_num, h, HXr.out.trans (Ex.drewN _ _)⟩
              case measure => simp [intOf]; omega
            · have t1 : decide (y ≤ x) = false := decide_eq_false hle
              have HT2 : Hid (false = true ↔ Tk.Rise (L.take (j + 1))) := (⟨fun h => (by cases h), fun h => absurd ((HNx.out.1 h).2 (by omega)) hle⟩ : false = true ↔ Tk.Rise (L.take (j + 1)))
              go_wp2_with fail
              go_quiet (fail)
              go_wp2_with fail
              go_roundw
              case rel => exact ⟨j + 1, false, by omega, by omega, rfl, by go_num, HT2, HXr.out.trans (Ex.drewN _ _)⟩
              case measure => simp [intOf]; omega
        · have tj : decide ((j : Int) < (n : Int)) = false := by simp; omega
          have tjn : decide (j < n) = false := by simp; omega
          have htf : t = false := by
            cases t with
            | false => rfl
            | true =>
              have h := HT.out.1 rfl
              rw [List.take_of_length_le (by rw [← HN.out]; omega)] at h
              exact absurd h HRs.out
          subst htf
          obtain ⟨g0, g1, g2⟩ := (HFc.out.below HXr.out).all
          go_wp2_with fail
          refine (known_any _).mono ?_
          rintro e we ⟨rfl, hxe⟩
          go_wp2_with fail
          go_ret
          exact ⟨rfl, (HXc.out.trans HXr.out).trans hxe⟩
end ticksBuild
end Go.Proofs.Ytaehchaimlklnaa
