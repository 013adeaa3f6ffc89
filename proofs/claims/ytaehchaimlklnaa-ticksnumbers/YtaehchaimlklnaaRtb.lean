/-
  The document's own Build (layer 10), over the program.
-/
import Derived.Test.YtaehchaimlklnaaPush
import Derived.Test.YtaehchaimlklnaaRtr
import Derived.Test.YtaehchaimlklnaaRdec
namespace Go.Proofs.Ytaehchaimlklnaa
open Go.RowKit
set_option linter.unusedVariables false
set_option linter.unusedSimpArgs false
theorem ownI_nil (w : World) (base : Nat) : OwnI w base (.slice none 0 0) [] := ⟨by simp, .inl ⟨rfl, rfl⟩⟩
set_option maxRecDepth 100000 in
set_option maxHeartbeats 8000000 in
theorem rtb_is (a : Option Addr) (n cap : Nat) (l : List Int) (w : World) (hn : n = l.length) (hB : Rd z64 w a cap l) (X : Tk.Ix) (c : Nat) (hx : Tk.build l = (X, c)) :
    Calls Try.prog 10 #[.slice a n cap] w fun e w' => ∃ v, e = .returned (.tuple #[xv X.r X.m v, .int .i64 c]) ∧ OwnI w' w.heap.size v X.a ∧ Ex w w' := by
  subst hn
  have hcl := hB.1
  have hcm := hB.2.1
  unfold maxLen at hcm
  have HB : Hid (Rd z64 w a cap l) := hB
  have hxa : Ex w (w.alloc (xb 0 0 (.slice none 0 0) 28)) := (Below.refl _ _).alloc (Nat.le_refl _) _
  have hF := XAt.new w 0 0 (.slice none 0 0) 28
  obtain ⟨wa, hwa⟩ : ∃ wa, w.alloc (Obj.cells #[Value.int IntKind.i64 0, Value.int IntKind.i64 0, Value.slice none 0 0] 28) = wa := ⟨_, rfl⟩
  have HXa : Hid (Ex w wa) := (by rw [← hwa]; exact hxa : Ex w wa)
  have HF : Hid (XAt wa w.heap.size 0 0 (.slice none 0 0) 28) := (by rw [← hwa]; exact hF : XAt wa w.heap.size 0 0 (.slice none 0 0) 28)
  have hsa : wa.heap.size = w.heap.size + 1 := by rw [← hwa]; simp
  obtain ⟨f0, f1, f2⟩ := HF.out.all
  obtain ⟨z0, z1, z2⟩ := HF.out.fro
  unfold Tk.build at hx
  clear hB hxa hF
  by_cases c1 : 1048576 < l.length
  · rw [if_neg (by omega)] at hx
    simp only [Prod.mk.injEq] at hx
    obtain ⟨rfl, rfl⟩ := hx
    have t1 : decide (1048576 < l.length) = true := decide_eq_true c1
    have t2 : decide ((1048576 : Int) < (l.length : Int)) = true := by simp; omega
    go_enter Try.func10, Try.ntmps10
    go_wp2_with fail
    refine bodyPost_ret (res_ix2 (g := w.heap.size) (r := 0) (m := 0) (a := none) (n := 0) (cap := 0) (.inr rfl) rfl rfl rfl (HF.out.put3 0 0 (.slice none 0 0))) rfl ⟨_, rfl, ownI_nil _ _, Below.xset HXa.out (Nat.le_refl _) _ _ _⟩
  · have t1 : decide (1048576 < l.length) = false := decide_eq_false c1
    have t2 : decide ((1048576 : Int) < (l.length : Int)) = false := by simp; omega
    have HXx : Hid ((if l.length ≤ 1048576 ∧ Tk.Rise l then (Tk.ix l, 0) else (Tk.zero, 12)) = (X, c)) := hx
    have HX4 : Hid (XAt (wa.alloc (Obj.cells #[Value.int IntKind.i64 l.length, Value.int IntKind.i64 0, Value.slice none 0 0] 28)) (w.heap.size + 1) l.length 0 (.slice none 0 0) 28) := (by rw [← hsa]; exact XAt.new wa l.length 0 (.slice none 0 0) 28 : XAt (wa.alloc (Obj.cells #[Value.int IntKind.i64 l.length, Value.int IntKind.i64 0, Value.slice none 0 0] 28)) (w.heap.size + 1) l.length 0 (.slice none 0 0) 28)
    have hxb : Ex wa (wa.alloc (Obj.cells #[Value.int IntKind.i64 l.length, Value.int IntKind.i64 0, Value.slice none 0 0] 28)) := (Below.refl _ _).alloc (Nat.le_refl _) _
    have HXb : Hid (Ex wa (wa.alloc (Obj.cells #[Value.int IntKind.i64 l.length, Value.int IntKind.i64 0, Value.slice none 0 0] 28))) := hxb
    have hll : l.length ≤ 1048576 := by omega
    have HO4 : Hid (OwnI (wa.alloc (Obj.cells #[Value.int IntKind.i64 l.length, Value.int IntKind.i64 0, Value.slice none 0 0] 28)) w.heap.size (.slice none 0 0) (Tk.evs (l.take 0))) := (by rw [List.take_zero, show Tk.evs [] = [] from rfl]; exact ownI_nil _ _ : OwnI _ w.heap.size (.slice none 0 0) (Tk.evs (l.take 0)))
    clear hx hxb
    go_enter Try.func10, Try.ntmps10
    go_wp2_with fail
    go_loopw [5] (fun i wr => ∃ (j : Nat) (v : Value), j ≤ l.length ∧ i = .int .i64 j ∧ Hid (Tk.Rise (l.take j)) ∧ Hid (XAt wr (w.heap.size + 1) l.length (Tk.lst (l.take j)) v 28) ∧ Hid (OwnI wr w.heap.size v (Tk.evs (l.take j))) ∧ Hid (XAt wr w.heap.size 0 0 (.slice none 0 0) 28) ∧ Hid (Below w.heap.size w wr)) (fun i _ => l.length - (intOf i).toNat)
    case atStart => exact ⟨0, _, by omega, rfl, (fun j hj => by simp at hj : Tk.Rise (l.take 0)), HX4, HO4, HF.out.below HXb.out, HXa.out.trans HXb.out⟩
    case round =>
      obtain ⟨j, v, hj, rfl, HRi, HX, HO, HZ, HBl⟩ := hrel
      clear HX4 HO4 HXb f0 f1 f2 z0 z1 z2
      obtain ⟨g0, g1, g2⟩ := HX.out.all
      obtain ⟨y0, y1, y2⟩ := HX.out.fro
      obtain ⟨f0, f1, f2⟩ := HZ.out.all
      obtain ⟨z0, z1, z2⟩ := HZ.out.fro
      by_cases hlt : j < l.length
      · obtain ⟨bb, off, rfl, hc1⟩ := (HB.out.below HBl.out).at0 hlt
        have hnx := Tk.rise_next (l := l) hlt
        have hev := Tk.evs_next (l := l) hlt
        have hls := Tk.lst_next (l := l) hlt
        obtain ⟨x, hx⟩ : ∃ x, Tk.at0 l j = x := ⟨_, rfl⟩
        rw [hx] at hc1 hnx hev hls
        have HXj : Hid (Tk.at0 l j = x) := hx
        have HEv : Hid (Tk.evs (l.take (j + 1)) = if j % 4 = 0 then Tk.evs (l.take j) ++ [x] else Tk.evs (l.take j)) := hev
        have HLs : Hid (Tk.lst (l.take (j + 1)) = x) := hls
        have tj : decide ((j : Int) < (l.length : Int)) = true := by simp; omega
        obtain ⟨q, hq⟩ : ∃ q : Nat, j % 4 = q := ⟨_, rfl⟩
        have hq1 : (j : Int) % 4 = (q : Int) := by omega
        have hq2 : (j : Int).tmod 4 = (q : Int) := by rw [Int.tmod_eq_emod_of_nonneg (by omega)]; exact hq1
        have hq4 : q < 4 := by omega
        have HQ : Hid (j % 4 = q) := hq
        clear hx hev hls hq
        have hel : (Tk.evs (l.take j)).length ≤ 1000000 := by rw [Tk.evs_len, List.length_take]; omega
        obtain ⟨aA, cA, hvA, _⟩ := HO.out.rd
        obtain ⟨nA, hnA⟩ : ∃ nA, nA = (Tk.evs (l.take j)).length := ⟨_, rfl⟩
        rw [← hnA] at hvA
        subst hvA
        clear hnA
        by_cases hj0 : j = 0
        · have t3 : decide (0 < j) = false := by simp; omega
          have HR2 : Hid (Tk.Rise (l.take (j + 1))) := hnx.2 ⟨HRi.out, fun h => by omega⟩
          have t6 : ((q : Int) == 0) = true := by have := HQ.out; simp; omega
          have HQ0 : Hid (q = 0) := (by have := HQ.out; omega : q = 0)
          clear hnx hj0
          go_wp2_with fail
          go_quiet (fail)
          go_wp2_with fail
          refine Rg.wp_push (wE := w) 52 (by kernel_rfl) 28 (.inr rfl) (w.heap.size + 1) w.heap.size l.length (Tk.lst (l.take j)) 0 0 aA nA cA (.slice none 0 0) (Tk.evs (l.take j)) (some ⟨bb, off, none⟩) l.length cap j l bb off _ _ _ _ _ _ _ _ _ _ rfl rfl (by omega) (by kernel_rfl) (by kernel_rfl) rfl rfl rfl rfl rfl rfl rfl rfl rfl rfl rfl rfl rfl rfl rfl rfl rfl rfl rfl rfl (by kernel_rfl) (by kernel_rfl) (by kernel_rfl) _ rfl rfl rfl rfl rfl rfl rfl rfl rfl rfl rfl rfl rfl hlt HB.out (Below.drewN HBl.out _) (by omega) (by omega) (HX.out.below (Ex.drewN _ _)) (HZ.out.below (Ex.drewN _ _)) (HO.out.later (Ex.drewN _ _)) hel ?fin
          case fin =>
            intro w9 hb9
            simp only [Rg.later, Act.put, List.setIfInBounds_toArray, List.set_cons_succ, List.set_cons_zero]
            intro v43 _ v44 _ v9 hx9 ho9 hz9
            rw [HXj.out] at ho9
            have hc9 := (HB.out.below hb9).at0 hlt
            obtain ⟨_, _, e9, hc9⟩ := hc9
            simp only [Option.some.injEq, Addr.mk.injEq, and_true] at e9
            obtain ⟨rfl, rfl⟩ := e9
            rw [HXj.out] at hc9
            have HX9 : Hid (XAt w9 (w.heap.size + 1) l.length (Tk.lst (l.take j)) v9 28) := hx9
            have HO9 : Hid (OwnI w9 w.heap.size v9 (Tk.evs (l.take (j + 1)))) := (by rw [HEv.out, if_pos (by have := HQ.out; have := HQ0.out; omega)]; exact ho9 : OwnI w9 w.heap.size v9 (Tk.evs (l.take (j + 1))))
            have HZ9 : Hid (XAt w9 w.heap.size 0 0 (.slice none 0 0) 28) := hz9
            have HB9 : Hid (Below w.heap.size w w9) := hb9
            obtain ⟨i0, i1, i2⟩ := HX9.out.all
            obtain ⟨k0, k1, k2⟩ := HX9.out.fro
            clear hx9 ho9 hz9 hb9 hc1 HX HO HZ HBl g0 g1 g2 f0 f1 f2 y0 y1 y2 z0 z1 z2
            go_wp2_with fail
            go_roundw
            case rel => exact ⟨j + 1, v9, by omega, by go_num, HR2, (by rw [HLs.out]; exact HX9.out.set1 x : XAt _ _ _ _ _ _), ownI_other (by decide) HO9.out HX9.out, HZ9.out.other (by omega), Below.setCell HB9.out (p := ⟨w.heap.size + 1, 1, none⟩) (Nat.le_succ _) _⟩
            case measure => simp [intOf]; omega
        · have t3 : decide (0 < j) = true := by simp; omega
          obtain ⟨j1, hj1'⟩ : ∃ j1 : Nat, j1 = j - 1 := ⟨_, rfl⟩
          have hj1i : (j : Int) - 1 = (j1 : Int) := by omega
          have hj1l : j1 < l.length := by omega
          obtain ⟨_, _, e2, hc2⟩ := (HB.out.below HBl.out).at0 hj1l
          simp only [Option.some.injEq, Addr.mk.injEq, and_true] at e2
          obtain ⟨rfl, rfl⟩ := e2
          rw [← hj1'] at hnx
          obtain ⟨y, hy⟩ : ∃ y, Tk.at0 l j1 = y := ⟨_, rfl⟩
          rw [hy] at hc2 hnx
          have HNx : Hid (Tk.Rise (l.take (j + 1)) ↔ Tk.Rise (l.take j) ∧ (0 < j → y ≤ x)) := hnx
          have hj0p : 1 ≤ j := by omega
          clear hnx hy hj1' hj0
          by_cases hlt2 : x < y
          · have t5 : decide (x < y) = true := decide_eq_true hlt2
            have hXc : X = Tk.zero ∧ c = 12 := by
              have h := HXx.out
              rw [if_neg (fun h => by have h2 := (HNx.out.1 (Tk.rise_take h.2 (j + 1))).2 (by omega); omega)] at h
              simp only [Prod.mk.injEq] at h
              exact ⟨h.1.symm, h.2.symm⟩
            obtain ⟨rfl, rfl⟩ := hXc
            go_wp2_with fail
            go_quiet (fail)
            go_wp2_with fail
            refine bodyPost_ret (res_ix2 (g := w.heap.size) (r := 0) (m := 0) (a := none) (n := 0) (cap := 0) (.inr rfl) rfl rfl rfl ((HZ.out.below (Ex.drewN _ _)).put3 0 0 (.slice none 0 0))) rfl ⟨_, rfl, ownI_nil _ _, Below.xset (Below.drewN HBl.out _) (Nat.le_refl _) _ _ _⟩
          · have t5 : decide (x < y) = false := decide_eq_false hlt2
            have HR2 : Hid (Tk.Rise (l.take (j + 1))) := HNx.out.2 ⟨HRi.out, fun _ => by omega⟩
            by_cases hq0 : q = 0
            · have t6 : ((q : Int) == 0) = true := by simpa using hq0
              have HQ0 : Hid (q = 0) := hq0
              clear hq0
              go_wp2_with fail
              go_quiet (fail)
              go_wp2_with fail
              refine Rg.wp_push (wE := w) 52 (by kernel_rfl) 28 (.inr rfl) (w.heap.size + 1) w.heap.size l.length (Tk.lst (l.take j)) 0 0 aA nA cA (.slice none 0 0) (Tk.evs (l.take j)) (some ⟨bb, off, none⟩) l.length cap j l bb off _ _ _ _ _ _ _ _ _ _ rfl rfl (by omega) (by kernel_rfl) (by kernel_rfl) rfl rfl rfl rfl rfl rfl rfl rfl rfl rfl rfl rfl rfl rfl rfl rfl rfl rfl rfl rfl (by kernel_rfl) (by kernel_rfl) (by kernel_rfl) _ rfl rfl rfl rfl rfl rfl rfl rfl rfl rfl rfl rfl rfl hlt HB.out (Below.drewN HBl.out _) (by omega) (by omega) (HX.out.below (Ex.drewN _ _)) (HZ.out.below (Ex.drewN _ _)) (HO.out.later (Ex.drewN _ _)) hel ?fin
              case fin =>
                intro w9 hb9
                simp only [Rg.later, Act.put, List.setIfInBounds_toArray, List.set_cons_succ, List.set_cons_zero]
                intro v43 _ v44 _ v9 hx9 ho9 hz9
                rw [HXj.out] at ho9
                have hc9 := (HB.out.below hb9).at0 hlt
                obtain ⟨_, _, e9, hc9⟩ := hc9
                simp only [Option.some.injEq, Addr.mk.injEq, and_true] at e9
                obtain ⟨rfl, rfl⟩ := e9
                rw [HXj.out] at hc9
                have HX9 : Hid (XAt w9 (w.heap.size + 1) l.length (Tk.lst (l.take j)) v9 28) := hx9
                have HO9 : Hid (OwnI w9 w.heap.size v9 (Tk.evs (l.take (j + 1)))) := (by rw [HEv.out, if_pos (by have := HQ.out; have := HQ0.out; omega)]; exact ho9 : OwnI w9 w.heap.size v9 (Tk.evs (l.take (j + 1))))
                have HZ9 : Hid (XAt w9 w.heap.size 0 0 (.slice none 0 0) 28) := hz9
                have HB9 : Hid (Below w.heap.size w w9) := hb9
                obtain ⟨i0, i1, i2⟩ := HX9.out.all
                obtain ⟨k0, k1, k2⟩ := HX9.out.fro
                clear hx9 ho9 hz9 hb9 hc1 HX HO HZ HBl g0 g1 g2 f0 f1 f2 y0 y1 y2 z0 z1 z2
                go_wp2_with fail
                go_roundw
                case rel => exact ⟨j + 1, v9, by omega, by go_num, HR2, (by rw [HLs.out]; exact HX9.out.set1 x : XAt _ _ _ _ _ _), ownI_other (by decide) HO9.out HX9.out, HZ9.out.other (by omega), Below.setCell HB9.out (p := ⟨w.heap.size + 1, 1, none⟩) (Nat.le_succ _) _⟩
                case measure => simp [intOf]; omega
            · have t6 : ((q : Int) == 0) = false := by simpa using hq0
              go_wp2_with fail
              go_quiet (fail)
              go_wp2_with fail
              have HO9 : Hid (OwnI (wr.drewN nq) w.heap.size (.slice aA nA cA) (Tk.evs (l.take (j + 1)))) := (by rw [HEv.out, if_neg (by have := HQ.out; omega)]; exact HO.out.later (Ex.drewN _ _) : OwnI (wr.drewN nq) w.heap.size (.slice aA nA cA) (Tk.evs (l.take (j + 1))))
              have HX9 : Hid (XAt (wr.drewN nq) (w.heap.size + 1) l.length (Tk.lst (l.take j)) (.slice aA nA cA) 28) := HX.out.below (Ex.drewN _ _)
              go_roundw
              case rel => exact ⟨j + 1, _, by omega, by go_num, HR2, (by rw [HLs.out]; exact HX9.out.set1 x : XAt _ _ _ _ _ _), ownI_other (by decide) HO9.out HX9.out, (HZ.out.below (Ex.drewN _ nq)).other (by omega), Below.setCell (Below.drewN HBl.out nq) (p := ⟨w.heap.size + 1, 1, none⟩) (Nat.le_succ _) _⟩
              case measure => simp [intOf]; omega
      · obtain rfl : j = l.length := by omega
        have tj : decide ((l.length : Int) < (l.length : Int)) = false := by simp
        obtain ⟨aA, cA, hvA, _⟩ := HO.out.rd
        obtain ⟨nA, hnA⟩ : ∃ nA, nA = (Tk.evs (l.take l.length)).length := ⟨_, rfl⟩
        rw [← hnA] at hvA
        subst hvA
        clear hnA
        have hXc : X = Tk.ix l ∧ c = 0 := by
          have h := HXx.out
          have hr := HRi.out
          rw [List.take_length] at hr
          rw [if_pos ⟨hll, hr⟩] at h
          simp only [Prod.mk.injEq] at h
          exact ⟨h.1.symm, h.2.symm⟩
        obtain ⟨rfl, rfl⟩ := hXc
        obtain ⟨M, hM⟩ : ∃ M, M = Tk.lst (l.take l.length) := ⟨_, rfl⟩
        rw [← hM] at g1
        have HM : Hid (M = Tk.lst l) := (by rw [hM, List.take_length] : M = Tk.lst l)
        clear hM
        go_wp2_with fail
        refine bodyPost_ret (res_ix2 (g := w.heap.size) (r := l.length) (m := M) (a := aA) (n := nA) (cap := cA) (.inr rfl) rfl rfl rfl (HZ.out.put3 l.length M (.slice aA nA cA))) rfl ⟨.slice aA nA cA, ?_, ?_, Below.xset HBl.out (Nat.le_refl _) _ _ _⟩
        · have h := HM.out
          subst h
          rfl
        · have h := HO.out
          rw [List.take_length] at h
          exact ownI_other (by decide) (ownI_other (by decide) (ownI_other (by decide) h HZ.out) (HZ.out.set0 l.length)) ((HZ.out.set0 l.length).set1 M)
end Go.Proofs.Ytaehchaimlklnaa
