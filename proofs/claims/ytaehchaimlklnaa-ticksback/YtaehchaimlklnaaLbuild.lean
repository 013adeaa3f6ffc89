/-
  Of the landed ticks: Build.
-/
import Derived.Test.YtaehchaimlklnaaLris
import Derived.Test.YtaehchaimlklnaaRtb
import Derived.Test.YtaehchaimlklnaaSdec
namespace Go.Proofs.Ytaehchaimlklnaa
open Go.RowKit
set_option linter.unusedVariables false
set_option linter.unusedSimpArgs false
set_option maxRecDepth 100000 in
set_option maxHeartbeats 8000000 in
theorem lbuild_is (a : Option Addr) (n cap : Nat) (l : List Int) (w : World) (hn : n = l.length) (hB : Rd z64 w a cap l) (X : Tk.Ix) (c : Nat) (hx : Tk.build l = (X, c)) :
    Calls Try.prog 9 #[.slice a n cap] w fun e w' => ∃ v, e = .returned (.tuple #[xv X.r X.m v, .int .i64 c]) ∧ OwnI w' w.heap.size v X.a ∧ Ex w w' := by
  subst hn
  have hcl := hB.1
  have hcm := hB.2.1
  unfold maxLen at hcm
  have HB : Hid (Rd z64 w a cap l) := hB
  have hxa : Ex w (w.alloc (xb 0 0 (.slice none 0 0) 24)) := (Below.refl _ _).alloc (Nat.le_refl _) _
  have hF := XAt.new w 0 0 (.slice none 0 0) 24
  obtain ⟨wa, hwa⟩ : ∃ wa, w.alloc (Obj.cells #[Value.int IntKind.i64 0, Value.int IntKind.i64 0, Value.slice none 0 0] 24) = wa := ⟨_, rfl⟩
  have HXa : Hid (Ex w wa) := (by rw [← hwa]; exact hxa : Ex w wa)
  have HF : Hid (XAt wa w.heap.size 0 0 (.slice none 0 0) 24) := (by rw [← hwa]; exact hF : XAt wa w.heap.size 0 0 (.slice none 0 0) 24)
  obtain ⟨f0, f1, f2⟩ := HF.out.all
  obtain ⟨z0, z1, z2⟩ := HF.out.fro
  unfold Tk.build at hx
  clear hB hxa hF
  by_cases c1 : 1048576 < l.length
  · rw [if_neg (by omega)] at hx
    simp only [Prod.mk.injEq] at hx
    obtain ⟨rfl, rfl⟩ := hx
    have t1 : decide (1048576 < l.length) = true := decide_eq_true c1
    have t2 : decide ((1048576 : Int) < (l.length : Int)) = true := by simp; omega
    go_enter Try.func9, Try.ntmps9
    go_wp2_with fail
    refine bodyPost_ret (res_ix2 (g := w.heap.size) (r := 0) (m := 0) (a := none) (n := 0) (cap := 0) (.inl rfl) rfl rfl rfl (HF.out.put3 0 0 (.slice none 0 0))) rfl ⟨_, rfl, ownI_nil _ _, Below.xset HXa.out (Nat.le_refl _) _ _ _⟩
  · have t1 : decide (1048576 < l.length) = false := decide_eq_false c1
    have t2 : decide ((1048576 : Int) < (l.length : Int)) = false := by simp; omega
    have hll : l.length ≤ 1048576 := by omega
    obtain ⟨d, hd⟩ : ∃ d, decide (Tk.Rise l) = d := ⟨_, rfl⟩
    have HD : Hid (decide (Tk.Rise l) = d) := hd
    cases d with
    | false =>
      rw [if_neg (fun h => of_decide_eq_false hd h.2)] at hx
      simp only [Prod.mk.injEq] at hx
      obtain ⟨rfl, rfl⟩ := hx
      clear hd
      go_enter Try.func9, Try.ntmps9
      go_wp2_with fail
      refine (rises_is a l.length cap l _ rfl (HB.out.below HXa.out) false HD.out).mono ?_
      rintro e w1 ⟨rfl, m, hw1⟩
      have HX1 : Hid (Ex wa w1) := (by rw [hw1]; exact Ex.drewN _ _ : Ex wa w1)
      have HF1 : Hid (XAt w1 w.heap.size 0 0 (.slice none 0 0) 24) := HF.out.below HX1.out
      clear hw1 f0 f1 f2 z0 z1 z2
      obtain ⟨f0, f1, f2⟩ := HF1.out.all
      obtain ⟨z0, z1, z2⟩ := HF1.out.fro
      go_wp2_with fail
      refine bodyPost_ret (res_ix2 (g := w.heap.size) (r := 0) (m := 0) (a := none) (n := 0) (cap := 0) (.inl rfl) rfl rfl rfl (HF1.out.put3 0 0 (.slice none 0 0))) rfl ⟨_, rfl, ownI_nil _ _, Below.xset (HXa.out.trans HX1.out) (Nat.le_refl _) _ _ _⟩
    | true =>
      rw [if_pos ⟨hll, of_decide_eq_true hd⟩] at hx
      simp only [Prod.mk.injEq] at hx
      obtain ⟨rfl, rfl⟩ := hx
      clear hd
      obtain ⟨q, hq⟩ : ∃ q : Nat, ((l.length : Int) + 3) / 4 = (q : Int) := ⟨(((l.length : Int) + 3) / 4).toNat, by omega⟩
      have HQ : Hid (((l.length : Int) + 3) / 4 = (q : Int)) := hq
      have hqb : q ≤ 262144 := by omega
      clear hq
      go_enter Try.func9, Try.ntmps9
      go_wp2_with fail
      refine (rises_is a l.length cap l _ rfl (HB.out.below HXa.out) true HD.out).mono ?_
      rintro e w1 ⟨rfl, m, hw1⟩
      have HX1 : Hid (Ex wa w1) := (by rw [hw1]; exact Ex.drewN _ _ : Ex wa w1)
      have HF1 : Hid (XAt w1 w.heap.size 0 0 (.slice none 0 0) 24) := HF.out.below HX1.out
      have hs1 : w.heap.size ≤ w1.heap.size := (HXa.out.trans HX1.out).size
      have hs1' : w.heap.size < w1.heap.size := HF1.out.lt
      clear hw1 f0 f1 f2 z0 z1 z2
      go_wp2_with fail
      refine (times_is l.length _ (by omega) (by omega) _ HQ.out).mono ?_
      rintro e wq ⟨rfl, hw⟩
      have hw' := hw.symm; clear hw; subst hw'
      go_wp2_with (at_make; refine wpList_make_cap (enc := z64) rfl _ _ 22 2 rfl 0 8 Try.underlying22 Try.info2 w.heap.size hs1 _ q rfl rfl rfl (by omega) (by omega) ?_; intro w2 v2 hr2 hb2; obtain ⟨a2, c2, hv2, _⟩ := hr2.rd; subst hv2; have HO2 : Hid (OwnI w2 w.heap.size (.slice a2 0 c2) []) := hr2; have HX2 : Hid (Ex w1 w2) := hb2; clear hr2 hb2)
      obtain ⟨g4, hg4⟩ : ∃ g4, w2.heap.size = g4 := ⟨_, rfl⟩
      have HF2 : Hid (XAt w2 w.heap.size 0 0 (.slice none 0 0) 24) := HF1.out.below HX2.out
      have hgl : w.heap.size < g4 := by rw [← hg4]; exact HF2.out.lt
      have HX4 : Hid (XAt (w2.alloc (Obj.cells #[Value.int IntKind.i64 l.length, Value.int IntKind.i64 0, Value.slice a2 0 c2] 24)) g4 l.length 0 (.slice a2 0 c2) 24) := (by rw [← hg4]; exact XAt.new w2 l.length 0 (.slice a2 0 c2) 24 : XAt (w2.alloc (Obj.cells #[Value.int IntKind.i64 l.length, Value.int IntKind.i64 0, Value.slice a2 0 c2] 24)) g4 l.length 0 (.slice a2 0 c2) 24)
      have HXb : Hid (Ex w2 (w2.alloc (Obj.cells #[Value.int IntKind.i64 l.length, Value.int IntKind.i64 0, Value.slice a2 0 c2] 24))) := (Below.refl _ _).alloc (Nat.le_refl _) _
      have HO4 : Hid (OwnI (w2.alloc (Obj.cells #[Value.int IntKind.i64 l.length, Value.int IntKind.i64 0, Value.slice a2 0 c2] 24)) w.heap.size (.slice a2 0 c2) (Tk.evs (l.take 0))) := (by rw [List.take_zero, show Tk.evs [] = [] from rfl]; exact HO2.out.alloc _ : OwnI _ w.heap.size (.slice a2 0 c2) (Tk.evs (l.take 0)))
      rw [hg4]
      clear hg4
      go_loopw [5, 6, 25] (fun _ _ i wr => ∃ (j : Nat) (v : Value), j ≤ l.length ∧ i = .int .i64 j ∧ Hid (XAt wr g4 l.length (Tk.lst (l.take j)) v 24) ∧ Hid (OwnI wr w.heap.size v (Tk.evs (l.take j))) ∧ Hid (XAt wr w.heap.size 0 0 (.slice none 0 0) 24) ∧ Hid (Below w.heap.size w wr)) (fun _ _ i _ => l.length - (intOf i).toNat)
      case atStart => exact ⟨0, _, by omega, rfl, HX4, HO4, HF2.out.below HXb.out, ((HXa.out.trans HX1.out).trans HX2.out).trans HXb.out⟩
      case round =>
        obtain ⟨j, v, hj, rfl, HX, HO, HZ, HBl⟩ := hrel
        clear HX4 HO4 HXb
        obtain ⟨g0, g1, g2⟩ := HX.out.all
        obtain ⟨y0, y1, y2⟩ := HX.out.fro
        obtain ⟨f0, f1, f2⟩ := HZ.out.all
        obtain ⟨z0, z1, z2⟩ := HZ.out.fro
        have hsr : w.heap.size ≤ wr.heap.size := HBl.out.size
        by_cases hlt : j < l.length
        · obtain ⟨bb, off, rfl, hc1⟩ := (HB.out.below HBl.out).at0 hlt
          have hev := Tk.evs_next (l := l) hlt
          have hls := Tk.lst_next (l := l) hlt
          obtain ⟨x, hx⟩ : ∃ x, Tk.at0 l j = x := ⟨_, rfl⟩
          rw [hx] at hc1 hev hls
          have HEv : Hid (Tk.evs (l.take (j + 1)) = if j % 4 = 0 then Tk.evs (l.take j) ++ [x] else Tk.evs (l.take j)) := hev
          have HLs : Hid (Tk.lst (l.take (j + 1)) = x) := hls
          have tj : decide ((j : Int) < (l.length : Int)) = true := by simp; omega
          obtain ⟨q4, hq⟩ : ∃ q : Nat, j % 4 = q := ⟨_, rfl⟩
          have hq1 : (j : Int) % 4 = (q4 : Int) := by omega
          have hq2 : (j : Int).tmod 4 = (q4 : Int) := by rw [Int.tmod_eq_emod_of_nonneg (by omega)]; exact hq1
          have hq4 : q4 < 4 := by omega
          have HQ4 : Hid (j % 4 = q4) := hq
          clear hx hev hls hq hq1
          have hel : (Tk.evs (l.take j)).length ≤ 1000000 := by rw [Tk.evs_len, List.length_take]; omega
          obtain ⟨aA, cA, hvA, _⟩ := HO.out.rd
          obtain ⟨nA, hnA⟩ : ∃ nA, nA = (Tk.evs (l.take j)).length := ⟨_, rfl⟩
          rw [← hnA] at hvA
          subst hvA
          have Hel : Hid ((Tk.evs (l.take j)).length ≤ 1000000) := hel
          clear hnA hel
          by_cases hq0 : q4 = 0
          · have t6 : ((q4 : Int) == 0) = true := by simpa using hq0
            have HQ0 : Hid (q4 = 0) := hq0
            clear hq0
            go_wp2_with (at_builtin; refine wpList_append_rd (e := 2) (enc := z64) rfl (.tmp 34) (.tmp 36) 22 rfl 0 8 Try.underlying22 Try.info2 rfl (fun _ => rfl) w.heap.size _ (Tk.evs (l.take j)) rfl (HO.out.alloc _) _ _ _ [x] rfl rfl (Rd.laid wr 2 [x] (by simp)) (by have := Hel.out; simp [maxLen]; omega) (by have := Hel.out; simp; omega) (by simp; omega) ?_; intro v9 w9 ho9 hg9; have HX9 : Hid (XAt w9 g4 l.length (Tk.lst (l.take j)) (.slice aA nA cA) 24) := xat_grown (by decide) (HX.out.below ((Below.refl _ _).alloc (Nat.le_refl _) _)) (HO.out.alloc _) hg9; have HZ9 : Hid (XAt w9 w.heap.size 0 0 (.slice none 0 0) 24) := xat_grown (by decide) (HZ.out.below ((Below.refl _ _).alloc (Nat.le_refl _) _)) (HO.out.alloc _) hg9; have HB9 : Hid (Below w.heap.size w w9) := step_belowR (Below.alloc HBl.out hsr _) (by simp; omega) (HO.out.alloc _) hg9; have HO9 : Hid (OwnI w9 w.heap.size v9 (Tk.evs (l.take (j + 1)))) := (by rw [HEv.out, if_pos (by have := HQ4.out; have := HQ0.out; omega)]; exact ho9 : OwnI w9 w.heap.size v9 (Tk.evs (l.take (j + 1)))); clear hg9 ho9 hc1 g0 g1 g2 y0 y1 y2 f0 f1 f2 z0 z1 z2; obtain ⟨i0, i1, i2⟩ := HX9.out.all; obtain ⟨k0, k1, k2⟩ := HX9.out.fro; obtain ⟨a9, c9, hv9, _⟩ := HO9.out.rd; obtain ⟨n9, hn9⟩ : ∃ n9, n9 = (Tk.evs (l.take (j + 1))).length := ⟨_, rfl⟩; rw [← hn9] at hv9; subst hv9; clear hn9)
            go_roundw
            case rel => exact ⟨j + 1, _, by omega, by go_num, (by rw [HLs.out]; exact (HX9.out.set2 (.slice a9 n9 c9)).set1 x : XAt _ _ _ _ _ _), ownI_other (by decide) (ownI_other (by decide) HO9.out HX9.out) (HX9.out.set2 (.slice a9 n9 c9)), (HZ9.out.other (by omega)).other (by omega), Below.setCell (Below.setCell HB9.out (p := ⟨g4, 2, none⟩) (Nat.le_of_lt hgl) _) (p := ⟨g4, 1, none⟩) (Nat.le_of_lt hgl) _⟩
            case measure => simp [intOf]; omega
          · have t6 : ((q4 : Int) == 0) = false := by simpa using hq0
            have HO9 : Hid (OwnI wr w.heap.size (.slice aA nA cA) (Tk.evs (l.take (j + 1)))) := (by rw [HEv.out, if_neg (by have := HQ4.out; omega)]; exact HO.out : OwnI wr w.heap.size (.slice aA nA cA) (Tk.evs (l.take (j + 1))))
            go_wp2_with fail
            go_roundw
            case rel => exact ⟨j + 1, _, by omega, by go_num, (by rw [HLs.out]; exact HX.out.set1 x : XAt _ _ _ _ _ _), ownI_other (by decide) HO9.out HX.out, HZ.out.other (by omega), Below.setCell HBl.out (p := ⟨g4, 1, none⟩) (Nat.le_of_lt hgl) _⟩
            case measure => simp [intOf]; omega
        · obtain rfl : j = l.length := by omega
          have tj : decide ((l.length : Int) < (l.length : Int)) = false := by simp
          obtain ⟨aA, cA, hvA, _⟩ := HO.out.rd
          obtain ⟨nA, hnA⟩ : ∃ nA, nA = (Tk.evs (l.take l.length)).length := ⟨_, rfl⟩
          rw [← hnA] at hvA
          subst hvA
          clear hnA
          obtain ⟨M, hM⟩ : ∃ M, M = Tk.lst (l.take l.length) := ⟨_, rfl⟩
          rw [← hM] at g1
          have HM : Hid (M = Tk.lst l) := (by rw [hM, List.take_length] : M = Tk.lst l)
          clear hM
          go_wp2_with fail
          refine bodyPost_ret (res_ix2 (g := w.heap.size) (r := l.length) (m := M) (a := aA) (n := nA) (cap := cA) (.inl rfl) rfl rfl rfl (HZ.out.put3 l.length M (.slice aA nA cA))) rfl ⟨.slice aA nA cA, ?_, ?_, Below.xset HBl.out (Nat.le_refl _) _ _ _⟩
          · have h := HM.out
            subst h
            rfl
          · have h := HO.out
            rw [List.take_length] at h
            exact ownI_other (by decide) (ownI_other (by decide) (ownI_other (by decide) h HZ.out) (HZ.out.set0 l.length)) ((HZ.out.set0 l.length).set1 M)
end Go.Proofs.Ytaehchaimlklnaa
