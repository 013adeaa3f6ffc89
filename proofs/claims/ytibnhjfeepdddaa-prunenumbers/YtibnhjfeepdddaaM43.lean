/-
  The document's own right, of some kinds. The document's own right, of some kinds. The document's own right, of some kinds. The document's own Right. What normal answers.
-/
import Derived.Test.YtibnhjfeepdddaaM41
import Derived.Test.YtibnhjfeepdddaaM42
import Derived.Test.YtibnhjfeepdddaaM29
namespace Go.Proofs.Ytibnhjfeepdddaa
open Go.RowKit
set_option linter.unusedVariables false
set_option linter.unusedSimpArgs false
set_option maxHeartbeats 16000000 in
set_option maxRecDepth 100000 in
theorem rright_e (h : Hd) (l : List Pr) (ih : ∀ k ∈ l, RightC k) (hk : h.k = 7) : RightC (Pr.mk' h l) := by
 intro v w hL hF o ho
 rw [Pd.fine_mk] at hF
 obtain ⟨hFi, hl1, hFk⟩ := hF
 obtain ⟨hHd, hkn, hkB, hkc, hkm, hk0⟩ := hL.head
 obtain ⟨vk, vcol, vn, vm, vs, ⟨sa, sn, sc⟩, ⟨p, n, cap⟩⟩ := v
 simp only at hkn hkB hkc hkm hk0
 subst hkn
 obtain ⟨k, col, hn', m, s, set⟩ := h
 obtain ⟨⟨hv1, hv2, hv3, hv4, hv5⟩, hsn, hB, _⟩ := hHd
 simp only at hv1 hv2 hv3 hv4 hv5 hsn hB
 subst hv1 hv2 hv3 hv4 hv5 hsn
 simp only at hk
 have HKH : Hid _ := hk
 clear hk
 have hs1 := hB.1
 have hs2 := hB.2.1
 unfold maxLen at hkm hs2
 have hc1 : vcol.length ≤ 1000 := hFi.col
 have hc2 : vs.length ≤ 1000 := hFi.s
 have hc3 : set.length ≤ 1000 := hFi.set
 have HEA : Hid (∀ t ∈ set, t.length ≤ 1000) := hFi.each
 have HIH : Hid (∀ k ∈ l, RightC k) := ih
 have HFK : Hid (∀ k ∈ l, Pd.Fine k) := hFk
 have HLw : Hid (Pd.Lay (fun _ => True) (Pr.mk' ⟨vk, vcol, vn, vm, vs, set⟩ l) w ⟨vk, vcol, vn, vm, vs, (sa, set.length, sc), p, l.length, cap⟩) := hL
 obtain ⟨W, hW⟩ : ∃ W, w.alloc (pb ⟨vk, vcol, vn, vm, vs, (sa, set.length, sc), p, l.length, cap⟩) = W := ⟨_, rfl⟩
 have hXW : Ex w W := by rw [← hW]; exact (Below.refl _ _).alloc (Nat.le_refl _) _
 have HXW : Hid (Ex w W) := hXW
 have HP : Hid (PAt W w.heap.size ⟨vk, vcol, vn, vm, vs, (sa, set.length, sc), p, l.length, cap⟩) := (by rw [← hW]; exact PAt.new w _ : PAt W w.heap.size _)
 have HST : Hid (Rd st W sa sc set) := (hB.below hXW : Rd st W sa sc set)
 obtain ⟨B, hBB⟩ : ∃ B, Pd.part ⟨vk, vcol, vn, vm, vs, set⟩ l.length = B := ⟨_, rfl⟩
 have HO : Hid ((B && l.all Pd.form) = o) := (by rw [← ho, Pd.form_mk, hBB] : (B && l.all Pd.form) = o)
 obtain ⟨bc, hbc⟩ : ∃ b, Rw.name vcol = b := ⟨_, rfl⟩
 have HBC : Hid (Rw.name vcol = bc) := hbc
 obtain ⟨bn, hbn⟩ : ∃ b, vcol.isEmpty = b := ⟨_, rfl⟩
 obtain ⟨n0, hn0⟩ : ∃ b, (vn == 0) = b := ⟨_, rfl⟩
 obtain ⟨m0, hm0⟩ : ∃ b, (vm == 0) = b := ⟨_, rfl⟩
 obtain ⟨ts, hts⟩ : ∃ b, vs.isEmpty = b := ⟨_, rfl⟩
 obtain ⟨ss, hss⟩ : ∃ b, ((set.length : Int) == 0) = b := ⟨_, rfl⟩
 obtain ⟨ks, hks⟩ : ∃ b, ((l.length : Int) == 0) = b := ⟨_, rfl⟩
 obtain ⟨nm, hnm⟩ : ∃ b, (n0 && m0) = b := ⟨_, rfl⟩
 have hpo := part_of vk vcol vn vm vs set l.length bc bn n0 m0 ts ss ks hbc hbn hn0 hm0 hts hss hks
 rw [hnm, hBB] at hpo
 have HPO : Hid (B = _) := hpo
 have HNM : Hid ((n0 && m0) = nm) := hnm
 obtain ⟨c0, c1, c2, c3, c4, c5, c6⟩ := HP.out.all
 simp only at c0 c1 c2 c3 c4 c5 c6
 have HWW : Hid (w.alloc (pb ⟨vk, vcol, vn, vm, vs, (sa, set.length, sc), p, l.length, cap⟩) = W) := hW
 have z1 := str_toList vcol
 have z2 := str_toList vs
 have z3 := str_size vs
 clear hL hFi hFk hkB hB hbc ih hXW hpo ho hBB hnm
 unfold pvv
 simp only [sv]
 go_enter Try.func53, Try.ntmps53
 go_wp2_with fail
 go_at_call 76
 refine (rname_is vcol W (by unfold maxLen; omega) bc HBC.out).mono ?_
 rintro e w1 ⟨rfl, hw⟩
 replace hw := hw.symm
 subst hw
 clear hW
 go_upto_region 3 with fail
 go_cut [5] (fun v wc => v = .bool nm ∧ wc = W)
 case first =>
  cases n0 with
  | false =>
   go_wp2_with fail
   go_meet
   exact ⟨by rw [← HNM.out]; rfl, rfl⟩
  | true =>
   go_wp2_with fail
   go_meet
   exact ⟨by rw [← HNM.out]; rfl, rfl⟩
 case rest =>
  obtain ⟨rfl, hwc⟩ := hcut
  replace hwc := hwc.symm
  subst hwc
  go_upto_block 0 with fail
  go_cut [9] (fun v wd => v = .bool B ∧ Hid (Ex W wd))
  case first =>
   have hk := HKH.out
   have HQ0 := HPO.out
   have k7 : vk = 7 := by omega
   rw [if_neg (by omega), if_neg (by omega), if_neg (by omega), if_neg (by omega)] at HQ0
   ·obtain ⟨A, hA⟩ : ∃ A, T.adj set = A := ⟨_, rfl⟩
    have HA : Hid (T.adj set = A) := hA
    obtain ⟨C, hC⟩ : ∃ C, (bc && nm && ts && ks && decide (set.length ≤ 8) && A) = C := ⟨_, rfl⟩
    have HCC : Hid ((bc && nm && ts && ks && decide (set.length ≤ 8) && A) = C) := hC
    have HQ : Hid (B = (C && set.all (fun s => decide (s.length ≤ 40)))) := (by rw [if_pos k7, hA, hC] at HQ0; exact HQ0 : B = (C && set.all (fun s => decide (s.length ≤ 40))))
    subst k7
    clear HQ0 HPO hA hC
    go_upto_region 21 with fail
    go_cut [9] (fun v wd => v = .bool C ∧ Hid (Ex W wd))
    case first =>
     cases bc with
     | false =>
      go_wp2_with fail
      go_meet
      exact ⟨by rw [← HCC.out]; first | done | rfl, (Ex.refl _ : Ex _ _)⟩
     | true =>
      cases nm with
      | false =>
       go_wp2_with fail
       go_meet
       exact ⟨by rw [← HCC.out]; first | done | rfl, (Ex.refl _ : Ex _ _)⟩
      | true =>
       cases ts with
       | false =>
        go_wp2_with fail
        go_meet
        exact ⟨by rw [← HCC.out]; first | done | rfl, (Ex.refl _ : Ex _ _)⟩
       | true =>
        cases ks with
        | false =>
         go_wp2_with fail
         go_meet
         exact ⟨by rw [← HCC.out]; first | done | rfl, (Ex.refl _ : Ex _ _)⟩
        | true =>
         by_cases hs : set.length ≤ 8
         ·have hsi : (set.length : Int) ≤ 8 := by omega
          have hsd : decide (set.length ≤ 8) = true := decide_eq_true hs
          rw [hsd] at HCC
          go_wp2_with fail
          go_at_call 77
          refine (rrising_is sa _ sc set _ rfl HST.out A HA.out).mono ?_
          rintro e w2 ⟨rfl, hx2⟩
          have HX2 : Hid (Ex W w2) := (hx2 : Ex W w2)
          clear hx2
          go_wp2_with fail
          go_meet
          exact ⟨by rw [← HCC.out]; first | done | rfl, HX2⟩
         ·have hsi : ¬ (set.length : Int) ≤ 8 := by omega
          have hsd : decide (set.length ≤ 8) = false := decide_eq_false hs
          rw [hsd] at HCC
          go_wp2_with fail
          go_meet
          exact ⟨by rw [← HCC.out]; first | done | rfl, (Ex.refl _ : Ex _ _)⟩
    case rest =>
     obtain ⟨rfl, HXd⟩ := hcut
     obtain ⟨d0, d1, d2, d3, d4, d5, d6⟩ := (HP.out.below HXd.out).all
     simp only at d0 d1 d2 d3 d4 d5 d6
     clear c0 c1 c2 c3 c4 c5 c6
     go_wp2_with fail
     go_loopw [10, 9] (fun iv ov wr => ∃ i : Nat, ∃ u : Bool, i ≤ set.length ∧ iv = .int .i64 i ∧ ov = .bool u ∧ Hid ((C && (set.take i).all (fun s => decide (s.length ≤ 40))) = u) ∧ Hid (Ex W wr)) (fun iv ov wr => set.length - (intOf iv).toNat)
     case atStart => exact ⟨0, C, by omega, rfl, rfl, (by simp : (C && (set.take 0).all (fun s => decide (s.length ≤ 40))) = C), HXd⟩
     case round =>
      obtain ⟨i, u, hi, rfl, rfl, HU, HXr⟩ := hrel
      obtain ⟨g0, g1, g2, g3, g4, g5, g6⟩ := (HP.out.below HXr.out).all
      simp only at g0 g1 g2 g3 g4 g5 g6
      by_cases hlt : i < set.length
      ·have hti : (i : Int) < (set.length : Int) := by omega
       obtain ⟨x, hx⟩ : ∃ x, set[i] = x := ⟨_, rfl⟩
       obtain ⟨b, off, hpp, e0⟩ := (HST.out.below HXr.out).at hlt
       rw [hx] at e0
       have hxl : x.length ≤ 1000 := by rw [← hx]; exact HEA.out _ (List.getElem_mem hlt)
       have z9 := str_size x
       have hnx : (C && (set.take (i + 1)).all (fun s => decide (s.length ≤ 40))) = (u && decide (x.length ≤ 40)) := by
        rw [List.take_add_one, List.getElem?_eq_getElem hlt, hx, ← HU.out]
        simp [Bool.and_assoc]
       subst hpp
       clear hx
       cases u with
       | false =>
        have HN : Hid ((C && (set.take (i + 1)).all (fun s => decide (s.length ≤ 40))) = false) := (by rw [hnx]; rfl : _ = false)
        clear hnx
        go_wp2_with fail
        go_roundw
        case rel => exact ⟨i + 1, false, by omega, by go_num, rfl, HN, HXr⟩
        case measure => simp [intOf]; omega
       | true =>
        by_cases h40 : x.length ≤ 40
        ·have h40i : (x.length : Int) ≤ 40 := by omega
         have HN : Hid ((C && (set.take (i + 1)).all (fun s => decide (s.length ≤ 40))) = true) := (by rw [hnx, decide_eq_true h40]; rfl : _ = true)
         clear hnx
         go_wp2_with fail
         go_roundw
         case rel => exact ⟨i + 1, true, by omega, by go_num, rfl, HN, HXr⟩
         case measure => simp [intOf]; omega
        ·have h40i : ¬ (x.length : Int) ≤ 40 := by omega
         have HN : Hid ((C && (set.take (i + 1)).all (fun s => decide (s.length ≤ 40))) = false) := (by rw [hnx, decide_eq_false h40]; rfl : _ = false)
         clear hnx
         go_wp2_with fail
         go_roundw
         case rel => exact ⟨i + 1, false, by omega, by go_num, rfl, HN, HXr⟩
         case measure => simp [intOf]; omega
      ·have hti : ¬ (i : Int) < (set.length : Int) := by omega
       have HE : Hid (u = B) := (by
        have h := HU.out
        rw [List.take_of_length_le (by omega), ← HQ.out] at h
        exact h.symm : u = B)
       go_wp2_with fail
       go_meet
       exact ⟨by rw [HE.out], HXr⟩
  case rest =>
   obtain ⟨rfl, HXd⟩ := hcut
   obtain ⟨d0, d1, d2, d3, d4, d5, d6⟩ := (HP.out.below HXd.out).all
   simp only at d0 d1 d2 d3 d4 d5 d6
   clear c0 c1 c2 c3 c4 c5 c6
   go_wp2_with fail
   go_loopw [11, 9] (fun iv ov wr => ∃ i : Nat, ∃ u : Bool, i ≤ l.length ∧ iv = .int .i64 i ∧ ov = .bool u ∧ Hid ((B && (l.take i).all Pd.form) = u) ∧ Hid (Ex W wr)) (fun iv ov wr => l.length - (intOf iv).toNat)
   case atStart => exact ⟨0, B, by omega, rfl, rfl, (by simp : (B && (l.take 0).all Pd.form) = B), HXd⟩
   case round =>
    obtain ⟨i, u, hi, rfl, rfl, HU, HXr⟩ := hrel
    obtain ⟨g0, g1, g2, g3, g4, g5, g6⟩ := (HP.out.below HXr.out).all
    simp only at g0 g1 g2 g3 g4 g5 g6
    by_cases hlt : i < l.length
    ·have hti : (i : Int) < (l.length : Int) := by omega
     have hLr := Pd.Lay.below _ HLw.out (HXW.out.trans HXr.out)
     obtain ⟨b, off, x, hpp, hbg, hLk, e0, e1, e2, e3, e4, e5, e6⟩ := hLr.kid hlt
     simp only at hpp
     obtain ⟨k, hk⟩ : ∃ k, l[i] = k := ⟨_, rfl⟩
     rw [hk] at hLk
     have hkm2 : k ∈ l := by rw [← hk]; exact List.getElem_mem hlt
     obtain ⟨f, hf⟩ : ∃ f, Pd.form k = f := ⟨_, rfl⟩
     have hnx : (B && (l.take (i + 1)).all Pd.form) = (u && f) := by
      rw [List.take_add_one, List.getElem?_eq_getElem hlt, hk, ← HU.out, ← hf]
      simp [Bool.and_assoc]
     have HC : Hid (Calls Try.prog 53 #[pvv x] wr fun e w' => e = .returned (.bool f) ∧ Ex wr w') := HIH.out k hkm2 x wr hLk (HFK.out k hkm2) f hf
     subst hpp
     clear hLr hLk hk hbg hkm2 hf
     cases u with
     | false =>
      have HN : Hid ((B && (l.take (i + 1)).all Pd.form) = false) := (by rw [hnx]; rfl : _ = false)
      clear hnx HC
      go_wp2_with fail
      go_roundw
      case rel => exact ⟨i + 1, false, by omega, by go_num, rfl, HN, HXr⟩
      case measure => simp [intOf]; omega
     | true =>
      have HN : Hid ((B && (l.take (i + 1)).all Pd.form) = f) := (by rw [hnx]; rfl : _ = f)
      clear hnx
      go_wp2_with fail
      go_at_call 53
      refine Calls.mono HC.out ?_
      rintro e w2 ⟨rfl, hx2⟩
      have HX2 : Hid (Ex W w2) := (HXr.out.trans hx2 : Ex W w2)
      clear hx2 HC
      go_wp2_with fail
      go_roundw
      case rel => exact ⟨i + 1, f, by omega, by go_num, rfl, HN, HX2⟩
      case measure => simp [intOf]; omega
    ·have hti : ¬ (i : Int) < (l.length : Int) := by omega
     have HE : Hid (u = o) := (by
      have h := HU.out
      rw [List.take_of_length_le (by omega), HO.out] at h
      exact h.symm : u = o)
     go_wp2_with fail
     go_ret
     exact ⟨by rw [← HE.out]; rfl, HXW.out.trans HXr.out⟩
end Go.Proofs.Ytibnhjfeepdddaa
namespace Go.Proofs.Ytibnhjfeepdddaa
open Go.RowKit
set_option linter.unusedVariables false
set_option linter.unusedSimpArgs false
set_option maxHeartbeats 16000000 in
set_option maxRecDepth 100000 in
theorem rright_f (h : Hd) (l : List Pr) (ih : ∀ k ∈ l, RightC k) (hk : (h.k < 1 ∨ 8 < h.k)) : RightC (Pr.mk' h l) := by
 intro v w hL hF o ho
 rw [Pd.fine_mk] at hF
 obtain ⟨hFi, hl1, hFk⟩ := hF
 obtain ⟨hHd, hkn, hkB, hkc, hkm, hk0⟩ := hL.head
 obtain ⟨vk, vcol, vn, vm, vs, ⟨sa, sn, sc⟩, ⟨p, n, cap⟩⟩ := v
 simp only at hkn hkB hkc hkm hk0
 subst hkn
 obtain ⟨k, col, hn', m, s, set⟩ := h
 obtain ⟨⟨hv1, hv2, hv3, hv4, hv5⟩, hsn, hB, _⟩ := hHd
 simp only at hv1 hv2 hv3 hv4 hv5 hsn hB
 subst hv1 hv2 hv3 hv4 hv5 hsn
 simp only at hk
 have hs1 := hB.1
 have hs2 := hB.2.1
 unfold maxLen at hkm hs2
 have hc1 : vcol.length ≤ 1000 := hFi.col
 have hc2 : vs.length ≤ 1000 := hFi.s
 have hc3 : set.length ≤ 1000 := hFi.set
 have HEA : Hid (∀ t ∈ set, t.length ≤ 1000) := hFi.each
 have HIH : Hid (∀ k ∈ l, RightC k) := ih
 have HFK : Hid (∀ k ∈ l, Pd.Fine k) := hFk
 have HLw : Hid (Pd.Lay (fun _ => True) (Pr.mk' ⟨vk, vcol, vn, vm, vs, set⟩ l) w ⟨vk, vcol, vn, vm, vs, (sa, set.length, sc), p, l.length, cap⟩) := hL
 obtain ⟨W, hW⟩ : ∃ W, w.alloc (pb ⟨vk, vcol, vn, vm, vs, (sa, set.length, sc), p, l.length, cap⟩) = W := ⟨_, rfl⟩
 have hXW : Ex w W := by rw [← hW]; exact (Below.refl _ _).alloc (Nat.le_refl _) _
 have HXW : Hid (Ex w W) := hXW
 have HP : Hid (PAt W w.heap.size ⟨vk, vcol, vn, vm, vs, (sa, set.length, sc), p, l.length, cap⟩) := (by rw [← hW]; exact PAt.new w _ : PAt W w.heap.size _)
 have HST : Hid (Rd st W sa sc set) := (hB.below hXW : Rd st W sa sc set)
 obtain ⟨B, hBB⟩ : ∃ B, Pd.part ⟨vk, vcol, vn, vm, vs, set⟩ l.length = B := ⟨_, rfl⟩
 have HO : Hid ((B && l.all Pd.form) = o) := (by rw [← ho, Pd.form_mk, hBB] : (B && l.all Pd.form) = o)
 obtain ⟨bc, hbc⟩ : ∃ b, Rw.name vcol = b := ⟨_, rfl⟩
 have HBC : Hid (Rw.name vcol = bc) := hbc
 obtain ⟨bn, hbn⟩ : ∃ b, vcol.isEmpty = b := ⟨_, rfl⟩
 obtain ⟨n0, hn0⟩ : ∃ b, (vn == 0) = b := ⟨_, rfl⟩
 obtain ⟨m0, hm0⟩ : ∃ b, (vm == 0) = b := ⟨_, rfl⟩
 obtain ⟨ts, hts⟩ : ∃ b, vs.isEmpty = b := ⟨_, rfl⟩
 obtain ⟨ss, hss⟩ : ∃ b, ((set.length : Int) == 0) = b := ⟨_, rfl⟩
 obtain ⟨ks, hks⟩ : ∃ b, ((l.length : Int) == 0) = b := ⟨_, rfl⟩
 obtain ⟨nm, hnm⟩ : ∃ b, (n0 && m0) = b := ⟨_, rfl⟩
 have hpo := part_of vk vcol vn vm vs set l.length bc bn n0 m0 ts ss ks hbc hbn hn0 hm0 hts hss hks
 rw [hnm, hBB] at hpo
 have HPO : Hid (B = _) := hpo
 have HNM : Hid ((n0 && m0) = nm) := hnm
 obtain ⟨c0, c1, c2, c3, c4, c5, c6⟩ := HP.out.all
 simp only at c0 c1 c2 c3 c4 c5 c6
 have HWW : Hid (w.alloc (pb ⟨vk, vcol, vn, vm, vs, (sa, set.length, sc), p, l.length, cap⟩) = W) := hW
 have z1 := str_toList vcol
 have z2 := str_toList vs
 have z3 := str_size vs
 clear hL hFi hFk hkB hB hbc ih hXW hpo ho hBB hnm
 unfold pvv
 simp only [sv]
 go_enter Try.func53, Try.ntmps53
 go_wp2_with fail
 go_at_call 76
 refine (rname_is vcol W (by unfold maxLen; omega) bc HBC.out).mono ?_
 rintro e w1 ⟨rfl, hw⟩
 replace hw := hw.symm
 subst hw
 clear hW
 go_upto_region 3 with fail
 go_cut [5] (fun v wc => v = .bool nm ∧ wc = W)
 case first =>
  cases n0 with
  | false =>
   go_wp2_with fail
   go_meet
   exact ⟨by rw [← HNM.out]; rfl, rfl⟩
  | true =>
   go_wp2_with fail
   go_meet
   exact ⟨by rw [← HNM.out]; rfl, rfl⟩
 case rest =>
  obtain ⟨rfl, hwc⟩ := hcut
  replace hwc := hwc.symm
  subst hwc
  go_upto_block 0 with fail
  go_cut [9] (fun v wd => v = .bool B ∧ Hid (Ex W wd))
  case first =>
   have HQ0 := HPO.out
   rw [if_neg (by omega), if_neg (by omega), if_neg (by omega), if_neg (by omega), if_neg (by omega)] at HQ0
   by_cases k9 : vk = 9
   ·have HQ : Hid (B = _) := (by rw [if_pos k9] at HQ0; exact HQ0 : B = (bc && nm && ts && ss && ks))
    subst k9
    clear HQ0 HPO
    go_upto_region 27 with fail
    cases bc with
    | false =>
     go_wp2_with fail
     go_meet
     exact ⟨by rw [HQ.out]; first | done | rfl, (Ex.refl _ : Ex _ _)⟩
    | true =>
     cases nm with
     | false =>
      go_wp2_with fail
      go_meet
      exact ⟨by rw [HQ.out]; first | done | rfl, (Ex.refl _ : Ex _ _)⟩
     | true =>
      cases ts with
      | false =>
       go_wp2_with fail
       go_meet
       exact ⟨by rw [HQ.out]; first | done | rfl, (Ex.refl _ : Ex _ _)⟩
      | true =>
       cases ss with
       | false =>
        go_wp2_with fail
        go_meet
        exact ⟨by rw [HQ.out]; first | done | rfl, (Ex.refl _ : Ex _ _)⟩
       | true =>
        go_wp2_with fail
        go_meet
        exact ⟨by rw [HQ.out]; first | done | rfl, (Ex.refl _ : Ex _ _)⟩
   rw [if_neg (by omega)] at HQ0
   by_cases k10 : vk = 10
   ·have HQ : Hid (B = _) := (by rw [if_pos k10] at HQ0; exact HQ0 : B = (bn && ts && ss && ks))
    subst k10
    clear HQ0 HPO
    go_upto_region 29 with fail
    cases bn with
    | false =>
     go_wp2_with fail
     go_meet
     exact ⟨by rw [HQ.out]; first | done | rfl, (Ex.refl _ : Ex _ _)⟩
    | true =>
     cases ts with
     | false =>
      go_wp2_with fail
      go_meet
      exact ⟨by rw [HQ.out]; first | done | rfl, (Ex.refl _ : Ex _ _)⟩
     | true =>
      cases ss with
      | false =>
       go_wp2_with fail
       go_meet
       exact ⟨by rw [HQ.out]; first | done | rfl, (Ex.refl _ : Ex _ _)⟩
      | true =>
       go_wp2_with fail
       go_meet
       exact ⟨by rw [HQ.out]; first | done | rfl, (Ex.refl _ : Ex _ _)⟩
   have k1 : ¬ vk = 1 := by omega
   have k2 : ¬ vk = 2 := by omega
   have k3 : ¬ vk = 3 := by omega
   have k4 : ¬ vk = 4 := by omega
   have k5 : ¬ vk = 5 := by omega
   have k6 : ¬ vk = 6 := by omega
   have k7 : ¬ vk = 7 := by omega
   have k8 : ¬ vk = 8 := by omega
   rw [if_neg (by omega)] at HQ0
   have HQ : Hid (B = false) := HQ0
   clear HQ0 HPO
   have t1 : (vk == 1) = false := beq_eq_false_iff_ne.2 k1
   have t2 : (vk == 2) = false := beq_eq_false_iff_ne.2 k2
   have t3 : (vk == 3) = false := beq_eq_false_iff_ne.2 k3
   have t4 : (vk == 4) = false := beq_eq_false_iff_ne.2 k4
   have t5 : (vk == 5) = false := beq_eq_false_iff_ne.2 k5
   have t6 : (vk == 6) = false := beq_eq_false_iff_ne.2 k6
   have t7 : (vk == 7) = false := beq_eq_false_iff_ne.2 k7
   have t8 : (vk == 8) = false := beq_eq_false_iff_ne.2 k8
   have t9 : (vk == 9) = false := beq_eq_false_iff_ne.2 k9
   have t10 : (vk == 10) = false := beq_eq_false_iff_ne.2 k10
   go_wp2_with fail
   go_meet
   exact ⟨by rw [HQ.out]; first | done | rfl, (Ex.refl _ : Ex _ _)⟩
  case rest =>
   obtain ⟨rfl, HXd⟩ := hcut
   obtain ⟨d0, d1, d2, d3, d4, d5, d6⟩ := (HP.out.below HXd.out).all
   simp only at d0 d1 d2 d3 d4 d5 d6
   clear c0 c1 c2 c3 c4 c5 c6
   go_wp2_with fail
   go_loopw [11, 9] (fun iv ov wr => ∃ i : Nat, ∃ u : Bool, i ≤ l.length ∧ iv = .int .i64 i ∧ ov = .bool u ∧ Hid ((B && (l.take i).all Pd.form) = u) ∧ Hid (Ex W wr)) (fun iv ov wr => l.length - (intOf iv).toNat)
   case atStart => exact ⟨0, B, by omega, rfl, rfl, (by simp : (B && (l.take 0).all Pd.form) = B), HXd⟩
   case round =>
    obtain ⟨i, u, hi, rfl, rfl, HU, HXr⟩ := hrel
    obtain ⟨g0, g1, g2, g3, g4, g5, g6⟩ := (HP.out.below HXr.out).all
    simp only at g0 g1 g2 g3 g4 g5 g6
    by_cases hlt : i < l.length
    ·have hti : (i : Int) < (l.length : Int) := by omega
     have hLr := Pd.Lay.below _ HLw.out (HXW.out.trans HXr.out)
     obtain ⟨b, off, x, hpp, hbg, hLk, e0, e1, e2, e3, e4, e5, e6⟩ := hLr.kid hlt
     simp only at hpp
     obtain ⟨k, hk⟩ : ∃ k, l[i] = k := ⟨_, rfl⟩
     rw [hk] at hLk
     have hkm2 : k ∈ l := by rw [← hk]; exact List.getElem_mem hlt
     obtain ⟨f, hf⟩ : ∃ f, Pd.form k = f := ⟨_, rfl⟩
     have hnx : (B && (l.take (i + 1)).all Pd.form) = (u && f) := by
      rw [List.take_add_one, List.getElem?_eq_getElem hlt, hk, ← HU.out, ← hf]
      simp [Bool.and_assoc]
     have HC : Hid (Calls Try.prog 53 #[pvv x] wr fun e w' => e = .returned (.bool f) ∧ Ex wr w') := HIH.out k hkm2 x wr hLk (HFK.out k hkm2) f hf
     subst hpp
     clear hLr hLk hk hbg hkm2 hf
     cases u with
     | false =>
      have HN : Hid ((B && (l.take (i + 1)).all Pd.form) = false) := (by rw [hnx]; rfl : _ = false)
      clear hnx HC
      go_wp2_with fail
      go_roundw
      case rel => exact ⟨i + 1, false, by omega, by go_num, rfl, HN, HXr⟩
      case measure => simp [intOf]; omega
     | true =>
      have HN : Hid ((B && (l.take (i + 1)).all Pd.form) = f) := (by rw [hnx]; rfl : _ = f)
      clear hnx
      go_wp2_with fail
      go_at_call 53
      refine Calls.mono HC.out ?_
      rintro e w2 ⟨rfl, hx2⟩
      have HX2 : Hid (Ex W w2) := (HXr.out.trans hx2 : Ex W w2)
      clear hx2 HC
      go_wp2_with fail
      go_roundw
      case rel => exact ⟨i + 1, f, by omega, by go_num, rfl, HN, HX2⟩
      case measure => simp [intOf]; omega
    ·have hti : ¬ (i : Int) < (l.length : Int) := by omega
     have HE : Hid (u = o) := (by
      have h := HU.out
      rw [List.take_of_length_le (by omega), HO.out] at h
      exact h.symm : u = o)
     go_wp2_with fail
     go_ret
     exact ⟨by rw [← HE.out]; rfl, HXW.out.trans HXr.out⟩
end Go.Proofs.Ytibnhjfeepdddaa
namespace Go.Proofs.Ytibnhjfeepdddaa
open Go.RowKit
set_option linter.unusedVariables false
set_option linter.unusedSimpArgs false
theorem rright_is : ∀ q : Pr, RightC q := by
 refine Pd.tree ?_
 intro h l ih
 by_cases h1 : h.k = 1 ∨ h.k = 2
 ·exact rright_a h l ih h1
 by_cases h2 : h.k = 3 ∨ h.k = 4
 ·exact rright_b h l ih h2
 by_cases h3 : h.k = 5 ∨ h.k = 6
 ·exact rright_c h l ih h3
 by_cases h4 : h.k = 8
 ·exact rright_d h l ih h4
 by_cases h5 : h.k = 7
 ·exact rright_e h l ih h5
 ·exact rright_f h l ih (by omega)
end Go.Proofs.Ytibnhjfeepdddaa
namespace Go.Proofs.Ytibnhjfeepdddaa
open Go.RowKit
set_option linter.unusedVariables false
set_option linter.unusedSimpArgs false
set_option maxHeartbeats 4000000 in
set_option maxRecDepth 100000 in
theorem rRight_is (q : Pr) (v : PV) (w : World) (h : Pd.Lay (fun _ => True) q w v) (hF : Pd.Fine q) (hs : Pd.size q ≤ 1000000000) (o : Bool) (ho : Pd.right q = o) : Calls Try.prog 30 #[pvv v] w fun e w' => e = .returned (.bool o) ∧ Ex w w' := by
 obtain ⟨vk, vcol, vn, vm, vs, vset, vkids⟩ := v
 obtain ⟨W, hW⟩ : ∃ W, w.alloc (pb ⟨vk, vcol, vn, vm, vs, vset, vkids⟩) = W := ⟨_, rfl⟩
 have hXW : Ex w W := by rw [← hW]; exact (Below.refl _ _).alloc (Nat.le_refl _) _
 have HXW : Hid (Ex w W) := hXW
 have HP : Hid (PAt W w.heap.size ⟨vk, vcol, vn, vm, vs, vset, vkids⟩) := (by rw [← hW]; exact PAt.new w _ : PAt W w.heap.size _)
 have HL : Hid (Pd.Lay (fun _ => True) q W ⟨vk, vcol, vn, vm, vs, vset, vkids⟩) := (Pd.Lay.below _ h hXW : Pd.Lay _ _ W _)
 have HF : Hid (Pd.Fine q) := hF
 have hdp := Pd.deep_size q
 obtain ⟨D, hD⟩ : ∃ D, Pd.deep q = D := ⟨_, rfl⟩
 obtain ⟨S, hS⟩ : ∃ S, Pd.size q = S := ⟨_, rfl⟩
 obtain ⟨f, hf⟩ : ∃ f, Pd.form q = f := ⟨_, rfl⟩
 have HO : Hid ((decide (D ≤ 6) && decide (S ≤ 40) && f) = o) := (by rw [← ho, Pd.right, hD, hS, hf] : (decide (D ≤ 6) && decide (S ≤ 40) && f) = o)
 have HFF : Hid (Pd.form q = f) := hf
 have HCD : Hid (Calls Try.prog 52 #[pvv ⟨vk, vcol, vn, vm, vs, vset, vkids⟩] W fun e w' => e = .returned (.int .i64 (D : Int)) ∧ Ex W w') := (by
  have h := rdeep_is q _ W HL.out (by omega)
  rw [hD] at h
  exact h : Calls _ _ _ _ _)
 have HSS : Hid (∀ w1, Ex W w1 → Calls Try.prog 16 #[pvv ⟨vk, vcol, vn, vm, vs, vset, vkids⟩] w1 fun e w' => e = .returned (.int .i64 (S : Int)) ∧ Ex w1 w') := (by
  intro w1 h1
  have h := rsize_is q _ w1 (Pd.Lay.below _ HL.out h1) (by omega)
  rw [hS] at h
  exact h : ∀ w1, Ex W w1 → Calls _ _ _ _ _)
 rw [hS] at hs
 rw [hD, hS] at hdp
 obtain ⟨c0, c1, c2, c3, c4, c5, c6⟩ := HP.out.all
 simp only at c0 c1 c2 c3 c4 c5 c6
 clear h hF hXW hD hS hf ho
 unfold pvv
 simp only [sv]
 go_enter Try.func30, Try.ntmps30
 go_wp2_with fail
 go_at_call 52
 refine Calls.mono HCD.out ?_
 rintro e w1 ⟨rfl, hx1⟩
 have HX1 : Hid (Ex W w1) := (hx1 : Ex W w1)
 obtain ⟨d0, d1, d2, d3, d4, d5, d6⟩ := (HP.out.below hx1).all
 simp only at d0 d1 d2 d3 d4 d5 d6
 clear hx1 c0 c1 c2 c3 c4 c5 c6 HCD
 by_cases hd : D ≤ 6
 ·have hdi : (D : Int) ≤ 6 := by omega
  go_wp2_with fail
  go_at_call 16
  refine Calls.mono (HSS.out w1 HX1.out) ?_
  rintro e w2 ⟨rfl, hx2⟩
  have HX2 : Hid (Ex W w2) := (HX1.out.trans hx2 : Ex W w2)
  obtain ⟨c0, c1, c2, c3, c4, c5, c6⟩ := (HP.out.below HX2.out).all
  simp only at c0 c1 c2 c3 c4 c5 c6
  clear hx2 d0 d1 d2 d3 d4 d5 d6
  by_cases hz : S ≤ 40
  ·have hzi : (S : Int) ≤ 40 := by omega
   have HE : Hid (f = o) := (by rw [← HO.out, decide_eq_true hd, decide_eq_true hz]; rfl : f = o)
   go_wp2_with fail
   go_at_call 53
   refine Calls.mono (rright_is q _ w2 (Pd.Lay.below _ HL.out HX2.out) HF.out f HFF.out) ?_
   rintro e w3 ⟨rfl, hx3⟩
   have HX3 : Hid (Ex w w3) := (HXW.out.trans (HX2.out.trans hx3) : Ex w w3)
   clear hx3
   go_wp2_with fail
   go_ret
   exact ⟨by rw [← HE.out]; rfl, HX3.out⟩
  ·have hzi : ¬ (S : Int) ≤ 40 := by omega
   have HE : Hid (o = false) := (by rw [← HO.out, decide_eq_false hz]; simp : o = false)
   go_wp2_with fail
   go_ret
   exact ⟨by rw [HE.out]; rfl, HXW.out.trans HX2.out⟩
 ·have hdi : ¬ (D : Int) ≤ 6 := by omega
  have HE : Hid (o = false) := (by rw [← HO.out, decide_eq_false hd]; simp : o = false)
  go_wp2_with fail
  go_ret
  exact ⟨by rw [HE.out]; rfl, HXW.out.trans HX1.out⟩
end Go.Proofs.Ytibnhjfeepdddaa
namespace Go.Proofs.Ytibnhjfeepdddaa
open Go.RowKit
set_option linter.unusedVariables false
set_option linter.unusedSimpArgs false
/-- What normal answers: it may share the memory of what came in. -/
def NormB (b : Bool) (k : Pr) : Prop := ∀ (B : Nat → Prop) (v : PV) (w : World), Pd.Lay B k w v → (∀ x, B x → x < w.heap.size) → Pd.form k = true → Pd.size k ≤ 40 → Calls Try.prog 57 #[pvv v, .bool b] w fun e w' => ∃ u, e = .returned (pvv u) ∧ Pd.Lay (fun x => B x ∨ w.heap.size ≤ x) (Pd.nrm k b) w' u ∧ Ex w w'
/-- Both ways. -/
def NormC (k : Pr) : Prop := ∀ b, NormB b k
end Go.Proofs.Ytibnhjfeepdddaa
