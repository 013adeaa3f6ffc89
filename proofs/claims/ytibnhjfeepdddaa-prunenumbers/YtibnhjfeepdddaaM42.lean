/-
  The document's own right, of some kinds. The document's own right, of some kinds. The document's own right, of some kinds.
-/
import Derived.Test.YtibnhjfeepdddaaM41
namespace Go.Proofs.Ytibnhjfeepdddaa
open Go.RowKit
set_option linter.unusedVariables false
set_option linter.unusedSimpArgs false
set_option maxHeartbeats 16000000 in
set_option maxRecDepth 100000 in
theorem rright_b (h : Hd) (l : List Pr) (ih : ∀ k ∈ l, RightC k) (hk : h.k = 3 ∨ h.k = 4) : RightC (Pr.mk' h l) := by
 intro v w hL hF o ho
 rw [Pd.fine_mk] at hF
 obtain ⟨hFi, hl1, hFk⟩ := hF
 obtain ⟨hHd, hkn, hkB, hkc, hkm, hk0⟩ := hL.head
 obtain ⟨vk, vcol, vn, vm, vs, ⟨sa, sn, sc⟩, ⟨p, n, cap⟩⟩ := v
 simp only at hkn hkB hkc hkm hk0
 subst hkn
 obtain ⟨k, col, hn', m, s, set⟩ := h
 obtain ⟨⟨hv1, hv2, hv3, hv4, hv5⟩, hsn, hB, _⟩ := hHd
 simp only at hv1 hv2 hv3 hv4 hv5 hsn hB
 subst hv1 hv2 hv3 hv4 hv5 hsn
 simp only at hk
 have hs1 := hB.1
 have hs2 := hB.2.1
 unfold maxLen at hkm hs2
 have hc1 : vcol.length ≤ 1000 := hFi.col
 have hc2 : vs.length ≤ 1000 := hFi.s
 have hc3 : set.length ≤ 1000 := hFi.set
 have HEA : Hid (∀ t ∈ set, t.length ≤ 1000) := hFi.each
 have HIH : Hid (∀ k ∈ l, RightC k) := ih
 have HFK : Hid (∀ k ∈ l, Pd.Fine k) := hFk
 have HLw : Hid (Pd.Lay (fun _ => True) (Pr.mk' ⟨vk, vcol, vn, vm, vs, set⟩ l) w ⟨vk, vcol, vn, vm, vs, (sa, set.length, sc), p, l.length, cap⟩) := hL
 obtain ⟨W, hW⟩ : ∃ W, w.alloc (pb ⟨vk, vcol, vn, vm, vs, (sa, set.length, sc), p, l.length, cap⟩) = W := ⟨_, rfl⟩
 have hXW : Ex w W := by rw [← hW]; exact (Below.refl _ _).alloc (Nat.le_refl _) _
 have HXW : Hid (Ex w W) := hXW
 have HP : Hid (PAt W w.heap.size ⟨vk, vcol, vn, vm, vs, (sa, set.length, sc), p, l.length, cap⟩) := (by rw [← hW]; exact PAt.new w _ : PAt W w.heap.size _)
 have HST : Hid (Rd st W sa sc set) := (hB.below hXW : Rd st W sa sc set)
 obtain ⟨B, hBB⟩ : ∃ B, Pd.part ⟨vk, vcol, vn, vm, vs, set⟩ l.length = B := ⟨_, rfl⟩
 have HO : Hid ((B && l.all Pd.form) = o) := (by rw [← ho, Pd.form_mk, hBB] : (B && l.all Pd.form) = o)
 obtain ⟨bc, hbc⟩ : ∃ b, Rw.name vcol = b := ⟨_, rfl⟩
 have HBC : Hid (Rw.name vcol = bc) := hbc
 obtain ⟨bn, hbn⟩ : ∃ b, vcol.isEmpty = b := ⟨_, rfl⟩
 obtain ⟨n0, hn0⟩ : ∃ b, (vn == 0) = b := ⟨_, rfl⟩
 obtain ⟨m0, hm0⟩ : ∃ b, (vm == 0) = b := ⟨_, rfl⟩
 obtain ⟨ts, hts⟩ : ∃ b, vs.isEmpty = b := ⟨_, rfl⟩
 obtain ⟨ss, hss⟩ : ∃ b, ((set.length : Int) == 0) = b := ⟨_, rfl⟩
 obtain ⟨ks, hks⟩ : ∃ b, ((l.length : Int) == 0) = b := ⟨_, rfl⟩
 obtain ⟨nm, hnm⟩ : ∃ b, (n0 && m0) = b := ⟨_, rfl⟩
 have hpo := part_of vk vcol vn vm vs set l.length bc bn n0 m0 ts ss ks hbc hbn hn0 hm0 hts hss hks
 rw [hnm, hBB] at hpo
 have HPO : Hid (B = _) := hpo
 have HNM : Hid ((n0 && m0) = nm) := hnm
 obtain ⟨c0, c1, c2, c3, c4, c5, c6⟩ := HP.out.all
 simp only at c0 c1 c2 c3 c4 c5 c6
 have HWW : Hid (w.alloc (pb ⟨vk, vcol, vn, vm, vs, (sa, set.length, sc), p, l.length, cap⟩) = W) := hW
 have z1 := str_toList vcol
 have z2 := str_toList vs
 have z3 := str_size vs
 clear hL hFi hFk hkB hB hbc ih hXW hpo ho hBB hnm
 unfold pvv
 simp only [sv]
 go_enter Try.func53, Try.ntmps53
 go_wp2_with fail
 go_at_call 76
 refine (rname_is vcol W (by unfold maxLen; omega) bc HBC.out).mono ?_
 rintro e w1 ⟨rfl, hw⟩
 replace hw := hw.symm
 subst hw
 clear hW
 go_upto_region 3 with fail
 go_cut [5] (fun v wc => v = .bool nm ∧ wc = W)
 case first =>
  cases n0 with
  | false =>
   go_wp2_with fail
   go_meet
   exact ⟨by rw [← HNM.out]; rfl, rfl⟩
  | true =>
   go_wp2_with fail
   go_meet
   exact ⟨by rw [← HNM.out]; rfl, rfl⟩
 case rest =>
  obtain ⟨rfl, hwc⟩ := hcut
  replace hwc := hwc.symm
  subst hwc
  go_upto_block 0 with fail
  go_cut [9] (fun v wd => v = .bool B ∧ Hid (Ex W wd))
  case first =>
   have HQ0 := HPO.out
   rw [if_neg (by omega)] at HQ0
   by_cases k3 : vk = 3
   ·have HQ : Hid (B = _) := (by rw [if_pos (by omega)] at HQ0; exact HQ0 : B = (bn && nm && ts && ss && decide (l.length = 1)))
    subst k3
    obtain ⟨lb, hlb⟩ : ∃ b, ((l.length : Int) == 1) = b := ⟨_, rfl⟩
    have hlb2 : decide (l.length = 1) = lb := by rw [← hlb, int_eq]; congr 1; exact propext (by omega)
    rw [hlb2] at HQ
    clear HQ0 HPO hlb2
    go_upto_region 13 with fail
    cases bn with
    | false =>
     go_wp2_with fail
     go_meet
     exact ⟨by rw [HQ.out]; first | done | rfl, (Ex.refl _ : Ex _ _)⟩
    | true =>
     cases nm with
     | false =>
      go_wp2_with fail
      go_meet
      exact ⟨by rw [HQ.out]; first | done | rfl, (Ex.refl _ : Ex _ _)⟩
     | true =>
      cases ts with
      | false =>
       go_wp2_with fail
       go_meet
       exact ⟨by rw [HQ.out]; first | done | rfl, (Ex.refl _ : Ex _ _)⟩
      | true =>
       cases ss with
       | false =>
        go_wp2_with fail
        go_meet
        exact ⟨by rw [HQ.out]; first | done | rfl, (Ex.refl _ : Ex _ _)⟩
       | true =>
        go_wp2_with fail
        go_meet
        exact ⟨by rw [HQ.out]; first | done | rfl, (Ex.refl _ : Ex _ _)⟩
   have k4 : vk = 4 := by omega
   rw [if_neg (by omega)] at HQ0
   ·have HQ : Hid (B = _) := (by rw [if_pos (by omega)] at HQ0; exact HQ0 : B = (bc && m0 && ts && ss && ks))
    subst k4
    clear HQ0 HPO
    go_upto_region 16 with fail
    cases bc with
    | false =>
     go_wp2_with fail
     go_meet
     exact ⟨by rw [HQ.out]; first | done | rfl, (Ex.refl _ : Ex _ _)⟩
    | true =>
     cases m0 with
     | false =>
      go_wp2_with fail
      go_meet
      exact ⟨by rw [HQ.out]; first | done | rfl, (Ex.refl _ : Ex _ _)⟩
     | true =>
      cases ts with
      | false =>
       go_wp2_with fail
       go_meet
       exact ⟨by rw [HQ.out]; first | done | rfl, (Ex.refl _ : Ex _ _)⟩
      | true =>
       cases ss with
       | false =>
        go_wp2_with fail
        go_meet
        exact ⟨by rw [HQ.out]; first | done | rfl, (Ex.refl _ : Ex _ _)⟩
       | true =>
        go_wp2_with fail
        go_meet
        exact ⟨by rw [HQ.out]; first | done | rfl, (Ex.refl _ : Ex _ _)⟩
  case rest =>
   obtain ⟨rfl, HXd⟩ := hcut
   obtain ⟨d0, d1, d2, d3, d4, d5, d6⟩ := (HP.out.below HXd.out).all
   simp only at d0 d1 d2 d3 d4 d5 d6
   clear c0 c1 c2 c3 c4 c5 c6
   go_wp2_with fail
   go_loopw [11, 9] (fun iv ov wr => ∃ i : Nat, ∃ u : Bool, i ≤ l.length ∧ iv = .int .i64 i ∧ ov = .bool u ∧ Hid ((B && (l.take i).all Pd.form) = u) ∧ Hid (Ex W wr)) (fun iv ov wr => l.length - (intOf iv).toNat)
   case atStart => exact ⟨0, B, by omega, rfl, rfl, (by simp : (B && (l.take 0).all Pd.form) = B), HXd⟩
   case round =>
    obtain ⟨i, u, hi, rfl, rfl, HU, HXr⟩ := hrel
    obtain ⟨g0, g1, g2, g3, g4, g5, g6⟩ := (HP.out.below HXr.out).all
    simp only at g0 g1 g2 g3 g4 g5 g6
    by_cases hlt : i < l.length
    ·have hti : (i : Int) < (l.length : Int) := by omega
     have hLr := Pd.Lay.below _ HLw.out (HXW.out.trans HXr.out)
     obtain ⟨b, off, x, hpp, hbg, hLk, e0, e1, e2, e3, e4, e5, e6⟩ := hLr.kid hlt
     simp only at hpp
     obtain ⟨k, hk⟩ : ∃ k, l[i] = k := ⟨_, rfl⟩
     rw [hk] at hLk
     have hkm2 : k ∈ l := by rw [← hk]; exact List.getElem_mem hlt
     obtain ⟨f, hf⟩ : ∃ f, Pd.form k = f := ⟨_, rfl⟩
     have hnx : (B && (l.take (i + 1)).all Pd.form) = (u && f) := by
      rw [List.take_add_one, List.getElem?_eq_getElem hlt, hk, ← HU.out, ← hf]
      simp [Bool.and_assoc]
     have HC : Hid (Calls Try.prog 53 #[pvv x] wr fun e w' => e = .returned (.bool f) ∧ Ex wr w') := HIH.out k hkm2 x wr hLk (HFK.out k hkm2) f hf
     subst hpp
     clear hLr hLk hk hbg hkm2 hf
     cases u with
     | false =>
      have HN : Hid ((B && (l.take (i + 1)).all Pd.form) = false) := (by rw [hnx]; rfl : _ = false)
      clear hnx HC
      go_wp2_with fail
      go_roundw
      case rel => exact ⟨i + 1, false, by omega, by go_num, rfl, HN, HXr⟩
      case measure => simp [intOf]; omega
     | true =>
      have HN : Hid ((B && (l.take (i + 1)).all Pd.form) = f) := (by rw [hnx]; rfl : _ = f)
      clear hnx
      go_wp2_with fail
      go_at_call 53
      refine Calls.mono HC.out ?_
      rintro e w2 ⟨rfl, hx2⟩
      have HX2 : Hid (Ex W w2) := (HXr.out.trans hx2 : Ex W w2)
      clear hx2 HC
      go_wp2_with fail
      go_roundw
      case rel => exact ⟨i + 1, f, by omega, by go_num, rfl, HN, HX2⟩
      case measure => simp [intOf]; omega
    ·have hti : ¬ (i : Int) < (l.length : Int) := by omega
     have HE : Hid (u = o) := (by
      have h := HU.out
      rw [List.take_of_length_le (by omega), HO.out] at h
      exact h.symm : u = o)
     go_wp2_with fail
     go_ret
     exact ⟨by rw [← HE.out]; rfl, HXW.out.trans HXr.out⟩
end Go.Proofs.Ytibnhjfeepdddaa
namespace Go.Proofs.Ytibnhjfeepdddaa
open Go.RowKit
set_option linter.unusedVariables false
set_option linter.unusedSimpArgs false
set_option maxHeartbeats 16000000 in
set_option maxRecDepth 100000 in
theorem rright_c (h : Hd) (l : List Pr) (ih : ∀ k ∈ l, RightC k) (hk : h.k = 5 ∨ h.k = 6) : RightC (Pr.mk' h l) := by
 intro v w hL hF o ho
 rw [Pd.fine_mk] at hF
 obtain ⟨hFi, hl1, hFk⟩ := hF
 obtain ⟨hHd, hkn, hkB, hkc, hkm, hk0⟩ := hL.head
 obtain ⟨vk, vcol, vn, vm, vs, ⟨sa, sn, sc⟩, ⟨p, n, cap⟩⟩ := v
 simp only at hkn hkB hkc hkm hk0
 subst hkn
 obtain ⟨k, col, hn', m, s, set⟩ := h
 obtain ⟨⟨hv1, hv2, hv3, hv4, hv5⟩, hsn, hB, _⟩ := hHd
 simp only at hv1 hv2 hv3 hv4 hv5 hsn hB
 subst hv1 hv2 hv3 hv4 hv5 hsn
 simp only at hk
 have hs1 := hB.1
 have hs2 := hB.2.1
 unfold maxLen at hkm hs2
 have hc1 : vcol.length ≤ 1000 := hFi.col
 have hc2 : vs.length ≤ 1000 := hFi.s
 have hc3 : set.length ≤ 1000 := hFi.set
 have HEA : Hid (∀ t ∈ set, t.length ≤ 1000) := hFi.each
 have HIH : Hid (∀ k ∈ l, RightC k) := ih
 have HFK : Hid (∀ k ∈ l, Pd.Fine k) := hFk
 have HLw : Hid (Pd.Lay (fun _ => True) (Pr.mk' ⟨vk, vcol, vn, vm, vs, set⟩ l) w ⟨vk, vcol, vn, vm, vs, (sa, set.length, sc), p, l.length, cap⟩) := hL
 obtain ⟨W, hW⟩ : ∃ W, w.alloc (pb ⟨vk, vcol, vn, vm, vs, (sa, set.length, sc), p, l.length, cap⟩) = W := ⟨_, rfl⟩
 have hXW : Ex w W := by rw [← hW]; exact (Below.refl _ _).alloc (Nat.le_refl _) _
 have HXW : Hid (Ex w W) := hXW
 have HP : Hid (PAt W w.heap.size ⟨vk, vcol, vn, vm, vs, (sa, set.length, sc), p, l.length, cap⟩) := (by rw [← hW]; exact PAt.new w _ : PAt W w.heap.size _)
 have HST : Hid (Rd st W sa sc set) := (hB.below hXW : Rd st W sa sc set)
 obtain ⟨B, hBB⟩ : ∃ B, Pd.part ⟨vk, vcol, vn, vm, vs, set⟩ l.length = B := ⟨_, rfl⟩
 have HO : Hid ((B && l.all Pd.form) = o) := (by rw [← ho, Pd.form_mk, hBB] : (B && l.all Pd.form) = o)
 obtain ⟨bc, hbc⟩ : ∃ b, Rw.name vcol = b := ⟨_, rfl⟩
 have HBC : Hid (Rw.name vcol = bc) := hbc
 obtain ⟨bn, hbn⟩ : ∃ b, vcol.isEmpty = b := ⟨_, rfl⟩
 obtain ⟨n0, hn0⟩ : ∃ b, (vn == 0) = b := ⟨_, rfl⟩
 obtain ⟨m0, hm0⟩ : ∃ b, (vm == 0) = b := ⟨_, rfl⟩
 obtain ⟨ts, hts⟩ : ∃ b, vs.isEmpty = b := ⟨_, rfl⟩
 obtain ⟨ss, hss⟩ : ∃ b, ((set.length : Int) == 0) = b := ⟨_, rfl⟩
 obtain ⟨ks, hks⟩ : ∃ b, ((l.length : Int) == 0) = b := ⟨_, rfl⟩
 obtain ⟨nm, hnm⟩ : ∃ b, (n0 && m0) = b := ⟨_, rfl⟩
 have hpo := part_of vk vcol vn vm vs set l.length bc bn n0 m0 ts ss ks hbc hbn hn0 hm0 hts hss hks
 rw [hnm, hBB] at hpo
 have HPO : Hid (B = _) := hpo
 have HNM : Hid ((n0 && m0) = nm) := hnm
 obtain ⟨c0, c1, c2, c3, c4, c5, c6⟩ := HP.out.all
 simp only at c0 c1 c2 c3 c4 c5 c6
 have HWW : Hid (w.alloc (pb ⟨vk, vcol, vn, vm, vs, (sa, set.length, sc), p, l.length, cap⟩) = W) := hW
 have z1 := str_toList vcol
 have z2 := str_toList vs
 have z3 := str_size vs
 clear hL hFi hFk hkB hB hbc ih hXW hpo ho hBB hnm
 unfold pvv
 simp only [sv]
 go_enter Try.func53, Try.ntmps53
 go_wp2_with fail
 go_at_call 76
 refine (rname_is vcol W (by unfold maxLen; omega) bc HBC.out).mono ?_
 rintro e w1 ⟨rfl, hw⟩
 replace hw := hw.symm
 subst hw
 clear hW
 go_upto_region 3 with fail
 go_cut [5] (fun v wc => v = .bool nm ∧ wc = W)
 case first =>
  cases n0 with
  | false =>
   go_wp2_with fail
   go_meet
   exact ⟨by rw [← HNM.out]; rfl, rfl⟩
  | true =>
   go_wp2_with fail
   go_meet
   exact ⟨by rw [← HNM.out]; rfl, rfl⟩
 case rest =>
  obtain ⟨rfl, hwc⟩ := hcut
  replace hwc := hwc.symm
  subst hwc
  go_upto_block 0 with fail
  go_cut [9] (fun v wd => v = .bool B ∧ Hid (Ex W wd))
  case first =>
   have HQ0 := HPO.out
   rw [if_neg (by omega), if_neg (by omega)] at HQ0
   by_cases k5 : vk = 5
   ·have HQ : Hid (B = _) := (by rw [if_pos (by omega)] at HQ0; exact HQ0 : B = (bc && m0 && ts && ss && ks))
    subst k5
    clear HQ0 HPO
    go_upto_region 16 with fail
    cases bc with
    | false =>
     go_wp2_with fail
     go_meet
     exact ⟨by rw [HQ.out]; first | done | rfl, (Ex.refl _ : Ex _ _)⟩
    | true =>
     cases m0 with
     | false =>
      go_wp2_with fail
      go_meet
      exact ⟨by rw [HQ.out]; first | done | rfl, (Ex.refl _ : Ex _ _)⟩
     | true =>
      cases ts with
      | false =>
       go_wp2_with fail
       go_meet
       exact ⟨by rw [HQ.out]; first | done | rfl, (Ex.refl _ : Ex _ _)⟩
      | true =>
       cases ss with
       | false =>
        go_wp2_with fail
        go_meet
        exact ⟨by rw [HQ.out]; first | done | rfl, (Ex.refl _ : Ex _ _)⟩
       | true =>
        go_wp2_with fail
        go_meet
        exact ⟨by rw [HQ.out]; first | done | rfl, (Ex.refl _ : Ex _ _)⟩
   have k6 : vk = 6 := by omega
   rw [if_neg (by omega)] at HQ0
   ·have HQ : Hid (B = _) := (by rw [if_pos (by omega)] at HQ0; exact HQ0 : B = (bc && nm && decide (vs.length ≤ 40) && ss && ks))
    subst k6
    clear HQ0 HPO
    go_upto_region 19 with fail
    cases bc with
    | false =>
     go_wp2_with fail
     go_meet
     exact ⟨by rw [HQ.out]; first | done | rfl, (Ex.refl _ : Ex _ _)⟩
    | true =>
     cases nm with
     | false =>
      go_wp2_with fail
      go_meet
      exact ⟨by rw [HQ.out]; first | done | rfl, (Ex.refl _ : Ex _ _)⟩
     | true =>
      by_cases hs : vs.length ≤ 40
      ·have hsi : (vs.length : Int) ≤ 40 := by omega
       have hsd : decide (vs.length ≤ 40) = true := decide_eq_true hs
       rw [hsd] at HQ
       cases ss with
       | false =>
        go_wp2_with fail
        go_meet
        exact ⟨by rw [HQ.out]; first | done | rfl, (Ex.refl _ : Ex _ _)⟩
       | true =>
        go_wp2_with fail
        go_meet
        exact ⟨by rw [HQ.out]; first | done | rfl, (Ex.refl _ : Ex _ _)⟩
      ·have hsi : ¬ (vs.length : Int) ≤ 40 := by omega
       have hsd : decide (vs.length ≤ 40) = false := decide_eq_false hs
       rw [hsd] at HQ
       go_wp2_with fail
       go_meet
       exact ⟨by rw [HQ.out]; first | done | rfl, (Ex.refl _ : Ex _ _)⟩
  case rest =>
   obtain ⟨rfl, HXd⟩ := hcut
   obtain ⟨d0, d1, d2, d3, d4, d5, d6⟩ := (HP.out.below HXd.out).all
   simp only at d0 d1 d2 d3 d4 d5 d6
   clear c0 c1 c2 c3 c4 c5 c6
   go_wp2_with fail
   go_loopw [11, 9] (fun iv ov wr => ∃ i : Nat, ∃ u : Bool, i ≤ l.length ∧ iv = .int .i64 i ∧ ov = .bool u ∧ Hid ((B && (l.take i).all Pd.form) = u) ∧ Hid (Ex W wr)) (fun iv ov wr => l.length - (intOf iv).toNat)
   case atStart => exact ⟨0, B, by omega, rfl, rfl, (by simp : (B && (l.take 0).all Pd.form) = B), HXd⟩
   case round =>
    obtain ⟨i, u, hi, rfl, rfl, HU, HXr⟩ := hrel
    obtain ⟨g0, g1, g2, g3, g4, g5, g6⟩ := (HP.out.below HXr.out).all
    simp only at g0 g1 g2 g3 g4 g5 g6
    by_cases hlt : i < l.length
    ·have hti : (i : Int) < (l.length : Int) := by omega
     have hLr := Pd.Lay.below _ HLw.out (HXW.out.trans HXr.out)
     obtain ⟨b, off, x, hpp, hbg, hLk, e0, e1, e2, e3, e4, e5, e6⟩ := hLr.kid hlt
     simp only at hpp
     obtain ⟨k, hk⟩ : ∃ k, l[i] = k := ⟨_, rfl⟩
     rw [hk] at hLk
     have hkm2 : k ∈ l := by rw [← hk]; exact List.getElem_mem hlt
     obtain ⟨f, hf⟩ : ∃ f, Pd.form k = f := ⟨_, rfl⟩
     have hnx : (B && (l.take (i + 1)).all Pd.form) = (u && f) := by
      rw [List.take_add_one, List.getElem?_eq_getElem hlt, hk, ← HU.out, ← hf]
      simp [Bool.and_assoc]
     have HC : Hid (Calls Try.prog 53 #[pvv x] wr fun e w' => e = .returned (.bool f) ∧ Ex wr w') := HIH.out k hkm2 x wr hLk (HFK.out k hkm2) f hf
     subst hpp
     clear hLr hLk hk hbg hkm2 hf
     cases u with
     | false =>
      have HN : Hid ((B && (l.take (i + 1)).all Pd.form) = false) := (by rw [hnx]; rfl : _ = false)
      clear hnx HC
      go_wp2_with fail
      go_roundw
      case rel => exact ⟨i + 1, false, by omega, by go_num, rfl, HN, HXr⟩
      case measure => simp [intOf]; omega
     | true =>
      have HN : Hid ((B && (l.take (i + 1)).all Pd.form) = f) := (by rw [hnx]; rfl : _ = f)
      clear hnx
      go_wp2_with fail
      go_at_call 53
      refine Calls.mono HC.out ?_
      rintro e w2 ⟨rfl, hx2⟩
      have HX2 : Hid (Ex W w2) := (HXr.out.trans hx2 : Ex W w2)
      clear hx2 HC
      go_wp2_with fail
      go_roundw
      case rel => exact ⟨i + 1, f, by omega, by go_num, rfl, HN, HX2⟩
      case measure => simp [intOf]; omega
    ·have hti : ¬ (i : Int) < (l.length : Int) := by omega
     have HE : Hid (u = o) := (by
      have h := HU.out
      rw [List.take_of_length_le (by omega), HO.out] at h
      exact h.symm : u = o)
     go_wp2_with fail
     go_ret
     exact ⟨by rw [← HE.out]; rfl, HXW.out.trans HXr.out⟩
end Go.Proofs.Ytibnhjfeepdddaa
namespace Go.Proofs.Ytibnhjfeepdddaa
open Go.RowKit
set_option linter.unusedVariables false
set_option linter.unusedSimpArgs false
set_option maxHeartbeats 16000000 in
set_option maxRecDepth 100000 in
theorem rright_d (h : Hd) (l : List Pr) (ih : ∀ k ∈ l, RightC k) (hk : h.k = 8) : RightC (Pr.mk' h l) := by
 intro v w hL hF o ho
 rw [Pd.fine_mk] at hF
 obtain ⟨hFi, hl1, hFk⟩ := hF
 obtain ⟨hHd, hkn, hkB, hkc, hkm, hk0⟩ := hL.head
 obtain ⟨vk, vcol, vn, vm, vs, ⟨sa, sn, sc⟩, ⟨p, n, cap⟩⟩ := v
 simp only at hkn hkB hkc hkm hk0
 subst hkn
 obtain ⟨k, col, hn', m, s, set⟩ := h
 obtain ⟨⟨hv1, hv2, hv3, hv4, hv5⟩, hsn, hB, _⟩ := hHd
 simp only at hv1 hv2 hv3 hv4 hv5 hsn hB
 subst hv1 hv2 hv3 hv4 hv5 hsn
 simp only at hk
 have HKH : Hid _ := hk
 clear hk
 have hs1 := hB.1
 have hs2 := hB.2.1
 unfold maxLen at hkm hs2
 have hc1 : vcol.length ≤ 1000 := hFi.col
 have hc2 : vs.length ≤ 1000 := hFi.s
 have hc3 : set.length ≤ 1000 := hFi.set
 have HEA : Hid (∀ t ∈ set, t.length ≤ 1000) := hFi.each
 have HIH : Hid (∀ k ∈ l, RightC k) := ih
 have HFK : Hid (∀ k ∈ l, Pd.Fine k) := hFk
 have HLw : Hid (Pd.Lay (fun _ => True) (Pr.mk' ⟨vk, vcol, vn, vm, vs, set⟩ l) w ⟨vk, vcol, vn, vm, vs, (sa, set.length, sc), p, l.length, cap⟩) := hL
 obtain ⟨W, hW⟩ : ∃ W, w.alloc (pb ⟨vk, vcol, vn, vm, vs, (sa, set.length, sc), p, l.length, cap⟩) = W := ⟨_, rfl⟩
 have hXW : Ex w W := by rw [← hW]; exact (Below.refl _ _).alloc (Nat.le_refl _) _
 have HXW : Hid (Ex w W) := hXW
 have HP : Hid (PAt W w.heap.size ⟨vk, vcol, vn, vm, vs, (sa, set.length, sc), p, l.length, cap⟩) := (by rw [← hW]; exact PAt.new w _ : PAt W w.heap.size _)
 have HST : Hid (Rd st W sa sc set) := (hB.below hXW : Rd st W sa sc set)
 obtain ⟨B, hBB⟩ : ∃ B, Pd.part ⟨vk, vcol, vn, vm, vs, set⟩ l.length = B := ⟨_, rfl⟩
 have HO : Hid ((B && l.all Pd.form) = o) := (by rw [← ho, Pd.form_mk, hBB] : (B && l.all Pd.form) = o)
 obtain ⟨bc, hbc⟩ : ∃ b, Rw.name vcol = b := ⟨_, rfl⟩
 have HBC : Hid (Rw.name vcol = bc) := hbc
 obtain ⟨bn, hbn⟩ : ∃ b, vcol.isEmpty = b := ⟨_, rfl⟩
 obtain ⟨n0, hn0⟩ : ∃ b, (vn == 0) = b := ⟨_, rfl⟩
 obtain ⟨m0, hm0⟩ : ∃ b, (vm == 0) = b := ⟨_, rfl⟩
 obtain ⟨ts, hts⟩ : ∃ b, vs.isEmpty = b := ⟨_, rfl⟩
 obtain ⟨ss, hss⟩ : ∃ b, ((set.length : Int) == 0) = b := ⟨_, rfl⟩
 obtain ⟨ks, hks⟩ : ∃ b, ((l.length : Int) == 0) = b := ⟨_, rfl⟩
 obtain ⟨nm, hnm⟩ : ∃ b, (n0 && m0) = b := ⟨_, rfl⟩
 have hpo := part_of vk vcol vn vm vs set l.length bc bn n0 m0 ts ss ks hbc hbn hn0 hm0 hts hss hks
 rw [hnm, hBB] at hpo
 have HPO : Hid (B = _) := hpo
 have HNM : Hid ((n0 && m0) = nm) := hnm
 obtain ⟨c0, c1, c2, c3, c4, c5, c6⟩ := HP.out.all
 simp only at c0 c1 c2 c3 c4 c5 c6
 have HWW : Hid (w.alloc (pb ⟨vk, vcol, vn, vm, vs, (sa, set.length, sc), p, l.length, cap⟩) = W) := hW
 have z1 := str_toList vcol
 have z2 := str_toList vs
 have z3 := str_size vs
 clear hL hFi hFk hkB hB hbc ih hXW hpo ho hBB hnm
 unfold pvv
 simp only [sv]
 go_enter Try.func53, Try.ntmps53
 go_wp2_with fail
 go_at_call 76
 refine (rname_is vcol W (by unfold maxLen; omega) bc HBC.out).mono ?_
 rintro e w1 ⟨rfl, hw⟩
 replace hw := hw.symm
 subst hw
 clear hW
 go_upto_region 3 with fail
 go_cut [5] (fun v wc => v = .bool nm ∧ wc = W)
 case first =>
  cases n0 with
  | false =>
   go_wp2_with fail
   go_meet
   exact ⟨by rw [← HNM.out]; rfl, rfl⟩
  | true =>
   go_wp2_with fail
   go_meet
   exact ⟨by rw [← HNM.out]; rfl, rfl⟩
 case rest =>
  obtain ⟨rfl, hwc⟩ := hcut
  replace hwc := hwc.symm
  subst hwc
  go_upto_block 0 with fail
  go_cut [9] (fun v wd => v = .bool B ∧ Hid (Ex W wd))
  case first =>
   have hk := HKH.out
   have HQ0 := HPO.out
   have k8 : vk = 8 := by omega
   rw [if_neg (by omega), if_neg (by omega), if_neg (by omega)] at HQ0
   ·have HQ : Hid (B = _) := (by rw [if_pos (by omega)] at HQ0; exact HQ0 : B = (bc && nm && decide (vs.length ≤ 40) && ss && ks))
    subst k8
    clear HQ0 HPO
    go_upto_region 19 with fail
    cases bc with
    | false =>
     go_wp2_with fail
     go_meet
     exact ⟨by rw [HQ.out]; first | done | rfl, (Ex.refl _ : Ex _ _)⟩
    | true =>
     cases nm with
     | false =>
      go_wp2_with fail
      go_meet
      exact ⟨by rw [HQ.out]; first | done | rfl, (Ex.refl _ : Ex _ _)⟩
     | true =>
      by_cases hs : vs.length ≤ 40
      ·have hsi : (vs.length : Int) ≤ 40 := by omega
       have hsd : decide (vs.length ≤ 40) = true := decide_eq_true hs
       rw [hsd] at HQ
       cases ss with
       | false =>
        go_wp2_with fail
        go_meet
        exact ⟨by rw [HQ.out]; first | done | rfl, (Ex.refl _ : Ex _ _)⟩
       | true =>
        go_wp2_with fail
        go_meet
        exact ⟨by rw [HQ.out]; first | done | rfl, (Ex.refl _ : Ex _ _)⟩
      ·have hsi : ¬ (vs.length : Int) ≤ 40 := by omega
       have hsd : decide (vs.length ≤ 40) = false := decide_eq_false hs
       rw [hsd] at HQ
       go_wp2_with fail
       go_meet
       exact ⟨by rw [HQ.out]; first | done | rfl, (Ex.refl _ : Ex _ _)⟩
  case rest =>
   obtain ⟨rfl, HXd⟩ := hcut
   obtain ⟨d0, d1, d2, d3, d4, d5, d6⟩ := (HP.out.below HXd.out).all
   simp only at d0 d1 d2 d3 d4 d5 d6
   clear c0 c1 c2 c3 c4 c5 c6
   go_wp2_with fail
   go_loopw [11, 9] (fun iv ov wr => ∃ i : Nat, ∃ u : Bool, i ≤ l.length ∧ iv = .int .i64 i ∧ ov = .bool u ∧ Hid ((B && (l.take i).all Pd.form) = u) ∧ Hid (Ex W wr)) (fun iv ov wr => l.length - (intOf iv).toNat)
   case atStart => exact ⟨0, B, by omega, rfl, rfl, (by simp : (B && (l.take 0).all Pd.form) = B), HXd⟩
   case round =>
    obtain ⟨i, u, hi, rfl, rfl, HU, HXr⟩ := hrel
    obtain ⟨g0, g1, g2, g3, g4, g5, g6⟩ := (HP.out.below HXr.out).all
    simp only at g0 g1 g2 g3 g4 g5 g6
    by_cases hlt : i < l.length
    ·have hti : (i : Int) < (l.length : Int) := by omega
     have hLr := Pd.Lay.below _ HLw.out (HXW.out.trans HXr.out)
     obtain ⟨b, off, x, hpp, hbg, hLk, e0, e1, e2, e3, e4, e5, e6⟩ := hLr.kid hlt
     simp only at hpp
     obtain ⟨k, hk⟩ : ∃ k, l[i] = k := ⟨_, rfl⟩
     rw [hk] at hLk
     have hkm2 : k ∈ l := by rw [← hk]; exact List.getElem_mem hlt
     obtain ⟨f, hf⟩ : ∃ f, Pd.form k = f := ⟨_, rfl⟩
     have hnx : (B && (l.take (i + 1)).all Pd.form) = (u && f) := by
      rw [List.take_add_one, List.getElem?_eq_getElem hlt, hk, ← HU.out, ← hf]
      simp [Bool.and_assoc]
     have HC : Hid (Calls Try.prog 53 #[pvv x] wr fun e w' => e = .returned (.bool f) ∧ Ex wr w') := HIH.out k hkm2 x wr hLk (HFK.out k hkm2) f hf
     subst hpp
     clear hLr hLk hk hbg hkm2 hf
     cases u with
     | false =>
      have HN : Hid ((B && (l.take (i + 1)).all Pd.form) = false) := (by rw [hnx]; rfl : _ = false)
      clear hnx HC
      go_wp2_with fail
      go_roundw
      case rel => exact ⟨i + 1, false, by omega, by go_num, rfl, HN, HXr⟩
      case measure => simp [intOf]; omega
     | true =>
      have HN : Hid ((B && (l.take (i + 1)).all Pd.form) = f) := (by rw [hnx]; rfl : _ = f)
      clear hnx
      go_wp2_with fail
      go_at_call 53
      refine Calls.mono HC.out ?_
      rintro e w2 ⟨rfl, hx2⟩
      have HX2 : Hid (Ex W w2) := (HXr.out.trans hx2 : Ex W w2)
      clear hx2 HC
      go_wp2_with fail
      go_roundw
      case rel => exact ⟨i + 1, f, by omega, by go_num, rfl, HN, HX2⟩
      case measure => simp [intOf]; omega
    ·have hti : ¬ (i : Int) < (l.length : Int) := by omega
     have HE : Hid (u = o) := (by
      have h := HU.out
      rw [List.take_of_length_le (by omega), HO.out] at h
      exact h.symm : u = o)
     go_wp2_with fail
     go_ret
     exact ⟨by rw [← HE.out]; rfl, HXW.out.trans HXr.out⟩
end Go.Proofs.Ytibnhjfeepdddaa
