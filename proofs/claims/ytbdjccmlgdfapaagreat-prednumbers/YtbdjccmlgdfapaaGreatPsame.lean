/-
  Taken out of another text of mine: Finds. The document's own Same, and the books' Pred.
-/
import Derived.Test.YtbdjccmlgdfapaaGreatPstep
import Derived.Test.YtbdjccmlgdfapaaGreatStrs
import Derived.Deep.QuietTactic
import Derived.BigQuiet
namespace Go.Proofs.YtbdjccmlgdfapaaGreat
open Go.RowKit
set_option linter.unusedVariables false

set_option maxRecDepth 100000 in
theorem begins45_is (x p : List UInt8) (w : World) (hx : x.length ≤ maxLen) (hp : p.length ≤ maxLen) (r : Bool) (hr : T.begins p x = r) :
  Calls Tryz.prog 115 #[.string (str x), .string (str p)] w fun e w' => e = .returned (.bool r) ∧ w' = w := by
 unfold maxLen at hx hp
 have h1 : (str x).size = x.length := str_size x
 have h2 : (str p).size = p.length := str_size p
 have zp := str_toList p
 unfold T.begins at hr
 by_cases hl : p.length ≤ x.length
 ·have t1 : decide ((p.length : Int) ≤ (x.length : Int)) = true := by simp; omega
  have hcut : (str x).extract 0 p.length = str (x.take p.length) := str_cut _ _
  have zx := str_toList (x.take p.length)
  rw [decide_eq_true hl, Bool.true_and] at hr
  by_cases he : x.take p.length = p
  ·rw [decide_eq_true he] at hr
   subst hr
   have hq : (x.take p.length == p) = true := by simpa using he
   have HE : Hid (x.take p.length = p) := he
   clear he
   go_enter Tryz.func115, Tryz.ntmps115
   go_wp2
   go_ret
   exact ⟨rfl, rfl⟩
  ·rw [decide_eq_false he] at hr
   subst hr
   have hq : (x.take p.length == p) = false := by simpa using he
   clear he
   go_enter Tryz.func115, Tryz.ntmps115
   go_wp2
   go_ret
   exact ⟨rfl, rfl⟩
 ·have t1 : decide ((p.length : Int) ≤ (x.length : Int)) = false := by simp; omega
  rw [decide_eq_false hl, Bool.false_and] at hr
  subst hr
  go_enter Tryz.func115, Tryz.ntmps115
  go_wp2
  go_ret
  exact ⟨rfl, rfl⟩
set_option maxRecDepth 100000 in
theorem hasPrefix_is (x p : List UInt8) (w : World) (hx : x.length ≤ maxLen) (hp : p.length ≤ maxLen) (r : Bool) (hr : T.begins p x = r) :
  Calls Tryz.prog 102 #[.string (str x), .string (str p)] w fun e w' => e = .returned (.bool r) ∧ w' = w := by
 go_enter Tryz.func102, Tryz.ntmps102
 go_wp2_with fail
 refine (begins45_is x p _ hx hp r hr).mono ?_
 rintro e wq ⟨rfl, hw⟩
 have hw' := hw.symm; clear hw; subst hw'
 go_wp2
 go_ret
 exact ⟨rfl, rfl⟩

end Go.Proofs.YtbdjccmlgdfapaaGreat
namespace Go.Proofs.YtbdjccmlgdfapaaGreat
open Go.RowKit
set_option linter.unusedVariables false
set_option linter.unusedSimpArgs false
theorem cell_ex {w w' : World} {a : Addr} {v : Value} (h : w.cell? a = some v) (hx : Ex w w') : w'.cell? a = some v := by rw [hx.cell (World.block_lt_of_cell? w _ h)]; exact h
theorem ex_rowP {f : FuncId} {args : Array Value} {wx w1 : World} {v : Value} (h : Calls Tryz.prog f args wx fun e w' => e = .returned v ∧ Ex wx w') (hC : Ex w1 wx) :
  Calls Tryz.prog f args wx (fun e w' => ∃ u, e = .returned u ∧ Rg.Spec.ok (.inl v) u w' ∧ Ex wx w' ∧ Ex w1 w') :=
 h.mono fun e w' ⟨h1, h2⟩ => ⟨v, h1, rfl, h2, hC.trans h2⟩
set_option maxHeartbeats 8000000 in
set_option maxRecDepth 100000 in
theorem same_is : ∀ (p q : Pr) (v u : PV) (w : World) (o : Bool), Pd.Lay (fun _ => True) p w v → Pd.Lay (fun _ => True) q w u → (o = true ↔ p = q) →
  Calls Tryz.prog 38 #[pvv v, pvv u] w fun e w' => e = .returned (.bool o) ∧ Ex w w' := by
 refine Pd.tree ?_
 intro h l ih q v u w o hL hM ho
 rw [← Pd.mk_ks q] at hM ho
 obtain ⟨g, m, rfl⟩ : ∃ g m, q = Pr.mk' g m := ⟨q.h, q.ks, (Pd.mk_ks q).symm⟩
 rw [Pd.h_mk, Pd.ks_mk] at hM ho
 obtain ⟨hHd, hkn, hkB, hkc, hkm, hk0⟩ := hL.head
 obtain ⟨hGd, gkn, gkB, gkc, gkm, gk0⟩ := hM.head
 obtain ⟨vk, vcol, vn, vm, vs, ⟨sa, sn, sc⟩, ⟨p, n, cap⟩⟩ := v
 obtain ⟨uk, ucol, un, um, us, ⟨ta, tn, tc⟩, ⟨p', n', cap'⟩⟩ := u
 simp only at hkn hkB hkc hkm hk0 gkn gkB gkc gkm gk0
 subst hkn
 subst gkn
 obtain ⟨hk, hcol, hn', hm', hs', set⟩ := h
 obtain ⟨⟨rfl, rfl, rfl, rfl, rfl⟩, hsn, hB, _⟩ := hHd
 obtain ⟨gk, gcol, gn', gm', gs', tet⟩ := g
 obtain ⟨⟨rfl, rfl, rfl, rfl, rfl⟩, gsn, gB, _⟩ := hGd
 simp only at hsn hB gsn gB
 subst hsn
 subst gsn
 have s1 := hB.1
 have s2 := hB.2.1
 have s3 := gB.1
 have s4 := gB.2.1
 unfold maxLen at s2 s4 hkm gkm
 have HIH : Hid (∀ k ∈ l, ∀ (q : Pr) (v u : PV) (w : World) (o : Bool), Pd.Lay (fun _ => True) k w v → Pd.Lay (fun _ => True) q w u → (o = true ↔ k = q) → Calls Tryz.prog 38 #[pvv v, pvv u] w fun e w' => e = .returned (.bool o) ∧ Ex w w') := ih
 have HO : Hid (o = true ↔ (vk = uk ∧ vcol = ucol ∧ vn = un ∧ vm = um ∧ vs = us ∧ set = tet) ∧ l = m) := (by
  rw [ho]
  constructor
  ·intro e
   obtain ⟨e1, e2⟩ := Pd.mk_inj e
   simp only [Hd.mk.injEq] at e1
   exact ⟨e1, e2⟩
  ·rintro ⟨⟨rfl, rfl, rfl, rfl, rfl, rfl⟩, rfl⟩
   rfl : o = true ↔ _)
 have HL : Hid (Pd.Lay (fun _ => True) (Pr.mk' ⟨vk, vcol, vn, vm, vs, set⟩ l) w ⟨vk, vcol, vn, vm, vs, (sa, set.length, sc), p, l.length, cap⟩) := hL
 have HM : Hid (Pd.Lay (fun _ => True) (Pr.mk' ⟨uk, ucol, un, um, us, tet⟩ m) w ⟨uk, ucol, un, um, us, (ta, tet.length, tc), p', m.length, cap'⟩) := hM
 obtain ⟨W, hW⟩ : ∃ W, (w.alloc (pb ⟨vk, vcol, vn, vm, vs, (sa, set.length, sc), p, l.length, cap⟩)).alloc (pb ⟨uk, ucol, un, um, us, (ta, tet.length, tc), p', m.length, cap'⟩) = W := ⟨_, rfl⟩
 have hX1 : Ex w (w.alloc (pb ⟨vk, vcol, vn, vm, vs, (sa, set.length, sc), p, l.length, cap⟩)) := (Below.refl _ _).alloc (Nat.le_refl _) _
 have hXW : Ex w W := by rw [← hW]; exact Below.alloc hX1 (by simp) _
 have HXW : Hid (Ex w W) := hXW
 have HP : Hid (PAt W w.heap.size ⟨vk, vcol, vn, vm, vs, (sa, set.length, sc), p, l.length, cap⟩) := (by rw [← hW]; exact (PAt.new w _).alloc _ : PAt W w.heap.size _)
 have HQ : Hid (PAt W (w.heap.size + 1) ⟨uk, ucol, un, um, us, (ta, tet.length, tc), p', m.length, cap'⟩) := (by
  rw [← hW]
  exact PAt.newat (w.alloc (pb ⟨vk, vcol, vn, vm, vs, (sa, set.length, sc), p, l.length, cap⟩)) (w.heap.size + 1) _ (by simp) : PAt W (w.heap.size + 1) _)
 have HB : Hid (Rd st W sa sc set) := hB.below hXW
 have HG : Hid (Rd st W ta tc tet) := gB.below hXW
 obtain ⟨p0, p1, p2, p3, p4, p5, p6⟩ := HP.out.all
 obtain ⟨q0, q1, q2, q3, q4, q5, q6⟩ := HQ.out.all
 simp only at p0 p1 p2 p3 p4 p5 p6 q0 q1 q2 q3 q4 q5 q6
 have z1 := str_toList vcol
 have z2 := str_toList ucol
 have z3 := str_toList vs
 have z4 := str_toList us
 clear hL hM hB gB hkB gkB ho ih hXW hX1
 unfold pvv
 simp only [sv]
 go_enter Tryz.func38, Tryz.ntmps38
 by_cases hh : ¬ vk = uk
 ·have bb : (vk != uk) = true := by simp; exact hh
  have HFF : Hid (o = false) := (by cases o with | false => rfl | true => exact absurd (HO.out.1 rfl) (fun h => hh (by simp_all)) : o = false)
  clear hh
  go_wp2_with fail
  go_ret
  exact ⟨by rw [HFF.out]; rfl, HXW.out⟩
 obtain rfl : vk = uk := by omega
 by_cases hh : ¬ vcol = ucol
 ·have bb : (vcol == ucol) = false := beq_eq_false_iff_ne.2 hh
  have HFF : Hid (o = false) := (by cases o with | false => rfl | true => exact absurd (HO.out.1 rfl) (fun h => hh (by simp_all)) : o = false)
  clear hh
  go_wp2_with fail
  go_ret
  exact ⟨by rw [HFF.out]; rfl, HXW.out⟩
 obtain rfl : vcol = ucol := Classical.not_not.1 hh
 clear hh
 by_cases hh : ¬ vn = un
 ·have bb : (vn != un) = true := by simp; exact hh
  have HFF : Hid (o = false) := (by cases o with | false => rfl | true => exact absurd (HO.out.1 rfl) (fun h => hh (by simp_all)) : o = false)
  clear hh
  go_wp2_with fail
  go_ret
  exact ⟨by rw [HFF.out]; rfl, HXW.out⟩
 obtain rfl : vn = un := by omega
 by_cases hh : ¬ vm = um
 ·have bb : (vm != um) = true := by simp; exact hh
  have HFF : Hid (o = false) := (by cases o with | false => rfl | true => exact absurd (HO.out.1 rfl) (fun h => hh (by simp_all)) : o = false)
  clear hh
  go_wp2_with fail
  go_ret
  exact ⟨by rw [HFF.out]; rfl, HXW.out⟩
 obtain rfl : vm = um := by omega
 by_cases hh : ¬ vs = us
 ·have bb : (vs == us) = false := beq_eq_false_iff_ne.2 hh
  have HFF : Hid (o = false) := (by cases o with | false => rfl | true => exact absurd (HO.out.1 rfl) (fun h => hh (by simp_all)) : o = false)
  clear hh
  go_wp2_with fail
  go_ret
  exact ⟨by rw [HFF.out]; rfl, HXW.out⟩
 obtain rfl : vs = us := Classical.not_not.1 hh
 clear hh
 by_cases hh : ¬ set.length = tet.length
 ·have bb : ((set.length : Int) != (tet.length : Int)) = true := by simp; omega
  have HFF : Hid (o = false) := (by cases o with | false => rfl | true => exact absurd (HO.out.1 rfl) (fun h => hh (by simp_all)) : o = false)
  clear hh
  go_wp2_with fail
  go_ret
  exact ⟨by rw [HFF.out]; rfl, HXW.out⟩
 have b6 : ((set.length : Int) != (tet.length : Int)) = false := by simp; omega
 have HSL : Hid (set.length = tet.length) := Classical.not_not.1 hh
 clear hh
 by_cases hh : ¬ l.length = m.length
 ·have bb : ((l.length : Int) != (m.length : Int)) = true := by simp; omega
  have HFF : Hid (o = false) := (by cases o with | false => rfl | true => exact absurd (HO.out.1 rfl) (fun h => hh (by simp_all)) : o = false)
  clear hh
  go_wp2_with fail
  go_ret
  exact ⟨by rw [HFF.out]; rfl, HXW.out⟩
 have b7 : ((l.length : Int) != (m.length : Int)) = false := by simp; omega
 have HLL : Hid (l.length = m.length) := Classical.not_not.1 hh
 clear hh
 go_wp2_with fail
 go_loopw [5] (fun iv wr => ∃ i : Nat, i ≤ set.length ∧ iv = .int .i64 i ∧ Hid (set.take i = tet.take i) ∧ Hid (Ex W wr)) (fun iv wr => set.length - (intOf iv).toNat)
 case atStart => exact ⟨0, by omega, rfl, (by simp : set.take 0 = tet.take 0), Ex.refl W⟩
 case round =>
  obtain ⟨i, hi, rfl, HA, HXr⟩ := hrel
  have hPr := HP.out.below HXr.out
  have hQr := HQ.out.below HXr.out
  have c5 := hPr.all.2.2.2.2.2.1
  have d5 := hQr.all.2.2.2.2.2.1
  have c6 := hPr.all.2.2.2.2.2.2
  have d6 := hQr.all.2.2.2.2.2.2
  simp only at c5 d5 c6 d6
  have HXR2 : Hid (Ex w wr) := (HXW.out.trans HXr.out : Ex w wr)
  clear hPr hQr p0 p1 p2 p3 p4 p5 p6 q0 q1 q2 q3 q4 q5 q6
  by_cases hlt : i < set.length
  ·have hti : (i : Int) < (set.length : Int) := by omega
   have hlt2 : i < tet.length := by rw [← HSL.out]; exact hlt
   have hti2 : (i : Int) < (tet.length : Int) := by omega
   obtain ⟨b, off, hpp, e0⟩ := (HB.out.below HXr.out).at hlt
   obtain ⟨b', off', hpp', f0⟩ := (HG.out.below HXr.out).at hlt2
   obtain ⟨x, hx⟩ : ∃ x, set[i] = x := ⟨_, rfl⟩
   obtain ⟨y, hy⟩ : ∃ y, tet[i] = y := ⟨_, rfl⟩
   rw [hx] at e0
   rw [hy] at f0
   have HSX : Hid (set.take (i + 1) = set.take i ++ [x]) := (by rw [List.take_add_one, List.getElem?_eq_getElem hlt, hx]; rfl : set.take (i + 1) = set.take i ++ [x])
   have HTY : Hid (tet.take (i + 1) = tet.take i ++ [y]) := (by rw [List.take_add_one, List.getElem?_eq_getElem hlt2, hy]; rfl : tet.take (i + 1) = tet.take i ++ [y])
   have zx := str_toList x
   have zy := str_toList y
   subst hpp
   subst hpp'
   clear hx hy
   obtain ⟨c, hc⟩ : ∃ c, (x == y) = c := ⟨_, rfl⟩
   have HCX : Hid ((x == y) = c) := hc
   cases c with
   | true =>
    have hxy : x = y := by simpa using hc
    subst hxy
    have HA2 : Hid (set.take (i + 1) = tet.take (i + 1)) := (by rw [HSX.out, HTY.out, HA.out] : set.take (i + 1) = tet.take (i + 1))
    clear hc
    go_wp2_with fail
    go_quiet (fail)
    go_wp2_with fail
    go_roundw
    case rel => exact ⟨i + 1, by omega, by go_num, HA2, Ex.trans HXr.out (Ex.drewN _ _)⟩
    case measure => simp [intOf]; omega
   | false =>
    have HFF : Hid (o = false) := (by
     cases o with
     | false => rfl
     | true =>
      exfalso
      have h1 := (HO.out.1 rfl).1.2.2.2.2.2
      have h2 := HSX.out
      have h3 := HTY.out
      rw [h1, h3] at h2
      have h4 := List.append_inj_right' h2 rfl
      simp at h4
      have h5 := HCX.out
      rw [h4] at h5
      simp at h5 : o = false)
    go_wp2_with fail
    go_quiet (fail)
    go_wp2_with fail
    go_ret
    exact ⟨by rw [HFF.out]; rfl, HXR2.out.trans (Ex.drewN _ _)⟩
  ·have hti : ¬ (i : Int) < (set.length : Int) := by omega
   have HSE : Hid (set = tet) := (by
    have h1 := HA.out
    rw [List.take_of_length_le (by omega), List.take_of_length_le (by have := HSL.out; omega)] at h1
    exact h1 : set = tet)
   go_wp2_with fail
   clear c5 d5 c6 d6
   go_loopw [6] (fun jv wq => ∃ j : Nat, j ≤ l.length ∧ jv = .int .i64 j ∧ Hid (l.take j = m.take j) ∧ Hid (Ex W wq)) (fun jv wq => l.length - (intOf jv).toNat)
   case atStart => exact ⟨0, by omega, rfl, (by simp : l.take 0 = m.take 0), HXr⟩
   case round =>
    obtain ⟨j, hj, rfl, HD, HXq⟩ := hrel
    have hPr := HP.out.below HXq.out
    have hQr := HQ.out.below HXq.out
    have c6 := hPr.all.2.2.2.2.2.2
    have d6 := hQr.all.2.2.2.2.2.2
    simp only at c6 d6
    have HXQ2 : Hid (Ex w wr) := (HXW.out.trans HXq.out : Ex w wr)
    by_cases hltj : j < l.length
    ·have htj : (j : Int) < (l.length : Int) := by omega
     have hltm : j < m.length := by rw [← HLL.out]; exact hltj
     have htm : (j : Int) < (m.length : Int) := by omega
     obtain ⟨b, off, u1, hpp, _, hLk, e0, e1, e2, e3, e4, e5, e6⟩ := (Pd.Lay.below _ HL.out HXQ2.out).kid hltj
     obtain ⟨b', off', u2, hpp', _, hMk, f0, f1, f2, f3, f4, f5, f6⟩ := (Pd.Lay.below _ HM.out HXQ2.out).kid hltm
     simp only at hpp hpp'
     obtain ⟨x, hx⟩ : ∃ x, l[j] = x := ⟨_, rfl⟩
     obtain ⟨y, hy⟩ : ∃ y, m[j] = y := ⟨_, rfl⟩
     rw [hx] at hLk
     rw [hy] at hMk
     have HLK : Hid (Pd.Lay (fun _ => True) x wr u1) := hLk
     have HMK : Hid (Pd.Lay (fun _ => True) y wr u2) := hMk
     have HXM : Hid (x ∈ l) := (by rw [← hx]; exact List.getElem_mem hltj : x ∈ l)
     have HSX : Hid (l.take (j + 1) = l.take j ++ [x]) := (by rw [List.take_add_one, List.getElem?_eq_getElem hltj, hx]; rfl : l.take (j + 1) = l.take j ++ [x])
     have HTY : Hid (m.take (j + 1) = m.take j ++ [y]) := (by rw [List.take_add_one, List.getElem?_eq_getElem hltm, hy]; rfl : m.take (j + 1) = m.take j ++ [y])
     obtain ⟨c, hc⟩ : ∃ c : Bool, c = true ↔ x = y := by
      by_cases h : x = y
      ·exact ⟨true, by simp [h]⟩
      ·exact ⟨false, by simp [h]⟩
     have HC : Hid (c = true ↔ x = y) := hc
     have HE : Hid (wr.cell? ⟨b, off + j * 7, none⟩ = some (.int .i64 u1.k) ∧ wr.cell? ⟨b, off + j * 7 + 1, none⟩ = some (.string (str u1.col)) ∧ wr.cell? ⟨b, off + j * 7 + 2, none⟩ = some (.int .i64 u1.n) ∧ wr.cell? ⟨b, off + j * 7 + 3, none⟩ = some (.int .i64 u1.m) ∧ wr.cell? ⟨b, off + j * 7 + 4, none⟩ = some (.string (str u1.s)) ∧ wr.cell? ⟨b, off + j * 7 + 5, none⟩ = some (sv u1.set) ∧ wr.cell? ⟨b, off + j * 7 + 6, none⟩ = some (sv u1.kids)) := ⟨e0, e1, e2, e3, e4, e5, e6⟩
     have HF : Hid (wr.cell? ⟨b', off' + j * 7, none⟩ = some (.int .i64 u2.k) ∧ wr.cell? ⟨b', off' + j * 7 + 1, none⟩ = some (.string (str u2.col)) ∧ wr.cell? ⟨b', off' + j * 7 + 2, none⟩ = some (.int .i64 u2.n) ∧ wr.cell? ⟨b', off' + j * 7 + 3, none⟩ = some (.int .i64 u2.m) ∧ wr.cell? ⟨b', off' + j * 7 + 4, none⟩ = some (.string (str u2.s)) ∧ wr.cell? ⟨b', off' + j * 7 + 5, none⟩ = some (sv u2.set) ∧ wr.cell? ⟨b', off' + j * 7 + 6, none⟩ = some (sv u2.kids)) := ⟨f0, f1, f2, f3, f4, f5, f6⟩
     have HPR : Hid (PAt wr w.heap.size ⟨vk, vcol, vn, vm, vs, (sa, set.length, sc), p, l.length, cap⟩) := hPr
     have HQR : Hid (PAt wr (w.heap.size + 1) ⟨vk, vcol, vn, vm, vs, (ta, tet.length, tc), p', m.length, cap'⟩) := hQr
     subst hpp
     subst hpp'
     clear hx hy hc hLk hMk e0 e1 e2 e3 e4 e5 e6 f0 f1 f2 f3 f4 f5 f6 hPr hQr
     go_wp2_with fail
     have hre := Ex.refl
     refine Rg.wp_rows [.inl (Value.pointer (some ⟨w.heap.size, 6, none⟩)), .inl (Value.slice (some ⟨b, off, none⟩) l.length cap), .inl (.int .i64 j), .inl (Value.pointer (some ⟨b, off + j * 7, none⟩)), .inl (pvv u1), .inl (Value.pointer (some ⟨w.heap.size + 1, 6, none⟩)), .inl (Value.slice (some ⟨b', off', none⟩) m.length cap'), .inl (.int .i64 j), .inl (Value.pointer (some ⟨b', off' + j * 7, none⟩)), .inl (pvv u2), .inl (.bool c), .inl (.bool !c)] (Ex wr) Ex 95 (by kernel_rfl) rfl (by kernel_rfl) ?st hre (Ex.drew _) ?goods ?fin
     case st => exact trivial
     case goods =>
      refine Rg.goods_cons (Rg.good_field hre rfl rfl rfl (fun wx hC => by go_simp)) ?_
      refine Rg.goods_cons (Rg.good_load hre rfl rfl rfl (fun wx hC => by have hz := (HPR.out.below hC).all.2.2.2.2.2.2; go_simp)) ?_
      refine Rg.goods_cons (Rg.good_move hre rfl rfl rfl) ?_
      refine Rg.goods_cons (Rg.good_index hre rfl rfl rfl rfl (fun wx hC => by go_simp)) ?_
      refine Rg.goods_cons (Rg.good_load hre rfl rfl rfl (fun wx hC => by obtain ⟨e0, e1, e2, e3, e4, e5, e6⟩ := HE.out; exact loadI_pred (cell_ex e0 hC) (cell_ex e1 hC) (cell_ex e2 hC) (cell_ex e3 hC) (cell_ex e4 hC) (cell_ex e5 hC) (cell_ex e6 hC))) ?_
      refine Rg.goods_cons (Rg.good_field hre rfl rfl rfl (fun wx hC => by go_simp)) ?_
      refine Rg.goods_cons (Rg.good_load hre rfl rfl rfl (fun wx hC => by have hz := (HQR.out.below hC).all.2.2.2.2.2.2; go_simp)) ?_
      refine Rg.goods_cons (Rg.good_move hre rfl rfl rfl) ?_
      refine Rg.goods_cons (Rg.good_index hre rfl rfl rfl rfl (fun wx hC => by go_simp)) ?_
      refine Rg.goods_cons (Rg.good_load hre rfl rfl rfl (fun wx hC => by obtain ⟨e0, e1, e2, e3, e4, e5, e6⟩ := HF.out; exact loadI_pred (cell_ex e0 hC) (cell_ex e1 hC) (cell_ex e2 hC) (cell_ex e3 hC) (cell_ex e4 hC) (cell_ex e5 hC) (cell_ex e6 hC))) ?_
      refine Rg.goods_cons (Rg.good_call2 Tryz.func38 (by kernel_rfl) rfl rfl rfl (by rintro v0 v1 wx hC rfl rfl; exact ex_rowP (HIH.out x HXM.out y u1 u2 wx c (Pd.Lay.below _ HLK.out hC) (Pd.Lay.below _ HMK.out hC) HC.out) hC)) ?_
      refine Rg.goods_cons (Rg.good_un hre rfl rfl rfl (fun w => by go_simp)) ?_
      exact Rg.goods_nil
     case fin =>
      intro wx hx
      simp only [Rg.later, Act.put, List.setIfInBounds_toArray, List.set_cons_succ, List.set_cons_zero]
      have HX9 : Hid (Ex W wx) := (HXq.out.trans hx : Ex W wx)
      have HX8 : Hid (Ex w wx) := (HXW.out.trans HX9.out : Ex w wx)
      clear hx c6 d6
      cases c with
      | true =>
       have HA2 : Hid (l.take (j + 1) = m.take (j + 1)) := (by rw [HSX.out, HTY.out, HD.out, HC.out.1 rfl] : l.take (j + 1) = m.take (j + 1))
       go_wp2_with fail
       go_roundw
       case rel => exact ⟨j + 1, by omega, by go_num, HA2, HX9⟩
       case measure => simp [intOf]; omega
      | false =>
       have HFF : Hid (o = false) := (by
        cases o with
        | false => rfl
        | true =>
         exfalso
         have h1 := (HO.out.1 rfl).2
         have h2 := HSX.out
         have h3 := HTY.out
         rw [h1, h3] at h2
         have h4 := List.append_inj_right' h2 rfl
         simp at h4
         have h5 := HC.out.2 h4.symm
         simp at h5 : o = false)
       go_wp2_with fail
       go_ret
       exact ⟨by rw [HFF.out]; rfl, HX8.out⟩
    ·have htj : ¬ (j : Int) < (l.length : Int) := by omega
     have HFF : Hid (o = true) := (by
      have h1 := HD.out
      rw [List.take_of_length_le (by omega), List.take_of_length_le (by have := HLL.out; omega)] at h1
      exact HO.out.2 ⟨⟨trivial, trivial, trivial, trivial, trivial, HSE.out⟩, h1⟩ : o = true)
     go_wp2_with fail
     go_ret
     exact ⟨by rw [HFF.out]; rfl, HXQ2.out⟩
set_option maxHeartbeats 1000000 in
set_option maxRecDepth 100000 in
theorem kpred_is (p q : Pr) (v u : PV) (w : World) (o : Bool) (hL : Pd.Lay (fun _ => True) p w v) (hM : Pd.Lay (fun _ => True) q w u) (ho : o = true ↔ p = q) : Calls Tryz.prog 11 #[pvv v, pvv u] w fun e w' => e = .returned (.bool o) ∧ Ex w w' := by
 obtain ⟨vk, vcol, vn, vm, vs, vset, vkids⟩ := v
 obtain ⟨uk, ucol, un, um, us, uset, ukids⟩ := u
 obtain ⟨W, hW⟩ : ∃ W, (w.alloc (pb ⟨vk, vcol, vn, vm, vs, vset, vkids⟩)).alloc (pb ⟨uk, ucol, un, um, us, uset, ukids⟩) = W := ⟨_, rfl⟩
 have hX1 : Ex w (w.alloc (pb ⟨vk, vcol, vn, vm, vs, vset, vkids⟩)) := (Below.refl _ _).alloc (Nat.le_refl _) _
 have hXW : Ex w W := by rw [← hW]; exact Below.alloc hX1 (by simp) _
 have HXW : Hid (Ex w W) := hXW
 have hP : PAt W w.heap.size ⟨vk, vcol, vn, vm, vs, vset, vkids⟩ := by rw [← hW]; exact (PAt.new w _).alloc _
 have hQ : PAt W (w.heap.size + 1) ⟨uk, ucol, un, um, us, uset, ukids⟩ := by
  rw [← hW]
  exact PAt.newat (w.alloc (pb ⟨vk, vcol, vn, vm, vs, vset, vkids⟩)) (w.heap.size + 1) _ (by simp)
 have HC : Hid (Calls Tryz.prog 38 #[pvv ⟨vk, vcol, vn, vm, vs, vset, vkids⟩, pvv ⟨uk, ucol, un, um, us, uset, ukids⟩] W fun e w' => e = .returned (.bool o) ∧ Ex W w') := same_is p q _ _ W o (Pd.Lay.below _ hL hXW) (Pd.Lay.below _ hM hXW) ho
 obtain ⟨p0, p1, p2, p3, p4, p5, p6⟩ := hP.all
 obtain ⟨q0, q1, q2, q3, q4, q5, q6⟩ := hQ.all
 simp only at p0 p1 p2 p3 p4 p5 p6 q0 q1 q2 q3 q4 q5 q6
 clear hL hM ho hX1 hXW hP hQ
 unfold pvv
 simp only [sv]
 go_enter Tryz.func11, Tryz.ntmps11
 go_wp2_with fail
 go_at_call 38
 refine Calls.mono HC.out ?_
 rintro e w2 ⟨rfl, hx2⟩
 have HX2 : Hid (Ex w w2) := (HXW.out.trans hx2 : Ex w w2)
 clear hx2 HC
 go_wp2_with fail
 go_ret
 exact ⟨rfl, HX2.out⟩
end Go.Proofs.YtbdjccmlgdfapaaGreat
