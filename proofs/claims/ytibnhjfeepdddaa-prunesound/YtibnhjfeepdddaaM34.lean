/-
  The books' Cut: a predicate that is not too deep or wide, in memory of its own.
-/
import Derived.Test.YtibnhjfeepdddaaM33
namespace Go.Proofs.Ytibnhjfeepdddaa
open Go.RowKit
set_option linter.unusedVariables false
set_option linter.unusedSimpArgs false
/-- What comes in: texts that a machine bears. -/
structure HdRaw (h : Hd) : Prop where
 k : In64 h.k
 n : In64 h.n
 m : In64 h.m
 col : h.col.length ≤ maxLen
 s : h.s.length ≤ maxLen
 each : ∀ t ∈ h.set, t.length ≤ maxLen
namespace Pd
def Raw : Pr → Prop := rec' fun h l a => HdRaw h ∧ ∀ x ∈ a, x
theorem raw_mk (h : Hd) (l : List Pr) : Raw (Pr.mk' h l) ↔ HdRaw h ∧ ∀ x ∈ l, Raw x := by
 rw [Raw, rec_mk]
 constructor
 ·rintro ⟨h1, h2⟩
  exact ⟨h1, fun x hx => h2 _ (List.mem_map.2 ⟨x, hx, rfl⟩)⟩
 ·rintro ⟨h1, h2⟩
  refine ⟨h1, fun x hx => ?_⟩
  obtain ⟨y, hy, rfl⟩ := List.mem_map.1 hx
  exact h2 y hy
theorem cut_fine : ∀ p, Raw p → ∀ d, Fine (cut p d) := by
 refine tree ?_
 intro h l ih hr d
 rw [raw_mk] at hr
 obtain ⟨hh, hl⟩ := hr
 rw [cut_mk, fine_mk]
 refine ⟨⟨hh.k, hh.n, hh.m, ?_, ?_, ?_, ?_⟩, ?_, ?_⟩
 ·simp [cutH]; omega
 ·simp [cutH]; omega
 ·simp [cutH]; omega
 ·intro t ht
  simp only [cutH, List.mem_map] at ht
  obtain ⟨x, _, rfl⟩ := ht
  simp; omega
 ·split
  ·simp
  ·simp; omega
 ·intro x hx
  split at hx
  ·simp at hx
  ·obtain ⟨y, hy, rfl⟩ := List.mem_map.1 hx
   exact ih y (mem_take hy) (hl y (mem_take hy)) _
end Pd
set_option maxHeartbeats 8000000 in
set_option maxRecDepth 100000 in
theorem cut_is : ∀ (p : Pr) (v : PV) (w : World) (d : Nat), Pd.Lay (fun _ => True) p w v → Pd.Raw p → d ≤ 1000 →
  Calls Try.prog 15 #[pvv v, .int .i64 d] w fun e w' => ∃ u, e = .returned (pvv u) ∧ Pd.Lay (fun b => w.heap.size ≤ b) (Pd.cut p d) w' u ∧ Ex w w' := by
 refine Pd.tree ?_
 intro h l ih v w d hL hRaw hd
 rw [Pd.raw_mk] at hRaw
 obtain ⟨hH, hRk⟩ := hRaw
 obtain ⟨hHd, hkn, hkB, hkc, hkm, hk0⟩ := hL.head
 obtain ⟨vk, vcol, vn, vm, vs, ⟨sa, sn, sc⟩, ⟨p, n, cap⟩⟩ := v
 simp only at hkn hkB hkc hkm hk0
 subst hkn
 obtain ⟨k, col, hn', m, s, set⟩ := h
 obtain ⟨⟨rfl, rfl, rfl, rfl, rfl⟩, hsn, hB, hIB⟩ := hHd
 simp only at hsn hB
 subst hsn
 have hs1 := hB.1
 have hs2 := hB.2.1
 have hcl : vcol.length ≤ maxLen := hH.col
 have hsl : vs.length ≤ maxLen := hH.s
 have HEA : Hid (∀ t ∈ set, t.length ≤ maxLen) := hH.each
 have HIH : Hid (∀ k ∈ l, ∀ (v : PV) (w : World) (d : Nat), Pd.Lay (fun _ => True) k w v → Pd.Raw k → d ≤ 1000 → Calls Try.prog 15 #[pvv v, .int .i64 d] w fun e w' => ∃ u, e = .returned (pvv u) ∧ Pd.Lay (fun b => w.heap.size ≤ b) (Pd.cut k d) w' u ∧ Ex w w') := ih
 have HRK : Hid (∀ k ∈ l, Pd.Raw k) := hRk
 have HLw : Hid (Pd.Lay (fun _ => True) (Pr.mk' ⟨vk, vcol, vn, vm, vs, set⟩ l) w ⟨vk, vcol, vn, vm, vs, (sa, set.length, sc), p, l.length, cap⟩) := hL
 obtain ⟨W, hW⟩ : ∃ W, (w.alloc (pb ⟨vk, vcol, vn, vm, vs, (sa, set.length, sc), p, l.length, cap⟩)).alloc pb0 = W := ⟨_, rfl⟩
 have hX1 : Ex w (w.alloc (pb ⟨vk, vcol, vn, vm, vs, (sa, set.length, sc), p, l.length, cap⟩)) := (Below.refl _ _).alloc (Nat.le_refl _) _
 have hXW : Ex w W := by rw [← hW]; exact Below.alloc hX1 (by simp) _
 have HXW : Hid (Ex w W) := hXW
 have HSZ : Hid (W.heap.size = w.heap.size + 2) := (by rw [← hW]; simp : W.heap.size = w.heap.size + 2)
 have HP : Hid (PAt W w.heap.size ⟨vk, vcol, vn, vm, vs, (sa, set.length, sc), p, l.length, cap⟩) := (by rw [← hW]; exact (PAt.new w _).alloc _ : PAt W w.heap.size _)
 have HZ : Hid (PAt W (w.heap.size + 1) PV.zero) := (by
  rw [← hW]
  exact PAt.newat (w.alloc (pb ⟨vk, vcol, vn, vm, vs, (sa, set.length, sc), p, l.length, cap⟩)) (w.heap.size + 1) PV.zero (by simp) : PAt W (w.heap.size + 1) PV.zero)
 have HB : Hid (Rd st w sa sc set) := hB
 obtain ⟨p0, p1, p2, p3, p4, p5, p6⟩ := HP.out.all
 obtain ⟨g0, g1, g2, g3, g4, g5, g6⟩ := HP.out.fro
 simp only at p0 p1 p2 p3 p4 p5 p6
 unfold maxLen at hkm hs2 hcl hsl
 have zc := str_size vcol
 have zs := str_size vs
 have xc : (str vcol).extract 0 20 = str (vcol.take 20) := str_cut _ _
 have xs : (str vs).extract 0 41 = str (vs.take 41) := str_cut _ _
 clear hL hB hkB ih hXW hH hRk hX1 hIB
 unfold pvv
 simp only [sv]
 go_enter Try.func15, Try.ntmps15
 obtain ⟨colx, hcolx⟩ : ∃ colx, vcol.take 20 = colx := ⟨_, rfl⟩
 rw [hcolx] at xc
 have HCC : Hid (colx = (Pd.cutH ⟨vk, vcol, vn, vm, vs, set⟩).col) := (hcolx.symm : colx = _)
 have HCV : Hid (¬ 20 < vcol.length → vcol = colx) := (fun h => by rw [← hcolx, List.take_of_length_le (by omega)] : ¬ 20 < vcol.length → vcol = colx)
 obtain ⟨sx, hsx⟩ : ∃ sx, vs.take 41 = sx := ⟨_, rfl⟩
 rw [hsx] at xs
 have HSS : Hid (sx = (Pd.cutH ⟨vk, vcol, vn, vm, vs, set⟩).s) := (hsx.symm : sx = _)
 have HSV : Hid (¬ 41 < vs.length → vs = sx) := (fun h => by rw [← hsx, List.take_of_length_le (by omega)] : ¬ 41 < vs.length → vs = sx)
 clear hcolx hsx
 go_upto_if 13 with fail
 go_cut [13] from 13 to 17 (fun v13 wc => Hid (PAt wc w.heap.size ⟨vk, colx, vn, vm, vs, (sa, set.length, sc), p, l.length, cap⟩) ∧ Hid (PAt wc (w.heap.size + 1) PV.zero) ∧ Hid (Ex w wc) ∧ Hid (w.heap.size + 2 ≤ wc.heap.size))
 case first =>
  by_cases hlc : 20 < vcol.length
  ·have dc : decide ((20 : Int) < (vcol.length : Int)) = true := by simp; omega
   have dcn : decide (20 < vcol.length) = true := by simp; omega
   have bc : (20 : Int) ≤ (vcol.length : Int) := by omega
   obtain ⟨wc, hwc⟩ : ∃ wc, W.setCell ⟨w.heap.size, 1, none⟩ (.string (str colx)) = wc := ⟨_, rfl⟩
   have HPc : Hid (PAt wc w.heap.size ⟨vk, colx, vn, vm, vs, (sa, set.length, sc), p, l.length, cap⟩) := (by rw [← hwc]; exact HP.out.set rfl : PAt wc _ _)
   have HZc : Hid (PAt wc (w.heap.size + 1) PV.zero) := (by rw [← hwc]; exact HZ.out.other (by omega) : PAt wc _ _)
   have HXc : Hid (Ex w wc) := (by rw [← hwc]; exact Below.setCell HXW.out (Nat.le_refl _) _ : Ex w wc)
   have HSc : Hid (w.heap.size + 2 ≤ wc.heap.size) := (by rw [← hwc]; simp; have := HSZ.out; omega : w.heap.size + 2 ≤ wc.heap.size)
   go_wp2_with fail
   go_meet
   exact ⟨HPc, HZc, HXc, HSc⟩
  ·have dc : decide ((20 : Int) < (vcol.length : Int)) = false := by simp; omega
   have dcn : decide (20 < vcol.length) = false := by simp; omega
   have HPc : Hid (PAt W w.heap.size ⟨vk, colx, vn, vm, vs, (sa, set.length, sc), p, l.length, cap⟩) := (by have h := HP.out; rw [← HCV.out hlc]; exact h : PAt W _ _)
   have HSc : Hid (w.heap.size + 2 ≤ W.heap.size) := (by have := HSZ.out; omega : w.heap.size + 2 ≤ W.heap.size)
   go_wp2_with fail
   go_meet
   exact ⟨HPc, HZ, HXW, HSc⟩
 case rest =>
  obtain ⟨HPc, HZc, HXc, HSc⟩ := hcut
  clear p0 p1 p2 p3 p4 p5 p6 g0 g1 g2 g3 g4 g5 g6
  obtain ⟨wd, hwd⟩ : ∃ W, W = wc := ⟨_, rfl⟩
  subst hwd
  obtain ⟨a0, a1, a2, a3, a4, a5, a6⟩ := HPc.out.all
  obtain ⟨b0, b1, b2, b3, b4, b5, b6⟩ := HPc.out.fro
  simp only at a0 a1 a2 a3 a4 a5 a6
  go_upto_if 21 with fail
  go_cut [21] from 21 to 25 (fun v21 wc => Hid (PAt wc w.heap.size ⟨vk, colx, vn, vm, sx, (sa, set.length, sc), p, l.length, cap⟩) ∧ Hid (PAt wc (w.heap.size + 1) PV.zero) ∧ Hid (Ex w wc) ∧ Hid (w.heap.size + 2 ≤ wc.heap.size))
  case first =>
   by_cases hls : 41 < vs.length
   ·have ds : decide ((41 : Int) < (vs.length : Int)) = true := by simp; omega
    have dsn : decide (41 < vs.length) = true := by simp; omega
    have bs : (41 : Int) ≤ (vs.length : Int) := by omega
    obtain ⟨ws, hws⟩ : ∃ ws, wd.setCell ⟨w.heap.size, 4, none⟩ (.string (str sx)) = ws := ⟨_, rfl⟩
    have HPs : Hid (PAt ws w.heap.size ⟨vk, colx, vn, vm, sx, (sa, set.length, sc), p, l.length, cap⟩) := (by rw [← hws]; exact PAt.set HPc.out rfl : PAt ws _ _)
    have HZs : Hid (PAt ws (w.heap.size + 1) PV.zero) := (by rw [← hws]; exact PAt.other HZc.out (by omega) : PAt ws _ _)
    have HXs : Hid (Ex w ws) := (by rw [← hws]; exact Below.setCell HXc.out (Nat.le_refl _) _ : Ex w ws)
    have HSs : Hid (w.heap.size + 2 ≤ ws.heap.size) := (by rw [← hws]; simp; have := HSc.out; omega : w.heap.size + 2 ≤ ws.heap.size)
    go_wp2_with fail
    go_meet
    exact ⟨HPs, HZs, HXs, HSs⟩
   ·have ds : decide ((41 : Int) < (vs.length : Int)) = false := by simp; omega
    have dsn : decide (41 < vs.length) = false := by simp; omega
    have HPs : Hid (PAt wd w.heap.size ⟨vk, colx, vn, vm, sx, (sa, set.length, sc), p, l.length, cap⟩) := (by have h := HPc.out; rw [← HSV.out hls]; exact h : PAt wd _ _)
    go_wp2_with fail
    go_meet
    exact ⟨HPs, HZc, HXc, HSc⟩
  case rest =>
   obtain ⟨HPA, HZA, HXA, HSA⟩ := hcut
   clear a0 a1 a2 a3 a4 a5 a6 b0 b1 b2 b3 b4 b5 b6
   obtain ⟨q0, q1, q2, q3, q4, q5, q6⟩ := HPA.out.all
   simp only at q0 q1 q2 q3 q4 q5 q6
   go_wp2_with fail
   clear q0 q1 q2 q3 q4 q5 q6
   go_loopw [5, 6, 7] (fun tv iv sv7 wr => ∃ i : Nat, i ≤ set.length ∧ i ≤ 9 ∧ iv = .int .i64 i ∧ Hid (OwnR 9 st wr (w.heap.size + 2) tv ((set.take i).map fun s => s.take 41)) ∧ Hid (PAt wr w.heap.size ⟨vk, colx, vn, vm, sx, (sa, set.length, sc), p, l.length, cap⟩) ∧ Hid (PAt wr (w.heap.size + 1) PV.zero) ∧ Hid (w.heap.size + 2 ≤ wr.heap.size) ∧ Hid (Ex w wr)) (fun tv iv sv7 wr => set.length - (intOf iv).toNat)
   case atStart => exact ⟨0, by omega, by omega, rfl, (World.ownsRow_nil _ _ _ _ : OwnR 9 st _ (w.heap.size + 2) (.slice none 0 0) ((set.take 0).map fun s => s.take 41)), HPA, HZA, HSA, HXA⟩
   case round =>
    obtain ⟨i, hi, hi9, rfl, HO, HPr, HZr, HSr, HXr⟩ := hrel
    have c5 := HPr.out.all.2.2.2.2.2.1
    have c6 := HPr.out.all.2.2.2.2.2.2
    simp only at c5 c6
    by_cases hlt : i < set.length ∧ i < 9
    ·obtain ⟨hlt, hl9⟩ := hlt
     have hti : (i : Int) < (set.length : Int) := by omega
     have ht9 : (i : Int) < 9 := by omega
     have dti : decide ((i : Int) < (set.length : Int)) = true := by simp; omega
     have dt9 : decide ((i : Int) < 9) = true := by simp; omega
     obtain ⟨b, off, hpp, e0⟩ := (HB.out.below HXr.out).at hlt
     obtain ⟨x, hx⟩ : ∃ x, set[i] = x := ⟨_, rfl⟩
     rw [hx] at e0
     have hxl : x.length ≤ maxLen := HEA.out x (by rw [← hx]; exact List.getElem_mem hlt)
     unfold maxLen at hxl
     have HNX : Hid (((set.take (i + 1)).map fun s => s.take 41) = ((set.take i).map fun s => s.take 41) ++ [x.take 41]) := (by
      rw [List.take_add_one, List.getElem?_eq_getElem hlt, hx, List.map_append]
      rfl : ((set.take (i + 1)).map fun s => s.take 41) = ((set.take i).map fun s => s.take 41) ++ [x.take 41])
     obtain ⟨y, hy⟩ : ∃ y, x.take 41 = y := ⟨_, rfl⟩
     rw [hy] at HNX
     have HY : Hid (x.take 41 = y) := hy
     have zx := str_size x
     have xx : (str x).extract 0 41 = str y := by rw [← hy]; exact str_cut _ _
     obtain ⟨w1, hw1⟩ : ∃ w1, wr.alloc (.cells #[.string (str y)] 9) = w1 := ⟨_, rfl⟩
     have hX1 : Ex wr w1 := by rw [← hw1]; exact (Below.refl _ _).alloc (Nat.le_refl _) _
     have HX1 : Hid (Ex w w1) := (HXr.out.trans hX1 : Ex w w1)
     have HR1 : Hid (Rd st w1 (some ⟨wr.heap.size, 0, none⟩) 1 [y]) := (by rw [← hw1]; exact Rd.laid wr 9 [y] (by simp) : Rd st w1 _ 1 [y])
     have HO1 : Hid (OwnR 9 st w1 (w.heap.size + 2) u5 ((set.take i).map fun s => s.take 41)) := (HO.out.later hX1 : OwnR 9 st w1 _ u5 _)
     have HP1 : Hid (PAt w1 w.heap.size ⟨vk, colx, vn, vm, sx, (sa, set.length, sc), p, l.length, cap⟩) := (HPr.out.below hX1 : PAt w1 _ _)
     have HZ1 : Hid (PAt w1 (w.heap.size + 1) PV.zero) := (HZr.out.below hX1 : PAt w1 _ _)
     have HS1 : Hid (w.heap.size + 2 ≤ w1.heap.size) := (Nat.le_trans HSr.out hX1.size : w.heap.size + 2 ≤ w1.heap.size)
     have hstep : ∀ v9 w9, OwnR 9 st w9 (w.heap.size + 2) v9 (((set.take i).map fun s => s.take 41) ++ [y]) → w1.grownBy w9 u5.ownBlock → Hid (OwnR 9 st w9 (w.heap.size + 2) v9 ((set.take (i + 1)).map fun s => s.take 41)) ∧ Hid (PAt w9 w.heap.size ⟨vk, colx, vn, vm, sx, (sa, set.length, sc), p, l.length, cap⟩) ∧ Hid (PAt w9 (w.heap.size + 1) PV.zero) ∧ Hid (w.heap.size + 2 ≤ w9.heap.size) ∧ Hid (Ex w w9) := by
      intro v9 w9 ho9 hg9
      have hob := World.ownsRow.lt HO1.out
      have hne : ∀ g, g < w.heap.size + 2 → u5.ownBlock ≠ some g := fun g hg e => by have := (hob g e).1; omega
      refine ⟨by rw [HNX.out]; exact ho9, HP1.out.far hg9 (hne _ (by omega)), HZ1.out.far hg9 (hne _ (by omega)), Nat.le_trans HS1.out hg9.size, Below.grown HX1.out hg9 HX1.out.size (fun g hg => by have := (hob g hg).1; omega)⟩
     have hlen9 : ((set.take i).map fun s => s.take 41).length + [y].length ≤ 1000 := by simp; omega
     subst hpp
     clear hx hy hX1 hlt hl9
     by_cases hx41 : 41 < x.length
     ·have d41 : decide ((41 : Int) < (x.length : Int)) = true := by simp; omega
      have d41n : decide (41 < x.length) = true := by simp; omega
      have b41 : (41 : Int) ≤ (x.length : Int) := by omega
      go_wp2_with (at_builtin; refine wpList_append_rd_at (e := 9) (enc := st) rfl (.tmp 47) (.tmp 49) 26 rfl [] 16 Try.underlying26 Try.info9 rfl (fun _ => rfl) (w.heap.size + 2) _ _ rfl HO1.out (some ⟨wr.heap.size, 0, none⟩) 1 1 [y] rfl rfl HR1.out (by unfold maxLen; omega) (by omega) HS1.out ?_; intro v9 w9 ho9 hg9 hat9; obtain ⟨HO9, HP9, HZ9, HS9, HX9⟩ := hstep v9 w9 ho9 hg9; clear ho9 hg9 hat9)
      go_roundw
      case rel => exact ⟨i + 1, by omega, by omega, by go_num, HO9, HP9, HZ9, HS9, HX9⟩
      case measure => simp [intOf]; omega
     ·have d41 : decide ((41 : Int) < (x.length : Int)) = false := by simp; omega
      have d41n : decide (41 < x.length) = false := by simp; omega
      have hyx : y = x := by rw [← HY.out]; exact List.take_of_length_le (by omega)
      subst hyx
      go_wp2_with (at_builtin; refine wpList_append_rd_at (e := 9) (enc := st) rfl (.tmp 47) (.tmp 49) 26 rfl [] 16 Try.underlying26 Try.info9 rfl (fun _ => rfl) (w.heap.size + 2) _ _ rfl HO1.out (some ⟨wr.heap.size, 0, none⟩) 1 1 [y] rfl rfl HR1.out (by unfold maxLen; omega) (by omega) HS1.out ?_; intro v9 w9 ho9 hg9 hat9; obtain ⟨HO9, HP9, HZ9, HS9, HX9⟩ := hstep v9 w9 ho9 hg9; clear ho9 hg9 hat9)
      go_roundw
      case rel => exact ⟨i + 1, by omega, by omega, by go_num, HO9, HP9, HZ9, HS9, HX9⟩
      case measure => simp [intOf]; omega
    ·have HSE : Hid (((set.take i).map fun s => s.take 41) = ((set.take 9).map fun s => s.take 41)) := (by
      by_cases h9 : i = 9
      ·rw [h9]
      ·rw [List.take_of_length_le (by omega), List.take_of_length_le (l := set) (i := 9) (by omega)] : ((set.take i).map fun s => s.take 41) = _)
     obtain ⟨S9, hS9⟩ : ∃ S9, ((set.take 9).map fun s => s.take 41) = S9 := ⟨_, rfl⟩
     have HS9 : Hid (((set.take 9).map fun s => s.take 41) = S9) := hS9
     have hOr : OwnR 9 st wr (w.heap.size + 2) u5 S9 := by rw [← hS9, ← HSE.out]; exact HO.out
     have hob := World.ownsRow.lt hOr
     obtain ⟨a9, c9, rfl, hb9⟩ := hOr.rd
     obtain ⟨L9, hL9⟩ : ∃ L9, S9.length = L9 := ⟨_, rfl⟩
     have HL9 : Hid (S9.length = L9) := hL9
     rw [hL9] at hob ⊢
     obtain ⟨w2, hw2⟩ : ∃ w2, wr.setCell ⟨w.heap.size, 5, none⟩ (.slice a9 L9 c9) = w2 := ⟨_, rfl⟩
     have HP2 : Hid (PAt w2 w.heap.size ⟨vk, colx, vn, vm, sx, (a9, L9, c9), p, l.length, cap⟩) := (by rw [← hw2]; exact HPr.out.set rfl : PAt w2 _ _)
     have HZ2 : Hid (PAt w2 (w.heap.size + 1) PV.zero) := (by rw [← hw2]; exact HZr.out.other (by omega) : PAt w2 _ _)
     have HX2 : Hid (Ex w w2) := (by rw [← hw2]; exact Below.setCell HXr.out (Nat.le_refl _) _ : Ex w w2)
     have HSB : Hid (∀ g off, a9 = some ⟨g, off, none⟩ → w.heap.size + 2 ≤ g ∧ g < w2.heap.size) := (by
      intro g off e
      have h1 := hob g (by rw [e]; rfl)
      rw [← hw2]
      simpa using h1 : ∀ g off, a9 = some ⟨g, off, none⟩ → w.heap.size + 2 ≤ g ∧ g < w2.heap.size)
     have HR2 : Hid (Rd st w2 a9 c9 S9) := (by
      rw [← hw2]
      exact rd_far hb9 (grown_set1 _ _ _ _) (fun _ b off e => by have := (hob b (by rw [e]; rfl)).1; simp; omega) : Rd st w2 a9 c9 S9)
     have HS2 : Hid (w.heap.size + 2 ≤ w2.heap.size) := (by rw [← hw2]; simpa using HSr.out : w.heap.size + 2 ≤ w2.heap.size)
     have f5 := HPr.out.fro.2.2.2.2.2.1
     have dd : ¬ (i : Int) < (set.length : Int) ∨ ((i : Int) < (set.length : Int) ∧ ¬ (i : Int) < 9) := by
      by_cases h1 : i < set.length
      ·exact .inr ⟨by omega, by omega⟩
      ·exact .inl (by omega)
     clear hOr hob hb9 hS9 hL9 hlt
     rcases dd with dd | ⟨dd, dd9⟩
     all_goals
      go_wp2_with fail
      clear c5 c6 f5 dd
      go_loopw [8, 9] (fun kv iv wq => ∃ j : Nat, j ≤ l.length ∧ j ≤ 4 ∧ (j ≤ 0 ∨ 0 < d) ∧ iv = .int .i64 j ∧ Hid (Pd.OwnQ (fun b => w.heap.size + 2 ≤ b) wq w2.heap.size kv ((l.take j).map fun x => Pd.cut x (d - 1))) ∧ Hid (PAt wq w.heap.size ⟨vk, colx, vn, vm, sx, (a9, L9, c9), p, l.length, cap⟩) ∧ Hid (PAt wq (w.heap.size + 1) PV.zero) ∧ Hid (Rd st wq a9 c9 S9) ∧ Hid (w2.heap.size ≤ wq.heap.size) ∧ Hid (Ex w wq)) (fun kv iv wq => l.length - (intOf iv).toNat)
      case atStart => exact ⟨0, by omega, by omega, .inl (by omega), rfl, (Pd.OwnQ.nil _ _ _ : Pd.OwnQ (fun b => w.heap.size + 2 ≤ b) w2 w2.heap.size (.slice none 0 0) ((l.take 0).map fun x => Pd.cut x (d - 1))), HP2, HZ2, HR2, (Nat.le_refl _ : w2.heap.size ≤ w2.heap.size), HX2⟩
      case round =>
       obtain ⟨j, hj, hj4, hjd, rfl, HQ, HPq, HZq, HRq, HSq, HXq⟩ := hrel
       have c6 := HPq.out.all.2.2.2.2.2.2
       simp only at c6
       by_cases hlt : j < l.length ∧ j < 4 ∧ 0 < d
       ·obtain ⟨hlt, hl4, hd0⟩ := hlt
        have hti : (j : Int) < (l.length : Int) := by omega
        have HJ4 : Hid (j < 4) := hl4
        have dti : decide ((j : Int) < (l.length : Int)) = true := by simp; omega
        have dt4 : decide ((j : Int) < 4) = true := by simp; omega
        have dtd : decide ((0 : Int) < (d : Int)) = true := by simp; omega
        have dtdn : decide (0 < d) = true := by simp; omega
        have hLr := Pd.Lay.below _ HLw.out HXq.out
        obtain ⟨b, off, u, hpp, hbg, hLk, e0, e1, e2, e3, e4, e5, e6⟩ := hLr.kid hlt
        simp only at hpp
        obtain ⟨k, hk⟩ : ∃ k, l[j] = k := ⟨_, rfl⟩
        rw [hk] at hLk
        have HK : Hid (k ∈ l) := (by rw [← hk]; exact List.getElem_mem hlt : k ∈ l)
        have HNX : Hid (((l.take (j + 1)).map fun x => Pd.cut x (d - 1)) = ((l.take j).map fun x => Pd.cut x (d - 1)) ++ [Pd.cut k (d - 1)]) := (by
         rw [List.take_add_one, List.getElem?_eq_getElem hlt, hk, List.map_append]
         rfl : ((l.take (j + 1)).map fun x => Pd.cut x (d - 1)) = _)
        obtain ⟨d1, hd1⟩ : ∃ d1, d1 + 1 = d := ⟨d - 1, by omega⟩
        have HD1 : Hid (d1 + 1 = d) := hd1
        have td : (d : Int) - 1 = (d1 : Int) := by omega
        have HDD : Hid (d - 1 = d1) := (by omega : d - 1 = d1)
        have HC : Hid (Calls Try.prog 15 #[pvv u, .int .i64 d1] wr fun e w' => ∃ u, e = .returned (pvv u) ∧ Pd.Lay (fun b => wr.heap.size ≤ b) (Pd.cut k d1) w' u ∧ Ex wr w') := HIH.out k HK.out u wr d1 hLk (HRK.out k HK.out) (by omega)
        have hlen4 : ((l.take j).map fun x => Pd.cut x (d - 1)).length + 1 ≤ 1000 := by simp; omega
        have hKD : d - 1 = d1 := by omega
        subst hpp
        clear hLr hLk hk hbg hlt hl4 hd0 hd1 hjd
        go_wp2_with fail
        go_at_call 15
        refine Calls.mono HC.out ?_
        rintro e w3 ⟨u3, rfl, hL3, hx3⟩
        obtain ⟨w4, hw4⟩ : ∃ w4, w3.alloc (pb u3) = w4 := ⟨_, rfl⟩
        have hX34 : Ex w3 w4 := by rw [← hw4]; exact (Below.refl _ _).alloc (Nat.le_refl _) _
        have hX4 : Ex wr w4 := hx3.trans hX34
        have HX4 : Hid (Ex w w4) := (HXq.out.trans hX4 : Ex w w4)
        have HOB : Hid (∀ g, u8.ownBlock = some g → w2.heap.size ≤ g ∧ g < wr.heap.size) := HQ.out.lt
        have HR4 : Hid (RdW 7 pc w4 (some ⟨w3.heap.size, 0, none⟩) 1 [u3]) := (by rw [← hw4]; exact RdW.laid pc_len w3 [u3] (by simp) : RdW 7 pc w4 _ 1 [u3])
        have HL4 : Hid (Pd.Lays (fun c => u8.ownBlock ≠ some c ∧ w.heap.size + 2 ≤ c) w4 [u3] [Pd.cut k (d - 1)]) := (by
         rw [HDD.out]
         exact (Pd.Lays.one (Pd.Lay.below _ hL3 hX34)).mono fun c hc => ⟨fun e => by have := (HOB.out c e).2; omega, by have h1 := HSq.out; have h2 := HS2.out; omega⟩ : Pd.Lays _ w4 [u3] _)
        have HQ4 : Hid (Pd.OwnQ (fun b => w.heap.size + 2 ≤ b) w4 w2.heap.size u8 ((l.take j).map fun x => Pd.cut x (d - 1))) := (HQ.out.later hX4 : Pd.OwnQ _ w4 _ _ _)
        have HP4 : Hid (PAt w4 w.heap.size ⟨vk, colx, vn, vm, sx, (a9, L9, c9), some ⟨b, off, none⟩, l.length, cap⟩) := (HPq.out.below hX4 : PAt w4 _ _)
        have HZ4 : Hid (PAt w4 (w.heap.size + 1) PV.zero) := (HZq.out.below hX4 : PAt w4 _ _)
        have HR4s : Hid (Rd st w4 a9 c9 S9) := (HRq.out.below hX4 : Rd st w4 _ _ _)
        have HS4 : Hid (w2.heap.size ≤ w4.heap.size) := (Nat.le_trans HSq.out hX4.size : w2.heap.size ≤ w4.heap.size)
        have hstep2 : ∀ v9 w9, Pd.OwnQ (fun b => w.heap.size + 2 ≤ b) w9 w2.heap.size v9 (((l.take j).map fun x => Pd.cut x (d - 1)) ++ [Pd.cut k (d - 1)]) → w4.grownBy w9 u8.ownBlock → Hid (Pd.OwnQ (fun b => w.heap.size + 2 ≤ b) w9 w2.heap.size v9 ((l.take (j + 1)).map fun x => Pd.cut x (d - 1))) ∧ Hid (PAt w9 w.heap.size ⟨vk, colx, vn, vm, sx, (a9, L9, c9), some ⟨b, off, none⟩, l.length, cap⟩) ∧ Hid (PAt w9 (w.heap.size + 1) PV.zero) ∧ Hid (Rd st w9 a9 c9 S9) ∧ Hid (w2.heap.size ≤ w9.heap.size) ∧ Hid (Ex w w9) := by
         intro v9 w9 ho9 hg9
         have hne : ∀ g, g < w2.heap.size → u8.ownBlock ≠ some g := fun g hg e => by have := (HOB.out g e).1; omega
         have h2 := HS2.out
         refine ⟨by rw [HNX.out]; exact ho9, HP4.out.far hg9 (hne _ (by omega)), HZ4.out.far hg9 (hne _ (by omega)), rd_far HR4s.out hg9 (fun _ c o e => hne _ (HSB.out c o e).2), Nat.le_trans HS4.out hg9.size, Below.grown HX4.out hg9 HX4.out.size (fun g hg => by have := (HOB.out g hg).1; omega)⟩
        clear hL3 hx3 hX34 hX4 HC c6 e0 e1 e2 e3 e4 e5 e6 hKD
        simp only [pvv, sv]
        go_wp2_with (at_builtin; refine Pd.wpList_append_Q rfl (.tmp 68) (.tmp 77) rfl w2.heap.size u8 _ rfl HQ4.out (some ⟨w3.heap.size, 0, none⟩) 1 1 [u3] [Pd.cut k (d - 1)] rfl rfl HR4.out HL4.out (by simp only [List.length_cons, List.length_nil]; omega) HS4.out ?_; intro v9 w9 ho9 hg9 hat9; obtain ⟨HO9, HP9, HZ9, HR9, HS9', HX9⟩ := hstep2 v9 w9 ho9 hg9; clear ho9 hg9 hat9)
        go_roundw
        case rel => exact ⟨j + 1, by omega, by have := HJ4.out; omega, .inr (by have := HD1.out; omega), by go_num, HO9, HP9, HZ9, HR9, HS9', HX9⟩
        case measure => simp [intOf]; omega
       ·have HKE : Hid (((l.take j).map fun x => Pd.cut x (d - 1)) = if d = 0 then [] else (l.take 4).map fun x => Pd.cut x (d - 1)) := (by
         by_cases hd0 : d = 0
         ·have : j = 0 := by omega
          rw [if_pos hd0, this]
          rfl
         ·rw [if_neg hd0]
          by_cases h4 : j = 4
          ·rw [h4]
          ·rw [List.take_of_length_le (by omega), List.take_of_length_le (l := l) (i := 4) (by omega)] : ((l.take j).map fun x => Pd.cut x (d - 1)) = _)
        obtain ⟨K9, hK9⟩ : ∃ K9, (if d = 0 then [] else (l.take 4).map fun x => Pd.cut x (d - 1)) = K9 := ⟨_, rfl⟩
        have HK9 : Hid ((if d = 0 then [] else (l.take 4).map fun x => Pd.cut x (d - 1)) = K9) := hK9
        have hQr : Pd.OwnQ (fun b => w.heap.size + 2 ≤ b) wr w2.heap.size u8 K9 := by rw [← hK9, ← HKE.out]; exact HQ.out
        have hobq := hQr.lt
        obtain ⟨ka, kc, kvs, rfl, hRk, hLk⟩ := hQr.rd
        obtain ⟨N9, hN9⟩ : ∃ N9, K9.length = N9 := ⟨_, rfl⟩
        have HN9 : Hid (K9.length = N9) := hN9
        rw [hN9] at hobq ⊢
        obtain ⟨w5, hw5⟩ : ∃ w5, wr.setCell ⟨w.heap.size, 6, none⟩ (.slice ka N9 kc) = w5 := ⟨_, rfl⟩
        have hKB : ∀ g off, ka = some ⟨g, off, none⟩ → w.heap.size + 2 ≤ g := fun g off e => by have h1 := (hobq g (by rw [e]; rfl)).1; have h2 := HS2.out; omega
        have hP5 : PAt w5 w.heap.size ⟨vk, colx, vn, vm, sx, (a9, L9, c9), ka, N9, kc⟩ := by rw [← hw5]; exact HPq.out.set rfl
        have HZ5 : Hid (PAt w5 (w.heap.size + 1) PV.zero) := (by rw [← hw5]; exact HZq.out.other (by omega) : PAt w5 _ _)
        have HX5 : Hid (Ex w w5) := (by rw [← hw5]; exact Below.setCell HXq.out (Nat.le_refl _) _ : Ex w w5)
        have HR5 : Hid (Rd st w5 a9 c9 S9) := (by rw [← hw5]; exact rd_far HRq.out (grown_set1 _ _ _ _) (fun _ b off e => by have := (HSB.out b off e).1; simp; omega) : Rd st w5 a9 c9 S9)
        have HRK5 : Hid (RdW 7 pc w5 ka kc kvs) := (by rw [← hw5]; exact hRk.far (grown_set1 _ _ _ _) (fun _ b off e => by have := hKB b off e; simp; omega) : RdW 7 pc w5 ka kc kvs)
        have HLK5 : Hid (Pd.Lays (fun b => w.heap.size + 2 ≤ b) w5 kvs K9) := (by rw [← hw5]; exact hLk.far (row := some w.heap.size) (fun b hb e => by simp at e; omega) (grown_set1 _ _ _ _) : Pd.Lays _ w5 kvs K9)
        have HKB : Hid (∀ g off, ka = some ⟨g, off, none⟩ → w.heap.size + 2 ≤ g) := hKB
        have HSL : Hid (K9.length = N9) := hN9
        have f6 := HPq.out.fro.2.2.2.2.2.2
        obtain ⟨y0, y1, y2, y3, y4, y5, y6⟩ := hP5.all
        obtain ⟨z0, z1, z2, z3, z4, z5, z6⟩ := HZ5.out.fro
        obtain ⟨x0, x1, x2, x3, x4, x5, x6⟩ := HZ5.out.all
        simp only at y0 y1 y2 y3 y4 y5 y6
        have hC0 : ¬ (j < l.length ∧ j < 4 ∧ 0 < d) := hlt
        have ddj : ¬ (j : Int) < (l.length : Int) ∨ ((j : Int) < (l.length : Int) ∧ ¬ (j : Int) < 4) ∨ ((j : Int) < (l.length : Int) ∧ (j : Int) < 4 ∧ ¬ (0 : Int) < (d : Int)) := by
         by_cases h1 : j < l.length
         ·by_cases h2 : j < 4
          ·exact .inr (.inr ⟨by omega, by omega, by omega⟩)
          ·exact .inr (.inl ⟨by omega, by omega⟩)
         ·exact .inl (by omega)
        clear hQr hobq hRk hLk hP5 hKB hN9 hK9 hlt hC0 hjd
        rcases ddj with ddj | ⟨ddj, ddk⟩ | ⟨ddj, ddk, ddl⟩
        all_goals
         go_wp2_with fail
         have hP9 := HZ5.out.store ⟨vk, colx, vn, vm, sx, (a9, L9, c9), ka, N9, kc⟩
         have hX9 := Below.pset HX5.out (Nat.le_succ _) ⟨vk, colx, vn, vm, sx, (a9, L9, c9), ka, N9, kc⟩
         refine bodyPost_ret (v := pvv ⟨vk, colx, vn, vm, sx, (a9, L9, c9), ka, N9, kc⟩) (res_pred Try.results15 rfl hP9) rfl ⟨_, rfl, ?_, hX9⟩
         rw [Pd.cut_mk, HK9.out, Pd.lay_mk]
         have hgr := grown_pset w5 (w.heap.size + 1) ⟨vk, colx, vn, vm, sx, (a9, L9, c9), ka, N9, kc⟩
         refine ⟨⟨⟨rfl, HCC.out, rfl, rfl, HSS.out⟩, ?_, ?_, fun _ b off e => by have := (HSB.out b off e).1; omega⟩, HSL.out.symm, fun _ b off e => by have := HKB.out b off e; omega, kvs, ?_, ?_⟩
         ·show L9 = ((set.take 9).map fun s => s.take 41).length
          rw [HS9.out, HL9.out]
         ·show Rd st _ a9 c9 ((set.take 9).map fun s => s.take 41)
          rw [HS9.out]
          exact rd_far HR5.out hgr (fun _ b off e => by have := (HSB.out b off e).1; simp; omega)
         ·exact HRK5.out.far hgr (fun _ b off e => by have := HKB.out b off e; simp; omega)
         ·exact (HLK5.out.far (row := some (w.heap.size + 1)) (fun b hb e => by simp at e; omega) hgr).mono fun b hb => by omega
end Go.Proofs.Ytibnhjfeepdddaa
