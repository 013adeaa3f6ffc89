/-
  The statements' own null, nots, known; the books' Everything.
-/
import Derived.Test.YtbdjccmlgdfapaaLeval
namespace Go.Proofs.Ytbdjccmlgdfapaa
open Go.RowKit
set_option linter.unusedVariables false
set_option linter.unusedSimpArgs false
/-- A part without Kids or texts, as it lies. -/
theorem lay_bare (B : Nat → Prop) (w : World) (k : Int) (c : List UInt8) (n m : Int) (s : List UInt8) : Pd.Lay B (Pr.mk' ⟨k, c, n, m, s, []⟩ []) w ⟨k, c, n, m, s, (none, 0, 0), none, 0, 0⟩ := by
  rw [Pd.lay_mk]
  exact ⟨⟨⟨rfl, rfl, rfl, rfl, rfl⟩, rfl, Rd.nil _, fun h0 => by simp at h0⟩, rfl, fun h0 => by simp at h0, [], RdW.nil _, Pd.Lays.nil _ _⟩
set_option maxHeartbeats 4000000 in
set_option maxRecDepth 100000 in
theorem null_is (s : List UInt8) (w : World) : Calls Try.prog 30 #[.string (str s)] w fun e w' => ∃ u, e = .returned (pvv u) ∧ Pd.Lay (fun b => w.heap.size ≤ b) (Pd.nullP s) w' u ∧ Ex w w' := by
  go_enter Try.func30, Try.ntmps30
  go_wp2_with fail
  refine bodyPost_ret (v := pvv ⟨9, s, 0, 0, [], (none, 0, 0), none, 0, 0⟩) ?_ rfl ⟨_, rfl, lay_bare _ _ _ _ _ _ _, by (repeat' (first | exact Below.refl _ _ | refine Below.alloc ?_ (by simp <;> omega) _))⟩
  simp [results, Try.results30, go_sem, pvv, sv, str]
set_option maxHeartbeats 4000000 in
set_option maxRecDepth 100000 in
theorem every_is (w : World) : Calls Try.prog 31 #[] w fun e w' => ∃ u, e = .returned (pvv u) ∧ Pd.Lay (fun b => w.heap.size ≤ b) (Pr.mk' (Pd.hk 1) []) w' u ∧ Ex w w' := by
  go_enter Try.func31, Try.ntmps31
  go_wp2_with fail
  refine bodyPost_ret (v := pvv ⟨1, [], 0, 0, [], (none, 0, 0), none, 0, 0⟩) ?_ rfl ⟨_, rfl, lay_bare _ _ _ _ _ _ _, by (repeat' (first | exact Below.refl _ _ | refine Below.alloc ?_ (by simp <;> omega) _))⟩
  simp [results, Try.results31, go_sem, pvv, sv, str]
/-- A Not is stored into a block, as the walk spells it. -/
abbrev pset3 (w : World) (g : Nat) (a : Option Addr) : World := ((((((w.setCell ⟨g, 0, none⟩ (.int .i64 3)).setCell ⟨g, 1, none⟩ (.string { data := #[] })).setCell ⟨g, 2, none⟩ (.int .i64 0)).setCell ⟨g, 3, none⟩ (.int .i64 0)).setCell ⟨g, 4, none⟩ (.string { data := #[] })).setCell ⟨g, 5, none⟩ (.slice none 0 0)).setCell ⟨g, 6, none⟩ (.slice a 1 1)
/-- One Not more, laid about a predicate. -/
theorem lay_nt {B : Nat → Prop} {p : Pr} {w : World} {u : PV} {g : Nat} (hL : Pd.Lay B p w u) (hR : RdW 7 pc w (some ⟨g, 0, none⟩) 1 [u]) (hB : B g) : Pd.Lay B (Pd.nt p) w ⟨3, [], 0, 0, [], (none, 0, 0), some ⟨g, 0, none⟩, 1, 1⟩ := by
  unfold Pd.nt
  rw [Pd.lay_mk]
  exact ⟨⟨⟨rfl, rfl, rfl, rfl, rfl⟩, rfl, Rd.nil _, fun h0 => by simp at h0⟩, rfl, fun _ b off e => by simp at e; rw [← e.1]; exact hB, [u], hR, Pd.Lays.one hL⟩
set_option maxHeartbeats 4000000 in
set_option maxRecDepth 100000 in
theorem nots_is {B : Nat → Prop} (p : Pr) (n : Nat) (v : PV) (w : World) (hL : Pd.Lay B p w v) (hn : n ≤ 1000) :
    Calls Try.prog 23 #[pvv v, .int .i64 n] w fun e w' => ∃ u, e = .returned (pvv u) ∧ Pd.Lay (fun b => B b ∨ w.heap.size ≤ b) (Pd.ntN n p) w' u ∧ Ex w w' := by
  obtain ⟨vk, vcol, vn, vm, vs, vset, vkids⟩ := v
  obtain ⟨W, hW⟩ : ∃ W, (w.alloc (pb ⟨vk, vcol, vn, vm, vs, vset, vkids⟩)).alloc pb0 = W := ⟨_, rfl⟩
  have hX1 : Ex w (w.alloc (pb ⟨vk, vcol, vn, vm, vs, vset, vkids⟩)) := (Below.refl _ _).alloc (Nat.le_refl _) _
  have hXW : Ex w W := by rw [← hW]; exact Below.alloc hX1 (by simp) _
  have HXW : Hid (Ex w W) := hXW
  have HSZ : Hid (w.heap.size + 2 ≤ W.heap.size) := (by rw [← hW]; simp : w.heap.size + 2 ≤ W.heap.size)
  have HZ : Hid (PAt W (w.heap.size + 1) PV.zero) := (by
    rw [← hW]
    exact PAt.newat (w.alloc (pb ⟨vk, vcol, vn, vm, vs, vset, vkids⟩)) (w.heap.size + 1) PV.zero (by simp) : PAt W (w.heap.size + 1) PV.zero)
  have HU : Hid (∃ u, PAt W w.heap.size u ∧ Pd.Lay (fun b => (B b ∧ b < w.heap.size) ∨ w.heap.size + 2 ≤ b) (Pd.ntN (n - n) p) W u) := (⟨⟨vk, vcol, vn, vm, vs, vset, vkids⟩, by rw [← hW]; exact (PAt.new w _).alloc _, by
    rw [Nat.sub_self]
    exact Pd.Lay.below _ (Pd.Lay.mono (fun b hb => .inl hb) _ hL.lt) hXW⟩ : ∃ u, _ ∧ _)
  clear hL hX1 hXW
  unfold pvv
  simp only [sv]
  go_enter Try.func23, Try.ntmps23
  go_wp2_with fail
  go_loopw [1] (fun iv wr => ∃ j : Nat, j ≤ n ∧ iv = .int .i64 j ∧ Hid (∃ u, PAt wr w.heap.size u ∧ Pd.Lay (fun b => (B b ∧ b < w.heap.size) ∨ w.heap.size + 2 ≤ b) (Pd.ntN (n - j) p) wr u) ∧ Hid (PAt wr (w.heap.size + 1) PV.zero) ∧ Hid (w.heap.size + 2 ≤ wr.heap.size) ∧ Hid (Ex w wr)) (fun iv wr => (intOf iv).toNat)
  case atStart => exact ⟨n, Nat.le_refl _, rfl, HU, HZ, HSZ, HXW⟩
  case round =>
    obtain ⟨j, hj, rfl, HUr, HZr, HSr, HXr⟩ := hrel
    obtain ⟨u, hPu, hLu⟩ := HUr.out
    by_cases hj0 : 0 < j
    · have t0 : decide ((0 : Int) < (j : Int)) = true := by simp; omega
      have t00 : decide (0 < j) = true := by simp; omega
      obtain ⟨i, hi⟩ : ∃ i, i + 1 = j := ⟨j - 1, by omega⟩
      have tj : (j : Int) - 1 = (i : Int) := by omega
      have HIJ : Hid (i + 1 = j) := hi
      obtain ⟨w1, hw1⟩ : ∃ w1, wr.alloc (pb u) = w1 := ⟨_, rfl⟩
      have hX1 : Ex wr w1 := by rw [← hw1]; exact (Below.refl _ _).alloc (Nat.le_refl _) _
      have hP1 : PAt w1 w.heap.size u := hPu.below hX1
      obtain ⟨w2, hw2⟩ : ∃ w2, pset3 w1 w.heap.size (some ⟨wr.heap.size, 0, none⟩) = w2 := ⟨_, rfl⟩
      have hP2 : PAt w2 w.heap.size ⟨3, [], 0, 0, [], (none, 0, 0), some ⟨wr.heap.size, 0, none⟩, 1, 1⟩ := by rw [← hw2]; exact hP1.store ⟨3, [], 0, 0, [], (none, 0, 0), some ⟨wr.heap.size, 0, none⟩, 1, 1⟩
      have hg2 : w1.grownBy w2 (some w.heap.size) := by rw [← hw2]; exact grown_pset w1 w.heap.size ⟨3, [], 0, 0, [], (none, 0, 0), some ⟨wr.heap.size, 0, none⟩, 1, 1⟩
      have hR1 : RdW 7 pc w1 (some ⟨wr.heap.size, 0, none⟩) 1 [u] := by rw [← hw1]; exact RdW.laid pc_len wr [u] (by simp)
      have HU2 : Hid (∃ u, PAt w2 w.heap.size u ∧ Pd.Lay (fun b => (B b ∧ b < w.heap.size) ∨ w.heap.size + 2 ≤ b) (Pd.ntN (n - i) p) w2 u) := (by
        refine ⟨_, hP2, ?_⟩
        have h1 := HIJ.out
        rw [show n - i = (n - j) + 1 by omega]
        have h2 := HSr.out
        show Pd.Lay _ (Pd.nt (Pd.ntN (n - j) p)) w2 _
        refine lay_nt (u := u) ?_ ?_ (.inr h2)
        · exact Pd.Lay.far (row := some w.heap.size) (fun b hb e => by simp at e; omega) _ (Pd.Lay.below _ hLu hX1) hg2
        · exact hR1.far hg2 (fun _ b off e => by simp at e; simp; omega) : ∃ u, _ ∧ _)
      have HZ2 : Hid (PAt w2 (w.heap.size + 1) PV.zero) := ((HZr.out.below hX1).far hg2 (by simp) : PAt w2 _ _)
      have HS2 : Hid (w.heap.size + 2 ≤ w2.heap.size) := (by have h1 := HSr.out; have h2 := hX1.size; have h3 := hg2.size; omega : w.heap.size + 2 ≤ w2.heap.size)
      have HX2 : Hid (Ex w w2) := (Below.grown (HXr.out.trans hX1) hg2 (HXr.out.trans hX1).size (fun g hg => by simp at hg; omega) : Ex w w2)
      obtain ⟨c0, c1, c2, c3, c4, c5, c6⟩ := hPu.all
      obtain ⟨d0, d1, d2, d3, d4, d5, d6⟩ := hP1.all
      obtain ⟨f0, f1, f2, f3, f4, f5, f6⟩ := hP1.fro
      clear hPu hLu hP1 hP2 hg2 hR1 hX1 hi HUr
      go_wp2_with fail
      go_roundw
      case rel => exact ⟨i, by have := HIJ.out; omega, by go_num, HU2, HZ2, HS2, HX2⟩
      case measure => simp [intOf]; omega
    · have t0 : decide ((0 : Int) < (j : Int)) = false := by simp; omega
      have t00 : decide (0 < j) = false := by simp; omega
      have HJ0 : Hid (j = 0) := (by omega : j = 0)
      have HLu : Hid (Pd.Lay (fun b => (B b ∧ b < w.heap.size) ∨ w.heap.size + 2 ≤ b) (Pd.ntN (n - j) p) wr u) := hLu
      obtain ⟨c0, c1, c2, c3, c4, c5, c6⟩ := hPu.all
      obtain ⟨z0, z1, z2, z3, z4, z5, z6⟩ := HZr.out.fro
      obtain ⟨y0, y1, y2, y3, y4, y5, y6⟩ := HZr.out.all
      clear hPu hLu HUr
      go_wp2_with fail
      have hP9 := HZr.out.store u
      have hX9 := Below.pset HXr.out (Nat.le_succ _) u
      refine bodyPost_ret (v := pvv u) (res_pred Try.results23 rfl hP9) rfl ⟨_, rfl, ?_, hX9⟩
      have h := HLu.out
      rw [HJ0.out, Nat.sub_zero] at h
      exact Pd.Lay.mono (fun b hb => by rcases hb with hb | hb; exact .inl hb.1; exact .inr (by omega)) _ (Pd.Lay.far (row := some (w.heap.size + 1)) (fun b hb e => by simp at e; omega) _ h (grown_pset _ _ _))
end Go.Proofs.Ytbdjccmlgdfapaa
