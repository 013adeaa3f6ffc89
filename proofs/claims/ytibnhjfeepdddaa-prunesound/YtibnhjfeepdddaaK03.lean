/-
  The document's own Column: a column's cells, without its name. Cells, columns and rows as values and in memory: slices that read as such, and such that a call owns. No function of the program here. The books' own Cells and Cols: the same lists? The document's own Right, and the package's.
-/
import Derived.Test.YtibnhjfeepdddaaK02
import Derived.Test.YtibnhjfeepdddaaM11
import Derived.Deep.DeepCutAuto
import Derived.Deep.Light
import Derived.Test.YtibnhjfeepdddaaM16
import Derived.Test.YtibnhjfeepdddaaM41
namespace Go.Proofs.Ytibnhjfeepdddaa
open Go.RowKit
set_option linter.unusedVariables false
set_option linter.unusedSimpArgs false
abbrev ccb0 (d : Ce) : Obj := .cells #[.string { data := #[] }, .int .i64 d.k, .int .i64 d.n, .string (str d.s)] 90
set_option maxHeartbeats 4000000 in
set_option maxRecDepth 100000 in
theorem rcolumn_is (a : Option Addr) (n cap : Nat) (R : List Rw) (c : List UInt8) (w : World) (hn : n = R.length) (hB : RdR w a cap R) (hl : R.length ≤ 100000) :
  Calls Try.prog 36 #[.slice a n cap, .string (str c)] w fun e w' => ∃ v, e = .returned v ∧ OwnC w' w.heap.size v (Pu.column R c) ∧ Ex w w' := by
 subst hn
 obtain ⟨q1, q2, q3⟩ := hB.bounds
 unfold maxLen at q2
 have HB : Hid (RdR w a cap R) := hB
 clear hB q3
 go_enter Try.func36, Try.ntmps36
 go_wp2_with fail
 go_loopw [6, 5, 7] (fun iv ov cp wr => ∃ i : Nat, i ≤ R.length ∧ iv = .int .i64 i ∧ Hid (OwnC wr w.heap.size ov (Pu.column (R.take i) c)) ∧ Hid (Ex w wr)) (fun iv ov cp wr => R.length - (intOf iv).toNat)
 case atStart => exact ⟨0, by omega, rfl, (ownW_none _ _ : OwnC w w.heap.size (.slice none 0 0) (Pu.column (R.take 0) c)), Ex.refl w⟩
 case round =>
  obtain ⟨i, hi, rfl, HO, HX⟩ := hrel
  by_cases hlt : i < R.length
  ·have hti : (i : Int) < (R.length : Int) := by omega
   obtain ⟨b, off, p, cp2, rfl, e0, e1, e2, hC⟩ := (HB.out.below HX.out).at hlt
   obtain ⟨r, hr⟩ : ∃ r, R[i] = r := ⟨_, rfl⟩
   rw [hr] at e0 e1 e2 hC
   obtain ⟨d, hd⟩ : ∃ d, Rw.cell r.c c = d := ⟨_, rfl⟩
   have HNX : Hid (Pu.column (R.take (i + 1)) c = Pu.column (R.take i) c ++ [Pu.clear d]) := (by
    rw [List.take_add_one, List.getElem?_eq_getElem hlt, hr]; simp [Pu.column, hd] : Pu.column (R.take (i + 1)) c = Pu.column (R.take i) c ++ [Pu.clear d])
   have HC : Hid (Calls Try.prog 61 #[rvv ⟨r.t, r.q, p, r.c.length, cp2⟩, .string (str c)] _ fun e w' => e = .returned (cv d) ∧ Ex _ w') := rcell_is ⟨r.t, r.q, p, r.c.length, cp2⟩ r c _ ⟨rfl, rfl, rfl, hC⟩ d hd
   clear hr hd hC
   go_wp2_with fail
   go_at_call 61
   refine Calls.mono HC.out ?_
   rintro e w2 ⟨rfl, hx2⟩
   have HX2 : Hid (Ex w w2) := (HX.out.trans hx2 : Ex w w2)
   have HO2 : Hid (OwnC w2 w.heap.size _ (Pu.column (R.take i) c)) := OwnW.later HO.out hx2
   clear hx2 HC
   simp only [cv]
   go_upto_region 7 with fail
   have hcl : (Pu.column (R.take i) c).length = i := by simp [Pu.column]; omega
   obtain ⟨W3, hW3⟩ : ∃ W3, w2.alloc (ccb0 d) = W3 := ⟨_, rfl⟩
   obtain ⟨W4, hW4⟩ : ∃ W4, W3.alloc (ccb0 d) = W4 := ⟨_, rfl⟩
   have hx3 : Ex w2 W3 := by rw [← hW3]; exact (Below.refl _ _).alloc (Nat.le_refl _) _
   have hx4 : Ex W3 W4 := by rw [← hW4]; exact (Below.refl _ _).alloc (Nat.le_refl _) _
   have hx24 : Ex w2 W4 := hx3.trans hx4
   have HX4 : Hid (Ex w W4) := (HX2.out.trans hx24 : Ex w W4)
   have HO4 : Hid (OwnC W4 w.heap.size u5 (Pu.column (R.take i) c)) := (OwnW.later HO2.out hx24 : OwnC _ _ _ _)
   have hl3 : EAt W3 w2.heap.size (Pu.clear d) := by rw [← hW3]; exact EAt.new w2 (Pu.clear d)
   obtain ⟨y0, y1, y2, y3⟩ := hl3.all
   have HR : Hid (RdC W4 (some ⟨W3.heap.size, 0, none⟩) 1 [Pu.clear d]) := (by rw [← hW4]; exact RdW.laid (t := 90) cc_len W3 [Pu.clear d] (by simp) : RdC _ _ _ _)
   have HCL : Hid ((Pu.column (R.take i) c).length = i) := hcl
   have HW4 : Hid (W3.alloc (ccb0 d) = W4) := hW4
   have HS4 : Hid (w.heap.size ≤ W4.heap.size) := (HX4.out.size : w.heap.size ≤ W4.heap.size)
   simp only [Pu.clear] at y0 y1 y2 y3
   replace y0 : W3.cell? ⟨w2.heap.size, 0, none⟩ = some (.string { data := #[] }) := y0
   rw [hW3]
   clear hcl hx3 hx4 hx24 hl3 hW3 hW4
   go_wp2_with (at_builtin; rw [HW4.out]; refine wpList_append_wide cc_len cc_one rfl (.tmp 21) (.tmp 23) 59 _ 48 rfl Try.underlying59 Try.info90 (by omega) rfl w.heap.size _ (Pu.column (R.take i) c) rfl HO4.out (some ⟨W3.heap.size, 0, none⟩) 1 1 [Pu.clear d] rfl rfl HR.out (by have := HCL.out; unfold maxLen; simp; omega) (by have := HCL.out; simp; omega) HS4.out ?_; intro v' w5 hO5 hg5 _)
   have HO5 : Hid (OwnC w5 w.heap.size v' (Pu.column (R.take (i + 1)) c)) := (by rw [HNX.out]; exact hO5 : OwnC _ _ _ _)
   have HX5 : Hid (Ex w w5) := (step_belowW HX4.out HS4.out HO4.out hg5 : Ex w w5)
   clear hO5 hg5
   go_wp2_with fail
   go_roundw
   case rel => exact ⟨i + 1, by omega, by go_num, HO5, HX5⟩
   case measure => simp [intOf]; omega
  ·have hti : ¬ (i : Int) < (R.length : Int) := by omega
   have HE : Hid (R.take i = R) := (List.take_of_length_le (by omega) : R.take i = R)
   go_wp2_with fail
   go_ret
   exact ⟨_, rfl, by have h := HO.out; rw [HE.out] at h; exact h, HX.out⟩
end Go.Proofs.Ytibnhjfeepdddaa
namespace Go.Proofs.Ytibnhjfeepdddaa
open Go.RowKit
set_option linter.unusedVariables false
set_option linter.unusedSimpArgs false
/-- A column's two places; as a value. -/
def kc (c : Co) : List Value := [.string (str c.nm), .int .i64 c.k]
def kv (c : Co) : Value := .agg #[.string (str c.nm), .int .i64 c.k]
theorem kc_len (c : Co) : (kc c).length = 2 := rfl
theorem kc_one (c : Co) : ∀ u ∈ kc c, u.oneCell' = true := by
 intro u hu
 simp only [kc, List.mem_cons, List.not_mem_nil, or_false] at hu
 rcases hu with rfl | rfl <;> rfl
abbrev RdK := @RdW Co 2 kc
abbrev OwnK := @OwnW Co 87 2 kc
theorem RdK.two {w : World} {a : Option Addr} {cap : Nat} {l : List Co} (h : RdK w a cap l) {i : Nat} (hi : i < l.length) : ∃ b off, a = some ⟨b, off, none⟩ ∧ w.cell? ⟨b, off + i * 2, none⟩ = some (.string (str l[i].nm)) ∧ w.cell? ⟨b, off + i * 2 + 1, none⟩ = some (.int .i64 l[i].k) := by
 obtain ⟨b, off, e, hc⟩ := h.at hi
 exact ⟨b, off, e, hc 0 _ rfl, hc 1 _ rfl⟩
theorem Try.info87 : (Try.prog.info? 87).map (fun i => (i.zero, i.size, i.bytes)) = some (some (.agg #[.string ⟨#[]⟩, .int .i64 0]), 2, 24) := by kernel_rfl
end Go.Proofs.Ytibnhjfeepdddaa
namespace Go.Proofs.Ytibnhjfeepdddaa
open Go.RowKit
set_option linter.unusedVariables false
set_option linter.unusedSimpArgs false
theorem rcell_ex {w w' : World} {p : Addr} {u : Value} (h : w.cell? p = some u) (hx : Ex w w') : w'.cell? p = some u := by rw [hx.cell (World.block_lt_of_cell? w _ h)]; exact h
end Go.Proofs.Ytibnhjfeepdddaa
namespace Go.Proofs.Ytibnhjfeepdddaa
open Go.RowKit
set_option linter.unusedVariables false
set_option linter.unusedSimpArgs false
theorem T.rise_snoc {l : List (List UInt8)} {x : List UInt8} (h : T.Rise l) (hl : ∀ y, l[l.length - 1]? = some y → T.lt y x = true) : T.Rise (l ++ [x]) := by
 unfold T.Rise
 rw [List.pairwise_append]
 refine ⟨h, List.pairwise_singleton _ _, fun y hy z hz => ?_⟩
 rw [List.mem_singleton] at hz
 subst hz
 obtain ⟨i, hi⟩ := List.getElem?_of_mem hy
 have hil := (List.getElem?_eq_some_iff.1 hi).1
 obtain ⟨u, hu⟩ : ∃ u, l[l.length - 1]? = some u := ⟨_, List.getElem?_eq_getElem (by omega)⟩
 by_cases he : i = l.length - 1
 ·rw [he] at hi
  exact hl y hi
 ·exact T.lt_trans (T.rise_at h hi hu (by omega)) (hl u hu)
theorem rle_form (x y : List UInt8) : (Op.bytesLess x y || x == y) = !T.lt y x := by
 rcases T.lt_total x y with h | h | h
 ·have h' : Op.bytesLess x y = true := h
  rw [T.lt_asymm h, h']; rfl
 ·subst h
  have h' := T.lt_irrefl x
  rw [h']; simp
 ·have h' : Op.bytesLess x y = false := T.lt_asymm h
  rw [h, h']
  have hne : ¬ x = y := fun e => T.lt_ne h e.symm
  simp [hne]
theorem Rw.right_bad {r : Rw} {c : Ce} (h : c ∈ r.c) (hc : Rw.celOk c = false) : Rw.right r = false := by
 cases hr : Rw.right r with
 | false => rfl
 | true => have := ((Rw.right_iff r).1 hr).2.1 c h; rw [hc] at this; cases this
theorem Rw.right_down {r : Rw} {i : Nat} {c d : Ce} (h : r.c[i]? = some c) (h' : r.c[i + 1]? = some d) (hc : T.lt c.col d.col = false) : Rw.right r = false := by
 cases hr : Rw.right r with
 | false => rfl
 | true =>
  have := T.rise_at ((Rw.right_iff r).1 hr).2.2 (i := i) (j := i + 1) (x := c.col) (y := d.col) (by simp [h]) (by simp [h']) (by omega)
  rw [hc] at this; cases this
set_option maxHeartbeats 8000000 in
set_option maxRecDepth 100000 in
theorem rowright_is (v : RV) (r : Rw) (w : World) (h : RvOk w v r) (hl : ∀ c ∈ r.c, c.col.length ≤ maxLen ∧ c.s.length ≤ maxLen) (o : Bool) (ho : Rw.right r = o) : Calls Try.prog 60 #[rvv v] w fun e w' => e = .returned (.bool o) ∧ Ex w w' := by
 obtain ⟨vt, vq, p, n, cap⟩ := v
 obtain ⟨rfl, rfl, hn, hB⟩ := h
 simp only at hn hB
 subst hn
 have h1 := hB.1
 have h2 := hB.2.1
 unfold maxLen at h2
 have HO : Hid (Rw.right r = o) := ho
 have HLl : Hid (∀ c ∈ r.c, c.col.length ≤ maxLen ∧ c.s.length ≤ maxLen) := hl
 have HX : Hid (Ex w (w.alloc (rb ⟨r.t, r.q, p, r.c.length, cap⟩))) := ((Below.refl _ _).alloc (Nat.le_refl _) _ : Ex w _)
 have HB : Hid (RdC w p cap r.c) := hB
 have HL : Hid (LAt (w.alloc (rb ⟨r.t, r.q, p, r.c.length, cap⟩)) w.heap.size ⟨r.t, r.q, p, r.c.length, cap⟩) := LAt.new w _
 clear hB ho hl
 unfold rvv
 simp only [sv]
 go_enter Try.func60, Try.ntmps60
 go_upto_region 1 with fail
 obtain ⟨q, hq⟩ : ∃ q, (!Rw.head r) = q := ⟨_, rfl⟩
 have HQ : Hid ((!Rw.head r) = q) := hq
 clear hq
 go_cut [28] (fun v wc => v = .bool q ∧ wc = w.alloc (rb ⟨r.t, r.q, p, r.c.length, cap⟩))
 case first =>
  go_wp2_with fail
  all_goals (go_meet; refine ⟨?_, rfl⟩; go_light; rw [Value.bool.injEq, ← HQ.out, Bool.eq_iff_iff]; simp [Rw.head] at *; omega)
 case rest =>
  obtain ⟨rfl, rfl⟩ := hcut
  cases q with
  | true =>
   have hh : Rw.head r = false := by simpa using HQ.out
   have HF : Hid (o = false) := (by rw [← HO.out]; unfold Rw.right; rw [hh]; rfl : o = false)
   go_wp2_with fail
   go_ret
   exact ⟨by rw [HF.out]; rfl, HX.out⟩
  | false =>
   have HH : Hid (Rw.head r = true) := (by simpa using HQ.out : Rw.head r = true)
   go_wp2_with fail
   go_loopw [3, 4] (fun iv cv wr => ∃ i : Nat, i ≤ r.c.length ∧ iv = .int .i64 i ∧ Hid (∀ c ∈ r.c.take i, Rw.celOk c = true) ∧ Hid (T.Rise ((r.c.take i).map Ce.col)) ∧ Hid (LAt wr w.heap.size ⟨r.t, r.q, p, r.c.length, cap⟩) ∧ Hid (Ex w wr)) (fun iv cv wr => r.c.length - (intOf iv).toNat)
   case atStart => exact ⟨0, by omega, rfl, (by simp : ∀ c ∈ r.c.take 0, Rw.celOk c = true), (T.Rise.nil : T.Rise ((r.c.take 0).map Ce.col)), HL, HX⟩
   case round =>
    obtain ⟨i, hi, rfl, HA, HRi, HLr, HXr⟩ := hrel
    obtain ⟨n0, n1, n2⟩ := HLr.out.all
    by_cases hlt : i < r.c.length
    ·have hti : (i : Int) < (r.c.length : Int) := by omega
     obtain ⟨b, off, hpp, e0, e1, e2, e3⟩ := RdC.four (HB.out.below HXr.out) hlt
     obtain ⟨d, hd⟩ : ∃ d, r.c[i] = d := ⟨_, rfl⟩
     rw [hd] at e0 e1 e2 e3
     have hmem : d ∈ r.c := by rw [← hd]; exact List.getElem_mem hlt
     obtain ⟨hdl1, hdl2⟩ := HLl.out d hmem
     have HM : Hid (d ∈ r.c) := hmem
     have hnx : r.c.take (i + 1) = r.c.take i ++ [d] := by rw [List.take_add_one, List.getElem?_eq_getElem hlt, hd]; rfl
     have HNX : Hid (r.c.take (i + 1) = r.c.take i ++ [d]) := hnx
     have HDI : Hid (r.c[i]? = some d) := (by rw [List.getElem?_eq_getElem hlt, hd] : r.c[i]? = some d)
     have HLw : Hid (LAt (wr.alloc (cb d)) w.heap.size ⟨r.t, r.q, p, r.c.length, cap⟩) := HLr.out.alloc _
     have HXw : Hid (Ex w (wr.alloc (cb d))) := HXr.out.trans ((Below.refl _ _).alloc (Nat.le_refl _) _)
     have HD1 : Hid (d.col.length ≤ maxLen) := hdl1
     obtain ⟨nb, hnb⟩ : ∃ x, Rw.name d.col = x := ⟨_, rfl⟩
     have HNB : Hid (Rw.name d.col = nb) := hnb
     have hszlt : w.heap.size < wr.heap.size := HLr.out.lt
     have hsS := str_size d.s
     have zS := str_toList d.s
     unfold maxLen at hdl2
     subst hpp
     clear hd hmem hdl1 hnx hnb
     obtain ⟨x0, x1, x2, x3⟩ := (EAt.new wr d).all
     cases nb with
     | true =>
      by_cases hi0 : i = 0
      ·have t0 : decide (0 < (i : Int)) = false := by simp; omega
       have t1 : decide (0 < i) = false := by simp; omega
       have HR2 : Hid (T.Rise ((r.c.take (i + 1)).map Ce.col)) := (by rw [HNX.out, hi0]; simp [T.Rise] : T.Rise ((r.c.take (i + 1)).map Ce.col))
       clear hi0
       go_wp2_with fail
       go_quiet ((go_at_call 76; refine Calls.quiet_of_same (rname_is d.col _ HD1.out true HNB.out)))
       go_upto_region 9 with fail
       obtain ⟨w9, hw9⟩ : ∃ w9, w9 = (wr.alloc (cb d)).drewN nq := ⟨_, rfl⟩
       have HL9 : Hid (LAt w9 w.heap.size ⟨r.t, r.q, some ⟨b, off, none⟩, r.c.length, cap⟩) := (by rw [hw9]; exact HLw.out.below (Ex.drewN _ _) : LAt w9 w.heap.size ⟨r.t, r.q, some ⟨b, off, none⟩, r.c.length, cap⟩)
       have HX9 : Hid (Ex w w9) := (by rw [hw9]; exact HXw.out.trans (Ex.drewN _ _) : Ex w w9)
       have hE9 : EAt w9 wr.heap.size d := by rw [hw9]; exact (EAt.new wr d).below (Ex.drewN _ _)
       obtain ⟨g0, g1, g2, g3⟩ := hE9.all
       have HW9 : Hid (w9 = (wr.alloc (cb d)).drewN nq) := hw9
       clear hw9 hE9 x0 x1 x2 x3
       rw [← HW9.out]
       obtain ⟨fb, hfb⟩ : ∃ x, (!Rw.form d) = x := ⟨_, rfl⟩
       have HFB : Hid ((!Rw.form d) = fb) := hfb
       obtain ⟨k1, hk1⟩ : ∃ x, (d.k == 1) = x := ⟨_, rfl⟩
       obtain ⟨k2, hk2⟩ : ∃ x, (d.k == 2) = x := ⟨_, rfl⟩
       obtain ⟨k3, hk3⟩ : ∃ x, (d.n == 0) = x := ⟨_, rfl⟩
       obtain ⟨k4, hk4⟩ : ∃ x, (d.s == []) = x := ⟨_, rfl⟩
       have HK1 : Hid ((d.k == 1) = k1) := hk1
       have HK2 : Hid ((d.k == 2) = k2) := hk2
       have HK3 : Hid ((d.n == 0) = k3) := hk3
       have HK4 : Hid ((d.s == []) = k4) := hk4
       clear hfb
       go_cut [85] (fun v wc => v = .bool fb ∧ wc = w9)
       case first =>
        cases k1 <;> cases k2 <;> cases k3 <;> cases k4
        all_goals (go_wp2_with fail)
        all_goals (go_meet; refine ⟨?_, rfl⟩; go_light; rw [Value.bool.injEq, ← HFB.out]; have q1 := HK1.out; have q2 := HK2.out; have q3 := HK3.out; have q4 := HK4.out; simp at q1 q2 q3 q4; simp [Rw.form, q1, q2, q3, q4] at *; try omega)
       case rest =>
        obtain ⟨rfl, rfl⟩ := hcut
        clear hk1 hk2 hk3 hk4
        cases fb with
        | true =>
         have HF : Hid (o = false) := (by rw [← HO.out]; exact Rw.right_bad HM.out (by unfold Rw.celOk; rw [show Rw.form d = false by simpa using HFB.out]; simp) : o = false)
         go_wp2_with fail
         go_ret
         exact ⟨by rw [HF.out]; rfl, HX9.out⟩
        | false =>
         have HA2 : Hid (∀ c ∈ r.c.take (i + 1), Rw.celOk c = true) := (by
          intro c hc
          rw [HNX.out] at hc
          rcases List.mem_append.1 hc with h | h
          ·exact HA.out c h
          ·rw [List.mem_singleton] at h
           subst h
           unfold Rw.celOk
           rw [HNB.out, show Rw.form c = true by simpa using HFB.out]; rfl : ∀ c ∈ r.c.take (i + 1), Rw.celOk c = true)
         go_wp2_with fail
         go_roundw
         case rel => exact ⟨i + 1, by omega, by go_num, HA2, HR2, HL9, HX9⟩
         case measure => simp [intOf]; omega
      ·obtain ⟨k, rfl⟩ : ∃ k, i = k + 1 := ⟨i - 1, by omega⟩
       obtain ⟨b', off', hpp', e0', e1', e2', e3'⟩ := RdC.four (HB.out.below HXr.out) (show k < r.c.length by omega)
       obtain ⟨c, hc⟩ : ∃ c, r.c[k] = c := ⟨_, rfl⟩
       rw [hc] at e0'
       have hck : r.c[k]? = some c := by rw [List.getElem?_eq_getElem (by omega), hc]
       have HCK : Hid (r.c[k]? = some c) := hck
       have zc := str_toList c.col
       have zd := str_toList d.col
       simp only [Option.some.injEq, Addr.mk.injEq, and_true] at hpp'
       obtain ⟨rfl, rfl⟩ := hpp'
       have ew0 : (wr.alloc (cb d)).cell? ⟨b, off + k * 4, none⟩ = some (.string (str c.col)) := rcell_ex e0' ((Below.refl _ _).alloc (Nat.le_refl _) _)
       have hgg := rle_form d.col c.col
       have t0 : decide (0 < ((k : Int) + 1)) = true := decide_eq_true (by omega)
       have t1 : decide (0 < k + 1) = true := by simp
       clear hc hck e1' e2' e3' hi0
       cases hcd : T.lt c.col d.col with
       | true =>
        have hcd2 : Op.bytesLess c.col d.col = true := hcd
        rw [hcd] at hgg
        simp only [Bool.not_true] at hgg
        have HR2 : Hid (T.Rise ((r.c.take (k + 1 + 1)).map Ce.col)) := (by
         rw [HNX.out, List.map_append]
         refine T.rise_snoc HRi.out fun y hy => ?_
         have hlen : ((r.c.take (k + 1)).map Ce.col).length - 1 = k := by simp; omega
         rw [hlen, List.getElem?_map, List.getElem?_take, if_pos (by omega), HCK.out] at hy
         simp at hy
         rw [← hy]; exact hcd : T.Rise ((r.c.take (k + 1 + 1)).map Ce.col))
        clear hcd
        go_wp2_with fail
        go_quiet ((go_at_call 76; refine Calls.quiet_of_same (rname_is d.col _ HD1.out true HNB.out)))
        go_upto_region 9 with fail
        obtain ⟨w9, hw9⟩ : ∃ w9, w9 = (wr.alloc (cb d)).drewN nq := ⟨_, rfl⟩
        have HL9 : Hid (LAt w9 w.heap.size ⟨r.t, r.q, some ⟨b, off, none⟩, r.c.length, cap⟩) := (by rw [hw9]; exact HLw.out.below (Ex.drewN _ _) : LAt w9 w.heap.size ⟨r.t, r.q, some ⟨b, off, none⟩, r.c.length, cap⟩)
        have HX9 : Hid (Ex w w9) := (by rw [hw9]; exact HXw.out.trans (Ex.drewN _ _) : Ex w w9)
        have hE9 : EAt w9 wr.heap.size d := by rw [hw9]; exact (EAt.new wr d).below (Ex.drewN _ _)
        obtain ⟨g0, g1, g2, g3⟩ := hE9.all
        have HW9 : Hid (w9 = (wr.alloc (cb d)).drewN nq) := hw9
        clear hw9 hE9 x0 x1 x2 x3
        rw [← HW9.out]
        obtain ⟨fb, hfb⟩ : ∃ x, (!Rw.form d) = x := ⟨_, rfl⟩
        have HFB : Hid ((!Rw.form d) = fb) := hfb
        obtain ⟨k1, hk1⟩ : ∃ x, (d.k == 1) = x := ⟨_, rfl⟩
        obtain ⟨k2, hk2⟩ : ∃ x, (d.k == 2) = x := ⟨_, rfl⟩
        obtain ⟨k3, hk3⟩ : ∃ x, (d.n == 0) = x := ⟨_, rfl⟩
        obtain ⟨k4, hk4⟩ : ∃ x, (d.s == []) = x := ⟨_, rfl⟩
        have HK1 : Hid ((d.k == 1) = k1) := hk1
        have HK2 : Hid ((d.k == 2) = k2) := hk2
        have HK3 : Hid ((d.n == 0) = k3) := hk3
        have HK4 : Hid ((d.s == []) = k4) := hk4
        clear hfb
        go_cut [85] (fun v wc => v = .bool fb ∧ wc = w9)
        case first =>
         cases k1 <;> cases k2 <;> cases k3 <;> cases k4
         all_goals (go_wp2_with fail)
         all_goals (go_meet; refine ⟨?_, rfl⟩; go_light; rw [Value.bool.injEq, ← HFB.out]; have q1 := HK1.out; have q2 := HK2.out; have q3 := HK3.out; have q4 := HK4.out; simp at q1 q2 q3 q4; simp [Rw.form, q1, q2, q3, q4] at *; try omega)
        case rest =>
         obtain ⟨rfl, rfl⟩ := hcut
         clear hk1 hk2 hk3 hk4
         cases fb with
         | true =>
          have HF : Hid (o = false) := (by rw [← HO.out]; exact Rw.right_bad HM.out (by unfold Rw.celOk; rw [show Rw.form d = false by simpa using HFB.out]; simp) : o = false)
          go_wp2_with fail
          go_ret
          exact ⟨by rw [HF.out]; rfl, HX9.out⟩
         | false =>
          have HA2 : Hid (∀ c ∈ r.c.take (k + 1 + 1), Rw.celOk c = true) := (by
           intro c hc
           rw [HNX.out] at hc
           rcases List.mem_append.1 hc with h | h
           ·exact HA.out c h
           ·rw [List.mem_singleton] at h
            subst h
            unfold Rw.celOk
            rw [HNB.out, show Rw.form c = true by simpa using HFB.out]; rfl : ∀ c ∈ r.c.take (k + 1 + 1), Rw.celOk c = true)
          go_wp2_with fail
          go_roundw
          case rel => exact ⟨k + 1 + 1, by omega, by go_num, HA2, HR2, HL9, HX9⟩
          case measure => simp [intOf]; omega
       | false =>
        have hcd2 : Op.bytesLess c.col d.col = false := hcd
        rw [hcd] at hgg
        simp only [Bool.not_false] at hgg
        have HF : Hid (o = false) := (by rw [← HO.out]; exact Rw.right_down HCK.out HDI.out hcd : o = false)
        clear hcd
        go_wp2_with fail
        go_quiet ((go_at_call 76; refine Calls.quiet_of_same (rname_is d.col _ HD1.out true HNB.out)))
        go_wp2_with fail
        go_ret
        exact ⟨by rw [HF.out]; rfl, HXw.out.trans (Ex.drewN _ _)⟩
     | false =>
      have HF : Hid (o = false) := (by rw [← HO.out]; exact Rw.right_bad HM.out (by unfold Rw.celOk; rw [HNB.out]; simp) : o = false)
      go_wp2_with fail
      go_quiet ((go_at_call 76; refine Calls.quiet_of_same (rname_is d.col _ HD1.out false HNB.out)))
      go_wp2_with fail
      go_ret
      exact ⟨by rw [HF.out]; rfl, HXw.out.trans (Ex.drewN _ _)⟩
    ·have hti : ¬ (i : Int) < (r.c.length : Int) := by omega
     have HF : Hid (o = true) := (by rw [← HO.out, Rw.right_iff]; have h1 := HA.out; have h2 := HRi.out; rw [List.take_of_length_le (by omega)] at h1 h2; have h3 := HH.out; unfold Rw.head at h3; simp at h3; exact ⟨by omega, h1, h2⟩ : o = true)
     go_wp2_with fail
     go_ret
     exact ⟨by rw [HF.out]; rfl, HXr.out⟩
end Go.Proofs.Ytibnhjfeepdddaa
