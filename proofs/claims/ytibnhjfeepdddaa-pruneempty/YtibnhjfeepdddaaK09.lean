/-
  The books' Rising: tame rows whose times rise. Plain: tame rows are such as Grow takes; rising rows rise. No program here. The law's own prefixed: has a predicate a Prefix or an In?
-/
import Derived.Test.YtibnhjfeepdddaaM35
import Derived.Test.YtibnhjfeepdddaaK02
import Derived.Test.YtibnhjfeepdddaaM16
import Derived.Test.YtibnhjfeepdddaaM30
namespace Go.Proofs.Ytibnhjfeepdddaa
open Go.RowKit
set_option linter.unusedVariables false
set_option linter.unusedSimpArgs false
/-- How far a row's time goes on. -/
def Rw.stp (r : Rw) : Nat := (r.t.tmod 100).natAbs % 4
/-- The first i rows, and the last time. -/
def Rw.rs (R : List Rw) : Nat → List Rw × Int
 | 0 => ([], 0)
 | i + 1 => match R[i]? with
  | none => Rw.rs R i
  | some r => ((Rw.rs R i).1 ++ [⟨(Rw.rs R i).2 + Rw.stp r, i, (Rw.tame r i).c⟩], (Rw.rs R i).2 + Rw.stp r)
theorem Rw.rs_some {R : List Rw} {i : Nat} {r : Rw} (h : R[i]? = some r) : Rw.rs R (i + 1) = ((Rw.rs R i).1 ++ [⟨(Rw.rs R i).2 + Rw.stp r, i, (Rw.tame r i).c⟩], (Rw.rs R i).2 + Rw.stp r) := by
 rw [Rw.rs, h]
theorem Rw.rs_le (R : List Rw) : ∀ i, (Rw.rs R i).1.length ≤ i ∧ 0 ≤ (Rw.rs R i).2 ∧ (Rw.rs R i).2 ≤ 3 * i
 | 0 => by simp [Rw.rs]
 | i + 1 => by
  have h := Rw.rs_le R i
  cases hr : R[i]? with
  | none => rw [Rw.rs, hr]; simp only; omega
  | some r =>
   rw [Rw.rs_some hr]
   have : Rw.stp r < 4 := by unfold Rw.stp; omega
   simp only [List.length_append, List.length_cons, List.length_nil]
   omega
set_option maxHeartbeats 4000000 in
set_option maxRecDepth 100000 in
theorem rising_is (a : Option Addr) (n cap m : Nat) (R : List Rw) (w : World) (hn : n = R.length) (hB : RdR w a cap R) (hR : ∀ r ∈ R, RwOk r) (hm : m ≤ 100000) :
  Calls Try.prog 17 #[.slice a n cap, .int .i64 (m : Int)] w fun e w' => ∃ v, e = .returned v ∧ OwnL w' w.heap.size v (Rw.rs R (min m R.length)).1 ∧ Ex w w' := by
 subst hn
 obtain ⟨q1, q2, q3⟩ := hB.bounds
 unfold maxLen at q2
 have HB : Hid (RdR w a cap R) := hB
 have HR : Hid (∀ r ∈ R, RwOk r) := hR
 clear hB q3 hR
 go_enter Try.func17, Try.ntmps17
 go_wp2_with fail
 go_loopw [7, 5, 6, 8, 9] (fun iv ov tv bp sp wr => ∃ (i : Nat) (t : Int), i ≤ R.length ∧ i ≤ m ∧ iv = .int .i64 i ∧ tv = .int .i64 t ∧ Hid (t = (Rw.rs R i).2) ∧ Hid (OwnL wr w.heap.size ov (Rw.rs R i).1) ∧ Hid (Ex w wr)) (fun iv ov tv bp sp wr => R.length - (intOf iv).toNat)
 case atStart => exact ⟨0, 0, by omega, by omega, rfl, rfl, (rfl : (0 : Int) = (Rw.rs R 0).2), (OwnL.nil _ _ : OwnL w w.heap.size (.slice none 0 0) (Rw.rs R 0).1), Ex.refl w⟩
 case round =>
  obtain ⟨i, t, hi, him, rfl, rfl, HT, HO, HX⟩ := hrel
  have hle := Rw.rs_le R i
  have ht1 : 0 ≤ t := by rw [HT.out]; exact hle.2.1
  have ht2 : t ≤ 3 * i := by rw [HT.out]; exact hle.2.2
  have HLE : Hid ((Rw.rs R i).1.length ≤ i) := hle.1
  clear hle
  by_cases hlt : i < R.length
  ·have hti : (i : Int) < (R.length : Int) := by omega
   by_cases hlm : i < m
   ·have htm : (i : Int) < (m : Int) := by omega
    obtain ⟨b, off, p, cp2, rfl, e0, e1, e2, hC⟩ := (HB.out.below HX.out).at hlt
    obtain ⟨r, hr⟩ : ∃ r, R[i] = r := ⟨_, rfl⟩
    rw [hr] at e0 e1 e2 hC
    have HNX : Hid (Rw.rs R (i + 1) = ((Rw.rs R i).1 ++ [⟨(Rw.rs R i).2 + Rw.stp r, i, (Rw.tame r i).c⟩], (Rw.rs R i).2 + Rw.stp r)) := (Rw.rs_some (by rw [List.getElem?_eq_getElem hlt, hr]) : _ = _)
    have HC : Hid (Calls Try.prog 22 #[rvv ⟨r.t, r.q, p, r.c.length, cp2⟩, .int .i64 (i : Int)] _ fun e w' => ∃ u : RV, e = .returned (rvv u) ∧ RvOk w' u (Rw.tame r i) ∧ Ex _ w' ∧ ∀ g, (sv u.s).ownBlock = some g → _ ≤ g) := tame_own ⟨r.t, r.q, p, r.c.length, cp2⟩ r i _ ⟨rfl, rfl, rfl, hC⟩ (HR.out r (by rw [← hr]; exact List.getElem_mem hlt))
    clear hr hC
    go_wp2_with fail
    go_at_call 22
    refine Calls.mono HC.out ?_
    rintro e w2 ⟨⟨ut, uq, ⟨ua, un, uc⟩⟩, rfl, hu, hx2, hfr⟩
    obtain ⟨h1, h2, h3, h4⟩ := hu
    simp only at h1 h2 h3 h4 hfr
    have HX2 : Hid (Ex w w2) := (HX.out.trans hx2 : Ex w w2)
    have HO2 : Hid (OwnL w2 w.heap.size u5 (Rw.rs R i).1) := (HO.out.later hx2 : OwnL _ _ _ _)
    have HUN : Hid (un = (Rw.tame r i).c.length) := h3
    have HUC : Hid (RdC w2 ua uc (Rw.tame r i).c) := h4
    have HAW : Hid (AwayR u5.ownBlock [⟨t + (Rw.stp r : Int), i, ua, un, uc⟩]) := (by
     intro v hv _ q hq hne
     rw [List.mem_singleton] at hv
     subst hv
     have g1 := hfr q hq
     have g2 := (HO.out.lt q hne).2
     omega : AwayR _ _)
    obtain ⟨T, hT⟩ : ∃ T, r.t.tmod 100 = T := ⟨_, rfl⟩
    have hTb := tmod_lt (a := r.t) (b := 100) (by decide)
    rw [hT] at hTb
    obtain ⟨S, hS⟩ : ∃ S, Rw.stp r = S := ⟨_, rfl⟩
    rw [hS] at HAW
    have hS4 : S < 4 := by rw [← hS]; unfold Rw.stp; omega
    have HS5 : Hid (Rw.stp r = S) := hS
    have hut : T = ut := by rw [h1, ← hT]; rfl
    have huq : (i : Int) = uq := h2.symm
    have hSt : T.natAbs % 4 = S := by rw [← hS, ← hT]; rfl
    subst hut huq
    have hws : wrap64 (t + S) = t + S := by unfold wrap64; omega
    clear h1 h2 h3 h4 hfr hx2 HC hS
    simp only [rvv, sv]
    by_cases hneg : T < 0
    ·have hm : (-T).tmod 4 = (S : Int) := by rw [Int.tmod_eq_emod_of_nonneg (by omega)]; omega
     have hwn : wrap64 (-T) = -T := by unfold wrap64; omega
     clear hSt hT
     go_upto_region 12 with fail
     obtain ⟨W3, hW3⟩ : ∃ W3, w2.alloc (rb ⟨t + S, i, ua, un, uc⟩) = W3 := ⟨_, rfl⟩
     obtain ⟨W4, hW4⟩ : ∃ W4, W3.alloc (rb ⟨t + S, i, ua, un, uc⟩) = W4 := ⟨_, rfl⟩
     have hx3 : Ex w2 W3 := by rw [← hW3]; exact (Below.refl _ _).alloc (Nat.le_refl _) _
     have hx4 : Ex W3 W4 := by rw [← hW4]; exact (Below.refl _ _).alloc (Nat.le_refl _) _
     have hx24 : Ex w2 W4 := hx3.trans hx4
     have HX4 : Hid (Ex w W4) := (HX2.out.trans hx24 : Ex w W4)
     have HO4 : Hid (OwnL W4 w.heap.size u5 (Rw.rs R i).1) := (HO2.out.later hx24 : OwnL _ _ _ _)
     have hl3 : LAt W3 w2.heap.size ⟨t + S, i, ua, un, uc⟩ := by rw [← hW3]; exact LAt.new w2 _
     obtain ⟨y0, y1, y2⟩ := hl3.all
     have HR4 : Hid (RdW 3 rc W4 (some ⟨W3.heap.size, 0, none⟩) 1 [⟨t + S, i, ua, un, uc⟩]) := (by rw [← hW4]; exact RdW.laid (t := 61) rc_len W3 [⟨t + S, i, ua, un, uc⟩] (by simp) : RdW _ _ _ _ _ _)
     have HE4 : Hid (EachR W4 [⟨t + S, i, ua, un, uc⟩] [⟨(Rw.rs R i).2 + Rw.stp r, i, (Rw.tame r i).c⟩]) := (by
      refine ⟨rfl, fun j v y hv hy => ?_⟩
      cases j with
      | zero =>
       simp only [List.getElem?_cons_zero, Option.some.injEq] at hv hy
       subst hv; subst hy
       exact ⟨by rw [HT.out, ← HS5.out], rfl, HUN.out, HUC.out.below hx24⟩
      | succ j => simp at hv : EachR _ _ _)
     have HS4 : Hid (w.heap.size ≤ W4.heap.size) := (HX4.out.size : w.heap.size ≤ W4.heap.size)
     have HW4 : Hid (W3.alloc (rb ⟨t + S, i, ua, un, uc⟩) = W4) := hW4
     simp only at y0 y1 y2
     rw [hW3]
     clear hx3 hx4 hx24 hl3 hW3 hW4
     go_wp2_with (at_builtin; rw [HW4.out]; refine wpList_append_rows rfl (.tmp 39) (.tmp 41) rfl w.heap.size _ (Rw.rs R i).1 rfl HO4.out (some ⟨W3.heap.size, 0, none⟩) 1 1 [⟨t + S, i, ua, un, uc⟩] [⟨(Rw.rs R i).2 + Rw.stp r, i, (Rw.tame r i).c⟩] rfl rfl HR4.out HE4.out HAW.out (by have := HLE.out; simp; omega) HS4.out ?_; intro v' w5 hO5 hg5 _)
     have HO5 : Hid (OwnL w5 w.heap.size v' (Rw.rs R (i + 1)).1) := (by rw [HNX.out]; exact hO5 : OwnL _ _ _ _)
     have HX5 : Hid (Ex w w5) := (by obtain ⟨vs, g1, _, _⟩ := HO4.out; exact step_belowW HX4.out HS4.out g1 hg5 : Ex w w5)
     have HT5 : Hid (t + S = (Rw.rs R (i + 1)).2) := (by rw [HNX.out, HT.out, HS5.out] : t + (S : Int) = (Rw.rs R (i + 1)).2)
     clear hO5 hg5
     go_wp2_with fail
     go_roundw
     case rel => exact ⟨i + 1, t + S, by omega, by omega, by go_num, by go_num, HT5, HO5, HX5⟩
     case measure => simp [intOf]; omega
    ·have hm : T.tmod 4 = (S : Int) := by rw [Int.tmod_eq_emod_of_nonneg (by omega)]; omega
     clear hSt hT
     go_upto_region 12 with fail
     obtain ⟨W3, hW3⟩ : ∃ W3, w2.alloc (rb ⟨t + S, i, ua, un, uc⟩) = W3 := ⟨_, rfl⟩
     obtain ⟨W4, hW4⟩ : ∃ W4, W3.alloc (rb ⟨t + S, i, ua, un, uc⟩) = W4 := ⟨_, rfl⟩
     have hx3 : Ex w2 W3 := by rw [← hW3]; exact (Below.refl _ _).alloc (Nat.le_refl _) _
     have hx4 : Ex W3 W4 := by rw [← hW4]; exact (Below.refl _ _).alloc (Nat.le_refl _) _
     have hx24 : Ex w2 W4 := hx3.trans hx4
     have HX4 : Hid (Ex w W4) := (HX2.out.trans hx24 : Ex w W4)
     have HO4 : Hid (OwnL W4 w.heap.size u5 (Rw.rs R i).1) := (HO2.out.later hx24 : OwnL _ _ _ _)
     have hl3 : LAt W3 w2.heap.size ⟨t + S, i, ua, un, uc⟩ := by rw [← hW3]; exact LAt.new w2 _
     obtain ⟨y0, y1, y2⟩ := hl3.all
     have HR4 : Hid (RdW 3 rc W4 (some ⟨W3.heap.size, 0, none⟩) 1 [⟨t + S, i, ua, un, uc⟩]) := (by rw [← hW4]; exact RdW.laid (t := 61) rc_len W3 [⟨t + S, i, ua, un, uc⟩] (by simp) : RdW _ _ _ _ _ _)
     have HE4 : Hid (EachR W4 [⟨t + S, i, ua, un, uc⟩] [⟨(Rw.rs R i).2 + Rw.stp r, i, (Rw.tame r i).c⟩]) := (by
      refine ⟨rfl, fun j v y hv hy => ?_⟩
      cases j with
      | zero =>
       simp only [List.getElem?_cons_zero, Option.some.injEq] at hv hy
       subst hv; subst hy
       exact ⟨by rw [HT.out, ← HS5.out], rfl, HUN.out, HUC.out.below hx24⟩
      | succ j => simp at hv : EachR _ _ _)
     have HS4 : Hid (w.heap.size ≤ W4.heap.size) := (HX4.out.size : w.heap.size ≤ W4.heap.size)
     have HW4 : Hid (W3.alloc (rb ⟨t + S, i, ua, un, uc⟩) = W4) := hW4
     simp only at y0 y1 y2
     rw [hW3]
     clear hx3 hx4 hx24 hl3 hW3 hW4
     go_wp2_with (at_builtin; rw [HW4.out]; refine wpList_append_rows rfl (.tmp 39) (.tmp 41) rfl w.heap.size _ (Rw.rs R i).1 rfl HO4.out (some ⟨W3.heap.size, 0, none⟩) 1 1 [⟨t + S, i, ua, un, uc⟩] [⟨(Rw.rs R i).2 + Rw.stp r, i, (Rw.tame r i).c⟩] rfl rfl HR4.out HE4.out HAW.out (by have := HLE.out; simp; omega) HS4.out ?_; intro v' w5 hO5 hg5 _)
     have HO5 : Hid (OwnL w5 w.heap.size v' (Rw.rs R (i + 1)).1) := (by rw [HNX.out]; exact hO5 : OwnL _ _ _ _)
     have HX5 : Hid (Ex w w5) := (by obtain ⟨vs, g1, _, _⟩ := HO4.out; exact step_belowW HX4.out HS4.out g1 hg5 : Ex w w5)
     have HT5 : Hid (t + S = (Rw.rs R (i + 1)).2) := (by rw [HNX.out, HT.out, HS5.out] : t + (S : Int) = (Rw.rs R (i + 1)).2)
     clear hO5 hg5
     go_wp2_with fail
     go_roundw
     case rel => exact ⟨i + 1, t + S, by omega, by omega, by go_num, by go_num, HT5, HO5, HX5⟩
     case measure => simp [intOf]; omega
   ·have htm : ¬ (i : Int) < (m : Int) := by omega
    have HE : Hid (min m R.length = i) := (by omega : min m R.length = i)
    go_wp2_with fail
    go_ret
    exact ⟨_, rfl, by rw [HE.out]; exact HO.out, HX.out⟩
  ·have hti : ¬ (i : Int) < (R.length : Int) := by omega
   have HE : Hid (min m R.length = i) := (by omega : min m R.length = i)
   go_wp2_with fail
   go_ret
   exact ⟨_, rfl, by rw [HE.out]; exact HO.out, HX.out⟩
end Go.Proofs.Ytibnhjfeepdddaa
namespace Go.Proofs.Ytibnhjfeepdddaa
set_option linter.unusedVariables false
set_option linter.unusedSimpArgs false
namespace Rw
theorem rise_nil' : T.Rise ([] : List (List UInt8)) := T.Rise.nil
/-- The columns of tame rows. -/
def tcs : List Co := [⟨[97], 1⟩, ⟨[98], 1⟩, ⟨[115], 2⟩, ⟨[116], 2⟩]
theorem tm_cases (i : Nat) (x : Option Ce) : (match x with | some x => tm i x | none => []) = [] ∨ (i < 2 ∧ ∃ n : Int, -10 < n ∧ n < 10 ∧ (match x with | some x => tm i x | none => []) = [⟨tnm.getD i [], 1, n, []⟩]) ∨ (¬ i < 2 ∧ ∃ s : List UInt8, s.length ≤ 3 ∧ (match x with | some x => tm i x | none => []) = [⟨tnm.getD i [], 2, 0, s⟩]) := by
 cases x with
 | none => exact .inl rfl
 | some x =>
  simp only [tm]
  by_cases h0 : x.k = 0
  ·rw [if_pos h0]; exact .inl rfl
  ·rw [if_neg h0]
   by_cases h2 : i < 2
   ·rw [if_pos h2]; have h := tmod_lt (a := x.n) (b := 10) (by decide); exact .inr (.inl ⟨h2, _, h.1, h.2, rfl⟩)
   ·rw [if_neg h2]; exact .inr (.inr ⟨h2, _, by simp; omega, rfl⟩)
theorem tms_four (c : List Ce) : ∃ a b s t : List Ce, tms c 4 = a ++ b ++ s ++ t ∧ (a = [] ∨ ∃ n : Int, -10 < n ∧ n < 10 ∧ a = [⟨[97], 1, n, []⟩]) ∧ (b = [] ∨ ∃ n : Int, -10 < n ∧ n < 10 ∧ b = [⟨[98], 1, n, []⟩]) ∧ (s = [] ∨ ∃ x : List UInt8, x.length ≤ 3 ∧ s = [⟨[115], 2, 0, x⟩]) ∧ (t = [] ∨ ∃ x : List UInt8, x.length ≤ 3 ∧ t = [⟨[116], 2, 0, x⟩]) := by
 have e : tms c 4 = (match c[0]? with | some x => tm 0 x | none => []) ++ (match c[1]? with | some x => tm 1 x | none => []) ++ (match c[2]? with | some x => tm 2 x | none => []) ++ (match c[3]? with | some x => tm 3 x | none => []) := by simp only [tms, List.nil_append]; rfl
 refine ⟨_, _, _, _, e, ?_, ?_, ?_, ?_⟩
 ·rcases tm_cases 0 c[0]? with h | ⟨_, n, h1, h2, h⟩ | ⟨h, _⟩
  ·exact .inl h
  ·exact .inr ⟨n, h1, h2, h⟩
  ·omega
 ·rcases tm_cases 1 c[1]? with h | ⟨_, n, h1, h2, h⟩ | ⟨h, _⟩
  ·exact .inl h
  ·exact .inr ⟨n, h1, h2, h⟩
  ·omega
 ·rcases tm_cases 2 c[2]? with h | ⟨h, _⟩ | ⟨_, n, h1, h⟩
  ·exact .inl h
  ·omega
  ·exact .inr ⟨n, h1, h⟩
 ·rcases tm_cases 3 c[3]? with h | ⟨h, _⟩ | ⟨_, n, h1, h⟩
  ·exact .inl h
  ·omega
  ·exact .inr ⟨n, h1, h⟩
theorem tame_right {t q : Int} (c : List Ce) (ht : -1099511627776 ≤ t ∧ t ≤ 1099511627776) (hq : 0 ≤ q ∧ q ≤ 1073741824) : right ⟨t, q, tms c 4⟩ = true ∧ (∀ x ∈ tms c 4, co x ∈ tcs) ∧ ∀ x ∈ tms c 4, x.s.length ≤ 3 ∧ x.col.length ≤ 1 ∧ In64 x.k ∧ In64 x.n := by
 obtain ⟨a, b, s, t', e, ha, hb, hs, ht'⟩ := tms_four c
 rw [e]
 have n1 : name [97] = true := by decide
 have n2 : name [98] = true := by decide
 have n3 : name [115] = true := by decide
 have n4 : name [116] = true := by decide
 have l1 : T.lt [97] [98] = true := by decide
 have l2 : T.lt [97] [115] = true := by decide
 have l3 : T.lt [97] [116] = true := by decide
 have l4 : T.lt [98] [115] = true := by decide
 have l5 : T.lt [98] [116] = true := by decide
 have l6 : T.lt [115] [116] = true := by decide
 have hsplit : ∀ L : List Ce, (∀ x ∈ L, celOk x = true ∧ co x ∈ tcs ∧ x.s.length ≤ 3 ∧ x.col.length ≤ 1 ∧ In64 x.k ∧ In64 x.n) → T.adj (L.map Ce.col) = true → L.length ≤ 8 → right ⟨t, q, L⟩ = true ∧ (∀ x ∈ L, co x ∈ tcs) ∧ ∀ x ∈ L, x.s.length ≤ 3 ∧ x.col.length ≤ 1 ∧ In64 x.k ∧ In64 x.n := by
  intro L h1 h2 h3
  refine ⟨?_, fun x hx => (h1 x hx).2.1, fun x hx => (h1 x hx).2.2⟩
  unfold right head
  simp only [Bool.and_eq_true, decide_eq_true_eq, List.all_eq_true]
  exact ⟨⟨⟨⟨⟨⟨ht.1, ht.2⟩, hq.1⟩, hq.2⟩, h3⟩, fun x hx => (h1 x hx).1⟩, h2⟩
 have ci : ∀ (nm : List UInt8) (n : Int), name nm = true → (⟨nm, 1⟩ : Co) ∈ tcs → nm.length ≤ 1 → -10 < n → n < 10 → celOk ⟨nm, 1, n, []⟩ = true ∧ co ⟨nm, 1, n, []⟩ ∈ tcs ∧ ([] : List UInt8).length ≤ 3 ∧ nm.length ≤ 1 ∧ In64 1 ∧ In64 n := by
  intro nm n h1 h2 h3 h4 h5
  refine ⟨by simp [celOk, form, h1], h2, by simp, h3, ⟨by decide, by decide⟩, ⟨by omega, by omega⟩⟩
 have ct : ∀ (nm x : List UInt8), name nm = true → (⟨nm, 2⟩ : Co) ∈ tcs → nm.length ≤ 1 → x.length ≤ 3 → celOk ⟨nm, 2, 0, x⟩ = true ∧ co ⟨nm, 2, 0, x⟩ ∈ tcs ∧ x.length ≤ 3 ∧ nm.length ≤ 1 ∧ In64 2 ∧ In64 0 := by
  intro nm x h1 h2 h3 h4
  refine ⟨by simp [celOk, form, h1]; omega, h2, h4, h3, ⟨by decide, by decide⟩, ⟨by decide, by decide⟩⟩
 apply hsplit
 ·intro x hx
  simp only [List.mem_append] at hx
  rcases hx with ((hx | hx) | hx) | hx
  ·rcases ha with rfl | ⟨n, h1, h2, rfl⟩
   ·simp at hx
   ·simp at hx; subst hx; exact ci _ n n1 (by simp [tcs]) (by simp) h1 h2
  ·rcases hb with rfl | ⟨n, h1, h2, rfl⟩
   ·simp at hx
   ·simp at hx; subst hx; exact ci _ n n2 (by simp [tcs]) (by simp) h1 h2
  ·rcases hs with rfl | ⟨n, h1, rfl⟩
   ·simp at hx
   ·simp at hx; subst hx; exact ct _ n n3 (by simp [tcs]) (by simp) h1
  ·rcases ht' with rfl | ⟨n, h1, rfl⟩
   ·simp at hx
   ·simp at hx; subst hx; exact ct _ n n4 (by simp [tcs]) (by simp) h1
 ·rw [T.adj_iff]
  rcases ha with rfl | ⟨n, h1, h2, rfl⟩ <;> rcases hb with rfl | ⟨n', h1', h2', rfl⟩ <;> rcases hs with rfl | ⟨x, h3, rfl⟩ <;> rcases ht' with rfl | ⟨x', h3', rfl⟩ <;> simp [T.rise_cons, rise_nil', l1, l2, l3, l4, l5, l6]
 ·rcases ha with rfl | ⟨n, h1, h2, rfl⟩ <;> rcases hb with rfl | ⟨n', h1', h2', rfl⟩ <;> rcases hs with rfl | ⟨x, h3, rfl⟩ <;> rcases ht' with rfl | ⟨x', h3', rfl⟩ <;> simp
def tpos (c : Co) : Nat := if c.nm = [97] then 0 else if c.nm = [98] then 1 else if c.nm = [115] then 2 else 3
theorem tpos_lt {x y : Co} (hx : x ∈ tcs) (hy : y ∈ tcs) (h : T.lt x.nm y.nm = true) : tpos x < tpos y := by
 simp only [tcs, List.mem_cons, List.not_mem_nil, or_false] at hx hy
 rcases hx with rfl | rfl | rfl | rfl <;> rcases hy with rfl | rfl | rfl | rfl <;> revert h <;> decide
theorem tpos_le {x : Co} (hx : x ∈ tcs) : tpos x ≤ 3 := by
 simp only [tcs, List.mem_cons, List.not_mem_nil, or_false] at hx
 rcases hx with rfl | rfl | rfl | rfl <;> decide
theorem tcs_len : ∀ (l : List Co) (k : Nat), k ≤ 4 → RiseN l → (∀ y ∈ l, y ∈ tcs ∧ k ≤ tpos y) → l.length + k ≤ 4
 | [], k, hk, _, _ => by simp; omega
 | x :: l, k, hk, hR, h => by
  rw [riseN_cons] at hR
  have hx := h x (by simp)
  have := tcs_len l (tpos x + 1) (by have := tpos_le hx.1; omega) hR.2 (fun y hy => ⟨(h y (by simp [hy])).1, tpos_lt hx.1 (h y (by simp [hy])).1 (hR.1 y hy)⟩)
  simp
  omega
theorem addC_takes {c : Co} : ∀ (o : List Co), (∀ y ∈ o, y.nm = c.nm → y.k = c.k) → ∃ n, addC c o = some n
 | [], _ => ⟨[c], rfl⟩
 | y :: r, h => by
  unfold addC
  by_cases h1 : T.lt y.nm c.nm = true
  ·rw [if_pos h1]
   obtain ⟨n, hn⟩ := addC_takes r fun z hz => h z (by simp [hz])
   exact ⟨y :: n, by rw [hn]; rfl⟩
  ·rw [if_neg h1]
   by_cases h2 : y.nm = c.nm
   ·rw [if_pos h2, if_pos (h y (by simp) h2)]; exact ⟨_, rfl⟩
   ·rw [if_neg h2]; exact ⟨_, rfl⟩
theorem tcs_kind {x y : Co} (hx : x ∈ tcs) (hy : y ∈ tcs) (h : x.nm = y.nm) : x.k = y.k := by
 simp only [tcs, List.mem_cons, List.not_mem_nil, or_false] at hx hy
 rcases hx with rfl | rfl | rfl | rfl <;> rcases hy with rfl | rfl | rfl | rfl <;> revert h <;> decide
theorem addR_takes : ∀ (l : List Ce) (o : List Co), RiseN o → (∀ y ∈ o, y ∈ tcs) → (∀ x ∈ l, co x ∈ tcs) → ∃ n, addR o l = some n ∧ RiseN n ∧ ∀ y ∈ n, y ∈ tcs
 | [], o, hR, ho, _ => ⟨o, rfl, hR, ho⟩
 | c :: l, o, hR, ho, h => by
  obtain ⟨m, hm⟩ := addC_takes (c := co c) o fun y hy e => tcs_kind (ho y hy) (h c (by simp)) e
  obtain ⟨n, hn, h1, h2⟩ := addR_takes l m (addC_rise hR hm) (fun y hy => by
   rcases (addC_mem hm y).1 hy with h3 | rfl
   ·exact ho y h3
   ·exact h c (by simp)) (fun x hx => h x (by simp [hx]))
  exact ⟨n, by unfold addR; rw [hm]; exact hn, h1, h2⟩
theorem growF_takes : ∀ (l : List Rw) (i : Nat) (o : List Co), RiseN o → (∀ y ∈ o, y ∈ tcs) → (∀ r ∈ l, right r = true ∧ ∀ x ∈ r.c, co x ∈ tcs) → ∃ c, growF i o l = (c, 0, 0) ∧ c.length ≤ 4
 | [], i, o, hR, ho, _ => ⟨o, rfl, by have := tcs_len o 0 (by omega) hR (fun y hy => ⟨ho y hy, Nat.zero_le _⟩); omega⟩
 | r :: l, i, o, hR, ho, h => by
  obtain ⟨n, hn, h1, h2⟩ := addR_takes r.c o hR ho (h r (by simp)).2
  have hl := tcs_len n 0 (by omega) h1 (fun y hy => ⟨h2 y hy, Nat.zero_le _⟩)
  obtain ⟨c, hc, hc4⟩ := growF_takes l (i + 1) n h1 h2 (fun q hq => h q (by simp [hq]))
  refine ⟨c, ?_, hc4⟩
  unfold growF
  rw [if_pos (h r (by simp)).1, hn]
  simp only
  rw [if_pos (by omega)]
  exact hc
theorem grow_takes {l : List Rw} (h : ∀ r ∈ l, right r = true ∧ ∀ x ∈ r.c, co x ∈ tcs) : ∃ c, grow [] l = (c, 0, 0) ∧ c.length ≤ 4 := by
 obtain ⟨c, hc, h4⟩ := growF_takes l 0 [] (rise_nil') (by simp) h
 exact ⟨c, by unfold grow; rw [if_pos (by decide)]; exact hc, h4⟩
/-- A rising row is a tame one at a time of its own. -/
theorem rs_rows (R : List Rw) : ∀ i, (∀ r ∈ (rs R i).1, (0 ≤ r.t ∧ r.t ≤ (rs R i).2) ∧ (0 ≤ r.q ∧ r.q < i) ∧ ∃ c, r.c = tms c 4) ∧ (∀ r ∈ (rs R i).1, ((rs R i).1.headD ⟨0, 0, []⟩).t ≤ r.t ∧ r.t ≤ ((rs R i).1.getLastD ⟨0, 0, []⟩).t) ∧ ((rs R i).1 ≠ [] → ((rs R i).1.getLastD ⟨0, 0, []⟩).t = (rs R i).2)
 | 0 => by simp [rs]
 | i + 1 => by
  obtain ⟨h1, h2, h3⟩ := rs_rows R i
  cases hr : R[i]? with
  | none =>
   have e : rs R (i + 1) = rs R i := by rw [rs, hr]
   rw [e]
   exact ⟨fun r h => ⟨(h1 r h).1, ⟨(h1 r h).2.1.1, by have := (h1 r h).2.1.2; omega⟩, (h1 r h).2.2⟩, h2, h3⟩
  | some r0 =>
   rw [rs_some hr]
   have hle := rs_le R i
   obtain ⟨L, hL⟩ : ∃ L, (rs R i).1 = L := ⟨_, rfl⟩
   obtain ⟨t, ht⟩ : ∃ t, (rs R i).2 = t := ⟨_, rfl⟩
   rw [hL] at h1 h2 h3 hle
   rw [ht] at h1 h3 hle
   rw [hL, ht]
   simp only
   refine ⟨?_, ?_, ?_⟩
   ·intro r h
    rcases List.mem_append.1 h with h | h
    ·have := h1 r h; exact ⟨⟨this.1.1, by omega⟩, ⟨this.2.1.1, by omega⟩, this.2.2⟩
    ·simp at h; subst h; exact ⟨⟨by simp only; omega, by simp only; omega⟩, ⟨by simp only; omega, by simp only; omega⟩, r0.c, rfl⟩
   ·intro r h
    have hlast : (L ++ [(⟨t + (stp r0 : Int), (i : Int), (tame r0 i).c⟩ : Rw)]).getLastD ⟨0, 0, []⟩ = ⟨t + stp r0, i, (tame r0 i).c⟩ := by simp
    rw [hlast]
    simp only
    cases L with
    | nil => simp at h; subst h; simp
    | cons x L =>
     simp only [List.cons_append, List.headD_cons]
     have hx := h2 x (by simp)
     simp only [List.headD_cons] at hx h2 h3
     have h30 := h3 (by simp)
     rw [List.cons_append] at h
     rcases List.mem_cons.1 h with rfl | h
     ·exact ⟨Int.le_refl _, by omega⟩
     ·rcases List.mem_append.1 h with h | h
      ·have := h2 r (by simp [h]); exact ⟨this.1, by omega⟩
      ·simp at h; subst h; simp only; omega
   ·intro _; simp
end Rw
end Go.Proofs.Ytibnhjfeepdddaa
namespace Go.Proofs.Ytibnhjfeepdddaa
open Go.RowKit
set_option linter.unusedVariables false
set_option linter.unusedSimpArgs false
set_option maxHeartbeats 4000000 in
set_option maxRecDepth 100000 in
theorem prefixed_is : ∀ (p : Pr) (v : PV) (w : World), Pd.Lay (fun _ => True) p w v → Calls Try.prog 23 #[pvv v] w fun e w' => e = .returned (.bool (Pu.pre p)) ∧ Ex w w' := by
 refine Pd.tree ?_
 intro h l ih v w hL
 obtain ⟨hHd, hkn, hkB, hkc, hkm, hk0⟩ := hL.head
 obtain ⟨vk, vcol, vn, vm, vs, vset, ⟨p, n, cap⟩⟩ := v
 simp only at hkn hkB hkc hkm hk0
 subst hkn
 unfold maxLen at hkm
 have hvk : vk = h.k := hHd.1.1
 obtain ⟨Z, hZ⟩ : ∃ Z, Pu.pre (Pr.mk' h l) = Z := ⟨_, rfl⟩
 have HZ : Hid ((decide (vk = 8) || decide (vk = 7) || l.any Pu.pre) = Z) := (by rw [← hZ, Pu.pre_mk, hvk] : (decide (vk = 8) || decide (vk = 7) || l.any Pu.pre) = Z)
 rw [hZ]
 have HIH : Hid (∀ k ∈ l, ∀ (v : PV) (w : World), Pd.Lay (fun _ => True) k w v → Calls Try.prog 23 #[pvv v] w fun e w' => e = .returned (.bool (Pu.pre k)) ∧ Ex w w') := ih
 have HLw : Hid (Pd.Lay (fun _ => True) (Pr.mk' h l) w ⟨vk, vcol, vn, vm, vs, vset, p, l.length, cap⟩) := hL
 obtain ⟨W, hW⟩ : ∃ W, w.alloc (pb ⟨vk, vcol, vn, vm, vs, vset, p, l.length, cap⟩) = W := ⟨_, rfl⟩
 have hXW : Ex w W := by rw [← hW]; exact (Below.refl _ _).alloc (Nat.le_refl _) _
 have HXW : Hid (Ex w W) := hXW
 have HP : Hid (PAt W w.heap.size ⟨vk, vcol, vn, vm, vs, vset, p, l.length, cap⟩) := (by rw [← hW]; exact PAt.new w _ : PAt W w.heap.size _)
 obtain ⟨a0, a1, a2, a3, a4, a5, a6⟩ := HP.out.all
 simp only at a0 a1 a2 a3 a4 a5 a6
 clear hL hHd hkB ih hXW hZ hvk
 unfold pvv
 simp only [sv]
 go_enter Try.func23, Try.ntmps23
 by_cases k8 : vk = 8
 ·subst k8
  go_wp2_with fail
  go_ret
  exact ⟨by rw [← HZ.out]; rfl, HXW.out⟩
 have t8 : (vk == 8) = false := beq_eq_false_iff_ne.2 k8
 by_cases k7 : vk = 7
 ·subst k7
  go_wp2_with fail
  go_ret
  exact ⟨by rw [← HZ.out]; rfl, HXW.out⟩
 have t7 : (vk == 7) = false := beq_eq_false_iff_ne.2 k7
 have HZ2 : Hid (l.any Pu.pre = Z) := (by rw [← HZ.out]; simp [k7, k8] : l.any Pu.pre = Z)
 clear k7 k8 HZ a1 a2 a3 a4 a5
 go_wp2_with fail
 clear a0 a6
 go_loopw [3] (fun iv wr => ∃ i : Nat, i ≤ l.length ∧ iv = .int .i64 i ∧ Hid ((l.take i).any Pu.pre = false) ∧ Hid (Ex W wr)) (fun iv wr => l.length - (intOf iv).toNat)
 case atStart => exact ⟨0, by omega, rfl, (by simp : (l.take 0).any Pu.pre = false), Ex.refl W⟩
 case round =>
  obtain ⟨i, hi, rfl, HS, HXr⟩ := hrel
  obtain ⟨c0, c1, c2, c3, c4, c5, c6⟩ := (HP.out.below HXr.out).all
  simp only at c0 c1 c2 c3 c4 c5 c6
  by_cases hlt : i < l.length
  ·have hti : (i : Int) < (l.length : Int) := by omega
   have hLr := Pd.Lay.below _ HLw.out (HXW.out.trans HXr.out)
   obtain ⟨b, off, x, hpp, hbg, hLk, e0, e1, e2, e3, e4, e5, e6⟩ := hLr.kid hlt
   simp only at hpp
   obtain ⟨k, hk⟩ : ∃ k, l[i] = k := ⟨_, rfl⟩
   rw [hk] at hLk
   obtain ⟨Q, hQ⟩ : ∃ Q, Pu.pre k = Q := ⟨_, rfl⟩
   have HNX : Hid ((l.take (i + 1)).any Pu.pre = Q) := (by rw [List.take_add_one, List.getElem?_eq_getElem hlt, hk, List.any_append, HS.out]; simp [hQ] : (l.take (i + 1)).any Pu.pre = Q)
   have HC : Hid (Calls Try.prog 23 #[pvv x] wr fun e w' => e = .returned (.bool Q) ∧ Ex wr w') := (by
    have h := HIH.out k (by rw [← hk]; exact List.getElem_mem hlt) x wr hLk
    rw [hQ] at h
    exact h : Calls _ _ _ _ _)
   have HQT : Hid (Q = true → Z = true) := (by
    intro hq
    rw [← HZ2.out]
    exact List.any_eq_true.2 ⟨k, by rw [← hk]; exact List.getElem_mem hlt, by rw [hQ]; exact hq⟩ : Q = true → Z = true)
   subst hpp
   clear hLr hLk hk hbg hQ
   go_wp2_with fail
   go_at_call 23
   refine Calls.mono HC.out ?_
   rintro e w2 ⟨rfl, hx2⟩
   have HX2 : Hid (Ex W w2) := (HXr.out.trans hx2 : Ex W w2)
   clear hx2 HC
   cases Q with
   | true =>
    have HZT : Hid (Z = true) := (HQT.out rfl : Z = true)
    go_wp2_with fail
    go_ret
    exact ⟨by rw [HZT.out]; rfl, HXW.out.trans HX2.out⟩
   | false =>
    go_wp2_with fail
    go_roundw
    case rel => exact ⟨i + 1, by omega, by go_num, HNX, HX2⟩
    case measure => simp [intOf]; omega
  ·have hti : ¬ (i : Int) < (l.length : Int) := by omega
   have HE : Hid (Z = false) := (by
    have h := HS.out
    rw [List.take_of_length_le (by omega), HZ2.out] at h
    exact h : Z = false)
   go_wp2_with fail
   go_ret
   exact ⟨by rw [HE.out]; rfl, HXW.out.trans HXr.out⟩
end Go.Proofs.Ytibnhjfeepdddaa
