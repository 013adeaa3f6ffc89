/-
  'append(out, b...)' of bytes, up to three quarters of what any memory bears: out has grown by a quarter at most. What both answer of one predicate, as rows of a region.
-/
import Derived.Test.YtbdjccmlgdfapaaGreatKinds
import Derived.Laws.OwnMore
import Derived.Test.YtbdjccmlgdfapaaGreatGdec
import Derived.Test.YtbdjccmlgdfapaaGreatGencd
import Derived.Test.YtbdjccmlgdfapaaGreatGeval
import Derived.Test.YtbdjccmlgdfapaaGreatGnorm
import Derived.Test.YtbdjccmlgdfapaaGreatRtexts
import Derived.Test.YtbdjccmlgdfapaaGreatGrt
import Derived.Test.YtbdjccmlgdfapaaGreatRput
import Derived.Test.YtbdjccmlgdfapaaGreatLput
import Derived.Test.YtbdjccmlgdfapaaGreatLcols
import Derived.Test.YtbdjccmlgdfapaaGreatKtame
import Derived.Test.YtbdjccmlgdfapaaGreatKshort
import Derived.Test.YtbdjccmlgdfapaaGreatPsame
import Derived.Test.YtbdjccmlgdfapaaGreatLeval
import Derived.Test.YtbdjccmlgdfapaaGreatLkn2
import Derived.Test.YtbdjccmlgdfapaaGreatPask
import Derived.Test.YtbdjccmlgdfapaaGreatLnrm2
namespace Go.Proofs.YtbdjccmlgdfapaaGreat
open Go.RowKit
set_option linter.unusedVariables false
theorem grow_by (N : Nat) : ∀ r c, c ≤ N + (N + 768) / 4 → Builtin.growBy N r c ≤ N + (N + 768) / 4
 | 0, c, h => by rw [Builtin.growBy]; exact h
 | r + 1, c, h => by
  rw [Builtin.growBy]
  split
  ·exact h
  ·exact grow_by N r _ (by omega)
theorem big_cap {need old : Nat} (h : old < need) (h2 : need ≤ 211106232532992) : Builtin.nextslicecap need old ≤ 281474976710656 := by
 unfold Builtin.nextslicecap
 split
 ·omega
 split
 ·omega
 ·have := grow_by need 4 old (by omega)
  omega
theorem run_append_big (w : World) (base : Nat) (ty : TypeId) (v : Value) (xs : List UInt8) (hown : Own w base v xs) (ad : Addr) (c : Nat) (l : List UInt8) (hB : Byt w (some ad) c l) (h2 : xs.length + l.length ≤ 211106232532992) (hbase : base ≤ w.heap.size) :
  ∃ v' w', (Builtin.append_ #[26, 26] ty #[v, .slice (some ad) l.length c]).run Tryz.prog w = .ok v' w' ∧ Own w' base v' (xs ++ l) ∧ w.grownBy w' v.ownBlock := by
 obtain ⟨i0, hi, hz0, hz1, hz2⟩ := info_parts Tryz.info5
 have hnews : ∀ j u, (cs l)[j]? = some u → w.cell? (ad.add j) = some u := by
  intro j u hu
  obtain ⟨hj, rfl⟩ := cs_get hu
  obtain ⟨b, off, hbo, hc⟩ := hB.2.2.2 j hj
  simp at hbo
  subst hbo
  rw [add_none]
  exact hc
 have hlen : ∀ {w' : World} {v' : Value}, w'.ownsRow base 5 1 v' (xs.length + l.length) (cs xs ++ cs l) → Own w' base v' (xs ++ l) := by
  intro w' v' h
  show w'.ownsRow base 5 1 v' (xs ++ l).length (cs (xs ++ l))
  rw [cs_append, List.length_append]
  exact h
 by_cases hs : xs.length + l.length ≤ 140737488355328
 ·obtain ⟨v', w', hr, ho, hg, _⟩ := run_append_own (P := Tryz.prog) w base 26 ty 5 i0 (.int .u8 0) 1 1 Tryz.underlying26 hi hz0 hz1 hz2 rfl (by decide) v xs.length (cs xs) hown ad l.length c (cs l) (by simp [cs]) hnews (cs_one l) (by unfold maxLen; omega) (by omega) hbase
  exact ⟨v', w', hr, hlen ho, hg⟩
 rcases hown.2 with ⟨rfl, h0⟩ | ⟨g, cap, cur, rfl, hbg, hg, hnc, hcm, hcs, htake⟩
 ·have hx : xs = [] := List.eq_nil_of_length_eq_zero h0
  subst hx
  have hpos : 0 < l.length := by simp at hs; omega
  have hr := run_append_nil (P := Tryz.prog) w 26 ty 5 i0 (.int .u8 0) Tryz.underlying26 hi hz0 ad l.length c (cs l) (by rw [hz1]; simp [cs]) hnews hpos (by simp at h2; omega) (by rw [hz2]; simp at h2; omega)
  refine ⟨_, _, hr, ?_, ⟨rfl, rfl, rfl, by simp, fun k hk _ => Below.heap_alloc w.drew _ k hk⟩⟩
  have hge := grownCap_ge w l.length 0 5
  have hcm : grownCap w l.length 0 5 ≤ maxLen := grownCap_le_maxLen w l.length 0 5 (by unfold maxLen; simp at h2; omega)
  refine ⟨by simp [cs], .inr ⟨w.heap.size, _, _, by simp, hbase, heap_alloc_new w.drew _, by simpa using hge, hcm, ?_, ?_⟩⟩
  ·simp [size_zeroCells, cs, Value.cells]
   omega
  ·simp [cs]
 ·by_cases hroom : xs.length + l.length ≤ cap
  ·obtain ⟨w', hr, ho, hgr⟩ := run_append_fits (P := Tryz.prog) w base 26 ty 5 i0 1 Tryz.underlying26 hi hz1 g xs.length cap (cs xs) hown ad l.length c (cs l) (by simp [cs]) hnews (cs_one l) hroom
   exact ⟨_, w', hr, hlen ho, hgr⟩
  ·have holds : ∀ j u, (cs xs)[j]? = some u → w.cell? ((⟨g, 0, none⟩ : Addr).add j) = some u := World.ownsRow.cells hown (g := g) rfl
   have hr := run_append_grow (P := Tryz.prog) w 26 ty 5 i0 (.int .u8 0) Tryz.underlying26 hi hz0 ⟨g, 0, none⟩ xs.length cap (cs xs) (by rw [hz1]; simp [cs]) holds ad l.length c (cs l) (by rw [hz1]; simp [cs]) hnews (by omega) (by omega) (by rw [hz2, Nat.mul_one]; exact big_cap (by omega) h2)
   have hge := grownCap_ge w (xs.length + l.length) cap 5
   have hcm2 : grownCap w (xs.length + l.length) cap 5 ≤ maxLen := grownCap_le_maxLen w (xs.length + l.length) cap 5 (by unfold maxLen; omega)
   refine ⟨_, _, hr, hlen ⟨by simp [cs], .inr ⟨w.heap.size, _, _, rfl, hbase, heap_alloc_new w.drew _, hge, hcm2, ?_, ?_⟩⟩, ⟨rfl, rfl, rfl, by simp, fun k hk _ => Below.heap_alloc w.drew _ k hk⟩⟩
   ·simp [size_zeroCells, cs, Value.cells]
    omega
   ·have e : (cs xs ++ cs l).length = (xs.length + l.length) * 1 := by simp [cs]
    simp only [Array.toList_append, List.append_assoc]
    rw [← List.append_assoc, ← e]
    exact List.take_left
theorem wpList_append_big {w : World} {ops : Array Oper} {rest : List Oper} {o : Oper} {a : Act} {Q : Exit → Act → World → Prop} (hgd : o.guard = none) (s x : Operand)
  (ho : o.op = .call { callee := .builtin .append, args := #[s, x], argTypes := #[26, 26] }) (base : Nat)
  (v : Value) (xs : List UInt8) (hs : a.eval s = v) (hown : Own w base v xs) (p : Option Addr) (n c : Nat) (l : List UInt8) (hx : a.eval x = .slice p n c) (hn : n = l.length) (hB : Byt w p c l)
  (h63 : xs.length + l.length ≤ 211106232532992) (hbase : base ≤ w.heap.size)
  (h : ∀ v' w', Own w' base v' (xs ++ l) → w.grownBy w' v.ownBlock → wpList Tryz.prog ops Q rest (a.put o.dst v') w') : wpList Tryz.prog ops Q (o :: rest) a w := by
 subst hn
 cases p with
 | none =>
  have hc := hB.2.2.1 rfl
  have hl : l = [] := List.eq_nil_of_length_eq_zero (by have := hB.1; omega)
  subst hl
  subst hc
  obtain ⟨i0, hi, hz0, hz1, hz2⟩ := info_parts Tryz.info5
  refine wpList_append_own_none hgd s x 26 ho base 5 i0 1 Tryz.underlying26 hi v xs.length (cs xs) hs hown hx ?_
  exact h v w (by simpa using hown) (World.grownBy.refl w _)
 | some ad =>
  obtain ⟨v', w', hr, ho', hg'⟩ := run_append_big w base o.type v xs hown ad c l hB h63 hbase
  refine wpList_plain hgd fun _ hK => ?_
  unfold Oper.wp execOp
  simp only [ho, resolve, invoke, builtin, Sem.run_bind, Sem.run_pure, Result.andThen_ok, List.map_toArray, List.map_cons, List.map_nil, hs, hx, hr]
  exact hK _ _ (h v' w' ho' hg')
end Go.Proofs.YtbdjccmlgdfapaaGreat
namespace Go.Proofs.YtbdjccmlgdfapaaGreat
open Go.RowKit
set_option linter.unusedVariables false
set_option linter.unusedSimpArgs false
theorem norm_row (P NP : Pr) (xP : PV) (wx : World) {w1 : World} (hL : Pd.Lay (fun _ => True) P wx xP) (hF : Pd.Fine P) (hN : Pd.normalB P = NP) (hC : Ex w1 wx) : Calls Tryz.prog 12 #[pvv xP] wx (fun e w' => ∃ u, e = .returned u ∧ Rg.Spec.ok (.inr (Pd.IsP (fun _ => True) NP)) u w' ∧ Ex wx w' ∧ Ex w1 w') := by
 have h := normalN_is P xP wx hL hF
 rw [hN] at h
 exact pt_row h hC
theorem rnorm_row (P NP : Pr) (xP : PV) (wx : World) {w1 : World} (hL : Pd.Lay (fun _ => True) P wx xP) (hF : Pd.Fine P) (hs : Pd.size P ≤ 1000000000) (hN : Pd.normal P = NP) (hC : Ex w1 wx) : Calls Tryz.prog 13 #[pvv xP] wx (fun e w' => ∃ u, e = .returned u ∧ Rg.Spec.ok (.inr (Pd.IsP (fun _ => True) NP)) u w' ∧ Ex wx w' ∧ Ex w1 w') := by
 have h := rNormal_is P (fun b => b < wx.heap.size) xP wx (Pd.Lay.mono (fun b hb => hb.2) _ hL.lt) (fun x hx => hx) hF hs
 rw [hN] at h
 exact pt_row h hC
theorem size_row (P : Pr) (xP : PV) (wx : World) (n : Nat) (hL : Pd.Lay (fun _ => True) P wx xP) (hF : Pd.fit P 50 5000 = true) (hn : Pd.size P = n) : Calls Tryz.prog 14 #[pvv xP] wx fun e w' => e = .returned (.int .i64 (n : Int)) ∧ Ex wx w' := by
 have h := size_is P xP wx hL
 unfold Pd.sizeB at h
 rw [if_pos hF, hn] at h
 exact h
theorem rsize_row (P : Pr) (xP : PV) (wx : World) (n : Nat) (hL : Pd.Lay (fun _ => True) P wx xP) (hs : Pd.size P ≤ 1000000000) (hn : Pd.size P = n) : Calls Tryz.prog 15 #[pvv xP] wx fun e w' => e = .returned (.int .i64 (n : Int)) ∧ Ex wx w' := by
 have h := rsize_is P xP wx hL hs
 rw [hn] at h
 exact h
theorem cols_row (P : Pr) (CL : List (List UInt8)) (xP : PV) (wx : World) (hL : Pd.Lay (fun _ => True) P wx xP) (hF : Pd.fit P 50 5000 = true) (hc : Pd.cols P = CL) : Calls Tryz.prog 17 #[pvv xP] wx fun e w' => ∃ a cap, e = .returned (.slice a CL.length cap) ∧ Rd st w' a cap CL ∧ Ex wx w' := by
 rw [← hc]; exact cols_is P xP wx hL hF
theorem rcols_row (P : Pr) (CL : List (List UInt8)) (xP : PV) (wx : World) (hL : Pd.Lay (fun _ => True) P wx xP) (hs : Pd.size P ≤ 400) (hc : Pd.cols P = CL) : Calls Tryz.prog 18 #[pvv xP] wx fun e w' => ∃ a cap, e = .returned (.slice a CL.length cap) ∧ Rd st w' a cap CL ∧ Ex wx w' := by
 rw [← hc]; exact rcols_is P xP wx hL hs
theorem isrd_row {f : FuncId} {args : Array Value} {wx w1 : World} {l : List (List UInt8)} (h : Calls Tryz.prog f args wx fun e w' => ∃ a cap, e = .returned (.slice a l.length cap) ∧ Rd st w' a cap l ∧ Ex wx w') (hC : Ex w1 wx) : Calls Tryz.prog f args wx (fun e w' => ∃ u, e = .returned u ∧ Rg.Spec.ok (.inr (IsRd st l)) u w' ∧ Ex wx w' ∧ Ex w1 w') :=
 h.mono fun e w' ⟨a, cap, h1, h2, h3⟩ => ⟨_, h1, ⟨a, cap, rfl, h2⟩, h3, hC.trans h3⟩
theorem normB {P : Pr} (h : Pd.fit P 50 5000 = true) : Pd.normalB P = Pd.normal P := by
 unfold Pd.normalB Pd.normal
 rw [if_pos h]
theorem encE_len {P : Pr} {R : List UInt8} {e0 : Nat} (h : Pd.encE P = (R, e0)) : R.length ≤ 20000 := by
 unfold Pd.encE at h
 split at h
 ·rename_i hr
  unfold Pd.right at hr
  simp only [Bool.and_eq_true, decide_eq_true_eq] at hr
  have h1 := Pd.enc_len P hr.2
  cases h
  omega
 ·cases h; simp
end Go.Proofs.YtbdjccmlgdfapaaGreat
