/-
  What the statements ask of Eval: predicates that are cut, or laid out; a variable for a predicate in a region whose order is open. The law's own known.
-/
import Derived.Test.YtibnhjfeepdddaaM33
import Derived.Test.YtibnhjfeepdddaaM35
import Derived.Deep.Slices
import Derived.OpenShut
import Derived.Lib.SmallJoins
import Derived.WideShapes
import Derived.ChangeSlices
import Derived.Test.YtibnhjfeepdddaaM32
namespace Go.Proofs.Ytibnhjfeepdddaa
open Go.RowKit
set_option linter.unusedVariables false
set_option linter.unusedSimpArgs false
namespace Pd
theorem fine_bare {k : Int} {c : List UInt8} {n m : Int} {s : List UInt8} (h1 : In64 k) (h2 : In64 n) (h3 : In64 m) (h4 : c.length ≤ 1000) (h5 : s.length ≤ 1000) : Fine (Pr.mk' ⟨k, c, n, m, s, []⟩ []) := by
 rw [fine_mk]
 exact ⟨⟨h1, h2, h3, h4, h5, by simp, by simp⟩, by simp, by simp⟩
end Pd
/-- A new variable for a predicate. -/
def IsNew (base : Nat) (v : Value) (w : World) : Prop := ∃ g, v = .pointer (some ⟨g, 0, none⟩) ∧ base ≤ g ∧ PAt w g PV.zero
theorem IsNew.stands (base : Nat) : ∀ v w w', IsNew base v w → Ex w w' → IsNew base v w' := by
 rintro v w w' ⟨g, rfl, h0, h1⟩ hx
 exact ⟨g, rfl, h0, h1.below hx⟩
set_option maxHeartbeats 1000000 in
theorem run_alloc25 {o : Oper} (ρ : Operand → Value) (w : World) (ho : o.op = .alloc 40) : (execOp ρ o).run Try.prog w = .ok (.value (.pointer (some ⟨w.heap.size, 0, none⟩))) (w.alloc pb0) := by
 simp [execOp, ho, go_sem]
theorem Rg.good_alloc25 {ops : Array Oper} {specs : List Rg.Spec} {a0 : Act} {w1 : World} {o : Oper} (ho : o.op = .alloc 40) (hg : Rg.guardV ops specs a0 o = some true) : Rg.GoodOp Try.prog ops specs a0 (Ex w1) Ex o (.inr (IsNew w1.heap.size)) :=
 Rg.good_of hg fun Q a w hC hs => by
  have hX : Ex w (w.alloc pb0) := (Below.refl _ _).alloc (Nat.le_refl _) _
  exact Rg.Fr.wp_val (run_alloc25 _ w ho) ⟨_, rfl, ⟨w.heap.size, rfl, hC.size, PAt.new w PV.zero⟩, hX, hC.trans hX⟩
end Go.Proofs.Ytibnhjfeepdddaa
namespace Go.Proofs.Ytibnhjfeepdddaa
open Go.RowKit
set_option linter.unusedVariables false
set_option linter.unusedSimpArgs false
def kS : St := ⟨3, 0, 0, [([120], ⟨1, 3, 0, 5, 9, [], []⟩)], []⟩
abbrev kP : Pr := Pr.mk' ⟨4, [120], 5, 0, [], []⟩ []
abbrev kV : PV := ⟨4, [120], 5, 0, [], (none, 0, 0), none, 0, 0⟩
abbrev kT (w : World) : TV := ⟨3, 0, 0, (some ⟨w.heap.size, 0, none⟩, 1, 1), (none, 0, 0)⟩
theorem kP_right : Pd.right kP = true := by
 unfold Pd.right kP
 rw [Pd.deep_mk, Pd.size_mk, Pd.form_mk]
 decide
theorem kA_right : Pd.right (Pr.mk' (Pd.hk 1) []) = true := by
 unfold Pd.right
 rw [Pd.deep_mk, Pd.size_mk, Pd.form_mk]
 decide
theorem k_one : Pu.judge kS (Pu.fg 1) kP = 1 := by
 rw [Pu.judge_is (by decide) _ kP_right, Pu.jd_mk]
 decide +kernel
theorem k_two : Pu.judge kS (Pu.fg 0) kP = 2 := by
 rw [Pu.judge_is (by decide) _ kP_right, Pu.jd_mk]
 decide +kernel
theorem k_three : Pu.judge kS (Pu.fg 0) (Pr.mk' (Pd.hk 1) []) = 3 := by
 rw [Pu.judge_is (by decide) _ kA_right, Pu.jd_mk]
 rfl
theorem kfine : StFine kS := ⟨fun x hx => by simp [kS] at hx; subst hx; simp [maxLen], fun x hx => by simp [kS] at hx⟩
theorem kP_fine : Pd.Fine kP := Pd.fine_bare ⟨by decide, by decide⟩ ⟨by decide, by decide⟩ ⟨by decide, by decide⟩ (by decide) (by decide)
theorem kA_fine : Pd.Fine (Pr.mk' (Pd.hk 1) []) := Pd.fine_hk 1 ⟨by decide, by decide⟩ (by simp) (by simp)
theorem kP_lay (w : World) : Pd.Lay (fun _ => True) kP w kV := lay_bare _ _ _ _ _ _ _
set_option maxHeartbeats 4000000 in
set_option maxRecDepth 100000 in
theorem known_is (w : World) : Calls Try.prog 14 #[] w fun e w' => e = .returned (.bool true) ∧ Ex w w' := by
 obtain ⟨W, hW⟩ : ∃ W, ((w.alloc (.cells #[.string { data := #[120] }, .int .i64 1, .int .i64 3, .int .i64 0, .int .i64 5, .int .i64 9, .string { data := #[] }, .string { data := #[] }] 28)).alloc (.cells #[.int .i64 3, .int .i64 0, .int .i64 0, .slice (some ⟨w.heap.size, 0, none⟩) 1 1, .slice none 0 0] 38)).alloc (.cells #[.int .i64 4, .string { data := #[120] }, .int .i64 5, .int .i64 0, .string { data := #[] }, .slice none 0 0, .slice none 0 0] 40) = W := ⟨_, rfl⟩
 obtain ⟨w1, hw1⟩ : ∃ w1, w.alloc (.cells #[.string { data := #[120] }, .int .i64 1, .int .i64 3, .int .i64 0, .int .i64 5, .int .i64 9, .string { data := #[] }, .string { data := #[] }] 28) = w1 := ⟨_, rfl⟩
 obtain ⟨w2, hw2⟩ : ∃ w2, w1.alloc (.cells #[.int .i64 3, .int .i64 0, .int .i64 0, .slice (some ⟨w.heap.size, 0, none⟩) 1 1, .slice none 0 0] 38) = w2 := ⟨_, rfl⟩
 have hx1 : Ex w w1 := by rw [← hw1]; exact (Below.refl _ _).alloc (Nat.le_refl _) _
 have hx2 : Ex w1 w2 := by rw [← hw2]; exact (Below.refl _ _).alloc (Nat.le_refl _) _
 have hs1 : w1.heap.size = w.heap.size + 1 := by rw [← hw1]; simp
 have hs2 : w2.heap.size = w.heap.size + 1 + 1 := by rw [← hw2]; simp [hs1]
 have hW2 : w2.alloc (pb kV) = W := by rw [← hW, ← hw2, ← hw1]; rfl
 have hx3 : Ex w2 W := by rw [← hW2]; exact (Below.refl _ _).alloc (Nat.le_refl _) _
 have HXW : Hid (Ex w W) := (hx1.trans (hx2.trans hx3) : Ex w W)
 have HP : Hid (PAt W (w.heap.size + 1 + 1) kV) := (by rw [← hW2, ← hs2]; exact PAt.new w2 kV : PAt W (w.heap.size + 1 + 1) kV)
 have HT : Hid (TAt W (w.heap.size + 1) (kT w) 38) := (by
  refine TAt.below ?_ hx3
  rw [← hw2, ← hs1]
  exact TAt.new w1 (kT w) 38 : TAt W (w.heap.size + 1) (kT w) 38)
 have HS : Hid (StOk W (kT w) kS) := (by
  have h : RdZ w1 (some ⟨w.heap.size, 0, none⟩) 1 kS.zs := by
   rw [← hw1]; exact RdW.laid (t := 28) zcc_len w [([120], ⟨1, 3, 0, 5, 9, [], []⟩)] (by simp)
  exact ⟨⟨rfl, rfl, rfl⟩, ⟨rfl, h.below (hx2.trans hx3)⟩, rfl, RdF.nil _⟩ : StOk W (kT w) kS)
 have HW : Hid (((w.alloc (.cells #[.string { data := #[120] }, .int .i64 1, .int .i64 3, .int .i64 0, .int .i64 5, .int .i64 9, .string { data := #[] }, .string { data := #[] }] 28)).alloc (.cells #[.int .i64 3, .int .i64 0, .int .i64 0, .slice (some ⟨w.heap.size, 0, none⟩) 1 1, .slice none 0 0] 38)).alloc (.cells #[.int .i64 4, .string { data := #[120] }, .int .i64 5, .int .i64 0, .string { data := #[] }, .slice none 0 0, .slice none 0 0] 40) = W) := hW
 clear hx1 hx2 hx3 hs1 hs2 hW2 hw1 hw2 hW
 go_enter Try.func14, Try.ntmps14
 go_wp2_with fail
 rw [HW.out]
 have hre := Ex.refl
 refine Rg.wp_rows [.inl (pvv kV), .inl (tvv (kT w)), .inl (.int .i64 1), .inl (.bool true), .inl (.bool true), .inl (pvv kV), .inl (tvv (kT w)), .inl (.int .i64 2), .inl (.bool true), .inl (.bool true), .inl (.bool true), .inr (Pd.IsP (fun _ => True) (Pr.mk' (Pd.hk 1) [])), .inl (tvv (kT w)), .inl (.int .i64 3), .inl (.bool true), .inl (.bool true), .inl (.bool true)] (Ex W) Ex 24 (by kernel_rfl) rfl (by kernel_rfl) ?st hre (Ex.drew _) ?goods ?fin
 case st => exact ⟨Pd.IsP.stands _ _, trivial⟩
 case goods =>
  refine Rg.goods_cons (Rg.good_load hre rfl rfl rfl (fun wx hC => (HP.out.below hC).loadI)) ?_
  refine Rg.goods_cons (Rg.good_load hre rfl rfl rfl (fun wx hC => loadI_stats38 (HT.out.below hC))) ?_
  refine Rg.goods_cons (Rg.good_call3 Try.func10 (by kernel_rfl) rfl rfl rfl (by rintro v0 v1 v2 wx hC rfl rfl rfl; exact ex_rowP (pJudge_is kS kfine _ kP_fine _ _ _ wx (kP_lay wx) (HS.out.below hC) 1 k_one) hC)) ?_
  refine Rg.goods_cons (Rg.good_bin hre rfl rfl rfl rfl (fun _ => rfl) (fun w => by go_simp)) ?_
  refine Rg.goods_cons (Rg.good_move hre rfl rfl rfl) ?_
  refine Rg.goods_cons (Rg.good_load hre rfl rfl rfl (fun wx hC => (HP.out.below hC).loadI)) ?_
  refine Rg.goods_cons (Rg.good_load hre rfl rfl rfl (fun wx hC => loadI_stats38 (HT.out.below hC))) ?_
  refine Rg.goods_cons (Rg.good_call3 Try.func10 (by kernel_rfl) rfl rfl rfl (by rintro v0 v1 v2 wx hC rfl rfl rfl; exact ex_rowP (pJudge_is kS kfine _ kP_fine _ _ _ wx (kP_lay wx) (HS.out.below hC) 2 k_two) hC)) ?_
  refine Rg.goods_cons (Rg.good_bin hre rfl rfl rfl rfl (fun _ => rfl) (fun w => by go_simp)) ?_
  refine Rg.goods_cons (Rg.good_pick true hre rfl rfl rfl rfl) ?_
  refine Rg.goods_cons (Rg.good_move hre rfl rfl rfl) ?_
  refine Rg.goods_cons (Rg.good_call0 Try.func13 (by kernel_rfl) rfl rfl rfl (by intro wx hC; refine (every_is wx).mono ?_; rintro e w' ⟨u, rfl, hu, hx⟩; exact ⟨_, rfl, ⟨u, rfl, Pd.Lay.mono (fun _ _ => trivial) _ hu⟩, hx, hC.trans hx⟩)) ?_
  refine Rg.goods_cons (Rg.good_load hre rfl rfl rfl (fun wx hC => loadI_stats38 (HT.out.below hC))) ?_
  refine Rg.goods_cons (Rg.good_call3 Try.func10 (by kernel_rfl) rfl rfl rfl (by rintro v0 v1 v2 wx hC ⟨u, rfl, hu⟩ rfl rfl; exact ex_rowP (pJudge_is kS kfine _ kA_fine _ _ _ wx hu (HS.out.below hC) 3 k_three) hC)) ?_
  refine Rg.goods_cons (Rg.good_bin hre rfl rfl rfl rfl (fun _ => rfl) (fun w => by go_simp)) ?_
  refine Rg.goods_cons (Rg.good_pick true hre rfl rfl rfl rfl) ?_
  refine Rg.goods_cons (Rg.good_assign hre rfl rfl rfl) ?_
  exact Rg.goods_nil
 case fin =>
  intro wx hx
  simp only [Rg.later, Act.put, List.setIfInBounds_toArray, List.set_cons_succ, List.set_cons_zero]
  intro vin hin
  have HX9 : Hid (Ex w wx) := (HXW.out.trans hx : Ex w wx)
  clear hx hin
  go_wp2_with fail
  go_ret
  exact ⟨rfl, HX9.out⟩
end Go.Proofs.Ytibnhjfeepdddaa
