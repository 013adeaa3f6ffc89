/-
  The statements' own known.
-/
import Derived.Test.YtbdjccmlgdfapaaLknow
namespace Go.Proofs.Ytbdjccmlgdfapaa
open Go.RowKit
set_option linter.unusedVariables false
set_option linter.unusedSimpArgs false
namespace Pd
/-- A predicate that the callees bear, one about the other. -/
theorem fine_hk (k : Int) (hk' : In64 k) {l : List Pr} (h1 : l.length ≤ 1000) (h : ∀ x ∈ l, Fine x) : Fine (Pr.mk' (hk k) l) := by
  rw [fine_mk]
  exact ⟨⟨hk', ⟨by simp [hk], by simp [hk]⟩, ⟨by simp [hk], by simp [hk]⟩, by simp [hk], by simp [hk], by simp [hk], by simp [hk]⟩, h1, h⟩
theorem fine_null {c : List UInt8} (h : c.length ≤ 1000) : Fine (nullP c) := by
  unfold nullP
  rw [fine_mk]
  exact ⟨⟨⟨by simp, by simp⟩, ⟨by simp, by simp⟩, ⟨by simp, by simp⟩, h, by simp, by simp, by simp⟩, by simp, by simp⟩
theorem fine_nt {p : Pr} (h : Fine p) : Fine (nt p) := fine_hk 3 ⟨by decide, by decide⟩ (by simp) (by simpa using h)
def kn1 : Pr := nt (Pr.mk' (hk 1) [nullP [120], nt (nullP [121])])
def kn2 : Pr := Pr.mk' (hk 2) [nt (nullP [120]), nullP [121]]
theorem fine_kn1 : Fine kn1 := fine_nt (fine_hk 1 ⟨by decide, by decide⟩ (by simp) (by
  intro x hx
  simp only [List.mem_cons, List.not_mem_nil, or_false] at hx
  rcases hx with rfl | rfl
  · exact fine_null (by simp)
  · exact fine_nt (fine_null (by simp))))
theorem normal_kn : normalB kn1 = kn2 := by
  have hr : right kn1 = true := by decide +kernel
  unfold normalB
  rw [if_pos hr]
  rfl
theorem fit_every : fit (Pr.mk' (hk 1) []) 50 5000 = true := by decide +kernel
theorem fit_any0 : fit (Pr.mk' (hk 2) []) 50 5000 = true := by decide +kernel
end Pd
theorem pt_row {B : Nat → Prop} {f : FuncId} {args : Array Value} {wx w1 : World} {p : Pr} (h : Calls Try.prog f args wx fun e w' => ∃ u, e = .returned (pvv u) ∧ Pd.Lay B p w' u ∧ Ex wx w') (hC : Ex w1 wx) :
    Calls Try.prog f args wx (fun e w' => ∃ u, e = .returned u ∧ Rg.Spec.ok (.inr (Pd.IsP (fun _ => True) p)) u w' ∧ Ex wx w' ∧ Ex w1 w') :=
  h.mono fun e w' ⟨u, h1, h2, h3⟩ => ⟨pvv u, h1, ⟨u, rfl, Pd.Lay.mono (fun _ _ => trivial) _ h2⟩, h3, hC.trans h3⟩
set_option maxHeartbeats 1000000 in
theorem run_bk {o : Oper} (ρ : Operand → Value) (w : World) (x : Operand) (K : Int) (a : Option Addr) (n c : Nat) (ho : o.op = .build 25 #[(0, .const (.int .i64 K)), (6, x)]) (hc : ρ (.const (.int .i64 K)) = .int .i64 K) (hx : ρ x = .slice a n c) : (execOp ρ o).run Try.prog w = .ok (.value (pvv ⟨K, [], 0, 0, [], (none, 0, 0), a, n, c⟩)) w := by
  simp [execOp, ho, hx, hc, go_sem, pvv, sv, str]
theorem Rg.good_bk {ops : Array Oper} {specs : List Rg.Spec} {a0 : Act} {w1 : World} {base : Nat} {o : Oper} {x : Operand} {K : Int} {l : List Pr} (ho : o.op = .build 25 #[(0, .const (.int .i64 K)), (6, x)]) (hg : Rg.guardV ops specs a0 o = some true)
    (hx : Rg.argS ops specs a0 x = .inr (Pd.IsPs base (fun _ => True) l)) : Rg.GoodOp Try.prog ops specs a0 (Ex w1) Ex o (.inr (Pd.IsP (fun _ => True) (Pr.mk' (Pd.hk K) l))) :=
  Rg.good_of hg fun Q a w hC hh => by
    have h1 := hh x (by rw [ho]; simp [Op.operands])
    rw [hx] at h1
    obtain ⟨g, us, hu, _, hR, hL⟩ := h1
    refine Rg.Fr.wp_val (run_bk _ w x K _ _ _ ho rfl hu) ⟨_, rfl, ?_, Ex.refl _, hC⟩
    refine ⟨_, rfl, ?_⟩
    rw [Pd.lay_mk]
    exact ⟨⟨⟨rfl, rfl, rfl, rfl, rfl⟩, rfl, Rd.nil _, fun h0 => by simp at h0⟩, rfl, fun _ b off e => trivial, us, hR, hL⟩
theorem rv_zero (w : World) : RvOk w ⟨0, 0, none, 0, 0⟩ ⟨0, 0, []⟩ := ⟨rfl, rfl, rfl, RdW.nil _⟩
theorem eval_row {p : Pr} {r : Rw} {rv : RV} {v : PV} {wx w1 : World} {o : Bool} (h : Calls Try.prog 15 #[pvv v, rvv rv] wx fun e w' => e = .returned (.bool o) ∧ Ex wx w') (hC : Ex w1 wx) :
    Calls Try.prog 15 #[pvv v, rvv rv] wx (fun e w' => ∃ u, e = .returned u ∧ Rg.Spec.ok (.inl (.bool o)) u w' ∧ Ex wx w' ∧ Ex w1 w') := ex_rowP h hC
set_option maxHeartbeats 8000000 in
set_option maxRecDepth 100000 in
theorem known_any (w : World) : Calls Try.prog 11 #[] w fun e w' => e = .returned (.bool true) ∧ Ex w w' := by
  go_enter Try.func11, Try.ntmps11
  go_wp2_with fail
  go_at_call 30
  refine Calls.mono (null_is [120] w) ?_
  rintro e w1 ⟨u1, rfl, hL1, hx1⟩
  have HL1 : Hid (Pd.Lay (fun b => w.heap.size ≤ b) (Pd.nullP [120]) w1 u1) := hL1
  have HX1 : Hid (Ex w w1) := hx1
  clear hL1 hx1
  go_wp2_with fail
  go_at_call 30
  refine Calls.mono (null_is [121] w1) ?_
  rintro e w2 ⟨u2, rfl, hL2, hx2⟩
  have HL12 : Hid (Pd.Lay (fun _ => True) (Pd.nullP [120]) w2 u1) := (Pd.Lay.mono (fun _ _ => trivial) _ (Pd.Lay.below _ HL1.out hx2) : Pd.Lay _ _ w2 u1)
  have HL2 : Hid (Pd.Lay (fun _ => True) (Pd.nullP [121]) w2 u2) := (Pd.Lay.mono (fun _ _ => trivial) _ hL2 : Pd.Lay _ _ w2 u2)
  have HX2 : Hid (Ex w w2) := (HX1.out.trans hx2 : Ex w w2)
  clear hL2 hx2 HL1
  go_wp2_with fail
  go_at_call 23
  refine Calls.mono (nots_is (Pd.nullP [121]) 1 u2 w2 HL2.out (by omega)) ?_
  rintro e w3 ⟨u3, rfl, hL3, hx3⟩
  have HL13 : Hid (Pd.Lay (fun _ => True) (Pd.nullP [120]) w3 u1) := (Pd.Lay.below _ HL12.out hx3 : Pd.Lay _ _ w3 u1)
  have HL3 : Hid (Pd.Lay (fun _ => True) (Pd.nt (Pd.nullP [121])) w3 u3) := (Pd.Lay.mono (fun _ _ => trivial) _ hL3 : Pd.Lay _ _ w3 u3)
  have HX3 : Hid (Ex w w3) := (HX2.out.trans hx3 : Ex w w3)
  clear hL3 hx3 HL12 HL2
  obtain ⟨w4, hw4⟩ : ∃ w4, w3.alloc (.cells #[.int .i64 u1.k, .string (str u1.col), .int .i64 u1.n, .int .i64 u1.m, .string (str u1.s), .slice u1.set.1 u1.set.2.1 u1.set.2.2, .slice u1.kids.1 u1.kids.2.1 u1.kids.2.2, .int .i64 u3.k, .string (str u3.col), .int .i64 u3.n, .int .i64 u3.m, .string (str u3.s), .slice u3.set.1 u3.set.2.1 u3.set.2.2, .slice u3.kids.1 u3.kids.2.1 u3.kids.2.2] 25) = w4 := ⟨_, rfl⟩
  have hX34 : Ex w3 w4 := by rw [← hw4]; exact (Below.refl _ _).alloc (Nat.le_refl _) _
  have HX4 : Hid (Ex w w4) := (HX3.out.trans hX34 : Ex w w4)
  have hR4 : RdW 7 pc w4 (some ⟨w3.heap.size, 0, none⟩) 2 [u1, u3] := by rw [← hw4]; exact RdW.laid pc_len w3 [u1, u3] (by simp)
  have HL4 : Hid (Pd.Lay (fun _ => True) (Pr.mk' (Pd.hk 1) [Pd.nullP [120], Pd.nt (Pd.nullP [121])]) w4 ⟨1, [], 0, 0, [], (none, 0, 0), some ⟨w3.heap.size, 0, none⟩, 2, 2⟩) := (by
    rw [Pd.lay_mk]
    exact ⟨⟨⟨rfl, rfl, rfl, rfl, rfl⟩, rfl, Rd.nil _, fun h0 => by simp at h0⟩, rfl, fun _ b off e => trivial, [u1, u3], hR4, (Pd.Lays.one (Pd.Lay.below _ HL13.out hX34)).append (Pd.Lays.one (Pd.Lay.below _ HL3.out hX34))⟩ : Pd.Lay _ _ w4 _)
  clear hX34 hR4 HL13 HL3
  simp only [pvv, sv]
  go_wp2_with fail
  go_at_call 23
  refine Calls.mono (nots_is (Pr.mk' (Pd.hk 1) [Pd.nullP [120], Pd.nt (Pd.nullP [121])]) 1 ⟨1, [], 0, 0, [], (none, 0, 0), some ⟨w3.heap.size, 0, none⟩, 2, 2⟩ w4 HL4.out (by omega)) ?_
  rintro e w5 ⟨u5, rfl, hL5, hx5⟩
  have HL5 : Hid (Pd.Lay (fun _ => True) Pd.kn1 w5 u5) := (Pd.Lay.mono (fun _ _ => trivial) _ hL5 : Pd.Lay _ _ w5 u5)
  have HX5 : Hid (Ex w w5) := (HX4.out.trans hx5 : Ex w w5)
  clear hL5 hx5 HL4
  go_wp2_with fail
  go_at_call 10
  refine Calls.mono (normalN_is Pd.kn1 u5 w5 HL5.out Pd.fine_kn1) ?_
  rintro e w6 ⟨u6, rfl, hL6, hx6⟩
  obtain ⟨w7, hw7⟩ : ∃ w7, w6.alloc (pb u6) = w7 := ⟨_, rfl⟩
  have hX67 : Ex w6 w7 := by rw [← hw7]; exact (Below.refl _ _).alloc (Nat.le_refl _) _
  have HX7 : Hid (Ex w w7) := ((HX5.out.trans hx6).trans hX67 : Ex w w7)
  have HP7 : Hid (PAt w7 w6.heap.size u6) := (by rw [← hw7]; exact PAt.new w6 u6 : PAt w7 w6.heap.size u6)
  have HL7 : Hid (Pd.Lay (fun _ => True) Pd.kn2 w7 u6) := (by
    rw [← Pd.normal_kn]
    exact Pd.Lay.mono (fun _ _ => trivial) _ (Pd.Lay.below _ hL6 hX67) : Pd.Lay _ _ w7 u6)
  clear hL6 hx6 hX67 HL5
  simp only [pvv, sv]
  go_wp2_with fail
  have hre := Ex.refl
  refine Rg.wp_rows [.inl (pvv u6), .inr (Pd.IsP (fun _ => True) (Pd.nullP [120])), .inr (Pd.IsP (fun _ => True) (Pd.nt (Pd.nullP [120]))), .inr (Pd.IsP (fun _ => True) (Pd.nullP [121])), .inr (Pd.IsPs w7.heap.size (fun _ => True) [Pd.nt (Pd.nullP [120]), Pd.nullP [121]]), .inr (Pd.IsP (fun _ => True) Pd.kn2), .inl (.bool true), .inl (.bool true), .inr (Pd.IsP (fun _ => True) (Pr.mk' (Pd.hk 1) [])), .inl (rvv ⟨0, 0, none, 0, 0⟩), .inl (.bool true), .inl (.bool true), .inl (.bool true), .inl (pvv ⟨2, [], 0, 0, [], (none, 0, 0), none, 0, 0⟩), .inl (rvv ⟨0, 0, none, 0, 0⟩), .inl (.bool false), .inl (.bool true), .inl (.bool true), .inl (.bool true)] (Ex w7) Ex 27 (by kernel_rfl) rfl (by kernel_rfl) ?st hre (Ex.drew _) ?goods ?fin
  case st => exact ⟨Pd.IsP.stands _ _, Pd.IsP.stands _ _, Pd.IsP.stands _ _, Pd.IsPs.stands _ _ _, Pd.IsP.stands _ _, Pd.IsP.stands _ _, trivial⟩
  case goods =>
    refine Rg.goods_cons (Rg.good_load hre rfl rfl rfl (fun wx hC => (HP7.out.below hC).loadI)) ?_
    refine Rg.goods_cons (Rg.good_call1 Try.func30 (by kernel_rfl) rfl rfl rfl (by rintro v0 wx hC rfl; exact pt_row (null_is [120] wx) hC)) ?_
    refine Rg.goods_cons (Rg.good_call2 Try.func23 (by kernel_rfl) rfl rfl rfl (by rintro v0 v1 wx hC ⟨u, rfl, hu⟩ rfl; exact pt_row (nots_is (Pd.nullP [120]) 1 u wx hu (by omega)) hC)) ?_
    refine Rg.goods_cons (Rg.good_call1 Try.func30 (by kernel_rfl) rfl rfl rfl (by rintro v0 wx hC rfl; exact pt_row (null_is [121] wx) hC)) ?_
    refine Rg.goods_cons (Rg.good_pred2 rfl rfl rfl rfl) ?_
    refine Rg.goods_cons (Rg.good_bk rfl rfl rfl) ?_
    refine Rg.goods_cons (Rg.good_call2 Try.func9 (by kernel_rfl) rfl rfl rfl (by rintro v0 v1 wx hC rfl ⟨u, rfl, hu⟩; exact ex_rowP (kpred_is Pd.kn2 Pd.kn2 u6 u wx true (Pd.Lay.below _ HL7.out hC) hu (by simp)) hC)) ?_
    refine Rg.goods_cons (Rg.good_move hre rfl rfl rfl) ?_
    refine Rg.goods_cons (Rg.good_call0 Try.func31 (by kernel_rfl) rfl rfl rfl (by intro wx hC; exact pt_row (every_is wx) hC)) ?_
    refine Rg.goods_cons (Rg.good_known hre rfl (fun _ => undef) (rvv ⟨0, 0, none, 0, 0⟩) (by simp) (fun x hx => by simp [Op.operands] at hx) (fun w hC => by simp [execOp, go_sem, rvv, sv])) ?_
    refine Rg.goods_cons (Rg.good_call2 Try.func15 (by kernel_rfl) rfl rfl rfl (by rintro v0 v1 wx hC ⟨u, rfl, hu⟩ rfl; exact ex_rowP (eval_is (Pr.mk' (Pd.hk 1) []) ⟨0, 0, []⟩ u _ wx hu (Pd.fine_hk 1 ⟨by decide, by decide⟩ (by simp) (by simp)) (rv_zero wx) (by simp) true (by rw [Pd.fit_every]; rfl)) hC)) ?_
    refine Rg.goods_cons (Rg.good_pick true hre rfl rfl rfl rfl) ?_
    refine Rg.goods_cons (Rg.good_move hre rfl rfl rfl) ?_
    refine Rg.goods_cons (Rg.good_known hre rfl (fun x => match x with | .const v => v | _ => undef) (pvv ⟨2, [], 0, 0, [], (none, 0, 0), none, 0, 0⟩) (by simp) (fun x hx => by simp [Op.operands] at hx; subst hx; rfl) (fun w hC => by simp [execOp, go_sem, pvv, sv, str])) ?_
    refine Rg.goods_cons (Rg.good_known hre rfl (fun _ => undef) (rvv ⟨0, 0, none, 0, 0⟩) (by simp) (fun x hx => by simp [Op.operands] at hx) (fun w hC => by simp [execOp, go_sem, rvv, sv])) ?_
    refine Rg.goods_cons (Rg.good_call2 Try.func15 (by kernel_rfl) rfl rfl rfl (by rintro v0 v1 wx hC rfl rfl; exact ex_rowP (eval_is (Pr.mk' (Pd.hk 2) []) ⟨0, 0, []⟩ _ _ wx (lay_bare _ wx 2 [] 0 0 []) (Pd.fine_hk 2 ⟨by decide, by decide⟩ (by simp) (by simp)) (rv_zero wx) (by simp) false (by rw [Pd.fit_any0]; rfl)) hC)) ?_
    refine Rg.goods_cons (Rg.good_un hre rfl rfl rfl (fun w => by go_simp)) ?_
    refine Rg.goods_cons (Rg.good_pick true hre rfl rfl rfl rfl) ?_
    refine Rg.goods_cons (Rg.good_assign hre rfl rfl rfl) ?_
    exact Rg.goods_nil
  case fin =>
    intro wx hx
    simp only [Rg.later, Act.put, List.setIfInBounds_toArray, List.set_cons_succ, List.set_cons_zero]
    intro _ _ _ _ _ _ _ _ _ _ _ _
    have HX9 : Hid (Ex w wx) := (HX7.out.trans hx : Ex w wx)
    clear hx
    go_wp2_with fail
    go_ret
    exact ⟨rfl, HX9.out⟩
end Go.Proofs.Ytbdjccmlgdfapaa
