/-
  'some := Any(Not p, Not q)' in a region whose order is open: a variable for a predicate is made anywhere in it, and stored into at its end.
-/
import Derived.Test.YtbdjccmlgdfapaaPask
namespace Go.Proofs.Ytbdjccmlgdfapaa
open Go.RowKit
set_option linter.unusedVariables false
set_option linter.unusedSimpArgs false
namespace Rg.Fr
theorem wp_callf {o : Oper} {f : FuncId} {xs : Array Operand} {ats : Array TypeId} {fn : Func} {cd : Code} {a : Act} {w : World} {K : Act → World → Prop} {Q : Exit → Act → World → Prop} (hf : Try.prog.funcs[f]? = some fn) (hname : (fn.name == "runtime.NumGoroutine") = false) (hb : fn.body = some cd)
    (ho : o.op = .call { callee := .value (.func f), args := xs, argTypes := ats }) (hc : Calls Try.prog f (xs.map a.eval) w (fun e w' => ∃ v, e = .returned v ∧ K (a.put o.dst v) w')) : o.wp Try.prog a w K Q := by
  have hr : (execOp a.eval o).run Try.prog w = .ok (.enter f (xs.map a.eval)) w := by
    have e : execOp a.eval o = callFunc f (#[] ++ xs.map a.eval ++ #[]) := by unfold execOp; rw [ho]; rfl
    rw [e, Rg.run_enter hf hname hb]
    simp
  unfold Oper.wp
  rw [hr]
  refine Calls.mono hc fun e w' ⟨v, he, hv⟩ => ?_
  subst he
  exact hv
abbrev T2 : Spec := .inr (fun _ _ => True)
theorem run_load25 {o : Oper} (ρ : Operand → Value) (w : World) (x : Operand) {g : Nat} {u : PV} (ho : o.op = .load 25 x) (hx : ρ x = .pointer (some ⟨g, 0, none⟩)) (hP : PAt w g u) : (execOp ρ o).run Try.prog w = .ok (.value (pvv u)) w := by
  unfold execOp
  rw [ho]
  simp only [hx, Sem.run_bind, Result.andThen, hP.loadI, Sem.run_pure]
set_option maxHeartbeats 1000000 in
theorem run_store25 {o : Oper} (ρ : Operand → Value) (w : World) (x y : Operand) {g : Nat} {u0 u : PV} (ho : o.op = .store 25 x y) (hx : ρ x = .pointer (some ⟨g, 0, none⟩)) (hy : ρ y = pvv u) (hP : PAt w g u0) : (execOp ρ o).run Try.prog w = .ok .skip (pset w g u) := by
  obtain ⟨c0, c1, c2, c3, c4, c5, c6⟩ := hP.all
  obtain ⟨f0, f1, f2, f3, f4, f5, f6⟩ := hP.fro
  simp [execOp, ho, hx, hy, go_sem, pvv, sv, c0, c1, c2, c3, c4, c5, c6, f0, f1, f2, f3, f4, f5, f6]
def CP (s : Nat) (A : Pr) (b : Bool) (a : Act) (w : World) (D : Nat → Prop) : Prop := b = true → ∃ u, a.tmps[s]? = some (pvv u) ∧ Pd.Lay D A w u
def CL (s : Nat) (l : List Pr) (b : Bool) (a : Act) (w : World) (D : Nat → Prop) : Prop := b = true → ∃ g us, a.tmps[s]? = some (.slice (some ⟨g, 0, none⟩) l.length l.length) ∧ D g ∧ RdW 7 pc w (some ⟨g, 0, none⟩) l.length us ∧ Pd.Lays D w us l
def CN (s base : Nat) (S : Pr) (b b7 : Bool) (a : Act) (w : World) (D : Nat → Prop) : Prop := b = true → ∃ g, a.tmps[s]? = some (.pointer (some ⟨g, 0, none⟩)) ∧ base ≤ g ∧ g < w.heap.size ∧ ¬ D g ∧ (b7 = false → PAt w g PV.zero) ∧ (b7 = true → ∃ u, PAt w g u ∧ Pd.Lay (fun _ => True) S w u)
theorem CP.keep {s : Nat} {A : Pr} {b : Bool} {a : Act} {w w' : World} {D D' : Nat → Prop} (h : CP s A b a w D) (hx : Ex w w') (hD : ∀ c, D c → D' c) {d : Option Tmp} (v : Value) (hd : d ≠ some s) : CP s A b (a.put d v) w' D' := fun hb => by
  obtain ⟨u, h1, h2⟩ := h hb
  exact ⟨u, by rw [put_other a v hd]; exact h1, Pd.Lay.mono hD _ (Pd.Lay.below _ h2 hx)⟩
theorem CL.keep {s : Nat} {l : List Pr} {b : Bool} {a : Act} {w w' : World} {D D' : Nat → Prop} (h : CL s l b a w D) (hx : Ex w w') (hD : ∀ c, D c → D' c) {d : Option Tmp} (v : Value) (hd : d ≠ some s) : CL s l b (a.put d v) w' D' := fun hb => by
  obtain ⟨g, us, h1, h2, h3, h4⟩ := h hb
  exact ⟨g, us, by rw [put_other a v hd]; exact h1, hD g h2, h3.below hx, (h4.below hx).mono hD⟩
theorem CN.keep {s base : Nat} {S : Pr} {b b7 : Bool} {a : Act} {w w' : World} {D D' : Nat → Prop} (h : CN s base S b b7 a w D) (hx : Ex w w') (hD : ∀ c, D' c → D c ∨ w.heap.size ≤ c) {d : Option Tmp} (v : Value) (hd : d ≠ some s) : CN s base S b b7 (a.put d v) w' D' := fun hb => by
  obtain ⟨g, h1, h2, h3, h4, h5, h6⟩ := h hb
  refine ⟨g, by rw [put_other a v hd]; exact h1, h2, Nat.lt_of_lt_of_le h3 hx.size, fun hg => by rcases hD g hg with hg | hg; exact h4 hg; omega, fun e => (h5 e).below hx, fun e => ?_⟩
  obtain ⟨u, h7, h8⟩ := h6 e
  exact ⟨u, h7.below hx, Pd.Lay.below _ h8 hx⟩
def SomeV (base : Nat) (A B S : Pr) (L : Nat → Bool) (a : Act) (w : World) : Prop := ∃ D : Nat → Prop, (∀ c, D c → c < w.heap.size) ∧ (∀ c, c < base → D c) ∧ CP 31 A (L 1) a w D ∧ CP 33 B (L 3) a w D ∧ CL 34 [A, B] (L 4) a w D ∧ CP 35 S (L 5) a w D ∧ CN 13 base S (L 6) (L 7) a w D ∧ (L 7 = true → L 6 = true)
theorem upd_ne {i j : Nat} (h : i ≠ j) (L : Nat → Bool) : upd i L j = L j := by simp [upd, h]
theorem upd_self (i : Nat) (L : Nat → Bool) : upd i L i = true := by simp [upd]
set_option maxHeartbeats 8000000 in
theorem wp_some {id : Nat} {Q : Exit → Act → World → Prop} {w : World} {a0 : Act} {l : List Oper} (n : Nat) (hm : Try.prog.follows .mixedOrders = true) (A B : Pr) (g0 g1 : Nat) (u1 u2 : PV)
    (o0 o1 o2 o3 o4 o5 o6 o7 : Oper) (hl : l = [o0, o1, o2, o3, o4, o5, o6, o7]) (hn : a0.tmps.size = n) (hn9 : 35 < n) (hs : sound l.toArray n = true) (hng : l.all (fun o => o.guard.isNone) = true)
    (p0 : o0.op = .load 25 (.tmp 5)) (q0 : o0.dst = some 30) (p1 : o1.op = .call { callee := .value (.func 23), args := #[.tmp 30, .const (.int .i64 1)], argTypes := #[25, 3] }) (q1 : o1.dst = some 31)
    (p2 : o2.op = .load 25 (.tmp 6)) (q2 : o2.dst = some 32) (p3 : o3.op = .call { callee := .value (.func 23), args := #[.tmp 32, .const (.int .i64 1)], argTypes := #[25, 3] }) (q3 : o3.dst = some 33)
    (p4 : o4.op = .buildSlice 23 2 #[(0, .tmp 31), (1, .tmp 33)]) (q4 : o4.dst = some 34) (p5 : o5.op = .build 25 #[(0, .const (.int .i64 2)), (6, .tmp 34)]) (q5 : o5.dst = some 35)
    (p6 : o6.op = .alloc 25) (q6 : o6.dst = some 13) (p7 : o7.op = .store 25 (.tmp 13) (.tmp 35)) (q7 : o7.dst = none)
    (d41 : o4.after.any (fun e => Region.binds .any e && e.on == 1) = true) (d43 : o4.after.any (fun e => Region.binds .any e && e.on == 3) = true) (d54 : o5.after.any (fun e => Region.binds .any e && e.on == 4) = true) (d75 : o7.after.any (fun e => Region.binds .any e && e.on == 5) = true) (d76 : o7.after.any (fun e => Region.binds .any e && e.on == 6) = true)
    (specs : List Spec) (hsp : specs = [.inl (pvv u1), T2, .inl (pvv u2), T2, T2, T2, T2, T2])
    (x5 : argS l.toArray specs a0 (.tmp 5) = .inl (.pointer (some ⟨g0, 0, none⟩))) (x6 : argS l.toArray specs a0 (.tmp 6) = .inl (.pointer (some ⟨g1, 0, none⟩))) (x30 : argS l.toArray specs a0 (.tmp 30) = .inl (pvv u1)) (x32 : argS l.toArray specs a0 (.tmp 32) = .inl (pvv u2))
    (hP0 : PAt w g0 u1) (hP1 : PAt w g1 u2) (hA : Pd.Lay (fun _ => True) A w u1) (hB : Pd.Lay (fun _ => True) B w u2)
    (hF : ∀ (w' : World), Ex w w' → later w' (fun a' => ∀ g u, a'.tmps[13]? = some (.pointer (some ⟨g, 0, none⟩)) → w.heap.size ≤ g → PAt w' g u → Pd.Lay (fun _ => True) (Pr.mk' (Pd.hk 2) [Pd.nt A, Pd.nt B]) w' u → Q .normal a' w') l specs a0) : (Code.region id l.toArray true).wp Try.prog Q a0 w := by
  have hst : Stands (fun _ _ => True) specs := by rw [hsp]; exact ⟨fun _ _ _ _ _ => trivial, fun _ _ _ _ _ => trivial, fun _ _ _ _ _ => trivial, fun _ _ _ _ _ => trivial, fun _ _ _ _ _ => trivial, fun _ _ _ _ _ => trivial, trivial⟩
  refine wp_rows_free (SomeV w.heap.size (Pd.nt A) (Pd.nt B) (Pr.mk' (Pd.hk 2) [Pd.nt A, Pd.nt B])) (Ex w) specs n hm hn hs hst hng (Ex.drew w) ?_ ?_ ?_
  · exact ⟨fun c => c < w.heap.size, fun c hc => hc, fun c hc => hc, fun h => (by cases h), fun h => (by cases h), fun h => (by cases h), fun h => (by cases h), fun h => (by cases h), fun h => (by cases h)⟩
  · intro i o L a w' ho hL hdep hsz hx hargs hv
    subst hl
    obtain ⟨D, hD1, hD0, v1, v3, v4, v5, v6, v7⟩ := hv
    have hbs : w.heap.size ≤ w'.heap.size := hx.size
    match i, ho, hL with
    | 0, ho, hL =>
      simp at ho; subst ho
      have h := hargs (.tmp 5) (by rw [p0]; simp [Op.operands])
      rw [x5] at h
      have hr : (execOp a.eval o0).run Try.prog w' = .ok (.value (pvv u1)) w' := by
        simp only [Spec.ok] at h
        exact run_load25 _ w' _ p0 h (hP0.below hx)
      refine wp_val hr ⟨_, rfl, by rw [hsp]; rfl, hx, D, hD1, hD0, ?_, ?_, ?_, ?_, ?_, ?_⟩
      · rw [upd_ne (by decide), q0]; exact v1.keep (Ex.refl _) (fun c hc => hc) _ (by simp)
      · rw [upd_ne (by decide), q0]; exact v3.keep (Ex.refl _) (fun c hc => hc) _ (by simp)
      · rw [upd_ne (by decide), q0]; exact v4.keep (Ex.refl _) (fun c hc => hc) _ (by simp)
      · rw [upd_ne (by decide), q0]; exact v5.keep (Ex.refl _) (fun c hc => hc) _ (by simp)
      · rw [upd_ne (by decide), upd_ne (by decide), q0]; exact v6.keep (Ex.refl _) (fun c hc => .inl hc) _ (by simp)
      · rw [upd_ne (by decide), upd_ne (by decide)]; exact v7
    | 2, ho, hL =>
      simp at ho; subst ho
      have h := hargs (.tmp 6) (by rw [p2]; simp [Op.operands])
      rw [x6] at h
      have hr : (execOp a.eval o2).run Try.prog w' = .ok (.value (pvv u2)) w' := by
        simp only [Spec.ok] at h
        exact run_load25 _ w' _ p2 h (hP1.below hx)
      refine wp_val hr ⟨_, rfl, by rw [hsp]; rfl, hx, D, hD1, hD0, ?_, ?_, ?_, ?_, ?_, ?_⟩
      · rw [upd_ne (by decide), q2]; exact v1.keep (Ex.refl _) (fun c hc => hc) _ (by simp)
      · rw [upd_ne (by decide), q2]; exact v3.keep (Ex.refl _) (fun c hc => hc) _ (by simp)
      · rw [upd_ne (by decide), q2]; exact v4.keep (Ex.refl _) (fun c hc => hc) _ (by simp)
      · rw [upd_ne (by decide), q2]; exact v5.keep (Ex.refl _) (fun c hc => hc) _ (by simp)
      · rw [upd_ne (by decide), upd_ne (by decide), q2]; exact v6.keep (Ex.refl _) (fun c hc => .inl hc) _ (by simp)
      · rw [upd_ne (by decide), upd_ne (by decide)]; exact v7
    | 1, ho, hL =>
      simp at ho; subst ho
      have h := hargs (.tmp 30) (by rw [p1]; simp [Op.operands, Call.operands])
      rw [x30] at h
      refine wp_callf Try.func23 (by kernel_rfl) rfl p1 ?_
      have hc := nots_is (B := D) A 1 u1 w' (Pd.Lay.mono (fun c hc => hD0 c hc.2) _ (Pd.Lay.below _ hA.lt hx)) (by omega)
      have ea : (#[Operand.tmp 30, Operand.const (.int .i64 1)] : Array Operand).map a.eval = #[pvv u1, .int .i64 ((1 : Nat) : Int)] := by
        have h9 : a.eval (.tmp 30) = pvv u1 := h
        simp only [List.map_toArray, List.map_cons, List.map_nil, h9]
        rfl
      rw [ea]
      refine Calls.mono hc ?_
      rintro e w2 ⟨u, rfl, hu, hx2⟩
      refine ⟨pvv u, rfl, _, rfl, by rw [hsp]; trivial, hx.trans hx2, fun c => D c ∨ (w'.heap.size ≤ c ∧ c < w2.heap.size), ?_, fun c hc => .inl (hD0 c hc), ?_, ?_, ?_, ?_, ?_, ?_⟩
      · intro c hc
        rcases hc with hc | hc
        · exact Nat.lt_of_lt_of_le (hD1 c hc) hx2.size
        · exact hc.2
      · intro _
        refine ⟨u, by rw [q1]; exact put_same a _ (show (31 : Nat) < a.tmps.size by omega), ?_⟩
        exact Pd.Lay.mono (fun c hc => by rcases hc.1 with h1 | h1; exact .inl h1; exact .inr ⟨h1, hc.2⟩) _ hu.lt
      · rw [upd_ne (by decide), q1]; exact v3.keep hx2 (fun c hc => .inl hc) _ (by simp)
      · rw [upd_ne (by decide), q1]; exact v4.keep hx2 (fun c hc => .inl hc) _ (by simp)
      · rw [upd_ne (by decide), q1]; exact v5.keep hx2 (fun c hc => .inl hc) _ (by simp)
      · rw [upd_ne (by decide), upd_ne (by decide), q1]; exact v6.keep hx2 (fun c hc => by rcases hc with hc | hc; exact .inl hc; exact .inr hc.1) _ (by simp)
      · rw [upd_ne (by decide), upd_ne (by decide)]; exact v7
    | 3, ho, hL =>
      simp at ho; subst ho
      have h := hargs (.tmp 32) (by rw [p3]; simp [Op.operands, Call.operands])
      rw [x32] at h
      refine wp_callf Try.func23 (by kernel_rfl) rfl p3 ?_
      have hc := nots_is (B := D) B 1 u2 w' (Pd.Lay.mono (fun c hc => hD0 c hc.2) _ (Pd.Lay.below _ hB.lt hx)) (by omega)
      have ea : (#[Operand.tmp 32, Operand.const (.int .i64 1)] : Array Operand).map a.eval = #[pvv u2, .int .i64 ((1 : Nat) : Int)] := by
        have h9 : a.eval (.tmp 32) = pvv u2 := h
        simp only [List.map_toArray, List.map_cons, List.map_nil, h9]
        rfl
      rw [ea]
      refine Calls.mono hc ?_
      rintro e w2 ⟨u, rfl, hu, hx2⟩
      refine ⟨pvv u, rfl, _, rfl, by rw [hsp]; trivial, hx.trans hx2, fun c => D c ∨ (w'.heap.size ≤ c ∧ c < w2.heap.size), ?_, fun c hc => .inl (hD0 c hc), ?_, ?_, ?_, ?_, ?_, ?_⟩
      · intro c hc
        rcases hc with hc | hc
        · exact Nat.lt_of_lt_of_le (hD1 c hc) hx2.size
        · exact hc.2
      · rw [upd_ne (by decide), q3]; exact v1.keep hx2 (fun c hc => .inl hc) _ (by simp)
      · intro _
        refine ⟨u, by rw [q3]; exact put_same a _ (show (33 : Nat) < a.tmps.size by omega), ?_⟩
        exact Pd.Lay.mono (fun c hc => by rcases hc.1 with h1 | h1; exact .inl h1; exact .inr ⟨h1, hc.2⟩) _ hu.lt
      · rw [upd_ne (by decide), q3]; exact v4.keep hx2 (fun c hc => .inl hc) _ (by simp)
      · rw [upd_ne (by decide), q3]; exact v5.keep hx2 (fun c hc => .inl hc) _ (by simp)
      · rw [upd_ne (by decide), upd_ne (by decide), q3]; exact v6.keep hx2 (fun c hc => by rcases hc with hc | hc; exact .inl hc; exact .inr hc.1) _ (by simp)
      · rw [upd_ne (by decide), upd_ne (by decide)]; exact v7
    | 4, ho, hL =>
      simp at ho; subst ho
      obtain ⟨ua, ha1, ha2⟩ := v1 (dep_of d41 hdep)
      obtain ⟨ub, hb1, hb2⟩ := v3 (dep_of d43 hdep)
      have hX : Ex w' (w'.alloc (.cells (flat pc [ua, ub]).toArray 25)) := (Below.refl _ _).alloc (Nat.le_refl _) _
      have hsz2 : (w'.alloc (.cells (flat pc [ua, ub]).toArray 25)).heap.size = w'.heap.size + 1 := by simp
      refine wp_val (run_pred2 _ w' (.tmp 31) (.tmp 33) ua ub p4 (eval_tmp ha1) (eval_tmp hb1)) ⟨_, rfl, by rw [hsp]; trivial, hx.trans hX, fun c => D c ∨ c = w'.heap.size, ?_, fun c hc => .inl (hD0 c hc), ?_, ?_, ?_, ?_, ?_, ?_⟩
      · intro c hc
        rw [hsz2]
        rcases hc with hc | hc
        · have := hD1 c hc; omega
        · omega
      · rw [upd_ne (by decide), q4]; exact v1.keep hX (fun c hc => .inl hc) _ (by simp)
      · rw [upd_ne (by decide), q4]; exact v3.keep hX (fun c hc => .inl hc) _ (by simp)
      · intro _
        refine ⟨w'.heap.size, [ua, ub], by rw [q4]; exact put_same a _ (show (34 : Nat) < a.tmps.size by omega), .inr rfl, RdW.laid pc_len w' [ua, ub] (by simp), ?_⟩
        exact ((Pd.Lays.one (Pd.Lay.below _ ha2 hX)).append (Pd.Lays.one (Pd.Lay.below _ hb2 hX))).mono fun c hc => .inl hc
      · rw [upd_ne (by decide), q4]; exact v5.keep hX (fun c hc => .inl hc) _ (by simp)
      · rw [upd_ne (by decide), upd_ne (by decide), q4]; exact v6.keep hX (fun c hc => by rcases hc with hc | hc; exact .inl hc; exact .inr (by omega)) _ (by simp)
      · rw [upd_ne (by decide), upd_ne (by decide)]; exact v7
    | 5, ho, hL =>
      simp at ho; subst ho
      obtain ⟨g, us, hg1, hg2, hg3, hg4⟩ := v4 (dep_of d54 hdep)
      refine wp_val (run_bk _ w' (.tmp 34) 2 _ _ _ p5 rfl (eval_tmp hg1)) ⟨_, rfl, by rw [hsp]; trivial, hx, D, hD1, hD0, ?_, ?_, ?_, ?_, ?_, ?_⟩
      · rw [upd_ne (by decide), q5]; exact v1.keep (Ex.refl _) (fun c hc => hc) _ (by simp)
      · rw [upd_ne (by decide), q5]; exact v3.keep (Ex.refl _) (fun c hc => hc) _ (by simp)
      · rw [upd_ne (by decide), q5]; exact v4.keep (Ex.refl _) (fun c hc => hc) _ (by simp)
      · intro _
        refine ⟨_, by rw [q5]; exact put_same a _ (show (35 : Nat) < a.tmps.size by omega), ?_⟩
        rw [Pd.lay_mk]
        exact ⟨⟨⟨rfl, rfl, rfl, rfl, rfl⟩, rfl, Rd.nil _, fun h0 => by simp at h0⟩, rfl, fun _ b off e => by simp at e; rw [← e.1]; exact hg2, us, hg3, hg4⟩
      · rw [upd_ne (by decide), upd_ne (by decide), q5]; exact v6.keep (Ex.refl _) (fun c hc => .inl hc) _ (by simp)
      · rw [upd_ne (by decide), upd_ne (by decide)]; exact v7
    | 6, ho, hL =>
      simp at ho; subst ho
      have hX : Ex w' (w'.alloc pb0) := (Below.refl _ _).alloc (Nat.le_refl _) _
      have hsz2 : (w'.alloc pb0).heap.size = w'.heap.size + 1 := by simp
      have l7 : L 7 = false := by
        cases e : L 7 with
        | false => rfl
        | true => have h6 := v7 e; rw [hL] at h6; cases h6
      refine wp_val (run_alloc25 _ w' p6) ⟨_, rfl, by rw [hsp]; trivial, hx.trans hX, D, fun c hc => by rw [hsz2]; have := hD1 c hc; omega, hD0, ?_, ?_, ?_, ?_, ?_, ?_⟩
      · rw [upd_ne (by decide), q6]; exact v1.keep hX (fun c hc => hc) _ (by simp)
      · rw [upd_ne (by decide), q6]; exact v3.keep hX (fun c hc => hc) _ (by simp)
      · rw [upd_ne (by decide), q6]; exact v4.keep hX (fun c hc => hc) _ (by simp)
      · rw [upd_ne (by decide), q6]; exact v5.keep hX (fun c hc => hc) _ (by simp)
      · intro _
        refine ⟨w'.heap.size, by rw [q6]; exact put_same a _ (show (13 : Nat) < a.tmps.size by omega), hbs, by rw [hsz2]; omega, fun hg => by have := hD1 _ hg; omega, fun _ => PAt.new w' PV.zero, fun e => by rw [upd_ne (by decide), l7] at e; cases e⟩
      · intro _; exact upd_self _ _
    | 7, ho, hL =>
      simp at ho; subst ho
      obtain ⟨u, hu1, hu2⟩ := v5 (dep_of d75 hdep)
      obtain ⟨g, hg1, hg2, hg3, hg4, hg5, _⟩ := v6 (dep_of d76 hdep)
      have hPz := hg5 hL
      have hgr := grown_pset w' g u
      have hr := run_store25 a.eval w' (.tmp 13) (.tmp 35) p7 (eval_tmp hg1) (eval_tmp hu1) hPz
      have hfar : ∀ c, D c → some g ≠ some c := fun c hc e => hg4 (by simp at e; rw [e]; exact hc)
      refine wp_skip hr ⟨_, rfl, by rw [hsp]; trivial, Below.grown hx hgr hbs (fun c hc => by simp at hc; omega), D, ?_, hD0, ?_, ?_, ?_, ?_, ?_, ?_⟩
      · intro c hc; have := hD1 c hc; have h2 := hgr.size; omega
      · rw [upd_ne (by decide), q7]
        intro hb
        obtain ⟨y, h1, h2⟩ := v1 hb
        exact ⟨y, h1, Pd.Lay.far hfar _ h2 hgr⟩
      · rw [upd_ne (by decide), q7]
        intro hb
        obtain ⟨y, h1, h2⟩ := v3 hb
        exact ⟨y, h1, Pd.Lay.far hfar _ h2 hgr⟩
      · rw [upd_ne (by decide), q7]
        intro hb
        obtain ⟨y, us, h1, h2, h3, h4⟩ := v4 hb
        exact ⟨y, us, h1, h2, h3.far hgr (fun _ c off e => by simp at e; rw [← e.1]; exact hfar y h2), h4.far hfar hgr⟩
      · rw [upd_ne (by decide), q7]
        intro hb
        obtain ⟨y, h1, h2⟩ := v5 hb
        exact ⟨y, h1, Pd.Lay.far hfar _ h2 hgr⟩
      · rw [upd_ne (by decide), q7, upd_self]
        intro hb
        refine ⟨g, hg1, hg2, Nat.lt_of_lt_of_le hg3 hgr.size, hg4, (fun e => by cases e), fun _ => ⟨u, hPz.store u, ?_⟩⟩
        exact Pd.Lay.mono (fun _ _ => trivial) _ (Pd.Lay.far hfar _ hu2 hgr)
      · intro _
        rw [upd_ne (by decide)]
        exact dep_of d76 hdep
    | i + 8, ho, hL => simp at ho
  · intro w' hx
    refine later_mono ?_ _ _ _ (hF w' hx)
    intro a' hK hV
    obtain ⟨L, hL, D, hD1, hD0, v1, v3, v4, v5, v6, v7⟩ := hV
    obtain ⟨g, h1, h2, h3, h4, h5, h6⟩ := v6 (hL 6 (by rw [hl]; simp))
    obtain ⟨u, h7, h8⟩ := h6 (hL 7 (by rw [hl]; simp))
    exact hK g u h1 h2 h7 h8
end Rg.Fr
end Go.Proofs.Ytbdjccmlgdfapaa
