/-
  'b := Build(kind, append(append([]Cell{}, l...), c))', c and b variables for structs: a region of ten operations whose order is open.
-/
import Derived.Test.YtnfbmffafclaaaaZfree
import Derived.Test.YtnfbmffafclaaaaZbase
namespace Go.Proofs.Ytnfbmffafclaaaa
open Go.RowKit
set_option linter.unusedVariables false
set_option linter.unusedSimpArgs false
namespace Rg
/-- What is so at each listing. -/
structure GrowV (base : Nat) (C : List Cel) (c : Cel) (B : Zn) (L : Nat → Bool) (a : Act) (w : World) : Prop where
  c63 : L 6 = true → L 3 = true
  c65 : L 6 = true → L 5 = true
  c76 : L 7 = true → L 6 = true
  c97 : L 9 = true → L 7 = true
  c98 : L 9 = true → L 8 = true
  v1 : L 1 = true → L 3 = false → ∃ g, a.tmps[23]? = some (.slice (some ⟨g, 0, none⟩) 0 0) ∧ base ≤ g ∧ w.heap[g]? = some (.cells #[] 52 (0, 0))
  v3 : L 3 = true → L 6 = false → ∃ v, a.tmps[25]? = some v ∧ OwnC w base v C
  v5 : L 5 = true → L 6 = false → ∃ g, a.tmps[27]? = some (.slice (some ⟨g, 0, none⟩) 1 1) ∧ w.heap[g]? = some (.cells (ccs [c]).toArray 52 (0, 0))
  v6 : L 6 = true → L 7 = false → ∃ v, a.tmps[28]? = some v ∧ OwnC w base v (C ++ [c])
  v8 : L 8 = true → ∃ g, a.tmps[8]? = some (.pointer (some ⟨g, 0, none⟩)) ∧ base ≤ g ∧ (L 9 = true → ZAt w g B 23) ∧ (L 9 = false → ZAt w g Z.zero 23)
section
variable {base : Nat} {C : List Cel} {c : Cel} {B : Zn} {L : Nat → Bool} {a : Act} {w w' : World}
theorem blk_lt {w : World} {g : Nat} {o : Obj} (h : w.heap[g]? = some o) : g < w.heap.size := (Array.getElem?_eq_some_iff.1 h).1
theorem blk_below {w w' : World} {g : Nat} {o : Obj} (h : w.heap[g]? = some o) (hx : Ex w w') : w'.heap[g]? = some o := by rw [hx.block g (blk_lt h)]; exact h
/-- Another slot is written, and memory is only added. -/
theorem GrowV.put (h : GrowV base C c B L a w) (hx : Ex w w') (d : Option Tmp) (v : Value) (h8 : d ≠ some 8) (h23 : d ≠ some 23) (h25 : d ≠ some 25) (h27 : d ≠ some 27) (h28 : d ≠ some 28) : GrowV base C c B L (a.put d v) w' where
  c63 := h.c63
  c65 := h.c65
  c76 := h.c76
  c97 := h.c97
  c98 := h.c98
  v1 := fun h1 h2 => by
    obtain ⟨g, e1, e2, e3⟩ := h.v1 h1 h2
    exact ⟨g, by rw [put_other a v h23]; exact e1, e2, blk_below e3 hx⟩
  v3 := fun h1 h2 => by
    obtain ⟨u, e1, e2⟩ := h.v3 h1 h2
    exact ⟨u, by rw [put_other a v h25]; exact e1, e2.later hx⟩
  v5 := fun h1 h2 => by
    obtain ⟨g, e1, e2⟩ := h.v5 h1 h2
    exact ⟨g, by rw [put_other a v h27]; exact e1, blk_below e2 hx⟩
  v6 := fun h1 h2 => by
    obtain ⟨u, e1, e2⟩ := h.v6 h1 h2
    exact ⟨u, by rw [put_other a v h28]; exact e1, e2.later hx⟩
  v8 := fun h1 => by
    obtain ⟨g, e1, e2, e3, e4⟩ := h.v8 h1
    exact ⟨g, by rw [put_other a v h8]; exact e1, e2, fun h => (e3 h).below hx, fun h => (e4 h).below hx⟩
/-- A listing that is the same at the places that count. -/
theorem GrowV.same {L' : Nat → Bool} (h : GrowV base C c B L a w) (e : ∀ j, j = 1 ∨ j = 3 ∨ (5 ≤ j ∧ j ≤ 9) → L' j = L j) : GrowV base C c B L' a w := by
  have e1 := e 1 (by omega)
  have e3 := e 3 (by omega)
  have e5 := e 5 (by omega)
  have e6 := e 6 (by omega)
  have e7 := e 7 (by omega)
  have e8 := e 8 (by omega)
  have e9 := e 9 (by omega)
  obtain ⟨p1, p2, p3, p4, p5, p6, p7, p8, p9, p10⟩ := h
  constructor
  · rw [e6, e3]; exact p1
  · rw [e6, e5]; exact p2
  · rw [e7, e6]; exact p3
  · rw [e9, e7]; exact p4
  · rw [e9, e8]; exact p5
  · rw [e1, e3]; exact p6
  · rw [e3, e6]; exact p7
  · rw [e5, e6]; exact p8
  · rw [e6, e7]; exact p9
  · rw [e8, e9]; exact p10
theorem upd_same (i : Nat) (L : Nat → Bool) : upd i L i = true := by simp [upd]
theorem upd_ne {i j : Nat} (h : i ≠ j) (L : Nat → Bool) : upd i L j = L j := by simp [upd, h]
theorem eval_tmp {a : Act} {t : Tmp} {v : Value} (h : a.tmps[t]? = some v) : a.eval (.tmp t) = v := by simp [Act.eval, Array.getD_eq_getD_getElem?, h]
theorem ownC_block {v : Value} {l : List Cel} {k : Nat} (h : OwnC w base v l) (hk : v.ownBlock = some k) : ∃ cur, w.heap[k]? = some (.cells cur 52 (0, 0)) := by
  rcases h.2 with ⟨rfl, _⟩ | ⟨g, cap, cur, rfl, hb, hg, r⟩
  · simp [Value.ownBlock] at hk
  · simp [Value.ownBlock] at hk
    subst hk
    exact ⟨cur, hg⟩
theorem zat_grown {v : Value} {l : List Cel} {g : Nat} {z : Zn} (hz : ZAt w g z 23) (ho : OwnC w base v l) (hg : w.grownBy w' v.ownBlock) : ZAt w' g z 23 := by
  have hz' := hz
  unfold ZAt at hz ⊢
  rw [hg.block g (blk_lt hz) (fun e => ?_)]
  · exact hz
  · obtain ⟨cur, hc⟩ := ownC_block ho e.symm
    rw [hz] at hc
    simp [zb] at hc
theorem wp_append_cells {o : Oper} {a : Act} {w : World} {base : Nat} {K : Act → World → Prop} {Q : Exit → Act → World → Prop} (s x : Operand)
    (ho : o.op = .call { callee := .builtin .append, args := #[s, x], argTypes := #[46, 46] })
    (v : Value) (xs : List Cel) (hs : a.eval s = v) (hown : OwnC w base v xs) (p : Option Addr) (n c : Nat) (l : List Cel) (hx : a.eval x = .slice p n c) (hn : n = l.length) (hB : RdC w p c l)
    (h63 : xs.length + l.length ≤ 1000000) (hbase : base ≤ w.heap.size)
    (h : ∀ v' w', OwnC w' base v' (xs ++ l) → w.grownBy w' v.ownBlock → K (a.put o.dst v') w') : o.wp Try.prog a w K Q := by
  subst hn
  obtain ⟨i0, hi, hz0, hz1, hz2⟩ := info_parts Try.info52
  cases p with
  | none =>
    have hc := hB.2.2.1 rfl
    have hl : l = [] := List.eq_nil_of_length_eq_zero (by have := hB.1; omega)
    subst hl
    subst hc
    have hrun := run_append_owned_none (P := Try.prog) (w := w) base 46 o.type 52 i0 4 Try.underlying46 hi v xs.length (ccs xs) hown
    unfold Oper.wp
    simp [execOp, ho, resolve, invoke, builtin, hs, hx, hrun, Result.andThen]
    exact h v w (by simpa using hown) (World.grownBy.refl w _)
  | some ad =>
    refine wp_append_own _ s x 46 ho base 52 i0 _ 4 48 Try.underlying46 hi hz0 hz1 hz2 rfl (by decide) v xs.length (ccs xs) hs hown ad l.length c (ccs l) hx (by rw [ccs_len]) hB.cells (ccs_one l) (by unfold maxLen; omega) (by omega) hbase ?_
    intro v' w' ho' hg' _
    refine h v' w' ?_ hg'
    show w'.ownsRow base 52 4 v' (xs ++ l).length (ccs (xs ++ l))
    rw [ccs_append, List.length_append]
    exact ho'
theorem run_nil {o : Oper} (ρ : Operand → Value) (w : World) (h : o.op = .buildSlice 46 0 #[]) : (execOp ρ o).run Try.prog w = .ok (.value (.slice (some ⟨w.heap.size, 0, none⟩) 0 0)) (w.alloc (.cells #[] 52)) := by
  simp [execOp, h, go_sem]
theorem run_one {o : Oper} (ρ : Operand → Value) (w : World) (x : Operand) (c : Cel) (h : o.op = .buildSlice 46 1 #[(0, x)]) (hx : ρ x = cv c) : (execOp ρ o).run Try.prog w = .ok (.value (.slice (some ⟨w.heap.size, 0, none⟩) 1 1)) (w.alloc (.cells (ccs [c]).toArray 52)) := by
  simp [execOp, h, hx, cv, go_sem]
  rfl
theorem run_load {o : Oper} (ρ : Operand → Value) (w : World) (x : Operand) (g : Nat) (c : Cel) (h : o.op = .load 52 x) (hx : ρ x = .pointer (some ⟨g, 0, none⟩)) (hc : CAt w g c) : (execOp ρ o).run Try.prog w = .ok (.value (cv c)) w := by
  obtain ⟨c0, c1, c2, c3⟩ := hc.all
  simp [execOp, h, hx, cv, go_sem, c0, c1, c2, c3]
end
theorem later_mono {w : World} {K K' : Act → Prop} (hK : ∀ a, K a → K' a) : ∀ (os : List Oper) (ss : List Spec) (a : Act), later w K os ss a → later w K' os ss a
  | [], [], a, h => hK a h
  | o :: os, s :: ss, a, h => by
    unfold later at h ⊢
    cases hd : o.dst with
    | none => rw [hd] at h; exact later_mono hK os ss a h
    | some d =>
      rw [hd] at h
      cases s with
      | inl x => exact later_mono hK os ss _ h
      | inr p => exact fun v hv => later_mono hK os ss _ (h v hv)
  | [], _ :: _, a, h => hK a h
  | _ :: _, [], a, h => by unfold later at h; exact h.elim
theorem wp_val {o : Oper} {a : Act} {w w1 : World} {v : Value} {K : Act → World → Prop} {Q : Exit → Act → World → Prop} (hr : (execOp a.eval o).run Try.prog w = .ok (.value v) w1) (h : K (a.put o.dst v) w1) : o.wp Try.prog a w K Q := by
  unfold Oper.wp; rw [hr]; exact h
theorem wp_skip {o : Oper} {a : Act} {w w1 : World} {K : Act → World → Prop} {Q : Exit → Act → World → Prop} (hr : (execOp a.eval o).run Try.prog w = .ok .skip w1) (h : K (a.put o.dst undef) w1) : o.wp Try.prog a w K Q := by
  unfold Oper.wp; rw [hr]; exact h
theorem run_move {o : Oper} {x : Operand} (ρ : Operand → Value) (w : World) (h : o.op = .move x) : (execOp ρ o).run Try.prog w = .ok (.value (ρ x)) w := by
  unfold execOp; rw [h]; rfl
theorem dep_of {o : Oper} {L : Nat → Bool} {k : Nat} (h : o.after.any (fun e => Region.binds .any e && e.on == k) = true) (hd : ∀ e ∈ o.after, Region.binds .any e = true → L e.on = true) : L k = true := by
  obtain ⟨e, he, h2⟩ := Array.any_eq_true'.1 h
  simp only [Bool.and_eq_true, beq_iff_eq] at h2
  have := hd e he h2.1
  rw [h2.2] at this
  exact this
section
variable {base : Nat} {C : List Cel} {c : Cel} {B : Zn} {L : Nat → Bool} {a : Act} {w w' : World}
theorem GrowV.f1 (h : GrowV base C c B L a w) (hx : Ex w w') {d : Option Tmp} (v : Value) (hd : d ≠ some 23) : L 1 = true → L 3 = false → ∃ g, (a.put d v).tmps[23]? = some (.slice (some ⟨g, 0, none⟩) 0 0) ∧ base ≤ g ∧ w'.heap[g]? = some (.cells #[] 52 (0, 0)) := fun h1 h2 => by
  obtain ⟨g, e1, e2, e3⟩ := h.v1 h1 h2
  exact ⟨g, by rw [put_other a v hd]; exact e1, e2, blk_below e3 hx⟩
theorem GrowV.f3 (h : GrowV base C c B L a w) (hx : Ex w w') {d : Option Tmp} (v : Value) (hd : d ≠ some 25) : L 3 = true → L 6 = false → ∃ u, (a.put d v).tmps[25]? = some u ∧ OwnC w' base u C := fun h1 h2 => by
  obtain ⟨u, e1, e2⟩ := h.v3 h1 h2
  exact ⟨u, by rw [put_other a v hd]; exact e1, e2.later hx⟩
theorem GrowV.f5 (h : GrowV base C c B L a w) (hx : Ex w w') {d : Option Tmp} (v : Value) (hd : d ≠ some 27) : L 5 = true → L 6 = false → ∃ g, (a.put d v).tmps[27]? = some (.slice (some ⟨g, 0, none⟩) 1 1) ∧ w'.heap[g]? = some (.cells (ccs [c]).toArray 52 (0, 0)) := fun h1 h2 => by
  obtain ⟨g, e1, e2⟩ := h.v5 h1 h2
  exact ⟨g, by rw [put_other a v hd]; exact e1, blk_below e2 hx⟩
theorem GrowV.f6 (h : GrowV base C c B L a w) (hx : Ex w w') {d : Option Tmp} (v : Value) (hd : d ≠ some 28) : L 6 = true → L 7 = false → ∃ u, (a.put d v).tmps[28]? = some u ∧ OwnC w' base u (C ++ [c]) := fun h1 h2 => by
  obtain ⟨u, e1, e2⟩ := h.v6 h1 h2
  exact ⟨u, by rw [put_other a v hd]; exact e1, e2.later hx⟩
theorem GrowV.f8 (h : GrowV base C c B L a w) (hx : Ex w w') {d : Option Tmp} (v : Value) (hd : d ≠ some 8) : L 8 = true → ∃ g, (a.put d v).tmps[8]? = some (.pointer (some ⟨g, 0, none⟩)) ∧ base ≤ g ∧ (L 9 = true → ZAt w' g B 23) ∧ (L 9 = false → ZAt w' g Z.zero 23) := fun h1 => by
  obtain ⟨g, e1, e2, e3, e4⟩ := h.v8 h1
  exact ⟨g, by rw [put_other a v hd]; exact e1, e2, fun h => (e3 h).below hx, fun h => (e4 h).below hx⟩
end
abbrev T2 : Spec := .inr (fun _ _ => True)
set_option maxHeartbeats 4000000 in
theorem wp_grow {id : Nat} {Q : Exit → Act → World → Prop} {w : World} {a0 : Act} {l : List Oper} (n : Nat) (hm : Try.prog.follows .mixedOrders = true) (K : Int) (aC : Option Addr) (cC : Nat) (C : List Cel) (gc : Nat) (c : Cel) (B : Zn) (o0 o1 o2 o3 o4 o5 o6 o7 o8 o9 : Oper) (hl : l = [o0, o1, o2, o3, o4, o5, o6, o7, o8, o9])
    (hn : a0.tmps.size = n) (hn9 : 29 < n) (hs : sound l.toArray n = true) (hng : l.all (fun o => o.guard.isNone) = true)
    (p0 : o0.op = .move (.tmp 0)) (q0 : o0.dst = some 22) (p1 : o1.op = .buildSlice 46 0 #[]) (q1 : o1.dst = some 23) (p2 : o2.op = .move (.tmp 1)) (q2 : o2.dst = some 24)
    (p3 : o3.op = .call { callee := .builtin .append, args := #[.tmp 23, .tmp 24], argTypes := #[46, 46] }) (q3 : o3.dst = some 25) (p4 : o4.op = .load 52 (.tmp 5)) (q4 : o4.dst = some 26) (p5 : o5.op = .buildSlice 46 1 #[(0, .tmp 26)]) (q5 : o5.dst = some 27)
    (p6 : o6.op = .call { callee := .builtin .append, args := #[.tmp 25, .tmp 27], argTypes := #[46, 46] }) (q6 : o6.dst = some 28) (p7 : o7.op = .call { callee := .value (.func 18), args := #[.tmp 22, .tmp 28], argTypes := #[3, 46] }) (q7 : o7.dst = some 29)
    (p8 : o8.op = .alloc 23) (q8 : o8.dst = some 8) (p9 : o9.op = .store 23 (.tmp 8) (.tmp 29)) (q9 : o9.dst = none)
    (d31 : o3.after.any (fun e => Region.binds .any e && e.on == 1) = true) (d63 : o6.after.any (fun e => Region.binds .any e && e.on == 3) = true) (d65 : o6.after.any (fun e => Region.binds .any e && e.on == 5) = true) (d76 : o7.after.any (fun e => Region.binds .any e && e.on == 6) = true) (d97 : o9.after.any (fun e => Region.binds .any e && e.on == 7) = true) (d98 : o9.after.any (fun e => Region.binds .any e && e.on == 8) = true)
    (specs : List Spec) (hsp : specs = [.inl (.int .i64 K), T2, .inl (.slice aC C.length cC), T2, .inl (cv c), T2, T2, .inl (zv B), T2, T2])
    (x0 : argS l.toArray specs a0 (.tmp 0) = .inl (.int .i64 K)) (x1 : argS l.toArray specs a0 (.tmp 1) = .inl (.slice aC C.length cC)) (x5 : argS l.toArray specs a0 (.tmp 5) = .inl (.pointer (some ⟨gc, 0, none⟩)))
    (x22 : argS l.toArray specs a0 (.tmp 22) = .inl (.int .i64 K)) (x24 : argS l.toArray specs a0 (.tmp 24) = .inl (.slice aC C.length cC)) (x26 : argS l.toArray specs a0 (.tmp 26) = .inl (cv c)) (x29 : argS l.toArray specs a0 (.tmp 29) = .inl (zv B))
    (hC : RdC w aC cC C) (hCl : C.length ≤ 1000) (hc : CAt w gc c)
    (hb : ∀ (ad : Option Addr) (cap : Nat) (w1 : World), RdC w1 ad cap (C ++ [c]) → Calls Try.prog 18 #[.int .i64 K, .slice ad (C ++ [c]).length cap] w1 fun e w' => e = .returned (zv B) ∧ Ex w1 w')
    (hF : ∀ (w' : World), Ex w w' → later w' (fun a' => ∀ g, ZAt w' g B 23 → a'.tmps[8]? = some (.pointer (some ⟨g, 0, none⟩)) → Q .normal a' w') l specs a0) : (Code.region id l.toArray true).wp Try.prog Q a0 w := by
  have hst : Stands (fun _ _ => True) specs := by rw [hsp]; exact ⟨fun _ _ _ _ _ => trivial, fun _ _ _ _ _ => trivial, fun _ _ _ _ _ => trivial, fun _ _ _ _ _ => trivial, fun _ _ _ _ _ => trivial, fun _ _ _ _ _ => trivial, trivial⟩
  refine wp_rows_more (GrowV w.heap.size C c B) specs n hm hn hs hst hng ?_ ?_ ?_
  · constructor <;> intro h <;> cases h
  · intro i o L a w' ho hL hdep hsz hx hargs hv
    subst hl
    have hbs : w.heap.size ≤ w'.heap.size := hx.size
    have hal : ∀ ob, Ex w' (w'.alloc ob) := fun ob => (Below.refl _ _).alloc (Nat.le_refl _) ob
    match i, ho, hL with
    | 0, ho, hL =>
      simp at ho; subst ho
      refine wp_val (run_move _ _ p0) ⟨_, rfl, ?_, hx, ?_⟩
      · have := hargs (.tmp 0) (by rw [p0]; simp [Op.operands])
        rw [x0] at this
        rw [hsp]; exact this
      · rw [q0]
        exact ⟨hv.c63, hv.c65, hv.c76, hv.c97, hv.c98, hv.f1 (Ex.refl _) _ (by simp), hv.f3 (Ex.refl _) _ (by simp), hv.f5 (Ex.refl _) _ (by simp), hv.f6 (Ex.refl _) _ (by simp), hv.f8 (Ex.refl _) _ (by simp)⟩
    | 1, ho, hL =>
      simp at ho; subst ho
      refine wp_val (run_nil _ _ p1) ⟨_, rfl, by rw [hsp]; trivial, hx.trans (hal _), ?_⟩
      rw [q1]
      exact ⟨hv.c63, hv.c65, hv.c76, hv.c97, hv.c98, fun _ _ => ⟨w'.heap.size, put_same (d := 23) a _ (show (23 : Nat) < a.tmps.size by omega), hbs, heap_alloc_new w' _⟩, hv.f3 (hal _) _ (by simp), hv.f5 (hal _) _ (by simp), hv.f6 (hal _) _ (by simp), hv.f8 (hal _) _ (by simp)⟩
    | 2, ho, hL =>
      simp at ho; subst ho
      refine wp_val (run_move _ _ p2) ⟨_, rfl, ?_, hx, ?_⟩
      · have := hargs (.tmp 1) (by rw [p2]; simp [Op.operands])
        rw [x1] at this
        rw [hsp]; exact this
      · rw [q2]
        exact ⟨hv.c63, hv.c65, hv.c76, hv.c97, hv.c98, hv.f1 (Ex.refl _) _ (by simp), hv.f3 (Ex.refl _) _ (by simp), hv.f5 (Ex.refl _) _ (by simp), hv.f6 (Ex.refl _) _ (by simp), hv.f8 (Ex.refl _) _ (by simp)⟩
    | 3, ho, hL =>
      simp at ho; subst ho
      obtain ⟨g, g1, g2, g3⟩ := hv.v1 (dep_of d31 hdep) hL
      have hown : OwnC w' w.heap.size (.slice (some ⟨g, 0, none⟩) 0 0) [] := ⟨by simp [ccs], .inr ⟨g, 0, #[], rfl, g2, g3, Nat.le_refl _, by simp [maxLen], by simp, by simp [ccs]⟩⟩
      have h24 := hargs (.tmp 24) (by rw [p3]; simp [Op.operands, Call.operands])
      rw [x24] at h24
      refine wp_append_cells (base := w.heap.size) (.tmp 23) (.tmp 24) p3 _ [] (eval_tmp g1) hown aC _ cC C h24 rfl (hC.below hx) (by simp; omega) hbs ?_
      intro v2 w2 ho2 hg2
      have hx2 : Ex w w2 := step_belowC hx hbs hown hg2
      refine ⟨v2, rfl, by rw [hsp]; trivial, hx2, ?_⟩
      rw [q3]
      refine ⟨fun _ => rfl, hv.c65, hv.c76, hv.c97, hv.c98, fun _ h => (by simp [upd] at h), fun _ _ => ⟨v2, put_same (d := 25) a _ (show (25 : Nat) < a.tmps.size by omega), by simpa using ho2⟩, fun h5 h6 => ?_, fun h6 _ => ?_, fun h8 => ?_⟩
      · obtain ⟨g5, e1, e2⟩ := hv.v5 h5 h6
        refine ⟨g5, by rw [put_other a _ (by simp)]; exact e1, ?_⟩
        rw [hg2.block g5 (blk_lt e2) (fun e => ?_)]
        · exact e2
        · simp [Value.ownBlock] at e
          subst e
          rw [g3] at e2
          simp [ccs, cc] at e2
      · have h3 : L 3 = true := hv.c63 h6
        rw [hL] at h3
        cases h3
      · obtain ⟨g8, e1, e2, e3, e4⟩ := hv.v8 h8
        exact ⟨g8, by rw [put_other a _ (by simp)]; exact e1, e2, fun h => zat_grown (e3 h) hown hg2, fun h => zat_grown (e4 h) hown hg2⟩
    | 4, ho, hL =>
      simp at ho; subst ho
      have h5 := hargs (.tmp 5) (by rw [p4]; simp [Op.operands])
      rw [x5] at h5
      refine wp_val (run_load _ _ _ gc c p4 h5 (hc.below hx)) ⟨_, rfl, by rw [hsp]; rfl, hx, ?_⟩
      rw [q4]
      exact ⟨hv.c63, hv.c65, hv.c76, hv.c97, hv.c98, hv.f1 (Ex.refl _) _ (by simp), hv.f3 (Ex.refl _) _ (by simp), hv.f5 (Ex.refl _) _ (by simp), hv.f6 (Ex.refl _) _ (by simp), hv.f8 (Ex.refl _) _ (by simp)⟩
    | 5, ho, hL =>
      simp at ho; subst ho
      have h26 := hargs (.tmp 26) (by rw [p5]; simp [Op.operands])
      rw [x26] at h26
      refine wp_val (run_one _ _ _ c p5 h26) ⟨_, rfl, by rw [hsp]; trivial, hx.trans (hal _), ?_⟩
      rw [q5]
      exact ⟨hv.c63, fun _ => rfl, hv.c76, hv.c97, hv.c98, hv.f1 (hal _) _ (by simp), hv.f3 (hal _) _ (by simp), fun _ _ => ⟨w'.heap.size, put_same (d := 27) a _ (show (27 : Nat) < a.tmps.size by omega), heap_alloc_new w' _⟩, hv.f6 (hal _) _ (by simp), hv.f8 (hal _) _ (by simp)⟩
    | 6, ho, hL =>
      simp at ho; subst ho
      have l3 := dep_of d63 hdep
      have l5 := dep_of d65 hdep
      obtain ⟨v, g1, hown⟩ := hv.v3 l3 hL
      obtain ⟨g5, e1, e2⟩ := hv.v5 l5 hL
      have hr : RdC w' (some ⟨g5, 0, none⟩) 1 [c] := RdC.of_cells (Nat.le_refl _) (by unfold maxLen; omega) fun j u hu => by
        rw [cell_of_row _ g5 (0 + j) _ 52 (0, 0) e2, Nat.zero_add, List.getElem?_toArray]
        exact hu
      refine wp_append_cells (base := w.heap.size) (.tmp 25) (.tmp 27) p6 _ C (eval_tmp g1) hown _ _ 1 [c] (eval_tmp e1) rfl hr (by simp; omega) hbs ?_
      intro v2 w2 ho2 hg2
      have hx2 : Ex w w2 := step_belowC hx hbs hown hg2
      refine ⟨v2, rfl, by rw [hsp]; trivial, hx2, ?_⟩
      rw [q6]
      refine ⟨fun _ => l3, fun _ => l5, fun _ => rfl, hv.c97, hv.c98, fun _ h => ?_, fun _ h => (by simp [upd] at h), fun _ h => (by simp [upd] at h), fun _ _ => ⟨v2, put_same (d := 28) a _ (show (28 : Nat) < a.tmps.size by omega), ho2⟩, fun h8 => ?_⟩
      · have h' : L 3 = false := h
        rw [l3] at h'
        cases h'
      · obtain ⟨g8, e1, e2, e3, e4⟩ := hv.v8 h8
        exact ⟨g8, by rw [put_other a _ (by simp)]; exact e1, e2, fun h => zat_grown (e3 h) hown hg2, fun h => zat_grown (e4 h) hown hg2⟩
    | 7, ho, hL =>
      simp at ho; subst ho
      have l6 := dep_of d76 hdep
      obtain ⟨v, g1, hown⟩ := hv.v6 l6 hL
      obtain ⟨ad, cap, rfl, hr⟩ := hown.rd
      have h22 := hargs (.tmp 22) (by rw [p7]; simp [Op.operands, Call.operands])
      rw [x22] at h22
      have h22' : a.eval (.tmp 22) = .int .i64 K := h22
      have hrun : (execOp a.eval o7).run Try.prog w' = .ok (.enter 18 #[.int .i64 K, .slice ad (C ++ [c]).length cap]) w' := by
        have e : execOp a.eval o7 = callFunc 18 (#[] ++ #[Operand.tmp 22, Operand.tmp 28].map a.eval ++ #[]) := by unfold execOp; rw [p7]; rfl
        rw [e, run_enter Try.func18 (by kernel_rfl) rfl]
        simp [h22', eval_tmp g1]
      unfold Oper.wp
      rw [hrun]
      refine Calls.mono (hb ad cap w' hr) ?_
      rintro e w2 ⟨rfl, hx2⟩
      refine ⟨_, rfl, by rw [hsp]; rfl, hx.trans hx2, ?_⟩
      rw [q7]
      exact ⟨hv.c63, hv.c65, fun _ => l6, fun _ => rfl, hv.c98, hv.f1 hx2 _ (by simp), hv.f3 hx2 _ (by simp), hv.f5 hx2 _ (by simp), fun _ h => (by simp [upd] at h), hv.f8 hx2 _ (by simp)⟩
    | 8, ho, hL =>
      simp at ho; subst ho
      refine wp_val (zvar23.made _ _ _ p8) ⟨_, rfl, by rw [hsp]; trivial, hx.trans (hal _), ?_⟩
      rw [q8]
      refine ⟨hv.c63, hv.c65, hv.c76, hv.c97, fun _ => rfl, hv.f1 (hal _) _ (by simp), hv.f3 (hal _) _ (by simp), hv.f5 (hal _) _ (by simp), hv.f6 (hal _) _ (by simp), fun _ => ⟨w'.heap.size, put_same (d := 8) a _ (show (8 : Nat) < a.tmps.size by omega), hbs, fun h => ?_, fun _ => ZAt.new w' Z.zero 23⟩⟩
      have h8 : L 8 = true := hv.c98 h
      rw [hL] at h8
      cases h8
    | 9, ho, hL =>
      simp at ho; subst ho
      have l7 := dep_of d97 hdep
      have l8 := dep_of d98 hdep
      have l6 := hv.c76 l7
      have l3 := hv.c63 l6
      obtain ⟨g, g1, g2, _, g4⟩ := hv.v8 l8
      have h29 := hargs (.tmp 29) (by rw [p9]; simp [Op.operands])
      rw [x29] at h29
      refine wp_skip (zvar23.put _ _ _ _ _ g Z.zero B p9 (eval_tmp g1) h29 (g4 hL)) ⟨undef, rfl, by rw [hsp]; trivial, Below.zset hx g2 B, ?_⟩
      rw [q9]
      refine ⟨hv.c63, hv.c65, hv.c76, fun _ => l7, fun _ => l8, fun _ h => ?_, fun _ h => ?_, fun _ h => ?_, fun _ h => ?_, fun _ => ⟨g, g1, g2, fun _ => (g4 hL).store B, fun h => (by simp [upd] at h)⟩⟩
      · have h' : L 3 = false := h
        rw [l3] at h'; cases h'
      · have h' : L 6 = false := h
        rw [l6] at h'; cases h'
      · have h' : L 6 = false := h
        rw [l6] at h'; cases h'
      · have h' : L 7 = false := h
        rw [l7] at h'; cases h'
    | k + 10, ho, hL => simp at ho
  · intro w' hx
    refine later_mono ?_ _ _ _ (hF w' hx)
    rintro a' h ⟨L, hL, hV⟩
    subst hl
    obtain ⟨g, g1, _, g3, _⟩ := hV.v8 (hL 8 (by simp))
    exact h g (g3 (hL 9 (by simp))) g1
end Rg
end Go.Proofs.Ytnfbmffafclaaaa
