/-
  'x.At = append(x.At, l[i])', x a variable for a struct: a region of ten operations whose order is open.
-/
import Derived.Test.YtaehchaimlklnaaFree
import Derived.Test.YtaehchaimlklnaaIxat
namespace Go.Proofs.Ytaehchaimlklnaa
open Go.RowKit
set_option linter.unusedVariables false
set_option linter.unusedSimpArgs false
abbrev OwnI (w : World) (base : Nat) (v : Value) (l : List Int) : Prop := OwnR 2 z64 w base v l
theorem ownI_block {w : World} {base : Nat} {v : Value} {l : List Int} {k : Nat} (h : OwnI w base v l) (hk : v.ownBlock = some k) : ∃ cur, w.heap[k]? = some (.cells cur 2 (0, 0)) := by
  rcases h.2 with ⟨rfl, _⟩ | ⟨g, cap, cur, rfl, hb, hg, r⟩
  · simp [Value.ownBlock] at hk
  · simp [Value.ownBlock] at hk
    subst hk
    exact ⟨cur, hg⟩
theorem xat_grown {w w' : World} {base g : Nat} {v u : Value} {l : List Int} {r m : Int} {t : TypeId} (ht : t ≠ 2) (hz : XAt w g r m u t) (ho : OwnI w base v l) (hg : w.grownBy w' v.ownBlock) : XAt w' g r m u t := by
  have hz' := hz
  unfold XAt at hz ⊢
  rw [hg.block g (Rg.blk_lt hz) (fun e => ?_)]
  · exact hz
  · obtain ⟨cur, hc⟩ := ownI_block ho e.symm
    rw [hz] at hc
    simp at hc
    exact ht hc.2
theorem ownI_other {w : World} {base g k : Nat} {v u y : Value} {l : List Int} {r m : Int} {t : TypeId} (ht : t ≠ 2) (h : OwnI w base v l) (hx : XAt w g r m y t) : OwnI (w.setCell ⟨g, k, none⟩ u) base v l := by
  obtain ⟨h1, h2⟩ := h
  refine ⟨h1, ?_⟩
  rcases h2 with h2 | ⟨b, cap, cur, hv, hb, hr, r⟩
  · exact .inl h2
  · refine .inr ⟨b, cap, cur, hv, hb, ?_, r⟩
    rw [heap_setCell_other w _ b u ?_]
    · exact hr
    · intro e
      have e' : b = g := e
      subst e'
      unfold XAt at hx
      rw [hr] at hx
      simp at hx
      exact ht hx.2.symm
namespace Rg
/-- What is so at each listing. -/
structure PushV (base g4 g2 : Nat) (r m r2 m2 : Int) (vA v2 : Value) (A : List Int) (x : Int) (t : TypeId) (L : Nat → Bool) (a : Act) (w : World) : Prop where
  c71 : L 7 = true → L 1 = true
  c76 : L 7 = true → L 6 = true
  c97 : L 9 = true → L 7 = true
  own : L 7 = false → OwnI w base vA A
  v6 : L 6 = true → L 7 = false → ∃ g, a.tmps[43]? = some (.slice (some ⟨g, 0, none⟩) 1 1) ∧ w.heap[g]? = some (.cells #[.int .i64 x] 2 (0, 0))
  v7 : L 7 = true → L 9 = false → ∃ v, a.tmps[44]? = some v ∧ OwnI w base v (A ++ [x])
  xa : L 9 = false → XAt w g4 r m vA t
  xc : L 9 = true → ∃ v, XAt w g4 r m v t ∧ OwnI w base v (A ++ [x])
  x2 : XAt w g2 r2 m2 v2 t
section
variable {base g4 g2 : Nat} {r m r2 m2 : Int} {vA v2 : Value} {A : List Int} {x : Int} {t : TypeId} {L : Nat → Bool} {a : Act} {w w' : World}
/-- Another slot is written, memory is only added, nothing that counts is listed. -/
theorem PushV.put (h : PushV base g4 g2 r m r2 m2 vA v2 A x t L a w) (hx : Ex w w') {d : Option Tmp} (v : Value) (h43 : d ≠ some 43) (h44 : d ≠ some 44) (i : Nat) (hi : i = 0 ∨ i = 1 ∨ i = 2 ∨ i = 3 ∨ i = 4 ∨ i = 5 ∨ i = 8) : PushV base g4 g2 r m r2 m2 vA v2 A x t (upd i L) (a.put d v) w' := by
  have e6 : upd i L 6 = L 6 := by simp only [upd]; rw [if_neg (by omega)]
  have e7 : upd i L 7 = L 7 := by simp only [upd]; rw [if_neg (by omega)]
  have e9 : upd i L 9 = L 9 := by simp only [upd]; rw [if_neg (by omega)]
  have e1 : L 1 = true → upd i L 1 = true := fun h => by
    simp only [upd]
    split
    · rfl
    · exact h
  refine ⟨?_, ?_, ?_, ?_, ?_, ?_, ?_, ?_, h.x2.below hx⟩
  · rw [e7]; exact fun h1 => e1 (h.c71 h1)
  · rw [e7, e6]; exact h.c76
  · rw [e9, e7]; exact h.c97
  · rw [e7]; exact fun h1 => (h.own h1).later hx
  · rw [e6, e7]
    intro h1 h2
    obtain ⟨g, q1, q2⟩ := h.v6 h1 h2
    exact ⟨g, by rw [put_other a v h43]; exact q1, blk_below q2 hx⟩
  · rw [e7, e9]
    intro h1 h2
    obtain ⟨u, q1, q2⟩ := h.v7 h1 h2
    exact ⟨u, by rw [put_other a v h44]; exact q1, q2.later hx⟩
  · rw [e9]; exact fun h1 => (h.xa h1).below hx
  · rw [e9]
    intro h1
    obtain ⟨u, q1, q2⟩ := h.xc h1
    exact ⟨u, q1.below hx, q2.later hx⟩
end
theorem run_one2 {o : Oper} (ρ : Operand → Value) (w : World) (x : Operand) (n : Int) (h : o.op = .buildSlice 22 1 #[(0, x)]) (hx : ρ x = .int .i64 n) : (execOp ρ o).run Try.prog w = .ok (.value (.slice (some ⟨w.heap.size, 0, none⟩) 1 1)) (w.alloc (.cells #[.int .i64 n] 2)) := by
  simp [execOp, h, hx, go_sem]
theorem run_field {o : Oper} (ρ : Operand → Value) (w : World) (p : Operand) (g : Nat) (t : TypeId) (ht : t = 24 ∨ t = 28) (h : o.op = .fieldAddr t p 2) (hp : ρ p = .pointer (some ⟨g, 0, none⟩)) : (execOp ρ o).run Try.prog w = .ok (.value (.pointer (some ⟨g, 2, none⟩))) w := by
  rcases ht with rfl | rfl
  · simp [execOp, h, hp, go_sem]
  · simp [execOp, h, hp, go_sem]
theorem run_loadS {o : Oper} (ρ : Operand → Value) (w : World) (p : Operand) (ad : Addr) (a : Option Addr) (n c : Nat) (h : o.op = .load 22 p) (hp : ρ p = .pointer (some ad)) (hc : w.cell? ad = some (.slice a n c)) : (execOp ρ o).run Try.prog w = .ok (.value (.slice a n c)) w := by
  simp [execOp, h, hp, hc, go_sem]
theorem run_storeS {o : Oper} (ρ : Operand → Value) (w : World) (p y : Operand) (ad : Addr) (a : Option Addr) (n c : Nat) (u : Value) (h : o.op = .store 22 p y) (hp : ρ p = .pointer (some ad)) (hy : ρ y = .slice a n c) (hc : w.cell? ad = some u) (hf : w.frozen? ad = false) : (execOp ρ o).run Try.prog w = .ok .skip (w.setCell ad (.slice a n c)) := by
  simp [execOp, h, hp, hy, hc, hf, go_sem]
theorem wp_append_one {o : Oper} {a : Act} {w : World} {base : Nat} {K : Act → World → Prop} {Q : Exit → Act → World → Prop} (s y : Operand)
    (ho : o.op = .call { callee := .builtin .append, args := #[s, y], argTypes := #[22, 22] })
    (v : Value) (xs : List Int) (hs : a.eval s = v) (hown : OwnI w base v xs) (g : Nat) (x : Int) (hy : a.eval y = .slice (some ⟨g, 0, none⟩) 1 1) (hg : w.heap[g]? = some (.cells #[.int .i64 x] 2 (0, 0)))
    (h63 : xs.length ≤ 1000000) (hbase : base ≤ w.heap.size)
    (h : ∀ v' w', OwnI w' base v' (xs ++ [x]) → w.grownBy w' v.ownBlock → K (a.put o.dst v') w') : o.wp Try.prog a w K Q := by
  obtain ⟨i0, hi, hz0, hz1, hz2⟩ := info_parts Try.info2
  refine wp_append_own _ s y 22 ho base 2 i0 _ 1 8 Try.underlying22 hi hz0 hz1 hz2 rfl (by decide) v xs.length (xs.map z64) hs hown ⟨g, 0, none⟩ 1 1 [.int .i64 x] hy rfl ?_ ?_ (by unfold maxLen; omega) (by omega) hbase ?_
  · intro j u hu
    match j, hu with
    | 0, hu =>
      simp at hu
      subst hu
      rw [add_none, cell_of_row w g (0 + 0) _ 2 (0, 0) hg]
      rfl
  · intro u hu
    simp at hu
    subst hu
    rfl
  · intro v' w' ho' hg' _
    refine h v' w' ?_ hg'
    show w'.ownsRow base 2 1 v' (xs ++ [x]).length ((xs ++ [x]).map z64)
    rw [List.map_append, List.length_append]
    exact ho'
abbrev T2 : Spec := .inr (fun _ _ => True)
theorem run_index {o : Oper} (ρ : Operand → Value) (w : World) (p i : Operand) (b off n c k : Nat) (h : o.op = .indexAddr 22 p i) (hp : ρ p = .slice (some ⟨b, off, none⟩) n c) (hi : ρ i = .int .i64 k) (hk : k < n) : (execOp ρ o).run Try.prog w = .ok (.value (.pointer (some ⟨b, off + k, none⟩))) w := by
  have h1 : (k : Int) < n := by omega
  have h2 : ¬ (k : Int) < 0 := by omega
  simp [execOp, h, hp, hi, go_sem, h1, h2, hk]
theorem run_loadI {o : Oper} (ρ : Operand → Value) (w : World) (p : Operand) (ad : Addr) (x : Int) (h : o.op = .load 2 p) (hp : ρ p = .pointer (some ad)) (hc : w.cell? ad = some (.int .i64 x)) : (execOp ρ o).run Try.prog w = .ok (.value (.int .i64 x)) w := by
  simp [execOp, h, hp, hc, go_sem]
theorem upd_ne {i j : Nat} (h : i ≠ j) (L : Nat → Bool) : upd i L j = L j := by simp [upd, h]
set_option maxHeartbeats 4000000 in
theorem wp_push {id : Nat} {Q : Exit → Act → World → Prop} {w wE : World} {a0 : Act} {l : List Oper} (n : Nat) (hm : Try.prog.follows .mixedOrders = true) (t : TypeId) (ht : t = 24 ∨ t = 28) (g4 g2 : Nat) (r m r2 m2 : Int) (aA : Option Addr) (nA cA : Nat) (v2 : Value) (A : List Int) (aL : Option Addr) (nL cL k : Nat) (X : List Int) (bL oL : Nat)
    (o0 o1 o2 o3 o4 o5 o6 o7 o8 o9 : Oper) (hl : l = [o0, o1, o2, o3, o4, o5, o6, o7, o8, o9])
    (hn : a0.tmps.size = n) (hn9 : 45 < n) (hs : sound l.toArray n = true) (hng : l.all (fun o => o.guard.isNone) = true)
    (p0 : o0.op = .fieldAddr t (.tmp 4) 2) (q0 : o0.dst = some 37) (p1 : o1.op = .load 22 (.tmp 37)) (q1 : o1.dst = some 38) (p2 : o2.op = .move (.tmp 0)) (q2 : o2.dst = some 39) (p3 : o3.op = .move (.tmp 5)) (q3 : o3.dst = some 40)
    (p4 : o4.op = .indexAddr 22 (.tmp 39) (.tmp 40)) (q4 : o4.dst = some 41) (p5 : o5.op = .load 2 (.tmp 41)) (q5 : o5.dst = some 42) (p6 : o6.op = .buildSlice 22 1 #[(0, .tmp 42)]) (q6 : o6.dst = some 43)
    (p7 : o7.op = .call { callee := .builtin .append, args := #[.tmp 38, .tmp 43], argTypes := #[22, 22] }) (q7 : o7.dst = some 44) (p8 : o8.op = .fieldAddr t (.tmp 4) 2) (q8 : o8.dst = some 45) (p9 : o9.op = .store 22 (.tmp 45) (.tmp 44)) (q9 : o9.dst = none)
    (d71 : o7.after.any (fun e => Region.binds .any e && e.on == 1) = true) (d76 : o7.after.any (fun e => Region.binds .any e && e.on == 6) = true) (d97 : o9.after.any (fun e => Region.binds .any e && e.on == 7) = true)
    (specs : List Spec) (hsp : specs = [.inl (.pointer (some ⟨g4, 2, none⟩)), .inl (.slice aA nA cA), .inl (.slice aL nL cL), .inl (.int .i64 k), .inl (.pointer (some ⟨bL, oL + k, none⟩)), .inl (.int .i64 (Tk.at0 X k)), T2, T2, .inl (.pointer (some ⟨g4, 2, none⟩)), T2])
    (x4 : argS l.toArray specs a0 (.tmp 4) = .inl (.pointer (some ⟨g4, 0, none⟩))) (x0 : argS l.toArray specs a0 (.tmp 0) = .inl (.slice aL nL cL)) (x5 : argS l.toArray specs a0 (.tmp 5) = .inl (.int .i64 k))
    (x37 : argS l.toArray specs a0 (.tmp 37) = .inl (.pointer (some ⟨g4, 2, none⟩))) (x38 : argS l.toArray specs a0 (.tmp 38) = .inl (.slice aA nA cA)) (x39 : argS l.toArray specs a0 (.tmp 39) = .inl (.slice aL nL cL)) (x40 : argS l.toArray specs a0 (.tmp 40) = .inl (.int .i64 k)) (x41 : argS l.toArray specs a0 (.tmp 41) = .inl (.pointer (some ⟨bL, oL + k, none⟩))) (x42 : argS l.toArray specs a0 (.tmp 42) = .inl (.int .i64 (Tk.at0 X k))) (x45 : argS l.toArray specs a0 (.tmp 45) = .inl (.pointer (some ⟨g4, 2, none⟩)))
    (haL : aL = some ⟨bL, oL, none⟩) (hnL : nL = X.length) (hk : k < X.length) (hX : Rd z64 wE aL cL X) (hE : Below wE.heap.size wE w) (h4 : wE.heap.size ≤ g4) (h42 : g4 ≠ g2)
    (hx4 : XAt w g4 r m (.slice aA nA cA) t) (hx2 : XAt w g2 r2 m2 v2 t) (hA : OwnI w wE.heap.size (.slice aA nA cA) A) (hAl : A.length ≤ 1000000)
    (hF : ∀ (w' : World), Below wE.heap.size wE w' → later w' (fun a' => ∀ v, XAt w' g4 r m v t → OwnI w' wE.heap.size v (A ++ [Tk.at0 X k]) → XAt w' g2 r2 m2 v2 t → Q .normal a' w') l specs a0) : (Code.region id l.toArray true).wp Try.prog Q a0 w := by
  have hst : Stands (fun _ _ => True) specs := by rw [hsp]; exact ⟨fun _ _ _ _ _ => trivial, fun _ _ _ _ _ => trivial, fun _ _ _ _ _ => trivial, trivial⟩
  have htn : t ≠ 2 := by rcases ht with rfl | rfl <;> decide
  have hdr : Ex w w.drew := Ex.drew w
  refine wp_rows_free (PushV wE.heap.size g4 g2 r m r2 m2 (.slice aA nA cA) v2 A (Tk.at0 X k) t) (fun w' => Below wE.heap.size wE w') specs n hm hn hs hst hng hE.drew ?_ ?_ ?_
  · refine ⟨fun h => (by cases h), fun h => (by cases h), fun h => (by cases h), fun _ => hA.later hdr, fun h => (by cases h), fun h => (by cases h), fun _ => hx4.below hdr, fun h => (by cases h), hx2.below hdr⟩
  · intro i o L a w' ho hL hdep hsz hx hargs hv
    subst hl
    have hbs : wE.heap.size ≤ w'.heap.size := hx.size
    have hal : ∀ ob, Ex w' (w'.alloc ob) := fun ob => (Below.refl _ _).alloc (Nat.le_refl _) ob
    match i, ho, hL with
    | 0, ho, hL =>
      simp at ho; subst ho
      have h := hargs (.tmp 4) (by rw [p0]; simp [Op.operands])
      rw [x4] at h
      refine wp_val (run_field _ _ _ g4 t ht p0 h) ⟨_, rfl, by rw [hsp]; rfl, hx, ?_⟩
      rw [q0]
      exact hv.put (Ex.refl _) _ (by simp) (by simp) 0 (by omega)
    | 1, ho, hL =>
      simp at ho; subst ho
      have h := hargs (.tmp 37) (by rw [p1]; simp [Op.operands])
      rw [x37] at h
      have l7 : L 7 = false := by
        cases e : L 7 with
        | false => rfl
        | true => have := hv.c71 e; rw [hL] at this; cases this
      have l9 : L 9 = false := by
        cases e : L 9 with
        | false => rfl
        | true => have := hv.c97 e; rw [l7] at this; cases this
      refine wp_val (run_loadS _ _ _ _ aA nA cA p1 h (hv.xa l9).all.2.2) ⟨_, rfl, by rw [hsp]; rfl, hx, ?_⟩
      rw [q1]
      exact hv.put (Ex.refl _) _ (by simp) (by simp) 1 (by omega)
    | 2, ho, hL =>
      simp at ho; subst ho
      refine wp_val (run_move _ _ p2) ⟨_, rfl, ?_, hx, ?_⟩
      · have := hargs (.tmp 0) (by rw [p2]; simp [Op.operands])
        rw [x0] at this
        rw [hsp]; exact this
      · rw [q2]
        exact hv.put (Ex.refl _) _ (by simp) (by simp) 2 (by omega)
    | 3, ho, hL =>
      simp at ho; subst ho
      refine wp_val (run_move _ _ p3) ⟨_, rfl, ?_, hx, ?_⟩
      · have := hargs (.tmp 5) (by rw [p3]; simp [Op.operands])
        rw [x5] at this
        rw [hsp]; exact this
      · rw [q3]
        exact hv.put (Ex.refl _) _ (by simp) (by simp) 3 (by omega)
    | 4, ho, hL =>
      simp at ho; subst ho
      have h := hargs (.tmp 39) (by rw [p4]; simp [Op.operands])
      rw [x39, haL] at h
      have h' := hargs (.tmp 40) (by rw [p4]; simp [Op.operands])
      rw [x40] at h'
      refine wp_val (run_index _ _ _ _ bL oL nL cL k p4 h h' (by omega)) ⟨_, rfl, by rw [hsp]; rfl, hx, ?_⟩
      rw [q4]
      exact hv.put (Ex.refl _) _ (by simp) (by simp) 4 (by omega)
    | 5, ho, hL =>
      simp at ho; subst ho
      have h := hargs (.tmp 41) (by rw [p5]; simp [Op.operands])
      rw [x41] at h
      obtain ⟨b, off, e, hc⟩ := (hX.below hx).at0 hk
      rw [haL] at e
      cases e
      refine wp_val (run_loadI _ _ _ _ _ p5 h hc) ⟨_, rfl, by rw [hsp]; rfl, hx, ?_⟩
      rw [q5]
      exact hv.put (Ex.refl _) _ (by simp) (by simp) 5 (by omega)
    | 6, ho, hL =>
      simp at ho; subst ho
      have h := hargs (.tmp 42) (by rw [p6]; simp [Op.operands])
      rw [x42] at h
      have l7 : L 7 = false := by
        cases e : L 7 with
        | false => rfl
        | true => have := hv.c76 e; rw [hL] at this; cases this
      refine wp_val (run_one2 _ _ _ _ p6 h) ⟨_, rfl, by rw [hsp]; trivial, hx.alloc hbs _, ?_⟩
      rw [q6]
      refine ⟨hv.c71, fun _ => rfl, hv.c97, fun h => (hv.own h).later (hal _), fun _ _ => ⟨w'.heap.size, put_same (d := 43) a _ (show (43 : Nat) < a.tmps.size by omega), heap_alloc_new w' _⟩, fun h => ?_, fun h => (hv.xa h).below (hal _), fun h => ?_, hv.x2.below (hal _)⟩
      · rw [upd_ne (by decide), l7] at h; cases h
      · have h' : L 9 = true := h
        have := hv.c97 h'
        rw [l7] at this; cases this
    | 7, ho, hL =>
      simp at ho; subst ho
      have l1 := dep_of d71 hdep
      have l6 := dep_of d76 hdep
      have l9 : L 9 = false := by
        cases e : L 9 with
        | false => rfl
        | true => have := hv.c97 e; rw [hL] at this; cases this
      have h := hargs (.tmp 38) (by rw [p7]; simp [Op.operands, Call.operands])
      rw [x38] at h
      obtain ⟨g, e1, e2⟩ := hv.v6 l6 hL
      refine wp_append_one (base := wE.heap.size) (.tmp 38) (.tmp 43) p7 _ A h (hv.own hL) g _ (eval_tmp e1) e2 hAl hbs ?_
      intro v9 w9 ho9 hg9
      refine ⟨v9, rfl, by rw [hsp]; trivial, step_belowR hx hbs (hv.own hL) hg9, ?_⟩
      rw [q7]
      refine ⟨fun _ => l1, fun _ => l6, fun _ => rfl, fun h => (by simp [upd] at h), fun _ h => (by simp [upd] at h), fun _ _ => ⟨v9, put_same (d := 44) a _ (show (44 : Nat) < a.tmps.size by omega), ho9⟩, fun _ => xat_grown htn (hv.xa l9) (hv.own hL) hg9, fun h => ?_, xat_grown htn hv.x2 (hv.own hL) hg9⟩
      have h' : L 9 = true := h
      rw [l9] at h'; cases h'
    | 8, ho, hL =>
      simp at ho; subst ho
      have h := hargs (.tmp 4) (by rw [p8]; simp [Op.operands])
      rw [x4] at h
      refine wp_val (run_field _ _ _ g4 t ht p8 h) ⟨_, rfl, by rw [hsp]; rfl, hx, ?_⟩
      rw [q8]
      exact hv.put (Ex.refl _) _ (by simp) (by simp) 8 (by omega)
    | 9, ho, hL =>
      simp at ho; subst ho
      have l7 := dep_of d97 hdep
      have l1 := hv.c71 l7
      have l6 := hv.c76 l7
      have h := hargs (.tmp 45) (by rw [p9]; simp [Op.operands])
      rw [x45] at h
      obtain ⟨v, e1, e2⟩ := hv.v7 l7 hL
      have hxa := hv.xa hL
      obtain ⟨aV, cV, hvv, _⟩ := e2.rd
      subst hvv
      refine wp_skip (run_storeS _ _ _ _ _ aV _ cV _ p9 h (eval_tmp e1) hxa.all.2.2 hxa.fro.2.2) ⟨undef, rfl, by rw [hsp]; trivial, Below.setCell hx (p := ⟨g4, 2, none⟩) h4 _, ?_⟩
      rw [q9]
      refine ⟨fun _ => l1, fun _ => l6, fun _ => l7, fun h => ?_, fun _ h => ?_, fun _ h => (by simp [upd] at h), fun h => (by simp [upd] at h), fun _ => ⟨_, hxa.set2 _, ownI_other htn e2 hxa⟩, hv.x2.other (Ne.symm h42)⟩
      · have h' : L 7 = false := h
        rw [l7] at h'; cases h'
      · have h' : L 7 = false := h
        rw [l7] at h'; cases h'
    | k + 10, ho, hL => simp at ho
  · intro w' hx
    refine later_mono ?_ _ _ _ (hF w' hx)
    rintro a' h ⟨L, hL, hV⟩
    subst hl
    obtain ⟨v, q1, q2⟩ := hV.xc (hL 9 (by simp))
    exact h v q1 q2 hV.x2
end Rg
end Go.Proofs.Ytaehchaimlklnaa
