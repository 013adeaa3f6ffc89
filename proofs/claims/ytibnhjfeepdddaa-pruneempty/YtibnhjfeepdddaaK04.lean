/-
  'append(append([]T{}, a...), x)' in a region whose order is open: five operations that make memory or write it, all others quiet. The document's own Sort.
-/
import Derived.Test.YtibnhjfeepdddaaM19
import Derived.Test.YtibnhjfeepdddaaM10
import Derived.Test.YtibnhjfeepdddaaK03
namespace Go.Proofs.Ytibnhjfeepdddaa
open Go.RowKit
set_option linter.unusedVariables false
set_option linter.unusedSimpArgs false
namespace Rg.Fr
/-- Where the five stand, and which slots they write. -/
structure Five where
 iE : Nat
 iA : Nat
 iB : Nat
 iC : Nat
 iS : Nat
 dE : Nat
 dA : Nat
 dB : Nat
 dC : Nat
 dS : Nat
abbrev Five.sp (f : Five) (i : Nat) : Bool := i == f.iE || i == f.iA || i == f.iB || i == f.iC || i == f.iS
section
variable {α : Type} {k : Nat} {fl : α → List Value} {t : TypeId}
/-- What is so at each listing. -/
structure CatV (t : TypeId) (k : Nat) (fl : α → List Value) (f : Five) (base : Nat) (xs : List α) (x : α) (L : Nat → Bool) (a : Act) (w : World) : Prop where
 ea : L f.iA = true → L f.iE = true
 ca : L f.iC = true → L f.iA = true
 cb : L f.iC = true → L f.iB = true
 sc : L f.iS = true → L f.iC = true
 vE : L f.iE = true → L f.iA = false → ∃ g, a.tmps[f.dE]? = some (.slice (some ⟨g, 0, none⟩) 0 0) ∧ OwnW t k fl w base (.slice (some ⟨g, 0, none⟩) 0 0) []
 vA : L f.iA = true → L f.iC = false → ∃ v, a.tmps[f.dA]? = some v ∧ OwnW t k fl w base v xs
 vB : L f.iB = true → L f.iC = false → ∃ g, a.tmps[f.dB]? = some (.slice (some ⟨g, 0, none⟩) 1 1) ∧ RdW k fl w (some ⟨g, 0, none⟩) 1 [x] ∧ (L f.iE = true → L f.iA = false → a.tmps[f.dE]? ≠ some (.slice (some ⟨g, 0, none⟩) 0 0)) ∧ (L f.iA = true → ∀ v, a.tmps[f.dA]? = some v → v.ownBlock ≠ some g)
 vC : L f.iC = true → L f.iS = false → ∃ v, a.tmps[f.dC]? = some v ∧ OwnW t k fl w base v (xs ++ [x])
 vS : L f.iS = true → ∃ v, a.tmps[f.dS]? = some v ∧ OwnW t k fl w base v (xs ++ [x])
theorem upd_ne {i j : Nat} (h : i ≠ j) (L : Nat → Bool) : upd i L j = L j := by simp [upd, h]
theorem upd_self (i : Nat) (L : Nat → Bool) : upd i L i = true := by simp [upd]
/-- A quiet operation. -/
theorem CatV.quiet {f : Five} {base : Nat} {xs : List α} {x : α} {L : Nat → Bool} {a : Act} {w : World} (h : CatV t k fl f base xs x L a w) {i : Nat} (hi : f.sp i = false) {d : Option Tmp} (v : Value) (hd : d ≠ some f.dE ∧ d ≠ some f.dA ∧ d ≠ some f.dB ∧ d ≠ some f.dC ∧ d ≠ some f.dS) : CatV t k fl f base xs x (upd i L) (a.put d v) w := by
 simp only [Five.sp, Bool.or_eq_false_iff, beq_eq_false_iff_ne] at hi
 obtain ⟨⟨⟨⟨h1, h2⟩, h3⟩, h4⟩, h5⟩ := hi
 obtain ⟨q1, q2, q3, q4, q5⟩ := hd
 obtain ⟨a1, a2, a3, a4, a5, a6, a7, a8, a9⟩ := h
 refine ⟨?_, ?_, ?_, ?_, ?_, ?_, ?_, ?_, ?_⟩
 ·rw [upd_ne h1, upd_ne h2]; exact a1
 ·rw [upd_ne h4, upd_ne h2]; exact a2
 ·rw [upd_ne h4, upd_ne h3]; exact a3
 ·rw [upd_ne h5, upd_ne h4]; exact a4
 ·rw [upd_ne h1, upd_ne h2, put_other a v q1]; exact a5
 ·rw [upd_ne h2, upd_ne h4, put_other a v q2]; exact a6
 ·rw [upd_ne h3, upd_ne h4, upd_ne h1, upd_ne h2, put_other a v q1, put_other a v q2, put_other a v q3]; exact a7
 ·rw [upd_ne h4, upd_ne h5, put_other a v q4]; exact a8
 ·rw [upd_ne h5, put_other a v q5]; exact a9
/-- 'append' to what a call owns, as one run. -/
theorem run_app (hk : ∀ x, (fl x).length = k) (h1 : ∀ x, ∀ u ∈ fl x, u.oneCell' = true) (S : TypeId) (z : Value) (B : Nat) (hS : Try.prog.underlying S = some (.slice t)) (hinfo : (Try.prog.info? t).map (fun i => (i.zero, i.size, i.bytes)) = some (some z, k, B)) (hk0 : 0 < k) (hzc : z.cells.size = k)
  {w : World} {base : Nat} {v : Value} {xs : List α} (hown : OwnW t k fl w base v xs) {ad : Addr} {n c : Nat} {l : List α} (hn : n = l.length) (hB : RdW k fl w (some ad) c l) (h63 : xs.length + l.length ≤ maxLen) (hby : (xs.length + l.length) * B ≤ 140737488355328) (hbase : base ≤ w.heap.size) (ty : TypeId) :
  ∃ v' w', (Builtin.append_ #[S, S] ty #[v, .slice (some ad) n c]).run Try.prog w = .ok v' w' ∧ OwnW t k fl w' base v' (xs ++ l) ∧ w.grownBy w' v.ownBlock ∧ (v'.ownBlock = v.ownBlock ∨ v'.ownBlock = some w.heap.size) := by
 subst hn
 have hone : ∀ u ∈ flat fl l, u.oneCell' = true := by
  intro u hu
  obtain ⟨c, _, hc⟩ := List.mem_flatMap.1 hu
  exact h1 c u hc
 obtain ⟨i0, hi, hz0, hz1, hz2⟩ := info_parts hinfo
 obtain ⟨v', w', hr, ho, hg, _, hat⟩ := run_append_own_at (P := Try.prog) w base S ty t i0 z k B hS hi hz0 hz1 hz2 hzc hk0 v xs.length (flat fl xs) hown ad l.length c (flat fl l) (by rw [flat_len hk]) (hB.cells hk) hone h63 hby hbase
 refine ⟨v', w', hr, ?_, hg, hat⟩
 show w'.ownsRow base t k v' (xs ++ l).length (flat fl (xs ++ l))
 rw [flat_append, List.length_append]
 exact ho
theorem run_app' (hk : ∀ x, (fl x).length = k) (h1 : ∀ x, ∀ u ∈ fl x, u.oneCell' = true) (S : TypeId) (z : Value) (B : Nat) (hS : Try.prog.underlying S = some (.slice t)) (hinfo : (Try.prog.info? t).map (fun i => (i.zero, i.size, i.bytes)) = some (some z, k, B)) (hk0 : 0 < k) (hzc : z.cells.size = k)
  {w : World} {base : Nat} {v : Value} {xs : List α} (hown : OwnW t k fl w base v xs) {p : Option Addr} {n c : Nat} {l : List α} (hn : n = l.length) (hB : RdW k fl w p c l) (h63 : xs.length + l.length ≤ maxLen) (hby : (xs.length + l.length) * B ≤ 140737488355328) (hbase : base ≤ w.heap.size) (ty : TypeId) :
  ∃ v' w', (Builtin.append_ #[S, S] ty #[v, .slice p n c]).run Try.prog w = .ok v' w' ∧ OwnW t k fl w' base v' (xs ++ l) ∧ w.grownBy w' v.ownBlock ∧ (v'.ownBlock = v.ownBlock ∨ v'.ownBlock = some w.heap.size) := by
 cases p with
 | some ad => exact run_app hk h1 S z B hS hinfo hk0 hzc hown hn hB h63 hby hbase ty
 | none =>
  have hc := hB.2.2.1 rfl
  have hl : l = [] := List.eq_nil_of_length_eq_zero (by have := hB.1; omega)
  subst hl
  subst hc
  subst hn
  obtain ⟨i0, hi, _⟩ := info_parts hinfo
  exact ⟨v, w, run_append_owned_none (P := Try.prog) (w := w) base S ty t i0 k hS hi v xs.length (flat fl xs) hown, by simpa using hown, World.grownBy.refl w _, .inl rfl⟩
theorem run_append' {o : Oper} (ρ : Operand → Value) (w w' : World) (p q : Operand) (S : TypeId) (x y m : Value) (h : o.op = .call { callee := .builtin .append, args := #[p, q], argTypes := #[S, S] }) (hp : ρ p = x) (hq : ρ q = y) (hm : (Builtin.append_ #[S, S] o.type #[x, y]).run Try.prog w = .ok m w') : (execOp ρ o).run Try.prog w = .ok (.value m) w' := by
 unfold execOp
 simp only [h, resolve, invoke, builtin, Sem.run_bind, Sem.run_pure, Result.andThen_ok, List.map_toArray, List.map_cons, List.map_nil, hp, hq, hm]
abbrev T2 : Spec := .inr (fun _ _ => True)
set_option maxHeartbeats 4000000 in
theorem wp_cat (hk : ∀ x, (fl x).length = k) (h1 : ∀ x, ∀ u ∈ fl x, u.oneCell' = true) (S : TypeId) (z : Value) (B : Nat) (hS : Try.prog.underlying S = some (.slice t)) (hinfo : (Try.prog.info? t).map (fun i => (i.zero, i.size, i.bytes)) = some (some z, k, B)) (hk0 : 0 < k) (hzc : z.cells.size = k) (hB2 : B ≤ 100)
  {id : Nat} {Q : Exit → Act → World → Prop} {w : World} {a0 : Act} {l : List Oper} (f : Five) (n : Nat) (hm : Try.prog.follows .mixedOrders = true) (hn : a0.tmps.size = n) (hs : sound l.toArray n = true) (hng : l.all (fun o => o.guard.isNone) = true)
  (hI : [f.iE, f.iA, f.iB, f.iC, f.iS].Nodup) (hD : [f.dE, f.dA, f.dB, f.dC, f.dS].Nodup) (hDn : f.dE < n ∧ f.dA < n ∧ f.dB < n ∧ f.dC < n ∧ f.dS < n)
  (oE oA oB oC oS : Oper) (lE : l[f.iE]? = some oE) (lA : l[f.iA]? = some oA) (lB : l[f.iB]? = some oB) (lC : l[f.iC]? = some oC) (lS : l[f.iS]? = some oS) (sA sB : Tmp)
  (pE : oE.op = .buildSlice S 0 #[]) (qE : oE.dst = some f.dE) (pA : oA.op = .call { callee := .builtin .append, args := #[.tmp f.dE, .tmp sA], argTypes := #[S, S] }) (qA : oA.dst = some f.dA)
  (pB : oB.op = .buildSlice S 1 #[(0, .tmp sB)]) (qB : oB.dst = some f.dB) (pC : oC.op = .call { callee := .builtin .append, args := #[.tmp f.dA, .tmp f.dB], argTypes := #[S, S] }) (qC : oC.dst = some f.dC) (pS : oS.op = .assign (.tmp f.dC)) (qS : oS.dst = some f.dS)
  (aE : oA.after.any (fun e => Region.binds .any e && e.on == f.iE) = true) (cA : oC.after.any (fun e => Region.binds .any e && e.on == f.iA) = true) (cB : oC.after.any (fun e => Region.binds .any e && e.on == f.iB) = true) (sC : oS.after.any (fun e => Region.binds .any e && e.on == f.iC) = true)
  (specs : List Spec) (hst : Stands (fun _ _ => True) specs) (tE : specs[f.iE]? = some T2) (tA : specs[f.iA]? = some T2) (tB : specs[f.iB]? = some T2) (tC : specs[f.iC]? = some T2) (tS : specs[f.iS]? = some T2)
  (pa : Option Addr) (na ca : Nat) (vx : Value) (xs : List α) (x : α) (gA : argS l.toArray specs a0 (.tmp sA) = .inl (.slice pa na ca)) (gB : argS l.toArray specs a0 (.tmp sB) = .inl vx) (hna : na = xs.length) (hcut : RdW k fl w pa ca xs) (hlen : xs.length ≤ 100000)
  (rE : ∀ (ρ : Operand → Value) (w' : World), (execOp ρ oE).run Try.prog w' = .ok (.value (.slice (some ⟨w'.heap.size, 0, none⟩) 0 0)) (w'.alloc (.cells #[] t)))
  (rB : ∀ (ρ : Operand → Value) (w' : World), ρ (.tmp sB) = vx → (execOp ρ oB).run Try.prog w' = .ok (.value (.slice (some ⟨w'.heap.size, 0, none⟩) 1 1)) (w'.alloc (.cells (fl x).toArray t)))
  (hdst : ∀ i o, l[i]? = some o → f.sp i = false → o.dst ≠ some f.dE ∧ o.dst ≠ some f.dA ∧ o.dst ≠ some f.dB ∧ o.dst ≠ some f.dC ∧ o.dst ≠ some f.dS)
  (hQ : ∀ i o, l[i]? = some o → f.sp i = false → ∀ (ρ : Operand → Value) (w' : World), Ex w w' → (∀ x ∈ o.op.operands, (argS l.toArray specs a0 x).ok (ρ x) w') → ∃ v, (execOp ρ o).run Try.prog w' = .ok (.value v) w' ∧ ((specs[i]?).getD (.inl undef)).ok v w')
  (hF : ∀ (w' : World), Ex w w' → later w' (fun a' => ∀ v, a'.tmps[f.dS]? = some v → OwnW t k fl w' w.heap.size v (xs ++ [x]) → Q .normal a' w') l specs a0) : (Code.region id l.toArray true).wp Try.prog Q a0 w := by
 simp only [List.nodup_cons, List.mem_cons, List.not_mem_nil, or_false, not_or, List.nodup_nil, and_true, not_false_eq_true] at hI hD
 obtain ⟨⟨i1, i2, i3, i4⟩, ⟨i5, i6, i7⟩, ⟨i8, i9⟩, i10⟩ := hI
 obtain ⟨⟨d1, d2, d3, d4⟩, ⟨d5, d6, d7⟩, ⟨d8, d9⟩, d10⟩ := hD
 refine wp_rows_free (CatV t k fl f w.heap.size xs x) (Ex w) specs n hm hn hs hst hng (Ex.drew w) ?_ ?_ ?_
 ·exact ⟨fun h => (by cases h), fun h => (by cases h), fun h => (by cases h), fun h => (by cases h), fun h => (by cases h), fun h => (by cases h), fun h => (by cases h), fun h => (by cases h), fun h => (by cases h)⟩
 ·intro i o L a w' ho hL hdep hsz hx hargs hv
  have hbs : w.heap.size ≤ w'.heap.size := hx.size
  have hal : ∀ ob, Ex w' (w'.alloc ob) := fun ob => (Below.refl _ _).alloc (Nat.le_refl _) ob
  cases hsp : f.sp i with
  | false =>
   obtain ⟨v, hr, hok⟩ := hQ i o ho hsp a.eval w' hx hargs
   exact wp_val hr ⟨v, rfl, hok, hx, hv.quiet hsp v (hdst i o ho hsp)⟩
  | true =>
   simp only [Five.sp, Bool.or_eq_true, beq_iff_eq] at hsp
   rcases hsp with (((rfl | rfl) | rfl) | rfl) | rfl
   ·rw [lE] at ho
    simp at ho
    subst ho
    have lA0 : L f.iA = false := by
     cases e : L f.iA with
     | false => rfl
     | true => have := hv.ea e; rw [hL] at this; cases this
    have lC0 : L f.iC = false := by
     cases e : L f.iC with
     | false => rfl
     | true => have := hv.ca e; rw [lA0] at this; cases this
    have lS0 : L f.iS = false := by
     cases e : L f.iS with
     | false => rfl
     | true => have := hv.sc e; rw [lC0] at this; cases this
    refine wp_val (rE _ _) ⟨_, rfl, by rw [tE]; trivial, hx.trans (hal _), ?_⟩
    rw [qE]
    refine ⟨fun _ => upd_self _ _, ?_, ?_, ?_, fun _ _ => ⟨w'.heap.size, put_same a _ (by rw [hsz]; exact hDn.1), ownW_empty w' _ hbs⟩, ?_, ?_, ?_, ?_⟩
    ·rw [upd_ne i3, upd_ne i1]; exact hv.ca
    ·rw [upd_ne i3, upd_ne i2]; exact hv.cb
    ·rw [upd_ne i4, upd_ne i3]; exact hv.sc
    ·rw [upd_ne i1, lA0]; exact fun h => by cases h
    ·rw [upd_ne i2, upd_ne i3, upd_ne i1]
     intro h1 h2
     obtain ⟨g, e1, e2, _, e4⟩ := hv.vB h1 h2
     refine ⟨g, by rw [put_other a _ (by simp; exact d2)]; exact e1, e2.below (hal _), fun _ _ => ?_, fun h => by rw [lA0] at h; cases h⟩
     rw [put_same a _ (by rw [hsz]; exact hDn.1)]
     intro he
     simp at he
     obtain ⟨b, off, hb, hc⟩ := e2.at (i := 0) (by simp)
     simp at hb
     obtain ⟨rfl, rfl⟩ := hb
     have hk' : 0 < (fl ([x][0]'(by simp))).length := by rw [hk]; exact hk0
     have := World.block_lt_of_cell? w' _ (hc 0 _ (List.getElem?_eq_getElem hk'))
     simp at this
     omega
    ·rw [upd_ne i3, lC0]; exact fun h => by cases h
    ·rw [upd_ne i4, lS0]; exact fun h => by cases h
   ·rw [lA] at ho
    simp at ho
    subst ho
    have lE1 := dep_of aE hdep
    have lC0 : L f.iC = false := by
     cases e : L f.iC with
     | false => rfl
     | true => have := hv.ca e; rw [hL] at this; cases this
    have lS0 : L f.iS = false := by
     cases e : L f.iS with
     | false => rfl
     | true => have := hv.sc e; rw [lC0] at this; cases this
    obtain ⟨g, e1, e2⟩ := hv.vE lE1 hL
    have hq := hargs (.tmp sA) (by rw [pA]; simp [Op.operands, Call.operands])
    rw [gA] at hq
    obtain ⟨v', w2, hr, ho', hg', hat⟩ := run_app' hk h1 S z B hS hinfo hk0 hzc e2 hna (hcut.below hx) (by simp [maxLen]; omega) (by have h3 : (([] : List α).length + xs.length) * B ≤ 100000 * 100 := Nat.mul_le_mul (by simpa using hlen) hB2; omega) hbs oA.type
    have hgw := e2.lt g rfl
    refine wp_val (run_append' a.eval w' w2 (.tmp f.dE) (.tmp sA) S _ _ v' pA (eval_tmp e1) hq hr) ⟨_, rfl, by rw [tA]; trivial, hx.grown hg' hbs (fun q hq => by simp [Value.ownBlock] at hq; omega), ?_⟩
    rw [qA]
    refine ⟨fun _ => by rw [upd_ne (Ne.symm i1)]; exact lE1, fun _ => upd_self _ _, ?_, ?_, fun _ h => (by rw [upd_self] at h; cases h), fun _ _ => ⟨v', put_same a _ (by rw [hsz]; exact hDn.2.1), by simpa using ho'⟩, ?_, ?_, ?_⟩
    ·rw [upd_ne i6, upd_ne i5]; exact hv.cb
    ·rw [upd_ne i7, upd_ne i6]; exact hv.sc
    ·rw [upd_ne i5, upd_ne i6]
     intro hb hc
     obtain ⟨g', f1, f2, f3, _⟩ := hv.vB hb hc
     have hne : g ≠ g' := fun e => f3 lE1 hL (by rw [← e]; exact e1)
     have hg'w : g' < w'.heap.size := by
      obtain ⟨b, off, hbo, hcc⟩ := f2.at (i := 0) (by simp)
      simp at hbo
      obtain ⟨rfl, rfl⟩ := hbo
      have hk' : 0 < (fl ([x][0]'(by simp))).length := by rw [hk]; exact hk0
      have := World.block_lt_of_cell? w' _ (hcc 0 _ (List.getElem?_eq_getElem hk'))
      simpa using this
     refine ⟨g', by rw [put_other a _ (by simp; exact d5)]; exact f1, f2.far hg' (fun _ b off hbo => by simp at hbo; simp [Value.ownBlock]; omega), fun _ h => (by rw [upd_self] at h; cases h), fun _ v hvv => ?_⟩
     rw [put_same a _ (by rw [hsz]; exact hDn.2.1)] at hvv
     simp at hvv
     subst hvv
     rcases hat with hat | hat
     ·rw [hat]; simp [Value.ownBlock]; exact hne
     ·rw [hat]; simp; omega
    ·rw [upd_ne i6, lC0]; exact fun h => by cases h
    ·rw [upd_ne i7, lS0]; exact fun h => by cases h
   ·rw [lB] at ho
    simp at ho
    subst ho
    have lC0 : L f.iC = false := by
     cases e : L f.iC with
     | false => rfl
     | true => have := hv.cb e; rw [hL] at this; cases this
    have lS0 : L f.iS = false := by
     cases e : L f.iS with
     | false => rfl
     | true => have := hv.sc e; rw [lC0] at this; cases this
    have hq := hargs (.tmp sB) (by rw [pB]; simp [Op.operands])
    rw [gB] at hq
    refine wp_val (rB _ _ hq) ⟨_, rfl, by rw [tB]; trivial, hx.trans (hal _), ?_⟩
    rw [qB]
    refine ⟨?_, ?_, fun _ => upd_self _ _, ?_, ?_, ?_, fun _ _ => ⟨w'.heap.size, put_same a _ (by rw [hsz]; exact hDn.2.2.1), ?_, ?_, ?_⟩, ?_, ?_⟩
    ·rw [upd_ne (Ne.symm i5), upd_ne (Ne.symm i2)]; exact hv.ea
    ·rw [upd_ne i8, upd_ne (Ne.symm i5)]; exact hv.ca
    ·rw [upd_ne i9, upd_ne i8]; exact hv.sc
    ·rw [upd_ne (Ne.symm i2), upd_ne (Ne.symm i5)]
     intro h1 h2
     obtain ⟨g, e1, e2⟩ := hv.vE h1 h2
     exact ⟨g, by rw [put_other a _ (by simp; exact Ne.symm d2)]; exact e1, e2.alloc _⟩
    ·rw [upd_ne (Ne.symm i5), upd_ne i8]
     intro h1 h2
     obtain ⟨v, e1, e2⟩ := hv.vA h1 h2
     exact ⟨v, by rw [put_other a _ (by simp; exact Ne.symm d5)]; exact e1, e2.alloc _⟩
    ·have h := RdW.laid (t := t) hk w' [x] (by simp)
     simpa [flat] using h
    ·rw [upd_ne (Ne.symm i2), upd_ne (Ne.symm i5)]
     intro h1 h2
     obtain ⟨g, e1, e2⟩ := hv.vE h1 h2
     rw [put_other a _ (by simp; exact Ne.symm d2), e1]
     have := e2.lt g rfl
     intro he
     simp at he
    ·rw [upd_ne (Ne.symm i5)]
     intro h1 v hvv
     obtain ⟨v2, e1, e2⟩ := hv.vA h1 lC0
     rw [put_other a _ (by simp; exact Ne.symm d5), e1] at hvv
     simp at hvv
     subst hvv
     intro e
     have := e2.lt _ e
     omega
    ·rw [upd_ne i8, lC0]; exact fun h => by cases h
    ·rw [upd_ne i9, lS0]; exact fun h => by cases h
   ·rw [lC] at ho
    simp at ho
    subst ho
    have lA1 := dep_of cA hdep
    have lB1 := dep_of cB hdep
    have lS0 : L f.iS = false := by
     cases e : L f.iS with
     | false => rfl
     | true => have := hv.sc e; rw [hL] at this; cases this
    obtain ⟨v, e1, e2⟩ := hv.vA lA1 hL
    obtain ⟨g', f1, f2, _, _⟩ := hv.vB lB1 hL
    have happ := fun ty => run_app' hk h1 S z B hS hinfo hk0 hzc e2 (show 1 = [x].length from rfl) f2 (by simp [maxLen]; omega) (by have h3 : (xs.length + [x].length) * B ≤ 100001 * 100 := Nat.mul_le_mul (by simp; omega) hB2; omega) hbs ty
    obtain ⟨v', w2, hr, ho', hg', hat⟩ := happ oC.type
    refine wp_val (run_append' a.eval w' w2 (.tmp f.dA) (.tmp f.dB) S _ _ v' pC (eval_tmp e1) (eval_tmp f1) hr) ⟨_, rfl, by rw [tC]; trivial, hx.grown hg' hbs (fun q hq => (e2.lt q hq).1), ?_⟩
    rw [qC]
    refine ⟨?_, fun _ => by rw [upd_ne (Ne.symm i6)]; exact lA1, fun _ => by rw [upd_ne (Ne.symm i8)]; exact lB1, ?_, ?_, fun _ h => (by rw [upd_self] at h; cases h), fun _ h => (by rw [upd_self] at h; cases h), fun _ _ => ⟨v', put_same a _ (by rw [hsz]; exact hDn.2.2.2.1), ho'⟩, ?_⟩
    ·rw [upd_ne (Ne.symm i6), upd_ne (Ne.symm i3)]; exact hv.ea
    ·rw [upd_ne i10, lS0]; exact fun h => by cases h
    ·rw [upd_ne (Ne.symm i3), upd_ne (Ne.symm i6), lA1]; exact fun _ h => by cases h
    ·rw [upd_ne i10, lS0]; exact fun h => by cases h
   ·rw [lS] at ho
    simp at ho
    subst ho
    have lC1 := dep_of sC hdep
    have lA1 := hv.ca lC1
    obtain ⟨v, e1, e2⟩ := hv.vC lC1 hL
    refine wp_val (v := v) (w1 := w') (by unfold execOp; rw [pS]; simp [eval_tmp e1]) ⟨_, rfl, by rw [tS]; trivial, hx, ?_⟩
    rw [qS]
    refine ⟨?_, ?_, ?_, fun _ => by rw [upd_ne (Ne.symm i10)]; exact lC1, ?_, ?_, ?_, fun _ h => (by rw [upd_self] at h; cases h), fun _ => ⟨v, put_same a _ (by rw [hsz]; exact hDn.2.2.2.2), e2⟩⟩
    ·rw [upd_ne (Ne.symm i7), upd_ne (Ne.symm i4)]; exact hv.ea
    ·rw [upd_ne (Ne.symm i10), upd_ne (Ne.symm i7)]; exact hv.ca
    ·rw [upd_ne (Ne.symm i10), upd_ne (Ne.symm i9)]; exact hv.cb
    ·rw [upd_ne (Ne.symm i4), upd_ne (Ne.symm i7), lA1]; exact fun _ h => by cases h
    ·rw [upd_ne (Ne.symm i7), upd_ne (Ne.symm i10), lC1]; exact fun _ h => by cases h
    ·rw [upd_ne (Ne.symm i9), upd_ne (Ne.symm i10), lC1]; exact fun _ h => by cases h
 ·intro w' hx
  refine later_mono ?_ _ _ _ (hF w' hx)
  rintro a' h ⟨L, hL, hV⟩
  obtain ⟨v, q1, q2⟩ := hV.vS (hL f.iS (List.getElem?_eq_some_iff.1 lS).1)
  exact h v q1 q2
end
end Rg.Fr
end Go.Proofs.Ytibnhjfeepdddaa
namespace Go.Proofs.Ytibnhjfeepdddaa
open Go.RowKit
set_option linter.unusedVariables false
set_option linter.unusedSimpArgs false
theorem EachR.take {w : World} {vs : List RV} {l : List Rw} (h : EachR w vs l) (k : Nat) : EachR w (vs.take k) (l.take k) := ⟨by simp [h.1], fun i v r h1 h2 => by
 rw [List.getElem?_take] at h1 h2
 split at h1
 ·rename_i hk; rw [if_pos hk] at h2; exact h.2 i v r h1 h2
 ·cases h1⟩
theorem EachR.drop {w : World} {vs : List RV} {l : List Rw} (h : EachR w vs l) (k : Nat) : EachR w (vs.drop k) (l.drop k) := ⟨by simp [h.1], fun i v r h1 h2 => by
 rw [List.getElem?_drop] at h1 h2
 exact h.2 (k + i) v r h1 h2⟩
namespace Rg
section
variable {ops : Array Oper} {specs : List Spec} {a0 : Act} {o : Oper} {s : Spec} {ρ : Operand → Value} {w : World}
theorem q_move {x : Operand} (ho : o.op = .move x) (hs : argS ops specs a0 x = s) (ha : ∀ x ∈ o.op.operands, (argS ops specs a0 x).ok (ρ x) w) : ∃ v, (execOp ρ o).run Try.prog w = .ok (.value v) w ∧ s.ok v w := by
 have hx := ha x (by rw [ho]; simp [Op.operands])
 rw [hs] at hx
 exact ⟨ρ x, by unfold execOp; rw [ho]; rfl, hx⟩
theorem q_slice2 {t : TypeId} {x hi : Operand} {vx vh v : Value} (ho : o.op = .slice t x none (some hi) none) (hx : argS ops specs a0 x = .inl vx) (hh : argS ops specs a0 hi = .inl vh) (hs : s = .inl v) (ha : ∀ x ∈ o.op.operands, (argS ops specs a0 x).ok (ρ x) w) (h : (Instr.sliceAt t vx none (some vh) none).run Try.prog w = .ok v w) : ∃ v, (execOp ρ o).run Try.prog w = .ok (.value v) w ∧ s.ok v w := by
 have h1 := ha x (by rw [ho]; simp [Op.operands])
 have h3 := ha hi (by rw [ho]; simp [Op.operands])
 rw [hx] at h1
 rw [hh] at h3
 simp only [Spec.ok] at h1 h3
 rw [hs]
 refine ⟨v, ?_, rfl⟩
 unfold execOp
 rw [ho]
 simp only [Option.map_some, Option.map_none, h1, h3, Sem.run_bind, Result.andThen, h, Sem.run_pure]
theorem q_load {t : TypeId} {x : Operand} {vx v : Value} (ho : o.op = .load t x) (hx : argS ops specs a0 x = .inl vx) (hs : s = .inl v) (ha : ∀ x ∈ o.op.operands, (argS ops specs a0 x).ok (ρ x) w) (h : (Instr.loadAt t vx).run Try.prog w = .ok v w) : ∃ v, (execOp ρ o).run Try.prog w = .ok (.value v) w ∧ s.ok v w := by
 have h1 := ha x (by rw [ho]; simp [Op.operands])
 rw [hx] at h1
 simp only [Spec.ok] at h1
 rw [hs]
 refine ⟨v, ?_, rfl⟩
 unfold execOp
 rw [ho]
 simp only [h1, Sem.run_bind, Result.andThen, h, Sem.run_pure]
end
end Rg
end Go.Proofs.Ytibnhjfeepdddaa
