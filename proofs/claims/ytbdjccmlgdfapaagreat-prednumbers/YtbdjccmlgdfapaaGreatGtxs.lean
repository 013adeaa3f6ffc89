/-
  A region in its order, by its sentences. Literals as rows of a region. What some answers. What rows answers. Literals of bytes; what is so of some's predicates.
-/
import Derived.Test.YtbdjccmlgdfapaaGreatVarint
import Derived.Test.YtbdjccmlgdfapaaGreatLkn2
import Derived.Great.BuildSlice
import Derived.Test.YtbdjccmlgdfapaaGreatKrows
import Derived.Test.YtbdjccmlgdfapaaGreatPask
namespace Go.Proofs.YtbdjccmlgdfapaaGreat
open Go.RowKit
set_option linter.unusedVariables false
set_option linter.unusedSimpArgs false
namespace Rg
section
variable {P : Program} {ops : Array Oper} {specs : List Spec} {a0 : Act} {C : World → Prop} {E : World → World → Prop}
theorem rows_seq {Q : Exit → Act → World → Prop} (hs : sound ops a0.tmps.size = true)
    (hst : ∀ (j : Nat) (v : Value) (w w' : World), ((specs[j]?).getD (.inl undef)).ok v w → E w w' → ((specs[j]?).getD (.inl undef)).ok v w') (hrefl : ∀ w, E w w)
    (hG : ∀ (i : Nat) (o : Oper), ops[i]? = some o → GoodOp P ops specs a0 C E o ((specs[i]?).getD (.inl undef)))
    (hF : ∀ (listed : Array Bool) (a : Act) (w : World), Inv ops specs a0 C listed a w → (∀ j, j < ops.size → listed.getD j false = true) → Q .normal a w) :
    ∀ (n i : Nat) (listed : Array Bool) (a : Act) (w : World), i + n = ops.size → listed.size = ops.size → (∀ j, j < i → listed.getD j false = true) → Inv ops specs a0 C listed a w → wpOps P ops Q ((List.range ops.size).drop i) a w
  | 0, i, listed, a, w, hi, hsz, hl, h => by
    have e : (List.range ops.size).drop i = [] := by rw [List.drop_eq_nil_iff]; simp; omega
    rw [e]
    exact hF listed a w h (fun j hj => hl j (by omega))
  | n + 1, i, listed, a, w, hi, hsz, hl, h => by
    have hlt : i < ops.size := by omega
    have e : (List.range ops.size).drop i = i :: (List.range ops.size).drop (i + 1) := by
      rw [List.drop_eq_getElem_cons (by simpa using hlt)]
      simp
    obtain ⟨o, ho⟩ : ∃ o, ops[i]? = some o := ⟨ops[i], by simp [hlt]⟩
    have hi2 : i < listed.size := by omega
    have hnext : ∀ (v : Value) (w' : World), ((specs[i]?).getD (.inl undef)).ok v w' → E w w' → C w' → wpOps P ops Q ((List.range ops.size).drop (i + 1)) (a.put o.dst v) w' := by
      intro v w' hv hE hC
      refine rows_seq hs hst hrefl hG hF n (i + 1) (listed.setIfInBounds i true) _ _ (by omega) (by simp; exact hsz) (fun j hj => ?_) (h.step hs ho hi2 hst hE hC hv)
      by_cases hji : j = i
      · subst hji; simp [hi2]
      · rw [getD_set_ne false (Ne.symm hji)]
        exact hl j (by omega)
    have hdep : ∀ e ∈ o.after, Region.binds .any e = true → listed.getD e.on false = true := fun e he hb => hl _ ((sound_at hs ho).1 e he hb)
    have hg := hG i o ho Q a w h.cls (h.sees' hs ho hdep)
    rw [e]
    unfold wpOps
    simp only [ho]
    split
    · rename_i hw
      refine .inl (Oper.wp_mono (fun a' w' hk => ?_) (hg.1 hw))
      obtain ⟨v, rfl, hv, hE, hC⟩ := hk
      exact hnext v w' hv hE hC
    · rename_i hw
      exact hnext undef w (hg.2 (by simpa using hw)) (hrefl w) h.cls
theorem wp_rows_in {id : Nat} {Q : Exit → Act → World → Prop} {w : World} {l : List Oper} (specs : List Spec) (C : World → Prop) (E : World → World → Prop) (n : Nat)
    (hn : a0.tmps.size = n) (hs : sound l.toArray n = true) (hst : Stands E specs) (hrefl : ∀ w, E w w) (hC : C w)
    (hG : Goods P l.toArray specs a0 C E l specs) (hF : ∀ w', C w' → later w' (fun a' => Q .normal a' w') l specs a0) : (Code.region id l.toArray false).wp P Q a0 w := by
  subst hn
  refine wp_region ?_
  have key := rows_seq (P := P) (ops := l.toArray) (Q := Q) (specs := specs) (a0 := a0) (C := C) (E := E) hs (fun j v w w' => stands_at specs hst j v w w') hrefl ?g ?f l.toArray.size 0 (Array.replicate l.toArray.size false) a0 w (by simp) (by simp) (fun j hj => absurd hj (by omega)) ?i
  · rw [List.drop_zero] at key
    exact key
  case g =>
    intro i o ho
    obtain ⟨s, h1, h2⟩ := goods_at l specs hG i o (by simpa using ho)
    rw [h1]
    exact h2
  case f =>
    intro listed a w' hI hall
    have hfill : fill (fun t => a.tmps.getD t undef) l a0 = a := by
      have hz := fill_size (fun t => a.tmps.getD t undef) l a0
      refine act_ext (hz.2.trans hI.defers.symm) (hz.1.trans hI.size.symm) fun t ht => ?_
      rw [hz.1] at ht
      cases hw : writer l.toArray t with
      | none =>
        rw [fill_other _ l a0 t (fun o ho => by
          obtain ⟨j, hj⟩ := List.getElem?_of_mem ho
          exact writer_none hw j o (by simpa using hj))]
        exact (hI.slot t (by simp [hw])).symm
      | some j =>
        obtain ⟨o, ho, hd⟩ := writer_some hw
        have hmem : o ∈ l := List.mem_of_getElem? (by simpa using ho)
        rw [fill_same _ l a0 t ht ⟨o, hmem, hd⟩]
        obtain ⟨v, hv, _⟩ := hI.done t j hw (hall j (Array.getElem?_eq_some_iff.1 ho).1)
        simp [hv, Array.getD_eq_getD_getElem?]
    have h := later_fill (w := w') (K := fun a' => Q .normal a' w') (fun t => a.tmps.getD t undef) l specs a0 (hF w' hI.cls) (fun j o d s ho hd hss => by
      have hw := ((sound_at hs (i := j) (o := o) (by simpa using ho)).2.2 d hd).2
      obtain ⟨v, hv, hk⟩ := hI.done d j hw (hall j (by simpa using (List.getElem?_eq_some_iff.1 ho).1))
      rw [hss] at hk
      simpa [hv, Array.getD_eq_getD_getElem?] using hk)
    rwa [hfill] at h
  case i =>
    refine ⟨hC, rfl, rfl, fun t _ => rfl, fun t j _ hl => ?_⟩
    have : (Array.replicate l.toArray.size false).getD j false = false := by
      rw [Array.getD_eq_getD_getElem?, Array.getElem?_replicate]
      split <;> rfl
    rw [this] at hl
    cases hl
end
end Rg
end Go.Proofs.YtbdjccmlgdfapaaGreat
namespace Go.Proofs.YtbdjccmlgdfapaaGreat
open Go.RowKit
set_option linter.unusedVariables false
set_option linter.unusedSimpArgs false
theorem run_lit {o : Oper} (ρ : Operand → Value) (w : World) (t e : TypeId) (k : Nat) (ie : TypeInfo) (z : Value) (xs : List Operand) (vs : List Value) (ho : o.op = .buildSlice t xs.length ((xs.zipIdx 0).map fun x => (x.2, x.1)).toArray)
    (hu : Tryz.prog.underlying t = some (.slice e)) (hie : Tryz.prog.info? e = some ie) (hz : ie.zero = some z) (hk : ie.size = k) (hk0 : 0 < k) (hx0 : 0 < xs.length) (hsm : xs.length * k ≤ 10000) (hv : xs.map ρ = vs) (hc : ∀ v ∈ vs, v.cells.size = k) :
    (execOp ρ o).run Tryz.prog w = .ok (.value (.slice (some ⟨w.heap.size, 0, none⟩) xs.length xs.length)) (w.alloc (.cells (vs.flatMap fun v => v.cells.toList).toArray e)) := by
  have hlen : vs.length = xs.length := by rw [← hv]; simp
  have hparts : (((xs.zipIdx 0).map fun x => (x.2, x.1)).toArray.map fun (i, x) => (i, ρ x)).toList = (vs.zipIdx 0).map fun x => (x.2, x.1) := by
    rw [← hv, List.zipIdx_map]
    simp [List.map_map, Function.comp_def]
  have hpos : 0 < xs.length * k := Nat.mul_pos hx0 hk0
  have hf := Great.fill_whole (s := k) hk0 vs ((Array.range (xs.length * k)).map (z.cells[· % z.cells.size]!)) hc (by simp [hlen])
  have hr := run_buildSlice (P := Tryz.prog) w t e xs.length ((((xs.zipIdx 0).map fun x => (x.2, x.1)).toArray).map fun (i, x) => (i, ρ x)) _ ie z hu hie hz (by rw [hk]; omega) (by rw [hk]; omega) (by rw [hk, hparts]; exact hf)
  unfold execOp
  simp only [ho, Sem.run_bind, hr, Result.andThen_ok]
  rfl
namespace Rg
/-- What is so of operands, one by one. -/
def Args (ops : Array Oper) (specs : List Spec) (a0 : Act) : List Operand → List Spec → Prop
  | [], [] => True
  | x :: xs, s :: ss => argS ops specs a0 x = s ∧ Args ops specs a0 xs ss
  | _, _ => False
def Vals (w : World) : List Value → List Spec → Prop
  | [], [] => True
  | v :: vs, s :: ss => s.ok v w ∧ Vals w vs ss
  | _, _ => False
theorem args_vals {ops : Array Oper} {specs : List Spec} {a0 : Act} {a : Act} {w : World} : ∀ (xs : List Operand) (ss : List Spec), Args ops specs a0 xs ss → (∀ x ∈ xs, (argS ops specs a0 x).ok (a.eval x) w) → Vals w (xs.map a.eval) ss
  | [], [], _, _ => trivial
  | x :: xs, s :: ss, h, hh => ⟨by have h1 := hh x (by simp); rw [h.1] at h1; exact h1, args_vals xs ss h.2 (fun y hy => hh y (by simp [hy]))⟩
  | [], _ :: _, h, _ => h.elim
  | _ :: _, [], h, _ => h.elim
theorem lit_opers {o : Oper} {t : TypeId} {n : Nat} {xs : List Operand} (ho : o.op = .buildSlice t n ((xs.zipIdx 0).map fun x => (x.2, x.1)).toArray) : ∀ x ∈ xs, x ∈ o.op.operands := by
  intro x hx
  rw [ho]
  simp only [Op.operands]
  have e : List.map (fun x : Nat × Operand => x.snd) (List.map (fun x : Operand × Nat => (x.snd, x.fst)) xs.zipIdx) = xs := by
    rw [List.map_map]
    have : ((fun x : Nat × Operand => x.snd) ∘ fun x : Operand × Nat => (x.snd, x.fst)) = Prod.fst := rfl
    rw [this, List.zipIdx_map_fst]
  simpa [e] using hx
end Rg
theorem eval_const (a : Act) (v : Value) : a.eval (.const v) = v := rfl
namespace Rg
section
variable {P : Program} {ops : Array Oper} {specs : List Spec} {a0 : Act} {C : World → Prop} {E : World → World → Prop} {o : Oper} {s : Spec}
theorem good_slice2 {t : TypeId} {x hi : Operand} {vh : Value} (hrefl : ∀ w, E w w) (ho : o.op = .slice t x none (some hi) none) (hg : guardV ops specs a0 o = some true) (hh : argS ops specs a0 hi = .inl vh)
    (h : ∀ u w, C w → (argS ops specs a0 x).ok u w → ∃ v, (Instr.sliceAt t u none (some vh) none).run P w = .ok v w ∧ s.ok v w) : GoodOp P ops specs a0 C E o s :=
  good_val hrefl hg fun a w hC hs => by
    obtain ⟨v, h1, h2⟩ := h _ w hC (hs x (by rw [ho]; simp [Op.operands]))
    have h3 := hs hi (by rw [ho]; simp [Op.operands])
    rw [hh] at h3
    simp only [Spec.ok] at h3
    refine ⟨v, ?_, h2⟩
    unfold execOp
    rw [ho]
    simp only [Option.map_some, Option.map_none, h3, Sem.run_bind, Result.andThen, h1, Sem.run_pure]
end
theorem vals_inl {α : Type} {w : World} (f : α → Value) : ∀ (vs : List Value) (l : List α), Vals w vs (l.map fun x => (.inl (f x) : Spec)) → vs = l.map f
  | [], [], _ => rfl
  | v :: vs, x :: l, h => by
    have h1 : v = f x := h.1
    rw [h1, vals_inl f vs l h.2]
    rfl
  | [], _ :: _, h => h.elim
  | _ :: _, [], h => h.elim
theorem vals_prs {w : World} : ∀ (vs : List Value) (ps : List Pr), Vals w vs (ps.map fun p => (.inr (Pd.IsP (fun _ => True) p) : Spec)) → ∃ us, vs = us.map pvv ∧ Pd.Lays (fun _ => True) w us ps
  | [], [], _ => ⟨[], rfl, Pd.Lays.nil _ _⟩
  | v :: vs, p :: ps, h => by
    obtain ⟨u, hu, hL⟩ := h.1
    obtain ⟨us, e, hl⟩ := vals_prs vs ps h.2
    exact ⟨u :: us, by rw [hu, e]; rfl, (Pd.Lays.one hL).append hl⟩
  | [], _ :: _, h => h.elim
  | _ :: _, [], h => h.elim
end Rg
namespace Pd
/-- A value is a slice of such predicates. -/
def IsL (l : List Pr) (v : Value) (w : World) : Prop := ∃ a cap, v = .slice a l.length cap ∧ RdP w a cap l
theorem IsL.stands (l : List Pr) : ∀ v w w', IsL l v w → Ex w w' → IsL l v w' := by
  rintro v w w' ⟨a, cap, rfl, vs, h1, h2⟩ hx
  exact ⟨a, cap, rfl, vs, h1.below hx, h2.below hx⟩
end Pd
section
variable {ops : Array Oper} {specs : List Rg.Spec} {a0 : Act} {w1 : World} {o : Oper}
theorem good_prs (xs : List Operand) (ps : List Pr) (ho : o.op = .buildSlice 22 xs.length ((xs.zipIdx 0).map fun x => (x.2, x.1)).toArray) (hg : Rg.guardV ops specs a0 o = some true) (hx : Rg.Args ops specs a0 xs (ps.map fun p => (.inr (Pd.IsP (fun _ => True) p) : Rg.Spec))) (hl : xs.length = ps.length) (h0 : 0 < xs.length) (h1 : xs.length ≤ 100) :
    Rg.GoodOp Tryz.prog ops specs a0 (Ex w1) Ex o (.inr (Pd.IsL ps)) :=
  Rg.good_of hg fun Q a w hC hh => by
    obtain ⟨us, hus, hL⟩ := Rg.vals_prs _ _ (Rg.args_vals xs _ hx (fun x hm => hh x (Rg.lit_opers ho x hm)))
    obtain ⟨i0, hi, hz0, hz1, hz2⟩ := info_parts Tryz.info32
    have hr := run_lit a.eval w 22 32 7 i0 _ xs (us.map pvv) ho Tryz.underlying22 hi hz0 hz1 (by decide) h0 (by omega) hus (by intro v hv; obtain ⟨u, _, rfl⟩ := List.mem_map.1 hv; rfl)
    have hf : ((us.map pvv).flatMap fun v => v.cells.toList) = flat pc us := by rw [List.flatMap_map]; rfl
    rw [hf] at hr
    have hul : xs.length = us.length := by have := congrArg List.length hus; simpa using this
    have hal : Ex w (w.alloc (.cells (flat pc us).toArray 32)) := (Below.refl _ _).alloc (Nat.le_refl _) _
    refine Rg.Fr.wp_val hr ⟨_, rfl, ?_, hal, hC.trans hal⟩
    refine ⟨some ⟨w.heap.size, 0, none⟩, xs.length, by rw [hl], us, ?_, hL.below hal⟩
    rw [hul]
    exact RdW.laid pc_len w us (by omega)
theorem good_strs (xs : List Operand) (L : List (List UInt8)) (ho : o.op = .buildSlice 30 xs.length ((xs.zipIdx 0).map fun x => (x.2, x.1)).toArray) (hg : Rg.guardV ops specs a0 o = some true) (hx : Rg.Args ops specs a0 xs (L.map fun s => (.inl (st s) : Rg.Spec))) (hl : xs.length = L.length) (h0 : 0 < xs.length) (h1 : xs.length ≤ 100) :
    Rg.GoodOp Tryz.prog ops specs a0 (Ex w1) Ex o (.inr (IsRd st L)) :=
  Rg.good_of hg fun Q a w hC hh => by
    have e := Rg.vals_inl st _ L (Rg.args_vals xs _ hx (fun x hm => hh x (Rg.lit_opers ho x hm)))
    obtain ⟨i0, hi, hz0, hz1, hz2⟩ := info_parts Tryz.info9
    have hr := run_lit a.eval w 30 9 1 i0 _ xs (L.map st) ho Tryz.underlying30 hi hz0 hz1 (by decide) h0 (by omega) e (by intro v hv; obtain ⟨u, _, rfl⟩ := List.mem_map.1 hv; rfl)
    have hf : ((L.map st).flatMap fun v => v.cells.toList) = L.map st := by rw [List.flatMap_map]; exact List.flatMap_singleton' (L.map st) |>.symm ▸ (by simp [List.flatMap_def, Value.cells]; rfl)
    rw [hf] at hr
    have hal : Ex w (w.alloc (.cells (L.map st).toArray 9)) := (Below.refl _ _).alloc (Nat.le_refl _) _
    refine Rg.Fr.wp_val hr ⟨_, rfl, ?_, hal, hC.trans hal⟩
    refine ⟨some ⟨w.heap.size, 0, none⟩, xs.length, by rw [hl], ?_⟩
    rw [hl]
    exact Rd.laid w 9 L (by omega)
theorem good_bld (u : PV) {p : Pr} (hg : Rg.guardV ops specs a0 o = some true) (hr : ∀ (a : Act) (w : World), (execOp a.eval o).run Tryz.prog w = .ok (.value (pvv u)) w) (hl : ∀ w, Ex w1 w → Pd.Lay (fun _ => True) p w u) :
    Rg.GoodOp Tryz.prog ops specs a0 (Ex w1) Ex o (.inr (Pd.IsP (fun _ => True) p)) :=
  Rg.good_val Ex.refl hg fun a w hC _ => ⟨_, hr a w, u, rfl, hl w hC⟩
theorem good_bld1 (u : PV) {p : Pr} (x : Operand) (vx : Value) (hxo : x ∈ o.op.operands) (hx : Rg.argS ops specs a0 x = .inl vx) (hg : Rg.guardV ops specs a0 o = some true) (hr : ∀ (a : Act) (w : World), a.eval x = vx → (execOp a.eval o).run Tryz.prog w = .ok (.value (pvv u)) w) (hl : ∀ w, Ex w1 w → Pd.Lay (fun _ => True) p w u) :
    Rg.GoodOp Tryz.prog ops specs a0 (Ex w1) Ex o (.inr (Pd.IsP (fun _ => True) p)) :=
  Rg.good_val Ex.refl hg fun a w hC hh => by
    have h1 := hh x hxo
    rw [hx] at h1
    exact ⟨_, hr a w h1, u, rfl, hl w hC⟩
theorem good_bset {k n m : Int} {col s : List UInt8} (x : Operand) (L : List (List UInt8)) (hxo : x ∈ o.op.operands) (hx : Rg.argS ops specs a0 x = .inr (IsRd st L)) (hg : Rg.guardV ops specs a0 o = some true) (hr : ∀ (a : Act) (w : World) (b : Option Addr) (n' c : Nat), a.eval x = .slice b n' c → (execOp a.eval o).run Tryz.prog w = .ok (.value (pvv ⟨k, col, n, m, s, (b, n', c), none, 0, 0⟩)) w) :
    Rg.GoodOp Tryz.prog ops specs a0 (Ex w1) Ex o (.inr (Pd.IsP (fun _ => True) (Pr.mk' ⟨k, col, n, m, s, L⟩ []))) :=
  Rg.good_val Ex.refl hg fun a w hC hh => by
    have h1 := hh x hxo
    rw [hx] at h1
    obtain ⟨b, cap, hv, hR⟩ := h1
    refine ⟨_, hr a w _ _ _ hv, _, rfl, ?_⟩
    rw [Pd.lay_mk]
    exact ⟨⟨⟨rfl, rfl, rfl, rfl, rfl⟩, rfl, hR, fun _ _ _ _ => trivial⟩, rfl, fun h0 => by simp at h0, [], RdW.nil _, Pd.Lays.nil _ _⟩
theorem good_bkid {k n m : Int} {col s : List UInt8} (x : Operand) (l : List Pr) (hxo : x ∈ o.op.operands) (hx : Rg.argS ops specs a0 x = .inr (Pd.IsL l)) (hg : Rg.guardV ops specs a0 o = some true) (hr : ∀ (a : Act) (w : World) (b : Option Addr) (n' c : Nat), a.eval x = .slice b n' c → (execOp a.eval o).run Tryz.prog w = .ok (.value (pvv ⟨k, col, n, m, s, (none, 0, 0), b, n', c⟩)) w) :
    Rg.GoodOp Tryz.prog ops specs a0 (Ex w1) Ex o (.inr (Pd.IsP (fun _ => True) (Pr.mk' ⟨k, col, n, m, s, []⟩ l))) :=
  Rg.good_val Ex.refl hg fun a w hC hh => by
    have h1 := hh x hxo
    rw [hx] at h1
    obtain ⟨b, cap, hv, vs, hR, hL⟩ := h1
    refine ⟨_, hr a w _ _ _ hv, _, rfl, ?_⟩
    rw [Pd.lay_mk]
    exact ⟨⟨⟨rfl, rfl, rfl, rfl, rfl⟩, rfl, Rd.nil _, fun h0 => by simp at h0⟩, rfl, fun _ _ _ _ => trivial, vs, hR, hL⟩
theorem slice22 (a : Option Addr) (n cap k : Nat) (w : World) (hk : k ≤ cap) (hc : cap ≤ maxLen) : (Instr.sliceAt 22 (.slice a n cap) none (some (.int .i64 k)) none).run Tryz.prog w = .ok (.slice a k cap) w := by
  unfold maxLen at hc
  have h1 : (k : Int) ≤ (cap : Int) := by omega
  have h2 : (0 : Int) ≤ (k : Int) := by omega
  have h3 : (k : Int) ≤ 9223372036854775807 := by omega
  go_simp
theorem made41 : madeCells (Value.int .u8 0).cells 41 = (cs (List.replicate 41 0)).toArray := by kernel_rfl
theorem good_make41 (ho : o.op = .makeSlice 26 (.const (.int .i64 41)) (.const (.int .i64 41))) (hg : Rg.guardV ops specs a0 o = some true) : Rg.GoodOp Tryz.prog ops specs a0 (Ex w1) Ex o (.inr (IsByt (List.replicate 41 0))) :=
  Rg.good_of hg fun Q a w hC hh => by
    obtain ⟨i0, hi, hz0, hz1, hz2⟩ := info_parts Tryz.info5
    have hrun := run_make (P := Tryz.prog) w 26 5 i0 (.int .u8 0) Tryz.underlying26 hi hz0 .i64 .i64 41 41 (by omega) (by omega) (by rw [hz2]; decide) (by omega)
    have hal : Ex w (w.alloc (.cells (cs (List.replicate 41 0)).toArray 5)) := (Below.refl _ _).alloc (Nat.le_refl _) _
    have e : (execOp a.eval o).run Tryz.prog w = .ok (.value (.slice (some ⟨w.heap.size, 0, none⟩) 41 41)) (w.alloc (.cells (cs (List.replicate 41 0)).toArray 5)) := by
      have e1 : execOp a.eval o = (do let v ← Instr.makeSlice 26 (.int .i64 41) (.int .i64 41); pure (Next.value v)) := by unfold execOp; rw [ho]; rfl
      rw [e1, Sem.run_bind, hrun, hz1]
      rw [show Int.toNat 41 * 1 = 41 from rfl, made41]
      rfl
    refine Rg.Fr.wp_val e ⟨_, rfl, ?_, hal, hC.trans hal⟩
    exact ⟨_, _, rfl, Byt.laid w (List.replicate 41 0) (by simp)⟩
end
end Go.Proofs.YtbdjccmlgdfapaaGreat
namespace Go.Proofs.YtbdjccmlgdfapaaGreat
open Go.RowKit
set_option linter.unusedVariables false
set_option linter.unusedSimpArgs false
namespace Pd
theorem Lays.take {B : Nat → Prop} {w : World} {vs : List PV} {l : List Pr} (h : Lays B w vs l) (n : Nat) : Lays B w (vs.take n) (l.take n) := by
  refine ⟨by simp [h.1], fun i x p h1 h2 => ?_⟩
  rw [List.getElem?_take] at h1 h2
  split at h1
  · rename_i hi
    rw [if_pos hi] at h2
    exact h.2 i x p h1 h2
  · cases h1
/-- The predicates of some. -/
def some36 : List Pr := [Pr.mk' ⟨0, [], 0, 0, [], []⟩ [], Pr.mk' ⟨11, [], 0, 0, [], []⟩ [], Pr.mk' ⟨1, [], 0, 0, [], []⟩ [], Pr.mk' ⟨2, [], 0, 0, [], []⟩ [], Pr.mk' ⟨3, [], 0, 0, [], []⟩ [], Pr.mk' ⟨3, [], 0, 0, [], []⟩ (List.replicate 2 (Pd.nullP [120])), Pd.ntN 5 (Pd.nullP [120]), Pd.ntN 6 (Pd.nullP [120]), Pr.mk' ⟨1, [], 0, 0, [], []⟩ (List.replicate 39 (Pd.nullP [120])), Pr.mk' ⟨1, [], 0, 0, [], []⟩ (List.replicate 40 (Pd.nullP [120])), Pr.mk' ⟨4, [120], 5, 0, [], []⟩ [], Pr.mk' ⟨4, [120], 5, 1, [], []⟩ [], Pr.mk' ⟨5, [120], 5, 0, [], []⟩ [], Pr.mk' ⟨5, [120], 0, 0, [97], []⟩ [], Pr.mk' ⟨6, [120], 0, 0, [97], []⟩ [], Pr.mk' ⟨6, [120], 0, 0, (List.replicate 41 0), []⟩ [], Pr.mk' ⟨6, [88], 0, 0, [97], []⟩ [], Pr.mk' ⟨7, [120], 0, 0, [], []⟩ [], Pr.mk' ⟨7, [120], 0, 0, [], [[97], [98]]⟩ [], Pr.mk' ⟨7, [120], 0, 0, [], [[98], [97]]⟩ [], Pr.mk' ⟨7, [120], 0, 0, [], [[97], [97]]⟩ [], Pr.mk' ⟨7, [120], 0, 0, [], [[97], [98], [99], [100], [101], [102], [103], [104], [105]]⟩ [], Pr.mk' ⟨7, [120], 0, 0, [], [(List.replicate 41 0)]⟩ [], Pr.mk' ⟨8, [120], 0, 0, [], []⟩ [], Pr.mk' ⟨8, [120], 0, 0, [97, 98], []⟩ [], Pd.nullP [120], Pr.mk' ⟨9, [], 0, 0, [], []⟩ [], Pr.mk' ⟨9, [120], 1, 0, [], []⟩ [], Pr.mk' ⟨9, [120], 0, 0, [], []⟩ (List.replicate 1 (Pd.nullP [120])), Pr.mk' ⟨10, [], 5, 3, [], []⟩ [], Pr.mk' ⟨10, [], 3, 5, [], []⟩ [], Pr.mk' ⟨10, [120], 0, 0, [], []⟩ [], Pr.mk' ⟨1, [], 0, 0, [], []⟩ [Pr.mk' ⟨1, [], 0, 0, [], []⟩ (List.replicate 2 (Pd.nullP [120])), Pr.mk' ⟨2, [], 0, 0, [], []⟩ (List.replicate 1 (Pd.nullP [120])), Pr.mk' ⟨2, [], 0, 0, [], []⟩ []], Pd.ntN 1 (Pr.mk' ⟨2, [], 0, 0, [], []⟩ [Pd.ntN 1 (Pd.nullP [120]), Pr.mk' ⟨2, [], 0, 0, [], []⟩ (List.replicate 2 (Pd.nullP [120]))]), Pr.mk' ⟨1, [], 0, 0, [], []⟩ [Pr.mk' ⟨77, [], 0, 0, [], []⟩ []], Pr.mk' ⟨1, [], 0, 0, [120], []⟩ []]
end Pd
theorem lay_many (k : Int) (c : List UInt8) (n : Nat) {w : World} {ma : Option Addr} {mc : Nat} (h : Pd.RdP w ma mc (List.replicate 40 (Pd.nullP [120]))) (hn : n ≤ 40) : Pd.Lay (fun _ => True) (Pr.mk' ⟨k, c, 0, 0, [], []⟩ (List.replicate n (Pd.nullP [120]))) w ⟨k, c, 0, 0, [], (none, 0, 0), ma, n, mc⟩ := by
  obtain ⟨vs, h1, h2⟩ := h
  rw [Pd.lay_mk]
  refine ⟨⟨⟨rfl, rfl, rfl, rfl, rfl⟩, rfl, Rd.nil _, fun h0 => by simp at h0⟩, by simp, fun _ _ _ _ => trivial, vs.take n, h1.take n, ?_⟩
  have h3 := h2.take n
  rw [List.take_replicate, Nat.min_eq_left hn] at h3
  exact h3
section
variable {ops : Array Oper} {specs : List Rg.Spec} {a0 : Act} {w1 : World} {o : Oper}
theorem good_ldn {g : Nat} {x : PV} {p : Pr} {y : Operand} (h : PAt w1 g x ∧ Pd.Lay (fun _ => True) p w1 x) (ho : o.op = .load 32 y) (hg : Rg.guardV ops specs a0 o = some true) (hy : Rg.argS ops specs a0 y = .inl (.pointer (some ⟨g, 0, none⟩))) : Rg.GoodOp Tryz.prog ops specs a0 (Ex w1) Ex o (.inr (Pd.IsP (fun _ => True) p)) :=
  Rg.good_val Ex.refl hg fun a w hC hh => by
    have h1 := hh y (by rw [ho]; simp [Op.operands])
    rw [hy] at h1
    have h2 : a.eval y = .pointer (some ⟨g, 0, none⟩) := h1
    refine ⟨pvv x, ?_, x, rfl, Pd.Lay.below _ h.2 hC⟩
    have hr := (h.1.below hC).loadI
    unfold execOp
    rw [ho]
    simp only [h2, Sem.run_bind, hr, Result.andThen_ok]
    rfl
end
theorem nots_row {w1 : World} (p : Pr) (n : Nat) (u : PV) (wx : World) (hu : Pd.Lay (fun _ => True) p wx u) (hn : n ≤ 1000) (hC : Ex w1 wx) : Calls Tryz.prog 28 #[pvv u, .int .i64 (n : Int)] wx (fun e w' => ∃ u, e = .returned u ∧ Rg.Spec.ok (.inr (Pd.IsP (fun _ => True) (Pd.ntN n p))) u w' ∧ Ex wx w' ∧ Ex w1 w') := pt_row (nots_is p n u wx hu hn) hC
set_option maxHeartbeats 16000000 in
set_option maxRecDepth 100000 in
theorem lsome_is (w : World) : Calls Tryz.prog 5 #[] w fun e w' => ∃ v, e = .returned v ∧ Pd.IsL Pd.some36 v w' ∧ Ex w w' := by
  have HC0 : Hid _ := null_is [120] w
  go_enter Tryz.func5, Tryz.ntmps5
  go_wp2_with fail
  go_at_call 27
  refine Calls.mono HC0.out ?_
  rintro e w1 ⟨xN, rfl, hL1, hx1⟩
  obtain ⟨w2, hw2⟩ : ∃ w2, w1.alloc (pb xN) = w2 := ⟨_, rfl⟩
  have hX12 : Ex w1 w2 := by rw [← hw2]; exact (Below.refl _ _).alloc (Nat.le_refl _) _
  have HX2 : Hid (Ex w w2) := (hx1.trans hX12 : Ex w w2)
  have HN2 : Hid (PAt w2 w1.heap.size xN ∧ Pd.Lay (fun _ => True) (Pd.nullP [120]) w2 xN) := (⟨by rw [← hw2]; exact PAt.new w1 xN, Pd.Lay.mono (fun _ _ => trivial) _ (Pd.Lay.below _ hL1 hX12)⟩ : _ ∧ _)
  clear hL1 hx1 hX12 HC0
  simp only [pvv, sv]
  go_wp2_with fail
  go_loopw [2, 3] (fun mv iv wr => ∃ i : Nat, i ≤ 40 ∧ iv = .int .i64 i ∧ Hid (Pd.OwnQ (fun _ => True) wr w2.heap.size mv (List.replicate i (Pd.nullP [120]))) ∧ Hid (Ex w2 wr)) (fun mv iv wr => 40 - (intOf iv).toNat)
  case atStart => exact ⟨0, by omega, rfl, (Pd.OwnQ.nil _ _ _ : Pd.OwnQ (fun _ => True) w2 w2.heap.size (.slice none 0 0) []), Ex.refl w2⟩
  case round =>
    obtain ⟨i, hi, rfl, HQ, HXr⟩ := hrel
    by_cases hlt : i < 40
    · have hti : (i : Int) < 40 := by omega
      have HNr : Hid (PAt wr w1.heap.size xN) := (HN2.out.1.below HXr.out : PAt wr _ _)
      obtain ⟨c0, c1, c2, c3, c4, c5, c6⟩ := HNr.out.all
      obtain ⟨w3, hw3⟩ : ∃ w3, wr.alloc (pb xN) = w3 := ⟨_, rfl⟩
      have hX3 : Ex wr w3 := by rw [← hw3]; exact (Below.refl _ _).alloc (Nat.le_refl _) _
      have HR3 : Hid (RdW 7 pc w3 (some ⟨wr.heap.size, 0, none⟩) 1 [xN]) := (by rw [← hw3]; exact RdW.laid pc_len wr [xN] (by simp) : RdW 7 pc w3 _ 1 [xN])
      have HOB : Hid (∀ g, u2.ownBlock = some g → w2.heap.size ≤ g ∧ g < wr.heap.size) := HQ.out.lt
      have HL3 : Hid (Pd.Lays (fun c => u2.ownBlock ≠ some c ∧ True) w3 [xN] [Pd.nullP [120]]) := (Pd.Lays.one (Pd.Lay.mono (fun c hc => ⟨fun e => by have := (HOB.out c e).1; omega, trivial⟩) _ (Pd.Lay.below _ (HN2.out.2.lt) (HXr.out.trans hX3))) : Pd.Lays _ w3 [xN] _)
      have HQ3 : Hid (Pd.OwnQ (fun _ => True) w3 w2.heap.size u2 (List.replicate i (Pd.nullP [120]))) := (HQ.out.later hX3 : Pd.OwnQ _ w3 _ _ _)
      have HS3 : Hid (w2.heap.size ≤ w3.heap.size) := (Nat.le_trans HXr.out.size hX3.size : w2.heap.size ≤ w3.heap.size)
      have HX3 : Hid (Ex w2 w3) := (HXr.out.trans hX3 : Ex w2 w3)
      have HNX : Hid (List.replicate i (Pd.nullP [120]) ++ [Pd.nullP [120]] = List.replicate (i + 1) (Pd.nullP [120])) := (List.replicate_succ'.symm : _ = _)
      have hstep : ∀ v9 w9, Pd.OwnQ (fun _ => True) w9 w2.heap.size v9 (List.replicate i (Pd.nullP [120]) ++ [Pd.nullP [120]]) → w3.grownBy w9 u2.ownBlock → Hid (Pd.OwnQ (fun _ => True) w9 w2.heap.size v9 (List.replicate (i + 1) (Pd.nullP [120]))) ∧ Hid (Ex w2 w9) := by
        intro v9 w9 ho9 hg9
        refine ⟨by rw [← HNX.out]; exact ho9, ?_⟩
        exact Below.grown HX3.out hg9 HX3.out.size (fun g hg => by have := (HOB.out g hg).1; omega)
      have hlen : (List.replicate i (Pd.nullP [120])).length + 1 ≤ 1000 := by simp; omega
      clear hX3
      go_wp2_with (at_builtin; refine Pd.wpList_append_Q rfl (.tmp 10) (.tmp 12) rfl w2.heap.size u2 _ rfl HQ3.out (some ⟨wr.heap.size, 0, none⟩) 1 1 [xN] [Pd.nullP [120]] rfl rfl HR3.out HL3.out (by simp only [List.length_cons, List.length_nil]; omega) HS3.out ?_; intro v9 w9 ho9 hg9 hat9; obtain ⟨HO9, HX9⟩ := hstep v9 w9 ho9 hg9; clear ho9 hg9 hat9)
      go_roundw
      case rel => exact ⟨i + 1, by omega, by go_num, HO9, HX9⟩
      case measure => simp [intOf]; omega
    · have hti : ¬ (i : Int) < 40 := by omega
      have hi40 : i = 40 := by omega
      subst hi40
      obtain ⟨ma, mc, vs, rfl, hRm, hLm⟩ := HQ.out.rd
      rw [List.length_replicate]
      have HM : Hid (Pd.RdP wr ma mc (List.replicate 40 (Pd.nullP [120]))) := (⟨vs, hRm, hLm⟩ : Pd.RdP _ _ _ _)
      have HN : Hid (PAt wr w1.heap.size xN ∧ Pd.Lay (fun _ => True) (Pd.nullP [120]) wr xN) := (⟨HN2.out.1.below HXr.out, Pd.Lay.below _ HN2.out.2 HXr.out⟩ : _ ∧ _)
      have hb := HM.out.bounds
      have hm1 : 40 ≤ mc := by have := hb.1; simpa using this
      have hm2 : mc ≤ 9223372036854775807 := by have := hb.2.1; unfold maxLen at this; omega
      have HXr' : Hid (Ex w wr) := (HX2.out.trans HXr.out : Ex w wr)
      clear HQ hRm hLm hb
      go_upto_region 7 with fail
      have hre := Ex.refl
      refine Rg.wp_rows_in [.inr (IsByt (List.replicate 41 0)), .inl (.string (str (List.replicate 41 0))), .inl (.string (str (List.replicate 41 0)))] (Ex wr) Ex 86 rfl (by kernel_rfl) ?st hre (Ex.refl _) ?goods ?fin
      case st => exact ⟨IsByt.stands _, trivial⟩
      case goods =>
        refine Rg.goods_cons (good_make41 rfl rfl) ?_
        refine Rg.goods_cons (Rg.good_conv hre rfl rfl (by rintro u wx hC hu; obtain ⟨b, c, rfl, hb⟩ := hu; exact run_str hb rfl)) ?_
        refine Rg.goods_cons (Rg.good_assign hre rfl rfl rfl) ?_
        exact Rg.goods_nil
      case fin =>
        intro w8 hx8
        simp only [Rg.later, Act.put, List.setIfInBounds_toArray, List.set_cons_succ, List.set_cons_zero]
        intro v14 _
        have HM8 : Hid (Pd.RdP w8 ma mc (List.replicate 40 (Pd.nullP [120]))) := (HM.out.below hx8 : Pd.RdP _ _ _ _)
        have HN8 : Hid (PAt w8 w1.heap.size xN ∧ Pd.Lay (fun _ => True) (Pd.nullP [120]) w8 xN) := (⟨HN.out.1.below hx8, Pd.Lay.below _ HN.out.2 hx8⟩ : _ ∧ _)
        have HX8 : Hid (Ex w w8) := (HXr'.out.trans hx8 : Ex w w8)
        clear hx8
        go_upto_region 8 with fail
        refine Rg.wp_rows [.inr (Pd.IsP (fun _ => True) (Pr.mk' ⟨0, [], 0, 0, [], []⟩ [])), .inr (Pd.IsP (fun _ => True) (Pr.mk' ⟨11, [], 0, 0, [], []⟩ [])), .inr (Pd.IsP (fun _ => True) (Pr.mk' ⟨1, [], 0, 0, [], []⟩ [])), .inr (Pd.IsP (fun _ => True) (Pr.mk' ⟨2, [], 0, 0, [], []⟩ [])), .inr (Pd.IsP (fun _ => True) (Pr.mk' ⟨3, [], 0, 0, [], []⟩ [])), .inl (Value.slice ma 40 mc), .inl (Value.slice ma 2 mc), .inr (Pd.IsP (fun _ => True) (Pr.mk' ⟨3, [], 0, 0, [], []⟩ (List.replicate 2 (Pd.nullP [120])))), .inr (Pd.IsP (fun _ => True) (Pd.nullP [120])), .inr (Pd.IsP (fun _ => True) (Pd.ntN 5 (Pd.nullP [120]))), .inr (Pd.IsP (fun _ => True) (Pd.nullP [120])), .inr (Pd.IsP (fun _ => True) (Pd.ntN 6 (Pd.nullP [120]))), .inl (Value.slice ma 40 mc), .inl (Value.slice ma 39 mc), .inr (Pd.IsP (fun _ => True) (Pr.mk' ⟨1, [], 0, 0, [], []⟩ (List.replicate 39 (Pd.nullP [120])))), .inl (Value.slice ma 40 mc), .inr (Pd.IsP (fun _ => True) (Pr.mk' ⟨1, [], 0, 0, [], []⟩ (List.replicate 40 (Pd.nullP [120])))), .inr (Pd.IsP (fun _ => True) (Pr.mk' ⟨4, [120], 5, 0, [], []⟩ [])), .inr (Pd.IsP (fun _ => True) (Pr.mk' ⟨4, [120], 5, 1, [], []⟩ [])), .inr (Pd.IsP (fun _ => True) (Pr.mk' ⟨5, [120], 5, 0, [], []⟩ [])), .inr (Pd.IsP (fun _ => True) (Pr.mk' ⟨5, [120], 0, 0, [97], []⟩ [])), .inr (Pd.IsP (fun _ => True) (Pr.mk' ⟨6, [120], 0, 0, [97], []⟩ [])), .inl (.string (str (List.replicate 41 0))), .inr (Pd.IsP (fun _ => True) (Pr.mk' ⟨6, [120], 0, 0, (List.replicate 41 0), []⟩ [])), .inr (Pd.IsP (fun _ => True) (Pr.mk' ⟨6, [88], 0, 0, [97], []⟩ [])), .inr (Pd.IsP (fun _ => True) (Pr.mk' ⟨7, [120], 0, 0, [], []⟩ [])), .inr (IsRd st [[97], [98]]), .inr (Pd.IsP (fun _ => True) (Pr.mk' ⟨7, [120], 0, 0, [], [[97], [98]]⟩ [])), .inr (IsRd st [[98], [97]]), .inr (Pd.IsP (fun _ => True) (Pr.mk' ⟨7, [120], 0, 0, [], [[98], [97]]⟩ [])), .inr (IsRd st [[97], [97]]), .inr (Pd.IsP (fun _ => True) (Pr.mk' ⟨7, [120], 0, 0, [], [[97], [97]]⟩ [])), .inr (IsRd st [[97], [98], [99], [100], [101], [102], [103], [104], [105]]), .inr (Pd.IsP (fun _ => True) (Pr.mk' ⟨7, [120], 0, 0, [], [[97], [98], [99], [100], [101], [102], [103], [104], [105]]⟩ [])), .inl (.string (str (List.replicate 41 0))), .inr (IsRd st [(List.replicate 41 0)]), .inr (Pd.IsP (fun _ => True) (Pr.mk' ⟨7, [120], 0, 0, [], [(List.replicate 41 0)]⟩ [])), .inr (Pd.IsP (fun _ => True) (Pr.mk' ⟨8, [120], 0, 0, [], []⟩ [])), .inr (Pd.IsP (fun _ => True) (Pr.mk' ⟨8, [120], 0, 0, [97, 98], []⟩ [])), .inr (Pd.IsP (fun _ => True) (Pd.nullP [120])), .inr (Pd.IsP (fun _ => True) (Pr.mk' ⟨9, [], 0, 0, [], []⟩ [])), .inr (Pd.IsP (fun _ => True) (Pr.mk' ⟨9, [120], 1, 0, [], []⟩ [])), .inl (Value.slice ma 40 mc), .inl (Value.slice ma 1 mc), .inr (Pd.IsP (fun _ => True) (Pr.mk' ⟨9, [120], 0, 0, [], []⟩ (List.replicate 1 (Pd.nullP [120])))), .inr (Pd.IsP (fun _ => True) (Pr.mk' ⟨10, [], 5, 3, [], []⟩ [])), .inr (Pd.IsP (fun _ => True) (Pr.mk' ⟨10, [], 3, 5, [], []⟩ [])), .inr (Pd.IsP (fun _ => True) (Pr.mk' ⟨10, [120], 0, 0, [], []⟩ [])), .inl (Value.slice ma 40 mc), .inl (Value.slice ma 2 mc), .inr (Pd.IsP (fun _ => True) (Pr.mk' ⟨1, [], 0, 0, [], []⟩ (List.replicate 2 (Pd.nullP [120])))), .inl (Value.slice ma 40 mc), .inl (Value.slice ma 1 mc), .inr (Pd.IsP (fun _ => True) (Pr.mk' ⟨2, [], 0, 0, [], []⟩ (List.replicate 1 (Pd.nullP [120])))), .inr (Pd.IsP (fun _ => True) (Pr.mk' ⟨2, [], 0, 0, [], []⟩ [])), .inr (Pd.IsL [Pr.mk' ⟨1, [], 0, 0, [], []⟩ (List.replicate 2 (Pd.nullP [120])), Pr.mk' ⟨2, [], 0, 0, [], []⟩ (List.replicate 1 (Pd.nullP [120])), Pr.mk' ⟨2, [], 0, 0, [], []⟩ []]), .inr (Pd.IsP (fun _ => True) (Pr.mk' ⟨1, [], 0, 0, [], []⟩ [Pr.mk' ⟨1, [], 0, 0, [], []⟩ (List.replicate 2 (Pd.nullP [120])), Pr.mk' ⟨2, [], 0, 0, [], []⟩ (List.replicate 1 (Pd.nullP [120])), Pr.mk' ⟨2, [], 0, 0, [], []⟩ []])), .inr (Pd.IsP (fun _ => True) (Pd.nullP [120])), .inr (Pd.IsP (fun _ => True) (Pd.ntN 1 (Pd.nullP [120]))), .inl (Value.slice ma 40 mc), .inl (Value.slice ma 2 mc), .inr (Pd.IsP (fun _ => True) (Pr.mk' ⟨2, [], 0, 0, [], []⟩ (List.replicate 2 (Pd.nullP [120])))), .inr (Pd.IsL [Pd.ntN 1 (Pd.nullP [120]), Pr.mk' ⟨2, [], 0, 0, [], []⟩ (List.replicate 2 (Pd.nullP [120]))]), .inr (Pd.IsP (fun _ => True) (Pr.mk' ⟨2, [], 0, 0, [], []⟩ [Pd.ntN 1 (Pd.nullP [120]), Pr.mk' ⟨2, [], 0, 0, [], []⟩ (List.replicate 2 (Pd.nullP [120]))])), .inr (Pd.IsP (fun _ => True) (Pd.ntN 1 (Pr.mk' ⟨2, [], 0, 0, [], []⟩ [Pd.ntN 1 (Pd.nullP [120]), Pr.mk' ⟨2, [], 0, 0, [], []⟩ (List.replicate 2 (Pd.nullP [120]))]))), .inr (Pd.IsP (fun _ => True) (Pr.mk' ⟨77, [], 0, 0, [], []⟩ [])), .inr (Pd.IsL [Pr.mk' ⟨77, [], 0, 0, [], []⟩ []]), .inr (Pd.IsP (fun _ => True) (Pr.mk' ⟨1, [], 0, 0, [], []⟩ [Pr.mk' ⟨77, [], 0, 0, [], []⟩ []])), .inr (Pd.IsP (fun _ => True) (Pr.mk' ⟨1, [], 0, 0, [120], []⟩ [])), .inr (Pd.IsL Pd.some36), .inr (Pd.IsL Pd.some36)] (Ex w8) Ex 86 (by kernel_rfl) rfl (by kernel_rfl) ?st hre (Ex.drew _) ?goods ?fin
        case st => exact ⟨Pd.IsP.stands _ _, Pd.IsP.stands _ _, Pd.IsP.stands _ _, Pd.IsP.stands _ _, Pd.IsP.stands _ _, Pd.IsP.stands _ _, Pd.IsP.stands _ _, Pd.IsP.stands _ _, Pd.IsP.stands _ _, Pd.IsP.stands _ _, Pd.IsP.stands _ _, Pd.IsP.stands _ _, Pd.IsP.stands _ _, Pd.IsP.stands _ _, Pd.IsP.stands _ _, Pd.IsP.stands _ _, Pd.IsP.stands _ _, Pd.IsP.stands _ _, Pd.IsP.stands _ _, Pd.IsP.stands _ _, IsRd.stands _, Pd.IsP.stands _ _, IsRd.stands _, Pd.IsP.stands _ _, IsRd.stands _, Pd.IsP.stands _ _, IsRd.stands _, Pd.IsP.stands _ _, IsRd.stands _, Pd.IsP.stands _ _, Pd.IsP.stands _ _, Pd.IsP.stands _ _, Pd.IsP.stands _ _, Pd.IsP.stands _ _, Pd.IsP.stands _ _, Pd.IsP.stands _ _, Pd.IsP.stands _ _, Pd.IsP.stands _ _, Pd.IsP.stands _ _, Pd.IsP.stands _ _, Pd.IsP.stands _ _, Pd.IsP.stands _ _, Pd.IsL.stands _, Pd.IsP.stands _ _, Pd.IsP.stands _ _, Pd.IsP.stands _ _, Pd.IsP.stands _ _, Pd.IsL.stands _, Pd.IsP.stands _ _, Pd.IsP.stands _ _, Pd.IsP.stands _ _, Pd.IsL.stands _, Pd.IsP.stands _ _, Pd.IsP.stands _ _, Pd.IsL.stands _, Pd.IsL.stands _, trivial⟩
        case goods =>
          refine Rg.goods_cons (good_bld ⟨0, [], 0, 0, [], (none, 0, 0), none, 0, 0⟩ rfl ?hr (fun w _ => lay_bare _ _ _ _ _ _ _)) ?_
          case hr => intro a w; simp [execOp, go_sem, pvv, sv, str, eval_const] <;> rfl
          refine Rg.goods_cons (good_bld ⟨11, [], 0, 0, [], (none, 0, 0), none, 0, 0⟩ rfl ?hr (fun w _ => lay_bare _ _ _ _ _ _ _)) ?_
          case hr => intro a w; simp [execOp, go_sem, pvv, sv, str, eval_const] <;> rfl
          refine Rg.goods_cons (good_bld ⟨1, [], 0, 0, [], (none, 0, 0), none, 0, 0⟩ rfl ?hr (fun w _ => lay_bare _ _ _ _ _ _ _)) ?_
          case hr => intro a w; simp [execOp, go_sem, pvv, sv, str, eval_const] <;> rfl
          refine Rg.goods_cons (good_bld ⟨2, [], 0, 0, [], (none, 0, 0), none, 0, 0⟩ rfl ?hr (fun w _ => lay_bare _ _ _ _ _ _ _)) ?_
          case hr => intro a w; simp [execOp, go_sem, pvv, sv, str, eval_const] <;> rfl
          refine Rg.goods_cons (good_bld ⟨3, [], 0, 0, [], (none, 0, 0), none, 0, 0⟩ rfl ?hr (fun w _ => lay_bare _ _ _ _ _ _ _)) ?_
          case hr => intro a w; simp [execOp, go_sem, pvv, sv, str, eval_const] <;> rfl
          refine Rg.goods_cons (Rg.good_move hre rfl rfl rfl) ?_
          refine Rg.goods_cons (Rg.good_slice2 hre rfl rfl rfl (by rintro u wx hC rfl; exact ⟨_, slice22 ma 40 mc 2 wx (by omega) (by unfold maxLen; omega), rfl⟩)) ?_
          refine Rg.goods_cons (good_bld1 ⟨3, [], 0, 0, [], (none, 0, 0), ma, 2, mc⟩ (.tmp 22) (Value.slice ma 2 mc) (by simp [Op.operands]) rfl rfl ?hx1 (fun w hX => lay_many 3 [] 2 (HM8.out.below hX) (by omega))) ?_
          case hx1 => intro a w hx; simp [go_sem] at hx; simp [execOp, hx, go_sem, pvv, sv, str, eval_const] <;> rfl
          refine Rg.goods_cons (good_ldn (HN8.out) rfl rfl rfl) ?_
          refine Rg.goods_cons (Rg.good_call2 Tryz.func28 (by kernel_rfl) rfl rfl rfl (by rintro y0 y1 wx hC ⟨u, rfl, hu⟩ rfl; exact nots_row _ 5 u wx hu (by omega) hC)) ?_
          refine Rg.goods_cons (good_ldn (HN8.out) rfl rfl rfl) ?_
          refine Rg.goods_cons (Rg.good_call2 Tryz.func28 (by kernel_rfl) rfl rfl rfl (by rintro y0 y1 wx hC ⟨u, rfl, hu⟩ rfl; exact nots_row _ 6 u wx hu (by omega) hC)) ?_
          refine Rg.goods_cons (Rg.good_move hre rfl rfl rfl) ?_
          refine Rg.goods_cons (Rg.good_slice2 hre rfl rfl rfl (by rintro u wx hC rfl; exact ⟨_, slice22 ma 40 mc 39 wx (by omega) (by unfold maxLen; omega), rfl⟩)) ?_
          refine Rg.goods_cons (good_bld1 ⟨1, [], 0, 0, [], (none, 0, 0), ma, 39, mc⟩ (.tmp 29) (Value.slice ma 39 mc) (by simp [Op.operands]) rfl rfl ?hx1 (fun w hX => lay_many 1 [] 39 (HM8.out.below hX) (by omega))) ?_
          case hx1 => intro a w hx; simp [go_sem] at hx; simp [execOp, hx, go_sem, pvv, sv, str, eval_const] <;> rfl
          refine Rg.goods_cons (Rg.good_move hre rfl rfl rfl) ?_
          refine Rg.goods_cons (good_bld1 ⟨1, [], 0, 0, [], (none, 0, 0), ma, 40, mc⟩ (.tmp 31) (Value.slice ma 40 mc) (by simp [Op.operands]) rfl rfl ?hx1 (fun w hX => lay_many 1 [] 40 (HM8.out.below hX) (by omega))) ?_
          case hx1 => intro a w hx; simp [go_sem] at hx; simp [execOp, hx, go_sem, pvv, sv, str, eval_const] <;> rfl
          refine Rg.goods_cons (good_bld ⟨4, [120], 5, 0, [], (none, 0, 0), none, 0, 0⟩ rfl ?hr (fun w _ => lay_bare _ _ _ _ _ _ _)) ?_
          case hr => intro a w; simp [execOp, go_sem, pvv, sv, str, eval_const] <;> rfl
          refine Rg.goods_cons (good_bld ⟨4, [120], 5, 1, [], (none, 0, 0), none, 0, 0⟩ rfl ?hr (fun w _ => lay_bare _ _ _ _ _ _ _)) ?_
          case hr => intro a w; simp [execOp, go_sem, pvv, sv, str, eval_const] <;> rfl
          refine Rg.goods_cons (good_bld ⟨5, [120], 5, 0, [], (none, 0, 0), none, 0, 0⟩ rfl ?hr (fun w _ => lay_bare _ _ _ _ _ _ _)) ?_
          case hr => intro a w; simp [execOp, go_sem, pvv, sv, str, eval_const] <;> rfl
          refine Rg.goods_cons (good_bld ⟨5, [120], 0, 0, [97], (none, 0, 0), none, 0, 0⟩ rfl ?hr (fun w _ => lay_bare _ _ _ _ _ _ _)) ?_
          case hr => intro a w; simp [execOp, go_sem, pvv, sv, str, eval_const] <;> rfl
          refine Rg.goods_cons (good_bld ⟨6, [120], 0, 0, [97], (none, 0, 0), none, 0, 0⟩ rfl ?hr (fun w _ => lay_bare _ _ _ _ _ _ _)) ?_
          case hr => intro a w; simp [execOp, go_sem, pvv, sv, str, eval_const] <;> rfl
          refine Rg.goods_cons (Rg.good_move hre rfl rfl rfl) ?_
          refine Rg.goods_cons (good_bld1 ⟨6, [120], 0, 0, (List.replicate 41 0), (none, 0, 0), none, 0, 0⟩ (.tmp 38) (.string (str (List.replicate 41 0))) (by simp [Op.operands]) rfl rfl ?hx1 (fun w _ => lay_bare _ _ _ _ _ _ _)) ?_
          case hx1 => intro a w hx; simp [go_sem] at hx; simp [execOp, hx, go_sem, pvv, sv, str, eval_const] <;> rfl
          refine Rg.goods_cons (good_bld ⟨6, [88], 0, 0, [97], (none, 0, 0), none, 0, 0⟩ rfl ?hr (fun w _ => lay_bare _ _ _ _ _ _ _)) ?_
          case hr => intro a w; simp [execOp, go_sem, pvv, sv, str, eval_const] <;> rfl
          refine Rg.goods_cons (good_bld ⟨7, [120], 0, 0, [], (none, 0, 0), none, 0, 0⟩ rfl ?hr (fun w _ => lay_bare _ _ _ _ _ _ _)) ?_
          case hr => intro a w; simp [execOp, go_sem, pvv, sv, str, eval_const] <;> rfl
          refine Rg.goods_cons (good_strs [.const (.string ⟨#[97]⟩), .const (.string ⟨#[98]⟩)] [[97], [98]] rfl rfl ⟨rfl, rfl, trivial⟩ rfl (by decide) (by decide)) ?_
          refine Rg.goods_cons (good_bset (.tmp 42) [[97], [98]] (by simp [Op.operands]) rfl rfl ?hx2) ?_
          case hx2 => intro a w b n c hx; simp [go_sem] at hx; simp [execOp, hx, go_sem, pvv, sv, str, eval_const] <;> rfl
          refine Rg.goods_cons (good_strs [.const (.string ⟨#[98]⟩), .const (.string ⟨#[97]⟩)] [[98], [97]] rfl rfl ⟨rfl, rfl, trivial⟩ rfl (by decide) (by decide)) ?_
          refine Rg.goods_cons (good_bset (.tmp 44) [[98], [97]] (by simp [Op.operands]) rfl rfl ?hx2) ?_
          case hx2 => intro a w b n c hx; simp [go_sem] at hx; simp [execOp, hx, go_sem, pvv, sv, str, eval_const] <;> rfl
          refine Rg.goods_cons (good_strs [.const (.string ⟨#[97]⟩), .const (.string ⟨#[97]⟩)] [[97], [97]] rfl rfl ⟨rfl, rfl, trivial⟩ rfl (by decide) (by decide)) ?_
          refine Rg.goods_cons (good_bset (.tmp 46) [[97], [97]] (by simp [Op.operands]) rfl rfl ?hx2) ?_
          case hx2 => intro a w b n c hx; simp [go_sem] at hx; simp [execOp, hx, go_sem, pvv, sv, str, eval_const] <;> rfl
          refine Rg.goods_cons (good_strs [.const (.string ⟨#[97]⟩), .const (.string ⟨#[98]⟩), .const (.string ⟨#[99]⟩), .const (.string ⟨#[100]⟩), .const (.string ⟨#[101]⟩), .const (.string ⟨#[102]⟩), .const (.string ⟨#[103]⟩), .const (.string ⟨#[104]⟩), .const (.string ⟨#[105]⟩)] [[97], [98], [99], [100], [101], [102], [103], [104], [105]] rfl rfl ⟨rfl, rfl, rfl, rfl, rfl, rfl, rfl, rfl, rfl, trivial⟩ rfl (by decide) (by decide)) ?_
          refine Rg.goods_cons (good_bset (.tmp 48) [[97], [98], [99], [100], [101], [102], [103], [104], [105]] (by simp [Op.operands]) rfl rfl ?hx2) ?_
          case hx2 => intro a w b n c hx; simp [go_sem] at hx; simp [execOp, hx, go_sem, pvv, sv, str, eval_const] <;> rfl
          refine Rg.goods_cons (Rg.good_move hre rfl rfl rfl) ?_
          refine Rg.goods_cons (good_strs [.tmp 50] [(List.replicate 41 0)] rfl rfl ⟨rfl, trivial⟩ rfl (by decide) (by decide)) ?_
          refine Rg.goods_cons (good_bset (.tmp 51) [(List.replicate 41 0)] (by simp [Op.operands]) rfl rfl ?hx2) ?_
          case hx2 => intro a w b n c hx; simp [go_sem] at hx; simp [execOp, hx, go_sem, pvv, sv, str, eval_const] <;> rfl
          refine Rg.goods_cons (good_bld ⟨8, [120], 0, 0, [], (none, 0, 0), none, 0, 0⟩ rfl ?hr (fun w _ => lay_bare _ _ _ _ _ _ _)) ?_
          case hr => intro a w; simp [execOp, go_sem, pvv, sv, str, eval_const] <;> rfl
          refine Rg.goods_cons (good_bld ⟨8, [120], 0, 0, [97, 98], (none, 0, 0), none, 0, 0⟩ rfl ?hr (fun w _ => lay_bare _ _ _ _ _ _ _)) ?_
          case hr => intro a w; simp [execOp, go_sem, pvv, sv, str, eval_const] <;> rfl
          refine Rg.goods_cons (good_ldn (HN8.out) rfl rfl rfl) ?_
          refine Rg.goods_cons (good_bld ⟨9, [], 0, 0, [], (none, 0, 0), none, 0, 0⟩ rfl ?hr (fun w _ => lay_bare _ _ _ _ _ _ _)) ?_
          case hr => intro a w; simp [execOp, go_sem, pvv, sv, str, eval_const] <;> rfl
          refine Rg.goods_cons (good_bld ⟨9, [120], 1, 0, [], (none, 0, 0), none, 0, 0⟩ rfl ?hr (fun w _ => lay_bare _ _ _ _ _ _ _)) ?_
          case hr => intro a w; simp [execOp, go_sem, pvv, sv, str, eval_const] <;> rfl
          refine Rg.goods_cons (Rg.good_move hre rfl rfl rfl) ?_
          refine Rg.goods_cons (Rg.good_slice2 hre rfl rfl rfl (by rintro u wx hC rfl; exact ⟨_, slice22 ma 40 mc 1 wx (by omega) (by unfold maxLen; omega), rfl⟩)) ?_
          refine Rg.goods_cons (good_bld1 ⟨9, [120], 0, 0, [], (none, 0, 0), ma, 1, mc⟩ (.tmp 59) (Value.slice ma 1 mc) (by simp [Op.operands]) rfl rfl ?hx1 (fun w hX => lay_many 9 [120] 1 (HM8.out.below hX) (by omega))) ?_
          case hx1 => intro a w hx; simp [go_sem] at hx; simp [execOp, hx, go_sem, pvv, sv, str, eval_const] <;> rfl
          refine Rg.goods_cons (good_bld ⟨10, [], 5, 3, [], (none, 0, 0), none, 0, 0⟩ rfl ?hr (fun w _ => lay_bare _ _ _ _ _ _ _)) ?_
          case hr => intro a w; simp [execOp, go_sem, pvv, sv, str, eval_const] <;> rfl
          refine Rg.goods_cons (good_bld ⟨10, [], 3, 5, [], (none, 0, 0), none, 0, 0⟩ rfl ?hr (fun w _ => lay_bare _ _ _ _ _ _ _)) ?_
          case hr => intro a w; simp [execOp, go_sem, pvv, sv, str, eval_const] <;> rfl
          refine Rg.goods_cons (good_bld ⟨10, [120], 0, 0, [], (none, 0, 0), none, 0, 0⟩ rfl ?hr (fun w _ => lay_bare _ _ _ _ _ _ _)) ?_
          case hr => intro a w; simp [execOp, go_sem, pvv, sv, str, eval_const] <;> rfl
          refine Rg.goods_cons (Rg.good_move hre rfl rfl rfl) ?_
          refine Rg.goods_cons (Rg.good_slice2 hre rfl rfl rfl (by rintro u wx hC rfl; exact ⟨_, slice22 ma 40 mc 2 wx (by omega) (by unfold maxLen; omega), rfl⟩)) ?_
          refine Rg.goods_cons (good_bld1 ⟨1, [], 0, 0, [], (none, 0, 0), ma, 2, mc⟩ (.tmp 65) (Value.slice ma 2 mc) (by simp [Op.operands]) rfl rfl ?hx1 (fun w hX => lay_many 1 [] 2 (HM8.out.below hX) (by omega))) ?_
          case hx1 => intro a w hx; simp [go_sem] at hx; simp [execOp, hx, go_sem, pvv, sv, str, eval_const] <;> rfl
          refine Rg.goods_cons (Rg.good_move hre rfl rfl rfl) ?_
          refine Rg.goods_cons (Rg.good_slice2 hre rfl rfl rfl (by rintro u wx hC rfl; exact ⟨_, slice22 ma 40 mc 1 wx (by omega) (by unfold maxLen; omega), rfl⟩)) ?_
          refine Rg.goods_cons (good_bld1 ⟨2, [], 0, 0, [], (none, 0, 0), ma, 1, mc⟩ (.tmp 68) (Value.slice ma 1 mc) (by simp [Op.operands]) rfl rfl ?hx1 (fun w hX => lay_many 2 [] 1 (HM8.out.below hX) (by omega))) ?_
          case hx1 => intro a w hx; simp [go_sem] at hx; simp [execOp, hx, go_sem, pvv, sv, str, eval_const] <;> rfl
          refine Rg.goods_cons (good_bld ⟨2, [], 0, 0, [], (none, 0, 0), none, 0, 0⟩ rfl ?hr (fun w _ => lay_bare _ _ _ _ _ _ _)) ?_
          case hr => intro a w; simp [execOp, go_sem, pvv, sv, str, eval_const] <;> rfl
          refine Rg.goods_cons (good_prs [.tmp 66, .tmp 69, .tmp 70] [Pr.mk' ⟨1, [], 0, 0, [], []⟩ (List.replicate 2 (Pd.nullP [120])), Pr.mk' ⟨2, [], 0, 0, [], []⟩ (List.replicate 1 (Pd.nullP [120])), Pr.mk' ⟨2, [], 0, 0, [], []⟩ []] rfl rfl ⟨rfl, rfl, rfl, trivial⟩ rfl (by decide) (by decide)) ?_
          refine Rg.goods_cons (good_bkid (.tmp 71) [Pr.mk' ⟨1, [], 0, 0, [], []⟩ (List.replicate 2 (Pd.nullP [120])), Pr.mk' ⟨2, [], 0, 0, [], []⟩ (List.replicate 1 (Pd.nullP [120])), Pr.mk' ⟨2, [], 0, 0, [], []⟩ []] (by simp [Op.operands]) rfl rfl ?hx2) ?_
          case hx2 => intro a w b n c hx; simp [go_sem] at hx; simp [execOp, hx, go_sem, pvv, sv, str, eval_const] <;> rfl
          refine Rg.goods_cons (good_ldn (HN8.out) rfl rfl rfl) ?_
          refine Rg.goods_cons (Rg.good_call2 Tryz.func28 (by kernel_rfl) rfl rfl rfl (by rintro y0 y1 wx hC ⟨u, rfl, hu⟩ rfl; exact nots_row _ 1 u wx hu (by omega) hC)) ?_
          refine Rg.goods_cons (Rg.good_move hre rfl rfl rfl) ?_
          refine Rg.goods_cons (Rg.good_slice2 hre rfl rfl rfl (by rintro u wx hC rfl; exact ⟨_, slice22 ma 40 mc 2 wx (by omega) (by unfold maxLen; omega), rfl⟩)) ?_
          refine Rg.goods_cons (good_bld1 ⟨2, [], 0, 0, [], (none, 0, 0), ma, 2, mc⟩ (.tmp 76) (Value.slice ma 2 mc) (by simp [Op.operands]) rfl rfl ?hx1 (fun w hX => lay_many 2 [] 2 (HM8.out.below hX) (by omega))) ?_
          case hx1 => intro a w hx; simp [go_sem] at hx; simp [execOp, hx, go_sem, pvv, sv, str, eval_const] <;> rfl
          refine Rg.goods_cons (good_prs [.tmp 74, .tmp 77] [Pd.ntN 1 (Pd.nullP [120]), Pr.mk' ⟨2, [], 0, 0, [], []⟩ (List.replicate 2 (Pd.nullP [120]))] rfl rfl ⟨rfl, rfl, trivial⟩ rfl (by decide) (by decide)) ?_
          refine Rg.goods_cons (good_bkid (.tmp 78) [Pd.ntN 1 (Pd.nullP [120]), Pr.mk' ⟨2, [], 0, 0, [], []⟩ (List.replicate 2 (Pd.nullP [120]))] (by simp [Op.operands]) rfl rfl ?hx2) ?_
          case hx2 => intro a w b n c hx; simp [go_sem] at hx; simp [execOp, hx, go_sem, pvv, sv, str, eval_const] <;> rfl
          refine Rg.goods_cons (Rg.good_call2 Tryz.func28 (by kernel_rfl) rfl rfl rfl (by rintro y0 y1 wx hC ⟨u, rfl, hu⟩ rfl; exact nots_row _ 1 u wx hu (by omega) hC)) ?_
          refine Rg.goods_cons (good_bld ⟨77, [], 0, 0, [], (none, 0, 0), none, 0, 0⟩ rfl ?hr (fun w _ => lay_bare _ _ _ _ _ _ _)) ?_
          case hr => intro a w; simp [execOp, go_sem, pvv, sv, str, eval_const] <;> rfl
          refine Rg.goods_cons (good_prs [.tmp 81] [Pr.mk' ⟨77, [], 0, 0, [], []⟩ []] rfl rfl ⟨rfl, trivial⟩ rfl (by decide) (by decide)) ?_
          refine Rg.goods_cons (good_bkid (.tmp 82) [Pr.mk' ⟨77, [], 0, 0, [], []⟩ []] (by simp [Op.operands]) rfl rfl ?hx2) ?_
          case hx2 => intro a w b n c hx; simp [go_sem] at hx; simp [execOp, hx, go_sem, pvv, sv, str, eval_const] <;> rfl
          refine Rg.goods_cons (good_bld ⟨1, [], 0, 0, [120], (none, 0, 0), none, 0, 0⟩ rfl ?hr (fun w _ => lay_bare _ _ _ _ _ _ _)) ?_
          case hr => intro a w; simp [execOp, go_sem, pvv, sv, str, eval_const] <;> rfl
          refine Rg.goods_cons (good_prs [.tmp 16, .tmp 17, .tmp 18, .tmp 19, .tmp 20, .tmp 23, .tmp 25, .tmp 27, .tmp 30, .tmp 32, .tmp 33, .tmp 34, .tmp 35, .tmp 36, .tmp 37, .tmp 39, .tmp 40, .tmp 41, .tmp 43, .tmp 45, .tmp 47, .tmp 49, .tmp 52, .tmp 53, .tmp 54, .tmp 55, .tmp 56, .tmp 57, .tmp 60, .tmp 61, .tmp 62, .tmp 63, .tmp 72, .tmp 80, .tmp 83, .tmp 84] Pd.some36 rfl rfl ⟨rfl, rfl, rfl, rfl, rfl, rfl, rfl, rfl, rfl, rfl, rfl, rfl, rfl, rfl, rfl, rfl, rfl, rfl, rfl, rfl, rfl, rfl, rfl, rfl, rfl, rfl, rfl, rfl, rfl, rfl, rfl, rfl, rfl, rfl, rfl, rfl, trivial⟩ rfl (by decide) (by decide)) ?_
          refine Rg.goods_cons (Rg.good_assign hre rfl rfl rfl) ?_
          exact Rg.goods_nil
        case fin =>
          intro wx hx
          simp only [Rg.later, List.append, Act.put, List.setIfInBounds_toArray, List.set_cons_succ, List.set_cons_zero]
          intro _ _ _ _ _ _ _ _ _ _ _ _ _ _ _ _ _ _ _ _ _ _ _ _ _ _ _ _ _ _ _ _ _ _ _ _ _ _ _ _ _ _ _ _ _ _ _ _ _ _ _ _ _ _ _ _ _ _ _ _ _ _ _ _ _ _ _ _ _ _ _ _ _ _ _ _ _ _ _ _ _ _ _ _ _ _ _ _ _ _ _ _ _ _ _ _ _ _ _ _ _ _ _ _ _ _ _ _ _ _ vlast hlast
          have HXx : Hid (Ex w wx) := (HX8.out.trans hx : Ex w wx)
          have HLL : Hid (Pd.IsL Pd.some36 vlast wx) := (hlast : Pd.IsL _ _ _)
          clear hx
          go_wp2_with fail
          go_ret
          exact ⟨_, rfl, HLL.out, HXx.out⟩
end Go.Proofs.YtbdjccmlgdfapaaGreat
namespace Go.Proofs.YtbdjccmlgdfapaaGreat
open Go.RowKit
set_option linter.unusedVariables false
set_option linter.unusedSimpArgs false
set_option maxHeartbeats 400000 in
set_option maxRecDepth 100000 in
theorem at_is (t q : Int) (p : Option Addr) (n c : Nat) (l : List Ce) (w : World) (hn : n = l.length) (hB : RdC w p c l) (hl : l.length ≤ 2932031007402) :
    Calls Tryz.prog 29 #[.int .i64 t, .int .i64 q, .slice p n c] w fun e w' => ∃ s : SV, e = .returned (rvv ⟨t, q, s⟩) ∧ s.2.1 = l.length ∧ OwnC w' w.heap.size (sv s) l ∧ Ex w w' := by
  subst hn
  have h2 := hB.2.1
  have h1 := hB.1
  unfold maxLen at h2
  have HX : Hid (Ex w ((w.alloc (rb ⟨0, 0, none, 0, 0⟩)).alloc (.cells #[] 58))) := (((Below.refl _ _).alloc (Nat.le_refl _) _).alloc (by simp) _ : Ex w _)
  have HB : Hid (RdC ((w.alloc (rb ⟨0, 0, none, 0, 0⟩)).alloc (.cells #[] 58)) p c l) := hB.below HX.out
  have HO : Hid (OwnC ((w.alloc (rb ⟨0, 0, none, 0, 0⟩)).alloc (.cells #[] 58)) (w.heap.size + 1) (.slice (some ⟨w.heap.size + 1, 0, none⟩) 0 0) []) := (by have h := ownW_empty (t := 58) (k := 4) (fl := cc) (w.alloc (rb ⟨0, 0, none, 0, 0⟩)) (w.heap.size + 1) (by simp); rw [show (w.alloc (rb ⟨0, 0, none, 0, 0⟩)).heap.size = w.heap.size + 1 by simp] at h; exact h : OwnC _ (w.heap.size + 1) (.slice (some ⟨w.heap.size + 1, 0, none⟩) 0 0) [])
  have HL : Hid (LAt ((w.alloc (rb ⟨0, 0, none, 0, 0⟩)).alloc (.cells #[] 58)) w.heap.size ⟨0, 0, none, 0, 0⟩) := (LAt.new w ⟨0, 0, none, 0, 0⟩).alloc _
  clear hB
  obtain ⟨W, hW⟩ : ∃ W, W = (w.alloc (rb ⟨0, 0, none, 0, 0⟩)).alloc (.cells #[] 58) := ⟨_, rfl⟩
  have hsz : (w.alloc (rb ⟨0, 0, none, 0, 0⟩)).heap.size = w.heap.size + 1 := by simp
  have hszW : w.heap.size + 1 ≤ W.heap.size := by rw [hW]; simp
  rw [← hW] at HX HB HO HL
  have hstep : ∀ v9 w9, OwnC w9 (w.heap.size + 1) v9 ([] ++ l) → W.grownBy w9 (Value.slice (some ⟨w.heap.size + 1, 0, none⟩) 0 0).ownBlock → ∃ a9 c9, v9 = .slice a9 l.length c9 ∧ Hid (OwnC w9 (w.heap.size + 1) (.slice a9 l.length c9) l) ∧ Hid (Ex w w9) ∧ Hid (LAt w9 w.heap.size ⟨0, 0, none, 0, 0⟩) ∧
      (w9.cell? ⟨w.heap.size, 0, none⟩ = some (.int .i64 0) ∧ w9.cell? ⟨w.heap.size, 1, none⟩ = some (.int .i64 0) ∧ w9.cell? ⟨w.heap.size, 2, none⟩ = some (.slice none 0 0)) ∧ w9.frozen? ⟨w.heap.size, 0, none⟩ = false ∧ w9.frozen? ⟨w.heap.size, 1, none⟩ = false ∧ w9.frozen? ⟨w.heap.size, 2, none⟩ = false := by
    intro v9 w9 ho9 hg9
    rw [List.nil_append] at ho9
    obtain ⟨a9, c9, rfl, hb9⟩ := ho9.rd cc_len
    have hL9 : LAt w9 w.heap.size ⟨0, 0, none, 0, 0⟩ := HL.out.far hg9 (by simp [Value.ownBlock])
    exact ⟨a9, c9, rfl, ho9, HX.out.grown hg9 (by omega) (fun k hk => by simp [Value.ownBlock] at hk; omega), hL9, hL9.all, hL9.fro⟩
  have HW : Hid (W = (w.alloc (rb ⟨0, 0, none, 0, 0⟩)).alloc (.cells #[] 58)) := hW
  clear hW
  go_enter Tryz.func29, Tryz.ntmps29
  go_wp2_with (at_builtin; rw [← HW.out]; refine wpList_append_wide cc_len cc_one rfl (.tmp 9) (.tmp 10) 42 _ 48 rfl Tryz.underlying42 Tryz.info58 (by omega) rfl (w.heap.size + 1) _ [] rfl HO.out p l.length c l rfl rfl HB.out (by simp [maxLen]; omega) (by simp; omega) hszW ?_; intro v9 w9 ho9 hg9 _; obtain ⟨a9, c9, rfl, HO9, HX9, HL9, ⟨j0, j1, j2⟩, k0, k1, k2⟩ := hstep v9 w9 ho9 hg9; clear ho9 hg9)
  have hL9 := LAt.store HL9.out ⟨t, q, a9, l.length, c9⟩
  have hX9 := Below.lset HX9.out (Nat.le_refl _) ⟨t, q, a9, l.length, c9⟩
  have hO9 : OwnC (lset w9 w.heap.size ⟨t, q, a9, l.length, c9⟩) w.heap.size (.slice a9 l.length c9) l := OwnW.mono (OwnW.other (OwnW.other (OwnW.other HO9.out (Nat.lt_succ_self _)) (Nat.lt_succ_self _)) (Nat.lt_succ_self _)) (Nat.le_succ _)
  refine bodyPost_ret (v := rvv ⟨t, q, a9, l.length, c9⟩) (res_row Tryz.results29 rfl hL9) rfl ?_
  exact ⟨⟨a9, l.length, c9⟩, rfl, rfl, hO9, hX9⟩
/-- A value is a slice of such cells. -/
def IsC (l : List Ce) (v : Value) (w : World) : Prop := ∃ a cap, v = .slice a l.length cap ∧ RdC w a cap l
theorem IsC.stands (l : List Ce) : ∀ v w w', IsC l v w → Ex w w' → IsC l v w' := by
  rintro v w w' ⟨a, cap, rfl, h⟩ hx
  exact ⟨a, cap, rfl, RdW.below h hx⟩
/-- A value is such a row. -/
def IsR (r : Rw) (v : Value) (w : World) : Prop := ∃ u, v = rvv u ∧ RvOk w u r
theorem IsR.stands (r : Rw) : ∀ v w w', IsR r v w → Ex w w' → IsR r v w' := by
  rintro v w w' ⟨u, rfl, h⟩ hx
  exact ⟨u, rfl, h.below hx⟩
def IsRs (l : List Rw) (v : Value) (w : World) : Prop := ∃ a cap, v = .slice a l.length cap ∧ RdR w a cap l
theorem IsRs.stands (l : List Rw) : ∀ v w w', IsRs l v w → Ex w w' → IsRs l v w' := by
  rintro v w w' ⟨a, cap, rfl, h⟩ hx
  exact ⟨a, cap, rfl, h.below hx⟩
namespace Rg
theorem vals_rws {w : World} : ∀ (vs : List Value) (ps : List Rw), Vals w vs (ps.map fun p => (.inr (IsR p) : Spec)) → ∃ us : List RV, vs = us.map rvv ∧ EachR w us ps
  | [], [], _ => ⟨[], rfl, rfl, fun i v r h1 _ => by simp at h1⟩
  | v :: vs, p :: ps, h => by
    obtain ⟨u, hu, hL⟩ := h.1
    obtain ⟨us, e, hl⟩ := vals_rws vs ps h.2
    refine ⟨u :: us, by rw [hu, e]; rfl, by simp [hl.1], fun i v r h1 h2 => ?_⟩
    cases i with
    | zero => simp at h1 h2; subst h1; subst h2; exact hL
    | succ i => simp at h1 h2; exact hl.2 i v r h1 h2
  | [], _ :: _, h => h.elim
  | _ :: _, [], h => h.elim
end Rg
section
variable {ops : Array Oper} {specs : List Rg.Spec} {a0 : Act} {w1 : World} {o : Oper}
theorem good_cells (xs : List Operand) (cs' : List Ce) (ho : o.op = .buildSlice 42 xs.length ((xs.zipIdx 0).map fun x => (x.2, x.1)).toArray) (hg : Rg.guardV ops specs a0 o = some true) (hx : Rg.Args ops specs a0 xs (cs'.map fun c => (.inl (cv c) : Rg.Spec))) (hl : xs.length = cs'.length) (h0 : 0 < xs.length) (h1 : xs.length ≤ 100) :
    Rg.GoodOp Tryz.prog ops specs a0 (Ex w1) Ex o (.inr (IsC cs')) :=
  Rg.good_of hg fun Q a w hC hh => by
    have e := Rg.vals_inl cv _ cs' (Rg.args_vals xs _ hx (fun x hm => hh x (Rg.lit_opers ho x hm)))
    obtain ⟨i0, hi, hz0, hz1, hz2⟩ := info_parts Tryz.info58
    have hr := run_lit a.eval w 42 58 4 i0 _ xs (cs'.map cv) ho Tryz.underlying42 hi hz0 hz1 (by decide) h0 (by omega) e (by intro v hv; obtain ⟨u, _, rfl⟩ := List.mem_map.1 hv; rfl)
    have hf : ((cs'.map cv).flatMap fun v => v.cells.toList) = flat cc cs' := by rw [List.flatMap_map]; rfl
    rw [hf] at hr
    have hal : Ex w (w.alloc (.cells (flat cc cs').toArray 58)) := (Below.refl _ _).alloc (Nat.le_refl _) _
    refine Rg.Fr.wp_val hr ⟨_, rfl, ?_, hal, hC.trans hal⟩
    refine ⟨some ⟨w.heap.size, 0, none⟩, xs.length, by rw [hl], ?_⟩
    rw [hl]
    exact RdW.laid cc_len w cs' (by omega)
theorem good_rws (xs : List Operand) (ps : List Rw) (ho : o.op = .buildSlice 24 xs.length ((xs.zipIdx 0).map fun x => (x.2, x.1)).toArray) (hg : Rg.guardV ops specs a0 o = some true) (hx : Rg.Args ops specs a0 xs (ps.map fun p => (.inr (IsR p) : Rg.Spec))) (hl : xs.length = ps.length) (h0 : 0 < xs.length) (h1 : xs.length ≤ 100) :
    Rg.GoodOp Tryz.prog ops specs a0 (Ex w1) Ex o (.inr (IsRs ps)) :=
  Rg.good_of hg fun Q a w hC hh => by
    obtain ⟨us, hus, hL⟩ := Rg.vals_rws _ _ (Rg.args_vals xs _ hx (fun x hm => hh x (Rg.lit_opers ho x hm)))
    obtain ⟨i0, hi, hz0, hz1, hz2⟩ := info_parts Tryz.info44
    have hr := run_lit a.eval w 24 44 3 i0 _ xs (us.map rvv) ho Tryz.underlying24 hi hz0 hz1 (by decide) h0 (by omega) hus (by intro v hv; obtain ⟨u, _, rfl⟩ := List.mem_map.1 hv; rfl)
    have hf : ((us.map rvv).flatMap fun v => v.cells.toList) = flat rc us := by rw [List.flatMap_map]; rfl
    rw [hf] at hr
    have hul : xs.length = us.length := by have := congrArg List.length hus; simpa using this
    have hal : Ex w (w.alloc (.cells (flat rc us).toArray 44)) := (Below.refl _ _).alloc (Nat.le_refl _) _
    refine Rg.Fr.wp_val hr ⟨_, rfl, ?_, hal, hC.trans hal⟩
    refine ⟨some ⟨w.heap.size, 0, none⟩, xs.length, by rw [hl], us, ?_, hL.below hal⟩
    rw [hul]
    exact RdW.laid rc_len w us (by omega)
end
theorem at_row {w1 : World} (t q : Int) (l : List Ce) (v : Value) (wx : World) (hv : IsC l v wx) (hl : l.length ≤ 100) (hC : Ex w1 wx) : Calls Tryz.prog 29 #[.int .i64 t, .int .i64 q, v] wx (fun e w' => ∃ u, e = .returned u ∧ Rg.Spec.ok (.inr (IsR ⟨t, q, l⟩)) u w' ∧ Ex wx w' ∧ Ex w1 w') := by
  obtain ⟨a, cap, rfl, h⟩ := hv
  refine (at_is t q a l.length cap l wx rfl h (by omega)).mono ?_
  rintro e w' ⟨⟨sa, sn, sc⟩, rfl, hn, hO, hx⟩
  obtain ⟨b, c, e2, hR⟩ := OwnW.rd cc_len hO
  simp only [sv, Value.slice.injEq] at e2
  obtain ⟨rfl, rfl, rfl⟩ := e2
  exact ⟨_, rfl, ⟨_, rfl, rfl, rfl, rfl, hR⟩, hx, hC.trans hx⟩
def rows7 : List Rw := [⟨0, 0, []⟩, ⟨4, 0, [⟨[120], 1, 5, []⟩]⟩, ⟨5, 0, [⟨[120], 1, 4, []⟩]⟩, ⟨3, 1, [⟨[120], 2, 0, [97]⟩]⟩, ⟨2, 1, [⟨[120], 2, 0, [97, 98, 99]⟩]⟩, ⟨6, 1, [⟨[120], 2, 0, []⟩]⟩, ⟨4, 1, [⟨[119], 1, 5, []⟩, ⟨[121], 2, 0, [97]⟩]⟩]
section
variable {ops : Array Oper} {specs : List Rg.Spec} {a0 : Act} {w1 : World} {o : Oper}
theorem good_row0 (ho : o.op = .build 44 #[]) (hg : Rg.guardV ops specs a0 o = some true) : Rg.GoodOp Tryz.prog ops specs a0 (Ex w1) Ex o (.inr (IsR ⟨0, 0, []⟩)) :=
  Rg.good_val Ex.refl hg fun a w hC _ => ⟨rvv ⟨0, 0, none, 0, 0⟩, by simp [execOp, ho, go_sem, rvv, sv], _, rfl, rfl, rfl, rfl, RdW.nil _⟩
end
set_option maxHeartbeats 16000000 in
set_option maxRecDepth 100000 in
theorem lrows_is (w : World) : Calls Tryz.prog 6 #[] w fun e w' => ∃ v, e = .returned v ∧ IsRs rows7 v w' ∧ Ex w w' := by
  go_enter Tryz.func6, Tryz.ntmps6
  go_upto_region 1 with fail
  have hre := Ex.refl
  refine Rg.wp_rows_in [.inr (IsR ⟨0, 0, []⟩), .inl (cv ⟨[120], 1, 5, []⟩), .inr (IsC [⟨[120], 1, 5, []⟩]), .inr (IsR ⟨4, 0, [⟨[120], 1, 5, []⟩]⟩), .inl (cv ⟨[120], 1, 4, []⟩), .inr (IsC [⟨[120], 1, 4, []⟩]), .inr (IsR ⟨5, 0, [⟨[120], 1, 4, []⟩]⟩), .inl (cv ⟨[120], 2, 0, [97]⟩), .inr (IsC [⟨[120], 2, 0, [97]⟩]), .inr (IsR ⟨3, 1, [⟨[120], 2, 0, [97]⟩]⟩), .inl (cv ⟨[120], 2, 0, [97, 98, 99]⟩), .inr (IsC [⟨[120], 2, 0, [97, 98, 99]⟩]), .inr (IsR ⟨2, 1, [⟨[120], 2, 0, [97, 98, 99]⟩]⟩), .inl (cv ⟨[120], 2, 0, []⟩), .inr (IsC [⟨[120], 2, 0, []⟩]), .inr (IsR ⟨6, 1, [⟨[120], 2, 0, []⟩]⟩), .inl (cv ⟨[119], 1, 5, []⟩), .inl (cv ⟨[121], 2, 0, [97]⟩), .inr (IsC [⟨[119], 1, 5, []⟩, ⟨[121], 2, 0, [97]⟩]), .inr (IsR ⟨4, 1, [⟨[119], 1, 5, []⟩, ⟨[121], 2, 0, [97]⟩]⟩), .inr (IsRs rows7), .inr (IsRs rows7)] (Ex w) Ex 22 rfl (by kernel_rfl) ?st hre (Ex.refl _) ?goods ?fin
  case st => exact ⟨IsR.stands _, IsC.stands _, IsR.stands _, IsC.stands _, IsR.stands _, IsC.stands _, IsR.stands _, IsC.stands _, IsR.stands _, IsC.stands _, IsR.stands _, IsC.stands _, IsR.stands _, IsRs.stands _, IsRs.stands _, trivial⟩
  case goods =>
    refine Rg.goods_cons (good_row0 rfl rfl) ?_
    refine Rg.goods_cons (Rg.good_call2 Tryz.func30 (by kernel_rfl) rfl rfl rfl (by rintro y0 y1 wx hC rfl rfl; exact ex_rowP (num_is [120] 5 wx) hC)) ?_
    refine Rg.goods_cons (good_cells [.tmp 2] [⟨[120], 1, 5, []⟩] rfl rfl ⟨rfl, trivial⟩ rfl (by decide) (by decide)) ?_
    refine Rg.goods_cons (Rg.good_call3 Tryz.func29 (by kernel_rfl) rfl rfl rfl (by rintro y0 y1 y2 wx hC rfl rfl hv; exact at_row 4 0 [⟨[120], 1, 5, []⟩] y2 wx hv (by decide) hC)) ?_
    refine Rg.goods_cons (Rg.good_call2 Tryz.func30 (by kernel_rfl) rfl rfl rfl (by rintro y0 y1 wx hC rfl rfl; exact ex_rowP (num_is [120] 4 wx) hC)) ?_
    refine Rg.goods_cons (good_cells [.tmp 5] [⟨[120], 1, 4, []⟩] rfl rfl ⟨rfl, trivial⟩ rfl (by decide) (by decide)) ?_
    refine Rg.goods_cons (Rg.good_call3 Tryz.func29 (by kernel_rfl) rfl rfl rfl (by rintro y0 y1 y2 wx hC rfl rfl hv; exact at_row 5 0 [⟨[120], 1, 4, []⟩] y2 wx hv (by decide) hC)) ?_
    refine Rg.goods_cons (Rg.good_call2 Tryz.func31 (by kernel_rfl) rfl rfl rfl (by rintro y0 y1 wx hC rfl rfl; exact ex_rowP (strc_is [120] [97] wx) hC)) ?_
    refine Rg.goods_cons (good_cells [.tmp 8] [⟨[120], 2, 0, [97]⟩] rfl rfl ⟨rfl, trivial⟩ rfl (by decide) (by decide)) ?_
    refine Rg.goods_cons (Rg.good_call3 Tryz.func29 (by kernel_rfl) rfl rfl rfl (by rintro y0 y1 y2 wx hC rfl rfl hv; exact at_row 3 1 [⟨[120], 2, 0, [97]⟩] y2 wx hv (by decide) hC)) ?_
    refine Rg.goods_cons (Rg.good_call2 Tryz.func31 (by kernel_rfl) rfl rfl rfl (by rintro y0 y1 wx hC rfl rfl; exact ex_rowP (strc_is [120] [97, 98, 99] wx) hC)) ?_
    refine Rg.goods_cons (good_cells [.tmp 11] [⟨[120], 2, 0, [97, 98, 99]⟩] rfl rfl ⟨rfl, trivial⟩ rfl (by decide) (by decide)) ?_
    refine Rg.goods_cons (Rg.good_call3 Tryz.func29 (by kernel_rfl) rfl rfl rfl (by rintro y0 y1 y2 wx hC rfl rfl hv; exact at_row 2 1 [⟨[120], 2, 0, [97, 98, 99]⟩] y2 wx hv (by decide) hC)) ?_
    refine Rg.goods_cons (Rg.good_call2 Tryz.func31 (by kernel_rfl) rfl rfl rfl (by rintro y0 y1 wx hC rfl rfl; exact ex_rowP (strc_is [120] [] wx) hC)) ?_
    refine Rg.goods_cons (good_cells [.tmp 14] [⟨[120], 2, 0, []⟩] rfl rfl ⟨rfl, trivial⟩ rfl (by decide) (by decide)) ?_
    refine Rg.goods_cons (Rg.good_call3 Tryz.func29 (by kernel_rfl) rfl rfl rfl (by rintro y0 y1 y2 wx hC rfl rfl hv; exact at_row 6 1 [⟨[120], 2, 0, []⟩] y2 wx hv (by decide) hC)) ?_
    refine Rg.goods_cons (Rg.good_call2 Tryz.func30 (by kernel_rfl) rfl rfl rfl (by rintro y0 y1 wx hC rfl rfl; exact ex_rowP (num_is [119] 5 wx) hC)) ?_
    refine Rg.goods_cons (Rg.good_call2 Tryz.func31 (by kernel_rfl) rfl rfl rfl (by rintro y0 y1 wx hC rfl rfl; exact ex_rowP (strc_is [121] [97] wx) hC)) ?_
    refine Rg.goods_cons (good_cells [.tmp 17, .tmp 18] [⟨[119], 1, 5, []⟩, ⟨[121], 2, 0, [97]⟩] rfl rfl ⟨rfl, rfl, trivial⟩ rfl (by decide) (by decide)) ?_
    refine Rg.goods_cons (Rg.good_call3 Tryz.func29 (by kernel_rfl) rfl rfl rfl (by rintro y0 y1 y2 wx hC rfl rfl hv; exact at_row 4 1 [⟨[119], 1, 5, []⟩, ⟨[121], 2, 0, [97]⟩] y2 wx hv (by decide) hC)) ?_
    refine Rg.goods_cons (good_rws [.tmp 1, .tmp 4, .tmp 7, .tmp 10, .tmp 13, .tmp 16, .tmp 20] rows7 rfl rfl ⟨rfl, rfl, rfl, rfl, rfl, rfl, rfl, trivial⟩ rfl (by decide) (by decide)) ?_
    refine Rg.goods_cons (Rg.good_assign hre rfl rfl rfl) ?_
    exact Rg.goods_nil
  case fin =>
    intro wx hx
    simp only [Rg.later, Act.put, List.setIfInBounds_toArray, List.set_cons_succ, List.set_cons_zero]
    intro _ _ _ _ _ _ _ _ _ _ _ _ _ _ _ _ _ _ _ _ _ _ _ _ _ _ _ _ vlast hlast
    have HXx : Hid (Ex w wx) := hx
    have HLL : Hid (IsRs rows7 vlast wx) := (hlast : IsRs _ _ _)
    clear hx
    go_wp2_with fail
    go_ret
    exact ⟨_, rfl, HLL.out, HXx.out⟩
end Go.Proofs.YtbdjccmlgdfapaaGreat
namespace Go.Proofs.YtbdjccmlgdfapaaGreat
open Go.RowKit
set_option linter.unusedVariables false
set_option linter.unusedSimpArgs false
namespace Pd
def hdB (h : Hd) : Bool := decide (-9223372036854775808 ≤ h.k ∧ h.k ≤ 9223372036854775807) && decide (-9223372036854775808 ≤ h.n ∧ h.n ≤ 9223372036854775807) && decide (-9223372036854775808 ≤ h.m ∧ h.m ≤ 9223372036854775807) && decide (h.col.length ≤ 1000) && decide (h.s.length ≤ 1000) && decide (h.set.length ≤ 1000) && h.set.all fun t => decide (t.length ≤ 1000)
theorem hdB_ok {h : Hd} (hb : hdB h = true) : HdFit h := by
  unfold hdB at hb
  simp only [Bool.and_eq_true, decide_eq_true_eq, List.all_eq_true] at hb
  obtain ⟨⟨⟨⟨⟨⟨h1, h2⟩, h3⟩, h4⟩, h5⟩, h6⟩, h7⟩ := hb
  exact ⟨h1, h2, h3, h4, h5, h6, h7⟩
def fineB : Pr → Bool := rec' fun h l a => hdB h && decide (l.length ≤ 1000) && a.all id
theorem fineB_ok : ∀ p, fineB p = true → Fine p := by
  refine tree ?_
  intro h l ih hb
  rw [fineB, rec_mk] at hb
  simp only [Bool.and_eq_true, decide_eq_true_eq, List.all_eq_true, id_eq] at hb
  obtain ⟨⟨h1, h2⟩, h3⟩ := hb
  rw [fine_mk]
  exact ⟨hdB_ok h1, h2, fun x hx => ih x hx (h3 _ (List.mem_map.2 ⟨x, hx, rfl⟩))⟩
def okB (p : Pr) : Bool := fineB p && decide (size p ≤ 300) && fit p 50 5000
theorem some_all : some36.all okB = true := by decide +kernel
theorem some_ok {p : Pr} (h : p ∈ some36) : Fine p ∧ size p ≤ 300 ∧ fit p 50 5000 = true := by
  have h1 := List.all_eq_true.1 some_all p h
  unfold okB at h1
  simp only [Bool.and_eq_true, decide_eq_true_eq] at h1
  exact ⟨fineB_ok p h1.1.1, h1.1.2, h1.2⟩
end Pd
theorem rows_short : ∀ r ∈ rows7, ∀ c ∈ r.c, c.s.length ≤ maxLen := by
  have h : (rows7.all fun r => r.c.all fun c => decide (c.s.length ≤ 100)) = true := by decide
  intro r hr c hc
  have h1 := List.all_eq_true.1 h r hr
  have h2 := List.all_eq_true.1 h1 c hc
  simp only [decide_eq_true_eq] at h2
  unfold maxLen
  omega
theorem load_at {w9 : World} {b off : Nat} {v : PV} (h : ∀ j u, (pc v)[j]? = some u → w9.cell? ⟨b, off + j, none⟩ = some u) : (Instr.loadAt 32 (.pointer (some ⟨b, off, none⟩))).run Tryz.prog w9 = .ok (pvv v) w9 :=
  loadI_pred (h 0 _ rfl) (h 1 _ rfl) (h 2 _ rfl) (h 3 _ rfl) (h 4 _ rfl) (h 5 _ rfl) (h 6 _ rfl)
/-- A value is a slice of such rows of bytes. -/
def IsTx (L : List (List UInt8)) (v : Value) (w : World) : Prop := ∃ g, v = .slice (some ⟨g, 0, none⟩) L.length L.length ∧ ∀ i (hi : i < L.length), ∃ a c, w.cell? ⟨g, i, none⟩ = some (.slice a L[i].length c) ∧ Byt w a c L[i]
theorem IsTx.stands (L : List (List UInt8)) : ∀ v w w', IsTx L v w → Ex w w' → IsTx L v w' := by
  rintro v w w' ⟨g, rfl, h⟩ hx
  refine ⟨g, rfl, fun i hi => ?_⟩
  obtain ⟨a, c, h1, h2⟩ := h i hi
  exact ⟨a, c, cell_ex h1 hx, h2.below hx⟩
theorem Tryz.info26 : (Tryz.prog.info? 26).map (fun i => (i.zero, i.size, i.bytes)) = some (some (.slice none 0 0), 1, 24) := by kernel_rfl
namespace Rg
def Imp : List Spec → List (List UInt8) → Prop
  | [], [] => True
  | s :: ss, l :: L => (∀ v w, s.ok v w → IsByt l v w) ∧ Imp ss L
  | _, _ => False
theorem vals_txs {w : World} : ∀ (vs : List Value) (ss : List Spec) (L : List (List UInt8)), Vals w vs ss → Imp ss L → vs.length = L.length ∧ ∀ i (h1 : i < vs.length) (h2 : i < L.length), IsByt L[i] vs[i] w
  | [], [], [], _, _ => ⟨rfl, fun i h1 _ => by simp at h1⟩
  | v :: vs, s :: ss, l :: L, h, hi => by
    obtain ⟨e, hr⟩ := vals_txs vs ss L h.2 hi.2
    refine ⟨by simp [e], fun i h1 h2 => ?_⟩
    cases i with
    | zero => exact hi.1 v w h.1
    | succ i => exact hr i (by simpa using h1) (by simpa using h2)
  | [], _ :: _, _, h, _ => h.elim
  | _ :: _, [], _, h, _ => h.elim
  | [], [], _ :: _, _, h => h.elim
  | _ :: _, _ :: _, [], _, h => h.elim
end Rg
theorem IsByt.one {l : List UInt8} {v : Value} {w : World} (h : IsByt l v w) : v.cells = #[v] := by
  obtain ⟨a, c, rfl, _⟩ := h
  rfl
theorem flat_one : ∀ (vs : List Value), (∀ v ∈ vs, v.cells = #[v]) → (vs.flatMap fun v => v.cells.toList) = vs
  | [], _ => rfl
  | v :: vs, h => by rw [List.flatMap_cons, h v (by simp), flat_one vs (fun x hx => h x (by simp [hx]))]; rfl
section
variable {ops : Array Oper} {specs : List Rg.Spec} {a0 : Act} {w1 : World} {o : Oper}
theorem good_byts (xs : List Operand) (L : List UInt8) (ho : o.op = .buildSlice 26 xs.length ((xs.zipIdx 0).map fun x => (x.2, x.1)).toArray) (hg : Rg.guardV ops specs a0 o = some true) (hx : Rg.Args ops specs a0 xs (L.map fun s => (.inl (.int .u8 (s.toNat : Int)) : Rg.Spec))) (hl : xs.length = L.length) (h0 : 0 < xs.length) (h1 : xs.length ≤ 100) :
    Rg.GoodOp Tryz.prog ops specs a0 (Ex w1) Ex o (.inr (IsByt L)) :=
  Rg.good_of hg fun Q a w hC hh => by
    have e := Rg.vals_inl (fun s : UInt8 => Value.int .u8 (s.toNat : Int)) _ L (Rg.args_vals xs _ hx (fun x hm => hh x (Rg.lit_opers ho x hm)))
    obtain ⟨i0, hi, hz0, hz1, hz2⟩ := info_parts Tryz.info5
    have hr := run_lit a.eval w 26 5 1 i0 _ xs (cs L) ho Tryz.underlying26 hi hz0 hz1 (by decide) h0 (by omega) e (by intro v hv; obtain ⟨u, _, rfl⟩ := List.mem_map.1 hv; rfl)
    rw [flat_one (cs L) (by intro v hv; obtain ⟨u, _, rfl⟩ := List.mem_map.1 hv; rfl)] at hr
    have hal : Ex w (w.alloc (.cells (cs L).toArray 5)) := (Below.refl _ _).alloc (Nat.le_refl _) _
    refine Rg.Fr.wp_val hr ⟨_, rfl, ?_, hal, hC.trans hal⟩
    refine ⟨some ⟨w.heap.size, 0, none⟩, xs.length, by rw [hl], ?_⟩
    rw [hl]
    exact Byt.laid w L (by omega)
theorem good_txs (xs : List Operand) (ss : List Rg.Spec) (L : List (List UInt8)) (ho : o.op = .buildSlice 45 xs.length ((xs.zipIdx 0).map fun x => (x.2, x.1)).toArray) (hg : Rg.guardV ops specs a0 o = some true) (hx : Rg.Args ops specs a0 xs ss) (hi : Rg.Imp ss L) (h0 : 0 < xs.length) (h1 : xs.length ≤ 100) :
    Rg.GoodOp Tryz.prog ops specs a0 (Ex w1) Ex o (.inr (IsTx L)) :=
  Rg.good_of hg fun Q a w hC hh => by
    obtain ⟨e, hE⟩ := Rg.vals_txs _ ss L (Rg.args_vals xs _ hx (fun x hm => hh x (Rg.lit_opers ho x hm))) hi
    obtain ⟨i0, hi, hz0, hz1, hz2⟩ := info_parts Tryz.info26
    have hone : ∀ v ∈ xs.map a.eval, v.cells = #[v] := by
      intro v hv
      obtain ⟨j, hj, rfl⟩ := List.mem_iff_getElem.1 hv
      exact (hE j hj (by omega)).one
    have hr := run_lit a.eval w 45 26 1 i0 _ xs (xs.map a.eval) ho Tryz.underlying45 hi hz0 hz1 (by decide) h0 (by omega) rfl (by intro v hv; rw [hone v hv]; rfl)
    rw [flat_one _ hone] at hr
    have hlx : xs.length = L.length := by simpa using e
    have hal : Ex w (w.alloc (.cells (xs.map a.eval).toArray 26)) := (Below.refl _ _).alloc (Nat.le_refl _) _
    refine Rg.Fr.wp_val hr ⟨_, rfl, ?_, hal, hC.trans hal⟩
    refine ⟨w.heap.size, by rw [hlx], fun i hi => ?_⟩
    obtain ⟨b, c, hv, hb⟩ := hE i (by rw [e]; exact hi) hi
    refine ⟨b, c, ?_, hb.below hal⟩
    have hc := cell_of_row (w.alloc (.cells (xs.map a.eval).toArray 26)) w.heap.size i (xs.map a.eval).toArray 26 (0, 0) (heap_alloc_new w _)
    rw [hc, ← hv]
    rw [List.getElem?_toArray, List.getElem?_eq_getElem (by rw [e]; exact hi)]
end
def lits18 : List (List UInt8) := [[], [0], [11], [1, 0], [1, 41], [1, 1], [3, 3, 3, 3, 3, 3, 9, 1, 120], [3, 3, 3, 3, 3, 9, 1, 120], [4, 1, 120, 10], [4, 13], [4, 1, 88, 10], [6, 1, 120, 41], [7, 1, 120, 9], [7, 1, 120, 2, 1, 98, 1, 97], [7, 1, 120, 1, 0, 5], [10, 2], [10, 2, 4], [9, 0]]
def mb (n : Nat) : List UInt8 := [1, 40] ++ (List.replicate n ([1, 0] : List UInt8)).flatten
theorem mb_up (n : Nat) : mb n ++ [1, 0] = mb (n + 1) := by
  unfold mb
  rw [List.replicate_succ', List.flatten_append]
  simp
theorem mb_len (n : Nat) : (mb n).length = 2 + 2 * n := by
  unfold mb
  simp
  omega
theorem dec_many : (Pd.dec (mb 40) 0).2.2 = 4 := by decide +kernel
theorem dec_none : (Pd.dec [] 1).2.2 = 1 := by decide +kernel
end Go.Proofs.YtbdjccmlgdfapaaGreat
