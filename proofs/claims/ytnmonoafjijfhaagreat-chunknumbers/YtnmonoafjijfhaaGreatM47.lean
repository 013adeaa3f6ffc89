/-
  What the landed values hands to its Once: the bytes are read, the column is laid, the bytes are let go. The landed values: by sync.Once, the first time and again.
-/
import Derived.Test.YtnmonoafjijfhaaGreatM46
namespace Go.Proofs.YtnmonoafjijfhaaGreat
open Go.RowKit
set_option linter.unusedVariables false
set_option linter.unusedSimpArgs false
abbrev chs (K R : Int) (dn : Nat) (s : Int) (bs : SV) (f : Nat) (x y : SV) : Obj := .cells #[.int .i64 K, .int .i64 R, .int .u32 (dn : Int), .int .i32 s, .int .u32 0, sv bs, .int .u64 (f : Int), sv x, sv y] 105
/-- A chunk's nine places, the lock's state s. -/
def ChS (w : World) (g : Nat) (K R : Int) (dn : Nat) (s : Int) (bs : SV) (f : Nat) (x y : SV) : Prop := w.heap[g]? = some (chs K R dn s bs f x y)
section
variable {w w' : World} {g : Nat} {K R : Int} {dn : Nat} {s : Int} {bs : SV} {f : Nat} {x y : SV}
theorem ChS.lt (h : ChS w g K R dn s bs f x y) : g < w.heap.size := (Array.getElem?_eq_some_iff.1 h).1
theorem ChS.cell (h : ChS w g K R dn s bs f x y) (k : Nat) : w.cell? ⟨g, k, none⟩ = #[Value.int .i64 K, .int .i64 R, .int .u32 (dn : Int), .int .i32 s, .int .u32 0, sv bs, .int .u64 (f : Int), sv x, sv y][k]? := cell_of_row w g _ _ 105 (0, 0) h
theorem ChS.fro (h : ChS w g K R dn s bs f x y) (k : Nat) : w.frozen? ⟨g, k, none⟩ = false := frozen_of_row _ _ _ _ _ h
theorem ChS.below (h : ChS w g K R dn s bs f x y) (hx : Ex w w') : ChS w' g K R dn s bs f x y := by
  unfold ChS; rw [hx.block g h.lt]; exact h
theorem ChS.drew (h : ChS w g K R dn s bs f x y) : ChS w.drew g K R dn s bs f x y := h.below (Ex.drew w)
theorem ChS.far {row : Option Nat} (h : ChS w g K R dn s bs f x y) (hg : w.grownBy w' row) (hne : row ≠ some g) : ChS w' g K R dn s bs f x y := by
  unfold ChS; rw [hg.block g h.lt (fun e => hne e.symm)]; exact h
theorem ChS.set2 (h : ChS w g K R dn s bs f x y) (d : Nat) : ChS (w.setCell ⟨g, 2, none⟩ (.int .u32 (d : Int))) g K R d s bs f x y := by
  unfold ChS; rw [heap_setCell_same w g 2 _ 105 _ h]; rfl
theorem ChS.set3 (h : ChS w g K R dn s bs f x y) (d : Int) : ChS (w.setCell ⟨g, 3, none⟩ (.int .i32 d)) g K R dn d bs f x y := by
  unfold ChS; rw [heap_setCell_same w g 3 _ 105 _ h]; rfl
theorem ChS.set5 (h : ChS w g K R dn s bs f x y) (d : SV) : ChS (w.setCell ⟨g, 5, none⟩ (sv d)) g K R dn s d f x y := by
  unfold ChS; rw [heap_setCell_same w g 5 _ 105 _ h]; rfl
theorem ChS.set6 (h : ChS w g K R dn s bs f x y) (d : Nat) : ChS (w.setCell ⟨g, 6, none⟩ (.int .u64 (d : Int))) g K R dn s bs d x y := by
  unfold ChS; rw [heap_setCell_same w g 6 _ 105 _ h]; rfl
theorem ChS.set7 (h : ChS w g K R dn s bs f x y) (d : SV) : ChS (w.setCell ⟨g, 7, none⟩ (sv d)) g K R dn s bs f d y := by
  unfold ChS; rw [heap_setCell_same w g 7 _ 105 _ h]; rfl
theorem ChS.set8 (h : ChS w g K R dn s bs f x y) (d : SV) : ChS (w.setCell ⟨g, 8, none⟩ (sv d)) g K R dn s bs f x d := by
  unfold ChS; rw [heap_setCell_same w g 8 _ 105 _ h]; rfl
end
abbrev chset (w : World) (g : Nat) (f : Nat) (x y : SV) : World := ((w.setCell ⟨g, 6, none⟩ (.int .u64 (f : Int))).setCell ⟨g, 7, none⟩ (sv x)).setCell ⟨g, 8, none⟩ (sv y)
theorem grown_chset (w : World) (g f : Nat) (x y : SV) : w.grownBy (chset w g f x y) (some g) := grown_tr (grown_tr (grown_set1 _ _ _ _) (grown_set1 _ _ _ _)) (grown_set1 _ _ _ _)
namespace Rg.Fr
/-- Each operation but those at c and x has its sentence; those of R in the first world alone. -/
def GoodsCall1 (ops : Array Oper) (specs : List Spec) (a0 : Act) (C0 C : World → Prop) (c x : Nat) (R : List Nat) : Nat → List Oper → List Spec → Prop
  | _, [], [] => True
  | k, o :: os, s :: ss => (k ≠ c → k ≠ x → GoodOp Tryz.prog ops specs a0 (fun w => C0 w ∧ (k ∈ R → C w)) (fun w w' => w' = w) o s) ∧ GoodsCall1 ops specs a0 C0 C c x R (k + 1) os ss
  | _, _, _ => False
theorem gcall1_at {ops : Array Oper} {specs : List Spec} {a0 : Act} {C0 C : World → Prop} {c x : Nat} {R : List Nat} : ∀ (os : List Oper) (ss : List Spec) (k : Nat), GoodsCall1 ops specs a0 C0 C c x R k os ss → ∀ (i : Nat) (o : Oper), os[i]? = some o → k + i ≠ c → k + i ≠ x →
    ∃ s, ss[i]? = some s ∧ GoodOp Tryz.prog ops specs a0 (fun w => C0 w ∧ ((k + i) ∈ R → C w)) (fun w w' => w' = w) o s
  | [], _, _, _, i, o, h, _, _ => by simp at h
  | _ :: _, [], _, h, _, _, _, _, _ => h.elim
  | o :: os, s :: ss, k, h, 0, o', ho, hk, hk2 => by simp at ho; subst ho; exact ⟨s, rfl, h.1 (by omega) (by omega)⟩
  | o :: os, s :: ss, k, h, i + 1, o', ho, hk, hk2 => by
    obtain ⟨s', h1, h2⟩ := gcall1_at os ss (k + 1) h.2 i o' (by simpa using ho) (by omega) (by omega)
    rw [show k + (i + 1) = k + 1 + i by omega]
    exact ⟨s', by simpa using h1, h2⟩
theorem gcall1_len {ops : Array Oper} {specs : List Spec} {a0 : Act} {C0 C : World → Prop} {c x : Nat} {R : List Nat} : ∀ (os : List Oper) (ss : List Spec) (k : Nat), GoodsCall1 ops specs a0 C0 C c x R k os ss → os.length ≤ ss.length
  | [], _, _, _ => by simp
  | _ :: _, [], _, h => h.elim
  | o :: os, s :: ss, k, h => by have := gcall1_len os ss (k + 1) h.2; simp; omega
theorem wp_call1 {id : Nat} {Q : Exit → Act → World → Prop} {w : World} {l : List Oper} {a0 : Act} (c x : Nat) (hcx : c ≠ x) (C0 : World → Prop) (E : World → World → Prop) (P1 P2 : World → Prop) (R : List Nat) (specs : List Spec) (n : Nat) (hm : Tryz.prog.follows .mixedOrders = true) (hn : a0.tmps.size = n) (hs : sound l.toArray n = true) (hng : l.all (fun o => o.guard.isNone) = true)
    (hst : Stands E specs) (hrefl : ∀ w, E w w) (hC0 : C0 w.drew) (oc ox : Oper) (lc : l[c]? = some oc) (lx : l[x]? = some ox) (hdc : ox.after.any (fun e => Region.binds .any e && e.on == c) = true) (hR : R.all (fun i => oc.after.any (fun e => Region.binds .any e && e.on == i)) = true)
    (tx : (specs[x]?).getD (.inl undef) = .inl undef)
    (f : FuncId) (fn : Func) (cd : Code) (xs : Array Operand) (ats : Array TypeId) (hf : Tryz.prog.funcs[f]? = some fn) (hname : (fn.name == "runtime.NumGoroutine") = false) (hb : fn.body = some cd) (hoc : oc.op = .call { callee := .value (.func f), args := xs, argTypes := ats })
    (rc : ∀ (ρ : Operand → Value), (∀ z ∈ xs, (argS l.toArray specs a0 z).ok (ρ z) w.drew) → Calls Tryz.prog f (xs.map ρ) w.drew (fun e w' => ∃ v, e = .returned v ∧ ((specs[c]?).getD (.inl undef)).ok v w' ∧ E w.drew w' ∧ C0 w' ∧ P1 w'))
    (rx : ∀ (ρ : Operand → Value) (w' : World), P1 w' → (∀ z ∈ ox.op.operands, (argS l.toArray specs a0 z).ok (ρ z) w') → ∃ w2, (execOp ρ ox).run Tryz.prog w' = .ok .skip w2 ∧ E w' w2 ∧ C0 w2 ∧ P2 w2)
    (hG : GoodsCall1 l.toArray specs a0 C0 (fun w' => w' = w.drew) c x R 0 l specs)
    (hF : ∀ w', P2 w' → later w' (fun a' => Q .normal a' w') l specs a0) : (Code.region id l.toArray true).wp Tryz.prog Q a0 w := by
  refine wp_rows_freeE (fun L _ w' => (L x = true → L c = true) ∧ (L c = true → ∀ i ∈ R, L i = true) ∧ (L c = false → w' = w.drew) ∧ (L c = true → L x = false → P1 w') ∧ (L x = true → P2 w')) C0 E specs n hm hn hs hst hng hC0 ⟨fun h => (by cases h), fun h => (by cases h), fun _ => rfl, fun h => (by cases h), fun h => (by cases h)⟩ ?_ ?_
  · intro i o L a w' ho hL hdep hsz hC hargs hV
    obtain ⟨v2, v3, v4, v5, v6⟩ := hV
    by_cases hic : i = c
    · subst hic
      rw [lc] at ho
      cases ho
      have hw := v4 hL
      subst hw
      have hx0 : L x = false := by
        cases e : L x with
        | false => rfl
        | true => rw [v2 e] at hL; cases hL
      have hc := rc a.eval (fun z hz => hargs z (by rw [hoc]; simp [Op.operands, Call.operands, hz]))
      have hr : (execOp a.eval oc).run Tryz.prog w.drew = .ok (.enter f (xs.map a.eval)) w.drew := by
        have e : execOp a.eval oc = callFunc f (#[] ++ xs.map a.eval ++ #[]) := by unfold execOp; rw [hoc]; rfl
        rw [e, run_enter hf hname hb]
        simp
      unfold Oper.wp
      rw [hr]
      refine Calls.mono hc fun e w2 ⟨v, he, hv, hE, hC2, hP⟩ => ?_
      subst he
      refine ⟨v, rfl, hv, hE, hC2, fun h => ?_, fun _ j hj => ?_, fun h => (by rw [upd_self'] at h; cases h), fun _ _ => hP, fun h => ?_⟩
      · exact upd_self' _ _
      · have h1 := dep_of (List.all_eq_true.1 hR j hj) hdep
        unfold upd
        split
        · rfl
        · exact h1
      · rw [upd_ne' hcx, hx0] at h; cases h
    by_cases hix : i = x
    · subst hix
      rw [lx] at ho
      cases ho
      have hc1 := dep_of hdc hdep
      obtain ⟨w2, hr, hE, hC2, hP⟩ := rx a.eval w' (v5 hc1 hL) hargs
      refine wp_skip hr ⟨undef, rfl, by rw [tx]; rfl, hE, hC2, fun _ => ?_, fun _ j hj => ?_, fun h => ?_, fun _ h => (by rw [upd_self'] at h; cases h), fun _ => hP⟩
      · rw [upd_ne' (Ne.symm hcx)]; exact hc1
      · unfold upd
        split
        · rfl
        · exact v3 hc1 j hj
      · rw [upd_ne' (Ne.symm hcx), hc1] at h; cases h
    obtain ⟨s, hss, hg⟩ := gcall1_at l specs 0 hG i o ho (by omega) (by omega)
    have hgn : o.guard = none := by
      have := List.all_eq_true.1 hng o (List.mem_of_getElem? ho)
      simpa using this
    have hlk : ∀ t ∈ o.looksAt l.toArray, (slotS l.toArray specs a0 t).ok (a.eval (.tmp t)) w' := by
      intro t ht
      unfold Oper.looksAt at ht
      rw [hgn] at ht
      simp only [List.append_nil, List.mem_filterMap] at ht
      obtain ⟨y', hy, he⟩ := ht
      cases y' with
      | tmp t' =>
        simp only [Option.some.injEq] at he
        subst he
        exact hargs (.tmp t') (by simpa using hy)
      | const _ => simp at he
      | global _ => simp at he
      | func _ => simp at he
    have hwant : Region.wanted o (yielded l.toArray a.tmps) = true := by unfold Region.wanted; rw [hgn]
    have hC1 : C0 w' ∧ (0 + i ∈ R → w' = w.drew) := ⟨hC, fun hi => v4 (by
      cases e : L c with
      | false => rfl
      | true => rw [Nat.zero_add] at hi; rw [v3 e i hi] at hL; cases hL)⟩
    refine Oper.wp_mono (fun a' w3 hk => ?_) ((hg Q a w' hC1 hlk).1 hwant)
    obtain ⟨v, h1, h2, h3, h4⟩ := hk
    subst h3
    refine ⟨v, h1, by rw [hss]; exact h2, hrefl _, hC, ?_⟩
    rw [upd_ne' hic, upd_ne' hix]
    refine ⟨v2, fun hc j hj => ?_, v4, v5, v6⟩
    unfold upd
    split
    · rfl
    · exact v3 hc j hj
  · intro w' _
    by_cases e : P2 w'
    · exact later_mono (fun a h _ => h) _ _ _ (hF w' e)
    · refine later_all ?_ _ _ _ (gcall1_len l specs 0 hG)
      rintro a ⟨L, hall, h2, h3, h4, h5, h6⟩
      exact absurd (h6 (hall x (List.getElem?_eq_some_iff.1 lx).1)) e
end Rg.Fr
/-- What read gives a chunk. -/
def RdOk (b : List UInt8) (N : Nat) (x y : SV) (w : World) : Prop := IsC (LW b) x w ∧ IsZ (LP b) y w ∧ ∀ q, (sv x).ownBlock = some q ∨ (sv y).ownBlock = some q → N ≤ q
theorem RdOk.below {b : List UInt8} {N : Nat} {x y : SV} {w w' : World} (h : RdOk b N x y w) (hx : Ex w w') : RdOk b N x y w' := ⟨h.1.below hx, h.2.1.below hx, h.2.2⟩
theorem RdOk.far {b : List UInt8} {N r : Nat} {x y : SV} {w w' : World} (h : RdOk b N x y w) (hg : w.grownBy w' (some r)) (hr : r < N) : RdOk b N x y w' :=
  ⟨h.1.far hg (fun _ q hq e => by have := h.2.2 q (.inl hq); simp at e; omega), h.2.1.far hg (fun _ q hq e => by have := h.2.2 q (.inr hq); simp at e; omega), h.2.2⟩
def RdV (b : List UInt8) (N : Nat) (v : Value) (w : World) : Prop := ∃ x y, v = cov (Ck.lread b).f x y ∧ RdOk b N x y w
def RdT (b : List UInt8) (N : Nat) (v : Value) (w : World) : Prop := ∃ x y, v = .tuple #[cov (Ck.lread b).f x y, .int .i64 0] ∧ RdOk b N x y w
/-- The column was laid. -/
def Laid (w w' : World) (g : Nat) (b : List UInt8) (K R : Int) (dn : Nat) (s : Int) : Prop := ∃ x y, ChS w' g K R dn s n0 (Ck.lread b).f x y ∧ RdOk b w.heap.size x y w' ∧ w.grownBy w' (some g)
set_option maxHeartbeats 4000000 in
set_option maxRecDepth 100000 in
theorem vals_is (p g : Nat) (b : List UInt8) (K R : Int) (dn : Nat) (s : Int) (bs : SV) (w : World) (hp : w.cell? ⟨p, 0, none⟩ = some (.pointer (some ⟨g, 0, none⟩))) (hpg : p ≠ g) (hC : ChS w g K R dn s bs 0 n0 n0) (hB : IsB b bs w) (hok : Ok b) :
    Calls Tryz.prog 94 #[.pointer (some ⟨p, 0, none⟩)] w fun e w' => e = .returned (.tuple #[]) ∧ Laid w w' g b K R dn s := by
  obtain ⟨ba, bn, bc⟩ := bs
  have HP : Hid (w.cell? ⟨p, 0, none⟩ = some (.pointer (some ⟨g, 0, none⟩))) := hp
  have HC : Hid (ChS w g K R dn s (ba, bn, bc) 0 n0 n0) := hC
  have HB : Hid (IsB b (ba, bn, bc) w) := hB
  have HOk : Hid (Ok b) := hok
  have hglt : g < w.heap.size := hC.lt
  have hplt : p < w.heap.size := World.block_lt_of_cell? w _ hp
  obtain ⟨F, hF⟩ : ∃ F, (Ck.lread b).f = F := ⟨_, rfl⟩
  have HF : Hid ((Ck.lread b).f = F) := hF
  clear hp hC hB hok hF
  go_enter Tryz.func94, Tryz.ntmps94
  go_wp2_with fail
  have hre : ∀ u : World, u = u := fun _ => rfl
  have HCD : Hid (ChS w.drew g K R dn s (ba, bn, bc) 0 n0 n0) := HC.out.drew
  have HPD : Hid (w.drew.cell? ⟨p, 0, none⟩ = some (.pointer (some ⟨g, 0, none⟩))) := cell_ext HP.out (Ex.drew w)
  refine Rg.Fr.wp_call1 5 11 (by decide) (fun w2 => w2.cell? ⟨p, 0, none⟩ = some (.pointer (some ⟨g, 0, none⟩))) (fun a b => a.grownBy b (some g)) (fun w2 => Ex w.drew w2) (fun w2 => ∃ x y, ChS w2 g K R dn s (ba, bn, bc) F x y ∧ RdOk b w.heap.size x y w2 ∧ w.drew.grownBy w2 (some g)) [4] [.inl (.pointer (some ⟨g, 0, none⟩)), .inl (.pointer (some ⟨g, 0, none⟩)), .inl (.pointer (some ⟨g, 0, none⟩)), .inl (.pointer (some ⟨g, 5, none⟩)), .inl (.slice ba bn bc), .inr (RdT b w.heap.size), .inr (RdT b w.heap.size), .inr (RdV b w.heap.size), .inl (.int .i64 0), .inl (.pointer (some ⟨g, 0, none⟩)), .inl (.pointer (some ⟨g, 6, none⟩)), .inl undef] 15 (by kernel_rfl) rfl (by kernel_rfl) (by kernel_rfl) ?st (fun w => World.grownBy.refl _ _) HPD.out _ _ rfl rfl (by kernel_rfl) (by kernel_rfl) rfl _ _ _ _ _ Tryz.func44 (by kernel_rfl) rfl rfl ?rc ?rx ?hG ?hF
  case st =>
    refine ⟨?_, ?_, ?_, trivial⟩
    · rintro v w1 w2 ⟨x, y, h1, h2⟩ hx; exact ⟨x, y, h1, h2.far hx hglt⟩
    · rintro v w1 w2 ⟨x, y, h1, h2⟩ hx; exact ⟨x, y, h1, h2.far hx hglt⟩
    · rintro v w1 w2 ⟨x, y, h1, h2⟩ hx; exact ⟨x, y, h1, h2.far hx hglt⟩
  case rc =>
    intro ρ ha
    have h1 : ρ (.tmp 6) = .slice ba bn bc := ha (.tmp 6) (by simp)
    simp only [List.map_toArray, List.map_cons, List.map_nil, h1]
    refine (read_is ba bn bc b w.drew HB.out.1 (HB.out.2.below (Ex.drew w)) HOk.out.2.1).mono ?_
    rintro e w' ⟨v, he, ⟨_, hr2⟩, hx⟩
    obtain ⟨x, y, hv, hxc, hyz, hfr⟩ := hr2 HOk.out.1
    exact ⟨v, he, ⟨x, y, hv, hxc, hyz, fun q hq => Nat.le_trans (Ex.drew w).size (hfr q hq)⟩, hx.grownBy _, cell_ext HPD.out hx, hx⟩
  case rx =>
    intro ρ w2 hx ha
    have h1 : ρ (.tmp 11) = .pointer (some ⟨g, 6, none⟩) := ha (.tmp 11) (by simp [Op.operands])
    have h2 : RdV b w.heap.size (ρ (.tmp 8)) w2 := ha (.tmp 8) (by simp [Op.operands])
    obtain ⟨x, y, hv, hro⟩ := h2
    rw [HF.out] at hv
    have hCx : ChS w2 g K R dn s (ba, bn, bc) 0 n0 n0 := HCD.out.below hx
    have q6 : w2.cell? ⟨g, 6, none⟩ = some (.int .u64 0) := hCx.cell 6
    have q7 : w2.cell? ⟨g, 7, none⟩ = some (.slice none 0 0) := hCx.cell 7
    have q8 : w2.cell? ⟨g, 8, none⟩ = some (.slice none 0 0) := hCx.cell 8
    have f6 := hCx.fro 6
    have f7 := hCx.fro 7
    have f8 := hCx.fro 8
    refine ⟨chset w2 g F x y, ?_, grown_chset _ _ _ _ _, ?_, x, y, ChS.set8 (ChS.set7 (ChS.set6 hCx F) x) y, hro.far (grown_chset _ _ _ _ _) hglt, grown_tr (hx.grownBy _) (grown_chset _ _ _ _ _)⟩
    · unfold cov at hv
      simp only [sv] at hv
      simp [execOp, h1, hv, go_sem, q6, q7, q8, f6, f7, f8]
    · have hz := cell_ext HPD.out hx
      rw [(grown_chset w2 g F x y).cell_far ⟨p, 0, none⟩ (World.block_lt_of_cell? w2 _ hz) (by simpa using hpg)]
      exact hz
  case hG =>
    refine ⟨fun _ _ => Rg.good_load hre rfl rfl rfl (fun wx hC => by have hz := hC.1; go_simp), ?_⟩
    refine ⟨fun _ _ => Rg.good_load hre rfl rfl rfl (fun wx hC => by have hz := hC.1; go_simp), ?_⟩
    refine ⟨fun _ _ => Rg.good_nil hre rfl rfl rfl, ?_⟩
    refine ⟨fun _ _ => Rg.good_field hre rfl rfl rfl (fun wx hC => by go_simp), ?_⟩
    refine ⟨fun _ _ => Rg.good_load hre rfl rfl rfl (fun wx hC => by have hw := hC.2 (by decide); subst hw; have hz : w.drew.cell? ⟨g, 5, none⟩ = some (.slice ba bn bc) := HCD.out.cell 5; go_simp), ?_⟩
    refine ⟨fun h => absurd rfl h, ?_⟩
    refine ⟨fun _ _ => Rg.good_move hre rfl rfl rfl, ?_⟩
    refine ⟨fun _ _ => Rg.good_extractP hre rfl rfl rfl (by rintro v w1 ⟨x, y, rfl, h⟩; exact ⟨_, _, rfl, rfl, x, y, rfl, h⟩), ?_⟩
    refine ⟨fun _ _ => Rg.good_extractP hre rfl rfl rfl (by rintro v w1 ⟨x, y, rfl, h⟩; exact ⟨_, _, rfl, rfl, rfl⟩), ?_⟩
    refine ⟨fun _ _ => Rg.good_nil hre rfl rfl rfl, ?_⟩
    refine ⟨fun _ _ => Rg.good_field hre rfl rfl rfl (fun wx hC => by go_simp), ?_⟩
    refine ⟨fun _ h => absurd rfl h, ?_⟩
    exact trivial
  case hF =>
    rintro w2 ⟨x, y, hC2, hro, hg2⟩
    simp only [Rg.later, Act.put, List.setIfInBounds_toArray, List.set_cons_succ, List.set_cons_zero]
    intro v1 _ v2 _ v3 _
    have hPx : w2.cell? ⟨p, 0, none⟩ = some (.pointer (some ⟨g, 0, none⟩)) := by
      rw [hg2.cell_far ⟨p, 0, none⟩ (World.block_lt_of_cell? _ _ HPD.out) (by simpa using hpg)]
      exact HPD.out
    have q5 : w2.cell? ⟨g, 5, none⟩ = some (.slice ba bn bc) := hC2.cell 5
    have f5 := hC2.fro 5
    have hC9 : ChS (w2.setCell ⟨g, 5, none⟩ (.slice none 0 0)) g K R dn s n0 F x y := ChS.set5 hC2 n0
    have HC9 : Hid (ChS (w2.setCell ⟨g, 5, none⟩ (.slice none 0 0)) g K R dn s n0 (Ck.lread b).f x y) := (by rw [HF.out]; exact hC9 : ChS (w2.setCell ⟨g, 5, none⟩ (.slice none 0 0)) g K R dn s n0 (Ck.lread b).f x y)
    have HR9 : Hid (RdOk b w.heap.size x y (w2.setCell ⟨g, 5, none⟩ (.slice none 0 0))) := hro.far (grown_set1 _ _ _ _) hglt
    have HG9 : Hid (w.grownBy (w2.setCell ⟨g, 5, none⟩ (.slice none 0 0)) (some g)) := grown_tr ((Ex.drew w).grownBy _) (grown_tr hg2 (grown_set1 _ _ _ _))
    clear hC2 hC9 hg2 hro
    go_wp2_with fail
    go_end0
    exact ⟨rfl, x, y, HC9.out, HR9.out, HG9.out⟩
end Go.Proofs.YtnmonoafjijfhaaGreat
namespace Go.Proofs.YtnmonoafjijfhaaGreat
open Go.RowKit
set_option linter.unusedVariables false
set_option linter.unusedSimpArgs false
theorem o_load (a : Addr) (d : Int) (r : Bool) (w : World) (h0 : w.cell? a = some (.int .u32 d)) (hr : (d != 0) = r) :
    Calls Tryz.prog 115 #[.pointer (some a)] w fun e w' => e = .returned (.bool r) ∧ w' = w := by
  have hl := run_call_load (P := Tryz.prog) Tryz.func125 (by kernel_rfl) (by kernel_rfl) (by kernel_rfl) .u32 (by kernel_rfl) h0
  go_enter Tryz.func115, Tryz.ntmps115
  go_wp2
  go_ret
  exact ⟨rfl, rfl⟩
set_option maxRecDepth 100000 in
set_option maxHeartbeats 4000000 in
theorem slow_is (p g : Nat) (b : List UInt8) (K R : Int) (bs : SV) (w : World) (hp : w.cell? ⟨p, 0, none⟩ = some (.pointer (some ⟨g, 0, none⟩))) (hpg : p ≠ g) (hC : ChS w g K R 0 0 bs 0 n0 n0) (hB : IsB b bs w) (hbs : 0 < bs.2.1 → ∀ q, (sv bs).ownBlock = some q → q ≠ g) (hok : Ok b) :
    Calls Tryz.prog 116 #[.pointer (some ⟨g, 2, none⟩), .func (.func 94) #[] #[.pointer (some ⟨p, 0, none⟩)]] w fun e w' => e = .returned (.tuple #[]) ∧ Laid w w' g b K R 1 0 := by
  have hnot : ∀ (x : Bool) (w : World), (Op.unary .not (.bool x)).run Tryz.prog w = .ok (.bool (!x)) w := fun _ _ => rfl
  obtain ⟨w1, hw1⟩ : ∃ w1, w.setCell ⟨g, 3, none⟩ (.int .i32 1) = w1 := ⟨_, rfl⟩
  have hg1 : w.grownBy w1 (some g) := by rw [← hw1]; exact grown_set1 _ _ _ _
  have HC1 : Hid (ChS w1 g K R 0 1 bs 0 n0 n0) := (by rw [← hw1]; exact hC.set3 1 : ChS w1 g K R 0 1 bs 0 n0 n0)
  have HG1 : Hid (w.grownBy w1 (some g)) := hg1
  have HP1 : Hid (w1.cell? ⟨p, 0, none⟩ = some (.pointer (some ⟨g, 0, none⟩))) := (by rw [hg1.cell_far ⟨p, 0, none⟩ (World.block_lt_of_cell? _ _ hp) (by simpa using hpg)]; exact hp : w1.cell? ⟨p, 0, none⟩ = some (.pointer (some ⟨g, 0, none⟩)))
  have HB1 : Hid (IsB b bs w1) := hB.far hg1 (fun h0 q hq e => hbs h0 q hq (by simpa using e.symm))
  have HOk : Hid (Ok b) := hok
  have HW1 : Hid (w.setCell ⟨g, 3, none⟩ (.int .i32 1) = w1) := hw1
  have q3 : w.cell? ⟨g, 3, none⟩ = some (.int .i32 0) := hC.cell 3
  have f3 := hC.fro 3
  have hs1 : w.heap.size ≤ w1.heap.size := hg1.size
  clear hp hC hB hok hg1 hw1
  go_enter_defers Tryz.func116, Tryz.ntmps116
  go_wp2_with fail
  go_at_call 126
  refine (o_lock ⟨g, 3, none⟩ w q3 f3).mono ?_
  rintro e w' ⟨rfl, rfl⟩
  rw [HW1.out]
  go_wp2_with fail
  go_at_call 115
  refine (o_load ⟨g, 2, none⟩ 0 false w1 (HC1.out.cell 2) rfl).mono ?_
  rintro e wq ⟨rfl, hwq⟩
  have hwq' := hwq.symm; clear hwq; subst hwq'
  go_wp2_with fail
  go_at_call 94
  refine (vals_is p g b K R 0 1 bs w1 HP1.out hpg HC1.out HB1.out HOk.out).mono ?_
  rintro e w2 ⟨rfl, x, y, hC2, hro, hg2⟩
  have HC2 : Hid (ChS w2 g K R 0 1 n0 (Ck.lread b).f x y) := hC2
  have HR2 : Hid (RdOk b w1.heap.size x y w2) := hro
  have HG2 : Hid (w.grownBy w2 (some g)) := grown_tr HG1.out hg2
  clear hC2 hro hg2
  go_wp2_with fail
  refine leaves_cons (f := 128) (args := #[.pointer (some ⟨g, 2, none⟩), .bool true]) (by simp) (by simp [go_sem]) ?_
  refine (o_store ⟨g, 2, none⟩ (.int .u32 0) .returning _ (HC2.out.cell 2) (HC2.out.fro 2)).mono ?_
  rintro e u' w'' ⟨rfl, rfl, rfl⟩
  have hC3 : ChS (w2.drew.setCell ⟨g, 2, none⟩ (.int .u32 1)) g K R 1 1 n0 (Ck.lread b).f x y := HC2.out.drew.set2 1
  refine leaves_cons (f := 127) (args := #[.pointer (some ⟨g, 3, none⟩)]) (by simp [settle]) (by simp [go_sem]) ?_
  refine (o_unlock ⟨g, 3, none⟩ _ _ (hC3.cell 3) (hC3.fro 3)).mono ?_
  rintro e u' w'' ⟨rfl, rfl, rfl⟩
  have hg9 : w2.grownBy ((w2.drew.setCell ⟨g, 2, none⟩ (.int .u32 1)).setCell ⟨g, 3, none⟩ (.int .i32 0)) (some g) := grown_tr (grown_tr ((Ex.drew _).grownBy _) (grown_set1 _ _ _ _)) (grown_set1 _ _ _ _)
  have hfin : Laid w ((w2.drew.setCell ⟨g, 2, none⟩ (.int .u32 1)).setCell ⟨g, 3, none⟩ (.int .i32 0)) g b K R 1 0 :=
    ⟨x, y, hC3.set3 0, ⟨(HR2.out.far hg9 (by have := HC1.out.lt; omega)).1, (HR2.out.far hg9 (by have := HC1.out.lt; omega)).2.1, fun q hq => Nat.le_trans hs1 (HR2.out.2.2 q hq)⟩, grown_tr HG2.out hg9⟩
  simp [Leaves, settle, results, Tryz.results116]
  exact hfin
end Go.Proofs.YtnmonoafjijfhaaGreat
