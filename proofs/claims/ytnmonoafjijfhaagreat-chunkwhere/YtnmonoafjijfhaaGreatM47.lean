/-
  What the landed values hands to its Once: the bytes are read, the column is laid, the bytes are let go. The landed values: by sync.Once, the first time and again. The landed values; Kind, Rows, Cell, Dict. The landed chunk's Cell, Dict. The landed chunk's Pick.
-/
import Derived.Test.YtnmonoafjijfhaaGreatM46
namespace Go.Proofs.YtnmonoafjijfhaaGreat
open Go.RowKit
set_option linter.unusedVariables false
set_option linter.unusedSimpArgs false
abbrev chs (K R : Int) (dn : Nat) (s : Int) (bs : SV) (f : Nat) (x y : SV) : Obj := .cells #[.int .i64 K, .int .i64 R, .int .u32 (dn : Int), .int .i32 s, .int .u32 0, sv bs, .int .u64 (f : Int), sv x, sv y] 105
/-- A chunk's nine places, the lock's state s. -/
def ChS (w : World) (g : Nat) (K R : Int) (dn : Nat) (s : Int) (bs : SV) (f : Nat) (x y : SV) : Prop := w.heap[g]? = some (chs K R dn s bs f x y)
section
variable {w w' : World} {g : Nat} {K R : Int} {dn : Nat} {s : Int} {bs : SV} {f : Nat} {x y : SV}
theorem ChS.lt (h : ChS w g K R dn s bs f x y) : g < w.heap.size := (Array.getElem?_eq_some_iff.1 h).1
theorem ChS.cell (h : ChS w g K R dn s bs f x y) (k : Nat) : w.cell? ⟨g, k, none⟩ = #[Value.int .i64 K, .int .i64 R, .int .u32 (dn : Int), .int .i32 s, .int .u32 0, sv bs, .int .u64 (f : Int), sv x, sv y][k]? := cell_of_row w g _ _ 105 (0, 0) h
theorem ChS.fro (h : ChS w g K R dn s bs f x y) (k : Nat) : w.frozen? ⟨g, k, none⟩ = false := frozen_of_row _ _ _ _ _ h
theorem ChS.below (h : ChS w g K R dn s bs f x y) (hx : Ex w w') : ChS w' g K R dn s bs f x y := by
  unfold ChS; rw [hx.block g h.lt]; exact h
theorem ChS.drew (h : ChS w g K R dn s bs f x y) : ChS w.drew g K R dn s bs f x y := h.below (Ex.drew w)
theorem ChS.far {row : Option Nat} (h : ChS w g K R dn s bs f x y) (hg : w.grownBy w' row) (hne : row ≠ some g) : ChS w' g K R dn s bs f x y := by
  unfold ChS; rw [hg.block g h.lt (fun e => hne e.symm)]; exact h
theorem ChS.set2 (h : ChS w g K R dn s bs f x y) (d : Nat) : ChS (w.setCell ⟨g, 2, none⟩ (.int .u32 (d : Int))) g K R d s bs f x y := by
  unfold ChS; rw [heap_setCell_same w g 2 _ 105 _ h]; rfl
theorem ChS.set3 (h : ChS w g K R dn s bs f x y) (d : Int) : ChS (w.setCell ⟨g, 3, none⟩ (.int .i32 d)) g K R dn d bs f x y := by
  unfold ChS; rw [heap_setCell_same w g 3 _ 105 _ h]; rfl
theorem ChS.set5 (h : ChS w g K R dn s bs f x y) (d : SV) : ChS (w.setCell ⟨g, 5, none⟩ (sv d)) g K R dn s d f x y := by
  unfold ChS; rw [heap_setCell_same w g 5 _ 105 _ h]; rfl
theorem ChS.set6 (h : ChS w g K R dn s bs f x y) (d : Nat) : ChS (w.setCell ⟨g, 6, none⟩ (.int .u64 (d : Int))) g K R dn s bs d x y := by
  unfold ChS; rw [heap_setCell_same w g 6 _ 105 _ h]; rfl
theorem ChS.set7 (h : ChS w g K R dn s bs f x y) (d : SV) : ChS (w.setCell ⟨g, 7, none⟩ (sv d)) g K R dn s bs f d y := by
  unfold ChS; rw [heap_setCell_same w g 7 _ 105 _ h]; rfl
theorem ChS.set8 (h : ChS w g K R dn s bs f x y) (d : SV) : ChS (w.setCell ⟨g, 8, none⟩ (sv d)) g K R dn s bs f x d := by
  unfold ChS; rw [heap_setCell_same w g 8 _ 105 _ h]; rfl
end
abbrev chset (w : World) (g : Nat) (f : Nat) (x y : SV) : World := ((w.setCell ⟨g, 6, none⟩ (.int .u64 (f : Int))).setCell ⟨g, 7, none⟩ (sv x)).setCell ⟨g, 8, none⟩ (sv y)
theorem grown_chset (w : World) (g f : Nat) (x y : SV) : w.grownBy (chset w g f x y) (some g) := grown_tr (grown_tr (grown_set1 _ _ _ _) (grown_set1 _ _ _ _)) (grown_set1 _ _ _ _)
namespace Rg.Fr
/-- Each operation but those at c and x has its sentence; those of R in the first world alone. -/
def GoodsCall1 (ops : Array Oper) (specs : List Spec) (a0 : Act) (C0 C : World → Prop) (c x : Nat) (R : List Nat) : Nat → List Oper → List Spec → Prop
  | _, [], [] => True
  | k, o :: os, s :: ss => (k ≠ c → k ≠ x → GoodOp Tryz.prog ops specs a0 (fun w => C0 w ∧ (k ∈ R → C w)) (fun w w' => w' = w) o s) ∧ GoodsCall1 ops specs a0 C0 C c x R (k + 1) os ss
  | _, _, _ => False
theorem gcall1_at {ops : Array Oper} {specs : List Spec} {a0 : Act} {C0 C : World → Prop} {c x : Nat} {R : List Nat} : ∀ (os : List Oper) (ss : List Spec) (k : Nat), GoodsCall1 ops specs a0 C0 C c x R k os ss → ∀ (i : Nat) (o : Oper), os[i]? = some o → k + i ≠ c → k + i ≠ x →
    ∃ s, ss[i]? = some s ∧ GoodOp Tryz.prog ops specs a0 (fun w => C0 w ∧ ((k + i) ∈ R → C w)) (fun w w' => w' = w) o s
  | [], _, _, _, i, o, h, _, _ => by simp at h
  | _ :: _, [], _, h, _, _, _, _, _ => h.elim
  | o :: os, s :: ss, k, h, 0, o', ho, hk, hk2 => by simp at ho; subst ho; exact ⟨s, rfl, h.1 (by omega) (by omega)⟩
  | o :: os, s :: ss, k, h, i + 1, o', ho, hk, hk2 => by
    obtain ⟨s', h1, h2⟩ := gcall1_at os ss (k + 1) h.2 i o' (by simpa using ho) (by omega) (by omega)
    rw [show k + (i + 1) = k + 1 + i by omega]
    exact ⟨s', by simpa using h1, h2⟩
theorem gcall1_len {ops : Array Oper} {specs : List Spec} {a0 : Act} {C0 C : World → Prop} {c x : Nat} {R : List Nat} : ∀ (os : List Oper) (ss : List Spec) (k : Nat), GoodsCall1 ops specs a0 C0 C c x R k os ss → os.length ≤ ss.length
  | [], _, _, _ => by simp
  | _ :: _, [], _, h => h.elim
  | o :: os, s :: ss, k, h => by have := gcall1_len os ss (k + 1) h.2; simp; omega
theorem wp_call1 {id : Nat} {Q : Exit → Act → World → Prop} {w : World} {l : List Oper} {a0 : Act} (c x : Nat) (hcx : c ≠ x) (C0 : World → Prop) (E : World → World → Prop) (P1 P2 : World → Prop) (R : List Nat) (specs : List Spec) (n : Nat) (hm : Tryz.prog.follows .mixedOrders = true) (hn : a0.tmps.size = n) (hs : sound l.toArray n = true) (hng : l.all (fun o => o.guard.isNone) = true)
    (hst : Stands E specs) (hrefl : ∀ w, E w w) (hC0 : C0 w.drew) (oc ox : Oper) (lc : l[c]? = some oc) (lx : l[x]? = some ox) (hdc : ox.after.any (fun e => Region.binds .any e && e.on == c) = true) (hR : R.all (fun i => oc.after.any (fun e => Region.binds .any e && e.on == i)) = true)
    (tx : (specs[x]?).getD (.inl undef) = .inl undef)
    (f : FuncId) (fn : Func) (cd : Code) (xs : Array Operand) (ats : Array TypeId) (hf : Tryz.prog.funcs[f]? = some fn) (hname : (fn.name == "runtime.NumGoroutine") = false) (hb : fn.body = some cd) (hoc : oc.op = .call { callee := .value (.func f), args := xs, argTypes := ats })
    (rc : ∀ (ρ : Operand → Value), (∀ z ∈ xs, (argS l.toArray specs a0 z).ok (ρ z) w.drew) → Calls Tryz.prog f (xs.map ρ) w.drew (fun e w' => ∃ v, e = .returned v ∧ ((specs[c]?).getD (.inl undef)).ok v w' ∧ E w.drew w' ∧ C0 w' ∧ P1 w'))
    (rx : ∀ (ρ : Operand → Value) (w' : World), P1 w' → (∀ z ∈ ox.op.operands, (argS l.toArray specs a0 z).ok (ρ z) w') → ∃ w2, (execOp ρ ox).run Tryz.prog w' = .ok .skip w2 ∧ E w' w2 ∧ C0 w2 ∧ P2 w2)
    (hG : GoodsCall1 l.toArray specs a0 C0 (fun w' => w' = w.drew) c x R 0 l specs)
    (hF : ∀ w', P2 w' → later w' (fun a' => Q .normal a' w') l specs a0) : (Code.region id l.toArray true).wp Tryz.prog Q a0 w := by
  refine wp_rows_freeE (fun L _ w' => (L x = true → L c = true) ∧ (L c = true → ∀ i ∈ R, L i = true) ∧ (L c = false → w' = w.drew) ∧ (L c = true → L x = false → P1 w') ∧ (L x = true → P2 w')) C0 E specs n hm hn hs hst hng hC0 ⟨fun h => (by cases h), fun h => (by cases h), fun _ => rfl, fun h => (by cases h), fun h => (by cases h)⟩ ?_ ?_
  · intro i o L a w' ho hL hdep hsz hC hargs hV
    obtain ⟨v2, v3, v4, v5, v6⟩ := hV
    by_cases hic : i = c
    · subst hic
      rw [lc] at ho
      cases ho
      have hw := v4 hL
      subst hw
      have hx0 : L x = false := by
        cases e : L x with
        | false => rfl
        | true => rw [v2 e] at hL; cases hL
      have hc := rc a.eval (fun z hz => hargs z (by rw [hoc]; simp [Op.operands, Call.operands, hz]))
      have hr : (execOp a.eval oc).run Tryz.prog w.drew = .ok (.enter f (xs.map a.eval)) w.drew := by
        have e : execOp a.eval oc = callFunc f (#[] ++ xs.map a.eval ++ #[]) := by unfold execOp; rw [hoc]; rfl
        rw [e, run_enter hf hname hb]
        simp
      unfold Oper.wp
      rw [hr]
      refine Calls.mono hc fun e w2 ⟨v, he, hv, hE, hC2, hP⟩ => ?_
      subst he
      refine ⟨v, rfl, hv, hE, hC2, fun h => ?_, fun _ j hj => ?_, fun h => (by rw [upd_self'] at h; cases h), fun _ _ => hP, fun h => ?_⟩
      · exact upd_self' _ _
      · have h1 := dep_of (List.all_eq_true.1 hR j hj) hdep
        unfold upd
        split
        · rfl
        · exact h1
      · rw [upd_ne' hcx, hx0] at h; cases h
    by_cases hix : i = x
    · subst hix
      rw [lx] at ho
      cases ho
      have hc1 := dep_of hdc hdep
      obtain ⟨w2, hr, hE, hC2, hP⟩ := rx a.eval w' (v5 hc1 hL) hargs
      refine wp_skip hr ⟨undef, rfl, by rw [tx]; rfl, hE, hC2, fun _ => ?_, fun _ j hj => ?_, fun h => ?_, fun _ h => (by rw [upd_self'] at h; cases h), fun _ => hP⟩
      · rw [upd_ne' (Ne.symm hcx)]; exact hc1
      · unfold upd
        split
        · rfl
        · exact v3 hc1 j hj
      · rw [upd_ne' (Ne.symm hcx), hc1] at h; cases h
    obtain ⟨s, hss, hg⟩ := gcall1_at l specs 0 hG i o ho (by omega) (by omega)
    have hgn : o.guard = none := by
      have := List.all_eq_true.1 hng o (List.mem_of_getElem? ho)
      simpa using this
    have hlk : ∀ t ∈ o.looksAt l.toArray, (slotS l.toArray specs a0 t).ok (a.eval (.tmp t)) w' := by
      intro t ht
      unfold Oper.looksAt at ht
      rw [hgn] at ht
      simp only [List.append_nil, List.mem_filterMap] at ht
      obtain ⟨y', hy, he⟩ := ht
      cases y' with
      | tmp t' =>
        simp only [Option.some.injEq] at he
        subst he
        exact hargs (.tmp t') (by simpa using hy)
      | const _ => simp at he
      | global _ => simp at he
      | func _ => simp at he
    have hwant : Region.wanted o (yielded l.toArray a.tmps) = true := by unfold Region.wanted; rw [hgn]
    have hC1 : C0 w' ∧ (0 + i ∈ R → w' = w.drew) := ⟨hC, fun hi => v4 (by
      cases e : L c with
      | false => rfl
      | true => rw [Nat.zero_add] at hi; rw [v3 e i hi] at hL; cases hL)⟩
    refine Oper.wp_mono (fun a' w3 hk => ?_) ((hg Q a w' hC1 hlk).1 hwant)
    obtain ⟨v, h1, h2, h3, h4⟩ := hk
    subst h3
    refine ⟨v, h1, by rw [hss]; exact h2, hrefl _, hC, ?_⟩
    rw [upd_ne' hic, upd_ne' hix]
    refine ⟨v2, fun hc j hj => ?_, v4, v5, v6⟩
    unfold upd
    split
    · rfl
    · exact v3 hc j hj
  · intro w' _
    by_cases e : P2 w'
    · exact later_mono (fun a h _ => h) _ _ _ (hF w' e)
    · refine later_all ?_ _ _ _ (gcall1_len l specs 0 hG)
      rintro a ⟨L, hall, h2, h3, h4, h5, h6⟩
      exact absurd (h6 (hall x (List.getElem?_eq_some_iff.1 lx).1)) e
end Rg.Fr
/-- What read gives a chunk. -/
def RdOk (b : List UInt8) (N : Nat) (x y : SV) (w : World) : Prop := IsC (LW b) x w ∧ IsZ (LP b) y w ∧ ∀ q, (sv x).ownBlock = some q ∨ (sv y).ownBlock = some q → N ≤ q
theorem RdOk.below {b : List UInt8} {N : Nat} {x y : SV} {w w' : World} (h : RdOk b N x y w) (hx : Ex w w') : RdOk b N x y w' := ⟨h.1.below hx, h.2.1.below hx, h.2.2⟩
theorem RdOk.far {b : List UInt8} {N r : Nat} {x y : SV} {w w' : World} (h : RdOk b N x y w) (hg : w.grownBy w' (some r)) (hr : r < N) : RdOk b N x y w' :=
  ⟨h.1.far hg (fun _ q hq e => by have := h.2.2 q (.inl hq); simp at e; omega), h.2.1.far hg (fun _ q hq e => by have := h.2.2 q (.inr hq); simp at e; omega), h.2.2⟩
def RdV (b : List UInt8) (N : Nat) (v : Value) (w : World) : Prop := ∃ x y, v = cov (Ck.lread b).f x y ∧ RdOk b N x y w
def RdT (b : List UInt8) (N : Nat) (v : Value) (w : World) : Prop := ∃ x y, v = .tuple #[cov (Ck.lread b).f x y, .int .i64 0] ∧ RdOk b N x y w
/-- The column was laid. -/
def Laid (w w' : World) (g : Nat) (b : List UInt8) (K R : Int) (dn : Nat) (s : Int) : Prop := ∃ x y, ChS w' g K R dn s n0 (Ck.lread b).f x y ∧ RdOk b w.heap.size x y w' ∧ w.grownBy w' (some g)
set_option maxHeartbeats 4000000 in
set_option maxRecDepth 100000 in
theorem vals_is (p g : Nat) (b : List UInt8) (K R : Int) (dn : Nat) (s : Int) (bs : SV) (w : World) (hp : w.cell? ⟨p, 0, none⟩ = some (.pointer (some ⟨g, 0, none⟩))) (hpg : p ≠ g) (hC : ChS w g K R dn s bs 0 n0 n0) (hB : IsB b bs w) (hok : Ok b) :
    Calls Tryz.prog 94 #[.pointer (some ⟨p, 0, none⟩)] w fun e w' => e = .returned (.tuple #[]) ∧ Laid w w' g b K R dn s := by
  obtain ⟨ba, bn, bc⟩ := bs
  have HP : Hid (w.cell? ⟨p, 0, none⟩ = some (.pointer (some ⟨g, 0, none⟩))) := hp
  have HC : Hid (ChS w g K R dn s (ba, bn, bc) 0 n0 n0) := hC
  have HB : Hid (IsB b (ba, bn, bc) w) := hB
  have HOk : Hid (Ok b) := hok
  have hglt : g < w.heap.size := hC.lt
  have hplt : p < w.heap.size := World.block_lt_of_cell? w _ hp
  obtain ⟨F, hF⟩ : ∃ F, (Ck.lread b).f = F := ⟨_, rfl⟩
  have HF : Hid ((Ck.lread b).f = F) := hF
  clear hp hC hB hok hF
  go_enter Tryz.func94, Tryz.ntmps94
  go_wp2_with fail
  have hre : ∀ u : World, u = u := fun _ => rfl
  have HCD : Hid (ChS w.drew g K R dn s (ba, bn, bc) 0 n0 n0) := HC.out.drew
  have HPD : Hid (w.drew.cell? ⟨p, 0, none⟩ = some (.pointer (some ⟨g, 0, none⟩))) := cell_ext HP.out (Ex.drew w)
  refine Rg.Fr.wp_call1 5 11 (by decide) (fun w2 => w2.cell? ⟨p, 0, none⟩ = some (.pointer (some ⟨g, 0, none⟩))) (fun a b => a.grownBy b (some g)) (fun w2 => Ex w.drew w2) (fun w2 => ∃ x y, ChS w2 g K R dn s (ba, bn, bc) F x y ∧ RdOk b w.heap.size x y w2 ∧ w.drew.grownBy w2 (some g)) [4] [.inl (.pointer (some ⟨g, 0, none⟩)), .inl (.pointer (some ⟨g, 0, none⟩)), .inl (.pointer (some ⟨g, 0, none⟩)), .inl (.pointer (some ⟨g, 5, none⟩)), .inl (.slice ba bn bc), .inr (RdT b w.heap.size), .inr (RdT b w.heap.size), .inr (RdV b w.heap.size), .inl (.int .i64 0), .inl (.pointer (some ⟨g, 0, none⟩)), .inl (.pointer (some ⟨g, 6, none⟩)), .inl undef] 15 (by kernel_rfl) rfl (by kernel_rfl) (by kernel_rfl) ?st (fun w => World.grownBy.refl _ _) HPD.out _ _ rfl rfl (by kernel_rfl) (by kernel_rfl) rfl _ _ _ _ _ Tryz.func44 (by kernel_rfl) rfl rfl ?rc ?rx ?hG ?hF
  case st =>
    refine ⟨?_, ?_, ?_, trivial⟩
    · rintro v w1 w2 ⟨x, y, h1, h2⟩ hx; exact ⟨x, y, h1, h2.far hx hglt⟩
    · rintro v w1 w2 ⟨x, y, h1, h2⟩ hx; exact ⟨x, y, h1, h2.far hx hglt⟩
    · rintro v w1 w2 ⟨x, y, h1, h2⟩ hx; exact ⟨x, y, h1, h2.far hx hglt⟩
  case rc =>
    intro ρ ha
    have h1 : ρ (.tmp 6) = .slice ba bn bc := ha (.tmp 6) (by simp)
    simp only [List.map_toArray, List.map_cons, List.map_nil, h1]
    refine (read_is ba bn bc b w.drew HB.out.1 (HB.out.2.below (Ex.drew w)) HOk.out.2.1).mono ?_
    rintro e w' ⟨v, he, ⟨_, hr2⟩, hx⟩
    obtain ⟨x, y, hv, hxc, hyz, hfr⟩ := hr2 HOk.out.1
    exact ⟨v, he, ⟨x, y, hv, hxc, hyz, fun q hq => Nat.le_trans (Ex.drew w).size (hfr q hq)⟩, hx.grownBy _, cell_ext HPD.out hx, hx⟩
  case rx =>
    intro ρ w2 hx ha
    have h1 : ρ (.tmp 11) = .pointer (some ⟨g, 6, none⟩) := ha (.tmp 11) (by simp [Op.operands])
    have h2 : RdV b w.heap.size (ρ (.tmp 8)) w2 := ha (.tmp 8) (by simp [Op.operands])
    obtain ⟨x, y, hv, hro⟩ := h2
    rw [HF.out] at hv
    have hCx : ChS w2 g K R dn s (ba, bn, bc) 0 n0 n0 := HCD.out.below hx
    have q6 : w2.cell? ⟨g, 6, none⟩ = some (.int .u64 0) := hCx.cell 6
    have q7 : w2.cell? ⟨g, 7, none⟩ = some (.slice none 0 0) := hCx.cell 7
    have q8 : w2.cell? ⟨g, 8, none⟩ = some (.slice none 0 0) := hCx.cell 8
    have f6 := hCx.fro 6
    have f7 := hCx.fro 7
    have f8 := hCx.fro 8
    refine ⟨chset w2 g F x y, ?_, grown_chset _ _ _ _ _, ?_, x, y, ChS.set8 (ChS.set7 (ChS.set6 hCx F) x) y, hro.far (grown_chset _ _ _ _ _) hglt, grown_tr (hx.grownBy _) (grown_chset _ _ _ _ _)⟩
    · unfold cov at hv
      simp only [sv] at hv
      simp [execOp, h1, hv, go_sem, q6, q7, q8, f6, f7, f8]
    · have hz := cell_ext HPD.out hx
      rw [(grown_chset w2 g F x y).cell_far ⟨p, 0, none⟩ (World.block_lt_of_cell? w2 _ hz) (by simpa using hpg)]
      exact hz
  case hG =>
    refine ⟨fun _ _ => Rg.good_load hre rfl rfl rfl (fun wx hC => by have hz := hC.1; go_simp), ?_⟩
    refine ⟨fun _ _ => Rg.good_load hre rfl rfl rfl (fun wx hC => by have hz := hC.1; go_simp), ?_⟩
    refine ⟨fun _ _ => Rg.good_nil hre rfl rfl rfl, ?_⟩
    refine ⟨fun _ _ => Rg.good_field hre rfl rfl rfl (fun wx hC => by go_simp), ?_⟩
    refine ⟨fun _ _ => Rg.good_load hre rfl rfl rfl (fun wx hC => by have hw := hC.2 (by decide); subst hw; have hz : w.drew.cell? ⟨g, 5, none⟩ = some (.slice ba bn bc) := HCD.out.cell 5; go_simp), ?_⟩
    refine ⟨fun h => absurd rfl h, ?_⟩
    refine ⟨fun _ _ => Rg.good_move hre rfl rfl rfl, ?_⟩
    refine ⟨fun _ _ => Rg.good_extractP hre rfl rfl rfl (by rintro v w1 ⟨x, y, rfl, h⟩; exact ⟨_, _, rfl, rfl, x, y, rfl, h⟩), ?_⟩
    refine ⟨fun _ _ => Rg.good_extractP hre rfl rfl rfl (by rintro v w1 ⟨x, y, rfl, h⟩; exact ⟨_, _, rfl, rfl, rfl⟩), ?_⟩
    refine ⟨fun _ _ => Rg.good_nil hre rfl rfl rfl, ?_⟩
    refine ⟨fun _ _ => Rg.good_field hre rfl rfl rfl (fun wx hC => by go_simp), ?_⟩
    refine ⟨fun _ h => absurd rfl h, ?_⟩
    exact trivial
  case hF =>
    rintro w2 ⟨x, y, hC2, hro, hg2⟩
    simp only [Rg.later, Act.put, List.setIfInBounds_toArray, List.set_cons_succ, List.set_cons_zero]
    intro v1 _ v2 _ v3 _
    have hPx : w2.cell? ⟨p, 0, none⟩ = some (.pointer (some ⟨g, 0, none⟩)) := by
      rw [hg2.cell_far ⟨p, 0, none⟩ (World.block_lt_of_cell? _ _ HPD.out) (by simpa using hpg)]
      exact HPD.out
    have q5 : w2.cell? ⟨g, 5, none⟩ = some (.slice ba bn bc) := hC2.cell 5
    have f5 := hC2.fro 5
    have hC9 : ChS (w2.setCell ⟨g, 5, none⟩ (.slice none 0 0)) g K R dn s n0 F x y := ChS.set5 hC2 n0
    have HC9 : Hid (ChS (w2.setCell ⟨g, 5, none⟩ (.slice none 0 0)) g K R dn s n0 (Ck.lread b).f x y) := (by rw [HF.out]; exact hC9 : ChS (w2.setCell ⟨g, 5, none⟩ (.slice none 0 0)) g K R dn s n0 (Ck.lread b).f x y)
    have HR9 : Hid (RdOk b w.heap.size x y (w2.setCell ⟨g, 5, none⟩ (.slice none 0 0))) := hro.far (grown_set1 _ _ _ _) hglt
    have HG9 : Hid (w.grownBy (w2.setCell ⟨g, 5, none⟩ (.slice none 0 0)) (some g)) := grown_tr ((Ex.drew w).grownBy _) (grown_tr hg2 (grown_set1 _ _ _ _))
    clear hC2 hC9 hg2 hro
    go_wp2_with fail
    go_end0
    exact ⟨rfl, x, y, HC9.out, HR9.out, HG9.out⟩
end Go.Proofs.YtnmonoafjijfhaaGreat
namespace Go.Proofs.YtnmonoafjijfhaaGreat
open Go.RowKit
set_option linter.unusedVariables false
set_option linter.unusedSimpArgs false
theorem o_load (a : Addr) (d : Int) (r : Bool) (w : World) (h0 : w.cell? a = some (.int .u32 d)) (hr : (d != 0) = r) :
    Calls Tryz.prog 115 #[.pointer (some a)] w fun e w' => e = .returned (.bool r) ∧ w' = w := by
  have hl := run_call_load (P := Tryz.prog) Tryz.func125 (by kernel_rfl) (by kernel_rfl) (by kernel_rfl) .u32 (by kernel_rfl) h0
  go_enter Tryz.func115, Tryz.ntmps115
  go_wp2
  go_ret
  exact ⟨rfl, rfl⟩
set_option maxRecDepth 100000 in
set_option maxHeartbeats 4000000 in
theorem slow_is (p g : Nat) (b : List UInt8) (K R : Int) (bs : SV) (w : World) (hp : w.cell? ⟨p, 0, none⟩ = some (.pointer (some ⟨g, 0, none⟩))) (hpg : p ≠ g) (hC : ChS w g K R 0 0 bs 0 n0 n0) (hB : IsB b bs w) (hbs : 0 < bs.2.1 → ∀ q, (sv bs).ownBlock = some q → q ≠ g) (hok : Ok b) :
    Calls Tryz.prog 116 #[.pointer (some ⟨g, 2, none⟩), .func (.func 94) #[] #[.pointer (some ⟨p, 0, none⟩)]] w fun e w' => e = .returned (.tuple #[]) ∧ Laid w w' g b K R 1 0 := by
  have hnot : ∀ (x : Bool) (w : World), (Op.unary .not (.bool x)).run Tryz.prog w = .ok (.bool (!x)) w := fun _ _ => rfl
  obtain ⟨w1, hw1⟩ : ∃ w1, w.setCell ⟨g, 3, none⟩ (.int .i32 1) = w1 := ⟨_, rfl⟩
  have hg1 : w.grownBy w1 (some g) := by rw [← hw1]; exact grown_set1 _ _ _ _
  have HC1 : Hid (ChS w1 g K R 0 1 bs 0 n0 n0) := (by rw [← hw1]; exact hC.set3 1 : ChS w1 g K R 0 1 bs 0 n0 n0)
  have HG1 : Hid (w.grownBy w1 (some g)) := hg1
  have HP1 : Hid (w1.cell? ⟨p, 0, none⟩ = some (.pointer (some ⟨g, 0, none⟩))) := (by rw [hg1.cell_far ⟨p, 0, none⟩ (World.block_lt_of_cell? _ _ hp) (by simpa using hpg)]; exact hp : w1.cell? ⟨p, 0, none⟩ = some (.pointer (some ⟨g, 0, none⟩)))
  have HB1 : Hid (IsB b bs w1) := hB.far hg1 (fun h0 q hq e => hbs h0 q hq (by simpa using e.symm))
  have HOk : Hid (Ok b) := hok
  have HW1 : Hid (w.setCell ⟨g, 3, none⟩ (.int .i32 1) = w1) := hw1
  have q3 : w.cell? ⟨g, 3, none⟩ = some (.int .i32 0) := hC.cell 3
  have f3 := hC.fro 3
  have hs1 : w.heap.size ≤ w1.heap.size := hg1.size
  clear hp hC hB hok hg1 hw1
  go_enter_defers Tryz.func116, Tryz.ntmps116
  go_wp2_with fail
  go_at_call 126
  refine (o_lock ⟨g, 3, none⟩ w q3 f3).mono ?_
  rintro e w' ⟨rfl, rfl⟩
  rw [HW1.out]
  go_wp2_with fail
  go_at_call 115
  refine (o_load ⟨g, 2, none⟩ 0 false w1 (HC1.out.cell 2) rfl).mono ?_
  rintro e wq ⟨rfl, hwq⟩
  have hwq' := hwq.symm; clear hwq; subst hwq'
  go_wp2_with fail
  go_at_call 94
  refine (vals_is p g b K R 0 1 bs w1 HP1.out hpg HC1.out HB1.out HOk.out).mono ?_
  rintro e w2 ⟨rfl, x, y, hC2, hro, hg2⟩
  have HC2 : Hid (ChS w2 g K R 0 1 n0 (Ck.lread b).f x y) := hC2
  have HR2 : Hid (RdOk b w1.heap.size x y w2) := hro
  have HG2 : Hid (w.grownBy w2 (some g)) := grown_tr HG1.out hg2
  clear hC2 hro hg2
  go_wp2_with fail
  refine leaves_cons (f := 128) (args := #[.pointer (some ⟨g, 2, none⟩), .bool true]) (by simp) (by simp [go_sem]) ?_
  refine (o_store ⟨g, 2, none⟩ (.int .u32 0) .returning _ (HC2.out.cell 2) (HC2.out.fro 2)).mono ?_
  rintro e u' w'' ⟨rfl, rfl, rfl⟩
  have hC3 : ChS (w2.drew.setCell ⟨g, 2, none⟩ (.int .u32 1)) g K R 1 1 n0 (Ck.lread b).f x y := HC2.out.drew.set2 1
  refine leaves_cons (f := 127) (args := #[.pointer (some ⟨g, 3, none⟩)]) (by simp [settle]) (by simp [go_sem]) ?_
  refine (o_unlock ⟨g, 3, none⟩ _ _ (hC3.cell 3) (hC3.fro 3)).mono ?_
  rintro e u' w'' ⟨rfl, rfl, rfl⟩
  have hg9 : w2.grownBy ((w2.drew.setCell ⟨g, 2, none⟩ (.int .u32 1)).setCell ⟨g, 3, none⟩ (.int .i32 0)) (some g) := grown_tr (grown_tr ((Ex.drew _).grownBy _) (grown_set1 _ _ _ _)) (grown_set1 _ _ _ _)
  have hfin : Laid w ((w2.drew.setCell ⟨g, 2, none⟩ (.int .u32 1)).setCell ⟨g, 3, none⟩ (.int .i32 0)) g b K R 1 0 :=
    ⟨x, y, hC3.set3 0, ⟨(HR2.out.far hg9 (by have := HC1.out.lt; omega)).1, (HR2.out.far hg9 (by have := HC1.out.lt; omega)).2.1, fun q hq => Nat.le_trans hs1 (HR2.out.2.2 q hq)⟩, grown_tr HG2.out hg9⟩
  simp [Leaves, settle, results, Tryz.results116]
  exact hfin
end Go.Proofs.YtnmonoafjijfhaaGreat
namespace Go.Proofs.YtnmonoafjijfhaaGreat
open Go.RowKit
set_option linter.unusedVariables false
set_option linter.unusedSimpArgs false
set_option maxRecDepth 100000 in
set_option maxHeartbeats 4000000 in
theorem do_first (p g : Nat) (b : List UInt8) (K R : Int) (bs : SV) (w : World) (hp : w.cell? ⟨p, 0, none⟩ = some (.pointer (some ⟨g, 0, none⟩))) (hpg : p ≠ g) (hC : ChS w g K R 0 0 bs 0 n0 n0) (hB : IsB b bs w) (hbs : 0 < bs.2.1 → ∀ q, (sv bs).ownBlock = some q → q ≠ g) (hok : Ok b) :
    Calls Tryz.prog 93 #[.pointer (some ⟨g, 2, none⟩), .func (.func 94) #[] #[.pointer (some ⟨p, 0, none⟩)]] w fun e w' => e = .returned (.tuple #[]) ∧ Laid w w' g b K R 1 0 := by
  have hnot : ∀ (x : Bool) (w : World), (Op.unary .not (.bool x)).run Tryz.prog w = .ok (.bool (!x)) w := fun _ _ => rfl
  have HS := slow_is p g b K R bs w hp hpg hC hB hbs hok
  have HL := o_load ⟨g, 2, none⟩ 0 false w (hC.cell 2) rfl
  have HS' : Hid (Calls Tryz.prog 116 #[.pointer (some ⟨g, 2, none⟩), .func (.func 94) #[] #[.pointer (some ⟨p, 0, none⟩)]] w fun e w' => e = .returned (.tuple #[]) ∧ Laid w w' g b K R 1 0) := HS
  have HL' : Hid (Calls Tryz.prog 115 #[.pointer (some ⟨g, 2, none⟩)] w fun e w' => e = .returned (.bool false) ∧ w' = w) := HL
  clear HS HL hp hC hB hbs hok
  go_enter Tryz.func93, Tryz.ntmps93
  go_wp2_with fail
  go_at_call 115
  refine Calls.mono HL'.out ?_
  rintro e wq ⟨rfl, hwq⟩
  have hwq' := hwq.symm; clear hwq; subst hwq'
  go_wp2_with fail
  go_at_call 116
  refine Calls.mono HS'.out ?_
  rintro e w2 ⟨rfl, h2⟩
  go_wp2_with fail
  go_end0
  exact ⟨rfl, h2⟩
theorem do_done (g : Nat) (fv : Value) (w : World) (h : w.cell? ⟨g, 2, none⟩ = some (.int .u32 1)) :
    Calls Tryz.prog 93 #[.pointer (some ⟨g, 2, none⟩), fv] w fun e w' => e = .returned (.tuple #[]) ∧ w' = w := by
  have hnot : ∀ (x : Bool) (w : World), (Op.unary .not (.bool x)).run Tryz.prog w = .ok (.bool (!x)) w := fun _ _ => rfl
  have HL' : Hid (Calls Tryz.prog 115 #[.pointer (some ⟨g, 2, none⟩)] w fun e w' => e = .returned (.bool true) ∧ w' = w) := o_load ⟨g, 2, none⟩ 1 true w h rfl
  clear h
  go_enter Tryz.func93, Tryz.ntmps93
  go_wp2_with fail
  go_at_call 115
  refine Calls.mono HL'.out ?_
  rintro e wq ⟨rfl, hwq⟩
  have hwq' := hwq.symm; clear hwq; subst hwq'
  go_wp2_with fail
  go_end0
  exact ⟨rfl, rfl⟩
/-- Behind a question the chunk is read; nothing old has turned but its own block. -/
def Asked (w w' : World) (g : Nat) (b : List UInt8) (fp : Nat → Prop) : Prop := ∃ fp' : Nat → Prop, ChD w' g b fp' ∧ (∀ q, fp' q → fp q ∨ w.heap.size ≤ q) ∧ w.grownBy w' (some g)
set_option maxRecDepth 100000 in
set_option maxHeartbeats 4000000 in
theorem values_d (g : Nat) (b : List UInt8) (fp : Nat → Prop) (w : World) (h : ChD w g b fp) :
    Calls Tryz.prog 56 #[.pointer (some ⟨g, 0, none⟩)] w fun e w' => e = .returned (.pointer (some ⟨g, 6, none⟩)) ∧ Ex w w' := by
  have hmf : ∀ (fn : Fn) (first cap : Array Value) (w : World), (Instr.makeFunc fn first cap).run Tryz.prog w = .ok (.func fn first cap) w := fun _ _ _ _ => rfl
  obtain ⟨x, y, hC, _⟩ := h
  obtain ⟨w1, hw1⟩ : ∃ w1, w.alloc (.cells #[.pointer (some ⟨g, 0, none⟩)] 32) = w1 := ⟨_, rfl⟩
  have hx1 : Ex w w1 := by rw [← hw1]; exact (Below.refl _ _).alloc (Nat.le_refl _) _
  have hd : w1.cell? ⟨g, 2, none⟩ = some (.int .u32 1) := (hC.below hx1).cell 2
  have hp : w1.cell? ⟨w.heap.size, 0, none⟩ = some (.pointer (some ⟨g, 0, none⟩)) := by rw [← hw1]; simp
  have HX1 : Hid (Ex w w1) := hx1
  have HD : Hid (w1.cell? ⟨g, 2, none⟩ = some (.int .u32 1)) := hd
  clear hC hx1 hd
  go_enter Tryz.func56, Tryz.ntmps56
  go_wp2_with fail
  go_at_call 93
  refine (do_done g _ w1 HD.out).mono ?_
  rintro e wq ⟨rfl, hwq⟩
  have hwq' := hwq.symm; clear hwq; subst hwq'
  go_wp2_with fail
  go_ret
  exact ⟨rfl, HX1.out⟩
set_option maxRecDepth 100000 in
set_option maxHeartbeats 4000000 in
theorem values_is (g : Nat) (b : List UInt8) (fp : Nat → Prop) (w : World) (h : Chk w g b fp) (hok : Ok b) :
    Calls Tryz.prog 56 #[.pointer (some ⟨g, 0, none⟩)] w fun e w' => e = .returned (.pointer (some ⟨g, 6, none⟩)) ∧ Asked w w' g b fp := by
  rcases h with h | h
  · have hmf : ∀ (fn : Fn) (first cap : Array Value) (w : World), (Instr.makeFunc fn first cap).run Tryz.prog w = .ok (.func fn first cap) w := fun _ _ _ _ => rfl
    obtain ⟨bs, hC, hB, hbs⟩ := h
    have hglt := hC.lt
    obtain ⟨w1, hw1⟩ : ∃ w1, w.alloc (.cells #[.pointer (some ⟨g, 0, none⟩)] 32) = w1 := ⟨_, rfl⟩
    have hx1 : Ex w w1 := by rw [← hw1]; exact (Below.refl _ _).alloc (Nat.le_refl _) _
    have hs1 : w.heap.size ≤ w1.heap.size := hx1.size
    have hp : w1.cell? ⟨w.heap.size, 0, none⟩ = some (.pointer (some ⟨g, 0, none⟩)) := by rw [← hw1]; simp
    have hdf := do_first w.heap.size g b (LK b) ((LC b).length : Nat) bs w1 hp (by omega) (hC.below hx1 : ChAt w1 g (LK b) ((LC b).length : Nat) 0 bs 0 n0 n0) (hB.below hx1) (fun h0 q hq => (hbs h0 q hq).1) hok
    have HDF : Hid (Calls Tryz.prog 93 #[.pointer (some ⟨g, 2, none⟩), .func (.func 94) #[] #[.pointer (some ⟨w.heap.size, 0, none⟩)]] w1 fun e w' => e = .returned (.tuple #[]) ∧ Laid w1 w' g b (LK b) ((LC b).length : Nat) 1 0) := hdf
    have HX1 : Hid (Ex w w1) := hx1
    clear hC hB hbs hdf hx1 hok
    go_enter Tryz.func56, Tryz.ntmps56
    go_wp2_with fail
    go_at_call 93
    refine Calls.mono HDF.out ?_
    rintro e w2 ⟨rfl, x, y, hC2, hro, hg2⟩
    have hp2 : w2.cell? ⟨w.heap.size, 0, none⟩ = some (.pointer (some ⟨g, 0, none⟩)) := by
      rw [hg2.cell_far ⟨w.heap.size, 0, none⟩ (World.block_lt_of_cell? _ _ hp) (by simp; omega)]
      exact hp
    have HA : Hid (Asked w w2 g b fp) := (⟨fun q => fp q ∨ w.heap.size ≤ q, ⟨x, y, hC2, hro.1, hro.2.1, fun _ q hq => by have := hro.2.2 q (.inl hq); exact ⟨by omega, .inr (by omega)⟩, fun _ q hq => by have := hro.2.2 q (.inr hq); exact ⟨by omega, .inr (by omega)⟩⟩, fun q hq => hq, grown_tr (HX1.out.grownBy _) hg2⟩ : Asked w w2 g b fp)
    clear hC2 hro hg2 hp
    go_wp2_with fail
    go_ret
    exact ⟨rfl, HA.out⟩
  · refine (values_d g b fp w h).mono ?_
    rintro e w' ⟨he, hx⟩
    exact ⟨he, fp, h.below hx, fun q hq => .inl hq, hx.grownBy _⟩
theorem kind_is (g : Nat) (b : List UInt8) (fp : Nat → Prop) (w : World) (h : Chk w g b fp) :
    Calls Tryz.prog 53 #[.pointer (some ⟨g, 0, none⟩)] w fun e w' => e = .returned (.int .i64 (LK b)) ∧ w' = w := by
  have hz := h.two.1
  clear h
  go_enter Tryz.func53, Tryz.ntmps53
  go_wp2_with fail
  go_ret
  exact ⟨rfl, rfl⟩
theorem rows_is (g : Nat) (b : List UInt8) (fp : Nat → Prop) (w : World) (h : Chk w g b fp) :
    Calls Tryz.prog 20 #[.pointer (some ⟨g, 0, none⟩)] w fun e w' => e = .returned (.int .i64 ((LC b).length : Nat)) ∧ w' = w := by
  have hz := h.two.2
  clear h
  go_enter Tryz.func20, Tryz.ntmps20
  go_wp2_with fail
  go_ret
  exact ⟨rfl, rfl⟩
/-- The cell at a place, or none. -/
def LA (b : List UInt8) (i : Int) : Ce := if i < 0 then Rw.none_ else (LC b).getD i.toNat Rw.none_
theorem LA_in {b : List UInt8} {i : Nat} (h : i < (LC b).length) : LA b i = cel (LW b) (LP b) i := by
  unfold LA
  rw [if_neg (by omega)]
  have h2 : i < (LP b).length := by rw [← LC_len]; exact h
  have := allC_at (ws := LW b) h2
  rw [← this]
  simp [List.getD_eq_getElem?_getD, LC_def, h2, allC_len]
theorem LA_out {b : List UInt8} {i : Int} (h : i < 0 ∨ ((LC b).length : Int) ≤ i) : LA b i = Rw.none_ := by
  unfold LA
  split
  · rfl
  · rw [List.getD_eq_getElem?_getD, List.getElem?_eq_none (by omega)]; rfl
end Go.Proofs.YtnmonoafjijfhaaGreat
namespace Go.Proofs.YtnmonoafjijfhaaGreat
open Go.RowKit
set_option linter.unusedVariables false
set_option linter.unusedSimpArgs false
theorem EAt.farG {w w' : World} {g : Nat} {c : Ce} {row : Option Nat} (h : EAt w g c) (hg : w.grownBy w' row) (hne : row ≠ some g) : EAt w' g c := by
  unfold EAt; rw [hg.block g h.lt (fun e => hne e.symm)]; exact h
theorem grown_eset (w : World) (g : Nat) (c : Ce) : w.grownBy (eset w g c) (some g) := grown_tr (grown_tr (grown_tr (grown_set1 _ _ _ _) (grown_set1 _ _ _ _)) (grown_set1 _ _ _ _)) (grown_set1 _ _ _ _)
/-- Behind a question: the chunk stands; nothing old has turned but its own block. -/
def After (w w' : World) (g : Nat) (b : List UInt8) (fp : Nat → Prop) : Prop := ∃ fp' : Nat → Prop, Chk w' g b fp' ∧ (∀ q, fp' q → fp q ∨ w.heap.size ≤ q) ∧ w.grownBy w' (some g)
theorem Asked.after {w w' : World} {g : Nat} {b : List UInt8} {fp : Nat → Prop} (h : Asked w w' g b fp) : After w w' g b fp := by
  obtain ⟨fp', h1, h2, h3⟩ := h
  exact ⟨fp', .inr h1, h2, h3⟩
theorem Chk.nine {w : World} {g : Nat} {b : List UInt8} {fp : Nat → Prop} (h : ChD w g b fp) : ∃ x y, w.cell? ⟨g, 6, none⟩ = some (.int .u64 ((Ck.lread b).f : Nat)) ∧ w.cell? ⟨g, 6 + 1, none⟩ = some (sv x) ∧ w.cell? ⟨g, 6 + 2, none⟩ = some (sv y) ∧ IsC (LW b) x w ∧ IsZ (LP b) y w := by
  obtain ⟨x, y, h1, h2, h3, _⟩ := h
  exact ⟨x, y, h1.cell 6, h1.cell 7, h1.cell 8, h2, h3⟩
set_option maxRecDepth 100000 in
set_option maxHeartbeats 4000000 in
theorem cell_is (g : Nat) (b : List UInt8) (fp : Nat → Prop) (I : Int) (w : World) (h : Chk w g b fp) (hok : Ok b) :
    Calls Tryz.prog 22 #[.pointer (some ⟨g, 0, none⟩), .int .i64 I] w fun e w' => e = .returned (cv (LA b I)) ∧ After w w' g b fp := by
  have hglt := h.lt
  obtain ⟨w1, hw1⟩ : ∃ w1, w.alloc (cb Rw.none_) = w1 := ⟨_, rfl⟩
  have hx1 : Ex w w1 := by rw [← hw1]; exact (Below.refl _ _).alloc (Nat.le_refl _) _
  have hs1 : w1.heap.size = w.heap.size + 1 := by rw [← hw1]; simp
  have HE1 : Hid (EAt w1 w.heap.size Rw.none_) := (by rw [← hw1]; exact EAt.new w Rw.none_ : EAt w1 w.heap.size Rw.none_)
  have HC1 : Hid (Chk w1 g b (fun q => fp q ∧ q < w.heap.size)) := h.tight.below hx1
  have HX1 : Hid (Ex w w1) := hx1
  have HOk : Hid (Ok b) := hok
  have HW1 : Hid (w.alloc (.cells #[.string { data := #[] }, .int .i64 0, .int .i64 0, .string { data := #[] }] 28) = w1) := hw1
  have z1 : w1.cell? ⟨g, 1, none⟩ = some (.int .i64 ((LC b).length : Nat)) := HC1.out.two.2
  clear h hok hw1 hx1
  obtain ⟨R, hR⟩ : ∃ R, (LC b).length = R := ⟨_, rfl⟩
  have HR : Hid ((LC b).length = R) := hR
  rw [hR] at z1
  have zA : (w.alloc (.cells #[.string { data := #[] }, .int .i64 0, .int .i64 0, .string { data := #[] }] 28)).cell? ⟨g, 1, none⟩ = some (.int .i64 (R : Nat)) := by rw [HW1.out]; exact z1
  clear hR
  go_enter Tryz.func22, Tryz.ntmps22
  by_cases hin : I < 0 ∨ (R : Int) ≤ I
  · have HA : Hid (LA b I = Rw.none_) := LA_out (by rw [HR.out]; exact hin)
    rw [HA.out]
    obtain ⟨y0, y1, y2, y3⟩ := HE1.out.all
    obtain ⟨f0, f1, f2, f3⟩ := HE1.out.fro
    have HFin : Hid (After w w1 g b fp) := (⟨fun q => fp q ∧ q < w.heap.size, HC1.out, fun q hq => .inl hq.1, HX1.out.grownBy _⟩ : After w w1 g b fp)
    rcases Classical.em (I < 0) with h0 | h0
    · have t0 : decide (I < 0) = true := by simp; omega
      go_wp2_with fail
      refine bodyPost_ret (v := cv Rw.none_) (res_cell Tryz.results22 rfl (by rw [HW1.out]; exact HE1.out)) rfl ⟨rfl, by rw [HW1.out]; exact HFin.out⟩
    · have h1 : (R : Int) ≤ I := by omega
      have t0 : decide (I < 0) = false := by simp; omega
      have t1 : decide ((R : Int) ≤ I) = true := by simpa using h1
      go_wp2_with fail
      refine bodyPost_ret (v := cv Rw.none_) (res_cell Tryz.results22 rfl (by rw [HW1.out]; exact HE1.out)) rfl ⟨rfl, by rw [HW1.out]; exact HFin.out⟩
  · have h0 : ¬ I < 0 := by omega
    have h1 : ¬ (R : Int) ≤ I := by omega
    obtain ⟨i, rfl⟩ : ∃ i : Nat, I = i := ⟨I.toNat, by omega⟩
    have t0 : decide ((i : Int) < 0) = false := by simp
    have t1 : decide ((R : Int) ≤ (i : Int)) = false := by simp; omega
    have hiR : i < (LC b).length := by rw [HR.out]; omega
    have hiP : i < (LP b).length := by rw [← LC_len]; exact hiR
    obtain ⟨d, hd⟩ : ∃ d, cel (LW b) (LP b) i = d := ⟨_, rfl⟩
    have HA : Hid (LA b (i : Int) = d) := (by rw [LA_in hiR, hd] : LA b (i : Int) = d)
    have HD : Hid (cel (LW b) (LP b) i = d) := hd
    rw [HA.out]
    clear hd hin
    go_wp2_with fail
    rw [HW1.out]
    go_at_call 56
    refine (values_is g b _ w1 HC1.out HOk.out).mono ?_
    rintro e2 w2 ⟨rfl, fp2, hD2, hf2, hg2⟩
    have HD2 : Hid (ChD w2 g b fp2) := hD2
    have HE2 : Hid (EAt w2 w.heap.size Rw.none_) := HE1.out.farG hg2 (by simp; omega)
    have HG2 : Hid (w1.grownBy w2 (some g)) := hg2
    obtain ⟨x, y, c6, c7, c8, hic, hiz⟩ := Chk.nine hD2
    have C7 : Hid (w2.cell? ⟨g, 6 + 1, none⟩ = some (sv x)) := c7
    have C8 : Hid (w2.cell? ⟨g, 6 + 2, none⟩ = some (sv y)) := c8
    have HIC : Hid (IsC (LW b) x w2) := hic
    have HIZ : Hid (IsZ (LP b) y w2) := hiz
    have HF2 : Hid (∀ q, fp2 q → (fp q ∧ q < w.heap.size) ∨ w1.heap.size ≤ q) := hf2
    clear hD2 hg2 c6 c7 c8 hic hiz hf2
    go_wp2_with fail
    go_at_call 57
    refine (colcell_is g 6 x y (LW b) (LP b) (i : Int) i w2 C7.out C8.out HIC.out HIZ.out rfl hiP HOk.out.2.2.2.1).mono ?_
    rw [HD.out]
    rintro e3 w3 ⟨rfl, hx3⟩
    have HE3 : Hid (EAt w3 w.heap.size Rw.none_) := HE2.out.below hx3
    have hfin : After w (eset w3 w.heap.size d) g b fp := by
      refine ⟨fp2, .inr ((HD2.out.below hx3).far (grown_eset _ _ _) (by omega) (fun h => ?_)), fun q hq => ?_, ?_⟩
      · have := HF2.out _ h; omega
      · rcases HF2.out q hq with h | h
        · exact .inl h.1
        · exact .inr (by omega)
      · exact grown_trN (grown_tr (HX1.out.grownBy _) (grown_tr HG2.out (hx3.grownBy _))) (grown_eset _ _ _) (fun j hj => by simp at hj; omega)
    have HFin : Hid (After w (eset w3 w.heap.size d) g b fp) := hfin
    obtain ⟨y0, y1, y2, y3⟩ := HE3.out.all
    obtain ⟨f0, f1, f2, f3⟩ := HE3.out.fro
    clear hfin hx3 C7 C8 HIC HIZ HE2 HE1
    unfold cv
    go_wp2_with fail
    refine bodyPost_ret (v := cv d) (res_cell Tryz.results22 rfl (EAt.store HE3.out d)) rfl ⟨rfl, HFin.out⟩
end Go.Proofs.YtnmonoafjijfhaaGreat
namespace Go.Proofs.YtnmonoafjijfhaaGreat
open Go.RowKit
set_option linter.unusedVariables false
set_option linter.unusedSimpArgs false
/-- Behind Pick: cells in a row of their own, beside the chunk. -/
def Picked (w w' : World) (g h : Nat) (b : List UInt8) (fp : Nat → Prop) (L : List Int) : Prop := ∃ fp' : Nat → Prop, Chk w' g b fp' ∧ (∀ q, fp' q → (fp q ∨ w.heap.size ≤ q) ∧ q ≠ h) ∧ CRow w' h (L.map (LA b)) ∧ w.heap.size ≤ h ∧ w.grownBy w' (some g)
theorem LA_take {b : List UInt8} {L : List Int} {i : Nat} (h : i < L.length) : (L.map (LA b)).take (i + 1) = (L.map (LA b)).take i ++ [LA b L[i]] := by
  rw [take_snoc (by simpa using h)]; simp
set_option maxRecDepth 100000 in
set_option maxHeartbeats 4000000 in
theorem pick_is (g : Nat) (b : List UInt8) (fp : Nat → Prop) (a : Option Addr) (n cap : Nat) (L : List Int) (w : World) (h : Chk w g b fp) (hok : Ok b) (hn : n = L.length) (hB : Rd z64 w a cap L) (hne : 0 < L.length → ∀ q off, a = some ⟨q, off, none⟩ → q ≠ g) (hl : L.length ≤ 70000) :
    Calls Tryz.prog 27 #[.pointer (some ⟨g, 0, none⟩), .slice a n cap] w fun e w' => ∃ hh, e = .returned (.slice (some ⟨hh, 0, none⟩) n n) ∧ Picked w w' g hh b fp L := by
  have HN : Hid (n = L.length) := hn
  have HB : Hid (Rd z64 w a cap L) := hB
  have HNe : Hid (0 < L.length → ∀ q off, a = some ⟨q, off, none⟩ → q ≠ g) := hne
  have HOk : Hid (Ok b) := hok
  have HC : Hid (Chk w g b fp) := h
  have hglt := h.lt
  have hn7 : n ≤ 70000 := by omega
  have hcl : n ≤ cap := by have := hB.1; omega
  have hcm := hB.2.1
  unfold maxLen at hcm
  clear h hok hn hB hne hl
  go_enter Tryz.func27, Tryz.ntmps27
  go_wp2_with (at_make; refine wpList_make_cells rfl _ _ rfl _ _ n rfl rfl rfl rfl (by omega) ?_; intro w3 hr3 hb3)
  obtain ⟨hh, hg⟩ : ∃ hh, hh = w.heap.size := ⟨_, rfl⟩
  rw [← hg]
  have h0R : Hid (CRow w3 hh ((L.map (LA b)).take 0 ++ List.replicate (n - 0) Rw.none_)) := (by rw [hg]; simpa using hr3 : CRow w3 hh ((L.map (LA b)).take 0 ++ List.replicate (n - 0) Rw.none_))
  have h0G : Hid (w.grownBy w3 (some g)) := Ex.grownBy hb3 _
  have h0C : Hid (∃ fp' : Nat → Prop, Chk w3 g b fp' ∧ ∀ q, fp' q → (fp q ∨ w.heap.size ≤ q) ∧ q ≠ hh) := (⟨fun q => fp q ∧ q < w.heap.size, HC.out.tight.below hb3, fun q hq => ⟨.inl hq.1, by omega⟩⟩ : ∃ fp' : Nat → Prop, Chk w3 g b fp' ∧ ∀ q, fp' q → (fp q ∨ w.heap.size ≤ q) ∧ q ≠ hh)
  have hgh : g < hh := by omega
  have hhw : w.heap.size ≤ hh := by omega
  clear hr3 hb3 HC hg
  go_loopw [6, 7, 13] (fun iv2 pv iv wr => ∃ (i : Nat), i ≤ n ∧ iv = .int .i64 (i : Int) ∧ Hid (CRow wr hh ((L.map (LA b)).take i ++ List.replicate (n - i) Rw.none_)) ∧ Hid (w.grownBy wr (some g)) ∧ Hid (∃ fp' : Nat → Prop, Chk wr g b fp' ∧ ∀ q, fp' q → (fp q ∨ w.heap.size ≤ q) ∧ q ≠ hh)) (fun iv2 pv iv wr => n - (intOf iv).toNat)
  case atStart => exact ⟨0, by omega, rfl, h0R, h0G, h0C⟩
  case round =>
    obtain ⟨i, hi, rfl, HRo, HG, HCk⟩ := hrel
    clear h0R h0G h0C
    by_cases hlt : i < n
    · have ti : (i : Int) < (n : Int) := by omega
      have hlt2 : i < L.length := by rw [← HN.out]; exact hlt
      have hrd : Rd z64 wr a cap L := rd_far HB.out HG.out (fun h0 q off e e2 => HNe.out h0 q off e (by simpa using e2.symm))
      obtain ⟨bq, off, rfl, hc⟩ := hrd.at hlt2
      obtain ⟨V, hV⟩ : ∃ V, L[i] = V := ⟨_, rfl⟩
      rw [hV] at hc
      have hc' : wr.cell? ⟨bq, off + i, none⟩ = some (.int .i64 V) := hc
      obtain ⟨d, hd⟩ : ∃ d, LA b V = d := ⟨_, rfl⟩
      have htk := LA_take (b := b) hlt2
      rw [hV, hd] at htk
      have HTk : Hid ((L.map (LA b)).take (i + 1) = (L.map (LA b)).take i ++ [d]) := htk
      have HD : Hid (LA b V = d) := hd
      obtain ⟨fp1, hC1, hf1⟩ := HCk.out
      have HC1 : Hid (Chk wr g b fp1) := hC1
      have HF1 : Hid (∀ q, fp1 q → (fp q ∨ w.heap.size ≤ q) ∧ q ≠ hh) := hf1
      have hsw : w.heap.size ≤ wr.heap.size := HG.out.size
      clear hd htk hV hc hrd hC1 hf1 HCk
      go_wp2_with fail
      go_at_call 22
      refine (cell_is g b fp1 V wr HC1.out HOk.out).mono ?_
      rw [HD.out]
      rintro e5 w5 ⟨rfl, fp5, hC5, hf5, hg5⟩
      have hhlt : hh < wr.heap.size := HRo.out.lt
      have hR5 : CRow w5 hh ((L.map (LA b)).take i ++ List.replicate (n - i) Rw.none_) := HRo.out.far hg5 (by simp; omega)
      have hal : ((L.map (LA b)).take i).length = i := by rw [List.length_take, List.length_map]; omega
      have hll : i < ((L.map (LA b)).take i ++ List.replicate (n - i) Rw.none_).length := by simp [hal]; omega
      obtain ⟨z0, z1, z2, z3⟩ := hR5.four hll
      have f0 := hR5.fro (i * 4)
      have f1 := hR5.fro (i * 4 + 1)
      have f2 := hR5.fro (i * 4 + 2)
      have f3 := hR5.fro (i * 4 + 3)
      obtain ⟨m1, hm1⟩ : ∃ m1, n - i = m1 + 1 := ⟨n - i - 1, by omega⟩
      have hR9 : CRow (cset4 w5 hh (i * 4) d) hh ((L.map (LA b)).take (i + 1) ++ List.replicate (n - (i + 1)) Rw.none_) := by
        have h := hR5.set4 hll d
        rw [hm1, fillz_set _ m1 i _ d hal.symm, ← HTk.out] at h
        rw [show n - (i + 1) = m1 by omega]
        exact h
      have HR9 : Hid (CRow (cset4 w5 hh (i * 4) d) hh ((L.map (LA b)).take (i + 1) ++ List.replicate (n - (i + 1)) Rw.none_)) := hR9
      have hf9 : ∀ q, fp5 q → (fp q ∨ w.heap.size ≤ q) ∧ q ≠ hh := by
        intro q hq
        rcases hf5 q hq with h | h
        · exact HF1.out q h
        · exact ⟨.inr (by omega), by omega⟩
      have HC9 : Hid (∃ fp' : Nat → Prop, Chk (cset4 w5 hh (i * 4) d) g b fp' ∧ ∀ q, fp' q → (fp q ∨ w.heap.size ≤ q) ∧ q ≠ hh) := (⟨fp5, hC5.far (grown_cset4 _ _ _ _) (by omega) (fun h => (hf9 hh h).2 rfl), hf9⟩ : ∃ fp' : Nat → Prop, Chk (cset4 w5 hh (i * 4) d) g b fp' ∧ ∀ q, fp' q → (fp q ∨ w.heap.size ≤ q) ∧ q ≠ hh)
      have HG9 : Hid (w.grownBy (cset4 w5 hh (i * 4) d) (some g)) := grown_trN (grown_tr HG.out hg5) (grown_cset4 _ _ _ _) (fun j hj => by simp at hj; omega)
      generalize (((L.map (LA b)).take i ++ List.replicate (n - i) Rw.none_)[i]'hll) = zc at z0 z1 z2 z3
      clear hC5 hf5 hg5 hR5 hal hll hm1 hR9 hf9 HRo HG
      unfold cv
      go_wp2_with fail
      go_roundw
      case rel => exact ⟨i + 1, by omega, by go_num, HR9, HG9, HC9⟩
      case measure => simp [intOf]; omega
    · have ti : ¬ (i : Int) < (n : Int) := by omega
      have him : i = n := by omega
      have hro := HRo.out
      rw [him, Nat.sub_self, List.replicate_zero, List.append_nil, List.take_of_length_le (by rw [List.length_map]; exact Nat.le_of_eq HN.out.symm)] at hro
      obtain ⟨fp1, hC1, hf1⟩ := HCk.out
      have HP : Hid (Picked w wr g hh b fp L) := (⟨fp1, hC1, hf1, hro, hhw, HG.out⟩ : Picked w wr g hh b fp L)
      clear hro him HRo hC1 hf1 HCk
      go_wp2_with fail
      go_ret
      exact ⟨hh, rfl, HP.out⟩
end Go.Proofs.YtnmonoafjijfhaaGreat
