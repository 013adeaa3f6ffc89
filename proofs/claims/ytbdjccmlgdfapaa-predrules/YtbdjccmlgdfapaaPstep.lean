/-
  Predicates that a call makes: lists of its own, what lies in them elsewhere; one laid by itself, in a region whose order is open. No function of the program here.
-/
import Derived.Test.YtbdjccmlgdfapaaLparts
import Derived.Test.YtbdjccmlgdfapaaLone
namespace Go.Proofs.Ytbdjccmlgdfapaa
open Go.RowKit
set_option linter.unusedVariables false
set_option linter.unusedSimpArgs false
theorem Try.info25 : (Try.prog.info? 25).map (fun i => (i.zero, i.size, i.bytes)) = some (some (.agg #[.int .i64 0, .string ⟨#[]⟩, .int .i64 0, .int .i64 0, .string ⟨#[]⟩, .slice none 0 0, .slice none 0 0]), 7, 104) := by kernel_rfl
theorem Try.info9 : (Try.prog.info? 9).map (fun i => (i.zero, i.size, i.bytes)) = some (some (.string ⟨#[]⟩), 1, 16) := by kernel_rfl
namespace Pd
/-- A call's own predicates; what is in them lies in such blocks, and not in theirs. -/
def OwnQ (B : Nat → Prop) (w : World) (base : Nat) (v : Value) (l : List Pr) : Prop := ∃ vs, OwnW 25 7 pc w base v vs ∧ Lays (fun b => v.ownBlock ≠ some b ∧ B b) w vs l
theorem OwnQ.rd {B : Nat → Prop} {w : World} {base : Nat} {v : Value} {l : List Pr} (h : OwnQ B w base v l) : ∃ a cap vs, v = .slice a l.length cap ∧ RdW 7 pc w a cap vs ∧ Lays B w vs l := by
  obtain ⟨vs, h1, h2⟩ := h
  obtain ⟨a, cap, rfl, h3⟩ := h1.rd pc_len
  exact ⟨a, cap, vs, by rw [h2.1], h3, h2.mono fun _ hb => hb.2⟩
theorem OwnQ.nil (B : Nat → Prop) (w : World) (base : Nat) : OwnQ B w base (.slice none 0 0) [] := ⟨[], ownW_none w base, Lays.nil _ w⟩
theorem OwnQ.later {B : Nat → Prop} {w w' : World} {base : Nat} {v : Value} {l : List Pr} (h : OwnQ B w base v l) (hx : Ex w w') : OwnQ B w' base v l := by
  obtain ⟨vs, h1, h2⟩ := h
  exact ⟨vs, h1.later hx, h2.below hx⟩
theorem OwnQ.lt {B : Nat → Prop} {w : World} {base : Nat} {v : Value} {l : List Pr} (h : OwnQ B w base v l) : ∀ g, v.ownBlock = some g → base ≤ g ∧ g < w.heap.size := by
  obtain ⟨vs, h1, _⟩ := h
  exact h1.lt
/-- Another block is written. -/
theorem OwnQ.far {B : Nat → Prop} {w : World} {base g j : Nat} {v u : Value} {l : List Pr} (h : OwnQ B w base v l) (hg : v.ownBlock ≠ some g) (hB : ¬ B g) : OwnQ B (w.setCell ⟨g, j, none⟩ u) base v l := by
  obtain ⟨vs, h1, h2⟩ := h
  exact ⟨vs, h1.apart hg, h2.far (row := some g) (fun b hb e => hB (by simp at e; rw [e]; exact hb.2)) (grown_set1 w g j u)⟩
theorem OwnQ.mono {B C : Nat → Prop} (hB : ∀ b, B b → C b) {w : World} {base : Nat} {v : Value} {l : List Pr} (h : OwnQ B w base v l) : OwnQ C w base v l := by
  obtain ⟨vs, h1, h2⟩ := h
  exact ⟨vs, h1, h2.mono fun b hb => ⟨hb.1, hB b hb.2⟩⟩
theorem OwnQ.ltB {B : Nat → Prop} {w : World} {base : Nat} {v : Value} {l : List Pr} (h : OwnQ B w base v l) : OwnQ (fun b => B b ∧ b < w.heap.size) w base v l := by
  obtain ⟨vs, h1, h2⟩ := h
  exact ⟨vs, h1, h2.lt.mono fun b hb => ⟨hb.1.1, hb.1.2, hb.2⟩⟩
theorem OwnQ.grown {B : Nat → Prop} {w w' : World} {base g : Nat} {v : Value} {l : List Pr} (h : OwnQ B w base v l) (hg : w.grownBy w' (some g)) (hne : v.ownBlock ≠ some g) (hB : ¬ B g) : OwnQ B w' base v l := by
  obtain ⟨vs, h1, h2⟩ := h
  exact ⟨vs, World.ownsRow.kept h1 hg (.inr hne), h2.far (fun b hb e => hB (by simp at e; rw [e]; exact hb.2)) hg⟩
theorem lays_afterQ {B : Nat → Prop} {w w' : World} {v v' : Value} {vs : List PV} {l : List Pr} (h : Lays (fun b => v.ownBlock ≠ some b ∧ B b) w vs l) (hg : w.grownBy w' v.ownBlock) (hat : v'.ownBlock = v.ownBlock ∨ v'.ownBlock = some w.heap.size) :
    Lays (fun b => v'.ownBlock ≠ some b ∧ B b) w' vs l := by
  rcases hat with hat | hat
  · rw [hat]; exact h.far (fun b hb => hb.1) hg
  · refine (h.lt.far (fun b hb => hb.1.1) hg).mono fun b hb => ⟨?_, hb.1.2⟩
    rw [hat]
    intro e
    have := hb.2
    simp at e
    omega
/-- 'append(out, l...)', l whatever predicates that can be read, and lie elsewhere. -/
theorem wpList_append_Q {B : Nat → Prop} {w : World} {ops : Array Oper} {rest : List Oper} {o : Oper} {a : Act} {Q : Exit → Act → World → Prop} (hgd : o.guard = none) (s x : Operand)
    (ho : o.op = .call { callee := .builtin .append, args := #[s, x], argTypes := #[23, 23] }) (base : Nat)
    (v : Value) (xs : List Pr) (hs : a.eval s = v) (hown : OwnQ B w base v xs) (p : Option Addr) (n c : Nat) (us : List PV) (l : List Pr) (hx : a.eval x = .slice p n c) (hn : n = l.length) (hB : RdW 7 pc w p c us) (hL : Lays (fun b => v.ownBlock ≠ some b ∧ B b) w us l)
    (h63 : xs.length + l.length ≤ 1000000) (hbase : base ≤ w.heap.size)
    (h : ∀ v' w', OwnQ B w' base v' (xs ++ l) → w.grownBy w' v.ownBlock → (v'.ownBlock = v.ownBlock ∨ v'.ownBlock = some w.heap.size) → wpList Try.prog ops Q rest (a.put o.dst v') w') : wpList Try.prog ops Q (o :: rest) a w := by
  obtain ⟨vs, h1, h2⟩ := hown
  have e1 := h2.1
  have e2 := hL.1
  refine wpList_append_wide pc_len pc_one hgd s x 23 _ 104 ho Try.underlying23 Try.info25 (by decide) rfl base v vs hs h1 p n c us hx (by omega) hB (by unfold maxLen; omega) (by rw [e1, e2]; omega) hbase ?_
  intro v' w' hO hg hat
  exact h v' w' ⟨vs ++ us, hO, lays_afterQ (h2.append hL) hg hat⟩ hg hat
/-- A value is such a predicate. -/
def IsP (B : Nat → Prop) (p : Pr) (v : Value) (w : World) : Prop := ∃ u, v = pvv u ∧ Lay B p w u
theorem IsP.stands (B : Nat → Prop) (p : Pr) : ∀ v w w', IsP B p v w → Ex w w' → IsP B p v w' := by
  rintro v w w' ⟨u, rfl, h⟩ hx
  exact ⟨u, rfl, Lay.below _ h hx⟩
/-- A value is a list of such predicates, in a block that is new. -/
def IsPs (base : Nat) (B : Nat → Prop) (l : List Pr) (v : Value) (w : World) : Prop := ∃ g us, v = .slice (some ⟨g, 0, none⟩) l.length l.length ∧ base ≤ g ∧ RdW 7 pc w (some ⟨g, 0, none⟩) l.length us ∧ Lays B w us l
theorem IsPs.stands (base : Nat) (B : Nat → Prop) (l : List Pr) : ∀ v w w', IsPs base B l v w → Ex w w' → IsPs base B l v w' := by
  rintro v w w' ⟨g, us, rfl, h0, h1, h2⟩ hx
  exact ⟨g, us, rfl, h0, h1.below hx, h2.below hx⟩
end Pd
set_option maxHeartbeats 1000000 in
theorem run_pred1 {o : Oper} (ρ : Operand → Value) (w : World) (x : Operand) (u : PV) (ho : o.op = .buildSlice 23 1 #[(0, x)]) (h2 : ρ x = pvv u) : (execOp ρ o).run Try.prog w = .ok (.value (.slice (some ⟨w.heap.size, 0, none⟩) 1 1)) (w.alloc (.cells (flat pc [u]).toArray 25)) := by
  simp [execOp, ho, h2, go_sem, pvv, sv, flat, pc]
set_option maxHeartbeats 1000000 in
theorem run_pred2 {o : Oper} (ρ : Operand → Value) (w : World) (x y : Operand) (u z : PV) (ho : o.op = .buildSlice 23 2 #[(0, x), (1, y)]) (h2 : ρ x = pvv u) (h3 : ρ y = pvv z) : (execOp ρ o).run Try.prog w = .ok (.value (.slice (some ⟨w.heap.size, 0, none⟩) 2 2)) (w.alloc (.cells (flat pc [u, z]).toArray 25)) := by
  simp [execOp, ho, h2, h3, go_sem, pvv, sv, flat, pc]
theorem Rg.good_pred1 {ops : Array Oper} {specs : List Rg.Spec} {a0 : Act} {w1 : World} {o : Oper} {x : Operand} {B : Nat → Prop} {p : Pr} (ho : o.op = .buildSlice 23 1 #[(0, x)]) (hg : Rg.guardV ops specs a0 o = some true)
    (hx : Rg.argS ops specs a0 x = .inr (Pd.IsP B p)) : Rg.GoodOp Try.prog ops specs a0 (Ex w1) Ex o (.inr (Pd.IsPs w1.heap.size B [p])) :=
  Rg.good_of hg fun Q a w hC hh => by
    have h1 := hh x (by rw [ho]; simp [Op.operands])
    rw [hx] at h1
    obtain ⟨u, hu, hL⟩ := h1
    have hal : Ex w (w.alloc (.cells (flat pc [u]).toArray 25)) := (Below.refl _ _).alloc (Nat.le_refl _) _
    refine Rg.Fr.wp_val (run_pred1 _ w x u ho hu) ⟨.slice (some ⟨w.heap.size, 0, none⟩) 1 1, rfl, ?_, hal, hC.trans hal⟩
    exact ⟨w.heap.size, [u], rfl, hC.size, RdW.laid pc_len w [u] (by simp), Pd.Lays.one (Pd.Lay.below _ hL hal)⟩
theorem Rg.good_pred2 {ops : Array Oper} {specs : List Rg.Spec} {a0 : Act} {w1 : World} {o : Oper} {x y : Operand} {B : Nat → Prop} {p q : Pr} (ho : o.op = .buildSlice 23 2 #[(0, x), (1, y)]) (hg : Rg.guardV ops specs a0 o = some true)
    (hx : Rg.argS ops specs a0 x = .inr (Pd.IsP B p)) (hy : Rg.argS ops specs a0 y = .inr (Pd.IsP B q)) : Rg.GoodOp Try.prog ops specs a0 (Ex w1) Ex o (.inr (Pd.IsPs w1.heap.size B [p, q])) :=
  Rg.good_of hg fun Q a w hC hh => by
    have h1 := hh x (by rw [ho]; simp [Op.operands])
    rw [hx] at h1
    have h2 := hh y (by rw [ho]; simp [Op.operands])
    rw [hy] at h2
    obtain ⟨u, hu, hL⟩ := h1
    obtain ⟨z, hz, hL2⟩ := h2
    have hal : Ex w (w.alloc (.cells (flat pc [u, z]).toArray 25)) := (Below.refl _ _).alloc (Nat.le_refl _) _
    refine Rg.Fr.wp_val (run_pred2 _ w x y u z ho hu hz) ⟨.slice (some ⟨w.heap.size, 0, none⟩) 2 2, rfl, ?_, hal, hC.trans hal⟩
    exact ⟨w.heap.size, [u, z], rfl, hC.size, RdW.laid pc_len w [u, z] (by simp), (Pd.Lays.one (Pd.Lay.below _ hL hal)).append (Pd.Lays.one (Pd.Lay.below _ hL2 hal))⟩
end Go.Proofs.Ytbdjccmlgdfapaa
