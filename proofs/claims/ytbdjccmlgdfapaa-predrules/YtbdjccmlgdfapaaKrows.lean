/-
  The books' own At and Rows.
-/
import Derived.Test.YtbdjccmlgdfapaaKeeps
namespace Go.Proofs.Ytbdjccmlgdfapaa
open Go.RowKit
set_option linter.unusedVariables false
set_option linter.unusedSimpArgs false
theorem ex_row {f : FuncId} {args : Array Value} {wx w1 : World} {v : Value} (h : Calls Try.prog f args wx fun e w' => e = .returned v ∧ Ex wx w') (hC : Ex w1 wx) :
    Calls Try.prog f args wx (fun e w' => ∃ u, e = .returned u ∧ Rg.Spec.ok (.inl v) u w' ∧ Ex wx w' ∧ Ex w1 w') :=
  h.mono fun e w' ⟨h1, h2⟩ => ⟨v, h1, rfl, h2, hC.trans h2⟩
/-- A row in a block. -/
def LAt (w : World) (g : Nat) (v : RV) : Prop := w.heap[g]? = some (.cells (rc v).toArray 36 (0, 0))
theorem LAt.lt {w : World} {g : Nat} {v : RV} (h : LAt w g v) : g < w.heap.size := (Array.getElem?_eq_some_iff.1 h).1
theorem LAt.below {w w' : World} {g : Nat} {v : RV} (h : LAt w g v) (hb : Below w.heap.size w w') : LAt w' g v := by
  unfold LAt; rw [hb.block g h.lt]; exact h
theorem LAt.alloc {w : World} {g : Nat} {v : RV} (h : LAt w g v) (o : Obj) : LAt (w.alloc o) g v := h.below ((Below.refl _ _).alloc (Nat.le_refl _) _)
theorem LAt.new (w : World) (v : RV) : LAt (w.alloc (rb v)) w.heap.size v := heap_alloc_new w _
theorem LAt.newat (w : World) (g : Nat) (v : RV) (hg : g = w.heap.size) : LAt (w.alloc (rb v)) g v := by subst hg; exact LAt.new w v
theorem LAt.cell {w : World} {g : Nat} {v : RV} (h : LAt w g v) (k : Nat) : w.cell? ⟨g, k, none⟩ = (rc v)[k]? := by
  rw [cell_of_row w g k _ 36 (0, 0) h, List.getElem?_toArray]
theorem LAt.all {w : World} {g : Nat} {v : RV} (h : LAt w g v) : w.cell? ⟨g, 0, none⟩ = some (.int .i64 v.t) ∧ w.cell? ⟨g, 1, none⟩ = some (.int .i64 v.q) ∧ w.cell? ⟨g, 2, none⟩ = some (.slice v.s.1 v.s.2.1 v.s.2.2) := ⟨h.cell 0, h.cell 1, h.cell 2⟩
theorem LAt.frozen {w : World} {g : Nat} {v : RV} (h : LAt w g v) (k : Nat) : w.frozen? ⟨g, k, none⟩ = false := frozen_of_row _ _ _ _ _ h
theorem LAt.fro {w : World} {g : Nat} {v : RV} (h : LAt w g v) : w.frozen? ⟨g, 0, none⟩ = false ∧ w.frozen? ⟨g, 1, none⟩ = false ∧ w.frozen? ⟨g, 2, none⟩ = false := ⟨h.frozen 0, h.frozen 1, h.frozen 2⟩
theorem LAt.set {w : World} {g k : Nat} {v v' : RV} {u : Value} (h : LAt w g v) (hz : (rc v).set k u = rc v') : LAt (w.setCell ⟨g, k, none⟩ u) g v' := by
  unfold LAt
  rw [heap_setCell_same w g k _ 36 _ h, List.setIfInBounds_toArray, hz]
theorem LAt.other {w : World} {g q k : Nat} {v : RV} {u : Value} (h : LAt w g v) (hne : g ≠ q) : LAt (w.setCell ⟨q, k, none⟩ u) g v := by
  unfold LAt
  rw [heap_setCell_other w _ g u (by simpa using hne)]; exact h
/-- A row is stored into a block. -/
abbrev lset (w : World) (g : Nat) (v : RV) : World := ((w.setCell ⟨g, 0, none⟩ (.int .i64 v.t)).setCell ⟨g, 1, none⟩ (.int .i64 v.q)).setCell ⟨g, 2, none⟩ (.slice v.s.1 v.s.2.1 v.s.2.2)
theorem LAt.store {w : World} {g : Nat} {v0 : RV} (h : LAt w g v0) (v : RV) : LAt (lset w g v) g v :=
  ((h.set (k := 0) (v' := { v0 with t := v.t }) rfl).set (k := 1) (v' := { v0 with t := v.t, q := v.q }) rfl).set (k := 2) rfl
theorem Below.lset {B : Nat} {a w : World} (h : Below B a w) {g : Nat} (hg : B ≤ g) (v : RV) : Below B a (lset w g v) :=
  Below.setCell (Below.setCell (Below.setCell h (p := ⟨g, 0, none⟩) hg _) (p := ⟨g, 1, none⟩) hg _) (p := ⟨g, 2, none⟩) hg _
theorem LAt.far {w w' : World} {g : Nat} {v : RV} {row : Option Nat} (h : LAt w g v) (hg : w.grownBy w' row) (hne : row ≠ some g) : LAt w' g v := by
  unfold LAt; rw [hg.block g h.lt (Ne.symm hne)]; exact h
set_option maxHeartbeats 1000000 in
theorem load_row {w9 : World} {g : Nat} {v : RV} (h : LAt w9 g v) : (loadVar 36 ⟨g, 0, none⟩).run Try.prog w9 = .ok (rvv v) w9 := by
  obtain ⟨c0, c1, c2⟩ := h.all
  clear h
  simp [go_sem, rvv, sv, c0, c1, c2]
theorem res_row {fn : Func} {tmps : Array Value} {w9 : World} {g i : Nat} {v : RV} (hfn : fn.results = #[ResultVar.cell i 36]) (ht : tmps.getD i undef = .pointer (some ⟨g, 0, none⟩)) (h : LAt w9 g v) : (results fn tmps).run Try.prog w9 = .ok (rvv v) w9 := by
  have hl := load_row h
  have ht' : tmps[i]?.getD undef = .pointer (some ⟨g, 0, none⟩) := by simpa using ht
  simp [results, hfn, ht', asAddr, Sem.run_bind, Result.andThen, hl]
theorem res_row3 {fn : Func} {tmps : Array Value} {w9 : World} {g i j k : Nat} {v : RV} {d e : Value} (hfn : fn.results = #[ResultVar.cell i 36, ResultVar.tmp j, ResultVar.tmp k]) (ht : tmps.getD i undef = .pointer (some ⟨g, 0, none⟩)) (hj : tmps.getD j undef = d) (hk : tmps.getD k undef = e) (h : LAt w9 g v) : (results fn tmps).run Try.prog w9 = .ok (.tuple #[rvv v, d, e]) w9 := by
  have hl := load_row h
  have ht' : tmps[i]?.getD undef = .pointer (some ⟨g, 0, none⟩) := by simpa using ht
  have hj' : tmps[j]?.getD undef = d := by simpa using hj
  have hk' : tmps[k]?.getD undef = e := by simpa using hk
  simp [results, hfn, ht', hj', hk', asAddr, Sem.run_bind, Result.andThen, hl]
set_option maxHeartbeats 400000 in
set_option maxRecDepth 100000 in
theorem at_is (t q : Int) (p : Option Addr) (n c : Nat) (l : List Ce) (w : World) (hn : n = l.length) (hB : RdC w p c l) (hl : l.length ≤ 2932031007402) :
    Calls Try.prog 19 #[.int .i64 t, .int .i64 q, .slice p n c] w fun e w' => ∃ s : SV, e = .returned (rvv ⟨t, q, s⟩) ∧ s.2.1 = l.length ∧ OwnC w' w.heap.size (sv s) l ∧ Ex w w' := by
  subst hn
  have h2 := hB.2.1
  have h1 := hB.1
  unfold maxLen at h2
  have HX : Hid (Ex w ((w.alloc (rb ⟨0, 0, none, 0, 0⟩)).alloc (.cells #[] 50))) := (((Below.refl _ _).alloc (Nat.le_refl _) _).alloc (by simp) _ : Ex w _)
  have HB : Hid (RdC ((w.alloc (rb ⟨0, 0, none, 0, 0⟩)).alloc (.cells #[] 50)) p c l) := hB.below HX.out
  have HO : Hid (OwnC ((w.alloc (rb ⟨0, 0, none, 0, 0⟩)).alloc (.cells #[] 50)) (w.heap.size + 1) (.slice (some ⟨w.heap.size + 1, 0, none⟩) 0 0) []) := (by have h := ownW_empty (t := 50) (k := 4) (fl := cc) (w.alloc (rb ⟨0, 0, none, 0, 0⟩)) (w.heap.size + 1) (by simp); rw [show (w.alloc (rb ⟨0, 0, none, 0, 0⟩)).heap.size = w.heap.size + 1 by simp] at h; exact h : OwnC _ (w.heap.size + 1) (.slice (some ⟨w.heap.size + 1, 0, none⟩) 0 0) [])
  have HL : Hid (LAt ((w.alloc (rb ⟨0, 0, none, 0, 0⟩)).alloc (.cells #[] 50)) w.heap.size ⟨0, 0, none, 0, 0⟩) := (LAt.new w ⟨0, 0, none, 0, 0⟩).alloc _
  clear hB
  obtain ⟨W, hW⟩ : ∃ W, W = (w.alloc (rb ⟨0, 0, none, 0, 0⟩)).alloc (.cells #[] 50) := ⟨_, rfl⟩
  have hsz : (w.alloc (rb ⟨0, 0, none, 0, 0⟩)).heap.size = w.heap.size + 1 := by simp
  have hszW : w.heap.size + 1 ≤ W.heap.size := by rw [hW]; simp
  rw [← hW] at HX HB HO HL
  have hstep : ∀ v9 w9, OwnC w9 (w.heap.size + 1) v9 ([] ++ l) → W.grownBy w9 (Value.slice (some ⟨w.heap.size + 1, 0, none⟩) 0 0).ownBlock → ∃ a9 c9, v9 = .slice a9 l.length c9 ∧ Hid (OwnC w9 (w.heap.size + 1) (.slice a9 l.length c9) l) ∧ Hid (Ex w w9) ∧ Hid (LAt w9 w.heap.size ⟨0, 0, none, 0, 0⟩) ∧
      (w9.cell? ⟨w.heap.size, 0, none⟩ = some (.int .i64 0) ∧ w9.cell? ⟨w.heap.size, 1, none⟩ = some (.int .i64 0) ∧ w9.cell? ⟨w.heap.size, 2, none⟩ = some (.slice none 0 0)) ∧ w9.frozen? ⟨w.heap.size, 0, none⟩ = false ∧ w9.frozen? ⟨w.heap.size, 1, none⟩ = false ∧ w9.frozen? ⟨w.heap.size, 2, none⟩ = false := by
    intro v9 w9 ho9 hg9
    rw [List.nil_append] at ho9
    obtain ⟨a9, c9, rfl, hb9⟩ := ho9.rd cc_len
    have hL9 : LAt w9 w.heap.size ⟨0, 0, none, 0, 0⟩ := HL.out.far hg9 (by simp [Value.ownBlock])
    exact ⟨a9, c9, rfl, ho9, HX.out.grown hg9 (by omega) (fun k hk => by simp [Value.ownBlock] at hk; omega), hL9, hL9.all, hL9.fro⟩
  have HW : Hid (W = (w.alloc (rb ⟨0, 0, none, 0, 0⟩)).alloc (.cells #[] 50)) := hW
  clear hW
  go_enter Try.func19, Try.ntmps19
  go_wp2_with (at_builtin; rw [← HW.out]; refine wpList_append_wide cc_len cc_one rfl (.tmp 9) (.tmp 10) 34 _ 48 rfl Try.underlying34 Try.info50 (by omega) rfl (w.heap.size + 1) _ [] rfl HO.out p l.length c l rfl rfl HB.out (by simp [maxLen]; omega) (by simp; omega) hszW ?_; intro v9 w9 ho9 hg9 _; obtain ⟨a9, c9, rfl, HO9, HX9, HL9, ⟨j0, j1, j2⟩, k0, k1, k2⟩ := hstep v9 w9 ho9 hg9; clear ho9 hg9)
  have hL9 := LAt.store HL9.out ⟨t, q, a9, l.length, c9⟩
  have hX9 := Below.lset HX9.out (Nat.le_refl _) ⟨t, q, a9, l.length, c9⟩
  have hO9 : OwnC (lset w9 w.heap.size ⟨t, q, a9, l.length, c9⟩) w.heap.size (.slice a9 l.length c9) l := OwnW.mono (OwnW.other (OwnW.other (OwnW.other HO9.out (Nat.lt_succ_self _)) (Nat.lt_succ_self _)) (Nat.lt_succ_self _)) (Nat.le_succ _)
  refine bodyPost_ret (v := rvv ⟨t, q, a9, l.length, c9⟩) (res_row Try.results19 rfl hL9) rfl ?_
  exact ⟨⟨a9, l.length, c9⟩, rfl, rfl, hO9, hX9⟩
end Go.Proofs.Ytbdjccmlgdfapaa
