/-
  The document's own Cell, and the package's; a cell in a block.
-/
import Derived.Test.YtghnbohplonhoaaRname
namespace Go.Proofs.Ytghnbohplonhoaa
open Go.RowKit
set_option linter.unusedVariables false
set_option linter.unusedSimpArgs false
/-- A cell in a block. -/
def EAt (w : World) (g : Nat) (c : Ce) : Prop := w.heap[g]? = some (.cells (cc c).toArray 25 (0, 0))
theorem EAt.lt {w : World} {g : Nat} {c : Ce} (h : EAt w g c) : g < w.heap.size := (Array.getElem?_eq_some_iff.1 h).1
theorem EAt.below {w w' : World} {g : Nat} {c : Ce} (h : EAt w g c) (hb : Below w.heap.size w w') : EAt w' g c := by
  unfold EAt; rw [hb.block g h.lt]; exact h
theorem EAt.alloc {w : World} {g : Nat} {c : Ce} (h : EAt w g c) (o : Obj) : EAt (w.alloc o) g c := h.below ((Below.refl _ _).alloc (Nat.le_refl _) _)
theorem EAt.new (w : World) (c : Ce) : EAt (w.alloc (cb c)) w.heap.size c := heap_alloc_new w _
theorem EAt.newat (w : World) (g : Nat) (c : Ce) (hg : g = w.heap.size) : EAt (w.alloc (cb c)) g c := by subst hg; exact EAt.new w c
theorem EAt.cell {w : World} {g : Nat} {c : Ce} (h : EAt w g c) (k : Nat) : w.cell? ⟨g, k, none⟩ = (cc c)[k]? := by
  rw [cell_of_row w g k _ 25 (0, 0) h, List.getElem?_toArray]
theorem EAt.all {w : World} {g : Nat} {c : Ce} (h : EAt w g c) : w.cell? ⟨g, 0, none⟩ = some (.string (str c.col)) ∧ w.cell? ⟨g, 1, none⟩ = some (.int .i64 c.k) ∧ w.cell? ⟨g, 2, none⟩ = some (.int .i64 c.n) ∧ w.cell? ⟨g, 3, none⟩ = some (.string (str c.s)) := ⟨h.cell 0, h.cell 1, h.cell 2, h.cell 3⟩
theorem EAt.frozen {w : World} {g : Nat} {c : Ce} (h : EAt w g c) (k : Nat) : w.frozen? ⟨g, k, none⟩ = false := frozen_of_row _ _ _ _ _ h
theorem EAt.fro {w : World} {g : Nat} {c : Ce} (h : EAt w g c) : w.frozen? ⟨g, 0, none⟩ = false ∧ w.frozen? ⟨g, 1, none⟩ = false ∧ w.frozen? ⟨g, 2, none⟩ = false ∧ w.frozen? ⟨g, 3, none⟩ = false := ⟨h.frozen 0, h.frozen 1, h.frozen 2, h.frozen 3⟩
theorem EAt.set {w : World} {g k : Nat} {c c' : Ce} {u : Value} (h : EAt w g c) (hz : (cc c).set k u = cc c') : EAt (w.setCell ⟨g, k, none⟩ u) g c' := by
  unfold EAt
  rw [heap_setCell_same w g k _ 25 _ h, List.setIfInBounds_toArray, hz]
theorem EAt.other {w : World} {g q k : Nat} {c : Ce} {u : Value} (h : EAt w g c) (hne : g ≠ q) : EAt (w.setCell ⟨q, k, none⟩ u) g c := by
  unfold EAt
  rw [heap_setCell_other w _ g u (by simpa using hne)]; exact h
/-- A cell of nothing in a block, as the walk spells it. -/
abbrev ecb0 : Obj := .cells #[.string { data := #[] }, .int .i64 0, .int .i64 0, .string { data := #[] }] 25
abbrev eset (w : World) (g : Nat) (c : Ce) : World := (((w.setCell ⟨g, 0, none⟩ (.string (str c.col))).setCell ⟨g, 1, none⟩ (.int .i64 c.k)).setCell ⟨g, 2, none⟩ (.int .i64 c.n)).setCell ⟨g, 3, none⟩ (.string (str c.s))
theorem EAt.store {w : World} {g : Nat} {c0 : Ce} (h : EAt w g c0) (c : Ce) : EAt (eset w g c) g c :=
  (((h.set (k := 0) (c' := { c0 with col := c.col }) rfl).set (k := 1) (c' := { c0 with col := c.col, k := c.k }) rfl).set (k := 2) (c' := { c0 with col := c.col, k := c.k, n := c.n }) rfl).set (k := 3) rfl
theorem Below.eset {B : Nat} {a w : World} (h : Below B a w) {g : Nat} (hg : B ≤ g) (c : Ce) : Below B a (eset w g c) :=
  Below.setCell (Below.setCell (Below.setCell (Below.setCell h (p := ⟨g, 0, none⟩) hg _) (p := ⟨g, 1, none⟩) hg _) (p := ⟨g, 2, none⟩) hg _) (p := ⟨g, 3, none⟩) hg _
set_option maxHeartbeats 1000000 in
theorem load_cell {w9 : World} {g : Nat} {c : Ce} (h : EAt w9 g c) : (loadVar 25 ⟨g, 0, none⟩).run Try.prog w9 = .ok (cv c) w9 := by
  obtain ⟨c0, c1, c2, c3⟩ := h.all
  clear h
  simp [go_sem, cv, c0, c1, c2, c3]
theorem res_cell {fn : Func} {tmps : Array Value} {w9 : World} {g i : Nat} {c : Ce} (hfn : fn.results = #[ResultVar.cell i 25]) (ht : tmps.getD i undef = .pointer (some ⟨g, 0, none⟩)) (h : EAt w9 g c) : (results fn tmps).run Try.prog w9 = .ok (cv c) w9 := by
  have hl := load_cell h
  have ht' : tmps[i]?.getD undef = .pointer (some ⟨g, 0, none⟩) := by simpa using ht
  simp [results, hfn, ht', asAddr, Sem.run_bind, Result.andThen, hl]
theorem Rw.cell_skip {l m : List Ce} {s : List UInt8} {d : Ce} (h : ∀ e ∈ l, e.col ≠ s) (hd : d.col = s) : Rw.cell (l ++ d :: m) s = d := by
  induction l with
  | nil => simp [Rw.cell, hd]
  | cons x l ih =>
    rw [List.cons_append, Rw.cell, if_neg (h x (by simp))]
    exact ih fun e he => h e (by simp [he])
set_option maxHeartbeats 4000000 in
set_option maxRecDepth 100000 in
theorem rcell_is (v : RV) (r : Rw) (s : List UInt8) (w : World) (h : RvOk w v r) (c : Ce) (hc : Rw.cell r.c s = c) : Calls Try.prog 32 #[rvv v, .string (str s)] w fun e w' => e = .returned (cv c) ∧ Ex w w' := by
  obtain ⟨vt, vq, p, n, cap⟩ := v
  obtain ⟨rfl, rfl, hn, hB⟩ := h
  simp only at hn hB
  subst hn
  have h1 := hB.1
  have h2 := hB.2.1
  unfold maxLen at h2
  obtain ⟨W, hW⟩ : ∃ W, W = (w.alloc (rb ⟨r.t, r.q, p, r.c.length, cap⟩)).alloc ecb0 := ⟨_, rfl⟩
  have HX : Hid (Ex w W) := (by rw [hW]; exact ((Below.refl _ _).alloc (Nat.le_refl _) _).alloc (by simp) _ : Ex w W)
  have HB : Hid (RdC W p cap r.c) := hB.below HX.out
  have HL : Hid (LAt W w.heap.size ⟨r.t, r.q, p, r.c.length, cap⟩) := (by rw [hW]; exact (LAt.new w _).alloc _ : LAt W w.heap.size ⟨r.t, r.q, p, r.c.length, cap⟩)
  have HZ : Hid (EAt W (w.heap.size + 1) Rw.none_) := (by rw [hW]; exact EAt.newat (w.alloc (rb ⟨r.t, r.q, p, r.c.length, cap⟩)) (w.heap.size + 1) Rw.none_ (by simp) : EAt W (w.heap.size + 1) Rw.none_)
  have HW : Hid (W = (w.alloc (rb ⟨r.t, r.q, p, r.c.length, cap⟩)).alloc ecb0) := hW
  have HC : Hid (Rw.cell r.c s = c) := hc
  have zs := str_toList s
  clear hB hW hc
  unfold rvv
  simp only [sv]
  go_enter Try.func32, Try.ntmps32
  go_wp2_with fail
  rw [← HW.out]
  obtain ⟨n0, n1, n2⟩ := HL.out.all
  obtain ⟨z0, z1, z2, z3⟩ := HZ.out.all
  obtain ⟨f0, f1, f2, f3⟩ := HZ.out.fro
  go_loopw [5] (fun iv wr => ∃ i : Nat, i ≤ r.c.length ∧ iv = .int .i64 i ∧ Hid (∀ d ∈ r.c.take i, d.col ≠ s) ∧ wr = W) (fun iv wr => r.c.length - (intOf iv).toNat)
  case atStart => exact ⟨0, by omega, rfl, (by simp : ∀ d ∈ r.c.take 0, d.col ≠ s), rfl⟩
  case round =>
    obtain ⟨i, hi, rfl, HN, hwr⟩ := hrel
    have hwr := hwr.symm
    subst hwr
    by_cases hlt : i < r.c.length
    · have hti : (i : Int) < (r.c.length : Int) := by omega
      obtain ⟨b, off, rfl, e0, e1, e2, e3⟩ := RdC.four HB.out hlt
      obtain ⟨d, hd⟩ : ∃ d, r.c[i] = d := ⟨_, rfl⟩
      rw [hd] at e0 e1 e2 e3
      have hsp : r.c = r.c.take i ++ d :: r.c.drop (i + 1) := by rw [← hd, ← List.drop_eq_getElem_cons hlt, List.take_append_drop]
      have HSP : Hid (r.c = r.c.take i ++ d :: r.c.drop (i + 1)) := hsp
      have hnx : r.c.take (i + 1) = r.c.take i ++ [d] := by rw [List.take_add_one, List.getElem?_eq_getElem hlt, hd]; rfl
      have HNX : Hid (r.c.take (i + 1) = r.c.take i ++ [d]) := hnx
      have zd := str_toList d.col
      clear hd hsp hnx
      by_cases hds : d.col = s
      · have td : (d.col == s) = true := by simp [hds]
        have HF : Hid (c = d) := (by rw [← HC.out, HSP.out]; exact Rw.cell_skip HN.out hds : c = d)
        clear hds
        go_wp2_with fail
        have hL9 := EAt.store HZ.out d
        have hX9 := Below.eset HX.out (Nat.le_succ _) d
        refine bodyPost_ret (v := cv d) (res_cell Try.results32 rfl hL9) rfl ⟨by rw [HF.out], hX9⟩
      · have td : (d.col == s) = false := by simp [hds]
        have HN2 : Hid (∀ e ∈ r.c.take (i + 1), e.col ≠ s) := (by
          intro e he
          rw [HNX.out] at he
          rcases List.mem_append.1 he with h | h
          · exact HN.out e h
          · rw [List.mem_singleton] at h; subst h; exact hds : ∀ e ∈ r.c.take (i + 1), e.col ≠ s)
        go_wp2_with fail
        go_roundw
        case rel => exact ⟨i + 1, by omega, by go_num, HN2, by simp⟩
        case measure => simp [intOf]; omega
    · have hti : ¬ (i : Int) < (r.c.length : Int) := by omega
      have HF : Hid (c = Rw.none_) := (by rw [← HC.out]; have h := HN.out; rw [List.take_of_length_le (by omega)] at h; exact Rw.cell_out h : c = Rw.none_)
      go_wp2_with fail
      have hL9 := EAt.store HZ.out Rw.none_
      have hX9 := Below.eset HX.out (Nat.le_succ _) Rw.none_
      refine bodyPost_ret (v := cv Rw.none_) (res_cell Try.results32 rfl hL9) rfl ⟨by rw [HF.out], hX9⟩
end Go.Proofs.Ytghnbohplonhoaa
