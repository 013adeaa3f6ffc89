/-
  One cell more: what Build answers. A cell in a block of its own.
-/
import Derived.Test.YtnfbmffafclaaaaZjoin
import Derived.Test.YtnfbmffafclaaaaZapp
namespace Go.Proofs.Ytnfbmffafclaaaa
open Go.RowKit
set_option linter.unusedVariables false
set_option linter.unusedSimpArgs false
namespace Z
theorem grow_null {K : Int} (hK : Kind K) (l : List Cel) {c : Cel} (h : c.k ≠ K) : build K (l ++ [c]) = { build K l with r := (l.length : Int) + 1, u := (build K l).u + 1 } := by
  rcases hK with rfl | rfl
  · have hi : ints (l ++ [c]) = ints l := by rw [ints_append]; simp [ints, h]
    have hl := ints_len l
    rw [build1, build1]
    have he : eI (l ++ [c]) = eI l := by simp only [eI, hi]
    rw [he, hi]
    refine Zn.ext' rfl (by simp) ?_ rfl rfl rfl rfl
    simp only [List.length_append, List.length_singleton]; omega
  · have hi : txts (l ++ [c]) = txts l := by rw [txts_append]; simp [txts, h]
    have hl := txts_len l
    rw [build2, build2]
    have he : eT (l ++ [c]) = eT l := by simp only [eT, hi]
    rw [he, hi]
    refine Zn.ext' rfl (by simp) ?_ rfl rfl rfl rfl
    simp only [List.length_append, List.length_singleton]; omega
/-- A cell that counts: the first one, or another. -/
theorem grow1 (l : List Cel) {c : Cel} (h : c.k = 1) : ((build 1 l).r = (build 1 l).u ∧ build 1 (l ++ [c]) = { build 1 l with r := (l.length : Int) + 1, mn := c.n, mx := c.n }) ∨
    ((build 1 l).r ≠ (build 1 l).u ∧ build 1 (l ++ [c]) = { build 1 l with r := (l.length : Int) + 1, mn := if c.n < (build 1 l).mn then c.n else (build 1 l).mn, mx := if (build 1 l).mx < c.n then c.n else (build 1 l).mx }) := by
  have hi : ints (l ++ [c]) = ints l ++ [c.n] := by rw [ints_append]; simp [ints, h]
  have hl := ints_len l
  have he : ends oI (ints (l ++ [c])) = comb oI (ends oI (ints l)) (some (c.n, c.n)) := by rw [hi, ends_snoc]
  have hu : ((l ++ [c]).length - (ints (l ++ [c])).length : Nat) = l.length - (ints l).length := by rw [hi]; simp
  rw [build1, build1, hu]
  cases hx : ends oI (ints l) with
  | none =>
    obtain ⟨e1, z1⟩ := eI_none hx
    have e2 : eI (l ++ [c]) = (c.n, c.n) := by simp only [eI, he, hx, comb]; rfl
    left
    rw [e2]
    exact ⟨by simp only; omega, Zn.ext' rfl (by simp) rfl rfl rfl rfl rfl⟩
  | some p =>
    obtain ⟨e1, z1⟩ := eI_some hx
    have e2 : eI (l ++ [c]) = (mn2 oI p.1 c.n, mx2 oI p.2 c.n) := by simp only [eI, he, hx, comb]; rfl
    right
    rw [e1, e2]
    refine ⟨by simp only; omega, Zn.ext' rfl (by simp) rfl ?_ ?_ rfl rfl⟩
    · simp [mn2, oI]
    · simp [mx2, oI]
theorem grow2 (l : List Cel) {c : Cel} (h : c.k = 2) : ((build 2 l).r = (build 2 l).u ∧ build 2 (l ++ [c]) = { build 2 l with r := (l.length : Int) + 1, ms := c.s, xs := c.s }) ∨
    ((build 2 l).r ≠ (build 2 l).u ∧ build 2 (l ++ [c]) = { build 2 l with r := (l.length : Int) + 1, ms := mn2 oT (build 2 l).ms c.s, xs := mx2 oT (build 2 l).xs c.s }) := by
  have hi : txts (l ++ [c]) = txts l ++ [c.s] := by rw [txts_append]; simp [txts, h]
  have hl := txts_len l
  have he : ends oT (txts (l ++ [c])) = comb oT (ends oT (txts l)) (some (c.s, c.s)) := by rw [hi, ends_snoc]
  have hu : ((l ++ [c]).length - (txts (l ++ [c])).length : Nat) = l.length - (txts l).length := by rw [hi]; simp
  rw [build2, build2, hu]
  cases hx : ends oT (txts l) with
  | none =>
    obtain ⟨e1, z1⟩ := eT_none hx
    have e2 : eT (l ++ [c]) = (c.s, c.s) := by simp only [eT, he, hx, comb]; rfl
    left
    rw [e2]
    exact ⟨by simp only; omega, Zn.ext' rfl (by simp) rfl rfl rfl rfl rfl⟩
  | some p =>
    obtain ⟨e1, z1⟩ := eT_some hx
    have e2 : eT (l ++ [c]) = (mn2 oT p.1 c.s, mx2 oT p.2 c.s) := by simp only [eT, he, hx, comb]; rfl
    right
    rw [e1, e2]
    exact ⟨by simp only; omega, Zn.ext' rfl (by simp) rfl rfl rfl rfl rfl⟩
end Z
/-- A cell lies in a block. -/
def CAt (w : World) (g : Nat) (c : Cel) : Prop := w.heap[g]? = some (.cells (cc c).toArray 52 (0, 0))
theorem CAt.lt {w : World} {g : Nat} {c : Cel} (h : CAt w g c) : g < w.heap.size := (Array.getElem?_eq_some_iff.1 h).1
theorem CAt.below {w w' : World} {g : Nat} {c : Cel} (h : CAt w g c) (hb : Below w.heap.size w w') : CAt w' g c := by
  unfold CAt; rw [hb.block g h.lt]; exact h
theorem CAt.new (w : World) (c : Cel) : CAt (w.alloc (cb c)) w.heap.size c := heap_alloc_new w _
theorem CAt.cell {w : World} {g : Nat} {c : Cel} (h : CAt w g c) (k : Nat) : w.cell? ⟨g, k, none⟩ = (cc c)[k]? := by
  rw [cell_of_row w g k _ 52 (0, 0) h, List.getElem?_toArray]
theorem CAt.all {w : World} {g : Nat} {c : Cel} (h : CAt w g c) : w.cell? ⟨g, 0, none⟩ = some (.string (str c.col)) ∧ w.cell? ⟨g, 1, none⟩ = some (.int .i64 c.k) ∧ w.cell? ⟨g, 2, none⟩ = some (.int .i64 c.n) ∧ w.cell? ⟨g, 3, none⟩ = some (.string (str c.s)) :=
  ⟨h.cell 0, h.cell 1, h.cell 2, h.cell 3⟩
theorem CAt.fro {w : World} {g : Nat} {c : Cel} (h : CAt w g c) : w.frozen? ⟨g, 0, none⟩ = false ∧ w.frozen? ⟨g, 1, none⟩ = false ∧ w.frozen? ⟨g, 2, none⟩ = false ∧ w.frozen? ⟨g, 3, none⟩ = false :=
  ⟨frozen_of_row _ _ _ _ _ h, frozen_of_row _ _ _ _ _ h, frozen_of_row _ _ _ _ _ h, frozen_of_row _ _ _ _ _ h⟩
theorem CAt.set {w : World} {g k : Nat} {c c' : Cel} {v : Value} (h : CAt w g c) (hz : (cc c).set k v = cc c') : CAt (w.setCell ⟨g, k, none⟩ v) g c' := by
  unfold CAt
  rw [heap_setCell_same w g k _ 52 _ h, List.setIfInBounds_toArray, hz]
abbrev cset (w : World) (g : Nat) (c : Cel) : World :=
  (((w.setCell ⟨g, 0, none⟩ (.string (str c.col))).setCell ⟨g, 1, none⟩ (.int .i64 c.k)).setCell ⟨g, 2, none⟩ (.int .i64 c.n)).setCell ⟨g, 3, none⟩ (.string (str c.s))
theorem CAt.store {w : World} {g : Nat} {c0 : Cel} (h : CAt w g c0) (c : Cel) : CAt (cset w g c) g c :=
  (((h.set (k := 0) (c' := { c0 with col := c.col }) rfl).set (k := 1) (c' := { c0 with col := c.col, k := c.k }) rfl).set (k := 2) (c' := { c0 with col := c.col, k := c.k, n := c.n }) rfl).set (k := 3) (c' := c) rfl
theorem Below.cset {B : Nat} {a w : World} (h : Below B a w) {g : Nat} (hg : B ≤ g) (c : Cel) : Below B a (cset w g c) :=
  Below.setCell (Below.setCell (Below.setCell (Below.setCell h (p := ⟨g, 0, none⟩) hg _) (p := ⟨g, 1, none⟩) hg _) (p := ⟨g, 2, none⟩) hg _) (p := ⟨g, 3, none⟩) hg _
theorem OwnC.other {w : World} {base g k : Nat} {v u : Value} {l : List Cel} (h : OwnC w base v l) (hg : g < base) : OwnC (w.setCell ⟨g, k, none⟩ u) base v l := by
  obtain ⟨h1, h2⟩ := h
  refine ⟨h1, ?_⟩
  rcases h2 with h2 | ⟨b, cap, cur, hv, hb, hr, r⟩
  · exact .inl h2
  · exact .inr ⟨b, cap, cur, hv, hb, by rw [heap_setCell_other w _ b u (by simp; omega)]; exact hr, r⟩
theorem OwnC.cset {w : World} {base g : Nat} {v : Value} {l : List Cel} (h : OwnC w base v l) (hg : g < base) (c : Cel) : OwnC (cset w g c) base v l :=
  (((h.other hg).other hg).other hg).other hg
end Go.Proofs.Ytnfbmffafclaaaa
