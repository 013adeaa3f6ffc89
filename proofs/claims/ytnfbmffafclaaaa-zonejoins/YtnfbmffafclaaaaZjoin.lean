/-
  The zone of two columns one behind the other; of cells in another order. No program here.
-/
import Derived.Test.YtnfbmffafclaaaaZsum
namespace Go.Proofs.Ytnfbmffafclaaaa.Z
open Go.Proofs.Ytnfbmffafclaaaa
set_option linter.unusedVariables false
set_option linter.unusedSimpArgs false
theorem eI_none {l : List Cel} (h : ends oI (ints l) = none) : eI l = (0, 0) ∧ (ints l).length = 0 := ⟨by simp only [eI, h]; rfl, by rw [(ends_none oI _).1 h]; rfl⟩
theorem eI_some {l : List Cel} {p : Int × Int} (h : ends oI (ints l) = some p) : eI l = p ∧ 0 < (ints l).length := ⟨by simp only [eI, h]; rfl, by
  cases hb : ints l with
  | nil => rw [hb] at h; simp [ends] at h
  | cons a r => simp⟩
theorem eT_none {l : List Cel} (h : ends oT (txts l) = none) : eT l = ([], []) ∧ (txts l).length = 0 := ⟨by simp only [eT, h]; rfl, by rw [(ends_none oT _).1 h]; rfl⟩
theorem eT_some {l : List Cel} {p : List UInt8 × List UInt8} (h : ends oT (txts l) = some p) : eT l = p ∧ 0 < (txts l).length := ⟨by simp only [eT, h]; rfl, by
  cases hb : txts l with
  | nil => rw [hb] at h; simp [ends] at h
  | cons a r => simp⟩
theorem Zn.ext' {a b : Zn} (h1 : a.k = b.k) (h2 : a.r = b.r) (h3 : a.u = b.u) (h4 : a.mn = b.mn) (h5 : a.mx = b.mx) (h6 : a.ms = b.ms) (h7 : a.xs = b.xs) : a = b := by
  cases a; cases b; simp_all
theorem both_full {a b : Zn} (ha : a.u < a.r) (hb : b.u < b.r) : both a b = ⟨a.k, a.r + b.r, a.u + b.u, if b.mn < a.mn then b.mn else a.mn, if a.mx < b.mx then b.mx else a.mx, if T.lt b.ms a.ms = true then b.ms else a.ms, if T.lt a.xs b.xs = true then b.xs else a.xs⟩ := by
  unfold both
  have h : ¬ a.r = a.u := by omega
  simp [ha, hb, h]
theorem both1 (x y : List Cel) : both (build 1 x) (build 1 y) = build 1 (x ++ y) := by
  rw [build1, build1, build1]
  have hE : ends oI (ints (x ++ y)) = comb oI (ends oI (ints x)) (ends oI (ints y)) := by rw [ints_append, ends_append]
  have hl : (ints (x ++ y)).length = (ints x).length + (ints y).length := by rw [ints_append]; simp
  have h1 := ints_len x
  have h2 := ints_len y
  have hu : ((x ++ y).length - (ints (x ++ y)).length : Nat) = (x.length - (ints x).length) + (y.length - (ints y).length) := by rw [hl, List.length_append]; omega
  have hr : (((x ++ y).length : Nat) : Int) = (x.length : Int) + (y.length : Int) := by simp
  rw [hu, hr]
  cases hx : ends oI (ints x) with
  | none =>
    obtain ⟨ex, zx⟩ := eI_none hx
    have e3 : eI (x ++ y) = eI y := by simp only [eI, hE, hx, comb]
    rw [e3, ex, zx]
    unfold both
    simp only [Nat.sub_zero, if_true, Int.lt_irrefl, false_and, if_false]
    simp
  | some p =>
    obtain ⟨ex, zx⟩ := eI_some hx
    cases hy : ends oI (ints y) with
    | none =>
      obtain ⟨ey, zy⟩ := eI_none hy
      have e3 : eI (x ++ y) = p := by simp only [eI, hE, hx, hy, comb]; rfl
      rw [e3, ex, ey, zy]
      unfold both
      simp only [Nat.sub_zero]
      rw [if_neg (by omega), if_neg (by omega)]
      simp
    | some q =>
      obtain ⟨ey, zy⟩ := eI_some hy
      have e3 : eI (x ++ y) = (mn2 oI p.1 q.1, mx2 oI p.2 q.2) := by simp only [eI, hE, hx, hy, comb]; rfl
      rw [e3, ex, ey, both_full (by simp only; omega) (by simp only; omega)]
      simp [mn2, mx2, oI, T.lt_nil]
theorem both2 (x y : List Cel) : both (build 2 x) (build 2 y) = build 2 (x ++ y) := by
  rw [build2, build2, build2]
  have hE : ends oT (txts (x ++ y)) = comb oT (ends oT (txts x)) (ends oT (txts y)) := by rw [txts_append, ends_append]
  have hl : (txts (x ++ y)).length = (txts x).length + (txts y).length := by rw [txts_append]; simp
  have h1 := txts_len x
  have h2 := txts_len y
  have hu : ((x ++ y).length - (txts (x ++ y)).length : Nat) = (x.length - (txts x).length) + (y.length - (txts y).length) := by rw [hl, List.length_append]; omega
  have hr : (((x ++ y).length : Nat) : Int) = (x.length : Int) + (y.length : Int) := by simp
  rw [hu, hr]
  cases hx : ends oT (txts x) with
  | none =>
    obtain ⟨ex, zx⟩ := eT_none hx
    have e3 : eT (x ++ y) = eT y := by simp only [eT, hE, hx, comb]
    rw [e3, ex, zx]
    unfold both
    simp only [Nat.sub_zero, if_true, Int.lt_irrefl, false_and, if_false]
    simp
  | some p =>
    obtain ⟨ex, zx⟩ := eT_some hx
    cases hy : ends oT (txts y) with
    | none =>
      obtain ⟨ey, zy⟩ := eT_none hy
      have e3 : eT (x ++ y) = p := by simp only [eT, hE, hx, hy, comb]; rfl
      rw [e3, ex, ey, zy]
      unfold both
      simp only [Nat.sub_zero]
      rw [if_neg (by omega), if_neg (by omega)]
      simp
    | some q =>
      obtain ⟨ey, zy⟩ := eT_some hy
      have e3 : eT (x ++ y) = (mn2 oT p.1 q.1, mx2 oT p.2 q.2) := by simp only [eT, hE, hx, hy, comb]; rfl
      rw [e3, ex, ey, both_full (by simp only; omega) (by simp only; omega)]
      refine Zn.ext' rfl rfl (by simp) (by simp) (by simp) ?_ ?_
      · show (if T.lt q.1 p.1 = true then q.1 else p.1) = mn2 oT p.1 q.1
        simp only [mn2, oT]
        by_cases h : T.lt q.1 p.1 = true <;> simp [h]
      · show (if T.lt p.2 q.2 = true then q.2 else p.2) = mx2 oT p.2 q.2
        simp only [mx2, oT]
        by_cases h : T.lt p.2 q.2 = true <;> simp [h]
/-- Both kinds. -/
def Kind (K : Int) : Prop := K = 1 ∨ K = 2
theorem build_k {K : Int} (hK : Kind K) (l : List Cel) : (build K l).k = K ∧ (build K l).r = l.length := by
  rcases hK with rfl | rfl
  · rw [build1]; exact ⟨rfl, rfl⟩
  · rw [build2]; exact ⟨rfl, rfl⟩
theorem build_right {K : Int} (hK : Kind K) {l : List Cel} (hl : l.length ≤ 1048576) (ht : ∀ c ∈ l, c.k = 2 → c.s.length ≤ 40) : right (build K l) = true := by
  rcases hK with rfl | rfl
  · exact build_right1 hl
  · refine build_right2 hl fun s hs => ?_
    simp only [txts, List.mem_map, List.mem_filter] at hs
    obtain ⟨c, ⟨h1, h2⟩, rfl⟩ := hs
    exact ht c h1 (by simpa using h2)
/-- **P8.3**. -/
theorem join_build {K : Int} (hK : Kind K) {x y : List Cel} (hl : x.length + y.length ≤ 1048576) (hx : ∀ c ∈ x, c.k = 2 → c.s.length ≤ 40) (hy : ∀ c ∈ y, c.k = 2 → c.s.length ≤ 40) : join (build K x) (build K y) = (build K (x ++ y), 0) := by
  have r1 := build_right hK (l := x) (by omega) hx
  have r2 := build_right hK (l := y) (by omega) hy
  have k1 := build_k hK x
  have k2 := build_k hK y
  unfold join
  rw [if_neg (by rw [k1.1, k2.1]; simp), r1, r2, k1.2, k2.2, if_neg (by simp; omega)]
  rcases hK with rfl | rfl
  · rw [both1]
  · rw [both2]
/-- In whatever order, and as often again. -/
theorem build_turn {K : Int} (hK : Kind K) (x y : List Cel) : build K (y ++ x) = build K (x ++ y) := by
  rcases hK with rfl | rfl
  · rw [← both1, ← both1]
    have hc : eI (y ++ x) = eI (x ++ y) := by simp only [eI, ints_append, ends_append]; rw [comb_comm]
    rw [both1, both1, build1, build1, hc, ints_append, ints_append]
    simp [Int.add_comm, Nat.add_comm]
  · have hc : eT (y ++ x) = eT (x ++ y) := by simp only [eT, txts_append, ends_append]; rw [comb_comm]
    rw [build2, build2, hc, txts_append, txts_append]
    simp [Int.add_comm, Nat.add_comm]
theorem build_twice {K : Int} (hK : Kind K) (x y : List Cel) (h : build K y = build K x) (he : K = 1 → ends oI (ints y) = ends oI (ints x)) (ht : K = 2 → ends oT (txts y) = ends oT (txts x)) : build K (x ++ y) = { build K x with r := 2 * (build K x).r, u := 2 * (build K x).u } := by
  rcases hK with rfl | rfl
  · have hE : eI (x ++ y) = eI x := by simp only [eI, ints_append, ends_append]; rw [he rfl, comb_self]
    rw [build1, build1] at h
    simp only [Zn.mk.injEq] at h
    have h1 := ints_len x
    have h2 := ints_len y
    rw [build1, build1, hE, ints_append]
    simp only [List.length_append]
    refine Zn.ext' rfl ?_ ?_ rfl rfl rfl rfl <;> (simp only; omega)
  · have hE : eT (x ++ y) = eT x := by simp only [eT, txts_append, ends_append]; rw [ht rfl, comb_self]
    rw [build2, build2] at h
    simp only [Zn.mk.injEq] at h
    have h1 := txts_len x
    have h2 := txts_len y
    rw [build2, build2, hE, txts_append]
    simp only [List.length_append]
    refine Zn.ext' rfl ?_ ?_ rfl rfl rfl rfl <;> (simp only; omega)
theorem build_order {K : Int} (hK : Kind K) (l : List Cel) (k : Nat) : build K (l.drop k ++ l.take k) = build K l ∧ build K (l ++ (l.drop k ++ l.take k)) = { build K l with r := 2 * (build K l).r, u := 2 * (build K l).u } := by
  have h1 : build K (l.drop k ++ l.take k) = build K l := by rw [build_turn hK, List.take_append_drop]
  refine ⟨h1, build_twice hK _ _ h1 (fun _ => ?_) (fun _ => ?_)⟩
  · rw [ints_append, ends_append, comb_comm, ← ends_append, ← ints_append, List.take_append_drop]
  · rw [txts_append, ends_append, comb_comm, ← ends_append, ← txts_append, List.take_append_drop]
end Go.Proofs.Ytnfbmffafclaaaa.Z
