/-
  Plain facts on the zone of two columns that the landed code reckons: which fields it takes of which; that Build is made of it cell by cell. No program here.
-/
import Derived.Test.YtnfbmffafclaaaaZlaw
import Derived.Test.YtnfbmffafclaaaaZfold
namespace Go.Proofs.Ytnfbmffafclaaaa.Z
set_option linter.unusedSimpArgs false
/-- Has it a least? -/
def has (z : Zn) : Bool := decide (z.u < z.r)
/-- What the first's fields are taken of, and the second's. -/
def tx (a b : Zn) : Zn := if has a = true then a else b
def ty (a b : Zn) : Zn := if has b = true then b else tx a b
/-- Least and greatest of both. -/
def mix (k r u : Int) (x y : Zn) : Zn := ⟨k, r, u, if y.mn < x.mn then y.mn else x.mn, if y.mx > x.mx then y.mx else x.mx, if T.lt y.ms x.ms = true then y.ms else x.ms, if T.lt x.xs y.xs = true then y.xs else x.xs⟩
/-- The zone of both. -/
def tog (a b : Zn) : Zn := mix a.k (a.r + b.r) (a.u + b.u) (tx a b) (ty a b)
/-- The zone of a cell alone. -/
def one (k : Int) (c : Cel) : Zn :=
  if c.k = 0 ∨ c.k ≠ k then ⟨k, 1, 1, 0, 0, [], []⟩ else if k = 1 then ⟨k, 1, 0, c.n, c.n, [], []⟩ else if k = 2 then ⟨k, 1, 0, 0, 0, c.s, c.s⟩ else ⟨k, 1, 0, 0, 0, [], []⟩
theorem mix_self (k r u : Int) (x : Zn) : mix k r u x x = ⟨k, r, u, x.mn, x.mx, x.ms, x.xs⟩ := by simp [mix]
theorem tog_both {a b : Zn} (hk : a.k = b.k) (ha : a.u ≤ a.r) : tog a b = both a b := by
  unfold tog ty tx has both
  by_cases h1 : a.u < a.r
  · have e1 : ¬ a.r = a.u := by omega
    by_cases h2 : b.u < b.r
    · simp [h1, h2, e1, mix]
    · simp [h1, h2, e1, mix_self]
  · have e1 : a.r = a.u := by omega
    by_cases h2 : b.u < b.r
    · simp [h1, h2, e1, mix_self, hk]
    · simp [h1, h2, e1, mix_self, hk]
/-- What holds of a zone in the making. -/
theorem fold_inv (k n : Int) (l : List Cel) : (fold k n l).1.k = k ∧ (fold k n l).1.r = n ∧ ((fold k n l).2 = true ↔ (fold k n l).1.u = l.length) ∧ ((fold k n l).2 = true ∨ k ≠ 1 → (fold k n l).1.mn = 0 ∧ (fold k n l).1.mx = 0) ∧ ((fold k n l).2 = true ∨ k ≠ 2 → (fold k n l).1.ms = [] ∧ (fold k n l).1.xs = []) := by
  refine snoc_ind (P := fun l => (fold k n l).1.k = k ∧ (fold k n l).1.r = n ∧ ((fold k n l).2 = true ↔ (fold k n l).1.u = l.length) ∧ ((fold k n l).2 = true ∨ k ≠ 1 → (fold k n l).1.mn = 0 ∧ (fold k n l).1.mx = 0) ∧ ((fold k n l).2 = true ∨ k ≠ 2 → (fold k n l).1.ms = [] ∧ (fold k n l).1.xs = [])) ?_ ?_ _ l rfl
  · simp [fold]
  · intro l c ih
    obtain ⟨i1, i2, i3, i4, i5⟩ := ih
    have hu := fold_u k n l
    rw [fold_snoc]
    generalize fold k n l = p at *
    unfold step
    split
    · refine ⟨i1, i2, ?_, i4, i5⟩
      simp only [List.length_append, List.length_singleton]
      rw [i3]; omega
    · split
      · rename_i h1
        refine ⟨i1, i2, ?_, by simp [h1], ?_⟩
        · simp only [List.length_append, List.length_singleton]
          constructor
          · intro h; exact absurd h (by simp)
          · intro h; omega
        · intro _
          exact i5 (Or.inr (by omega))
      · split
        · rename_i h1 h2
          refine ⟨i1, i2, ?_, ?_, by simp [h2]⟩
          · simp only [List.length_append, List.length_singleton]
            constructor
            · intro h; exact absurd h (by simp)
            · intro h; omega
          · intro _
            exact i4 (Or.inr (by omega))
        · rename_i h1 h2
          refine ⟨i1, i2, ?_, fun _ => i4 (Or.inr h1), fun _ => i5 (Or.inr h2)⟩
          simp only [List.length_append, List.length_singleton]
          constructor
          · intro h; exact absurd h (by simp)
          · intro h; omega
theorem step_r (k : Int) (p : Zn × Bool) (c : Cel) (n : Int) : step k ({ p.1 with r := n }, p.2) c = ({ (step k p c).1 with r := n }, (step k p c).2) := by
  unfold step
  split
  · rfl
  · split
    · rfl
    · split <;> rfl
theorem fold_r (k n m : Int) (l : List Cel) : fold k m l = ({ (fold k n l).1 with r := m }, (fold k n l).2) := by
  refine snoc_ind (P := fun l => fold k m l = ({ (fold k n l).1 with r := m }, (fold k n l).2)) ?_ ?_ _ l rfl
  · rfl
  · intro l c ih
    rw [fold_snoc, fold_snoc, ih, step_r]
/-- Build, a cell more. -/
theorem build_snoc (k : Int) (l : List Cel) (c : Cel) : build k (l ++ [c]) = tog (build k l) (one k c) := by
  have hi := fold_inv k (l.length : Int) l
  have hu := fold_u k (l.length : Int) l
  unfold build
  rw [fold_snoc, fold_r k (l.length : Int), step_r]
  simp only [List.length_append, List.length_singleton]
  generalize fold k (l.length : Int) l = p at *
  obtain ⟨⟨zk, zr, zu, zmn, zmx, zms, zxs⟩, f⟩ := p
  obtain ⟨i1, i2, i3, i4, i5⟩ := hi
  simp only at i1 i2 i3 i4 i5 hu
  subst i1
  cases f with
  | true =>
    have hz : zu = zr := by rw [i2]; exact i3.1 rfl
    obtain ⟨j1, j2⟩ := i4 (Or.inl rfl)
    obtain ⟨j3, j4⟩ := i5 (Or.inl rfl)
    subst j1 j2 j3 j4
    have h1 : has ⟨zk, zr, zu, 0, 0, [], []⟩ = false := by simp [has]; omega
    unfold tog ty tx
    rw [h1]
    unfold step one
    by_cases c1 : c.k = 0 ∨ c.k ≠ zk
    · have c2 : c.k ≠ zk ∨ c.k = 0 := c1.symm
      simp [c1, c2, mix_self, i2]
    · have c2 : ¬ (c.k ≠ zk ∨ c.k = 0) := fun h => c1 h.symm
      simp only [if_neg c1, if_neg c2]
      by_cases k1 : zk = 1
      · simp [k1, mix_self, i2]
      · by_cases k2 : zk = 2
        · simp [k2, mix_self, i2]
        · simp [k1, k2, mix_self, i2]
  | false =>
    have hz : zu < zr := by
      have : ¬ zu = (l.length : Int) := fun h => absurd (i3.2 h) (by simp)
      omega
    have h1 : has ⟨zk, zr, zu, zmn, zmx, zms, zxs⟩ = true := by simp [has]; omega
    unfold tog ty tx
    rw [h1]
    unfold step one
    by_cases c1 : c.k = 0 ∨ c.k ≠ zk
    · have c2 : c.k ≠ zk ∨ c.k = 0 := c1.symm
      simp [c1, c2, mix_self, has, i2]
    · have c2 : ¬ (c.k ≠ zk ∨ c.k = 0) := fun h => c1 h.symm
      simp only [if_neg c1, if_neg c2]
      by_cases k1 : zk = 1
      · obtain ⟨j3, j4⟩ := i5 (Or.inr (by omega))
        simp [k1, mix, has, i2, j3, j4, T.lt_irrefl]
      · obtain ⟨j1, j2⟩ := i4 (Or.inr k1)
        by_cases k2 : zk = 2
        · simp [k2, mix, has, i2, j1, j2]
        · obtain ⟨j3, j4⟩ := i5 (Or.inr k2)
          simp [k1, k2, mix, has, i2, j1, j2, j3, j4, T.lt_irrefl]
end Go.Proofs.Ytnfbmffafclaaaa.Z
