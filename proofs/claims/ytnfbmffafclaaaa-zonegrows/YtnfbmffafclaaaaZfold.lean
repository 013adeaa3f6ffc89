/-
  Plain facts on what Build counts.
-/
import Derived.Test.YtnfbmffafclaaaaZone
namespace Go.Proofs.Ytnfbmffafclaaaa.Z
theorem step_u (k : Int) (p : Zn × Bool) (c : Cel) : p.1.u ≤ (step k p c).1.u ∧ (step k p c).1.u ≤ p.1.u + 1 := by
  unfold step
  split
  · simp only; omega
  · split
    · simp only; omega
    · split <;> (simp only; omega)
theorem fold_u' (k : Int) (l : List Cel) (p : Zn × Bool) : p.1.u ≤ (l.foldl (step k) p).1.u ∧ (l.foldl (step k) p).1.u ≤ p.1.u + l.length := by
  induction l generalizing p with
  | nil => simp
  | cons c l ih =>
    have h1 := step_u k p c
    have h2 := ih (step k p c)
    simp only [List.foldl_cons, List.length_cons]
    omega
theorem fold_u (k n : Int) (l : List Cel) : 0 ≤ (fold k n l).1.u ∧ (fold k n l).1.u ≤ l.length := by
  have h := fold_u' k l (⟨k, n, 0, 0, 0, [], []⟩, true)
  simp only [fold]
  simp at h
  omega
end Go.Proofs.Ytnfbmffafclaaaa.Z
