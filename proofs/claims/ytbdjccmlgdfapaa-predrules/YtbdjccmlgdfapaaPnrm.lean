/-
  Plain facts on normal predicates: how great they are. No program here.
-/
import Derived.Test.YtbdjccmlgdfapaaLcopy
namespace Go.Proofs.Ytbdjccmlgdfapaa
set_option linter.unusedVariables false
set_option linter.unusedSimpArgs false
namespace Pd
theorem size_put (k : Int) (p : Pr) : ((put k p).map size).sum ≤ size p := by
  unfold put
  split
  · conv => rhs; rw [← mk_ks p, size_mk]
    omega
  · simp
theorem size_puts (k : Int) (l : List Pr) : ((l.flatMap (put k)).map size).sum ≤ (l.map size).sum := by
  induction l with
  | nil => simp
  | cons x t ih =>
    have := size_put k x
    rw [List.flatMap_cons, List.map_append, List.sum_append, List.map_cons, List.sum_cons]
    omega
theorem size_one (k : Int) (l : List Pr) : size (one k l) ≤ 1 + (l.map size).sum := by
  unfold one
  split
  · rename_i h
    obtain ⟨x, rfl⟩ := one_of h
    simp
  · rw [size_mk]
    exact Nat.le_refl _
theorem size_nrm : ∀ p, form p = true → ∀ b, size (nrm p b) ≤ 2 * size p := by
  refine tree ?_
  intro h l ih hf b
  rw [form_mk, Bool.and_eq_true, List.all_eq_true] at hf
  obtain ⟨hp, hl⟩ := hf
  rw [nrm_mk, size_mk]
  split
  · rename_i h3
    obtain ⟨_, h1⟩ := part_not h3 hp
    obtain ⟨x, rfl⟩ := one_of h1
    have := ih x (by simp) (hl x (by simp)) (!b)
    show size (nrm x (!b)) ≤ _
    simp only [List.map_cons, List.map_nil, List.sum_cons, List.sum_nil]
    omega
  · split
    · have h1 := size_one (turn h.k b) (l.flatMap fun x => put (turn h.k b) (nrm x b))
      have h2 : ((l.flatMap fun x => put (turn h.k b) (nrm x b)).map size).sum ≤ ((l.map fun x => nrm x b).map size).sum := by
        rw [show (l.flatMap fun x => put (turn h.k b) (nrm x b)) = (l.map fun x => nrm x b).flatMap (put (turn h.k b)) from by rw [List.flatMap_map]]
        exact size_puts _ _
      have h3 : ((l.map fun x => nrm x b).map size).sum ≤ 2 * (l.map size).sum := by
        clear h1 h2 hp
        induction l with
        | nil => simp
        | cons x t iht =>
          have h4 := ih x (by simp) (hl x (by simp)) b
          have h5 := iht (fun k hk => ih k (by simp [hk])) (fun k hk => hl k (by simp [hk]))
          simp only [List.map_cons, List.sum_cons] at h5 ⊢
          omega
      omega
    · split
      · rw [size_mk, List.map_cons, List.map_nil, List.sum_cons, List.sum_nil, size_mk]
        omega
      · rw [size_mk]
        omega
theorem len_ks (p : Pr) : p.ks.length ≤ size p := by
  conv => rhs; rw [← mk_ks p, size_mk]
  have := sum_len p.ks
  omega
/-- How many Kids there will be. -/
theorem len_puts (k : Int) (l : List Pr) : (l.flatMap (put k)).length ≤ (l.map size).sum := by
  have h1 := sum_len (l.flatMap (put k))
  have h2 := size_puts k l
  omega
theorem len_join (k : Int) (b : Bool) {l : List Pr} (hf : ∀ x ∈ l, form x = true) : (l.flatMap fun x => put k (nrm x b)).length ≤ 2 * (l.map size).sum := by
  rw [show (l.flatMap fun x => put k (nrm x b)) = (l.map fun x => nrm x b).flatMap (put k) from by rw [List.flatMap_map]]
  have h1 := len_puts k (l.map fun x => nrm x b)
  have h3 : ((l.map fun x => nrm x b).map size).sum ≤ 2 * (l.map size).sum := by
    clear h1
    induction l with
    | nil => simp
    | cons x t iht =>
      have h4 := size_nrm x (hf x (by simp)) b
      have h5 := iht (fun k hk => hf k (by simp [hk]))
      simp only [List.map_cons, List.sum_cons] at h5 ⊢
      omega
  omega
theorem form_fit {p : Pr} (h : right p = true) : form p = true ∧ size p ≤ 40 ∧ deep p ≤ 6 := by
  unfold right at h
  simp only [Bool.and_eq_true, decide_eq_true_eq] at h
  exact ⟨h.2, h.1.2, h.1.1⟩
end Pd
end Go.Proofs.Ytbdjccmlgdfapaa
