/-
  Plain facts: a sorted list of texts whose like neighbours are made one is the rising list of its texts. No program here.
-/
import Derived.Test.YtadcbefgleiijaaOrder
import Derived.Lib.SlicesCompact
namespace Go.Proofs.Ytadcbefgleiijaa.T
theorem lt_real (x : List UInt8) : ∀ y : List UInt8, lt x y = true ↔ x < y := by
  induction x with
  | nil =>
    intro y
    cases y with
    | nil => simp [lt_irrefl]
    | cons b y => simp [nil_lt]
  | cons a x ih =>
    intro y
    cases y with
    | nil => simp [lt_nil]
    | cons b y =>
      rw [lt_cons, List.cons_lt_cons_iff, ← ih y]
      simp
theorem le_real (x y : List UInt8) : x ≤ y ↔ lt y x = false := by
  rw [← List.not_lt, ← lt_real, Bool.not_eq_true]
theorem le_lt {x y z : List UInt8} (h1 : lt y x = false) (h2 : lt y z = true) : lt x z = true := ge_lt h1 h2
/-- In order, like ones side by side. -/
def Srtd (l : List (List UInt8)) : Prop := l.Pairwise fun x y => lt y x = false
theorem srtd_sort (l : List (List UInt8)) : Srtd (l.mergeSort fun x y => decide (x ≤ y)) := by
  have h := List.pairwise_mergeSort (le := fun x y : List UInt8 => decide (x ≤ y)) (fun a b c h1 h2 => by
    simp only [decide_eq_true_eq] at h1 h2 ⊢
    rw [le_real] at h1 h2 ⊢
    cases h : lt c a with
    | false => rfl
    | true => rw [ge_lt h2 h] at h1; cases h1) (fun a b => by
    simp only [Bool.or_eq_true, decide_eq_true_eq]
    rw [le_real, le_real]
    cases h : lt b a with
    | false => exact .inl rfl
    | true => exact .inr (lt_asymm h)) l
  refine h.imp ?_
  intro x y hxy
  simpa [le_real] using hxy
theorem cmp_upto {l : List (List UInt8)} (hs : Srtd l) : ∀ m, m ≤ l.length → Rise (Lib.compactUpTo l.toArray m) ∧ ∀ x, x ∈ Lib.compactUpTo l.toArray m ↔ ∃ j, j < m ∧ l[j]? = some x := by
  intro m
  induction m with
  | zero =>
    intro _
    refine ⟨by simp [Lib.compactUpTo, Rise], fun x => ?_⟩
    simp [Lib.compactUpTo]
  | succ m ih =>
    intro hm
    obtain ⟨h1, h2⟩ := ih (by omega)
    have hg : l.toArray[m]! = l[m] := by rw [getElem!_pos l.toArray m (by simp; omega)]; simp
    rw [Lib.compactUpTo_succ, hg]
    by_cases hk : Lib.keeps l.toArray m = true
    · rw [if_pos hk]
      refine ⟨?_, fun x => ?_⟩
      · unfold Rise
        rw [List.pairwise_append]
        refine ⟨h1, by simp, fun x hx y hy => ?_⟩
        rw [List.mem_singleton.1 hy]
        obtain ⟨j, hj, hjx⟩ := (h2 x).1 hx
        have hj' : j < l.length := by omega
        rw [List.getElem?_eq_getElem hj'] at hjx
        have e := Option.some.inj hjx
        have hm0 : m ≠ 0 := by omega
        have hne : l[m] ≠ l[m - 1] := by
          have h := hk
          unfold Lib.keeps at h
          simp only [decide_eq_true_eq] at h
          rcases h with h | h
          · exact absurd h hm0
          · rw [hg, getElem!_pos l.toArray (m - 1) (by simp; omega)] at h
            simpa using h
        have hlast : lt l[m] l[m - 1] = false := (List.pairwise_iff_getElem.1 hs) (m - 1) m (by omega) (by omega) (by omega)
        have hlt : lt l[m - 1] l[m] = true := by
          rcases lt_total l[m - 1] l[m] with h | h | h
          · exact h
          · exact absurd h.symm hne
          · rw [h] at hlast; cases hlast
        rw [← e]
        by_cases hjm : j = m - 1
        · subst hjm; exact hlt
        · exact le_lt ((List.pairwise_iff_getElem.1 hs) j (m - 1) (by omega) (by omega) (by omega)) hlt
      · rw [List.mem_append, h2, List.mem_singleton]
        constructor
        · rintro (⟨j, hj, h⟩ | rfl)
          · exact ⟨j, by omega, h⟩
          · exact ⟨m, by omega, List.getElem?_eq_getElem (by omega)⟩
        · rintro ⟨j, hj, h⟩
          by_cases e : j = m
          · subst e
            rw [List.getElem?_eq_getElem (by omega)] at h
            exact .inr (Option.some.inj h).symm
          · exact .inl ⟨j, by omega, h⟩
    · rw [if_neg hk, List.append_nil]
      refine ⟨h1, fun x => ?_⟩
      rw [h2]
      constructor
      · rintro ⟨j, hj, h⟩
        exact ⟨j, by omega, h⟩
      · rintro ⟨j, hj, h⟩
        by_cases e : j = m
        · subst e
          have hk' := hk
          unfold Lib.keeps at hk'
          simp only [decide_eq_true_eq, not_or, Classical.not_not] at hk'
          obtain ⟨h0, h3⟩ := hk'
          rw [hg, getElem!_pos l.toArray (j - 1) (by simp; omega)] at h3
          refine ⟨j - 1, by omega, ?_⟩
          rw [List.getElem?_eq_getElem (by omega)] at h
          rw [List.getElem?_eq_getElem (by omega), ← h, h3]
          simp
        · exact ⟨j, by omega, h⟩
theorem cmp_bld (l : List (List UInt8)) : Lib.compact (l.mergeSort fun x y => decide (x ≤ y)) = bld l := by
  obtain ⟨h1, h2⟩ := cmp_upto (srtd_sort l) _ (Nat.le_refl _)
  refine rise_same h1 (rise_bld l) fun x => ?_
  show x ∈ Lib.compactUpTo _ _ ↔ _
  rw [h2, mem_bld]
  constructor
  · rintro ⟨j, _, h⟩
    exact (List.mergeSort_perm l _).subset (List.mem_of_getElem? h)
  · intro h
    obtain ⟨j, hj⟩ := List.getElem?_of_mem ((List.mergeSort_perm l fun x y => decide (x ≤ y)).symm.subset h)
    exact ⟨j, (List.getElem?_eq_some_iff.1 hj).1, hj⟩
end Go.Proofs.Ytadcbefgleiijaa.T
