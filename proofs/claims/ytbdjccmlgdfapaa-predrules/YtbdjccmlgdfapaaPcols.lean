/-
  Plain facts: a sorted list of texts whose like neighbours are made one is the rising list of its texts. No program here. Plain: the columns that a predicate's parts name, one after the other; the rising list of them. And: a predicate that lies below a bound lies there still, whatever was done above it.
-/
import Derived.Test.YtbdjccmlgdfapaaOrder
import Derived.Lib.SlicesCompact
import Derived.Test.YtbdjccmlgdfapaaPmem
namespace Go.Proofs.Ytbdjccmlgdfapaa.T
theorem lt_real (x : List UInt8) : ∀ y : List UInt8, lt x y = true ↔ x < y := by
  induction x with
  | nil =>
    intro y
    cases y with
    | nil => simp [lt_irrefl]
    | cons b y => simp [nil_lt]
  | cons a x ih =>
    intro y
    cases y with
    | nil => simp [lt_nil]
    | cons b y =>
      rw [lt_cons, List.cons_lt_cons_iff, ← ih y]
      simp
theorem le_real (x y : List UInt8) : x ≤ y ↔ lt y x = false := by
  rw [← List.not_lt, ← lt_real, Bool.not_eq_true]
theorem le_lt {x y z : List UInt8} (h1 : lt y x = false) (h2 : lt y z = true) : lt x z = true := ge_lt h1 h2
/-- In order, like ones side by side. -/
def Srtd (l : List (List UInt8)) : Prop := l.Pairwise fun x y => lt y x = false
theorem srtd_sort (l : List (List UInt8)) : Srtd (l.mergeSort fun x y => decide (x ≤ y)) := by
  have h := List.pairwise_mergeSort (le := fun x y : List UInt8 => decide (x ≤ y)) (fun a b c h1 h2 => by
    simp only [decide_eq_true_eq] at h1 h2 ⊢
    rw [le_real] at h1 h2 ⊢
    cases h : lt c a with
    | false => rfl
    | true => rw [ge_lt h2 h] at h1; cases h1) (fun a b => by
    simp only [Bool.or_eq_true, decide_eq_true_eq]
    rw [le_real, le_real]
    cases h : lt b a with
    | false => exact .inl rfl
    | true => exact .inr (lt_asymm h)) l
  refine h.imp ?_
  intro x y hxy
  simpa [le_real] using hxy
theorem cmp_upto {l : List (List UInt8)} (hs : Srtd l) : ∀ m, m ≤ l.length → Rise (Lib.compactUpTo l.toArray m) ∧ ∀ x, x ∈ Lib.compactUpTo l.toArray m ↔ ∃ j, j < m ∧ l[j]? = some x := by
  intro m
  induction m with
  | zero =>
    intro _
    refine ⟨by simp [Lib.compactUpTo, Rise], fun x => ?_⟩
    simp [Lib.compactUpTo]
  | succ m ih =>
    intro hm
    obtain ⟨h1, h2⟩ := ih (by omega)
    have hg : l.toArray[m]! = l[m] := by rw [getElem!_pos l.toArray m (by simp; omega)]; simp
    rw [Lib.compactUpTo_succ, hg]
    by_cases hk : Lib.keeps l.toArray m = true
    · rw [if_pos hk]
      refine ⟨?_, fun x => ?_⟩
      · unfold Rise
        rw [List.pairwise_append]
        refine ⟨h1, by simp, fun x hx y hy => ?_⟩
        rw [List.mem_singleton.1 hy]
        obtain ⟨j, hj, hjx⟩ := (h2 x).1 hx
        have hj' : j < l.length := by omega
        rw [List.getElem?_eq_getElem hj'] at hjx
        have e := Option.some.inj hjx
        have hm0 : m ≠ 0 := by omega
        have hne : l[m] ≠ l[m - 1] := by
          have h := hk
          unfold Lib.keeps at h
          simp only [decide_eq_true_eq] at h
          rcases h with h | h
          · exact absurd h hm0
          · rw [hg, getElem!_pos l.toArray (m - 1) (by simp; omega)] at h
            simpa using h
        have hlast : lt l[m] l[m - 1] = false := (List.pairwise_iff_getElem.1 hs) (m - 1) m (by omega) (by omega) (by omega)
        have hlt : lt l[m - 1] l[m] = true := by
          rcases lt_total l[m - 1] l[m] with h | h | h
          · exact h
          · exact absurd h.symm hne
          · rw [h] at hlast; cases hlast
        rw [← e]
        by_cases hjm : j = m - 1
        · subst hjm; exact hlt
        · exact le_lt ((List.pairwise_iff_getElem.1 hs) j (m - 1) (by omega) (by omega) (by omega)) hlt
      · rw [List.mem_append, h2, List.mem_singleton]
        constructor
        · rintro (⟨j, hj, h⟩ | rfl)
          · exact ⟨j, by omega, h⟩
          · exact ⟨m, by omega, List.getElem?_eq_getElem (by omega)⟩
        · rintro ⟨j, hj, h⟩
          by_cases e : j = m
          · subst e
            rw [List.getElem?_eq_getElem (by omega)] at h
            exact .inr (Option.some.inj h).symm
          · exact .inl ⟨j, by omega, h⟩
    · rw [if_neg hk, List.append_nil]
      refine ⟨h1, fun x => ?_⟩
      rw [h2]
      constructor
      · rintro ⟨j, hj, h⟩
        exact ⟨j, by omega, h⟩
      · rintro ⟨j, hj, h⟩
        by_cases e : j = m
        · subst e
          have hk' := hk
          unfold Lib.keeps at hk'
          simp only [decide_eq_true_eq, not_or, Classical.not_not] at hk'
          obtain ⟨h0, h3⟩ := hk'
          rw [hg, getElem!_pos l.toArray (j - 1) (by simp; omega)] at h3
          refine ⟨j - 1, by omega, ?_⟩
          rw [List.getElem?_eq_getElem (by omega)] at h
          rw [List.getElem?_eq_getElem (by omega), ← h, h3]
          simp
        · exact ⟨j, by omega, h⟩
theorem cmp_bld (l : List (List UInt8)) : Lib.compact (l.mergeSort fun x y => decide (x ≤ y)) = bld l := by
  obtain ⟨h1, h2⟩ := cmp_upto (srtd_sort l) _ (Nat.le_refl _)
  refine rise_same h1 (rise_bld l) fun x => ?_
  show x ∈ Lib.compactUpTo _ _ ↔ _
  rw [h2, mem_bld]
  constructor
  · rintro ⟨j, _, h⟩
    exact (List.mergeSort_perm l _).subset (List.mem_of_getElem? h)
  · intro h
    obtain ⟨j, hj⟩ := List.getElem?_of_mem ((List.mergeSort_perm l fun x y => decide (x ≤ y)).symm.subset h)
    exact ⟨j, (List.getElem?_eq_some_iff.1 hj).1, hj⟩
end Go.Proofs.Ytbdjccmlgdfapaa.T
namespace Go.Proofs.Ytbdjccmlgdfapaa
open Go.RowKit
set_option linter.unusedVariables false
set_option linter.unusedSimpArgs false
namespace Pd
def clist : Pr → List (List UInt8) := rec' fun h _ a => own h ++ a.flatten
theorem clist_mk (h : Hd) (l : List Pr) : clist (Pr.mk' h l) = own h ++ (l.map clist).flatten := rec_mk _ h l
theorem mem_clist : ∀ p c, c ∈ clist p ↔ c ∈ cols p := by
  refine tree ?_
  intro h l ih c
  rw [clist_mk, cols_mk, T.mem_bld, List.mem_append, List.mem_append, List.mem_flatten, List.mem_flatten]
  constructor
  · rintro (h1 | ⟨x, hx, hc⟩)
    · exact .inl h1
    · obtain ⟨y, hy, rfl⟩ := List.mem_map.1 hx
      exact .inr ⟨cols y, List.mem_map.2 ⟨y, hy, rfl⟩, (ih y hy c).1 hc⟩
  · rintro (h1 | ⟨x, hx, hc⟩)
    · exact .inl h1
    · obtain ⟨y, hy, rfl⟩ := List.mem_map.1 hx
      exact .inr ⟨clist y, List.mem_map.2 ⟨y, hy, rfl⟩, (ih y hy c).2 hc⟩
theorem rise_cols (p : Pr) : T.Rise (cols p) := by rw [← mk_ks p, cols_mk]; exact T.rise_bld _
theorem bld_clist (p : Pr) : T.bld (clist p) = cols p := T.rise_same (T.rise_bld _) (rise_cols p) fun x => by rw [T.mem_bld, mem_clist]
theorem own_len (h : Hd) : (own h).length ≤ 1 := by unfold own; split <;> simp
theorem clist_len : ∀ p, (clist p).length ≤ size p := by
  refine tree ?_
  intro h l ih
  rw [clist_mk, size_mk, List.length_append]
  have h1 := own_len h
  have h2 : ((l.map clist).flatten).length ≤ (l.map size).sum := by
    clear h1
    induction l with
    | nil => simp
    | cons x t iht =>
      rw [List.map_cons, List.flatten_cons, List.length_append, List.map_cons, List.sum_cons]
      have := ih x (by simp)
      have := iht fun y hy => ih y (by simp [hy])
      omega
  omega
theorem Lay.under {B : Nat → Prop} {base : Nat} (hB : ∀ b, B b → b < base) : ∀ p {w w' : World} {v : PV}, Lay B p w v → Below base w w' → Lay B p w' v := by
  refine tree ?_
  intro h l ih w w' v hl hb
  rw [lay_mk] at hl ⊢
  obtain ⟨⟨h11, h12, h13, h14⟩, h2, h3, vs, h4, h5, h6⟩ := hl
  refine ⟨⟨h11, h12, ⟨h13.1, h13.2.1, h13.2.2.1, fun i x hi => ?_⟩, h14⟩, h2, h3, vs, ⟨h4.1, h4.2.1, h4.2.2.1, fun i x hi => ?_⟩, h5, fun i x p hi hp => ih p (List.mem_of_getElem? hp) (h6 i x p hi hp) hb⟩
  · obtain ⟨b, off, e, hc⟩ := h13.2.2.2 i x hi
    have hi' := (List.getElem?_eq_some_iff.1 hi).1
    have := hB b (h14 (by omega) b off e)
    exact ⟨b, off, e, by rw [hb.cell (show (⟨b, off + i, none⟩ : Addr).block < base from this)]; exact hc⟩
  · obtain ⟨b, off, e, hc⟩ := h4.2.2.2 i x hi
    have hi' := (List.getElem?_eq_some_iff.1 hi).1
    have := hB b (h3 (by omega) b off e)
    exact ⟨b, off, e, fun j u hu => by rw [hb.cell (show (⟨b, off + i * 7 + j, none⟩ : Addr).block < base from this)]; exact hc j u hu⟩
end Pd
end Go.Proofs.Ytbdjccmlgdfapaa
