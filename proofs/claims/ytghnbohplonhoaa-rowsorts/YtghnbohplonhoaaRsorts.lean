/-
  Plain facts on rows that are made of their places, and sorted. No program here.
-/
import Derived.Test.YtghnbohplonhoaaRsort
namespace Go.Proofs.Ytghnbohplonhoaa
set_option linter.unusedVariables false
namespace Rw
theorem ins_perm (x : Rw) (l : List Rw) : (ins x l).Perm (x :: l) := by
  induction l with
  | nil => exact List.Perm.refl _
  | cons y l ih =>
    unfold ins
    split
    · exact List.Perm.refl _
    · exact (ih.cons y).trans (List.Perm.swap x y l)
theorem sort_perm (l : List Rw) : (sort l).Perm l := by
  have h : ∀ (l o : List Rw), (l.foldl (fun o x => ins x o) o).Perm (o ++ l) := by
    intro l
    induction l with
    | nil => intro o; simp
    | cons x l ih =>
      intro o
      rw [List.foldl_cons]
      refine (ih (ins x o)).trans ?_
      have h1 : (ins x o ++ l).Perm (x :: o ++ l) := (ins_perm x o).append_right l
      refine h1.trans ?_
      exact (List.perm_middle (a := x) (l₁ := o) (l₂ := l)).symm
  have := h l []
  simpa [sort] using this
/-- The number of a row that has one. -/
def num (r : Rw) : Int := match r.c with | [c] => c.n | _ => -1
/-- Each row is made of its place. -/
def Made (l : List Rw) : Prop := ∀ (j : Nat) (r : Rw), l[j]? = some r → In64 r.t ∧ r.q = ((j % 2 : Nat) : Int) ∧ r.c = [⟨[110], 1, (j : Int), []⟩]
theorem made_c {l : List Rw} (h : Made l) : ∀ r ∈ l, r.c.length ≤ 1000 := by
  intro r hr
  obtain ⟨j, hj⟩ := List.getElem?_of_mem hr
  rw [(h j r hj).2.2]
  simp
theorem Made.nil : Made [] := fun j r h => by simp at h
theorem Made.snoc {l : List Rw} (h : Made l) {t : Int} (ht : In64 t) : Made (l ++ [⟨t, ((l.length % 2 : Nat) : Int), [⟨[110], 1, (l.length : Int), []⟩]⟩]) := by
  intro j r hj
  by_cases e : j < l.length
  · rw [List.getElem?_append_left e] at hj
    exact h j r hj
  · rw [List.getElem?_append_right (by omega)] at hj
    have hjl : j - l.length = 0 := by
      have := (List.getElem?_eq_some_iff.1 hj).1
      simp at this
      omega
    rw [hjl] at hj
    simp at hj
    have e2 : j = l.length := by omega
    subst hj
    subst e2
    exact ⟨ht, rfl, rfl⟩
theorem made_num {l : List Rw} (h : Made l) {j : Nat} {r : Rw} (hj : l[j]? = some r) : num r = (j : Int) := by
  obtain ⟨_, _, hc⟩ := h j r hj
  unfold Rw.num
  rw [hc]
theorem Made.nodup {l : List Rw} (h : Made l) : (l.map Rw.num).Nodup := by
  rw [List.nodup_iff_pairwise_ne, List.pairwise_iff_getElem]
  intro i j hi hj hij
  simp only [List.length_map] at hi hj
  rw [List.getElem_map, List.getElem_map, made_num h (List.getElem?_eq_getElem hi), made_num h (List.getElem?_eq_getElem hj)]
  omega
/-- What is sorted: each place has a row of the list, by its number. -/
theorem Made.at {l : List Rw} (h : Made l) {i : Nat} {r : Rw} (hi : (sort l)[i]? = some r) : ∃ k : Nat, k < l.length ∧ l[k]? = some r ∧ r.c = [⟨[110], 1, (k : Int), []⟩] := by
  have hm := (sort_mem l r).1 (List.mem_of_getElem? hi)
  obtain ⟨k, hk⟩ := List.getElem?_of_mem hm
  exact ⟨k, (List.getElem?_eq_some_iff.1 hk).1, hk, (h k r hk).2.2⟩
theorem Made.apart {l : List Rw} (h : Made l) {i j : Nat} {r s : Rw} (hi : (sort l)[i]? = some r) (hj : (sort l)[j]? = some s) (hne : i ≠ j) : num r ≠ num s := by
  have hn : ((sort l).map Rw.num).Nodup := ((sort_perm l).map Rw.num).nodup_iff.2 h.nodup
  intro e
  refine hne ((List.getElem?_inj (i := i) (j := j) ?_ hn).1 ?_)
  · simp; exact (List.getElem?_eq_some_iff.1 hi).1
  · simp [hi, hj, e]
/-- Like ones stand as they stood. -/
theorem Made.stable {l : List Rw} (h : Made l) {i j : Nat} {r s : Rw} (hi : (sort l)[i]? = some r) (hj : (sort l)[j]? = some s) (hij : i < j) (hk : r.t = s.t ∧ r.q = s.q) : num r < num s := by
  have hp : (l.filter (key s.t s.q)).Pairwise fun a b => num a < num b := by
    refine List.Pairwise.filter _ ?_
    rw [List.pairwise_iff_getElem]
    intro a b ha hb hab
    rw [made_num h (List.getElem?_eq_getElem ha), made_num h (List.getElem?_eq_getElem hb)]
    omega
  rw [← sort_filter, List.pairwise_filter] at hp
  have := List.pairwise_iff_getElem.1 hp i j (List.getElem?_eq_some_iff.1 hi).1 (List.getElem?_eq_some_iff.1 hj).1 hij
  rw [(List.getElem?_eq_some_iff.1 hi).2, (List.getElem?_eq_some_iff.1 hj).2] at this
  exact this (key_iff.2 hk) (key_iff.2 ⟨rfl, rfl⟩)
theorem sort_next {l : List Rw} {i : Nat} {r s : Rw} (hi : (sort l)[i]? = some r) (hj : (sort l)[i + 1]? = some s) : less s r = false := by
  have := List.pairwise_iff_getElem.1 (sort_srt l) i (i + 1) (List.getElem?_eq_some_iff.1 hi).1 (List.getElem?_eq_some_iff.1 hj).1 (by omega)
  rw [(List.getElem?_eq_some_iff.1 hi).2, (List.getElem?_eq_some_iff.1 hj).2] at this
  exact this
end Rw
end Go.Proofs.Ytghnbohplonhoaa
