/-
  Plain facts: a cell taken away, a cell that stands twice; rows whose texts are cut. No program here.
-/
import Derived.Test.YtghnbohplonhoaaKshort
import Derived.Test.YtghnbohplonhoaaRopens
namespace Go.Proofs.Ytghnbohplonhoaa
set_option linter.unusedVariables false
namespace Rw
theorem kind_ne {c : Ce} (h : celOk c = true) : c ≠ none_ := by
  intro e
  subst e
  unfold celOk at h
  rw [Bool.and_eq_true, form_iff] at h
  rcases h.2 with ⟨h, _⟩ | ⟨h, _⟩
  · simp [none_] at h
  · simp [none_] at h
theorem cell_had {r : Rw} (h : right r = true) (s : List UInt8) : cell r.c s ≠ none_ ↔ ∃ c ∈ r.c, c.col = s := by
  obtain ⟨_, hc, _⟩ := (right_iff r).1 h
  constructor
  · intro hne
    refine Classical.byContradiction fun hno => hne (cell_out fun c hm e => hno ⟨c, hm, e⟩)
  · intro hex
    obtain ⟨c, hm, he, _⟩ := cell_some hex
    rw [he]
    exact kind_ne (hc c hm)
theorem sub_drop (l : List Ce) (k : Nat) : (l.take k ++ l.drop (k + 1)).Sublist l := by
  have h := (List.Sublist.refl (l.take k)).append (List.drop_sublist_drop_left l (Nat.le_succ k))
  rw [List.take_append_drop] at h
  exact h
theorem right_less {t q : Int} {l : List Ce} (h : right ⟨t, q, l⟩ = true) (k : Nat) : right ⟨t, q, l.take k ++ l.drop (k + 1)⟩ = true := by
  obtain ⟨⟨h1, h2, h3, h4, h5⟩, hc, hr⟩ := (right_iff _).1 h
  have hs := sub_drop l k
  refine (right_iff _).2 ⟨⟨h1, h2, h3, h4, Nat.le_trans hs.length_le h5⟩, fun c hm => hc c (hs.subset hm), ?_⟩
  exact List.Pairwise.sublist (hs.map Ce.col) hr
theorem right_more {t q : Int} {l : List Ce} {k : Nat} (hk : k < l.length) : right ⟨t, q, l.take k ++ [l[k]] ++ l.drop k⟩ = false := by
  cases h : right ⟨t, q, l.take k ++ [l[k]] ++ l.drop k⟩ with
  | false => rfl
  | true =>
    obtain ⟨_, _, hr⟩ := (right_iff _).1 h
    have hkl : (l.take k).length = k := by simp; omega
    have e1 : ((l.take k ++ [l[k]] ++ l.drop k).map Ce.col)[k]? = some l[k].col := by
      rw [List.getElem?_map, List.append_assoc, List.getElem?_append_right (by omega), hkl, Nat.sub_self]
      rfl
    have e2 : ((l.take k ++ [l[k]] ++ l.drop k).map Ce.col)[k + 1]? = some l[k].col := by
      rw [List.getElem?_map, List.getElem?_append_right (by simp; omega)]
      have e3 : k + 1 - (l.take k ++ [l[k]]).length = 0 := by simp; omega
      rw [e3, List.getElem?_drop, Nat.add_zero, List.getElem?_eq_getElem hk]
      rfl
    have := T.rise_at hr e1 e2 (by omega)
    rw [T.lt_irrefl] at this
    cases this
theorem cell_less {t q : Int} {l : List Ce} (h : right ⟨t, q, l⟩ = true) {k : Nat} (hk : k < l.length) : cell (l.take k ++ l.drop (k + 1)) l[k].col = none_ := by
  obtain ⟨_, _, hr⟩ := (right_iff _).1 h
  refine cell_out fun c hm e => ?_
  have hat : (l.map Ce.col)[k]? = some l[k].col := by rw [List.getElem?_map, List.getElem?_eq_getElem hk]; rfl
  have hany : ∀ i, i < l.length → i ≠ k → ∀ c, l[i]? = some c → c.col ≠ l[k].col := fun i hi hne c hc e => by
    have h2 : (l.map Ce.col)[i]? = some l[k].col := by rw [List.getElem?_map, hc, ← e]; rfl
    exact hne (T.rise_inj hr h2 hat)
  rcases List.mem_append.1 hm with hm | hm
  · obtain ⟨i, hi⟩ := List.getElem?_of_mem hm
    have hik : i < k := by have := (List.getElem?_eq_some_iff.1 hi).1; simp at this; omega
    rw [List.getElem?_take_of_lt hik] at hi
    exact hany i (by omega) (by omega) c hi e
  · obtain ⟨i, hi⟩ := List.getElem?_of_mem hm
    rw [List.getElem?_drop] at hi
    exact hany (k + 1 + i) (List.getElem?_eq_some_iff.1 hi).1 (by omega) c hi e
theorem short_one (r : Rw) : short [r] 1 = [shr r] := rfl
theorem shr_len (r : Rw) : (shr r).c.length ≤ 10 := by simp [shr]; omega
theorem shr_ok {r : Rw} (h : RowOk r) : RwOk (shr r) := by
  refine ⟨h.1, h.2.1, fun c hc => ?_⟩
  simp only [shr, List.mem_map] at hc
  obtain ⟨d, hd, rfl⟩ := hc
  have hk := h.2.2 d (List.mem_of_mem_take hd)
  simp only [shc, List.length_take, maxLen]
  exact ⟨by omega, by omega, hk.2.1, hk.2.2.1⟩
theorem shr_small (r : Rw) : ∀ c ∈ (shr r).c, c.col.length ≤ 20 ∧ c.s.length ≤ 41 := by
  intro c hc
  simp only [shr, List.mem_map] at hc
  obtain ⟨d, hd, rfl⟩ := hc
  simp only [shc, List.length_take]
  omega
end Rw
end Go.Proofs.Ytghnbohplonhoaa
