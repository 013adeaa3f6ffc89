/-
  Plain facts on normal predicates: how deep they are, what is in them, what is told of them. No program here.
-/
import Derived.Test.YtbdjccmlgdfapaaKflat
import Derived.Test.YtbdjccmlgdfapaaKshort
namespace Go.Proofs.Ytbdjccmlgdfapaa
set_option linter.unusedVariables false
set_option linter.unusedSimpArgs false
namespace Pd
/-- Each head is one that the callees bear. -/
def Hds : Pr → Prop := rec' fun h _ a => HdFit h ∧ ∀ x ∈ a, x
theorem hds_mk (h : Hd) (l : List Pr) : Hds (Pr.mk' h l) ↔ HdFit h ∧ ∀ x ∈ l, Hds x := by
  rw [Hds, rec_mk]
  constructor
  · rintro ⟨h1, h2⟩
    exact ⟨h1, fun x hx => h2 _ (List.mem_map.2 ⟨x, hx, rfl⟩)⟩
  · rintro ⟨h1, h2⟩
    refine ⟨h1, fun x hx => ?_⟩
    obtain ⟨y, hy, rfl⟩ := List.mem_map.1 hx
    exact h2 y hy
theorem hds_of : ∀ p, Fine p → Hds p := by
  refine tree ?_
  intro h l ih hf
  rw [fine_mk] at hf
  rw [hds_mk]
  exact ⟨hf.1, fun x hx => ih x hx (hf.2.2 x hx)⟩
theorem fine_of : ∀ p, Hds p → size p ≤ 1000 → Fine p := by
  refine tree ?_
  intro h l ih hd hs
  rw [hds_mk] at hd
  rw [size_mk] at hs
  rw [fine_mk]
  have hl := sum_len l
  exact ⟨hd.1, by omega, fun x hx => ih x hx (hd.2 x hx) (by have := size_in hx; omega)⟩
theorem hdfit_hk {k : Int} (h : In64 k) : HdFit (hk k) := ⟨h, ⟨by simp [hk], by simp [hk]⟩, ⟨by simp [hk], by simp [hk]⟩, by simp [hk], by simp [hk], by simp [hk], by simp [hk]⟩
theorem hds_nrm : ∀ p, form p = true → Hds p → ∀ b, Hds (nrm p b) := by
  refine tree ?_
  intro h l ih hf hd b
  rw [form_mk, Bool.and_eq_true, List.all_eq_true] at hf
  obtain ⟨hp, hl⟩ := hf
  have hd0 := hd
  rw [hds_mk] at hd
  rw [nrm_mk]
  split
  · rename_i h3
    obtain ⟨_, h1⟩ := part_not h3 hp
    obtain ⟨x, rfl⟩ := one_of h1
    exact ih x (by simp) (hl x (by simp)) (hd.2 x (by simp)) _
  split
  · rename_i h3 h12
    have ht : In64 (turn h.k b) := by unfold turn In64; split <;> omega
    have hall : ∀ y ∈ (l.flatMap fun x => put (turn h.k b) (nrm x b)), Hds y := by
      intro y hy
      obtain ⟨x, hx, hy⟩ := List.mem_flatMap.1 hy
      have hx' := ih x hx (hl x hx) (hd.2 x hx) b
      unfold put at hy
      split at hy
      · rw [← mk_ks (nrm x b), hds_mk] at hx'
        exact hx'.2 y hy
      · simp at hy; rw [hy]; exact hx'
    unfold one
    split
    · rename_i h1
      obtain ⟨x, hx⟩ := one_of h1
      rw [hx]
      exact hall x (by rw [hx]; simp)
    · rw [hds_mk]
      exact ⟨hdfit_hk ht, hall⟩
  · split
    · rw [hds_mk]
      exact ⟨hdfit_hk ⟨by decide, by decide⟩, by simpa using hd0⟩
    · exact hd0
theorem deep_put {k : Int} {p y : Pr} (h : y ∈ put k p) : deep y ≤ deep p := by
  unfold put at h
  split at h
  · have h1 := deep_in h
    conv => rhs; rw [← mk_ks p, deep_mk]
    omega
  · simp at h; rw [h]; exact Nat.le_refl _
theorem deep_nrm : ∀ p, form p = true → ∀ b, deep (nrm p b) ≤ deep p + 1 := by
  refine tree ?_
  intro h l ih hf b
  rw [form_mk, Bool.and_eq_true, List.all_eq_true] at hf
  obtain ⟨hp, hl⟩ := hf
  rw [nrm_mk, deep_mk]
  split
  · rename_i h3
    obtain ⟨_, h1⟩ := part_not h3 hp
    obtain ⟨x, rfl⟩ := one_of h1
    have := ih x (by simp) (hl x (by simp)) (!b)
    show deep (nrm x (!b)) ≤ _
    simp
    omega
  split
  · have hall : ∀ y ∈ (l.flatMap fun x => put (turn h.k b) (nrm x b)), deep y ≤ (l.map deep).foldr max 0 + 1 := by
      intro y hy
      obtain ⟨x, hx, hy⟩ := List.mem_flatMap.1 hy
      have h1 := deep_put hy
      have h2 := ih x hx (hl x hx) b
      have h3 := deep_in hx
      omega
    unfold one
    split
    · rename_i h1
      obtain ⟨x, hx⟩ := one_of h1
      rw [hx]
      have := hall x (by rw [hx]; simp)
      show deep x ≤ _
      omega
    · rw [deep_mk]
      have : ((l.flatMap fun x => put (turn h.k b) (nrm x b)).map deep).foldr max 0 ≤ (l.map deep).foldr max 0 + 1 := by
        refine foldr_le fun z hz => ?_
        obtain ⟨y, hy, rfl⟩ := List.mem_map.1 hz
        exact hall y hy
      omega
  · split
    · rw [deep_mk]
      simp only [List.map_cons, List.map_nil, List.foldr_cons, List.foldr_nil]
      rw [deep_mk]
      omega
    · rw [deep_mk]
      omega
/-- What a normal one is. -/
theorem nrm_ok {p : Pr} (hr : right p = true) (hF : Fine p) (b : Bool) : Fine (nrm p b) ∧ fit (nrm p b) 50 5000 = true ∧ flat (nrm p b) 0 = true := by
  obtain ⟨hf, hs, hd⟩ := form_fit hr
  have h1 := size_nrm p hf b
  have h2 := deep_nrm p hf b
  exact ⟨fine_of _ (hds_nrm p hf (hds_of p hF) b) (by omega), fit_of (by omega) (by omega), flat_nrm p hf b⟩
theorem normal_twice {p : Pr} (hr : right p = true) (hF : Fine p) : normalB (nrm p false) = nrm p false := by
  obtain ⟨_, h2, h3⟩ := nrm_ok hr hF false
  unfold normalB
  split
  · rename_i h
    exact nrm_flat _ (form_fit h).1 0 h3
  · first | rfl | rw [if_pos h2]
theorem nrm_nt (p : Pr) : nrm (nt p) false = nrm p true := by
  unfold nt
  rw [nrm_mk]
  rfl
/-- Not of a predicate, normal. -/
theorem nt_ok {p : Pr} (hr : right p = true) (hF : Fine p) (hd : deep p ≤ 40) (hs : size p ≤ 4000) (r : Rw) : Fine (normalB (nt p)) ∧ fit (normalB (nt p)) 50 5000 = true ∧ ev r (normalB (nt p)) = !ev r p ∧ (right (nt p) = true → flat (normalB (nt p)) 0 = true) := by
  have hf : fit (nt p) 50 5000 = true := fit_of (by rw [deep_nt]; omega) (by rw [size_nt]; omega)
  unfold normalB
  by_cases h : right (nt p) = true
  · rw [if_pos h, nrm_nt]
    obtain ⟨h1, h2, h3⟩ := nrm_ok hr hF true
    refine ⟨h1, h2, ?_, fun _ => h3⟩
    rw [ev_nrm r p (form_fit hr).1 true]
    cases ev r p <;> rfl
  · rw [if_neg h, if_pos hf]
    exact ⟨fine_nt hF, hf, ev_nt r p, fun h' => absurd h' h⟩
theorem most5 : most 5 = 1365 := rfl
end Pd
theorem shr_ok {r : Rw} (h : RowOk r) : RwOk (Rw.shr r) := by
  refine ⟨h.1, h.2.1, fun c hc => ?_⟩
  simp only [Rw.shr, List.mem_map] at hc
  obtain ⟨d, hd, rfl⟩ := hc
  have hd := h.2.2 d (List.mem_of_mem_take hd)
  obtain ⟨h1, h2, h3, h4⟩ := hd
  refine ⟨?_, ?_, h2, h3⟩
  · simp [Rw.shc]; omega
  · simp [Rw.shc]; omega
end Go.Proofs.Ytbdjccmlgdfapaa
