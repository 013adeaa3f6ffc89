/-
  Plain: what Build answers of few cells: short texts, numbers of 64 bits.
-/
import Derived.Test.YtnfbmffafclaaaaKnown
import Derived.Test.YtnfbmffafclaaaaOpens
namespace Go.Proofs.Ytnfbmffafclaaaa
open Go.RowKit
set_option linter.unusedVariables false
set_option linter.unusedSimpArgs false
theorem Z.fold_text {k : Int} {B : Nat} : ∀ (l : List Cel) (p : Zn × Bool), p.1.ms.length ≤ B → p.1.xs.length ≤ B → (∀ c ∈ l, c.s.length ≤ B) → (l.foldl (Z.step k) p).1.ms.length ≤ B ∧ (l.foldl (Z.step k) p).1.xs.length ≤ B
  | [], p, h1, h2, _ => ⟨h1, h2⟩
  | c :: l, p, h1, h2, h3 => by
    have hc := h3 c (by simp)
    refine Z.fold_text l (Z.step k p c) ?_ ?_ (fun d hd => h3 d (by simp [hd]))
    · unfold Z.step
      split
      · exact h1
      · split
        · exact h1
        · split
          · simp only; split <;> assumption
          · exact h1
    · unfold Z.step
      split
      · exact h2
      · split
        · exact h2
        · split
          · simp only; split <;> assumption
          · exact h2
theorem Z.fold_num {k : Int} : ∀ (l : List Cel) (p : Zn × Bool), In64 p.1.mn → In64 p.1.mx → (∀ c ∈ l, In64 c.n) → In64 (l.foldl (Z.step k) p).1.mn ∧ In64 (l.foldl (Z.step k) p).1.mx
  | [], p, h1, h2, _ => ⟨h1, h2⟩
  | c :: l, p, h1, h2, h3 => by
    have hc := h3 c (by simp)
    refine Z.fold_num l (Z.step k p c) ?_ ?_ (fun d hd => h3 d (by simp [hd]))
    · unfold Z.step
      split
      · exact h1
      · split
        · simp only; split <;> assumption
        · split <;> exact h1
    · unfold Z.step
      split
      · exact h2
      · split
        · simp only; split <;> assumption
        · split <;> exact h2
/-- What Build answers of few cells. -/
theorem Z.build_few (k : Int) {l : List Cel} (h : ∀ c ∈ l, CelOk c) : (Z.build k (Z.few l)).ms.length ≤ 41 ∧ (Z.build k (Z.few l)).xs.length ≤ 41 ∧ In64 (Z.build k (Z.few l)).mn ∧ In64 (Z.build k (Z.few l)).mx := by
  have h1 := Z.fold_text (k := k) (B := 41) (Z.few l) (⟨k, (Z.few l).length, 0, 0, 0, [], []⟩, true) (by simp) (by simp) (fun c hc => Z.few_text c hc)
  have h2 := Z.fold_num (k := k) (Z.few l) (⟨k, (Z.few l).length, 0, 0, 0, [], []⟩, true) ⟨by simp, by simp⟩ ⟨by simp, by simp⟩ (fun c hc => by
    obtain ⟨d, hd, rfl⟩ := List.mem_map.1 hc
    exact (h d (List.mem_of_mem_take hd)).2.2.1)
  exact ⟨h1.1, h1.2, h2.1, h2.2⟩
end Go.Proofs.Ytnfbmffafclaaaa
