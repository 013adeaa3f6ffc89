/-
  The document's own pred, whole.
-/
import Derived.Test.YtbdjccmlgdfapaaGreatGpl
import Derived.Test.YtbdjccmlgdfapaaGreatGpc
import Derived.Test.YtbdjccmlgdfapaaGreatGpd
import Derived.Test.YtbdjccmlgdfapaaGreatGpe
import Derived.Test.YtbdjccmlgdfapaaGreatGpg
import Derived.Test.YtbdjccmlgdfapaaGreatGpi
import Derived.Test.YtbdjccmlgdfapaaGreatGpj
namespace Go.Proofs.YtbdjccmlgdfapaaGreat
open Go.RowKit
set_option linter.unusedVariables false
set_option linter.unusedSimpArgs false
namespace Pd
theorem rdK_sz {R : Nat → Nat → Pr × Nat × Nat × Nat} (hR : ∀ k c, (R k c).2.2.2 = 0 → (R k c).2.2.1 = c + size (R k c).1) : ∀ n k c o, (rdK R n k c o).2.2.2 = 0 → (rdK R n k c o).2.2.1 + (o.map size).sum = c + ((rdK R n k c o).1.map size).sum
 | 0, k, c, o, _ => rfl
 | n + 1, k, c, o, h => by
  rw [rdK] at h ⊢
  by_cases e : (R k c).2.2.2 = 0
  ·rw [if_neg (by simpa using e)] at h ⊢
   have h1 := rdK_sz hR n _ _ _ h
   have h2 := hR k c e
   simp only [List.map_append, List.map_cons, List.map_nil, List.sum_append, List.sum_cons, List.sum_nil] at h1
   omega
  ·rw [if_pos e] at h
   exact absurd h e
theorem rd_sz {b : List UInt8} : ∀ f (k : Int) (c : Nat), (rd b f k c).2.2.2 = 0 → (rd b f k c).2.2.1 = c + size (rd b f k c).1
 | 0, k, c, h => by simp [rd] at h
 | f + 1, k, c, h => by
  rw [rd] at h ⊢
  split
  ·rename_i h1; rw [if_pos h1] at h; simp at h
  rename_i h1
  rw [if_neg h1] at h
  split
  ·rename_i h2; rw [if_pos h2] at h; exact absurd h h2
  rename_i h2
  rw [if_neg h2] at h
  split
  ·rename_i h3; rw [if_pos h3] at h; simp at h
  rename_i h3
  rw [if_neg h3] at h
  generalize rdH b (M.get b k).1 (M.get b k).2.1 = x at h ⊢
  unfold rd4 at h ⊢
  split
  ·rename_i h4; rw [if_pos h4] at h; exact absurd h h4
  rename_i h4
  rw [if_neg h4] at h
  split
  ·rename_i h5; rw [if_pos h5] at h; exact absurd h h5
  rename_i h5
  have h6 := rdK_sz (fun k c => rd_sz f k c) x.2.1 x.2.2.1 (c + 1) [] (by simpa using h5)
  simp only [List.map_nil, List.sum_nil] at h6
  rw [size_mk]
  simp only
  omega
end Pd
theorem rpred_is (b : List UInt8) : ∀ f, f ≤ 6 → RPartC b f
 | 0, _ => fun g a cap k c D w h hD hc => rpart_zero (f := 0) g a cap k c D w h (by simpa using hD) hc
 | f + 1, hf => by
  have ih := rpred_is b f (by omega)
  intro g a cap k c D w h hD hc
  have hD' : D + ((f : Int) + 1) = 7 := by omega
  by_cases hm : 40 < c + 1
  ·exact rpart_many g a cap k c D w h hD' hc hm
  obtain ⟨⟨K, k1, E⟩, hE⟩ : ∃ x, M.get b k = x := ⟨_, rfl⟩
  by_cases hE0 : E = 0
  ·subst hE0
   by_cases hK : K < 1 ∨ 10 < K
   ·exact rpart_nokind g a cap k c D w h hD' hc (by omega) K k1 hE hK
   have hc10 : K = 1 ∨ K = 2 ∨ K = 3 ∨ K = 4 ∨ K = 5 ∨ K = 6 ∨ K = 7 ∨ K = 8 ∨ K = 9 ∨ K = 10 := by omega
   rcases hc10 with rfl | rfl | rfl | rfl | rfl | rfl | rfl | rfl | rfl | rfl
   ·exact rpart_k1 ih (by omega) g a cap k c D w h hD' hc (by omega) k1 hE
   ·exact rpart_k2 ih (by omega) g a cap k c D w h hD' hc (by omega) k1 hE
   ·exact rpart_k3 ih (by omega) g a cap k c D w h hD' hc (by omega) k1 hE
   ·exact rpart_k4 g a cap k c D w h hD' hc (by omega) k1 hE
   ·exact rpart_k5 g a cap k c D w h hD' hc (by omega) k1 hE
   ·exact rpart_k6 g a cap k c D w h hD' hc (by omega) k1 hE
   ·exact rpart_k7 g a cap k c D w h hD' hc (by omega) k1 hE
   ·exact rpart_k8 g a cap k c D w h hD' hc (by omega) k1 hE
   ·exact rpart_k9 g a cap k c D w h hD' hc (by omega) k1 hE
   ·exact rpart_k10 g a cap k c D w h hD' hc (by omega) k1 hE
  ·exact rpart_nonum g a cap k c D w h hD' hc (by omega) E (by rw [hE]) hE0
end Go.Proofs.YtbdjccmlgdfapaaGreat
