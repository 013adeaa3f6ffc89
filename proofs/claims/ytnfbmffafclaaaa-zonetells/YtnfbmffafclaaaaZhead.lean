/-
  Plain: what the landed Decode reads piece by piece: three numbers, two numbers, two texts; how Decode's answer is made of them. No program here.
-/
import Derived.Test.YtnfbmffafclaaaaZdec
import Derived.Test.YtnfbmffafclaaaaHeads
namespace Go.Proofs.Ytnfbmffafclaaaa.Z
set_option linter.unusedSimpArgs false
def hd2 (L : List Nat) (k : Int) : Zn × Nat × Nat :=
  if head (L.getD 0 0) (L.getD 1 0) (L.getD 2 0) = false then (zero, 0, 12) else (⟨L.getD 0 0, L.getD 1 0, L.getD 2 0, 0, 0, [], []⟩, k.toNat, 0)
def hd1 (b : List UInt8) : Nat → List Nat → Int → Zn × Nat × Nat
  | 0, L, k => hd2 L k
  | n + 1, L, k => if (M.get b k).2.2 ≠ 0 then (zero, 0, (M.get b k).2.2) else hd1 b n (L ++ [(M.get b k).1]) (M.get b k).2.1
theorem hd1_bad {b : List UInt8} {n : Nat} {L : List Nat} {k : Int} (h : (M.get b k).2.2 ≠ 0) : hd1 b (n + 1) L k = (zero, 0, (M.get b k).2.2) := by rw [hd1, if_pos h]
theorem hd1_step {b : List UInt8} {n : Nat} {L : List Nat} {k : Int} (h : (M.get b k).2.2 = 0) : hd1 b (n + 1) L k = hd1 b n (L ++ [(M.get b k).1]) (M.get b k).2.1 := by rw [hd1, if_neg (by simp [h])]
theorem head_nat (x y z : Nat) : (head x y z = false) ↔ ((x ≠ 1 ∧ x ≠ 2) ∨ 1048576 < y ∨ y < z) := by
  have h : head x y z = true ↔ ¬ ((x ≠ 1 ∧ x ≠ 2) ∨ 1048576 < y ∨ y < z) := by
    simp only [head, Bool.and_eq_true, decide_eq_true_eq]; omega
  constructor
  · intro hf
    by_cases hc : (x ≠ 1 ∧ x ≠ 2) ∨ 1048576 < y ∨ y < z
    · exact hc
    · rw [h.2 hc] at hf; cases hf
  · intro hc
    cases hf : head x y z with
    | false => rfl
    | true => exact absurd hc (h.1 hf)
theorem dec1_hd (b : List UInt8) : ∀ (n : Nat) (L : List Nat) (k : Int), 0 ≤ k ∨ 0 < n → dec1 b n L k = if (hd1 b n L k).2.2 ≠ 0 then (zero, 0, (hd1 b n L k).2.2) else dec3 b 2 (hd1 b n L k).1 (hd1 b n L k).2.1
  | 0, L, k, h => by
    have hk : 0 ≤ k := by omega
    rw [dec1, hd1, dec2, hd2]
    by_cases hc : (L.getD 0 0 ≠ 1 ∧ L.getD 0 0 ≠ 2) ∨ 1048576 < L.getD 1 0 ∨ L.getD 1 0 < L.getD 2 0
    · rw [if_pos hc, if_pos ((head_nat _ _ _).2 hc)]; rfl
    · rw [if_neg hc, if_neg (fun h => hc ((head_nat _ _ _).1 h)), if_neg (by simp)]
      simp only
      rw [Int.toNat_of_nonneg hk]
  | n + 1, L, k, h => by
    by_cases he : (M.get b k).2.2 ≠ 0
    · rw [dec1_bad he, hd1_bad he, if_pos he]
    · have he' : (M.get b k).2.2 = 0 := by simpa using he
      rw [dec1_step he', hd1_step he']
      exact dec1_hd b n _ _ (Or.inl (by omega))
theorem hd1_ok (b : List UInt8) : ∀ (n : Nat) (L : List Nat) (k : Int) (z : Zn) (k2 : Nat), hd1 b n L k = (z, k2, 0) → ∃ n0 n1 n2 : Nat, z = ⟨n0, n1, n2, 0, 0, [], []⟩ ∧ (n0 = 1 ∨ n0 = 2) ∧ n1 ≤ 1048576 ∧ n2 ≤ n1
  | 0, L, k, z, k2, h => by
    rw [hd1, hd2] at h
    split at h
    · simp at h
    · rename_i hc
      simp only [Prod.mk.injEq] at h
      have hn : ¬ ((L.getD 0 0 ≠ 1 ∧ L.getD 0 0 ≠ 2) ∨ 1048576 < L.getD 1 0 ∨ L.getD 1 0 < L.getD 2 0) := fun q => hc ((head_nat _ _ _).2 q)
      exact ⟨_, _, _, h.1.symm, by omega, by omega, by omega⟩
  | n + 1, L, k, z, k2, h => by
    by_cases he : (M.get b k).2.2 ≠ 0
    · rw [hd1_bad he] at h
      simp only [Prod.mk.injEq] at h
      exact absurd h.2.2 he
    · have he' : (M.get b k).2.2 = 0 := by simpa using he
      rw [hd1_step he'] at h
      exact hd1_ok b n _ _ z k2 h
/-- Two numbers. -/
def gn (b : List UInt8) (k : Int) : Int × Int × Nat × Nat :=
  if (M.get b k).2.2 ≠ 0 then (0, 0, 0, (M.get b k).2.2) else if (M.get b (M.get b k).2.1).2.2 ≠ 0 then (0, 0, 0, (M.get b (M.get b k).2.1).2.2) else (M.zag (M.get b k).1, M.zag (M.get b (M.get b k).2.1).1, (M.get b (M.get b k).2.1).2.1, 0)
/-- Two texts. -/
def gt (b : List UInt8) (k : Int) : List UInt8 × List UInt8 × Nat × Nat :=
  if (M.getText b k 40).2.2 ≠ 0 then ([], [], 0, (M.getText b k 40).2.2) else if (M.getText b (M.getText b k 40).2.1 40).2.2 ≠ 0 then ([], [], 0, (M.getText b (M.getText b k 40).2.1 40).2.2) else ((M.getText b k 40).1, (M.getText b (M.getText b k 40).2.1 40).1, (M.getText b (M.getText b k 40).2.1 40).2.1, 0)
theorem right_bare {n0 n1 n2 : Nat} (h0 : n0 = 1 ∨ n0 = 2) (h1 : n1 ≤ 1048576) (h2 : n2 = n1) : right ⟨n0, n1, n2, 0, 0, [], []⟩ = true := by
  subst h2
  simp [right, shape, nums, texts]
  omega
theorem dec3_none {b : List UInt8} {n0 n1 n2 k : Nat} (h0 : n0 = 1 ∨ n0 = 2) (h1 : n1 ≤ 1048576) (h2 : n2 = n1) : dec3 b 2 ⟨n0, n1, n2, 0, 0, [], []⟩ k = (⟨n0, n1, n2, 0, 0, [], []⟩, k, 0) := by
  rw [dec3, if_pos (by simp; omega), fin, if_pos (right_bare h0 h1 h2)]
  simp
theorem dec3_nums {b : List UInt8} {n1 n2 : Nat} {k : Int} (h : n2 < n1) : dec3 b 2 ⟨(1 : Nat), n1, n2, 0, 0, [], []⟩ k = if (gn b k).2.2.2 ≠ 0 then (zero, 0, (gn b k).2.2.2) else fin ⟨(1 : Nat), n1, n2, (gn b k).1, (gn b k).2.1, [], []⟩ (gn b k).2.2.1 := by
  have hi : ∀ k, it b ((1 : Nat) : Int) k = ((M.get b k).1, [], (M.get b k).2.1, (M.get b k).2.2) := fun k => by rw [it, if_pos (by omega)]
  have hlt : ¬ ((n1 : Int) ≤ (n2 : Int)) := by omega
  rw [dec3]
  simp only [hi, if_neg hlt]
  unfold gn
  by_cases he : (M.get b k).2.2 ≠ 0
  · simp only [if_pos he]
  · simp only [if_neg he, if_true]
    rw [dec3]
    simp only [hi, if_neg hlt]
    by_cases he2 : (M.get b (M.get b k).2.1).2.2 ≠ 0
    · simp only [if_pos he2]
    · simp only [if_neg he2, dec3]
      simp
theorem dec3_texts {b : List UInt8} {n1 n2 : Nat} {k : Int} (h : n2 < n1) : dec3 b 2 ⟨(2 : Nat), n1, n2, 0, 0, [], []⟩ k = if (gt b k).2.2.2 ≠ 0 then (zero, 0, (gt b k).2.2.2) else fin ⟨(2 : Nat), n1, n2, 0, 0, (gt b k).1, (gt b k).2.1⟩ (gt b k).2.2.1 := by
  have hi : ∀ k, it b ((2 : Nat) : Int) k = (0, (M.getText b k 40).1, (M.getText b k 40).2.1, (M.getText b k 40).2.2) := fun k => by rw [it, if_neg (by omega)]
  have hz : M.zag ((0 : Nat) : Int) = 0 := by simp [M.zag]
  have hlt : ¬ ((n1 : Int) ≤ (n2 : Int)) := by omega
  rw [dec3]
  simp only [hi, if_neg hlt]
  unfold gt
  by_cases he : (M.getText b k 40).2.2 ≠ 0
  · simp only [if_pos he]
  · simp only [if_neg he, if_true]
    rw [dec3]
    simp only [hi, if_neg hlt]
    by_cases he2 : (M.getText b (M.getText b k 40).2.1 40).2.2 ≠ 0
    · simp only [if_pos he2]
    · simp only [if_neg he2, dec3, hz]
      simp
theorem getText_len (b : List UInt8) (k : Int) : (M.getText b k 40).1.length ≤ 40 := by
  have h := @it_text b 2 k
  rw [it, if_neg (by omega)] at h
  exact h
theorem gt_len (b : List UInt8) (k : Int) : (gt b k).1.length ≤ 40 ∧ (gt b k).2.1.length ≤ 40 := by
  unfold gt
  split
  · simp
  · split
    · simp
    · exact ⟨getText_len _ _, getText_len _ _⟩
end Go.Proofs.Ytnfbmffafclaaaa.Z
