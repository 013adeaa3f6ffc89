/-
  Plain facts: the last number and the last step, carried from number to number. No program here.
-/
import Derived.Test.YtaehchaimlklnaaDelta
namespace Go.Proofs.Ytaehchaimlklnaa.D

/-- The number ahead of place k, and the step to it. -/
def la (l : List Int) (k : Nat) : Int := if k = 0 then 0 else l.getD (k - 1) 0
def st (l : List Int) (k : Nat) : Int := if k ≤ 1 then 0 else wr (l.getD (k - 1) 0 - l.getD (k - 2) 0)
theorem la_zero (l : List Int) : la l 0 = 0 := rfl
theorem st_zero (l : List Int) : st l 0 = 0 := rfl
theorem la_succ (l : List Int) (k : Nat) : la l (k + 1) = l.getD k 0 := by simp [la]
theorem st_succ (l : List Int) (k : Nat) : st l (k + 1) = if k = 0 then 0 else wr (l.getD k 0 - la l k) := by
  unfold st la
  by_cases h : k = 0
  · subst h; simp
  · rw [if_neg (by omega), if_neg h, if_neg h]
    rfl
theorem df_carry {l : List Int} {k : Nat} (h : ok (l.getD k 0)) : df l k = wr (wr (l.getD k 0 - la l k) - st l k) := by
  unfold df la st
  by_cases h0 : k = 0
  · subst h0
    simp only [if_true, Nat.zero_le]
    unfold ok at h; unfold wr; omega
  · rw [if_neg h0, if_neg h0]
    by_cases h1 : k = 1
    · subst h1
      simp only [if_true, Nat.le_refl, Nat.sub_self]
      unfold wr; omega
    · rw [if_neg h1, if_neg (by omega)]
theorem nx_carry (o : List Int) {z : Int} (h : ok z) : nx o z = wr (wr (la o o.length + st o o.length) + z) := by
  unfold nx la st
  by_cases h0 : o.length = 0
  · rw [if_pos h0, if_pos h0, if_pos (by omega)]
    unfold ok at h; unfold wr; omega
  · rw [if_neg h0, if_neg h0]
    by_cases h1 : o.length = 1
    · rw [if_pos h1, if_pos (by omega), h1]
      simp only [Nat.sub_self]
      unfold wr; omega
    · rw [if_neg h1, if_neg (by omega)]
      unfold wr; omega
theorem la_snoc (o : List Int) (n : Int) : la (o ++ [n]) (o.length + 1) = n := by
  rw [la_succ]; simp
theorem la_front (o : List Int) (n : Int) : la (o ++ [n]) o.length = la o o.length := by
  unfold la
  by_cases h : o.length = 0
  · rw [if_pos h, if_pos h]
  · rw [if_neg h, if_neg h]
    have : o.length - 1 < o.length := by omega
    simp [List.getD_eq_getElem?_getD, List.getElem?_append_left this]
theorem st_snoc (o : List Int) (n : Int) : st (o ++ [n]) (o.length + 1) = if o.length = 0 then 0 else wr (n - la o o.length) := by
  rw [st_succ, la_front]; simp
end Go.Proofs.Ytaehchaimlklnaa.D
