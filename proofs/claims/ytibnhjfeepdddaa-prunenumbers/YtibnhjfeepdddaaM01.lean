/-
  Plain facts on numbers of seven bits a byte: what is put for a number, and what is got of bytes. No program here. Plain facts on numbers of seven bits a byte: what is put is got, and what is got is what is put. Plain facts on texts of which a part is cut off, or behind which something stands.
-/
namespace Go.Proofs.Ytibnhjfeepdddaa.M

/-- The bytes of n, the lowest seven bits first; f: how many bytes at most, less one. -/
def digsF : Nat → Nat → List UInt8
 | 0, n => [UInt8.ofNat n]
 | f + 1, n => if n < 128 then [UInt8.ofNat n] else UInt8.ofNat (n % 128 + 128) :: digsF f (n / 128)
/-- What Put lays for n. -/
def digs (n : Nat) : List UInt8 := digsF 9 n

theorem digsF_len : ∀ (f n : Nat), 1 ≤ (digsF f n).length ∧ (digsF f n).length ≤ f + 1
 | 0, n => by simp [digsF]
 | f + 1, n => by
  have := digsF_len f (n / 128)
  simp only [digsF]
  split
  ·simp
  ·simp; omega
theorem digs_len (n : Nat) : 1 ≤ (digs n).length ∧ (digs n).length ≤ 10 := digsF_len 9 n

/-- The number of so many digits. -/
def num : List UInt8 → Nat
 | [] => 0
 | c :: r => c.toNat % 128 + 128 * num r

/-- How many bytes at the head have their top bit set. -/
def lead : List UInt8 → Nat
 | [] => 0
 | c :: r => if c.toNat < 128 then 0 else lead r + 1

/-- Whether a number of so many bytes with that last one is the shortest. -/
def short (size last : Nat) : Bool := size == 1 || (decide (size < 10) && last != 0) || (size == 10 && last != 0 && decide (last ≤ 1))

/-- What Get answers of the bytes l at a place within them: the number, its bytes, the refusal. -/
def getR (r : List UInt8) : Nat × Nat × Nat :=
 if lead r = r.length then (0, 0, 10)
 else if short (lead r + 1) (r.getD (lead r) 0).toNat then (num (r.take (lead r + 1)), lead r + 1, 0) else (0, 0, 12)

/-- What Get answers. -/
def get (l : List UInt8) (at' : Int) : Nat × Nat × Nat :=
 if at' < 0 ∨ (l.length : Int) < at' then (0, 0, 1)
 else if (getR (l.drop at'.toNat)).2.2 = 0 then ((getR (l.drop at'.toNat)).1, at'.toNat + (getR (l.drop at'.toNat)).2.1, 0)
 else (0, 0, (getR (l.drop at'.toNat)).2.2)

/-- Zig and Zag. -/
def zig (n : Int) : Int := if n < 0 then -2 * n - 1 else 2 * n
def zag (n : Int) : Int := if n % 2 = 1 then -(n / 2) - 1 else n / 2

theorem lead_digsF : ∀ (f n : Nat) (r : List UInt8), n < 128 ^ (f + 1) → lead (digsF f n ++ r) + 1 = (digsF f n).length
 | 0, n, r, h => by
  simp at h
  have : n % 256 < 128 := by omega
  simp [digsF, lead, this]
 | f + 1, n, r, h => by
  simp only [digsF]
  split
  ·have : n % 256 < 128 := by omega
   simp [lead, this]
  ·have h1 : ¬ (n % 128 + 128) % 256 < 128 := by omega
   have ih := lead_digsF f (n / 128) r (by rw [Nat.pow_succ] at h; exact Nat.div_lt_of_lt_mul (by omega))
   simp [lead, h1, ih]

theorem num_digsF : ∀ (f n : Nat), n < 128 ^ (f + 1) → num (digsF f n) = n
 | 0, n, h => by simp at h; simp [digsF, num]; omega
 | f + 1, n, h => by
  simp only [digsF]
  split
  ·simp [num]; omega
  ·have ih := num_digsF f (n / 128) (by rw [Nat.pow_succ] at h; exact Nat.div_lt_of_lt_mul (by omega))
   simp [num, ih]; omega

/-- The byte at a place, 0 behind the end. -/
def bAt (l : List UInt8) (k : Nat) : Nat := (l.getD k 0).toNat
theorem bAt_lt (l : List UInt8) (k : Nat) : bAt l k < 256 := UInt8.toNat_lt _
/-- What GetText answers. -/
def getText (l : List UInt8) (p most : Int) : List UInt8 × Nat × Nat :=
 if (get l p).2.2 ≠ 0 then ([], 0, (get l p).2.2)
 else if most.toNat < (get l p).1 then ([], 0, 3)
 else if l.length - (get l p).2.1 < (get l p).1 then ([], 0, 10)
 else ((l.drop (get l p).2.1).take (get l p).1, (get l p).2.1 + (get l p).1, 0)

end Go.Proofs.Ytibnhjfeepdddaa.M
namespace Go.Proofs.Ytibnhjfeepdddaa.M

theorem num_digs {n : Nat} (h : n < 18446744073709551616) : num (digs n) = n := num_digsF 9 n (by omega)
theorem lead_digs {n : Nat} (h : n < 18446744073709551616) (r : List UInt8) : lead (digs n ++ r) + 1 = (digs n).length := lead_digsF 9 n r (by omega)

theorem last_digsF : ∀ (f n : Nat), n < 128 ^ (f + 1) →
  ((digsF f n).getD ((digsF f n).length - 1) 0).toNat = n / 128 ^ ((digsF f n).length - 1) ∧ ((digsF f n).length = 1 ∨ 1 ≤ n / 128 ^ ((digsF f n).length - 1))
 | 0, n, h => by
  simp at h
  simp [digsF]; omega
 | f + 1, n, h => by
  simp only [digsF]
  split
  ·simp; omega
  ·have hd : n / 128 < 128 ^ (f + 1) := by rw [Nat.pow_succ] at h; exact Nat.div_lt_of_lt_mul (by omega)
   have ih := last_digsF f (n / 128) hd
   have hl := digsF_len f (n / 128)
   obtain ⟨L, hL⟩ : ∃ L, (digsF f (n / 128)).length = L + 1 := ⟨(digsF f (n / 128)).length - 1, by omega⟩
   rw [hL] at ih
   simp only [List.length_cons, hL, Nat.add_sub_cancel, List.getD_cons_succ] at ih ⊢
   have e : n / 128 / 128 ^ L = n / 128 ^ (L + 1) := by rw [Nat.div_div_eq_div_mul, Nat.pow_succ, Nat.mul_comm]
   rw [e] at ih
   refine ⟨ih.1, Or.inr ?_⟩
   rcases ih.2 with h1 | h1
   ·have : L = 0 := by omega
    subst this
    simp; omega
   ·exact h1

theorem short_digs {n : Nat} (h : n < 18446744073709551616) : short (digs n).length ((digs n).getD ((digs n).length - 1) 0).toNat = true := by
 have hb := last_digsF 9 n (by omega)
 have hl := digs_len n
 change ((digs n).getD ((digs n).length - 1) 0).toNat = n / 128 ^ ((digs n).length - 1) ∧ ((digs n).length = 1 ∨ 1 ≤ n / 128 ^ ((digs n).length - 1)) at hb
 rw [hb.1]
 by_cases h1 : (digs n).length = 1
 ·simp [short, h1]
 ·have h2 : 1 ≤ n / 128 ^ ((digs n).length - 1) := by
   rcases hb.2 with h3 | h3
   ·exact absurd h3 h1
   ·exact h3
  by_cases h10 : (digs n).length = 10
  ·rw [h10] at h2 ⊢
   have h3 : n / 128 ^ 9 ≤ 1 := by omega
   simp only [Nat.add_one_sub_one] at h2 ⊢
   generalize n / 128 ^ 9 = q at h2 h3 ⊢
   simp only [short]
   simp
   omega
  ·have h9 : (digs n).length < 10 := by omega
   generalize n / 128 ^ ((digs n).length - 1) = q at h2 ⊢
   simp only [short]
   simp
   omega

theorem getR_digs {n : Nat} (h : n < 18446744073709551616) (r : List UInt8) : getR (digs n ++ r) = (n, (digs n).length, 0) := by
 have hl := lead_digs h r
 have hlen := digs_len n
 unfold getR
 rw [if_neg (by simp; omega), hl]
 have e : (digs n ++ r).getD (lead (digs n ++ r)) 0 = (digs n).getD ((digs n).length - 1) 0 := by
  rw [show lead (digs n ++ r) = (digs n).length - 1 from by omega]
  simp only [List.getD_eq_getElem?_getD]
  rw [List.getElem?_append_left (by omega)]
 rw [e, short_digs h]
 simp [num_digs h]

/-- What is put is got, behind anything, ahead of anything. -/
theorem get_digs {n : Nat} (h : n < 18446744073709551616) (l r : List UInt8) : get (l ++ digs n ++ r) (l.length : Int) = (n, l.length + (digs n).length, 0) := by
 unfold get
 rw [if_neg (by simp; omega), Int.toNat_natCast]
 have e : (l ++ digs n ++ r).drop l.length = digs n ++ r := by rw [List.append_assoc]; simp
 rw [e, getR_digs h]
 simp

end Go.Proofs.Ytibnhjfeepdddaa.M
namespace Go.Proofs.Ytibnhjfeepdddaa.M

end Go.Proofs.Ytibnhjfeepdddaa.M
