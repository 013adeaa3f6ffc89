/-
  Plain facts on numbers of seven bits a byte: what is put for a number, and what is got of bytes. No program here. Plain facts on numbers of seven bits a byte: what is put is got, and what is got is what is put. Plain facts on texts of which a part is cut off, or behind which something stands. YtbdjccmlgdfapaaGreat facts on texts in order of their bytes, and on dictionaries: lists of unlike texts that rise. No program here. Plain facts on dictionaries as bytes: what is written, what is read. No program here.
-/
import GoSem.Op.String
namespace Go.Proofs.YtbdjccmlgdfapaaGreat.M

/-- The bytes of n, the lowest seven bits first; f: how many bytes at most, less one. -/
def digsF : Nat → Nat → List UInt8
 | 0, n => [UInt8.ofNat n]
 | f + 1, n => if n < 128 then [UInt8.ofNat n] else UInt8.ofNat (n % 128 + 128) :: digsF f (n / 128)
/-- What Put lays for n. -/
def digs (n : Nat) : List UInt8 := digsF 9 n

theorem digsF_eq : ∀ (f g n : Nat), n < 128 ^ (f + 1) → n < 128 ^ (g + 1) → digsF f n = digsF g n
 | 0, 0, _, _, _ => rfl
 | 0, g + 1, n, hf, _ => by simp at hf; simp [digsF, hf]
 | f + 1, 0, n, _, hg => by simp at hg; simp [digsF, hg]
 | f + 1, g + 1, n, hf, hg => by
  simp only [digsF]
  split
  ·rfl
  ·rw [digsF_eq f g (n / 128) (by rw [Nat.pow_succ] at hf; exact Nat.div_lt_of_lt_mul (by omega)) (by rw [Nat.pow_succ] at hg; exact Nat.div_lt_of_lt_mul (by omega))]

theorem digs_low {n : Nat} (h : n < 128) : digs n = [UInt8.ofNat n] := by simp [digs, digsF, h]
theorem digs_more {n : Nat} (h : 128 ≤ n) (h2 : n < 2 ^ 64) : digs n = UInt8.ofNat (n % 128 + 128) :: digs (n / 128) := by
 have h' : ¬ n < 128 := by omega
 show digsF (8 + 1) n = _
 rw [digsF, if_neg h']
 congr 1
 exact digsF_eq 8 9 (n / 128) (by omega) (by omega)

theorem digsF_len : ∀ (f n : Nat), 1 ≤ (digsF f n).length ∧ (digsF f n).length ≤ f + 1
 | 0, n => by simp [digsF]
 | f + 1, n => by
  have := digsF_len f (n / 128)
  simp only [digsF]
  split
  ·simp
  ·simp; omega
theorem digs_len (n : Nat) : 1 ≤ (digs n).length ∧ (digs n).length ≤ 10 := digsF_len 9 n

/-- The number of so many digits. -/
def num : List UInt8 → Nat
 | [] => 0
 | c :: r => c.toNat % 128 + 128 * num r

/-- How many bytes at the head have their top bit set. -/
def lead : List UInt8 → Nat
 | [] => 0
 | c :: r => if c.toNat < 128 then 0 else lead r + 1

theorem lead_le : ∀ l, lead l ≤ l.length
 | [] => by simp [lead]
 | c :: r => by have := lead_le r; simp only [lead]; split <;> simp <;> omega

/-- Whether a number of so many bytes with that last one is the shortest. -/
def short (size last : Nat) : Bool := size == 1 || (decide (size < 10) && last != 0) || (size == 10 && last != 0 && decide (last ≤ 1))

/-- What Get answers of the bytes l at a place within them: the number, its bytes, the refusal. -/
def getR (r : List UInt8) : Nat × Nat × Nat :=
 if lead r = r.length then (0, 0, 10)
 else if short (lead r + 1) (r.getD (lead r) 0).toNat then (num (r.take (lead r + 1)), lead r + 1, 0) else (0, 0, 12)

/-- What Get answers. -/
def get (l : List UInt8) (at' : Int) : Nat × Nat × Nat :=
 if at' < 0 ∨ (l.length : Int) < at' then (0, 0, 1)
 else if (getR (l.drop at'.toNat)).2.2 = 0 then ((getR (l.drop at'.toNat)).1, at'.toNat + (getR (l.drop at'.toNat)).2.1, 0)
 else (0, 0, (getR (l.drop at'.toNat)).2.2)

/-- Zig and Zag. -/
def zig (n : Int) : Int := if n < 0 then -2 * n - 1 else 2 * n
def zag (n : Int) : Int := if n % 2 = 1 then -(n / 2) - 1 else n / 2

theorem lead_digsF : ∀ (f n : Nat) (r : List UInt8), n < 128 ^ (f + 1) → lead (digsF f n ++ r) + 1 = (digsF f n).length
 | 0, n, r, h => by
  simp at h
  have : n % 256 < 128 := by omega
  simp [digsF, lead, this]
 | f + 1, n, r, h => by
  simp only [digsF]
  split
  ·have : n % 256 < 128 := by omega
   simp [lead, this]
  ·have h1 : ¬ (n % 128 + 128) % 256 < 128 := by omega
   have ih := lead_digsF f (n / 128) r (by rw [Nat.pow_succ] at h; exact Nat.div_lt_of_lt_mul (by omega))
   simp [lead, h1, ih]

theorem num_digsF : ∀ (f n : Nat), n < 128 ^ (f + 1) → num (digsF f n) = n
 | 0, n, h => by simp at h; simp [digsF, num]; omega
 | f + 1, n, h => by
  simp only [digsF]
  split
  ·simp [num]; omega
  ·have ih := num_digsF f (n / 128) (by rw [Nat.pow_succ] at h; exact Nat.div_lt_of_lt_mul (by omega))
   simp [num, ih]; omega

theorem num_lt : ∀ r : List UInt8, num r < 128 ^ r.length
 | [] => by simp [num]
 | c :: r => by
  have := num_lt r
  simp only [num, List.length_cons, Nat.pow_succ]
  have : c.toNat % 128 < 128 := Nat.mod_lt _ (by decide)
  omega
theorem num_append : ∀ a b : List UInt8, num (a ++ b) = num a + 128 ^ a.length * num b
 | [], b => by simp [num]
 | c :: r, b => by
  simp only [List.cons_append, num, num_append r b, List.length_cons, Nat.pow_succ]
  rw [Nat.mul_add, ← Nat.mul_assoc, Nat.mul_comm 128 (128 ^ r.length)]
  omega

/-- The byte at a place, 0 behind the end. -/
def bAt (l : List UInt8) (k : Nat) : Nat := (l.getD k 0).toNat
theorem bAt_lt (l : List UInt8) (k : Nat) : bAt l k < 256 := UInt8.toNat_lt _
theorem drop_at {l : List UInt8} {k : Nat} (h : k < l.length) : l.drop k = l.getD k 0 :: l.drop (k + 1) := by
 rw [List.drop_eq_getElem_cons h]; simp [h]

theorem lead_more {l : List UInt8} {k : Nat} (h : k < l.length) (hb : 128 ≤ bAt l k) : lead (l.drop k) = 1 + lead (l.drop (k + 1)) := by
 rw [drop_at h]
 unfold bAt at hb
 simp only [lead]
 rw [if_neg (by omega)]; omega
theorem lead_last {l : List UInt8} {k : Nat} (h : k < l.length) (hb : bAt l k < 128) : lead (l.drop k) = 0 := by
 rw [drop_at h]
 unfold bAt at hb
 simp only [lead]
 rw [if_pos hb]
theorem lead_end {l : List UInt8} {k : Nat} (h : l.length ≤ k) : lead (l.drop k) = 0 := by
 rw [List.drop_eq_nil_of_le h]; rfl

/-- The j bytes that end with the one at K. -/
def seg (l : List UInt8) (K j : Nat) : List UInt8 := (l.drop (K + 1 - j)).take j
theorem seg_zero (l : List UInt8) (K : Nat) : num (seg l K 0) = 0 := by simp [seg, num]
theorem seg_succ {l : List UInt8} {K j : Nat} (hj : j ≤ K) (hK : K < l.length) : num (seg l K (j + 1)) = bAt l (K - j) % 128 + 128 * num (seg l K j) := by
 unfold seg bAt
 rw [show K + 1 - (j + 1) = K - j from by omega, drop_at (show K - j < l.length by omega), show K - j + 1 = K + 1 - j from by omega]
 simp [num]
theorem seg_mono {l : List UInt8} {K : Nat} (hK : K < l.length) : ∀ (d j : Nat), j + d ≤ K + 1 → num (seg l K j) ≤ num (seg l K (j + d))
 | 0, j, _ => Nat.le_refl _
 | d + 1, j, h => by
  have h1 := seg_mono hK d j (by omega)
  have h2 := seg_succ (l := l) (K := K) (j := j + d) (by omega) hK
  rw [show j + (d + 1) = j + d + 1 from by omega, h2]
  omega
theorem seg_full {l : List UInt8} {K at' : Nat} (h : at' ≤ K) : seg l K (K + 1 - at') = (l.drop at').take (K + 1 - at') := by
 unfold seg; rw [show K + 1 - (K + 1 - at') = at' from by omega]
theorem short_bound {r : List UInt8} {k : Nat} (h : k < r.length) (hs : short (k + 1) (r.getD k 0).toNat = true) : num (r.take (k + 1)) < 18446744073709551616 := by
 have hk : k ≤ 9 := by
  simp [short] at hs; omega
 by_cases h9 : k = 9
 ·subst h9
  have ht : r.take (9 + 1) = r.take 9 ++ [r.getD 9 0] := by
   rw [List.take_succ_eq_append_getElem h]; simp [h]
  have hl : (r.getD 9 0).toNat ≤ 1 := by simp [short] at hs; simpa using hs.2
  rw [ht, num_append]
  have := num_lt (r.take 9)
  have hlen : (r.take 9).length = 9 := by simp; omega
  rw [hlen] at this ⊢
  simp only [num]
  omega
 ·have := num_lt (r.take (k + 1))
  have hlen : (r.take (k + 1)).length = k + 1 := by simp; omega
  rw [hlen] at this
  have : 128 ^ (k + 1) ≤ 128 ^ 9 := Nat.pow_le_pow_right (by decide) (by omega)
  omega

theorem get_out {l : List UInt8} {at' : Int} (h : at' < 0 ∨ (l.length : Int) < at') : get l at' = (0, 0, 1) := by unfold get; rw [if_pos h]
theorem getR_end {r : List UInt8} (h : lead r = r.length) : getR r = (0, 0, 10) := by unfold getR; rw [if_pos h]
theorem get_end {l : List UInt8} {a : Nat} (h : a ≤ l.length) (hl : lead (l.drop a) = l.length - a) : get l (a : Int) = (0, 0, 10) := by
 unfold get
 rw [if_neg (by omega), Int.toNat_natCast, getR_end (by simpa using hl)]
 rfl
theorem get_form {l : List UInt8} {a k : Nat} (h : a + k < l.length) (hl : lead (l.drop a) = k) (hs : short (k + 1) (bAt l (a + k)) = false) : get l (a : Int) = (0, 0, 12) := by
 have e : ((l.drop a).getD k 0).toNat = bAt l (a + k) := by unfold bAt; simp
 have : getR (l.drop a) = (0, 0, 12) := by
  unfold getR
  rw [if_neg (by simp; omega), hl, e, hs]; rfl
 unfold get
 rw [if_neg (by omega), Int.toNat_natCast, this]
 rfl
theorem get_ok {l : List UInt8} {a k : Nat} (h : a + k < l.length) (hl : lead (l.drop a) = k) (hs : short (k + 1) (bAt l (a + k)) = true) : get l (a : Int) = (num ((l.drop a).take (k + 1)), a + k + 1, 0) := by
 have e : ((l.drop a).getD k 0).toNat = bAt l (a + k) := by unfold bAt; simp
 have : getR (l.drop a) = (num ((l.drop a).take (k + 1)), k + 1, 0) := by
  unfold getR
  rw [if_neg (by simp; omega), hl, e, hs]; rfl
 unfold get
 rw [if_neg (by omega), Int.toNat_natCast, this]
 rfl
theorem get_bound {l : List UInt8} {a k : Nat} (h : a + k < l.length) (hs : short (k + 1) (bAt l (a + k)) = true) : num ((l.drop a).take (k + 1)) < 18446744073709551616 := by
 have e : ((l.drop a).getD k 0).toNat = bAt l (a + k) := by unfold bAt; simp
 exact short_bound (by simp; omega) (by rw [e]; exact hs)

/-- What GetText answers. -/
def getText (l : List UInt8) (p most : Int) : List UInt8 × Nat × Nat :=
 if (get l p).2.2 ≠ 0 then ([], 0, (get l p).2.2)
 else if most.toNat < (get l p).1 then ([], 0, 3)
 else if l.length - (get l p).2.1 < (get l p).1 then ([], 0, 10)
 else ((l.drop (get l p).2.1).take (get l p).1, (get l p).2.1 + (get l p).1, 0)

theorem getR_bound (r : List UInt8) : (getR r).1 < 18446744073709551616 ∧ (getR r).2.1 ≤ r.length ∧ (getR r).2.2 ≤ 12 := by
 unfold getR
 have hl := lead_le r
 split
 ·simp
 ·split
  ·rename_i h1 h2
   exact ⟨short_bound (by omega) h2, by simp; omega, by simp⟩
  ·simp
theorem get_all (l : List UInt8) (p : Int) : (get l p).1 < 18446744073709551616 ∧ (get l p).2.1 ≤ l.length ∧ (get l p).2.2 ≤ 12 := by
 unfold get
 split
 ·simp
 ·rename_i h
  have hb := getR_bound (l.drop p.toNat)
  simp only [List.length_drop] at hb
  split
  ·exact ⟨hb.1, by simp; omega, by simp⟩
  ·exact ⟨by simp, by simp, hb.2.2⟩

end Go.Proofs.YtbdjccmlgdfapaaGreat.M
namespace Go.Proofs.YtbdjccmlgdfapaaGreat.M

theorem num_digs {n : Nat} (h : n < 18446744073709551616) : num (digs n) = n := num_digsF 9 n (by omega)
theorem lead_digs {n : Nat} (h : n < 18446744073709551616) (r : List UInt8) : lead (digs n ++ r) + 1 = (digs n).length := lead_digsF 9 n r (by omega)

theorem last_digsF : ∀ (f n : Nat), n < 128 ^ (f + 1) →
  ((digsF f n).getD ((digsF f n).length - 1) 0).toNat = n / 128 ^ ((digsF f n).length - 1) ∧ ((digsF f n).length = 1 ∨ 1 ≤ n / 128 ^ ((digsF f n).length - 1))
 | 0, n, h => by
  simp at h
  simp [digsF]; omega
 | f + 1, n, h => by
  simp only [digsF]
  split
  ·simp; omega
  ·have hd : n / 128 < 128 ^ (f + 1) := by rw [Nat.pow_succ] at h; exact Nat.div_lt_of_lt_mul (by omega)
   have ih := last_digsF f (n / 128) hd
   have hl := digsF_len f (n / 128)
   obtain ⟨L, hL⟩ : ∃ L, (digsF f (n / 128)).length = L + 1 := ⟨(digsF f (n / 128)).length - 1, by omega⟩
   rw [hL] at ih
   simp only [List.length_cons, hL, Nat.add_sub_cancel, List.getD_cons_succ] at ih ⊢
   have e : n / 128 / 128 ^ L = n / 128 ^ (L + 1) := by rw [Nat.div_div_eq_div_mul, Nat.pow_succ, Nat.mul_comm]
   rw [e] at ih
   refine ⟨ih.1, Or.inr ?_⟩
   rcases ih.2 with h1 | h1
   ·have : L = 0 := by omega
    subst this
    simp; omega
   ·exact h1

theorem short_digs {n : Nat} (h : n < 18446744073709551616) : short (digs n).length ((digs n).getD ((digs n).length - 1) 0).toNat = true := by
 have hb := last_digsF 9 n (by omega)
 have hl := digs_len n
 change ((digs n).getD ((digs n).length - 1) 0).toNat = n / 128 ^ ((digs n).length - 1) ∧ ((digs n).length = 1 ∨ 1 ≤ n / 128 ^ ((digs n).length - 1)) at hb
 rw [hb.1]
 by_cases h1 : (digs n).length = 1
 ·simp [short, h1]
 ·have h2 : 1 ≤ n / 128 ^ ((digs n).length - 1) := by
   rcases hb.2 with h3 | h3
   ·exact absurd h3 h1
   ·exact h3
  by_cases h10 : (digs n).length = 10
  ·rw [h10] at h2 ⊢
   have h3 : n / 128 ^ 9 ≤ 1 := by omega
   simp only [Nat.add_one_sub_one] at h2 ⊢
   generalize n / 128 ^ 9 = q at h2 h3 ⊢
   simp only [short]
   simp
   omega
  ·have h9 : (digs n).length < 10 := by omega
   generalize n / 128 ^ ((digs n).length - 1) = q at h2 ⊢
   simp only [short]
   simp
   omega

theorem getR_digs {n : Nat} (h : n < 18446744073709551616) (r : List UInt8) : getR (digs n ++ r) = (n, (digs n).length, 0) := by
 have hl := lead_digs h r
 have hlen := digs_len n
 unfold getR
 rw [if_neg (by simp; omega), hl]
 have e : (digs n ++ r).getD (lead (digs n ++ r)) 0 = (digs n).getD ((digs n).length - 1) 0 := by
  rw [show lead (digs n ++ r) = (digs n).length - 1 from by omega]
  simp only [List.getD_eq_getElem?_getD]
  rw [List.getElem?_append_left (by omega)]
 rw [e, short_digs h]
 simp [num_digs h]

/-- What is put is got, behind anything, ahead of anything. -/
theorem get_digs {n : Nat} (h : n < 18446744073709551616) (l r : List UInt8) : get (l ++ digs n ++ r) (l.length : Int) = (n, l.length + (digs n).length, 0) := by
 unfold get
 rw [if_neg (by simp; omega), Int.toNat_natCast]
 have e : (l ++ digs n ++ r).drop l.length = digs n ++ r := by rw [List.append_assoc]; simp
 rw [e, getR_digs h]
 simp

end Go.Proofs.YtbdjccmlgdfapaaGreat.M
namespace Go.Proofs.YtbdjccmlgdfapaaGreat.M

/-- The number of the first j bytes from p on. -/
def upto (l : List UInt8) (p j : Nat) : Nat := num ((l.drop p).take j)
theorem upto_zero (l : List UInt8) (p : Nat) : upto l p 0 = 0 := by simp [upto, num]
theorem upto_succ {l : List UInt8} {p j : Nat} (h : p + j < l.length) : upto l p (j + 1) = upto l p j + bAt l (p + j) % 128 * 128 ^ j := by
 unfold upto bAt
 have hj : j < (l.drop p).length := by simp; omega
 rw [List.take_succ_eq_append_getElem hj, num_append]
 have hlen : ((l.drop p).take j).length = j := by simp; omega
 rw [hlen]
 have e : (l.drop p)[j] = l.getD (p + j) 0 := by simp [h]
 rw [e]
 simp only [num, Nat.mul_zero, Nat.add_zero]
 rw [Nat.mul_comm]
theorem upto_lt (l : List UInt8) (p j : Nat) : upto l p j < 128 ^ j := by
 unfold upto
 have h := num_lt ((l.drop p).take j)
 have : 128 ^ ((l.drop p).take j).length ≤ 128 ^ j := Nat.pow_le_pow_right (by decide) (by simp; omega)
 omega
theorem upto_mono {l : List UInt8} {p : Nat} : ∀ (e j : Nat), p + j + e ≤ l.length → upto l p j ≤ upto l p (j + e)
 | 0, _, _ => Nat.le_refl _
 | e + 1, j, h => by
  have h1 := upto_mono (l := l) (p := p) e j (by omega)
  have h2 := upto_succ (l := l) (p := p) (j := j + e) (by omega)
  rw [show j + (e + 1) = j + e + 1 from by omega, h2]
  omega
end Go.Proofs.YtbdjccmlgdfapaaGreat.M
namespace Go.Proofs.YtbdjccmlgdfapaaGreat.T

abbrev B := List UInt8
abbrev lt : B → B → Bool := Go.Op.bytesLess

theorem lt_cons (a b : UInt8) (x y : B) : lt (a :: x) (b :: y) = (decide (a < b) || (a == b && lt x y)) := rfl
theorem lt_nil (x : B) : lt x [] = false := by cases x <;> rfl
theorem nil_lt (a : UInt8) (x : B) : lt [] (a :: x) = true := rfl
theorem lt_irrefl (x : B) : lt x x = false := by
 induction x with
 | nil => rfl
 | cons a x ih => rw [lt_cons, ih]; simp [UInt8.lt_irrefl]
theorem lt_iff (a b : UInt8) (x y : B) : lt (a :: x) (b :: y) = true ↔ a.toNat < b.toNat ∨ a = b ∧ lt x y = true := by
 rw [lt_cons]; simp [UInt8.lt_iff_toNat_lt]
theorem lt_trans {x y z : B} (h1 : lt x y = true) (h2 : lt y z = true) : lt x z = true := by
 induction x generalizing y z with
 | nil =>
  cases z with
  | nil => rw [lt_nil] at h2; cases h2
  | cons c z => rfl
 | cons a x ih =>
  cases y with
  | nil => rw [lt_nil] at h1; cases h1
  | cons b y =>
   cases z with
   | nil => rw [lt_nil] at h2; cases h2
   | cons c z =>
    rw [lt_iff] at h1 h2 ⊢
    rcases h1 with h1 | ⟨rfl, h1⟩
    ·rcases h2 with h2 | ⟨rfl, h2⟩
     ·left; omega
     ·left; omega
    ·rcases h2 with h2 | ⟨rfl, h2⟩
     ·left; omega
     ·right; exact ⟨rfl, ih h1 h2⟩
theorem lt_total (x y : B) : lt x y = true ∨ x = y ∨ lt y x = true := by
 induction x generalizing y with
 | nil =>
  cases y with
  | nil => right; left; rfl
  | cons b y => left; rfl
 | cons a x ih =>
  cases y with
  | nil => right; right; rfl
  | cons b y =>
   rw [lt_iff, lt_iff]
   rcases Nat.lt_trichotomy a.toNat b.toNat with h | h | h
   ·left; left; exact h
   ·have hab : a = b := UInt8.toNat.inj h
    subst hab
    rcases ih y with h | h | h
    ·left; right; exact ⟨rfl, h⟩
    ·right; left; rw [h]
    ·right; right; right; exact ⟨rfl, h⟩
   ·right; right; left; exact h
theorem lt_asymm {x y : B} (h : lt x y = true) : lt y x = false := by
 cases e : lt y x with
 | false => rfl
 | true => have := lt_trans h e; rw [lt_irrefl] at this; cases this
/-- Not below: the same, or above. -/
theorem ge_iff {x y : B} (h : lt x y = false) : x = y ∨ lt y x = true := by
 rcases lt_total x y with h1 | h1 | h1
 ·rw [h] at h1; cases h1
 ·exact .inl h1
 ·exact .inr h1
theorem ge_lt {x y z : B} (h1 : lt x y = false) (h2 : lt x z = true) : lt y z = true := by
 rcases ge_iff h1 with rfl | h
 ·exact h2
 ·exact lt_trans h h2

/-- Rising: each below all behind it. -/
def Rise (d : List B) : Prop := d.Pairwise fun x y => lt x y = true
theorem Rise.nil : Rise [] := List.Pairwise.nil
theorem rise_cons {x : B} {d : List B} : Rise (x :: d) ↔ (∀ y ∈ d, lt x y = true) ∧ Rise d := List.pairwise_cons
/-- Each below the next. -/
def adj : List B → Bool
 | [] => true
 | [_] => true
 | x :: y :: r => lt x y && adj (y :: r)
theorem adj_iff (d : List B) : adj d = true ↔ Rise d := by
 induction d with
 | nil => simp [adj, Rise]
 | cons x r ih =>
  cases r with
  | nil => simp [adj, Rise]
  | cons y r =>
   rw [adj, Bool.and_eq_true, ih, rise_cons, rise_cons, rise_cons]
   constructor
   ·rintro ⟨h1, h2, h3⟩
    refine ⟨fun z hz => ?_, h2, h3⟩
    rcases List.mem_cons.1 hz with rfl | hz
    ·exact h1
    ·exact lt_trans h1 (h2 z hz)
   ·rintro ⟨h1, h2, h3⟩
    exact ⟨h1 y (by simp), h2, h3⟩
/-- A text into a dictionary, once. -/
def ins (s : B) : List B → List B
 | [] => [s]
 | x :: r => if lt x s = true then x :: ins s r else if x = s then x :: r else s :: x :: r
theorem mem_ins (s x : B) (d : List B) : x ∈ ins s d ↔ x = s ∨ x ∈ d := by
 induction d with
 | nil => simp [ins]
 | cons y r ih =>
  unfold ins
  split
  ·simp only [List.mem_cons, ih]
   constructor
   ·rintro (h | h | h)
    ·exact .inr (.inl h)
    ·exact .inl h
    ·exact .inr (.inr h)
   ·rintro (h | h | h)
    ·exact .inr (.inl h)
    ·exact .inl h
    ·exact .inr (.inr h)
  ·split
   ·rename_i h
    simp only [List.mem_cons]
    constructor
    ·exact .inr
    ·rintro (h' | h')
     ·left; rw [h', h]
     ·exact h'
   ·simp only [List.mem_cons]
theorem rise_ins {s : B} {d : List B} (h : Rise d) : Rise (ins s d) := by
 induction d with
 | nil => simp [ins, Rise]
 | cons y r ih =>
  have h' := rise_cons.1 h
  unfold ins
  split
  ·rename_i hl
   rw [rise_cons]
   refine ⟨fun z hz => ?_, ih h'.2⟩
   rcases (mem_ins s z r).1 hz with rfl | hz
   ·exact hl
   ·exact h'.1 z hz
  ·split
   ·exact h
   ·rename_i hl hne
    rw [rise_cons]
    refine ⟨fun z hz => ?_, h⟩
    have hsy : lt s y = true := by
     rcases ge_iff (Bool.eq_false_iff.2 hl) with h1 | h1
     ·exact absurd h1 hne
     ·exact h1
    rcases List.mem_cons.1 hz with rfl | hz
    ·exact hsy
    ·exact lt_trans hsy (h'.1 z hz)
/-- How many stand ahead of a text. -/
def pos (s : B) : List B → Nat
 | [] => 0
 | x :: r => if lt x s = true then pos s r + 1 else 0
theorem pos_le (s : B) (d : List B) : pos s d ≤ d.length := by
 induction d with
 | nil => simp [pos]
 | cons x r ih => unfold pos; split <;> simp <;> omega
theorem ins_eq (s : B) (d : List B) : ins s d = if d[pos s d]? = some s then d else d.take (pos s d) ++ s :: d.drop (pos s d) := by
 induction d with
 | nil => simp [ins, pos]
 | cons x r ih =>
  unfold ins pos
  by_cases h : lt x s = true
  ·rw [if_pos h, if_pos h, ih, List.getElem?_cons_succ, List.take_succ_cons, List.drop_succ_cons]
   split <;> simp
  ·rw [if_neg h, if_neg h]
   by_cases he : x = s
   ·rw [if_pos he, if_pos (by simp [he])]
   ·rw [if_neg he, if_neg (by simpa using he)]; simp
theorem ins_len (s : B) (d : List B) : (ins s d).length ≤ d.length + 1 := by
 induction d with
 | nil => simp [ins]
 | cons x r ih => unfold ins; split <;> (try split) <;> simp <;> omega
/-- Where a text stands. -/
def idx (s : B) : List B → Option Nat
 | [] => none
 | x :: r => if x = s then some 0 else (idx s r).map (· + 1)
theorem rise_at {d : List B} (h : Rise d) {i j : Nat} {x y : B} (hx : d[i]? = some x) (hy : d[j]? = some y) (hij : i < j) : lt x y = true := by
 induction d generalizing i j with
 | nil => simp at hx
 | cons z r ih =>
  have h' := rise_cons.1 h
  cases j with
  | zero => omega
  | succ j =>
   cases i with
   | zero =>
    simp at hx
    subst hx
    exact h'.1 y (List.mem_of_getElem? (by simpa using hy))
   | succ i => exact ih h'.2 (by simpa using hx) (by simpa using hy) (by omega)
/-- Dictionaries of the same texts are one. -/
theorem rise_same {d e : List B} (hd : Rise d) (he : Rise e) (h : ∀ x, x ∈ d ↔ x ∈ e) : d = e := by
 induction d generalizing e with
 | nil =>
  cases e with
  | nil => rfl
  | cons y r => have := (h y).2 (by simp); simp at this
 | cons x r ih =>
  cases e with
  | nil => have := (h x).1 (by simp); simp at this
  | cons y t =>
   have hd' := rise_cons.1 hd
   have he' := rise_cons.1 he
   have hxy : x = y := by
    have h1 := (h x).1 (by simp)
    have h2 := (h y).2 (by simp)
    rcases List.mem_cons.1 h1 with h1 | h1
    ·exact h1
    ·rcases List.mem_cons.1 h2 with h2 | h2
     ·exact h2.symm
     ·have a := he'.1 x h1
      have b := lt_trans a (hd'.1 y h2)
      rw [lt_irrefl] at b
      cases b
   subst hxy
   rw [ih hd'.2 he'.2 (fun z => ?_)]
   constructor
   ·intro hz
    rcases List.mem_cons.1 ((h z).1 (by simp [hz])) with rfl | h1
    ·have := hd'.1 z hz; rw [lt_irrefl] at this; cases this
    ·exact h1
   ·intro hz
    rcases List.mem_cons.1 ((h z).2 (by simp [hz])) with rfl | h1
    ·have := he'.1 z hz; rw [lt_irrefl] at this; cases this
    ·exact h1
/-- The dictionary of some texts. -/
def bld (l : List B) : List B := l.foldl (fun d s => ins s d) []
theorem fold_mem (l d : List B) (x : B) : x ∈ l.foldl (fun d s => ins s d) d ↔ x ∈ l ∨ x ∈ d := by
 induction l generalizing d with
 | nil => simp
 | cons s l ih =>
  rw [List.foldl_cons, ih, mem_ins, List.mem_cons]
  constructor
  ·rintro (h | h | h)
   ·exact .inl (.inr h)
   ·exact .inl (.inl h)
   ·exact .inr h
  ·rintro ((h | h) | h)
   ·exact .inr (.inl h)
   ·exact .inl h
   ·exact .inr (.inr h)
theorem fold_rise (l d : List B) (h : Rise d) : Rise (l.foldl (fun d s => ins s d) d) := by
 induction l generalizing d with
 | nil => exact h
 | cons s l ih => exact ih _ (rise_ins h)
theorem fold_len (l d : List B) : (l.foldl (fun d s => ins s d) d).length ≤ d.length + l.length := by
 induction l generalizing d with
 | nil => simp
 | cons s l ih => rw [List.foldl_cons]; have h1 := ih (ins s d); have h2 := ins_len s d; simp only [List.length_cons]; omega
theorem mem_bld (l : List B) (x : B) : x ∈ bld l ↔ x ∈ l := by rw [bld, fold_mem]; simp
theorem rise_bld (l : List B) : Rise (bld l) := fold_rise l [] Rise.nil
theorem bld_len (l : List B) : (bld l).length ≤ l.length := by have := fold_len l []; simpa [bld] using this
theorem bld_snoc (l : List B) (s : B) : bld (l ++ [s]) = ins s (bld l) := by simp [bld]
def place (d : List B) (s : B) : Nat := (idx s d).getD 0
/-- A text begins so. -/
def begins (p x : B) : Bool := decide (p.length ≤ x.length) && decide (x.take p.length = p)
/-- How many of the first ones begin so. -/
def run (p : B) : List B → Nat
 | [] => 0
 | x :: r => if begins p x = true then run p r + 1 else 0
def upto (p : B) (d : List B) : Nat := pos p d + run p (d.drop (pos p d))
end Go.Proofs.YtbdjccmlgdfapaaGreat.T
namespace Go.Proofs.YtbdjccmlgdfapaaGreat.T

def ptext (s : B) : List UInt8 := M.digs s.length ++ s
def texts (d : List B) : List UInt8 := d.flatMap ptext
def enc (d : List B) : List UInt8 := M.digs d.length ++ texts d
theorem texts_cons (s : B) (d : List B) : texts (s :: d) = ptext s ++ texts d := by simp [texts]
def fits (d : List B) : Bool := d.all (fun s => decide (s.length ≤ 40)) && (decide (d.length ≤ 16) && adj d)
/-- n texts from place k on, behind those that are read. -/
def rd (b : List UInt8) : Nat → Nat → List B → List B × Nat × Nat
 | 0, k, o => (o, k, 0)
 | n + 1, k, o => if (M.getText b k 40).2.2 ≠ 0 then ([], 0, (M.getText b k 40).2.2) else rd b n (M.getText b k 40).2.1 (o ++ [(M.getText b k 40).1])
def dec (b : List UInt8) (p : Int) : List B × Nat × Nat :=
 if (M.get b p).2.2 ≠ 0 then ([], 0, (M.get b p).2.2) else if 16 < (M.get b p).1 then ([], 0, 4)
 else if (rd b (M.get b p).1 (M.get b p).2.1 []).2.2 ≠ 0 then ([], 0, (rd b (M.get b p).1 (M.get b p).2.1 []).2.2)
 else if adj (rd b (M.get b p).1 (M.get b p).2.1 []).1 = true then ((rd b (M.get b p).1 (M.get b p).2.1 []).1, (rd b (M.get b p).1 (M.get b p).2.1 []).2.1, 0) else ([], 0, 12)
end Go.Proofs.YtbdjccmlgdfapaaGreat.T
