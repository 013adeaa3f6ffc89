/-
  Plain facts on numbers of seven bits a byte: what is put for a number, and what is got of bytes. No program here.
-/
namespace Go.Proofs.Ytkhbkifofkjjnaa.M

/-- The bytes of n, the lowest seven bits first; f: how many bytes at most, less one. -/
def digsF : Nat → Nat → List UInt8
  | 0, n => [UInt8.ofNat n]
  | f + 1, n => if n < 128 then [UInt8.ofNat n] else UInt8.ofNat (n % 128 + 128) :: digsF f (n / 128)
/-- What Put lays for n. -/
def digs (n : Nat) : List UInt8 := digsF 9 n

theorem digsF_eq : ∀ (f g n : Nat), n < 128 ^ (f + 1) → n < 128 ^ (g + 1) → digsF f n = digsF g n
  | 0, 0, _, _, _ => rfl
  | 0, g + 1, n, hf, _ => by simp at hf; simp [digsF, hf]
  | f + 1, 0, n, _, hg => by simp at hg; simp [digsF, hg]
  | f + 1, g + 1, n, hf, hg => by
    simp only [digsF]
    split
    · rfl
    · rw [digsF_eq f g (n / 128) (by rw [Nat.pow_succ] at hf; exact Nat.div_lt_of_lt_mul (by omega)) (by rw [Nat.pow_succ] at hg; exact Nat.div_lt_of_lt_mul (by omega))]

theorem digs_low {n : Nat} (h : n < 128) : digs n = [UInt8.ofNat n] := by simp [digs, digsF, h]
theorem digs_more {n : Nat} (h : 128 ≤ n) (h2 : n < 2 ^ 64) : digs n = UInt8.ofNat (n % 128 + 128) :: digs (n / 128) := by
  have h' : ¬ n < 128 := by omega
  show digsF (8 + 1) n = _
  rw [digsF, if_neg h']
  congr 1
  exact digsF_eq 8 9 (n / 128) (by omega) (by omega)

theorem digsF_len : ∀ (f n : Nat), 1 ≤ (digsF f n).length ∧ (digsF f n).length ≤ f + 1
  | 0, n => by simp [digsF]
  | f + 1, n => by
    have := digsF_len f (n / 128)
    simp only [digsF]
    split
    · simp
    · simp; omega
theorem digs_len (n : Nat) : 1 ≤ (digs n).length ∧ (digs n).length ≤ 10 := digsF_len 9 n

/-- The number of so many digits. -/
def num : List UInt8 → Nat
  | [] => 0
  | c :: r => c.toNat % 128 + 128 * num r

/-- How many bytes at the head have their top bit set. -/
def lead : List UInt8 → Nat
  | [] => 0
  | c :: r => if c.toNat < 128 then 0 else lead r + 1

theorem lead_le : ∀ l, lead l ≤ l.length
  | [] => by simp [lead]
  | c :: r => by have := lead_le r; simp only [lead]; split <;> simp <;> omega

/-- Whether a number of so many bytes with that last one is the shortest. -/
def short (size last : Nat) : Bool := size == 1 || (decide (size < 10) && last != 0) || (size == 10 && last != 0 && decide (last ≤ 1))

/-- What Get answers of the bytes l at a place within them: the number, its bytes, the refusal. -/
def getR (r : List UInt8) : Nat × Nat × Nat :=
  if lead r = r.length then (0, 0, 10)
  else if short (lead r + 1) (r.getD (lead r) 0).toNat then (num (r.take (lead r + 1)), lead r + 1, 0) else (0, 0, 12)

/-- What Get answers. -/
def get (l : List UInt8) (at' : Int) : Nat × Nat × Nat :=
  if at' < 0 ∨ (l.length : Int) < at' then (0, 0, 1)
  else if (getR (l.drop at'.toNat)).2.2 = 0 then ((getR (l.drop at'.toNat)).1, at'.toNat + (getR (l.drop at'.toNat)).2.1, 0)
  else (0, 0, (getR (l.drop at'.toNat)).2.2)

/-- Zig and Zag. -/
def zig (n : Int) : Int := if n < 0 then -2 * n - 1 else 2 * n
def zag (n : Int) : Int := if n % 2 = 1 then -(n / 2) - 1 else n / 2

theorem lead_digsF : ∀ (f n : Nat) (r : List UInt8), n < 128 ^ (f + 1) → lead (digsF f n ++ r) + 1 = (digsF f n).length
  | 0, n, r, h => by
    simp at h
    have : n % 256 < 128 := by omega
    simp [digsF, lead, this]
  | f + 1, n, r, h => by
    simp only [digsF]
    split
    · have : n % 256 < 128 := by omega
      simp [lead, this]
    · have h1 : ¬ (n % 128 + 128) % 256 < 128 := by omega
      have ih := lead_digsF f (n / 128) r (by rw [Nat.pow_succ] at h; exact Nat.div_lt_of_lt_mul (by omega))
      simp [lead, h1, ih]

theorem num_digsF : ∀ (f n : Nat), n < 128 ^ (f + 1) → num (digsF f n) = n
  | 0, n, h => by simp at h; simp [digsF, num]; omega
  | f + 1, n, h => by
    simp only [digsF]
    split
    · simp [num]; omega
    · have ih := num_digsF f (n / 128) (by rw [Nat.pow_succ] at h; exact Nat.div_lt_of_lt_mul (by omega))
      simp [num, ih]; omega

theorem num_lt : ∀ r : List UInt8, num r < 128 ^ r.length
  | [] => by simp [num]
  | c :: r => by
    have := num_lt r
    simp only [num, List.length_cons, Nat.pow_succ]
    have : c.toNat % 128 < 128 := Nat.mod_lt _ (by decide)
    omega
theorem num_append : ∀ a b : List UInt8, num (a ++ b) = num a + 128 ^ a.length * num b
  | [], b => by simp [num]
  | c :: r, b => by
    simp only [List.cons_append, num, num_append r b, List.length_cons, Nat.pow_succ]
    rw [Nat.mul_add, ← Nat.mul_assoc, Nat.mul_comm 128 (128 ^ r.length)]
    omega

/-- The byte at a place, 0 behind the end. -/
def bAt (l : List UInt8) (k : Nat) : Nat := (l.getD k 0).toNat
theorem bAt_lt (l : List UInt8) (k : Nat) : bAt l k < 256 := UInt8.toNat_lt _
theorem drop_at {l : List UInt8} {k : Nat} (h : k < l.length) : l.drop k = l.getD k 0 :: l.drop (k + 1) := by
  rw [List.drop_eq_getElem_cons h]; simp [h]

theorem lead_more {l : List UInt8} {k : Nat} (h : k < l.length) (hb : 128 ≤ bAt l k) : lead (l.drop k) = 1 + lead (l.drop (k + 1)) := by
  rw [drop_at h]
  unfold bAt at hb
  simp only [lead]
  rw [if_neg (by omega)]; omega
theorem lead_last {l : List UInt8} {k : Nat} (h : k < l.length) (hb : bAt l k < 128) : lead (l.drop k) = 0 := by
  rw [drop_at h]
  unfold bAt at hb
  simp only [lead]
  rw [if_pos hb]
theorem lead_end {l : List UInt8} {k : Nat} (h : l.length ≤ k) : lead (l.drop k) = 0 := by
  rw [List.drop_eq_nil_of_le h]; rfl

/-- The j bytes that end with the one at K. -/
def seg (l : List UInt8) (K j : Nat) : List UInt8 := (l.drop (K + 1 - j)).take j
theorem seg_zero (l : List UInt8) (K : Nat) : num (seg l K 0) = 0 := by simp [seg, num]
theorem seg_succ {l : List UInt8} {K j : Nat} (hj : j ≤ K) (hK : K < l.length) : num (seg l K (j + 1)) = bAt l (K - j) % 128 + 128 * num (seg l K j) := by
  unfold seg bAt
  rw [show K + 1 - (j + 1) = K - j from by omega, drop_at (show K - j < l.length by omega), show K - j + 1 = K + 1 - j from by omega]
  simp [num]
theorem seg_mono {l : List UInt8} {K : Nat} (hK : K < l.length) : ∀ (d j : Nat), j + d ≤ K + 1 → num (seg l K j) ≤ num (seg l K (j + d))
  | 0, j, _ => Nat.le_refl _
  | d + 1, j, h => by
    have h1 := seg_mono hK d j (by omega)
    have h2 := seg_succ (l := l) (K := K) (j := j + d) (by omega) hK
    rw [show j + (d + 1) = j + d + 1 from by omega, h2]
    omega
theorem seg_full {l : List UInt8} {K at' : Nat} (h : at' ≤ K) : seg l K (K + 1 - at') = (l.drop at').take (K + 1 - at') := by
  unfold seg; rw [show K + 1 - (K + 1 - at') = at' from by omega]
theorem short_bound {r : List UInt8} {k : Nat} (h : k < r.length) (hs : short (k + 1) (r.getD k 0).toNat = true) : num (r.take (k + 1)) < 18446744073709551616 := by
  have hk : k ≤ 9 := by
    simp [short] at hs; omega
  by_cases h9 : k = 9
  · subst h9
    have ht : r.take (9 + 1) = r.take 9 ++ [r.getD 9 0] := by
      rw [List.take_succ_eq_append_getElem h]; simp [h]
    have hl : (r.getD 9 0).toNat ≤ 1 := by simp [short] at hs; simpa using hs.2
    rw [ht, num_append]
    have := num_lt (r.take 9)
    have hlen : (r.take 9).length = 9 := by simp; omega
    rw [hlen] at this ⊢
    simp only [num]
    omega
  · have := num_lt (r.take (k + 1))
    have hlen : (r.take (k + 1)).length = k + 1 := by simp; omega
    rw [hlen] at this
    have : 128 ^ (k + 1) ≤ 128 ^ 9 := Nat.pow_le_pow_right (by decide) (by omega)
    omega

theorem get_out {l : List UInt8} {at' : Int} (h : at' < 0 ∨ (l.length : Int) < at') : get l at' = (0, 0, 1) := by unfold get; rw [if_pos h]
theorem getR_end {r : List UInt8} (h : lead r = r.length) : getR r = (0, 0, 10) := by unfold getR; rw [if_pos h]
theorem get_end {l : List UInt8} {a : Nat} (h : a ≤ l.length) (hl : lead (l.drop a) = l.length - a) : get l (a : Int) = (0, 0, 10) := by
  unfold get
  rw [if_neg (by omega), Int.toNat_natCast, getR_end (by simpa using hl)]
  rfl
theorem get_form {l : List UInt8} {a k : Nat} (h : a + k < l.length) (hl : lead (l.drop a) = k) (hs : short (k + 1) (bAt l (a + k)) = false) : get l (a : Int) = (0, 0, 12) := by
  have e : ((l.drop a).getD k 0).toNat = bAt l (a + k) := by unfold bAt; simp
  have : getR (l.drop a) = (0, 0, 12) := by
    unfold getR
    rw [if_neg (by simp; omega), hl, e, hs]; rfl
  unfold get
  rw [if_neg (by omega), Int.toNat_natCast, this]
  rfl
theorem get_ok {l : List UInt8} {a k : Nat} (h : a + k < l.length) (hl : lead (l.drop a) = k) (hs : short (k + 1) (bAt l (a + k)) = true) : get l (a : Int) = (num ((l.drop a).take (k + 1)), a + k + 1, 0) := by
  have e : ((l.drop a).getD k 0).toNat = bAt l (a + k) := by unfold bAt; simp
  have : getR (l.drop a) = (num ((l.drop a).take (k + 1)), k + 1, 0) := by
    unfold getR
    rw [if_neg (by simp; omega), hl, e, hs]; rfl
  unfold get
  rw [if_neg (by omega), Int.toNat_natCast, this]
  rfl
theorem get_bound {l : List UInt8} {a k : Nat} (h : a + k < l.length) (hs : short (k + 1) (bAt l (a + k)) = true) : num ((l.drop a).take (k + 1)) < 18446744073709551616 := by
  have e : ((l.drop a).getD k 0).toNat = bAt l (a + k) := by unfold bAt; simp
  exact short_bound (by simp; omega) (by rw [e]; exact hs)

/-- What GetText answers. -/
def getText (l : List UInt8) (p most : Int) : List UInt8 × Nat × Nat :=
  if (get l p).2.2 ≠ 0 then ([], 0, (get l p).2.2)
  else if most.toNat < (get l p).1 then ([], 0, 3)
  else if l.length - (get l p).2.1 < (get l p).1 then ([], 0, 10)
  else ((l.drop (get l p).2.1).take (get l p).1, (get l p).2.1 + (get l p).1, 0)

theorem getR_bound (r : List UInt8) : (getR r).1 < 18446744073709551616 ∧ (getR r).2.1 ≤ r.length ∧ (getR r).2.2 ≤ 12 := by
  unfold getR
  have hl := lead_le r
  split
  · simp
  · split
    · rename_i h1 h2
      exact ⟨short_bound (by omega) h2, by simp; omega, by simp⟩
    · simp
theorem get_all (l : List UInt8) (p : Int) : (get l p).1 < 18446744073709551616 ∧ (get l p).2.1 ≤ l.length ∧ (get l p).2.2 ≤ 12 := by
  unfold get
  split
  · simp
  · rename_i h
    have hb := getR_bound (l.drop p.toNat)
    simp only [List.length_drop] at hb
    split
    · exact ⟨hb.1, by simp; omega, by simp⟩
    · exact ⟨by simp, by simp, hb.2.2⟩

end Go.Proofs.Ytkhbkifofkjjnaa.M
