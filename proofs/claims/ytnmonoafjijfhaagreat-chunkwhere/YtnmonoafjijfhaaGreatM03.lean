/-
  Plain facts on Go's bit operations at single numbers: masks, joins and turned bits, in the words of the walk. Plain facts on numbers of seven bits a byte: what is put for a number, and what is got of bytes. No program here. Plain facts on numbers of seven bits a byte: what is put is got, and what is got is what is put. Plain facts on texts of which a part is cut off, or behind which something stands.
-/
import Derived.WalkKit
import Derived.Laws.BitsLemmas
namespace Go.Proofs.YtnmonoafjijfhaaGreat.I
open Go

theorem w64 (n : Int) : IntKind.u64.wrap n = n % 18446744073709551616 := by simp [IntKind.wrap, IntKind.bits, IntKind.signed]
theorem wraps64 (n : Int) (h₀ : 0 ≤ n) (h₁ : n < 2 ^ 64) : IntKind.u64.wrap n = n := by rw [w64]; omega
theorem and1 (n : Int) (h : 0 ≤ n) (h2 : n ≤ 18446744073709551615) : bits .and .u64 n 1 = n % 2 :=
  bits_mask .u64 64 (by decide) wraps64 1 (by decide) n h (by omega)
theorem and127 (n : Int) (h : 0 ≤ n) (h2 : n ≤ 18446744073709551615) : bits .and .u64 n 127 = n % 128 :=
  bits_mask .u64 64 (by decide) wraps64 7 (by decide) n h (by omega)
theorem and127b (n : Int) (h : 0 ≤ n) (h2 : n ≤ 255) : bits .and .u8 n 127 = n % 128 :=
  bits_mask .u8 8 (by decide) wraps_u8 7 (by decide) n h (by omega)
theorem or128b (n : Int) (h : 0 ≤ n) (h2 : n < 128) : bits .or .u8 n 128 = n + 128 := by
  obtain ⟨a, rfl⟩ := Int.eq_ofNat_of_zero_le h
  have ha : a < 128 := by omega
  have e := bits_join .u8 8 (by decide) wraps_u8 7 128 (a : Int) (by decide) (by decide) (by decide) h (by omega) (by omega)
  have c : bits .or .u8 (a : Int) ((128 : Nat) : Int) = bits .or .u8 ((128 : Nat) : Int) (a : Int) := by
    rw [(bits_nat .u8 8 (by decide) wraps_u8 a 128 (by omega) (by decide)).2, (bits_nat .u8 8 (by decide) wraps_u8 128 a (by decide) (by omega)).2, Nat.or_comm]
  have c' : bits .or .u8 (a : Int) 128 = bits .or .u8 128 (a : Int) := c
  rw [c', e]; omega
theorem orJoin (x d : Int) (hx : 0 ≤ x) (hx2 : x < 18446744073709551616) (hm : x % 128 = 0) (hd : 0 ≤ d) (hd2 : d < 128) : bits .or .u64 x d = x + d :=
  bits_join .u64 64 (by decide) wraps64 7 x d hx (by simpa using hm) (by simpa using hx2) hd (by simpa using hd2) (by omega)

theorem xor1i (x : Int) (h : -9223372036854775808 ≤ x) (h2 : x ≤ 9223372036854775807) : bits .xor .i64 (-1) x = -x - 1 := by
  have e : (BitVec.ofInt 64 (-1) ^^^ BitVec.ofInt 64 x) = ~~~(BitVec.ofInt 64 x) := by
    rw [show BitVec.ofInt 64 (-1) = BitVec.allOnes 64 from by decide, BitVec.allOnes_xor]
  show IntKind.i64.wrap ((BitVec.ofInt 64 (-1) ^^^ BitVec.ofInt 64 x).toNat : Int) = _
  rw [e, BitVec.toNat_not, IntKind.wrap_i64]
  have t : ((BitVec.ofInt 64 x).toNat : Int) = x % 18446744073709551616 := by
    rw [BitVec.toNat_ofInt]; simp; omega
  have l := (BitVec.ofInt 64 x).isLt
  omega
theorem xor1u (x : Int) (h : 0 ≤ x) (h2 : x < 18446744073709551616) : bits .xor .u64 IntKind.u64.max x = 18446744073709551615 - x := by
  have e : (BitVec.ofInt 64 IntKind.u64.max ^^^ BitVec.ofInt 64 x) = ~~~(BitVec.ofInt 64 x) := by
    rw [show BitVec.ofInt 64 IntKind.u64.max = BitVec.allOnes 64 from by decide, BitVec.allOnes_xor]
  show IntKind.u64.wrap ((BitVec.ofInt 64 IntKind.u64.max ^^^ BitVec.ofInt 64 x).toNat : Int) = _
  rw [e, BitVec.toNat_not, w64]
  have t : ((BitVec.ofInt 64 x).toNat : Int) = x % 18446744073709551616 := by
    rw [BitVec.toNat_ofInt]; simp; omega
  have l := (BitVec.ofInt 64 x).isLt
  omega
theorem ret_int {k : IntKind} {a b : Int} (h : a = b) : Ending.returned (.int k a) = .returned (.int k b) := by rw [h]
theorem ret_bool {a b : Bool} (h : a = b) : Ending.returned (.bool a) = .returned (.bool b) := by rw [h]
/-- A digit laid behind a number. -/
theorem digit (N c M : Nat) (hc : c < 256) (hN : N * 128 + c % 128 < 18446744073709551616) (hM : M = c % 128 + 128 * N) :
    bits .or .u64 ((N : Int) * 128) (IntKind.u64.wrap (bits .and .u8 (c : Int) 127)) = (M : Int) := by
  rw [and127b _ (by omega) (by omega), w64, Int.emod_eq_of_lt (by omega) (by omega), orJoin _ _ (by omega) (by omega) (by omega) (by omega) (by omega)]
  omega
theorem int_num {k : IntKind} {a b : Int} (h : a = b) : Value.int k a = Value.int k b := by rw [h]
end Go.Proofs.YtnmonoafjijfhaaGreat.I
namespace Go.Proofs.YtnmonoafjijfhaaGreat.M

/-- The bytes of n, the lowest seven bits first; f: how many bytes at most, less one. -/
def digsF : Nat → Nat → List UInt8
  | 0, n => [UInt8.ofNat n]
  | f + 1, n => if n < 128 then [UInt8.ofNat n] else UInt8.ofNat (n % 128 + 128) :: digsF f (n / 128)
/-- What Put lays for n. -/
def digs (n : Nat) : List UInt8 := digsF 9 n

theorem digsF_eq : ∀ (f g n : Nat), n < 128 ^ (f + 1) → n < 128 ^ (g + 1) → digsF f n = digsF g n
  | 0, 0, _, _, _ => rfl
  | 0, g + 1, n, hf, _ => by simp at hf; simp [digsF, hf]
  | f + 1, 0, n, _, hg => by simp at hg; simp [digsF, hg]
  | f + 1, g + 1, n, hf, hg => by
    simp only [digsF]
    split
    · rfl
    · rw [digsF_eq f g (n / 128) (by rw [Nat.pow_succ] at hf; exact Nat.div_lt_of_lt_mul (by omega)) (by rw [Nat.pow_succ] at hg; exact Nat.div_lt_of_lt_mul (by omega))]

theorem digs_low {n : Nat} (h : n < 128) : digs n = [UInt8.ofNat n] := by simp [digs, digsF, h]
theorem digs_more {n : Nat} (h : 128 ≤ n) (h2 : n < 2 ^ 64) : digs n = UInt8.ofNat (n % 128 + 128) :: digs (n / 128) := by
  have h' : ¬ n < 128 := by omega
  show digsF (8 + 1) n = _
  rw [digsF, if_neg h']
  congr 1
  exact digsF_eq 8 9 (n / 128) (by omega) (by omega)

theorem digsF_len : ∀ (f n : Nat), 1 ≤ (digsF f n).length ∧ (digsF f n).length ≤ f + 1
  | 0, n => by simp [digsF]
  | f + 1, n => by
    have := digsF_len f (n / 128)
    simp only [digsF]
    split
    · simp
    · simp; omega
theorem digs_len (n : Nat) : 1 ≤ (digs n).length ∧ (digs n).length ≤ 10 := digsF_len 9 n

/-- The number of so many digits. -/
def num : List UInt8 → Nat
  | [] => 0
  | c :: r => c.toNat % 128 + 128 * num r

/-- How many bytes at the head have their top bit set. -/
def lead : List UInt8 → Nat
  | [] => 0
  | c :: r => if c.toNat < 128 then 0 else lead r + 1

theorem lead_le : ∀ l, lead l ≤ l.length
  | [] => by simp [lead]
  | c :: r => by have := lead_le r; simp only [lead]; split <;> simp <;> omega

/-- Whether a number of so many bytes with that last one is the shortest. -/
def short (size last : Nat) : Bool := size == 1 || (decide (size < 10) && last != 0) || (size == 10 && last != 0 && decide (last ≤ 1))

/-- What Get answers of the bytes l at a place within them: the number, its bytes, the refusal. -/
def getR (r : List UInt8) : Nat × Nat × Nat :=
  if lead r = r.length then (0, 0, 10)
  else if short (lead r + 1) (r.getD (lead r) 0).toNat then (num (r.take (lead r + 1)), lead r + 1, 0) else (0, 0, 12)

/-- What Get answers. -/
def get (l : List UInt8) (at' : Int) : Nat × Nat × Nat :=
  if at' < 0 ∨ (l.length : Int) < at' then (0, 0, 1)
  else if (getR (l.drop at'.toNat)).2.2 = 0 then ((getR (l.drop at'.toNat)).1, at'.toNat + (getR (l.drop at'.toNat)).2.1, 0)
  else (0, 0, (getR (l.drop at'.toNat)).2.2)

/-- Zig and Zag. -/
def zig (n : Int) : Int := if n < 0 then -2 * n - 1 else 2 * n
def zag (n : Int) : Int := if n % 2 = 1 then -(n / 2) - 1 else n / 2

theorem lead_digsF : ∀ (f n : Nat) (r : List UInt8), n < 128 ^ (f + 1) → lead (digsF f n ++ r) + 1 = (digsF f n).length
  | 0, n, r, h => by
    simp at h
    have : n % 256 < 128 := by omega
    simp [digsF, lead, this]
  | f + 1, n, r, h => by
    simp only [digsF]
    split
    · have : n % 256 < 128 := by omega
      simp [lead, this]
    · have h1 : ¬ (n % 128 + 128) % 256 < 128 := by omega
      have ih := lead_digsF f (n / 128) r (by rw [Nat.pow_succ] at h; exact Nat.div_lt_of_lt_mul (by omega))
      simp [lead, h1, ih]

theorem num_digsF : ∀ (f n : Nat), n < 128 ^ (f + 1) → num (digsF f n) = n
  | 0, n, h => by simp at h; simp [digsF, num]; omega
  | f + 1, n, h => by
    simp only [digsF]
    split
    · simp [num]; omega
    · have ih := num_digsF f (n / 128) (by rw [Nat.pow_succ] at h; exact Nat.div_lt_of_lt_mul (by omega))
      simp [num, ih]; omega

theorem num_lt : ∀ r : List UInt8, num r < 128 ^ r.length
  | [] => by simp [num]
  | c :: r => by
    have := num_lt r
    simp only [num, List.length_cons, Nat.pow_succ]
    have : c.toNat % 128 < 128 := Nat.mod_lt _ (by decide)
    omega
theorem num_append : ∀ a b : List UInt8, num (a ++ b) = num a + 128 ^ a.length * num b
  | [], b => by simp [num]
  | c :: r, b => by
    simp only [List.cons_append, num, num_append r b, List.length_cons, Nat.pow_succ]
    rw [Nat.mul_add, ← Nat.mul_assoc, Nat.mul_comm 128 (128 ^ r.length)]
    omega

/-- The byte at a place, 0 behind the end. -/
def bAt (l : List UInt8) (k : Nat) : Nat := (l.getD k 0).toNat
theorem bAt_lt (l : List UInt8) (k : Nat) : bAt l k < 256 := UInt8.toNat_lt _
theorem drop_at {l : List UInt8} {k : Nat} (h : k < l.length) : l.drop k = l.getD k 0 :: l.drop (k + 1) := by
  rw [List.drop_eq_getElem_cons h]; simp [h]

theorem lead_more {l : List UInt8} {k : Nat} (h : k < l.length) (hb : 128 ≤ bAt l k) : lead (l.drop k) = 1 + lead (l.drop (k + 1)) := by
  rw [drop_at h]
  unfold bAt at hb
  simp only [lead]
  rw [if_neg (by omega)]; omega
theorem lead_last {l : List UInt8} {k : Nat} (h : k < l.length) (hb : bAt l k < 128) : lead (l.drop k) = 0 := by
  rw [drop_at h]
  unfold bAt at hb
  simp only [lead]
  rw [if_pos hb]
theorem lead_end {l : List UInt8} {k : Nat} (h : l.length ≤ k) : lead (l.drop k) = 0 := by
  rw [List.drop_eq_nil_of_le h]; rfl

/-- The j bytes that end with the one at K. -/
def seg (l : List UInt8) (K j : Nat) : List UInt8 := (l.drop (K + 1 - j)).take j
theorem seg_zero (l : List UInt8) (K : Nat) : num (seg l K 0) = 0 := by simp [seg, num]
theorem seg_succ {l : List UInt8} {K j : Nat} (hj : j ≤ K) (hK : K < l.length) : num (seg l K (j + 1)) = bAt l (K - j) % 128 + 128 * num (seg l K j) := by
  unfold seg bAt
  rw [show K + 1 - (j + 1) = K - j from by omega, drop_at (show K - j < l.length by omega), show K - j + 1 = K + 1 - j from by omega]
  simp [num]
theorem seg_mono {l : List UInt8} {K : Nat} (hK : K < l.length) : ∀ (d j : Nat), j + d ≤ K + 1 → num (seg l K j) ≤ num (seg l K (j + d))
  | 0, j, _ => Nat.le_refl _
  | d + 1, j, h => by
    have h1 := seg_mono hK d j (by omega)
    have h2 := seg_succ (l := l) (K := K) (j := j + d) (by omega) hK
    rw [show j + (d + 1) = j + d + 1 from by omega, h2]
    omega
theorem seg_full {l : List UInt8} {K at' : Nat} (h : at' ≤ K) : seg l K (K + 1 - at') = (l.drop at').take (K + 1 - at') := by
  unfold seg; rw [show K + 1 - (K + 1 - at') = at' from by omega]
theorem short_bound {r : List UInt8} {k : Nat} (h : k < r.length) (hs : short (k + 1) (r.getD k 0).toNat = true) : num (r.take (k + 1)) < 18446744073709551616 := by
  have hk : k ≤ 9 := by
    simp [short] at hs; omega
  by_cases h9 : k = 9
  · subst h9
    have ht : r.take (9 + 1) = r.take 9 ++ [r.getD 9 0] := by
      rw [List.take_succ_eq_append_getElem h]; simp [h]
    have hl : (r.getD 9 0).toNat ≤ 1 := by simp [short] at hs; simpa using hs.2
    rw [ht, num_append]
    have := num_lt (r.take 9)
    have hlen : (r.take 9).length = 9 := by simp; omega
    rw [hlen] at this ⊢
    simp only [num]
    omega
  · have := num_lt (r.take (k + 1))
    have hlen : (r.take (k + 1)).length = k + 1 := by simp; omega
    rw [hlen] at this
    have : 128 ^ (k + 1) ≤ 128 ^ 9 := Nat.pow_le_pow_right (by decide) (by omega)
    omega

theorem get_out {l : List UInt8} {at' : Int} (h : at' < 0 ∨ (l.length : Int) < at') : get l at' = (0, 0, 1) := by unfold get; rw [if_pos h]
theorem getR_end {r : List UInt8} (h : lead r = r.length) : getR r = (0, 0, 10) := by unfold getR; rw [if_pos h]
theorem get_end {l : List UInt8} {a : Nat} (h : a ≤ l.length) (hl : lead (l.drop a) = l.length - a) : get l (a : Int) = (0, 0, 10) := by
  unfold get
  rw [if_neg (by omega), Int.toNat_natCast, getR_end (by simpa using hl)]
  rfl
theorem get_form {l : List UInt8} {a k : Nat} (h : a + k < l.length) (hl : lead (l.drop a) = k) (hs : short (k + 1) (bAt l (a + k)) = false) : get l (a : Int) = (0, 0, 12) := by
  have e : ((l.drop a).getD k 0).toNat = bAt l (a + k) := by unfold bAt; simp
  have : getR (l.drop a) = (0, 0, 12) := by
    unfold getR
    rw [if_neg (by simp; omega), hl, e, hs]; rfl
  unfold get
  rw [if_neg (by omega), Int.toNat_natCast, this]
  rfl
theorem get_ok {l : List UInt8} {a k : Nat} (h : a + k < l.length) (hl : lead (l.drop a) = k) (hs : short (k + 1) (bAt l (a + k)) = true) : get l (a : Int) = (num ((l.drop a).take (k + 1)), a + k + 1, 0) := by
  have e : ((l.drop a).getD k 0).toNat = bAt l (a + k) := by unfold bAt; simp
  have : getR (l.drop a) = (num ((l.drop a).take (k + 1)), k + 1, 0) := by
    unfold getR
    rw [if_neg (by simp; omega), hl, e, hs]; rfl
  unfold get
  rw [if_neg (by omega), Int.toNat_natCast, this]
  rfl
theorem get_bound {l : List UInt8} {a k : Nat} (h : a + k < l.length) (hs : short (k + 1) (bAt l (a + k)) = true) : num ((l.drop a).take (k + 1)) < 18446744073709551616 := by
  have e : ((l.drop a).getD k 0).toNat = bAt l (a + k) := by unfold bAt; simp
  exact short_bound (by simp; omega) (by rw [e]; exact hs)

/-- What GetText answers. -/
def getText (l : List UInt8) (p most : Int) : List UInt8 × Nat × Nat :=
  if (get l p).2.2 ≠ 0 then ([], 0, (get l p).2.2)
  else if most.toNat < (get l p).1 then ([], 0, 3)
  else if l.length - (get l p).2.1 < (get l p).1 then ([], 0, 10)
  else ((l.drop (get l p).2.1).take (get l p).1, (get l p).2.1 + (get l p).1, 0)

theorem getR_bound (r : List UInt8) : (getR r).1 < 18446744073709551616 ∧ (getR r).2.1 ≤ r.length ∧ (getR r).2.2 ≤ 12 := by
  unfold getR
  have hl := lead_le r
  split
  · simp
  · split
    · rename_i h1 h2
      exact ⟨short_bound (by omega) h2, by simp; omega, by simp⟩
    · simp
theorem get_all (l : List UInt8) (p : Int) : (get l p).1 < 18446744073709551616 ∧ (get l p).2.1 ≤ l.length ∧ (get l p).2.2 ≤ 12 := by
  unfold get
  split
  · simp
  · rename_i h
    have hb := getR_bound (l.drop p.toNat)
    simp only [List.length_drop] at hb
    split
    · exact ⟨hb.1, by simp; omega, by simp⟩
    · exact ⟨by simp, by simp, hb.2.2⟩

end Go.Proofs.YtnmonoafjijfhaaGreat.M
namespace Go.Proofs.YtnmonoafjijfhaaGreat.M

theorem num_digs {n : Nat} (h : n < 18446744073709551616) : num (digs n) = n := num_digsF 9 n (by omega)
theorem lead_digs {n : Nat} (h : n < 18446744073709551616) (r : List UInt8) : lead (digs n ++ r) + 1 = (digs n).length := lead_digsF 9 n r (by omega)

theorem last_digsF : ∀ (f n : Nat), n < 128 ^ (f + 1) →
    ((digsF f n).getD ((digsF f n).length - 1) 0).toNat = n / 128 ^ ((digsF f n).length - 1) ∧ ((digsF f n).length = 1 ∨ 1 ≤ n / 128 ^ ((digsF f n).length - 1))
  | 0, n, h => by
    simp at h
    simp [digsF]; omega
  | f + 1, n, h => by
    simp only [digsF]
    split
    · simp; omega
    · have hd : n / 128 < 128 ^ (f + 1) := by rw [Nat.pow_succ] at h; exact Nat.div_lt_of_lt_mul (by omega)
      have ih := last_digsF f (n / 128) hd
      have hl := digsF_len f (n / 128)
      obtain ⟨L, hL⟩ : ∃ L, (digsF f (n / 128)).length = L + 1 := ⟨(digsF f (n / 128)).length - 1, by omega⟩
      rw [hL] at ih
      simp only [List.length_cons, hL, Nat.add_sub_cancel, List.getD_cons_succ] at ih ⊢
      have e : n / 128 / 128 ^ L = n / 128 ^ (L + 1) := by rw [Nat.div_div_eq_div_mul, Nat.pow_succ, Nat.mul_comm]
      rw [e] at ih
      refine ⟨ih.1, Or.inr ?_⟩
      rcases ih.2 with h1 | h1
      · have : L = 0 := by omega
        subst this
        simp; omega
      · exact h1

theorem short_digs {n : Nat} (h : n < 18446744073709551616) : short (digs n).length ((digs n).getD ((digs n).length - 1) 0).toNat = true := by
  have hb := last_digsF 9 n (by omega)
  have hl := digs_len n
  change ((digs n).getD ((digs n).length - 1) 0).toNat = n / 128 ^ ((digs n).length - 1) ∧ ((digs n).length = 1 ∨ 1 ≤ n / 128 ^ ((digs n).length - 1)) at hb
  rw [hb.1]
  by_cases h1 : (digs n).length = 1
  · simp [short, h1]
  · have h2 : 1 ≤ n / 128 ^ ((digs n).length - 1) := by
      rcases hb.2 with h3 | h3
      · exact absurd h3 h1
      · exact h3
    by_cases h10 : (digs n).length = 10
    · rw [h10] at h2 ⊢
      have h3 : n / 128 ^ 9 ≤ 1 := by omega
      simp only [Nat.add_one_sub_one] at h2 ⊢
      generalize n / 128 ^ 9 = q at h2 h3 ⊢
      simp only [short]
      simp
      omega
    · have h9 : (digs n).length < 10 := by omega
      generalize n / 128 ^ ((digs n).length - 1) = q at h2 ⊢
      simp only [short]
      simp
      omega

theorem getR_digs {n : Nat} (h : n < 18446744073709551616) (r : List UInt8) : getR (digs n ++ r) = (n, (digs n).length, 0) := by
  have hl := lead_digs h r
  have hlen := digs_len n
  unfold getR
  rw [if_neg (by simp; omega), hl]
  have e : (digs n ++ r).getD (lead (digs n ++ r)) 0 = (digs n).getD ((digs n).length - 1) 0 := by
    rw [show lead (digs n ++ r) = (digs n).length - 1 from by omega]
    simp only [List.getD_eq_getElem?_getD]
    rw [List.getElem?_append_left (by omega)]
  rw [e, short_digs h]
  simp [num_digs h]

/-- What is put is got, behind anything, ahead of anything. -/
theorem get_digs {n : Nat} (h : n < 18446744073709551616) (l r : List UInt8) : get (l ++ digs n ++ r) (l.length : Int) = (n, l.length + (digs n).length, 0) := by
  unfold get
  rw [if_neg (by simp; omega), Int.toNat_natCast]
  have e : (l ++ digs n ++ r).drop l.length = digs n ++ r := by rw [List.append_assoc]; simp
  rw [e, getR_digs h]
  simp

theorem num_pos : ∀ (q : List UInt8), q ≠ [] → (q.getD (q.length - 1) 0).toNat % 128 ≠ 0 → 1 ≤ num q
  | [], h, _ => absurd rfl h
  | [c], _, h => by simp at h; simp [num]; omega
  | c :: d :: t, _, h => by
    have ih := num_pos (d :: t) (by simp) (by simpa using h)
    simp only [num] at ih ⊢
    omega

theorem last_low : ∀ (q : List UInt8), lead q + 1 = q.length → (q.getD (q.length - 1) 0).toNat < 128
  | [], h => by simp [lead] at h
  | [c], h => by
    by_cases h' : c.toNat < 128
    · simpa using h'
    · simp [lead, h'] at h
  | c :: d :: t, h => by
    have hc : ¬ c.toNat < 128 := by
      intro h'
      simp [lead, h'] at h
    have hl' : lead (d :: t) + 1 = (d :: t).length := by
      have : lead (c :: d :: t) = lead (d :: t) + 1 := by rw [lead]; rw [if_neg hc]
      rw [this] at h
      simpa using h
    simpa using last_low (d :: t) hl'

theorem digsF_num : ∀ (q : List UInt8) (f : Nat), q.length ≤ f + 1 → lead q + 1 = q.length → (q.length = 1 ∨ (q.getD (q.length - 1) 0).toNat ≠ 0) → digsF f (num q) = q
  | [], f, _, hl, _ => by simp [lead] at hl
  | [c], f, _, hl, _ => by
    have hc : c.toNat < 128 := by
      simp only [lead] at hl
      by_cases h : c.toNat < 128
      · exact h
      · simp [h] at hl
    have e : num [c] = c.toNat := by simp [num]; omega
    rw [e]
    cases f with
    | zero => simp [digsF]
    | succ f => simp [digsF, hc]
  | c :: d :: t, 0, h, _, _ => by simp at h
  | c :: d :: t, f + 1, h, hl, hz => by
    have hc : ¬ c.toNat < 128 := by
      intro h'
      simp [lead, h'] at hl
    have hl' : lead (d :: t) + 1 = (d :: t).length := by
      have : lead (c :: d :: t) = lead (d :: t) + 1 := by rw [lead]; rw [if_neg hc]
      rw [this] at hl
      simpa using hl
    have hz' : ((d :: t).getD ((d :: t).length - 1) 0).toNat ≠ 0 := by simpa using hz
    have hlast : ((d :: t).getD ((d :: t).length - 1) 0).toNat < 128 := last_low (d :: t) hl'
    have hp := num_pos (d :: t) (by simp) (by rw [Nat.mod_eq_of_lt hlast]; exact hz')
    have ih := digsF_num (d :: t) f (by simpa using h) hl' (Or.inr hz')
    have hlt := c.toNat_lt
    have e1 : num (c :: d :: t) % 128 + 128 = c.toNat := by
      simp only [num]; omega
    have e2 : num (c :: d :: t) / 128 = num (d :: t) := by
      rw [num]; omega
    have hge : ¬ num (c :: d :: t) < 128 := by rw [num]; omega
    rw [digsF, if_neg hge, e1, e2, ih]
    simp

theorem lead_take : ∀ (r : List UInt8), lead r < r.length → lead (r.take (lead r + 1)) = lead r
  | [], h => by simp at h
  | c :: r, h => by
    by_cases hc : c.toNat < 128
    · simp [lead, hc]
    · simp only [lead, hc, if_false] at h ⊢
      have := lead_take r (by simpa using h)
      simp [lead, hc, this]

/-- What is got is what is put. -/
theorem getR_back {r : List UInt8} {v k : Nat} (h : getR r = (v, k, 0)) : 1 ≤ k ∧ k ≤ r.length ∧ digs v = r.take k := by
  unfold getR at h
  have hle := lead_le r
  split at h
  · simp at h
  · rename_i hne
    split at h
    · rename_i hs
      simp only [Prod.mk.injEq] at h
      obtain ⟨rfl, rfl, _⟩ := h
      have hlt : lead r < r.length := by omega
      refine ⟨by omega, by omega, ?_⟩
      have hlen : (r.take (lead r + 1)).length = lead r + 1 := by simp; omega
      have hlast : (r.take (lead r + 1)).getD ((r.take (lead r + 1)).length - 1) 0 = r.getD (lead r) 0 := by
        rw [hlen]
        simp
      refine digsF_num _ 9 ?_ ?_ ?_
      · rw [hlen]
        simp [short] at hs; omega
      · rw [lead_take r hlt, hlen]
      · rw [hlast, hlen]
        simp only [short] at hs
        simp at hs ⊢
        omega
    · simp at h

theorem zag_zig (n : Int) : zag (zig n) = n := by unfold zag zig; split <;> split <;> omega
theorem zig_zag (n : Int) (h : 0 ≤ n) : zig (zag n) = n := by unfold zag zig; split <;> split <;> omega
end Go.Proofs.YtnmonoafjijfhaaGreat.M
namespace Go.Proofs.YtnmonoafjijfhaaGreat.M

/-- The number of the first j bytes from p on. -/
def upto (l : List UInt8) (p j : Nat) : Nat := num ((l.drop p).take j)
end Go.Proofs.YtnmonoafjijfhaaGreat.M
