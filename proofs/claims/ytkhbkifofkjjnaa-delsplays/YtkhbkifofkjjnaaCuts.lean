/-
  Plain facts on texts of which a part is cut off, or behind which something stands.
-/
import Derived.Test.YtkhbkifofkjjnaaMore
namespace Go.Proofs.Ytkhbkifofkjjnaa.M

theorem lead_prefix : ∀ (f n k : Nat), k < (digsF f n).length → lead ((digsF f n).take k) = k
  | 0, n, k, h => by
    have : k = 0 := by simp [digsF] at h; omega
    subst this; simp [lead]
  | f + 1, n, k, h => by
    simp only [digsF] at h ⊢
    split
    · rename_i hn
      rw [if_pos hn] at h
      have : k = 0 := by simp at h; omega
      subst this; simp [lead]
    · rename_i hn
      rw [if_neg hn] at h
      cases k with
      | zero => simp [lead]
      | succ k =>
        have ih := lead_prefix f (n / 128) k (by simpa using h)
        have h1 : ¬ (n % 128 + 128) % 256 < 128 := by omega
        simp [lead, h1, ih]

theorem get_front {n : Nat} (h : n < 18446744073709551616) (r : List UInt8) : get (digs n ++ r) 0 = (n, (digs n).length, 0) := by
  have := get_digs h [] r
  simpa using this

theorem get_cut {n k : Nat} (r : List UInt8) (h : k < (digs n).length) : get ((digs n ++ r).take k) 0 = (0, 0, 10) := by
  have e : (digs n ++ r).take k = (digs n).take k := List.take_append_of_le_length (by omega)
  rw [e]
  have hl := lead_prefix 9 n k h
  have hlen : ((digs n).take k).length = k := by simp; omega
  have := get_end (l := (digs n).take k) (a := 0) (by omega) (by simp only [List.drop_zero, Nat.sub_zero, hlen]; exact hl)
  simpa using this

theorem getText_fits {s r : List UInt8} {most : Int} (hs : s.length < 18446744073709551616) (h : (s.length : Int) ≤ most) :
    getText (digs s.length ++ s ++ r) 0 most = (s, (digs s.length ++ s).length, 0) := by
  unfold getText
  rw [List.append_assoc, get_front hs]
  simp only
  rw [if_neg (by simp), if_neg (by omega), if_neg (by simp)]
  simp
theorem getText_wide {s r : List UInt8} {most : Int} (hs : s.length < 18446744073709551616) (h : most < (s.length : Int)) (h0 : 0 ≤ most) :
    getText (digs s.length ++ s ++ r) 0 most = ([], 0, 3) := by
  unfold getText
  rw [List.append_assoc, get_front hs]
  simp only
  rw [if_neg (by simp), if_pos (by omega)]
theorem getText_head {s : List UInt8} {k : Nat} {most : Int} (h : k < (digs s.length).length) : getText ((digs s.length ++ s).take k) 0 most = ([], 0, 10) := by
  unfold getText
  rw [get_cut s h]
  simp
theorem take_behind {s : List UInt8} {k : Nat} (h : (digs s.length).length ≤ k) : (digs s.length ++ s).take k = digs s.length ++ s.take (k - (digs s.length).length) := by
  rw [List.take_append]
  rw [List.take_of_length_le h]
theorem getText_wide2 {s : List UInt8} {k : Nat} {most : Int} (hs : s.length < 18446744073709551616) (hk : (digs s.length).length ≤ k) (h : most < (s.length : Int)) (h0 : 0 ≤ most) :
    getText ((digs s.length ++ s).take k) 0 most = ([], 0, 3) := by
  rw [take_behind hk]
  unfold getText
  rw [get_front hs]
  simp only
  rw [if_neg (by simp), if_pos (by omega)]
theorem getText_lack {s : List UInt8} {k : Nat} {most : Int} (hs : s.length < 18446744073709551616) (hk : (digs s.length).length ≤ k) (hk2 : k < (digs s.length ++ s).length) (h : (s.length : Int) ≤ most) :
    getText ((digs s.length ++ s).take k) 0 most = ([], 0, 10) := by
  rw [take_behind hk]
  unfold getText
  rw [get_front hs]
  simp only
  simp at hk2
  rw [if_neg (by simp), if_neg (by omega), if_pos (by simp; omega)]

/-- The number of the first j bytes from p on. -/
def upto (l : List UInt8) (p j : Nat) : Nat := num ((l.drop p).take j)
theorem upto_zero (l : List UInt8) (p : Nat) : upto l p 0 = 0 := by simp [upto, num]
theorem upto_succ {l : List UInt8} {p j : Nat} (h : p + j < l.length) : upto l p (j + 1) = upto l p j + bAt l (p + j) % 128 * 128 ^ j := by
  unfold upto bAt
  have hj : j < (l.drop p).length := by simp; omega
  rw [List.take_succ_eq_append_getElem hj, num_append]
  have hlen : ((l.drop p).take j).length = j := by simp; omega
  rw [hlen]
  have e : (l.drop p)[j] = l.getD (p + j) 0 := by simp [h]
  rw [e]
  simp only [num, Nat.mul_zero, Nat.add_zero]
  rw [Nat.mul_comm]
theorem upto_lt (l : List UInt8) (p j : Nat) : upto l p j < 128 ^ j := by
  unfold upto
  have h := num_lt ((l.drop p).take j)
  have : 128 ^ ((l.drop p).take j).length ≤ 128 ^ j := Nat.pow_le_pow_right (by decide) (by simp; omega)
  omega
theorem upto_mono {l : List UInt8} {p : Nat} : ∀ (e j : Nat), p + j + e ≤ l.length → upto l p j ≤ upto l p (j + e)
  | 0, _, _ => Nat.le_refl _
  | e + 1, j, h => by
    have h1 := upto_mono (l := l) (p := p) e j (by omega)
    have h2 := upto_succ (l := l) (p := p) (j := j + e) (by omega)
    rw [show j + (e + 1) = j + e + 1 from by omega, h2]
    omega
end Go.Proofs.Ytkhbkifofkjjnaa.M
