/-
  Plain facts on numbers of seven bits a byte: what is put is got, and what is got is what is put.
-/
import Derived.Test.YtkhbkifofkjjnaaMath
namespace Go.Proofs.Ytkhbkifofkjjnaa.M

theorem num_digs {n : Nat} (h : n < 18446744073709551616) : num (digs n) = n := num_digsF 9 n (by omega)
theorem lead_digs {n : Nat} (h : n < 18446744073709551616) (r : List UInt8) : lead (digs n ++ r) + 1 = (digs n).length := lead_digsF 9 n r (by omega)

theorem last_digsF : ∀ (f n : Nat), n < 128 ^ (f + 1) →
    ((digsF f n).getD ((digsF f n).length - 1) 0).toNat = n / 128 ^ ((digsF f n).length - 1) ∧ ((digsF f n).length = 1 ∨ 1 ≤ n / 128 ^ ((digsF f n).length - 1))
  | 0, n, h => by
    simp at h
    simp [digsF]; omega
  | f + 1, n, h => by
    simp only [digsF]
    split
    · simp; omega
    · have hd : n / 128 < 128 ^ (f + 1) := by rw [Nat.pow_succ] at h; exact Nat.div_lt_of_lt_mul (by omega)
      have ih := last_digsF f (n / 128) hd
      have hl := digsF_len f (n / 128)
      obtain ⟨L, hL⟩ : ∃ L, (digsF f (n / 128)).length = L + 1 := ⟨(digsF f (n / 128)).length - 1, by omega⟩
      rw [hL] at ih
      simp only [List.length_cons, hL, Nat.add_sub_cancel, List.getD_cons_succ] at ih ⊢
      have e : n / 128 / 128 ^ L = n / 128 ^ (L + 1) := by rw [Nat.div_div_eq_div_mul, Nat.pow_succ, Nat.mul_comm]
      rw [e] at ih
      refine ⟨ih.1, Or.inr ?_⟩
      rcases ih.2 with h1 | h1
      · have : L = 0 := by omega
        subst this
        simp; omega
      · exact h1

theorem short_digs {n : Nat} (h : n < 18446744073709551616) : short (digs n).length ((digs n).getD ((digs n).length - 1) 0).toNat = true := by
  have hb := last_digsF 9 n (by omega)
  have hl := digs_len n
  change ((digs n).getD ((digs n).length - 1) 0).toNat = n / 128 ^ ((digs n).length - 1) ∧ ((digs n).length = 1 ∨ 1 ≤ n / 128 ^ ((digs n).length - 1)) at hb
  rw [hb.1]
  by_cases h1 : (digs n).length = 1
  · simp [short, h1]
  · have h2 : 1 ≤ n / 128 ^ ((digs n).length - 1) := by
      rcases hb.2 with h3 | h3
      · exact absurd h3 h1
      · exact h3
    by_cases h10 : (digs n).length = 10
    · rw [h10] at h2 ⊢
      have h3 : n / 128 ^ 9 ≤ 1 := by omega
      simp only [Nat.add_one_sub_one] at h2 ⊢
      generalize n / 128 ^ 9 = q at h2 h3 ⊢
      simp only [short]
      simp
      omega
    · have h9 : (digs n).length < 10 := by omega
      generalize n / 128 ^ ((digs n).length - 1) = q at h2 ⊢
      simp only [short]
      simp
      omega

theorem getR_digs {n : Nat} (h : n < 18446744073709551616) (r : List UInt8) : getR (digs n ++ r) = (n, (digs n).length, 0) := by
  have hl := lead_digs h r
  have hlen := digs_len n
  unfold getR
  rw [if_neg (by simp; omega), hl]
  have e : (digs n ++ r).getD (lead (digs n ++ r)) 0 = (digs n).getD ((digs n).length - 1) 0 := by
    rw [show lead (digs n ++ r) = (digs n).length - 1 from by omega]
    simp only [List.getD_eq_getElem?_getD]
    rw [List.getElem?_append_left (by omega)]
  rw [e, short_digs h]
  simp [num_digs h]

/-- What is put is got, behind anything, ahead of anything. -/
theorem get_digs {n : Nat} (h : n < 18446744073709551616) (l r : List UInt8) : get (l ++ digs n ++ r) (l.length : Int) = (n, l.length + (digs n).length, 0) := by
  unfold get
  rw [if_neg (by simp; omega), Int.toNat_natCast]
  have e : (l ++ digs n ++ r).drop l.length = digs n ++ r := by rw [List.append_assoc]; simp
  rw [e, getR_digs h]
  simp

theorem num_pos : ∀ (q : List UInt8), q ≠ [] → (q.getD (q.length - 1) 0).toNat % 128 ≠ 0 → 1 ≤ num q
  | [], h, _ => absurd rfl h
  | [c], _, h => by simp at h; simp [num]; omega
  | c :: d :: t, _, h => by
    have ih := num_pos (d :: t) (by simp) (by simpa using h)
    simp only [num] at ih ⊢
    omega

theorem last_low : ∀ (q : List UInt8), lead q + 1 = q.length → (q.getD (q.length - 1) 0).toNat < 128
  | [], h => by simp [lead] at h
  | [c], h => by
    by_cases h' : c.toNat < 128
    · simpa using h'
    · simp [lead, h'] at h
  | c :: d :: t, h => by
    have hc : ¬ c.toNat < 128 := by
      intro h'
      simp [lead, h'] at h
    have hl' : lead (d :: t) + 1 = (d :: t).length := by
      have : lead (c :: d :: t) = lead (d :: t) + 1 := by rw [lead]; rw [if_neg hc]
      rw [this] at h
      simpa using h
    simpa using last_low (d :: t) hl'

theorem digsF_num : ∀ (q : List UInt8) (f : Nat), q.length ≤ f + 1 → lead q + 1 = q.length → (q.length = 1 ∨ (q.getD (q.length - 1) 0).toNat ≠ 0) → digsF f (num q) = q
  | [], f, _, hl, _ => by simp [lead] at hl
  | [c], f, _, hl, _ => by
    have hc : c.toNat < 128 := by
      simp only [lead] at hl
      by_cases h : c.toNat < 128
      · exact h
      · simp [h] at hl
    have e : num [c] = c.toNat := by simp [num]; omega
    rw [e]
    cases f with
    | zero => simp [digsF]
    | succ f => simp [digsF, hc]
  | c :: d :: t, 0, h, _, _ => by simp at h
  | c :: d :: t, f + 1, h, hl, hz => by
    have hc : ¬ c.toNat < 128 := by
      intro h'
      simp [lead, h'] at hl
    have hl' : lead (d :: t) + 1 = (d :: t).length := by
      have : lead (c :: d :: t) = lead (d :: t) + 1 := by rw [lead]; rw [if_neg hc]
      rw [this] at hl
      simpa using hl
    have hz' : ((d :: t).getD ((d :: t).length - 1) 0).toNat ≠ 0 := by simpa using hz
    have hlast : ((d :: t).getD ((d :: t).length - 1) 0).toNat < 128 := last_low (d :: t) hl'
    have hp := num_pos (d :: t) (by simp) (by rw [Nat.mod_eq_of_lt hlast]; exact hz')
    have ih := digsF_num (d :: t) f (by simpa using h) hl' (Or.inr hz')
    have hlt := c.toNat_lt
    have e1 : num (c :: d :: t) % 128 + 128 = c.toNat := by
      simp only [num]; omega
    have e2 : num (c :: d :: t) / 128 = num (d :: t) := by
      rw [num]; omega
    have hge : ¬ num (c :: d :: t) < 128 := by rw [num]; omega
    rw [digsF, if_neg hge, e1, e2, ih]
    simp

theorem lead_take : ∀ (r : List UInt8), lead r < r.length → lead (r.take (lead r + 1)) = lead r
  | [], h => by simp at h
  | c :: r, h => by
    by_cases hc : c.toNat < 128
    · simp [lead, hc]
    · simp only [lead, hc, if_false] at h ⊢
      have := lead_take r (by simpa using h)
      simp [lead, hc, this]

/-- What is got is what is put. -/
theorem getR_back {r : List UInt8} {v k : Nat} (h : getR r = (v, k, 0)) : 1 ≤ k ∧ k ≤ r.length ∧ digs v = r.take k := by
  unfold getR at h
  have hle := lead_le r
  split at h
  · simp at h
  · rename_i hne
    split at h
    · rename_i hs
      simp only [Prod.mk.injEq] at h
      obtain ⟨rfl, rfl, _⟩ := h
      have hlt : lead r < r.length := by omega
      refine ⟨by omega, by omega, ?_⟩
      have hlen : (r.take (lead r + 1)).length = lead r + 1 := by simp; omega
      have hlast : (r.take (lead r + 1)).getD ((r.take (lead r + 1)).length - 1) 0 = r.getD (lead r) 0 := by
        rw [hlen]
        simp
      refine digsF_num _ 9 ?_ ?_ ?_
      · rw [hlen]
        simp [short] at hs; omega
      · rw [lead_take r hlt, hlen]
      · rw [hlast, hlen]
        simp only [short] at hs
        simp at hs ⊢
        omega
    · simp at h

theorem get_back {l : List UInt8} {v k : Nat} (h : get l 0 = (v, k, 0)) : 1 ≤ k ∧ k ≤ l.length ∧ digs v = l.take k := by
  unfold get at h
  rw [if_neg (by omega)] at h
  simp only [Int.toNat_zero, List.drop_zero] at h
  obtain ⟨⟨x, y, z⟩, hx⟩ : ∃ x, getR l = x := ⟨_, rfl⟩
  rw [hx] at h
  simp only at h
  split at h
  · rename_i hz
    simp only [Prod.mk.injEq] at h
    obtain ⟨rfl, rfl, _⟩ := h
    subst hz
    have := getR_back hx
    simpa using this
  · rename_i hz
    simp only [Prod.mk.injEq] at h
    exact absurd h.2.2 hz

/-- A text that is put is got. -/
theorem getText_digs (l s : List UInt8) (h : s.length < 18446744073709551616) (most : Int) (hm : (s.length : Int) ≤ most) :
    getText (l ++ digs s.length ++ s) (l.length : Int) most = (s, l.length + (digs s.length).length + s.length, 0) := by
  unfold getText
  rw [get_digs h l s]
  simp only
  rw [if_neg (by simp), if_neg (by omega), if_neg (by simp; omega)]
  have e : (l ++ digs s.length ++ s).drop (l.length + (digs s.length).length) = s := by
    rw [← List.length_append]; simp
  rw [e]
  simp

theorem digsF_mono : ∀ (f n m : Nat), n ≤ m → (digsF f n).length ≤ (digsF f m).length
  | 0, n, m, _ => by simp [digsF]
  | f + 1, n, m, h => by
    simp only [digsF]
    by_cases h1 : n < 128
    · have := digsF_len f (m / 128)
      rw [if_pos h1]; split <;> simp
    · rw [if_neg h1, if_neg (by omega)]
      have := digsF_mono f (n / 128) (m / 128) (Nat.div_le_div_right h)
      simpa using this
theorem digs_mono {n m : Nat} (h : n ≤ m) : (digs n).length ≤ (digs m).length := digsF_mono 9 n m h
theorem digs_inj {n m : Nat} (hn : n < 18446744073709551616) (hm : m < 18446744073709551616) : digs n = digs m ↔ n = m :=
  ⟨fun h => by rw [← num_digs hn, h, num_digs hm], fun h => by rw [h]⟩
theorem zag_zig (n : Int) : zag (zig n) = n := by unfold zag zig; split <;> split <;> omega
theorem zig_zag (n : Int) (h : 0 ≤ n) : zig (zag n) = n := by unfold zag zig; split <;> split <;> omega
end Go.Proofs.Ytkhbkifofkjjnaa.M
