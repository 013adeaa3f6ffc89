/-
  A zone is written and read as itself; what is read is Right, and its bytes are those that are written. No program here.
-/
import Derived.Test.YtnfbmffafclaaaaZdec
namespace Go.Proofs.Ytnfbmffafclaaaa.Z
open Go.Proofs.Ytnfbmffafclaaaa
set_option linter.unusedVariables false
set_option linter.unusedSimpArgs false
/-- A number that is got: the bytes up to its end. -/
theorem get_at {b : List UInt8} {p v k : Nat} (h : M.get b (p : Int) = (v, k, 0)) : p ≤ k ∧ k ≤ b.length ∧ b.take k = b.take p ++ M.digs v ∧ v < 18446744073709551616 := by
  have hall := (M.get_all b p).1
  rw [h] at hall
  unfold M.get at h
  split at h
  · simp at h
  · rename_i h1
    simp only [Int.toNat_natCast] at h
    split at h
    · rename_i h2
      simp only [Prod.mk.injEq] at h
      obtain ⟨hv, hk, _⟩ := h
      obtain ⟨b1, b2, b3⟩ := M.getR_back (r := b.drop p) (v := v) (k := (M.getR (b.drop p)).2.1) (by rw [← hv]; exact Prod.ext rfl (Prod.ext rfl h2))
      simp at b2
      refine ⟨by omega, by omega, ?_, hall⟩
      rw [b3, ← hk, List.take_add]
    · rename_i h2
      simp only [Prod.mk.injEq] at h
      exact absurd h.2.2 h2
theorem getText_at {b t : List UInt8} {p k : Nat} (h : M.getText b (p : Int) 40 = (t, k, 0)) : p ≤ k ∧ k ≤ b.length ∧ b.take k = b.take p ++ (M.digs t.length ++ t) ∧ t.length ≤ 40 := by
  unfold M.getText at h
  split at h
  · rename_i h1; simp only [Prod.mk.injEq] at h; exact absurd h.2.2 h1
  · rename_i h1
    split at h
    · simp at h
    · rename_i h2
      split at h
      · simp at h
      · rename_i h3
        simp only [Prod.mk.injEq] at h
        obtain ⟨rfl, rfl, _⟩ := h
        obtain ⟨v, m, e⟩ : ∃ v m, M.get b (p : Int) = (v, m, 0) := ⟨_, _, Prod.ext rfl (Prod.ext rfl (Decidable.not_not.1 h1))⟩
        rw [e] at h2 h3 ⊢
        simp only at h2 h3 ⊢
        obtain ⟨g1, g2, g3, g4⟩ := get_at e
        have hl : ((b.drop m).take v).length = v := by simp; omega
        refine ⟨by omega, by omega, ?_, by rw [hl]; have : (40 : Int).toNat = 40 := rfl; omega⟩
        rw [hl, List.take_add, g3, List.append_assoc]
theorem it_at {b : List UInt8} {K : Int} {p : Nat} {x : Nat} {t : List UInt8} {k : Nat} (h : it b K (p : Int) = (x, t, k, 0)) : p ≤ k ∧ k ≤ b.length ∧ x < 18446744073709551616 ∧ t.length ≤ 40 ∧ (K = 1 → t = [] ∧ b.take k = b.take p ++ M.digs x) ∧ (K ≠ 1 → x = 0 ∧ b.take k = b.take p ++ (M.digs t.length ++ t)) := by
  unfold it at h
  split at h
  · rename_i hK
    simp only [Prod.mk.injEq] at h
    obtain ⟨rfl, rfl, rfl, h4⟩ := h
    obtain ⟨g1, g2, g3, g4⟩ := get_at (b := b) (p := p) (v := (M.get b p).1) (k := (M.get b p).2.1) (Prod.ext rfl (Prod.ext rfl h4))
    exact ⟨g1, g2, g4, by simp, fun _ => ⟨rfl, g3⟩, fun hn => absurd hK hn⟩
  · rename_i hK
    simp only [Prod.mk.injEq] at h
    obtain ⟨rfl, rfl, rfl, h4⟩ := h
    obtain ⟨g1, g2, g3, g4⟩ := getText_at (b := b) (p := p) (t := (M.getText b p 40).1) (k := (M.getText b p 40).2.1) (Prod.ext rfl (Prod.ext rfl h4))
    exact ⟨g1, g2, by omega, g4, fun hn => absurd hn hK, fun _ => ⟨rfl, g3⟩⟩
theorem fin_ok {z z' : Zn} {k : Nat} {k2 : Nat} (h : fin z (k : Int) = (z', k2, 0)) : right z = true ∧ z' = z ∧ k2 = k := by
  unfold fin at h
  split at h
  · rename_i hr
    simp only [Prod.mk.injEq, Int.toNat_natCast] at h
    exact ⟨hr, h.1.symm, h.2.1.symm⟩
  · simp at h
theorem zag_in {x : Nat} (h : x < 18446744073709551616) : -9223372036854775808 ≤ M.zag (x : Int) ∧ M.zag (x : Int) ≤ 9223372036854775807 := by
  unfold M.zag; split <;> omega
/-- Bytes that are read. -/
theorem dec_ok {b : List UInt8} {p : Nat} {z : Zn} {k : Nat} (h : dec b (p : Int) = (z, k, 0)) : right z = true ∧ k ≤ b.length ∧ b.take k = b.take p ++ enc z ∧ In64 z.mn ∧ In64 z.mx := by
  unfold dec at h
  rw [dec1] at h
  split at h
  · rename_i e1; simp only [Prod.mk.injEq] at h; exact absurd h.2.2 e1
  rename_i e1
  obtain ⟨K, k1, g1⟩ : ∃ v m, M.get b (p : Int) = (v, m, 0) := ⟨_, _, Prod.ext rfl (Prod.ext rfl (Decidable.not_not.1 e1))⟩
  rw [g1] at h
  simp only [List.nil_append] at h
  rw [dec1] at h
  split at h
  · rename_i e2; simp only [Prod.mk.injEq] at h; exact absurd h.2.2 e2
  rename_i e2
  obtain ⟨R, k2, g2⟩ : ∃ v m, M.get b (k1 : Int) = (v, m, 0) := ⟨_, _, Prod.ext rfl (Prod.ext rfl (Decidable.not_not.1 e2))⟩
  rw [g2] at h
  simp only [List.cons_append, List.nil_append] at h
  rw [dec1] at h
  split at h
  · rename_i e3; simp only [Prod.mk.injEq] at h; exact absurd h.2.2 e3
  rename_i e3
  obtain ⟨U, k3, g3⟩ : ∃ v m, M.get b (k2 : Int) = (v, m, 0) := ⟨_, _, Prod.ext rfl (Prod.ext rfl (Decidable.not_not.1 e3))⟩
  rw [g3] at h
  simp only [List.cons_append, List.nil_append] at h
  rw [dec1] at h
  unfold dec2 at h
  simp only [List.getD_cons_zero, List.getD_cons_succ] at h
  obtain ⟨a1, a2, a3, a4⟩ := get_at g1
  obtain ⟨b1, b2, b3, b4⟩ := get_at g2
  obtain ⟨c1, c2, c3, c4⟩ := get_at g3
  rw [b3, a3] at c3
  split at h
  · simp at h
  rename_i hc
  rw [dec3] at h
  simp only at h
  split at h
  · rename_i hru
    obtain ⟨hr, rfl, rfl⟩ := fin_ok h
    refine ⟨hr, c2, ?_, ⟨by simp, by simp⟩, ⟨by simp, by simp⟩⟩
    rw [c3]
    unfold enc
    have : R = U := by omega
    simp [this]
  · rename_i hru
    split at h
    · rename_i e4; simp only [Prod.mk.injEq] at h; exact absurd h.2.2 e4
    rename_i e4
    obtain ⟨⟨x, t, m1, e⟩, hi⟩ : ∃ q, q = it b (K : Int) (k3 : Int) := ⟨_, rfl⟩
    rw [← hi] at h e4
    simp only [ne_eq, Decidable.not_not] at e4
    subst e4
    simp only [if_true] at h
    rw [dec3] at h
    simp only at h
    rw [if_neg (by omega)] at h
    split at h
    · rename_i e5; simp only [Prod.mk.injEq] at h; exact absurd h.2.2 e5
    rename_i e5
    obtain ⟨⟨x2, t2, m2, e⟩, hi2⟩ : ∃ q, q = it b (K : Int) (m1 : Int) := ⟨_, rfl⟩
    rw [← hi2] at h e5
    simp only [ne_eq, Decidable.not_not] at e5
    subst e5
    simp only [Nat.zero_ne_one, if_false] at h
    rw [dec3] at h
    obtain ⟨hr, rfl, rfl⟩ := fin_ok h
    obtain ⟨d1, d2, d3, d4, d5, d6⟩ := it_at hi.symm
    obtain ⟨f1, f2, f3, f4, f5, f6⟩ := it_at hi2.symm
    refine ⟨hr, f2, ?_, zag_in d3, zag_in f3⟩
    unfold enc
    simp only [Int.toNat_natCast]
    rw [if_neg (by omega)]
    by_cases hK : (K : Int) = 1
    · obtain ⟨rfl, q1⟩ := d5 hK
      obtain ⟨rfl, q2⟩ := f5 hK
      rw [if_pos hK, q2, q1, c3, M.zig_zag _ (by omega), M.zig_zag _ (by omega)]
      simp
    · obtain ⟨rfl, q1⟩ := d6 hK
      obtain ⟨rfl, q2⟩ := f6 hK
      rw [if_neg hK, q2, q1, c3]
      simp
theorem get_mid {b A S : List UInt8} {n : Nat} (hn : n < 18446744073709551616) (hb : b = A ++ (M.digs n ++ S)) : M.get b (A.length : Int) = (n, (A ++ M.digs n).length, 0) := by
  have h := M.get_digs hn A S
  rw [List.append_assoc, ← hb] at h
  rw [h]
  simp
theorem getText_mid {b A S s : List UInt8} (hs : s.length ≤ 40) (hb : b = A ++ (M.digs s.length ++ (s ++ S))) : M.getText b (A.length : Int) 40 = (s, (A ++ (M.digs s.length ++ s)).length, 0) := by
  have hg := get_mid (b := b) (A := A) (S := s ++ S) (n := s.length) (by omega) hb
  have hl : b.length = A.length + (M.digs s.length).length + s.length + S.length := by rw [hb]; simp; omega
  have hd : (b.drop (A ++ M.digs s.length).length).take s.length = s := by
    have e : b = (A ++ M.digs s.length) ++ (s ++ S) := by rw [hb]; simp
    rw [e, List.drop_left' rfl, List.take_left' rfl]
  unfold M.getText
  rw [hg]
  simp only [ne_eq, not_true_eq_false, if_false]
  rw [if_neg (by have : (40 : Int).toNat = 40 := rfl; omega), if_neg (by simp; omega), hd]
  simp; omega
/-- What is written is read. -/
theorem dec_enc {z : Zn} (h : right z = true) (h3 : In64 z.mn) (h4 : In64 z.mx) (A S : List UInt8) : dec (A ++ (enc z ++ S)) (A.length : Int) = (z, A.length + (enc z).length, 0) := by
  have hrows := right_rows h
  have hall := right_all h
  obtain ⟨k, r, u, mn, mx, ms, xs⟩ := z
  simp only at hrows hall h3 h4
  obtain ⟨K, rfl⟩ : ∃ K : Nat, k = K := Int.eq_ofNat_of_zero_le (by omega)
  obtain ⟨R, rfl⟩ : ∃ R : Nat, r = R := Int.eq_ofNat_of_zero_le (by omega)
  obtain ⟨U, rfl⟩ : ∃ U : Nat, u = U := Int.eq_ofNat_of_zero_le (by omega)
  obtain ⟨T', hT⟩ : ∃ T', T' = (if (R : Int) = U then [] else if (K : Int) = 1 then M.digs (M.zig mn).toNat ++ M.digs (M.zig mx).toNat else M.digs ms.length ++ ms ++ M.digs xs.length ++ xs) := ⟨_, rfl⟩
  have he : enc ⟨K, R, U, mn, mx, ms, xs⟩ = M.digs K ++ M.digs R ++ M.digs U ++ T' := by rw [hT]; rfl
  rw [he]
  obtain ⟨b, hb⟩ : ∃ b, b = A ++ (M.digs K ++ M.digs R ++ M.digs U ++ T' ++ S) := ⟨_, rfl⟩
  rw [← hb]
  have g1 := get_mid (b := b) (A := A) (S := M.digs R ++ (M.digs U ++ (T' ++ S))) (n := K) (by omega) (by rw [hb]; simp)
  have g2 := get_mid (b := b) (A := A ++ M.digs K) (S := M.digs U ++ (T' ++ S)) (n := R) (by omega) (by rw [hb]; simp)
  have g3 := get_mid (b := b) (A := A ++ M.digs K ++ M.digs R) (S := T' ++ S) (n := U) (by omega) (by rw [hb]; simp)
  unfold dec
  rw [dec1_step (by rw [g1]), g1, dec1_step (by rw [g2]), g2, dec1_step (by rw [g3]), g3, dec1]
  unfold dec2
  simp only [List.nil_append, List.cons_append, List.getD_cons_zero, List.getD_cons_succ]
  rw [if_neg (by omega), dec3]
  simp only
  by_cases hru : R = U
  · have hT0 : T' = [] := by rw [hT, if_pos (by omega)]
    have hz : (⟨K, R, U, 0, 0, [], []⟩ : Zn) = ⟨K, R, U, mn, mx, ms, xs⟩ := by
      simp only [right, Bool.and_eq_true] at h
      have h2 := h.2
      rw [if_pos (by (try simp only); omega)] at h2
      simp only [Bool.and_eq_true, nums, texts, decide_eq_true_eq] at h2
      obtain ⟨⟨rfl, rfl⟩, rfl, rfl⟩ := h2
      rfl
    rw [if_pos (by omega), hz]
    unfold fin
    rw [if_pos h, hT0]
    simp
    omega
  · rw [if_neg (by omega)]
    by_cases hK : K = 1
    · subst hK
      obtain ⟨G1, q1, l1⟩ := zig_nat h3.1 h3.2
      obtain ⟨G2, q2, l2⟩ := zig_nat h4.1 h4.2
      have hT1 : T' = M.digs G1 ++ M.digs G2 := by rw [hT, if_neg (by omega), if_pos (by omega), q1, q2]; simp
      have hms : ms = [] ∧ xs = [] := by
        simp only [right, Bool.and_eq_true] at h
        have h2 := h.2
        rw [if_neg (by (try simp only); omega), if_pos (by simp)] at h2
        simp only [Bool.and_eq_true, texts, decide_eq_true_eq] at h2
        exact h2.1
      obtain ⟨rfl, rfl⟩ := hms
      have g4 := get_mid (b := b) (A := A ++ M.digs 1 ++ M.digs R ++ M.digs U) (S := M.digs G2 ++ S) (n := G1) l1 (by rw [hb, hT1]; simp)
      have g5 := get_mid (b := b) (A := A ++ M.digs 1 ++ M.digs R ++ M.digs U ++ M.digs G1) (S := S) (n := G2) l2 (by rw [hb, hT1]; simp)
      have i4 : it b ((1 : Nat) : Int) ((A ++ M.digs 1 ++ M.digs R ++ M.digs U).length : Int) = (G1, [], (A ++ M.digs 1 ++ M.digs R ++ M.digs U ++ M.digs G1).length, 0) := by unfold it; rw [if_pos (by omega), g4]
      have i5 : it b ((1 : Nat) : Int) ((A ++ M.digs 1 ++ M.digs R ++ M.digs U ++ M.digs G1).length : Int) = (G2, [], (A ++ M.digs 1 ++ M.digs R ++ M.digs U ++ M.digs G1 ++ M.digs G2).length, 0) := by unfold it; rw [if_pos (by omega), g5]
      rw [i4]
      simp only [ne_eq, not_true_eq_false, if_false, if_true]
      rw [dec3]
      simp only
      rw [if_neg (by omega), i5]
      simp only [ne_eq, not_true_eq_false, if_false, Nat.zero_ne_one]
      rw [dec3, ← q1, ← q2, M.zag_zig, M.zag_zig]
      unfold fin
      rw [if_pos h, hT1]
      simp
      omega
    · have hT1 : T' = M.digs ms.length ++ (ms ++ (M.digs xs.length ++ xs)) := by rw [hT, if_neg (by omega), if_neg (by omega)]; simp
      have hmn : mn = 0 ∧ mx = 0 := by
        simp only [right, Bool.and_eq_true] at h
        have h2 := h.2
        rw [if_neg (by (try simp only); omega), if_neg (by (try simp only); omega)] at h2
        simp only [Bool.and_eq_true, nums, decide_eq_true_eq] at h2
        exact h2.1
      obtain ⟨rfl, rfl⟩ := hmn
      have g4 := getText_mid (b := b) (A := A ++ M.digs K ++ M.digs R ++ M.digs U) (S := M.digs xs.length ++ (xs ++ S)) (s := ms) hall.2.1 (by rw [hb, hT1]; simp)
      have g5 := getText_mid (b := b) (A := A ++ M.digs K ++ M.digs R ++ M.digs U ++ (M.digs ms.length ++ ms)) (S := S) (s := xs) hall.2.2 (by rw [hb, hT1]; simp)
      have i4 : it b (K : Int) ((A ++ M.digs K ++ M.digs R ++ M.digs U).length : Int) = (0, ms, (A ++ M.digs K ++ M.digs R ++ M.digs U ++ (M.digs ms.length ++ ms)).length, 0) := by unfold it; rw [if_neg (by omega), g4]
      have i5 : it b (K : Int) ((A ++ M.digs K ++ M.digs R ++ M.digs U ++ (M.digs ms.length ++ ms)).length : Int) = (0, xs, (A ++ M.digs K ++ M.digs R ++ M.digs U ++ (M.digs ms.length ++ ms) ++ (M.digs xs.length ++ xs)).length, 0) := by unfold it; rw [if_neg (by omega), g5]
      rw [i4]
      simp only [ne_eq, not_true_eq_false, if_false, if_true]
      rw [dec3]
      simp only
      rw [if_neg (by omega), i5]
      simp only [ne_eq, not_true_eq_false, if_false, Nat.zero_ne_one]
      have hz0 : M.zag ((0 : Nat) : Int) = 0 := by decide
      rw [dec3, hz0]
      unfold fin
      rw [if_pos h, hT1]
      simp
      omega
end Go.Proofs.Ytnfbmffafclaaaa.Z
