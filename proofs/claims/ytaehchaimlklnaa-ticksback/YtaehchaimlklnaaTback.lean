/-
  What is read is what is written: numbers by their differences, and indexes.
-/
import Derived.Test.YtaehchaimlklnaaRtd
import Derived.Test.YtaehchaimlklnaaTicksNarrowWalk
namespace Go.Proofs.Ytaehchaimlklnaa
open Go.RowKit
set_option linter.unusedVariables false
set_option linter.unusedSimpArgs false
/-- A number that is got: the bytes up to its end. -/
theorem get_at {b : List UInt8} {p v k : Nat} (h : M.get b (p : Int) = (v, k, 0)) : p ≤ k ∧ k ≤ b.length ∧ b.take k = b.take p ++ M.digs v ∧ v < 18446744073709551616 := by
  have hall := (M.get_all b p).1
  rw [h] at hall
  unfold M.get at h
  split at h
  · simp at h
  · rename_i h1
    simp only [Int.toNat_natCast] at h
    split at h
    · rename_i h2
      simp only [Prod.mk.injEq] at h
      obtain ⟨hv, hk, _⟩ := h
      obtain ⟨b1, b2, b3⟩ := M.getR_back (r := b.drop p) (v := v) (k := (M.getR (b.drop p)).2.1) (by rw [← hv]; exact Prod.ext rfl (Prod.ext rfl h2))
      simp at b2
      refine ⟨by omega, by omega, ?_, hall⟩
      rw [b3, ← hk, List.take_add]
    · rename_i h2
      simp only [Prod.mk.injEq] at h
      exact absurd h.2.2 h2
namespace D
theorem getD_left {l x : List Int} {i : Nat} (h : i < l.length) : (l ++ x).getD i 0 = l.getD i 0 := by
  simp [List.getD_eq_getElem?_getD, List.getElem?_append_left h]
theorem df_app {l : List Int} (x : List Int) {i : Nat} (h : i < l.length) : df (l ++ x) i = df l i := by
  unfold df
  by_cases a : i = 0
  · subst a; rw [if_pos rfl, if_pos rfl, getD_left h]
  · rw [if_neg a, if_neg a]
    by_cases b : i = 1
    · subst b; rw [if_pos rfl, if_pos rfl, getD_left h, getD_left (by omega)]
    · rw [if_neg b, if_neg b, getD_left h, getD_left (i := i - 1) (by omega), getD_left (i := i - 2) (by omega)]
theorem df_nx {o : List Int} {z : Int} (hz : ok z) (ho : ∀ x ∈ o, ok x) : df (o ++ [nx o z]) o.length = z := by
  have e : (o ++ [nx o z]).getD o.length 0 = nx o z := by simp [List.getD_eq_getElem?_getD]
  unfold df
  by_cases a : o.length = 0
  · rw [if_pos a]
    have : o = [] := List.eq_nil_of_length_eq_zero a
    subst this
    simp [nx]
  · rw [if_neg a]
    by_cases b : o.length = 1
    · rw [if_pos b]
      have e1 : (o ++ [nx o z]).getD 1 0 = nx o z := by rw [← b]; exact e
      rw [e1, getD_left (by omega)]
      unfold nx
      rw [if_neg a, if_pos b]
      have := getD_ok ho 0
      unfold wr; unfold ok at hz this; omega
    · rw [if_neg b, e, getD_left (i := o.length - 1) (by omega), getD_left (i := o.length - 2) (by omega)]
      unfold nx
      rw [if_neg a, if_neg b]
      have h1 := getD_ok ho (o.length - 1)
      have h2 := getD_ok ho (o.length - 2)
      unfold wr; unfold ok at hz h1 h2; omega
theorem nx_ok {o : List Int} {z : Int} (hz : ok z) : ok (nx o z) := by
  unfold nx
  split
  · exact hz
  · split <;> exact wr_ok _
theorem zag_in {n : Nat} (h : n < 18446744073709551616) : ok (M.zag (n : Int)) := by
  unfold M.zag ok; split <;> omega
theorem us_app {l : List Int} (x : List Int) : ∀ k, k ≤ l.length → us (l ++ x) k = us l k
  | 0, _ => rfl
  | k + 1, h => by rw [us_succ, us_succ, us_app x k (by omega)]; unfold u; rw [df_app x (by omega)]
/-- Numbers that are put one behind the other: they are the differences that are written of what comes out. -/
theorem fold_us : ∀ (k : Nat) (v : List Nat), v.length = k → (∀ n ∈ v, n < 18446744073709551616) → (v.foldl put []).length = k ∧ (∀ x ∈ v.foldl put [], ok x) ∧ us (v.foldl put []) k = v
  | 0, v, hv, h => by
    have : v = [] := List.eq_nil_of_length_eq_zero hv
    subst this
    simp [us]
  | k + 1, v, hv, h => by
    obtain ⟨v0, n, rfl⟩ : ∃ v0 n, v = v0 ++ [n] := ⟨v.dropLast, v.getLast (by intro e; rw [e] at hv; simp at hv), (List.dropLast_concat_getLast _).symm⟩
    have hk : v0.length = k := by simpa using hv
    obtain ⟨h1, h2, h3⟩ := fold_us k v0 hk (fun m hm => h m (by simp [hm]))
    have hn := zag_in (h n (by simp))
    rw [List.foldl_append]
    simp only [List.foldl_cons, List.foldl_nil, put]
    refine ⟨by simp [h1], ?_, ?_⟩
    · intro x hx
      rw [List.mem_append] at hx
      rcases hx with hx | hx
      · exact h2 x hx
      · simp at hx; rw [hx]; exact nx_ok hn
    · rw [us_succ, us_app _ k (by omega), h3]
      congr 1
      unfold u
      have e := df_nx hn h2
      rw [h1] at e
      rw [e, M.zig_zag _ (by omega), Int.toNat_natCast]
/-- What is read on, number by number. -/
theorem dgo_back (b : List UInt8) : ∀ (n k : Nat) (o r : List Int) (k' : Nat), k ≤ b.length → dgo b n k o = (r, k', 0) → ∃ v : List Nat, v.length = n ∧ (∀ m ∈ v, m < 18446744073709551616) ∧ r = v.foldl put o ∧ k' ≤ b.length ∧ b.take k' = b.take k ++ bytes v
  | 0, k, o, r, k', hk, h => by
    simp only [dgo, Prod.mk.injEq] at h
    obtain ⟨rfl, rfl, _⟩ := h
    exact ⟨[], rfl, by simp, rfl, hk, by simp [bytes]⟩
  | n + 1, k, o, r, k', hk, h => by
    rw [dgo] at h
    split at h
    · rename_i e
      simp only [Prod.mk.injEq] at h
      exact absurd h.2.2 e
    · rename_i e
      obtain ⟨m, k1, g⟩ : ∃ m k1, M.get b (k : Int) = (m, k1, 0) := ⟨_, _, Prod.ext rfl (Prod.ext rfl (Decidable.not_not.1 e))⟩
      rw [g] at h
      simp only at h
      obtain ⟨g1, g2, g3, g4⟩ := get_at g
      obtain ⟨v, h1, h2, h3, h4, h5⟩ := dgo_back b n k1 _ r k' g2 h
      refine ⟨m :: v, by simp [h1], ?_, ?_, h4, ?_⟩
      · intro x hx
        simp at hx
        rcases hx with rfl | hx
        · exact g4
        · exact h2 x hx
      · rw [h3]; rfl
      · rw [h5, g3, bytes_cons, List.append_assoc]
theorem dec_back {b : List UInt8} {p : Nat} {most : Int} {r : List Int} {k : Nat} (h : dec b (p : Int) most = (r, k, 0)) : k ≤ b.length ∧ (∀ x ∈ r, ok x) ∧ b.take k = b.take p ++ enc r := by
  unfold dec at h
  split at h
  · rename_i e
    simp only [Prod.mk.injEq] at h
    exact absurd h.2.2 e
  · rename_i e
    obtain ⟨n, k1, g⟩ : ∃ n k1, M.get b (p : Int) = (n, k1, 0) := ⟨_, _, Prod.ext rfl (Prod.ext rfl (Decidable.not_not.1 e))⟩
    rw [g] at h
    simp only at h
    split at h
    · simp only [Prod.mk.injEq] at h
      exact absurd h.2.2 (by decide)
    · obtain ⟨g1, g2, g3, g4⟩ := get_at g
      obtain ⟨v, h1, h2, h3, h4, h5⟩ := dgo_back b n k1 [] r k g2 h
      obtain ⟨f1, f2, f3⟩ := fold_us n v h1 h2
      rw [← h3] at f1 f2 f3
      refine ⟨h4, f2, ?_⟩
      rw [h5, g3]
      unfold enc
      rw [f1, f3, List.append_assoc]
end D
namespace Tk
/-- An index that is read: it is Right, and its bytes are those that are written. -/
theorem dec_back {b : List UInt8} {p : Nat} {x : Ix} {k : Nat} (h : dec b (p : Int) = (x, k, 0)) : right x = true ∧ k ≤ b.length ∧ b.take k = b.take p ++ enc x ∧ D.ok x.m ∧ (∀ y ∈ x.a, D.ok y) := by
  unfold dec at h
  split at h
  · rename_i e; simp only [Prod.mk.injEq] at h; exact absurd h.2.2 e
  rename_i e1
  obtain ⟨n, k1, g⟩ : ∃ n k1, M.get b (p : Int) = (n, k1, 0) := ⟨_, _, Prod.ext rfl (Prod.ext rfl (Decidable.not_not.1 e1))⟩
  rw [g] at h
  simp only at h
  split at h
  · rename_i e; simp only [Prod.mk.injEq] at h; exact absurd h.2.2 e
  rename_i e2
  obtain ⟨m, k2, g'⟩ : ∃ m k2, M.get b (k1 : Int) = (m, k2, 0) := ⟨_, _, Prod.ext rfl (Prod.ext rfl (Decidable.not_not.1 e2))⟩
  rw [g'] at h
  simp only at h
  split at h
  · rename_i e; simp only [Prod.mk.injEq] at h; exact absurd h.2.2 e
  rename_i e3
  obtain ⟨A, k3, d⟩ : ∃ A k3, D.dec b (k2 : Int) 262144 = (A, k3, 0) := ⟨_, _, Prod.ext rfl (Prod.ext rfl (Decidable.not_not.1 e3))⟩
  rw [d] at h
  simp only at h
  split at h
  · simp only [Prod.mk.injEq] at h; exact absurd h.2.2 (by decide)
  rename_i e4
  simp only [Prod.mk.injEq, and_true] at h
  obtain ⟨rfl, rfl⟩ := h
  obtain ⟨a1, a2, a3, a4⟩ := get_at g
  obtain ⟨b1, b2, b3, b4⟩ := get_at g'
  obtain ⟨c1, c2, c3⟩ := D.dec_back d
  refine ⟨?_, c1, ?_, D.zag_in b4, c2⟩
  · cases hr : right ⟨n, M.zag (m : Int), A⟩ with
    | true => rfl
    | false => exact absurd (.inr hr) e4
  · rw [c3, b3, a3]
    unfold enc
    simp only [Int.toNat_natCast]
    rw [M.zig_zag _ (by omega), Int.toNat_natCast]
    simp
/-- An index that is written is read as itself, behind anything. -/
theorem dec_enc {x : Ix} (hr : right x = true) (hm : D.ok x.m) (ha : ∀ y ∈ x.a, D.ok y) (P Z : List UInt8) : dec (P ++ enc x ++ Z) (P.length : Int) = (x, (P ++ enc x).length, 0) := by
  have hrows := right_rows hr
  obtain ⟨r, m, A⟩ := x
  simp only at hrows hm ha
  obtain ⟨K, rfl⟩ : ∃ K : Nat, r = K := Int.eq_ofNat_of_zero_le (by omega)
  obtain ⟨G, hG, hg⟩ := zig_nat hm.1 hm.2
  have e1 : P ++ enc ⟨K, m, A⟩ ++ Z = P ++ M.digs K ++ (M.digs G ++ D.enc A ++ Z) := by unfold enc; simp only [hG, Int.toNat_natCast]; simp
  have e2 : P ++ enc ⟨K, m, A⟩ ++ Z = (P ++ M.digs K) ++ M.digs G ++ (D.enc A ++ Z) := by unfold enc; simp only [hG, Int.toNat_natCast]; simp
  have e3 : P ++ enc ⟨K, m, A⟩ ++ Z = (P ++ M.digs K ++ M.digs G) ++ D.enc A ++ Z := by unfold enc; simp only [hG, Int.toNat_natCast]; simp
  have e4 : P ++ enc ⟨K, m, A⟩ = P ++ M.digs K ++ M.digs G ++ D.enc A := by unfold enc; simp only [hG, Int.toNat_natCast]; simp
  have g1 := M.get_digs (show K < 18446744073709551616 by omega) P (M.digs G ++ D.enc A ++ Z)
  have g2 := M.get_digs hg (P ++ M.digs K) (D.enc A ++ Z)
  have g3 := D.dec_enc ha (by omega) (P ++ M.digs K ++ M.digs G) Z 262144 (by omega)
  rw [← e1] at g1
  rw [← e2] at g2
  rw [← e3] at g3
  rw [List.length_append] at g2
  rw [List.length_append, List.length_append] at g3
  have hz : M.zag (G : Int) = m := by rw [← hG, M.zag_zig]
  unfold dec
  rw [g1]
  simp only
  rw [g2]
  simp only
  rw [g3]
  simp only
  rw [hz, hr, e4]
  have hK : ¬ 1048576 < K := by omega
  simp [hK]
theorem ix_a_ok {l : List Int} (h : ∀ y ∈ l, D.ok y) : ∀ y ∈ (ix l).a, D.ok y := fun y hy => h y (evs_mem hy)
end Tk
end Go.Proofs.Ytaehchaimlklnaa
