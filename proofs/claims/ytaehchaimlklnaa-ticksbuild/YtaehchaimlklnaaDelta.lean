/-
  Plain facts on rows of numbers by their differences: what is written, and what is read. No program here.
-/
import Derived.Test.YtaehchaimlklnaaCuts
namespace Go.Proofs.Ytaehchaimlklnaa.D

/-- A number modulo 2^64, with a sign. -/
def wr (n : Int) : Int := (n + 9223372036854775808) % 18446744073709551616 - 9223372036854775808
def ok (n : Int) : Prop := -9223372036854775808 ≤ n ∧ n ≤ 9223372036854775807
theorem wr_ok (n : Int) : ok (wr n) := by unfold wr ok; omega
theorem wr_id {n : Int} (h : ok n) : wr n = n := by unfold wr; unfold ok at h; omega
/-- The number that is written at place i. -/
def df (l : List Int) (i : Nat) : Int :=
  if i = 0 then l.getD 0 0 else if i = 1 then wr (l.getD 1 0 - l.getD 0 0) else wr (wr (l.getD i 0 - l.getD (i - 1) 0) - wr (l.getD (i - 1) 0 - l.getD (i - 2) 0))
/-- The number that is read behind those that are read. -/
def nx (o : List Int) (z : Int) : Int :=
  if o.length = 0 then z else if o.length = 1 then wr (z + o.getD 0 0) else wr (wr (z + wr (o.getD (o.length - 1) 0 - o.getD (o.length - 2) 0)) + o.getD (o.length - 1) 0)
theorem getD_take (l : List Int) (n i : Nat) (h : i < n) : (l.take n).getD i 0 = l.getD i 0 := by
  simp [List.getD_eq_getElem?_getD, h]
theorem getD_ok {l : List Int} (h : ∀ x ∈ l, ok x) (i : Nat) : ok (l.getD i 0) := by
  rw [List.getD_eq_getElem?_getD]
  cases e : l[i]? with
  | none => simp [ok]
  | some x => exact h x (List.mem_of_getElem? e)
theorem nx_df {l : List Int} (h : ∀ x ∈ l, ok x) {i : Nat} (hi : i < l.length) : nx (l.take i) (df l i) = l.getD i 0 := by
  have hl : (l.take i).length = i := by simp; omega
  have h0 := getD_ok h i
  unfold nx df
  rw [hl]
  by_cases a : i = 0
  · subst a; simp
  · rw [if_neg a, if_neg a]
    by_cases b : i = 1
    · subst b
      rw [if_pos rfl, if_pos rfl, getD_take l 1 0 (by omega)]
      unfold wr; unfold ok at h0; omega
    · rw [if_neg b, if_neg b, getD_take l i (i - 1) (by omega), getD_take l i (i - 2) (by omega)]
      unfold wr; unfold ok at h0; omega
theorem df_ok {l : List Int} (h : ∀ x ∈ l, ok x) (i : Nat) : ok (df l i) := by
  unfold df
  split
  · exact getD_ok h 0
  · split <;> exact wr_ok _
def u (l : List Int) (i : Nat) : Nat := (M.zig (df l i)).toNat
theorem zig_bound {n : Int} (h : ok n) : 0 ≤ M.zig n ∧ M.zig n < 18446744073709551616 := by unfold ok at h; unfold M.zig; split <;> omega
theorem u_lt {l : List Int} (h : ∀ x ∈ l, ok x) (i : Nat) : u l i < 18446744073709551616 := by
  have := zig_bound (df_ok h i); unfold u; omega
theorem u_zig {l : List Int} (h : ∀ x ∈ l, ok x) (i : Nat) : ((u l i : Nat) : Int) = M.zig (df l i) := by
  have := zig_bound (df_ok h i); unfold u; omega
theorem zag_u {l : List Int} (h : ∀ x ∈ l, ok x) (i : Nat) : M.zag (u l i : Int) = df l i := by rw [u_zig h, M.zag_zig]
/-- All that is written for the numbers behind how many they are, up to place k. -/
def us (l : List Int) (k : Nat) : List Nat := (List.range k).map (u l)
def bytes (v : List Nat) : List UInt8 := v.flatMap M.digs
def enc (l : List Int) : List UInt8 := M.digs l.length ++ bytes (us l l.length)
theorem us_succ (l : List Int) (k : Nat) : us l (k + 1) = us l k ++ [u l k] := by simp [us, List.range_succ]
theorem us_len (l : List Int) (k : Nat) : (us l k).length = k := by simp [us]
theorem bytes_snoc (v : List Nat) (n : Nat) : bytes (v ++ [n]) = bytes v ++ M.digs n := by simp [bytes]
theorem bytes_cons (n : Nat) (v : List Nat) : bytes (n :: v) = M.digs n ++ bytes v := by simp [bytes]
theorem bytes_len (v : List Nat) : v.length ≤ (bytes v).length ∧ (bytes v).length ≤ 10 * v.length := by
  induction v with
  | nil => simp [bytes]
  | cons n r ih =>
    have := M.digs_len n
    rw [bytes_cons]
    simp only [List.length_append, List.length_cons]
    omega
theorem enc_len (l : List Int) : 1 ≤ (enc l).length ∧ (enc l).length ≤ 10 * l.length + 10 := by
  have h1 := M.digs_len l.length
  have h2 := bytes_len (us l l.length)
  rw [us_len] at h2
  unfold enc
  simp only [List.length_append]
  omega

/-- Numbers are read one behind the other. -/
def dgo (b : List UInt8) : Nat → Nat → List Int → List Int × Nat × Nat
  | 0, k, o => (o, k, 0)
  | n + 1, k, o => if (M.get b k).2.2 ≠ 0 then ([], 0, (M.get b k).2.2) else dgo b n (M.get b k).2.1 (o ++ [nx o (M.zag (M.get b k).1)])
def dec (b : List UInt8) (p most : Int) : List Int × Nat × Nat :=
  if (M.get b p).2.2 ≠ 0 then ([], 0, (M.get b p).2.2) else if most.toNat < (M.get b p).1 then ([], 0, 4) else dgo b (M.get b p).1 (M.get b p).2.1 []
def put (o : List Int) (n : Nat) : List Int := o ++ [nx o (M.zag n)]
theorem dgo_bytes (v : List Nat) (P Z : List UInt8) (o : List Int) (h : ∀ n ∈ v, n < 18446744073709551616) :
    dgo (P ++ bytes v ++ Z) v.length P.length o = (v.foldl put o, (P ++ bytes v).length, 0) := by
  induction v generalizing P o with
  | nil => simp [dgo, bytes]
  | cons n r ih =>
    have hn := h n (by simp)
    have e : P ++ bytes (n :: r) ++ Z = P ++ M.digs n ++ (bytes r ++ Z) := by rw [bytes_cons]; simp
    have e2 : P ++ M.digs n ++ (bytes r ++ Z) = (P ++ M.digs n) ++ bytes r ++ Z := by simp
    have hg := M.get_digs hn P (bytes r ++ Z)
    rw [e, List.length_cons, dgo, hg]
    simp only [ne_eq, not_true_eq_false, if_false, List.foldl_cons]
    have ih' := ih (P ++ M.digs n) (put o n) (fun m hm => h m (by simp [hm]))
    rw [e2, show P.length + (M.digs n).length = (P ++ M.digs n).length from by simp]
    rw [show o ++ [nx o (M.zag n)] = put o n from rfl, ih', bytes_cons]
    simp
theorem us_fold {l : List Int} (h : ∀ x ∈ l, ok x) : ∀ k, k ≤ l.length → (us l k).foldl put [] = l.take k
  | 0, _ => by simp [us]
  | k + 1, hk => by
    rw [us_succ, List.foldl_append, us_fold h k (by omega)]
    simp only [List.foldl_cons, List.foldl_nil, put]
    rw [zag_u h, nx_df h (by omega), List.take_succ_eq_append_getElem (by omega)]
    have : k < l.length := by omega
    simp [this]
theorem us_lt {l : List Int} (h : ∀ x ∈ l, ok x) (k : Nat) : ∀ n ∈ us l k, n < 18446744073709551616 := by
  intro n hn
  simp only [us, List.mem_map] at hn
  obtain ⟨i, _, rfl⟩ := hn
  exact u_lt h i
/-- What is written is read, behind anything and ahead of anything. -/
theorem dec_enc {l : List Int} (h : ∀ x ∈ l, ok x) (hl : l.length < 18446744073709551616) (A Z : List UInt8) (most : Int) (hm : (l.length : Int) ≤ most) :
    dec (A ++ enc l ++ Z) (A.length : Int) most = (l, (A ++ enc l).length, 0) := by
  have e : A ++ enc l ++ Z = A ++ M.digs l.length ++ (bytes (us l l.length) ++ Z) := by simp [enc]
  have e2 : A ++ M.digs l.length ++ (bytes (us l l.length) ++ Z) = (A ++ M.digs l.length) ++ bytes (us l l.length) ++ Z := by simp
  unfold dec
  rw [e, M.get_digs hl A _]
  simp only [ne_eq, not_true_eq_false, if_false]
  rw [if_neg (by omega), e2, show A.length + (M.digs l.length).length = (A ++ M.digs l.length).length from by simp]
  have := dgo_bytes (us l l.length) (A ++ M.digs l.length) Z [] (us_lt h _)
  rw [us_len] at this
  rw [this, us_fold h _ (Nat.le_refl _), List.take_length]
  simp [enc]
theorem dec_many {l : List Int} (hl : l.length < 18446744073709551616) (A Z : List UInt8) (most : Int) (hm : most < (l.length : Int)) (h0 : 0 < l.length) :
    dec (A ++ enc l ++ Z) (A.length : Int) most = ([], 0, 4) := by
  have e : A ++ enc l ++ Z = A ++ M.digs l.length ++ (bytes (us l l.length) ++ Z) := by simp [enc]
  unfold dec
  rw [e, M.get_digs hl A _]
  simp only [ne_eq, not_true_eq_false, if_false]
  rw [if_pos (by omega)]
theorem get_shift (P X : List UInt8) (h : M.get X 0 = (0, 0, 10)) : M.get (P ++ X) (P.length : Int) = (0, 0, 10) := by
  unfold M.get at h ⊢
  rw [if_neg (by simp)] at h
  rw [if_neg (by simp; omega)]
  simp only [Int.toNat_natCast, List.drop_left, Int.toNat_zero, List.drop_zero] at h ⊢
  by_cases e : (M.getR X).2.2 = 0
  · rw [if_pos e] at h
    simp at h
  · rw [if_neg e] at h ⊢
    exact h
theorem dgo_cut (v : List Nat) (P : List UInt8) (o : List Int) (c : Nat) (h : ∀ n ∈ v, n < 18446744073709551616) (hc : c < (bytes v).length) :
    dgo (P ++ (bytes v).take c) v.length P.length o = ([], 0, 10) := by
  induction v generalizing P o c with
  | nil => simp [bytes] at hc
  | cons n r ih =>
    have hn := h n (by simp)
    rw [bytes_cons] at hc ⊢
    rw [List.length_cons, dgo]
    by_cases hlt : c < (M.digs n).length
    · rw [get_shift P _ (M.get_cut (bytes r) hlt)]
      simp
    · have e : (M.digs n ++ bytes r).take c = M.digs n ++ (bytes r).take (c - (M.digs n).length) := by
        rw [List.take_append, List.take_of_length_le (by omega)]
      have hg := M.get_digs hn P ((bytes r).take (c - (M.digs n).length))
      rw [e, show P ++ (M.digs n ++ (bytes r).take (c - (M.digs n).length)) = P ++ M.digs n ++ (bytes r).take (c - (M.digs n).length) from by simp, hg]
      simp only [ne_eq, not_true_eq_false, if_false]
      have ih' := ih (P ++ M.digs n) (o ++ [nx o (M.zag n)]) (c - (M.digs n).length) (fun m hm => h m (by simp [hm])) (by simp at hc; omega)
      rw [show P.length + (M.digs n).length = (P ++ M.digs n).length from by simp]
      exact ih'
/-- What is cut off is refused. -/
theorem dec_cut {l : List Int} (h : ∀ x ∈ l, ok x) (hl : l.length < 18446744073709551616) (c : Nat) (hc : c < (enc l).length) (most : Int) (hm : (l.length : Int) ≤ most) :
    dec ((enc l).take c) 0 most = ([], 0, 10) := by
  unfold dec
  by_cases hlt : c < (M.digs l.length).length
  · unfold enc
    rw [M.get_cut _ hlt]
    simp
  · have e : (enc l).take c = M.digs l.length ++ (bytes (us l l.length)).take (c - (M.digs l.length).length) := by
      unfold enc
      rw [List.take_append, List.take_of_length_le (by omega)]
    have hc' : c - (M.digs l.length).length < (bytes (us l l.length)).length := by
      unfold enc at hc; simp at hc; omega
    rw [e, M.get_front hl]
    simp only [ne_eq, not_true_eq_false, if_false]
    rw [if_neg (by omega)]
    have := dgo_cut (us l l.length) (M.digs l.length) [] (c - (M.digs l.length).length) (us_lt h _) hc'
    rw [us_len] at this
    exact this
end Go.Proofs.Ytaehchaimlklnaa.D
