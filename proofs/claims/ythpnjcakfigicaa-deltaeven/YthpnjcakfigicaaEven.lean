/-
  Plain facts: numbers that rise evenly take a byte each behind the second; numbers that are all greater by as much differ in their first alone.
-/
import Derived.Test.YthpnjcakfigicaaDelta
namespace Go.Proofs.Ythpnjcakfigicaa.D
set_option linter.unusedVariables false

/-- The number at place i of those that rise evenly. -/
def xs (a s : Int) : Nat → Int
  | 0 => a
  | n + 1 => wr (xs a s n + s)
theorem xs_ok {a s : Int} (ha : ok a) : ∀ n, ok (xs a s n)
  | 0 => ha
  | n + 1 => wr_ok _
def ev (a s : Int) (n : Nat) : List Int := (List.range n).map (xs a s)
theorem ev_len (a s : Int) (n : Nat) : (ev a s n).length = n := by simp [ev]
theorem ev_succ (a s : Int) (n : Nat) : ev a s (n + 1) = ev a s n ++ [xs a s n] := by simp [ev, List.range_succ]
theorem ev_ok {a s : Int} (ha : ok a) (n : Nat) : ∀ x ∈ ev a s n, ok x := by
  intro x hx
  simp only [ev, List.mem_map] at hx
  obtain ⟨i, _, rfl⟩ := hx
  exact xs_ok ha i
theorem ev_at (a s : Int) {n i : Nat} (h : i < n) : (ev a s n).getD i 0 = xs a s i := by simp [ev, h]
theorem ev_take (a s : Int) {n k : Nat} (h : k ≤ n) : (ev a s n).take k = ev a s k := by
  simp only [ev, ← List.map_take, List.take_range]
  rw [Nat.min_eq_left h]
theorem df_even {a s : Int} (ha : ok a) (hs : ok s) {n i : Nat} (h : i < n) (h2 : 2 ≤ i) : df (ev a s n) i = 0 := by
  obtain ⟨j, rfl⟩ : ∃ j, i = j + 2 := ⟨i - 2, by omega⟩
  unfold df
  rw [if_neg (by omega), if_neg (by omega), ev_at a s h, ev_at a s (by omega), ev_at a s (by omega)]
  rw [show j + 2 - 1 = j + 1 from by omega, show j + 2 - 2 = j from by omega]
  have h1 := xs_ok (s := s) ha j
  simp only [xs]
  generalize xs a s j = x at h1 ⊢
  unfold wr
  unfold ok at hs h1
  omega
theorem us_take {l : List Int} {k : Nat} (hk : k ≤ l.length) : us (l.take k) k = us l k := by
  unfold us
  apply List.map_congr_left
  intro i hi
  have hi' : i < k := by simpa using hi
  unfold u df
  rw [getD_take l k i hi', getD_take l k (i - 1) (by omega), getD_take l k (i - 2) (by omega)]
  by_cases a : i = 0
  · subst a; rw [if_pos rfl, if_pos rfl, getD_take l k 0 hi']
  · rw [if_neg a, if_neg a]
    by_cases b : i = 1
    · subst b; rw [if_pos rfl, if_pos rfl, getD_take l k 1 hi', getD_take l k 0 (by omega)]
    · rw [if_neg b, if_neg b]
theorem even_bytes {a s : Int} (ha : ok a) (hs : ok s) (n : Nat) : ∀ k, k + 2 ≤ n → (bytes (us (ev a s n) (k + 2))).length = (bytes (us (ev a s n) 2)).length + k
  | 0, _ => by simp
  | k + 1, h => by
    have ih := even_bytes ha hs n k (by omega)
    rw [show k + 1 + 2 = (k + 2) + 1 from by omega, us_succ, bytes_snoc, List.length_append, ih]
    have : u (ev a s n) (k + 2) = 0 := by unfold u; rw [df_even ha hs (by omega) (by omega)]; rfl
    rw [this, M.digs_low (by decide)]
    simp; omega
theorem even_len {a s : Int} (ha : ok a) (hs : ok s) {n : Nat} (h3 : 3 ≤ n) (hn : n ≤ 100) : (enc (ev a s n)).length = (enc ((ev a s n).take 2)).length + n - 2 := by
  have e1 := even_bytes ha hs n (n - 2) (by omega)
  rw [show n - 2 + 2 = n from by omega] at e1
  have hl : ((ev a s n).take 2).length = 2 := by simp [ev_len]; omega
  unfold enc
  rw [hl, us_take (by rw [ev_len]; omega), ev_len, M.digs_low (by omega), M.digs_low (by decide)]
  simp only [List.length_append, List.length_cons, List.length_nil]
  rw [e1]
  omega

/-- Numbers that are all greater by as much. -/
def sh (l : List Int) (d : Int) : List Int := l.map fun x => wr (x + d)
theorem sh_len (l : List Int) (d : Int) : (sh l d).length = l.length := by simp [sh]
theorem sh_ok (l : List Int) (d : Int) : ∀ x ∈ sh l d, ok x := by
  intro x hx
  simp only [sh, List.mem_map] at hx
  obtain ⟨y, _, rfl⟩ := hx
  exact wr_ok _
theorem sh_at (l : List Int) (d : Int) {i : Nat} (h : i < l.length) : (sh l d).getD i 0 = wr (l.getD i 0 + d) := by simp [sh, h]
theorem df_sh {l : List Int} {d : Int} {i : Nat} (h : i < l.length) (h1 : 1 ≤ i) : df (sh l d) i = df l i := by
  have h0 : ¬ i = 0 := by omega
  unfold df
  rw [if_neg h0, if_neg h0]
  by_cases b : i = 1
  · subst b
    rw [if_pos rfl, if_pos rfl, sh_at l d h, sh_at l d (by omega)]
    unfold wr; omega
  · rw [if_neg b, if_neg b, sh_at l d h, sh_at l d (by omega), sh_at l d (by omega)]
    unfold wr; omega
/-- Behind the first number the bytes are these. -/
def rest (l : List Int) : List UInt8 := bytes ((List.range (l.length - 1)).map fun i => u l (i + 1))
theorem enc_rest {l : List Int} (h : 0 < l.length) : enc l = M.digs l.length ++ M.digs (u l 0) ++ rest l := by
  unfold enc rest
  have : us l l.length = u l 0 :: (List.range (l.length - 1)).map fun i => u l (i + 1) := by
    unfold us
    rw [show List.range l.length = List.range ((l.length - 1) + 1) from by rw [Nat.sub_add_cancel h], List.range_succ_eq_map, List.map_cons, List.map_map]
    rfl
  rw [this, bytes_cons, List.append_assoc]
theorem rest_sh (l : List Int) (d : Int) : rest (sh l d) = rest l := by
  unfold rest
  rw [sh_len]
  congr 1
  apply List.map_congr_left
  intro i hi
  have hi' : i < l.length - 1 := by simpa using hi
  unfold u
  rw [df_sh (by omega) (by omega)]
theorem enc_first {l : List Int} (h : 0 < l.length) : enc (l.take 1) = M.digs 1 ++ M.digs (u l 0) := by
  have hl : (l.take 1).length = 1 := by simp; omega
  have := us_take (l := l) (k := 1) (by omega)
  unfold enc
  rw [hl, this]
  simp [us, bytes]
theorem shift_drop {l : List Int} {d : Int} (h : 0 < l.length) (hn : l.length ≤ 100) :
    (enc l).drop (enc (l.take 1)).length = (enc (sh l d)).drop (enc ((sh l d).take 1)).length ∧ (enc (l.take 1)).length ≤ (enc l).length ∧ (enc ((sh l d).take 1)).length ≤ (enc (sh l d)).length := by
  have h' : 0 < (sh l d).length := by rw [sh_len]; exact h
  rw [enc_rest h, enc_rest h', enc_first h, enc_first h', rest_sh, sh_len, M.digs_low (n := l.length) (by omega), M.digs_low (n := 1) (by decide)]
  refine ⟨?_, by simp, by simp⟩
  rw [List.drop_left' (by simp), List.drop_left' (by simp)]
end Go.Proofs.Ythpnjcakfigicaa.D
