/-
  Plain facts on marks: lists of Booleans, written as runs. No program here.
-/
import Derived.Test.YtkhbkifofkjjnaaRuns
namespace Go.Proofs.Ytkhbkifofkjjnaa.Dl
open Go.Proofs.Ytkhbkifofkjjnaa
set_option linter.unusedVariables false
def bw (b : Bool) : Nat := if b then 1 else 0
def xs (ws : List Bool) : List Nat := ws.map bw
theorem xs_len (ws : List Bool) : (xs ws).length = ws.length := by simp [xs]
theorem xs_le {ws : List Bool} : ∀ x ∈ xs ws, x ≤ 1 := by
  intro x hx
  simp only [xs, List.mem_map] at hx
  obtain ⟨b, _, rfl⟩ := hx
  cases b <;> simp [bw]
theorem xs_snoc (ws : List Bool) (b : Bool) : xs (ws ++ [b]) = xs ws ++ [bw b] := by simp [xs]
theorem xs_back (ws : List Bool) : (xs ws).map (fun n => n == 1) = ws := by
  unfold xs
  rw [List.map_map]
  conv => rhs; rw [← List.map_id ws]
  apply List.map_congr_left
  intro b _
  cases b <;> rfl
/-- As bytes. -/
def enc (ws : List Bool) : List UInt8 := M.digs ws.length ++ R.enc 1 (xs ws)
theorem width_xs (ws : List Bool) : B.width (xs ws) ≤ 1 := (B.width_le 1 _).2 (fun x hx => by have := xs_le x hx; omega)
theorem encE_xs (ws : List Bool) : R.encE (xs ws) 1 = (R.enc 1 (xs ws), 0) := by
  unfold R.encE
  have := width_xs ws
  rw [if_neg (by omega)]
  rfl
/-- Of bytes. -/
def dec (b : List UInt8) (p : Int) : List Bool × Nat × Nat :=
  if (M.get b p).2.2 ≠ 0 then ([], 0, (M.get b p).2.2) else if 1048576 < (M.get b p).1 then ([], 0, 4) else
  if (R.dec b ((M.get b p).2.1 : Int) ((M.get b p).1 : Int) 1).2.2 ≠ 0 then ([], 0, (R.dec b ((M.get b p).2.1 : Int) ((M.get b p).1 : Int) 1).2.2)
  else ((R.dec b ((M.get b p).2.1 : Int) ((M.get b p).1 : Int) 1).1.map (fun n => n == 1), (R.dec b ((M.get b p).2.1 : Int) ((M.get b p).1 : Int) 1).2.1, 0)
/-- How many are marked. -/
def count (ws : List Bool) : Nat := ws.countP id
theorem count_snoc (ws : List Bool) (b : Bool) : count (ws ++ [b]) = count ws + bw b := by
  unfold count
  rw [List.countP_append]
  cases b <;> simp [bw]
theorem count_le (ws : List Bool) : count ws ≤ ws.length := List.countP_le_length
/-- The places that are not marked. -/
def leftF : Nat → List Bool → List Int
  | _, [] => []
  | k, b :: r => if b then leftF (k + 1) r else (k : Int) :: leftF (k + 1) r
def left (ws : List Bool) : List Int := leftF 0 ws
theorem leftF_snoc (b : Bool) : ∀ (k : Nat) (ws : List Bool), leftF k (ws ++ [b]) = leftF k ws ++ (if b then [] else [((k + ws.length : Nat) : Int)])
  | k, [] => by cases b <;> simp [leftF]
  | k, c :: r => by
    rw [List.cons_append, leftF, leftF, leftF_snoc b (k + 1) r]
    have e : k + 1 + r.length = k + (c :: r).length := by simp; omega
    rw [e]
    split <;> simp
theorem left_snoc (ws : List Bool) (b : Bool) : left (ws ++ [b]) = left ws ++ (if b then [] else [(ws.length : Int)]) := by
  unfold left; rw [leftF_snoc, Nat.zero_add]
theorem left_len (ws : List Bool) : (left ws).length + count ws = ws.length := by
  have : ∀ (k : Nat) (ws : List Bool), (leftF k ws).length + count ws = ws.length := by
    intro k ws
    induction ws generalizing k with
    | nil => simp [leftF, count]
    | cons b r ih =>
      have h := ih (k + 1)
      cases b with
      | true => rw [leftF]; simp [count] at h ⊢; omega
      | false => rw [leftF]; simp [count] at h ⊢; omega
  exact this 0 ws
theorem left_at : ∀ (k : Nat) (ws : List Bool) (x : Int), x ∈ leftF k ws → ∃ i : Nat, x = ((k + i : Nat) : Int) ∧ ws[i]? = some false
  | k, [], x, h => by simp [leftF] at h
  | k, b :: r, x, h => by
    unfold leftF at h
    cases b with
    | true =>
      simp at h
      obtain ⟨i, h1, h2⟩ := left_at (k + 1) r x h
      exact ⟨i + 1, by rw [h1]; omega, by simpa using h2⟩
    | false =>
      simp at h
      rcases h with h | h
      · exact ⟨0, by rw [h]; rfl, rfl⟩
      · obtain ⟨i, h1, h2⟩ := left_at (k + 1) r x h
        exact ⟨i + 1, by rw [h1]; omega, by simpa using h2⟩
theorem left_rise : ∀ (k : Nat) (ws : List Bool), (leftF k ws).Pairwise (· < ·)
  | k, [] => by simp [leftF]
  | k, b :: r => by
    unfold leftF
    cases b with
    | true => simpa using left_rise (k + 1) r
    | false =>
      simp only [Bool.false_eq_true, if_false, List.pairwise_cons]
      refine ⟨fun x hx => ?_, left_rise (k + 1) r⟩
      obtain ⟨i, h1, _⟩ := left_at (k + 1) r x hx
      rw [h1]; omega
/-- Marks of both. -/
def orr (a b : List Bool) : List Bool := List.zipWith (· || ·) a b
theorem orr_len {a b : List Bool} (h : a.length = b.length) : (orr a b).length = a.length := by simp [orr]; omega
theorem orr_comm {a b : List Bool} : orr a b = orr b a := by
  unfold orr
  rw [List.zipWith_comm]
  congr 1
  funext x y
  cases x <;> cases y <;> rfl
theorem orr_self : ∀ (a b : List Bool), a.length = b.length → orr (orr a b) b = orr a b
  | [], [], _ => rfl
  | [], _ :: _, h => by simp at h
  | _ :: _, [], h => by simp at h
  | x :: a, y :: b, h => by
    have := orr_self a b (by simpa using h)
    unfold orr at *
    simp only [List.zipWith_cons_cons, this]
    cases x <;> cases y <;> rfl
/-- Is it marked? -/
def has (ws : List Bool) (i : Int) : Bool := decide (0 ≤ i) && (ws.getD i.toNat false)
theorem has_nat (ws : List Bool) (k : Nat) : has ws (k : Int) = ws.getD k false := by simp [has]
theorem has_out {ws : List Bool} {i : Int} (h : i < 0 ∨ (ws.length : Int) ≤ i) : has ws i = false := by
  unfold has
  rcases h with h | h
  · simp; omega
  · have : ws.length ≤ i.toNat := by omega
    simp [List.getD_eq_getElem?_getD, List.getElem?_eq_none this]
theorem count_set {ws : List Bool} {k : Nat} (hk : ws[k]? = some false) : count (ws.set k true) = count ws + 1 := by
  induction ws generalizing k with
  | nil => simp at hk
  | cons b r ih =>
    cases k with
    | zero => simp at hk; subst hk; simp [count]
    | succ k =>
      have := ih (k := k) (by simpa using hk)
      unfold count at *
      cases b <;> simp <;> omega
/-- What is written is read. -/
theorem dec_enc {ws : List Bool} (hl : ws.length ≤ 1048576) (pre suf : List UInt8) : dec (pre ++ enc ws ++ suf) (pre.length : Int) = (ws, pre.length + (enc ws).length, 0) := by
  have h1 := M.get_digs (n := ws.length) (by omega) pre (R.enc 1 (xs ws) ++ suf)
  have e : pre ++ enc ws ++ suf = pre ++ M.digs ws.length ++ (R.enc 1 (xs ws) ++ suf) := by simp [enc]
  have h2 := R.dec_enc (l := xs ws) (w := 1) (by omega) (width_xs ws) (by rw [xs_len]; exact hl) (pre ++ M.digs ws.length) suf
  have e2 : pre ++ enc ws ++ suf = pre ++ M.digs ws.length ++ (R.enc 1 (xs ws) ++ suf) := by simp [enc]
  rw [← e] at h1
  rw [← e2, xs_len] at h2
  unfold dec
  rw [h1]
  simp only [ne_eq, not_true_eq_false, if_false]
  rw [if_neg (by omega)]
  have h2' : R.dec (pre ++ enc ws ++ suf) ((pre.length + (M.digs ws.length).length : Nat) : Int) (ws.length : Int) 1 = (xs ws, (pre ++ M.digs ws.length).length + (R.enc 1 (xs ws)).length, 0) := by
    rw [show pre.length + (M.digs ws.length).length = (pre ++ M.digs ws.length).length from by simp]; exact h2
  rw [h2']
  simp only [not_true_eq_false, if_false, xs_back]
  simp [enc]
  omega
end Go.Proofs.Ytkhbkifofkjjnaa.Dl
