/-
  Plain facts on rows of cells, and on columns: judged, told, sorted, grown, written and read. No program here.
-/
import Derived.Test.YtnmonoafjijfhaaGreatM08
import Derived.Test.YtnmonoafjijfhaaGreatM09
namespace Go.Proofs.YtnmonoafjijfhaaGreat
set_option linter.unusedVariables false
set_option linter.unusedSimpArgs false
structure Ce where
  col : List UInt8
  k : Int
  n : Int
  s : List UInt8
structure Rw where
  t : Int
  q : Int
  c : List Ce
namespace Rw
def name (s : List UInt8) : Bool := s.all (fun b => decide (97 ≤ b.toNat) && decide (b.toNat ≤ 122)) && decide (1 ≤ s.length) && decide (s.length ≤ 12)
def form (c : Ce) : Bool := decide (c.k = 1) && decide (c.s = []) || decide (c.k = 2) && decide (c.n = 0) && decide (c.s.length ≤ 40)
def celOk (c : Ce) : Bool := name c.col && form c
def head (r : Rw) : Bool := decide (-1099511627776 ≤ r.t) && decide (r.t ≤ 1099511627776) && decide (0 ≤ r.q) && decide (r.q ≤ 1073741824) && decide (r.c.length ≤ 8)
def right (r : Rw) : Bool := head r && r.c.all celOk && T.adj (r.c.map Ce.col)
def none_ : Ce := ⟨[], 0, 0, []⟩
def zero : Rw := ⟨0, 0, []⟩
def cell (c : List Ce) (col : List UInt8) : Ce :=
  match c with
  | [] => none_
  | x :: r => if x.col = col then x else cell r col
def less (a b : Rw) : Bool := decide (a.t < b.t) || decide (a.t = b.t) && decide (a.q < b.q)
theorem right_iff (r : Rw) : right r = true ↔ (-1099511627776 ≤ r.t ∧ r.t ≤ 1099511627776 ∧ 0 ≤ r.q ∧ r.q ≤ 1073741824 ∧ r.c.length ≤ 8) ∧ (∀ c ∈ r.c, celOk c = true) ∧ T.Rise (r.c.map Ce.col) := by
  unfold right head
  simp only [Bool.and_eq_true, decide_eq_true_eq, List.all_eq_true, T.adj_iff]
  constructor
  · rintro ⟨⟨⟨⟨⟨⟨a, b⟩, c⟩, d⟩, e⟩, f⟩, g⟩; exact ⟨⟨a, b, c, d, e⟩, f, g⟩
  · rintro ⟨⟨a, b, c, d, e⟩, f, g⟩; exact ⟨⟨⟨⟨⟨⟨a, b⟩, c⟩, d⟩, e⟩, f⟩, g⟩
theorem name_iff (s : List UInt8) : name s = true ↔ (∀ b ∈ s, 97 ≤ b.toNat ∧ b.toNat ≤ 122) ∧ 1 ≤ s.length ∧ s.length ≤ 12 := by
  unfold name
  simp only [Bool.and_eq_true, decide_eq_true_eq, List.all_eq_true]
  constructor
  · rintro ⟨⟨a, b⟩, c⟩; exact ⟨a, b, c⟩
  · rintro ⟨a, b, c⟩; exact ⟨⟨a, b⟩, c⟩
theorem form_iff (c : Ce) : form c = true ↔ (c.k = 1 ∧ c.s = []) ∨ (c.k = 2 ∧ c.n = 0 ∧ c.s.length ≤ 40) := by
  unfold form
  simp only [Bool.or_eq_true, Bool.and_eq_true, decide_eq_true_eq]
  constructor
  · rintro (h | ⟨⟨a, b⟩, c⟩)
    · exact .inl h
    · exact .inr ⟨a, b, c⟩
  · rintro (h | ⟨a, b, c⟩)
    · exact .inl h
    · exact .inr ⟨⟨a, b⟩, c⟩
theorem cell_out {l : List Ce} {s : List UInt8} (h : ∀ c ∈ l, c.col ≠ s) : cell l s = none_ := by
  induction l with
  | nil => rfl
  | cons x r ih =>
    unfold cell
    rw [if_neg (h x (by simp))]
    exact ih fun c hc => h c (by simp [hc])
/-- As bytes. -/
def encC (c : Ce) : List UInt8 := T.ptext c.col ++ M.digs c.k.toNat ++ (if c.k = 1 then M.digs (M.zig c.n).toNat else T.ptext c.s)
def encCs (l : List Ce) : List UInt8 := l.flatMap encC
def enc (r : Rw) : List UInt8 := M.digs (M.zig r.t).toNat ++ M.digs r.q.toNat ++ M.digs r.c.length ++ encCs r.c
def encE (r : Rw) : List UInt8 × Nat := if right r = true then (enc r, 0) else ([], 12)
theorem encCs_cons (c : Ce) (l : List Ce) : encCs (c :: l) = encC c ++ encCs l := rfl
theorem encC_len {c : Ce} (h : celOk c = true) : (encC c).length ≤ 100 := by
  unfold celOk at h
  rw [Bool.and_eq_true, name_iff, form_iff] at h
  have h1 := M.digs_len c.col.length
  have h2 := M.digs_len c.k.toNat
  have h3 := M.digs_len (M.zig c.n).toNat
  have h4 := M.digs_len c.s.length
  unfold encC T.ptext
  simp only [List.length_append]
  split
  · omega
  · simp only [List.length_append]
    rcases h.2 with ⟨a, b⟩ | ⟨a, b, d⟩
    · rename_i hk; exact absurd a hk
    · omega
theorem encCs_len {l : List Ce} (h : ∀ c ∈ l, celOk c = true) : (encCs l).length ≤ 100 * l.length := by
  induction l with
  | nil => simp [encCs]
  | cons c r ih =>
    have h1 := encC_len (h c (by simp))
    have h2 := ih fun d hd => h d (by simp [hd])
    rw [encCs_cons, List.length_append, List.length_cons]
    omega
theorem enc_len {r : Rw} (h : right r = true) : (enc r).length ≤ 900 := by
  obtain ⟨⟨_, _, _, _, h8⟩, hc, _⟩ := (right_iff r).1 h
  have h1 := M.digs_len (M.zig r.t).toNat
  have h2 := M.digs_len r.q.toNat
  have h3 := M.digs_len r.c.length
  have h4 := encCs_len hc
  unfold enc
  simp only [List.length_append]
  omega
/-- Of bytes. -/
def rdC (b : List UInt8) (k : Nat) : Ce × Nat × Nat :=
  if (M.getText b k 12).2.2 ≠ 0 then (none_, 0, (M.getText b k 12).2.2) else
  if (M.get b (M.getText b k 12).2.1).2.2 ≠ 0 then (none_, 0, (M.get b (M.getText b k 12).2.1).2.2) else
  if (M.get b (M.getText b k 12).2.1).1 ≠ 1 ∧ (M.get b (M.getText b k 12).2.1).1 ≠ 2 then (none_, 0, 12) else
  if (M.get b (M.getText b k 12).2.1).1 = 1 then
    (if (M.get b (M.get b (M.getText b k 12).2.1).2.1).2.2 ≠ 0 then (none_, 0, (M.get b (M.get b (M.getText b k 12).2.1).2.1).2.2) else
      (⟨(M.getText b k 12).1, 1, M.zag ((M.get b (M.get b (M.getText b k 12).2.1).2.1).1 : Int), []⟩, (M.get b (M.get b (M.getText b k 12).2.1).2.1).2.1, 0))
  else
    (if (M.getText b (M.get b (M.getText b k 12).2.1).2.1 40).2.2 ≠ 0 then (none_, 0, (M.getText b (M.get b (M.getText b k 12).2.1).2.1 40).2.2) else
      (⟨(M.getText b k 12).1, 2, 0, (M.getText b (M.get b (M.getText b k 12).2.1).2.1 40).1⟩, (M.getText b (M.get b (M.getText b k 12).2.1).2.1 40).2.1, 0))
def rdCs (b : List UInt8) : Nat → Nat → List Ce → List Ce × Nat × Nat
  | 0, k, o => (o, k, 0)
  | n + 1, k, o => if (rdC b k).2.2 ≠ 0 then ([], 0, (rdC b k).2.2) else rdCs b n (rdC b k).2.1 (o ++ [(rdC b k).1])
def fin (r : Rw) (k : Nat) : Rw × Nat × Nat := if right r = true then (r, k, 0) else (zero, 0, 12)
def dec3 (b : List UInt8) (t q n k : Nat) : Rw × Nat × Nat :=
  if 1073741824 < q ∨ 8 < n then (zero, 0, 12) else
  if (rdCs b n k []).2.2 ≠ 0 then (zero, 0, (rdCs b n k []).2.2) else fin ⟨M.zag (t : Int), (q : Int), (rdCs b n k []).1⟩ (rdCs b n k []).2.1
def dec (b : List UInt8) (p : Int) : Rw × Nat × Nat :=
  if (M.get b p).2.2 ≠ 0 then (zero, 0, (M.get b p).2.2) else
  if (M.get b (M.get b p).2.1).2.2 ≠ 0 then (zero, 0, (M.get b (M.get b p).2.1).2.2) else
  if (M.get b (M.get b (M.get b p).2.1).2.1).2.2 ≠ 0 then (zero, 0, (M.get b (M.get b (M.get b p).2.1).2.1).2.2) else
  dec3 b (M.get b p).1 (M.get b (M.get b p).2.1).1 (M.get b (M.get b (M.get b p).2.1).2.1).1 (M.get b (M.get b (M.get b p).2.1).2.1).2.1
theorem text_at (l s r : List UInt8) (m : Int) (h : (s.length : Int) ≤ m) (h2 : s.length < 18446744073709551616) : M.getText (l ++ T.ptext s ++ r) (l.length : Int) m = (s, (l ++ T.ptext s).length, 0) := by
  unfold M.getText T.ptext
  have e1 : l ++ (M.digs s.length ++ s) ++ r = l ++ M.digs s.length ++ (s ++ r) := by simp
  rw [e1, M.get_digs h2 l (s ++ r)]
  simp only
  rw [if_neg (by simp), if_neg (by omega), if_neg (by simp; omega)]
  have e : (l ++ M.digs s.length ++ (s ++ r)).drop (l.length + (M.digs s.length).length) = s ++ r := by
    rw [← List.length_append]; simp
  rw [e]
  simp
  omega
theorem zig_lt {n : Int} (h : In64 n) : (M.zig n).toNat < 18446744073709551616 ∧ 0 ≤ M.zig n := by
  obtain ⟨h1, h2⟩ := h
  unfold M.zig
  split <;> omega
theorem zag_in {n : Nat} (h : n < 18446744073709551616) : In64 (M.zag (n : Int)) := by
  unfold M.zag In64
  split <;> omega
theorem rdC_at {c : Ce} (h : celOk c = true) (hn : In64 c.n) (P Z : List UInt8) : rdC (P ++ encC c ++ Z) P.length = (c, (P ++ encC c).length, 0) := by
  unfold celOk at h
  rw [Bool.and_eq_true, name_iff, form_iff] at h
  obtain ⟨⟨_, _, hcl⟩, hf⟩ := h
  obtain ⟨col, k, n, s⟩ := c
  simp only at *
  rcases hf with ⟨rfl, rfl⟩ | ⟨rfl, rfl, hs⟩
  · have hz := zig_lt hn
    obtain ⟨E, hE⟩ : ∃ E, M.digs (M.zig n).toNat = E := ⟨_, rfl⟩
    have e0 : P ++ encC ⟨col, 1, n, []⟩ ++ Z = P ++ T.ptext col ++ (M.digs 1 ++ E ++ Z) := by simp [encC, hE]
    have e1 : P ++ encC ⟨col, 1, n, []⟩ ++ Z = P ++ T.ptext col ++ M.digs 1 ++ (E ++ Z) := by simp [encC, hE]
    have e2 : P ++ encC ⟨col, 1, n, []⟩ ++ Z = P ++ T.ptext col ++ M.digs 1 ++ M.digs (M.zig n).toNat ++ Z := by simp [encC]
    have g0 := text_at P col (M.digs 1 ++ E ++ Z) 12 (by omega) (by omega)
    have g1 := M.get_digs (n := 1) (by omega) (P ++ T.ptext col) (E ++ Z)
    have g2 := M.get_digs (n := (M.zig n).toNat) hz.1 (P ++ T.ptext col ++ M.digs 1) Z
    rw [← e0] at g0
    rw [← e1] at g1
    rw [← e2] at g2
    unfold rdC
    rw [g0]
    simp only
    rw [if_neg (by simp), g1]
    simp only
    rw [if_neg (by simp), if_neg (by simp), if_pos trivial]
    rw [show (P ++ T.ptext col).length + (M.digs 1).length = (P ++ T.ptext col ++ M.digs 1).length from List.length_append.symm, g2]
    simp only
    rw [if_neg (by simp), Int.toNat_of_nonneg hz.2, M.zag_zig]
    simp only [encC, List.append_assoc]
    first | rfl | (simp; done) | (simp; omega)
  · obtain ⟨E, hE⟩ : ∃ E, T.ptext s = E := ⟨_, rfl⟩
    have e0 : P ++ encC ⟨col, 2, 0, s⟩ ++ Z = P ++ T.ptext col ++ (M.digs 2 ++ E ++ Z) := by simp [encC, hE]
    have e1 : P ++ encC ⟨col, 2, 0, s⟩ ++ Z = P ++ T.ptext col ++ M.digs 2 ++ (E ++ Z) := by simp [encC, hE]
    have e2 : P ++ encC ⟨col, 2, 0, s⟩ ++ Z = P ++ T.ptext col ++ M.digs 2 ++ T.ptext s ++ Z := by simp [encC]
    have g0 := text_at P col (M.digs 2 ++ E ++ Z) 12 (by omega) (by omega)
    have g1 := M.get_digs (n := 2) (by omega) (P ++ T.ptext col) (E ++ Z)
    have g2 := text_at (P ++ T.ptext col ++ M.digs 2) s Z 40 (by omega) (by omega)
    rw [← e0] at g0
    rw [← e1] at g1
    rw [← e2] at g2
    unfold rdC
    rw [g0]
    simp only
    rw [if_neg (by simp), g1]
    simp only
    rw [if_neg (by simp), if_neg (by simp), if_neg (by simp)]
    rw [show (P ++ T.ptext col).length + (M.digs 2).length = (P ++ T.ptext col ++ M.digs 2).length from List.length_append.symm, g2]
    simp only
    rw [if_neg (by simp)]
    simp only [encC, List.append_assoc]
    first | rfl | simp
theorem rdCs_at (Z : List UInt8) : ∀ (l : List Ce), (∀ c ∈ l, celOk c = true) → (∀ c ∈ l, In64 c.n) → ∀ (P : List UInt8) (o : List Ce), rdCs (P ++ encCs l ++ Z) l.length P.length o = (o ++ l, (P ++ encCs l).length, 0)
  | [], _, _, P, o => by simp [rdCs, encCs]
  | c :: l, h, hn, P, o => by
    have e : P ++ encCs (c :: l) ++ Z = P ++ encC c ++ (encCs l ++ Z) := by simp [encCs_cons]
    have e2 : P ++ encCs (c :: l) ++ Z = (P ++ encC c) ++ encCs l ++ Z := by simp [encCs_cons]
    have g := rdC_at (h c (by simp)) (hn c (by simp)) P (encCs l ++ Z)
    rw [← e] at g
    rw [List.length_cons, rdCs, g]
    simp only
    rw [if_neg (by simp), e2, rdCs_at Z l (fun d hd => h d (by simp [hd])) (fun d hd => hn d (by simp [hd])) (P ++ encC c) (o ++ [c])]
    simp [encCs_cons]
theorem dec_enc {r : Rw} (h : right r = true) (hn : ∀ c ∈ r.c, In64 c.n) (P Z : List UInt8) : dec (P ++ enc r ++ Z) (P.length : Int) = (r, (P ++ enc r).length, 0) := by
  obtain ⟨⟨h1, h2, h3, h4, h5⟩, hc, hr⟩ := (right_iff r).1 h
  have hz := zig_lt (n := r.t) ⟨by omega, by omega⟩
  obtain ⟨A, hA⟩ : ∃ A, M.digs (M.zig r.t).toNat = A := ⟨_, rfl⟩
  obtain ⟨B, hB⟩ : ∃ B, M.digs r.q.toNat = B := ⟨_, rfl⟩
  obtain ⟨C, hC⟩ : ∃ C, M.digs r.c.length = C := ⟨_, rfl⟩
  obtain ⟨W, hW⟩ : ∃ W, P ++ enc r ++ Z = W := ⟨_, rfl⟩
  have g0 := M.get_digs hz.1 P (B ++ C ++ encCs r.c ++ Z)
  have g1 := M.get_digs (n := r.q.toNat) (by omega) (P ++ A) (C ++ encCs r.c ++ Z)
  have g2 := M.get_digs (n := r.c.length) (by omega) (P ++ A ++ B) (encCs r.c ++ Z)
  have g3 := rdCs_at Z r.c hc hn (P ++ A ++ B ++ C) []
  rw [hA] at g0
  rw [hB] at g1
  rw [hC] at g2
  have w0 : P ++ A ++ (B ++ C ++ encCs r.c ++ Z) = W := by rw [← hW, enc, hA, hB, hC]; simp
  have w1 : P ++ A ++ B ++ (C ++ encCs r.c ++ Z) = W := by rw [← hW, enc, hA, hB, hC]; simp
  have w2 : P ++ A ++ B ++ C ++ (encCs r.c ++ Z) = W := by rw [← hW, enc, hA, hB, hC]; simp
  have w3 : P ++ A ++ B ++ C ++ encCs r.c ++ Z = W := by rw [← hW, enc, hA, hB, hC]; simp
  rw [w0] at g0
  rw [w1] at g1
  rw [w2] at g2
  rw [w3] at g3
  rw [hW]
  unfold dec
  rw [g0]
  simp only
  rw [if_neg (by simp), show P.length + A.length = (P ++ A).length from List.length_append.symm, g1]
  simp only
  rw [if_neg (by simp), show (P ++ A).length + B.length = (P ++ A ++ B).length from List.length_append.symm, g2]
  simp only
  rw [if_neg (by simp), dec3, if_neg (by omega), show (P ++ A ++ B).length + C.length = (P ++ A ++ B ++ C).length from List.length_append.symm, g3]
  simp only [List.nil_append]
  rw [if_neg (by simp), Int.toNat_of_nonneg hz.2, M.zag_zig, Int.toNat_of_nonneg h3, fin]
  have hr' : (⟨r.t, r.q, r.c⟩ : Rw) = r := rfl
  rw [hr', if_pos h, enc, hA, hB, hC]
  simp
theorem get_at {b : List UInt8} {p v k : Nat} (h : M.get b (p : Int) = (v, k, 0)) : p ≤ k ∧ k ≤ b.length ∧ b.take k = b.take p ++ M.digs v ∧ v < 18446744073709551616 := by
  have hall := (M.get_all b p).1
  rw [h] at hall
  unfold M.get at h
  split at h
  · simp at h
  · rename_i h1
    simp only [Int.toNat_natCast] at h
    split at h
    · rename_i h2
      simp only [Prod.mk.injEq] at h
      obtain ⟨hv, hk, _⟩ := h
      obtain ⟨b1, b2, b3⟩ := M.getR_back (r := b.drop p) (v := v) (k := (M.getR (b.drop p)).2.1) (by rw [← hv]; exact Prod.ext rfl (Prod.ext rfl h2))
      simp at b2
      refine ⟨by omega, by omega, ?_, hall⟩
      rw [b3, ← hk, List.take_add]
    · rename_i h2
      simp only [Prod.mk.injEq] at h
      exact absurd h.2.2 h2
theorem text_back {b : List UInt8} {p k : Nat} {s : List UInt8} {m : Int} (h : M.getText b (p : Int) m = (s, k, 0)) : p ≤ k ∧ k ≤ b.length ∧ b.take k = b.take p ++ T.ptext s ∧ s.length ≤ m.toNat := by
  unfold M.getText at h
  split at h
  · rename_i h1; simp only [Prod.mk.injEq] at h; exact absurd h.2.2 h1
  rename_i h1
  obtain ⟨n, q, hg⟩ : ∃ n q, M.get b (p : Int) = (n, q, 0) := ⟨_, _, Prod.ext rfl (Prod.ext rfl (Decidable.not_not.1 h1))⟩
  rw [hg] at h
  simp only at h
  split at h
  · simp at h
  rename_i h2
  split at h
  · simp at h
  rename_i h3
  simp only [Prod.mk.injEq, and_true] at h
  obtain ⟨hs, hk⟩ := h
  obtain ⟨g1, g2, g3, g4⟩ := get_at hg
  have hsl : s.length = n := by rw [← hs]; simp; omega
  refine ⟨by omega, by omega, ?_, by omega⟩
  rw [← hk, List.take_add, g3, hs, T.ptext, hsl, List.append_assoc]
theorem rdC_back {b : List UInt8} {p k : Nat} {c : Ce} (h : rdC b p = (c, k, 0)) : p ≤ k ∧ k ≤ b.length ∧ b.take k = b.take p ++ encC c ∧ In64 c.n := by
  unfold rdC at h
  split at h
  · rename_i e; simp only [Prod.mk.injEq] at h; exact absurd h.2.2 e
  rename_i e1
  obtain ⟨col, k1, g1⟩ : ∃ v m, M.getText b (p : Int) 12 = (v, m, 0) := ⟨_, _, Prod.ext rfl (Prod.ext rfl (Decidable.not_not.1 e1))⟩
  rw [g1] at h
  simp only at h
  split at h
  · rename_i e; simp only [Prod.mk.injEq] at h; exact absurd h.2.2 e
  rename_i e2
  obtain ⟨K, k2, g2⟩ : ∃ v m, M.get b (k1 : Int) = (v, m, 0) := ⟨_, _, Prod.ext rfl (Prod.ext rfl (Decidable.not_not.1 e2))⟩
  rw [g2] at h
  simp only at h
  split at h
  · simp at h
  rename_i hK
  obtain ⟨a1, a2, a3, a4⟩ := text_back g1
  obtain ⟨b1, b2, b3, b4⟩ := get_at g2
  split at h
  · rename_i hK1
    subst hK1
    split at h
    · rename_i e; simp only [Prod.mk.injEq] at h; exact absurd h.2.2 e
    rename_i e3
    obtain ⟨x, k3, g3⟩ : ∃ v m, M.get b (k2 : Int) = (v, m, 0) := ⟨_, _, Prod.ext rfl (Prod.ext rfl (Decidable.not_not.1 e3))⟩
    rw [g3] at h
    simp only [Prod.mk.injEq, and_true] at h
    obtain ⟨rfl, rfl⟩ := h
    obtain ⟨c1, c2, c3, c4⟩ := get_at g3
    refine ⟨by omega, c2, ?_, zag_in c4⟩
    rw [c3, b3, a3, encC, if_pos rfl, M.zig_zag _ (by omega)]
    simp
  · rename_i hK1
    have hK2 : K = 2 := by omega
    subst hK2
    split at h
    · rename_i e; simp only [Prod.mk.injEq] at h; exact absurd h.2.2 e
    rename_i e3
    obtain ⟨x, k3, g3⟩ : ∃ v m, M.getText b (k2 : Int) 40 = (v, m, 0) := ⟨_, _, Prod.ext rfl (Prod.ext rfl (Decidable.not_not.1 e3))⟩
    rw [g3] at h
    simp only [Prod.mk.injEq, and_true] at h
    obtain ⟨rfl, rfl⟩ := h
    obtain ⟨c1, c2, c3, c4⟩ := text_back g3
    refine ⟨by omega, c2, ?_, ⟨by simp, by simp⟩⟩
    rw [c3, b3, a3, encC, if_neg (by simp)]
    simp
theorem rdCs_back {b : List UInt8} : ∀ (n p : Nat) (o l : List Ce) (k : Nat), p ≤ b.length → (∀ c ∈ o, In64 c.n) → rdCs b n p o = (l, k, 0) → p ≤ k ∧ k ≤ b.length ∧ ∃ m, l = o ++ m ∧ m.length = n ∧ b.take k = b.take p ++ encCs m ∧ ∀ c ∈ l, In64 c.n
  | 0, p, o, l, k, hp, ho, h => by
    simp only [rdCs, Prod.mk.injEq, and_true] at h
    obtain ⟨rfl, rfl⟩ := h
    exact ⟨Nat.le_refl _, hp, [], by simp, rfl, by simp [encCs], ho⟩
  | n + 1, p, o, l, k, hp, ho, h => by
    rw [rdCs] at h
    split at h
    · rename_i e; simp only [Prod.mk.injEq] at h; exact absurd h.2.2 e
    rename_i e1
    obtain ⟨c, k1, g1⟩ : ∃ v m, rdC b p = (v, m, 0) := ⟨_, _, Prod.ext rfl (Prod.ext rfl (Decidable.not_not.1 e1))⟩
    rw [g1] at h
    simp only at h
    obtain ⟨a1, a2, a3, a4⟩ := rdC_back g1
    obtain ⟨b1, b2, m, hm, hml, hbt, hok⟩ := rdCs_back n k1 (o ++ [c]) l k a2 (fun d hd => by
      rcases List.mem_append.1 hd with hd | hd
      · exact ho d hd
      · have : d = c := by simpa using hd
        rw [this]; exact a4) h
    refine ⟨by omega, b2, c :: m, by rw [hm]; simp, by simp [hml], ?_, hok⟩
    rw [hbt, a3, encCs_cons]
    simp
/-- What is read is Right, and its bytes are those that are written. -/
theorem dec_ok {b : List UInt8} {p : Nat} {r : Rw} {k : Nat} (h : dec b (p : Int) = (r, k, 0)) : right r = true ∧ k ≤ b.length ∧ b.take k = b.take p ++ enc r ∧ ∀ c ∈ r.c, In64 c.n := by
  unfold dec at h
  split at h
  · rename_i e; simp only [Prod.mk.injEq] at h; exact absurd h.2.2 e
  rename_i e1
  obtain ⟨t, k1, g1⟩ : ∃ v m, M.get b (p : Int) = (v, m, 0) := ⟨_, _, Prod.ext rfl (Prod.ext rfl (Decidable.not_not.1 e1))⟩
  rw [g1] at h
  simp only at h
  split at h
  · rename_i e; simp only [Prod.mk.injEq] at h; exact absurd h.2.2 e
  rename_i e2
  obtain ⟨q, k2, g2⟩ : ∃ v m, M.get b (k1 : Int) = (v, m, 0) := ⟨_, _, Prod.ext rfl (Prod.ext rfl (Decidable.not_not.1 e2))⟩
  rw [g2] at h
  simp only at h
  split at h
  · rename_i e; simp only [Prod.mk.injEq] at h; exact absurd h.2.2 e
  rename_i e3
  obtain ⟨n, k3, g3⟩ : ∃ v m, M.get b (k2 : Int) = (v, m, 0) := ⟨_, _, Prod.ext rfl (Prod.ext rfl (Decidable.not_not.1 e3))⟩
  rw [g3] at h
  simp only at h
  unfold dec3 at h
  split at h
  · simp at h
  rename_i hb
  split at h
  · rename_i e; simp only [Prod.mk.injEq] at h; exact absurd h.2.2 e
  rename_i e4
  obtain ⟨l, k4, g4⟩ : ∃ v m, rdCs b n k3 [] = (v, m, 0) := ⟨_, _, Prod.ext rfl (Prod.ext rfl (Decidable.not_not.1 e4))⟩
  rw [g4] at h
  simp only at h
  unfold fin at h
  split at h
  · rename_i hr
    simp only [Prod.mk.injEq, and_true] at h
    obtain ⟨rfl, rfl⟩ := h
    obtain ⟨a1, a2, a3, a4⟩ := get_at g1
    obtain ⟨b1, b2, b3, b4⟩ := get_at g2
    obtain ⟨c1, c2, c3, c4⟩ := get_at g3
    obtain ⟨d1, d2, m, hm, hml, d3, d4⟩ := rdCs_back n k3 [] l k4 c2 (by simp) g4
    have hm' : l = m := by simpa using hm
    subst hm'
    refine ⟨hr, d2, ?_, d4⟩
    rw [d3, c3, b3, a3, enc]
    simp only
    rw [M.zig_zag _ (by omega), Int.toNat_natCast, Int.toNat_natCast, hml]
    simp
  · simp at h
theorem dec_bad {b : List UInt8} {p : Int} {r : Rw} {k e : Nat} (h : dec b p = (r, k, e)) (he : e ≠ 0) : r = zero ∧ k = 0 := by
  unfold dec dec3 fin at h
  repeat' (split at h)
  all_goals (simp only [Prod.mk.injEq] at h; first | exact ⟨h.1.symm, h.2.1.symm⟩ | exact absurd h.2.2.symm he)
end Rw
end Go.Proofs.YtnmonoafjijfhaaGreat
