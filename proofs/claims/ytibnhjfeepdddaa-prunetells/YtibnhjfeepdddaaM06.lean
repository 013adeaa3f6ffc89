/-
  Plain facts on rows of cells, and on columns: judged, told, sorted, grown, written and read. No program here. Predicates as trees: a part's head and the list of its Kids. No program here.
-/
import Derived.Test.YtibnhjfeepdddaaM02
import Derived.Test.YtibnhjfeepdddaaM05
import Derived.Deep.Trees
namespace Go.Proofs.Ytibnhjfeepdddaa
set_option linter.unusedVariables false
set_option linter.unusedSimpArgs false
structure Ce where
  col : List UInt8
  k : Int
  n : Int
  s : List UInt8
structure Rw where
  t : Int
  q : Int
  c : List Ce
structure Co where
  nm : List UInt8
  k : Int
namespace Rw
def name (s : List UInt8) : Bool := s.all (fun b => decide (97 ≤ b.toNat) && decide (b.toNat ≤ 122)) && decide (1 ≤ s.length) && decide (s.length ≤ 12)
def form (c : Ce) : Bool := decide (c.k = 1) && decide (c.s = []) || decide (c.k = 2) && decide (c.n = 0) && decide (c.s.length ≤ 40)
def celOk (c : Ce) : Bool := name c.col && form c
def head (r : Rw) : Bool := decide (-1099511627776 ≤ r.t) && decide (r.t ≤ 1099511627776) && decide (0 ≤ r.q) && decide (r.q ≤ 1073741824) && decide (r.c.length ≤ 8)
def right (r : Rw) : Bool := head r && r.c.all celOk && T.adj (r.c.map Ce.col)
def none_ : Ce := ⟨[], 0, 0, []⟩
def zero : Rw := ⟨0, 0, []⟩
def cell (c : List Ce) (col : List UInt8) : Ce :=
  match c with
  | [] => none_
  | x :: r => if x.col = col then x else cell r col
def less (a b : Rw) : Bool := decide (a.t < b.t) || decide (a.t = b.t) && decide (a.q < b.q)
theorem right_iff (r : Rw) : right r = true ↔ (-1099511627776 ≤ r.t ∧ r.t ≤ 1099511627776 ∧ 0 ≤ r.q ∧ r.q ≤ 1073741824 ∧ r.c.length ≤ 8) ∧ (∀ c ∈ r.c, celOk c = true) ∧ T.Rise (r.c.map Ce.col) := by
  unfold right head
  simp only [Bool.and_eq_true, decide_eq_true_eq, List.all_eq_true, T.adj_iff]
  constructor
  · rintro ⟨⟨⟨⟨⟨⟨a, b⟩, c⟩, d⟩, e⟩, f⟩, g⟩; exact ⟨⟨a, b, c, d, e⟩, f, g⟩
  · rintro ⟨⟨a, b, c, d, e⟩, f, g⟩; exact ⟨⟨⟨⟨⟨⟨a, b⟩, c⟩, d⟩, e⟩, f⟩, g⟩
theorem name_iff (s : List UInt8) : name s = true ↔ (∀ b ∈ s, 97 ≤ b.toNat ∧ b.toNat ≤ 122) ∧ 1 ≤ s.length ∧ s.length ≤ 12 := by
  unfold name
  simp only [Bool.and_eq_true, decide_eq_true_eq, List.all_eq_true]
  constructor
  · rintro ⟨⟨a, b⟩, c⟩; exact ⟨a, b, c⟩
  · rintro ⟨a, b, c⟩; exact ⟨⟨a, b⟩, c⟩
theorem form_iff (c : Ce) : form c = true ↔ (c.k = 1 ∧ c.s = []) ∨ (c.k = 2 ∧ c.n = 0 ∧ c.s.length ≤ 40) := by
  unfold form
  simp only [Bool.or_eq_true, Bool.and_eq_true, decide_eq_true_eq]
  constructor
  · rintro (h | ⟨⟨a, b⟩, c⟩)
    · exact .inl h
    · exact .inr ⟨a, b, c⟩
  · rintro (h | ⟨a, b, c⟩)
    · exact .inl h
    · exact .inr ⟨⟨a, b⟩, c⟩
/-- The cells of a Right row are told by their names. -/
theorem cell_in {l : List Ce} (h : T.Rise (l.map Ce.col)) {i : Nat} {c : Ce} (hc : l[i]? = some c) : cell l c.col = c := by
  induction l generalizing i with
  | nil => simp at hc
  | cons x r ih =>
    rw [List.map_cons, T.rise_cons] at h
    unfold cell
    cases i with
    | zero => simp at hc; subst hc; rw [if_pos rfl]
    | succ i =>
      have hm : c ∈ r := List.mem_of_getElem? (by simpa using hc)
      have hl := h.1 c.col (List.mem_map.2 ⟨c, hm, rfl⟩)
      rw [if_neg (T.lt_ne hl)]
      exact ih h.2 (by simpa using hc)
theorem cell_out {l : List Ce} {s : List UInt8} (h : ∀ c ∈ l, c.col ≠ s) : cell l s = none_ := by
  induction l with
  | nil => rfl
  | cons x r ih =>
    unfold cell
    rw [if_neg (h x (by simp))]
    exact ih fun c hc => h c (by simp [hc])
theorem cell_some {l : List Ce} {s : List UInt8} (h : ∃ c ∈ l, c.col = s) : ∃ c ∈ l, cell l s = c ∧ c.col = s := by
  induction l with
  | nil => obtain ⟨c, hc, _⟩ := h; simp at hc
  | cons x r ih =>
    unfold cell
    by_cases hx : x.col = s
    · rw [if_pos hx]; exact ⟨x, by simp, rfl, hx⟩
    · rw [if_neg hx]
      obtain ⟨c, hc, hs⟩ := h
      rcases List.mem_cons.1 hc with rfl | hc
      · exact absurd hs hx
      · obtain ⟨d, h1, h2, h3⟩ := ih ⟨c, hc, hs⟩
        exact ⟨d, by simp [h1], h2, h3⟩
/-- As bytes. -/
def encC (c : Ce) : List UInt8 := T.ptext c.col ++ M.digs c.k.toNat ++ (if c.k = 1 then M.digs (M.zig c.n).toNat else T.ptext c.s)
def encCs (l : List Ce) : List UInt8 := l.flatMap encC
def enc (r : Rw) : List UInt8 := M.digs (M.zig r.t).toNat ++ M.digs r.q.toNat ++ M.digs r.c.length ++ encCs r.c
def encE (r : Rw) : List UInt8 × Nat := if right r = true then (enc r, 0) else ([], 12)
theorem encCs_cons (c : Ce) (l : List Ce) : encCs (c :: l) = encC c ++ encCs l := rfl
theorem encCs_snoc (l : List Ce) (c : Ce) : encCs (l ++ [c]) = encCs l ++ encC c := by simp [encCs]
theorem encC_len {c : Ce} (h : celOk c = true) : (encC c).length ≤ 100 := by
  unfold celOk at h
  rw [Bool.and_eq_true, name_iff, form_iff] at h
  have h1 := M.digs_len c.col.length
  have h2 := M.digs_len c.k.toNat
  have h3 := M.digs_len (M.zig c.n).toNat
  have h4 := M.digs_len c.s.length
  unfold encC T.ptext
  simp only [List.length_append]
  split
  · omega
  · simp only [List.length_append]
    rcases h.2 with ⟨a, b⟩ | ⟨a, b, d⟩
    · rename_i hk; exact absurd a hk
    · omega
theorem encCs_len {l : List Ce} (h : ∀ c ∈ l, celOk c = true) : (encCs l).length ≤ 100 * l.length := by
  induction l with
  | nil => simp [encCs]
  | cons c r ih =>
    have h1 := encC_len (h c (by simp))
    have h2 := ih fun d hd => h d (by simp [hd])
    rw [encCs_cons, List.length_append, List.length_cons]
    omega
theorem enc_len {r : Rw} (h : right r = true) : (enc r).length ≤ 900 := by
  obtain ⟨⟨_, _, _, _, h8⟩, hc, _⟩ := (right_iff r).1 h
  have h1 := M.digs_len (M.zig r.t).toNat
  have h2 := M.digs_len r.q.toNat
  have h3 := M.digs_len r.c.length
  have h4 := encCs_len hc
  unfold enc
  simp only [List.length_append]
  omega
/-- Of bytes. -/
def rdC (b : List UInt8) (k : Nat) : Ce × Nat × Nat :=
  if (M.getText b k 12).2.2 ≠ 0 then (none_, 0, (M.getText b k 12).2.2) else
  if (M.get b (M.getText b k 12).2.1).2.2 ≠ 0 then (none_, 0, (M.get b (M.getText b k 12).2.1).2.2) else
  if (M.get b (M.getText b k 12).2.1).1 ≠ 1 ∧ (M.get b (M.getText b k 12).2.1).1 ≠ 2 then (none_, 0, 12) else
  if (M.get b (M.getText b k 12).2.1).1 = 1 then
    (if (M.get b (M.get b (M.getText b k 12).2.1).2.1).2.2 ≠ 0 then (none_, 0, (M.get b (M.get b (M.getText b k 12).2.1).2.1).2.2) else
      (⟨(M.getText b k 12).1, 1, M.zag ((M.get b (M.get b (M.getText b k 12).2.1).2.1).1 : Int), []⟩, (M.get b (M.get b (M.getText b k 12).2.1).2.1).2.1, 0))
  else
    (if (M.getText b (M.get b (M.getText b k 12).2.1).2.1 40).2.2 ≠ 0 then (none_, 0, (M.getText b (M.get b (M.getText b k 12).2.1).2.1 40).2.2) else
      (⟨(M.getText b k 12).1, 2, 0, (M.getText b (M.get b (M.getText b k 12).2.1).2.1 40).1⟩, (M.getText b (M.get b (M.getText b k 12).2.1).2.1 40).2.1, 0))
def rdCs (b : List UInt8) : Nat → Nat → List Ce → List Ce × Nat × Nat
  | 0, k, o => (o, k, 0)
  | n + 1, k, o => if (rdC b k).2.2 ≠ 0 then ([], 0, (rdC b k).2.2) else rdCs b n (rdC b k).2.1 (o ++ [(rdC b k).1])
def fin (r : Rw) (k : Nat) : Rw × Nat × Nat := if right r = true then (r, k, 0) else (zero, 0, 12)
def dec3 (b : List UInt8) (t q n k : Nat) : Rw × Nat × Nat :=
  if 1073741824 < q ∨ 8 < n then (zero, 0, 12) else
  if (rdCs b n k []).2.2 ≠ 0 then (zero, 0, (rdCs b n k []).2.2) else fin ⟨M.zag (t : Int), (q : Int), (rdCs b n k []).1⟩ (rdCs b n k []).2.1
def dec (b : List UInt8) (p : Int) : Rw × Nat × Nat :=
  if (M.get b p).2.2 ≠ 0 then (zero, 0, (M.get b p).2.2) else
  if (M.get b (M.get b p).2.1).2.2 ≠ 0 then (zero, 0, (M.get b (M.get b p).2.1).2.2) else
  if (M.get b (M.get b (M.get b p).2.1).2.1).2.2 ≠ 0 then (zero, 0, (M.get b (M.get b (M.get b p).2.1).2.1).2.2) else
  dec3 b (M.get b p).1 (M.get b (M.get b p).2.1).1 (M.get b (M.get b (M.get b p).2.1).2.1).1 (M.get b (M.get b (M.get b p).2.1).2.1).2.1
theorem text_at (l s r : List UInt8) (m : Int) (h : (s.length : Int) ≤ m) (h2 : s.length < 18446744073709551616) : M.getText (l ++ T.ptext s ++ r) (l.length : Int) m = (s, (l ++ T.ptext s).length, 0) := by
  unfold M.getText T.ptext
  have e1 : l ++ (M.digs s.length ++ s) ++ r = l ++ M.digs s.length ++ (s ++ r) := by simp
  rw [e1, M.get_digs h2 l (s ++ r)]
  simp only
  rw [if_neg (by simp), if_neg (by omega), if_neg (by simp; omega)]
  have e : (l ++ M.digs s.length ++ (s ++ r)).drop (l.length + (M.digs s.length).length) = s ++ r := by
    rw [← List.length_append]; simp
  rw [e]
  simp
  omega
theorem zig_lt {n : Int} (h : In64 n) : (M.zig n).toNat < 18446744073709551616 ∧ 0 ≤ M.zig n := by
  obtain ⟨h1, h2⟩ := h
  unfold M.zig
  split <;> omega
theorem zag_in {n : Nat} (h : n < 18446744073709551616) : In64 (M.zag (n : Int)) := by
  unfold M.zag In64
  split <;> omega
theorem rdC_at {c : Ce} (h : celOk c = true) (hn : In64 c.n) (P Z : List UInt8) : rdC (P ++ encC c ++ Z) P.length = (c, (P ++ encC c).length, 0) := by
  unfold celOk at h
  rw [Bool.and_eq_true, name_iff, form_iff] at h
  obtain ⟨⟨_, _, hcl⟩, hf⟩ := h
  obtain ⟨col, k, n, s⟩ := c
  simp only at *
  rcases hf with ⟨rfl, rfl⟩ | ⟨rfl, rfl, hs⟩
  · have hz := zig_lt hn
    obtain ⟨E, hE⟩ : ∃ E, M.digs (M.zig n).toNat = E := ⟨_, rfl⟩
    have e0 : P ++ encC ⟨col, 1, n, []⟩ ++ Z = P ++ T.ptext col ++ (M.digs 1 ++ E ++ Z) := by simp [encC, hE]
    have e1 : P ++ encC ⟨col, 1, n, []⟩ ++ Z = P ++ T.ptext col ++ M.digs 1 ++ (E ++ Z) := by simp [encC, hE]
    have e2 : P ++ encC ⟨col, 1, n, []⟩ ++ Z = P ++ T.ptext col ++ M.digs 1 ++ M.digs (M.zig n).toNat ++ Z := by simp [encC]
    have g0 := text_at P col (M.digs 1 ++ E ++ Z) 12 (by omega) (by omega)
    have g1 := M.get_digs (n := 1) (by omega) (P ++ T.ptext col) (E ++ Z)
    have g2 := M.get_digs (n := (M.zig n).toNat) hz.1 (P ++ T.ptext col ++ M.digs 1) Z
    rw [← e0] at g0
    rw [← e1] at g1
    rw [← e2] at g2
    unfold rdC
    rw [g0]
    simp only
    rw [if_neg (by simp), g1]
    simp only
    rw [if_neg (by simp), if_neg (by simp), if_pos trivial]
    rw [show (P ++ T.ptext col).length + (M.digs 1).length = (P ++ T.ptext col ++ M.digs 1).length from List.length_append.symm, g2]
    simp only
    rw [if_neg (by simp), Int.toNat_of_nonneg hz.2, M.zag_zig]
    simp only [encC, List.append_assoc]
    first | rfl | (simp; done) | (simp; omega)
  · obtain ⟨E, hE⟩ : ∃ E, T.ptext s = E := ⟨_, rfl⟩
    have e0 : P ++ encC ⟨col, 2, 0, s⟩ ++ Z = P ++ T.ptext col ++ (M.digs 2 ++ E ++ Z) := by simp [encC, hE]
    have e1 : P ++ encC ⟨col, 2, 0, s⟩ ++ Z = P ++ T.ptext col ++ M.digs 2 ++ (E ++ Z) := by simp [encC, hE]
    have e2 : P ++ encC ⟨col, 2, 0, s⟩ ++ Z = P ++ T.ptext col ++ M.digs 2 ++ T.ptext s ++ Z := by simp [encC]
    have g0 := text_at P col (M.digs 2 ++ E ++ Z) 12 (by omega) (by omega)
    have g1 := M.get_digs (n := 2) (by omega) (P ++ T.ptext col) (E ++ Z)
    have g2 := text_at (P ++ T.ptext col ++ M.digs 2) s Z 40 (by omega) (by omega)
    rw [← e0] at g0
    rw [← e1] at g1
    rw [← e2] at g2
    unfold rdC
    rw [g0]
    simp only
    rw [if_neg (by simp), g1]
    simp only
    rw [if_neg (by simp), if_neg (by simp), if_neg (by simp)]
    rw [show (P ++ T.ptext col).length + (M.digs 2).length = (P ++ T.ptext col ++ M.digs 2).length from List.length_append.symm, g2]
    simp only
    rw [if_neg (by simp)]
    simp only [encC, List.append_assoc]
    first | rfl | simp
theorem rdCs_at (Z : List UInt8) : ∀ (l : List Ce), (∀ c ∈ l, celOk c = true) → (∀ c ∈ l, In64 c.n) → ∀ (P : List UInt8) (o : List Ce), rdCs (P ++ encCs l ++ Z) l.length P.length o = (o ++ l, (P ++ encCs l).length, 0)
  | [], _, _, P, o => by simp [rdCs, encCs]
  | c :: l, h, hn, P, o => by
    have e : P ++ encCs (c :: l) ++ Z = P ++ encC c ++ (encCs l ++ Z) := by simp [encCs_cons]
    have e2 : P ++ encCs (c :: l) ++ Z = (P ++ encC c) ++ encCs l ++ Z := by simp [encCs_cons]
    have g := rdC_at (h c (by simp)) (hn c (by simp)) P (encCs l ++ Z)
    rw [← e] at g
    rw [List.length_cons, rdCs, g]
    simp only
    rw [if_neg (by simp), e2, rdCs_at Z l (fun d hd => h d (by simp [hd])) (fun d hd => hn d (by simp [hd])) (P ++ encC c) (o ++ [c])]
    simp [encCs_cons]
theorem dec_enc {r : Rw} (h : right r = true) (hn : ∀ c ∈ r.c, In64 c.n) (P Z : List UInt8) : dec (P ++ enc r ++ Z) (P.length : Int) = (r, (P ++ enc r).length, 0) := by
  obtain ⟨⟨h1, h2, h3, h4, h5⟩, hc, hr⟩ := (right_iff r).1 h
  have hz := zig_lt (n := r.t) ⟨by omega, by omega⟩
  obtain ⟨A, hA⟩ : ∃ A, M.digs (M.zig r.t).toNat = A := ⟨_, rfl⟩
  obtain ⟨B, hB⟩ : ∃ B, M.digs r.q.toNat = B := ⟨_, rfl⟩
  obtain ⟨C, hC⟩ : ∃ C, M.digs r.c.length = C := ⟨_, rfl⟩
  obtain ⟨W, hW⟩ : ∃ W, P ++ enc r ++ Z = W := ⟨_, rfl⟩
  have g0 := M.get_digs hz.1 P (B ++ C ++ encCs r.c ++ Z)
  have g1 := M.get_digs (n := r.q.toNat) (by omega) (P ++ A) (C ++ encCs r.c ++ Z)
  have g2 := M.get_digs (n := r.c.length) (by omega) (P ++ A ++ B) (encCs r.c ++ Z)
  have g3 := rdCs_at Z r.c hc hn (P ++ A ++ B ++ C) []
  rw [hA] at g0
  rw [hB] at g1
  rw [hC] at g2
  have w0 : P ++ A ++ (B ++ C ++ encCs r.c ++ Z) = W := by rw [← hW, enc, hA, hB, hC]; simp
  have w1 : P ++ A ++ B ++ (C ++ encCs r.c ++ Z) = W := by rw [← hW, enc, hA, hB, hC]; simp
  have w2 : P ++ A ++ B ++ C ++ (encCs r.c ++ Z) = W := by rw [← hW, enc, hA, hB, hC]; simp
  have w3 : P ++ A ++ B ++ C ++ encCs r.c ++ Z = W := by rw [← hW, enc, hA, hB, hC]; simp
  rw [w0] at g0
  rw [w1] at g1
  rw [w2] at g2
  rw [w3] at g3
  rw [hW]
  unfold dec
  rw [g0]
  simp only
  rw [if_neg (by simp), show P.length + A.length = (P ++ A).length from List.length_append.symm, g1]
  simp only
  rw [if_neg (by simp), show (P ++ A).length + B.length = (P ++ A ++ B).length from List.length_append.symm, g2]
  simp only
  rw [if_neg (by simp), dec3, if_neg (by omega), show (P ++ A ++ B).length + C.length = (P ++ A ++ B ++ C).length from List.length_append.symm, g3]
  simp only [List.nil_append]
  rw [if_neg (by simp), Int.toNat_of_nonneg hz.2, M.zag_zig, Int.toNat_of_nonneg h3, fin]
  have hr' : (⟨r.t, r.q, r.c⟩ : Rw) = r := rfl
  rw [hr', if_pos h, enc, hA, hB, hC]
  simp
/-- Unlike rows are written unlike. -/
theorem enc_inj {r o : Rw} (h : right r = true) (h2 : right o = true) (hn : ∀ c ∈ r.c, In64 c.n) (hn2 : ∀ c ∈ o.c, In64 c.n) (he : enc r = enc o) : r = o := by
  have a := dec_enc h hn [] []
  have b := dec_enc h2 hn2 [] []
  rw [he, b] at a
  simp only [Prod.mk.injEq] at a
  exact a.1.symm
theorem get_at {b : List UInt8} {p v k : Nat} (h : M.get b (p : Int) = (v, k, 0)) : p ≤ k ∧ k ≤ b.length ∧ b.take k = b.take p ++ M.digs v ∧ v < 18446744073709551616 := by
  have hall := (M.get_all b p).1
  rw [h] at hall
  unfold M.get at h
  split at h
  · simp at h
  · rename_i h1
    simp only [Int.toNat_natCast] at h
    split at h
    · rename_i h2
      simp only [Prod.mk.injEq] at h
      obtain ⟨hv, hk, _⟩ := h
      obtain ⟨b1, b2, b3⟩ := M.getR_back (r := b.drop p) (v := v) (k := (M.getR (b.drop p)).2.1) (by rw [← hv]; exact Prod.ext rfl (Prod.ext rfl h2))
      simp at b2
      refine ⟨by omega, by omega, ?_, hall⟩
      rw [b3, ← hk, List.take_add]
    · rename_i h2
      simp only [Prod.mk.injEq] at h
      exact absurd h.2.2 h2
theorem text_back {b : List UInt8} {p k : Nat} {s : List UInt8} {m : Int} (h : M.getText b (p : Int) m = (s, k, 0)) : p ≤ k ∧ k ≤ b.length ∧ b.take k = b.take p ++ T.ptext s ∧ s.length ≤ m.toNat := by
  unfold M.getText at h
  split at h
  · rename_i h1; simp only [Prod.mk.injEq] at h; exact absurd h.2.2 h1
  rename_i h1
  obtain ⟨n, q, hg⟩ : ∃ n q, M.get b (p : Int) = (n, q, 0) := ⟨_, _, Prod.ext rfl (Prod.ext rfl (Decidable.not_not.1 h1))⟩
  rw [hg] at h
  simp only at h
  split at h
  · simp at h
  rename_i h2
  split at h
  · simp at h
  rename_i h3
  simp only [Prod.mk.injEq, and_true] at h
  obtain ⟨hs, hk⟩ := h
  obtain ⟨g1, g2, g3, g4⟩ := get_at hg
  have hsl : s.length = n := by rw [← hs]; simp; omega
  refine ⟨by omega, by omega, ?_, by omega⟩
  rw [← hk, List.take_add, g3, hs, T.ptext, hsl, List.append_assoc]
theorem rdC_back {b : List UInt8} {p k : Nat} {c : Ce} (h : rdC b p = (c, k, 0)) : p ≤ k ∧ k ≤ b.length ∧ b.take k = b.take p ++ encC c ∧ In64 c.n := by
  unfold rdC at h
  split at h
  · rename_i e; simp only [Prod.mk.injEq] at h; exact absurd h.2.2 e
  rename_i e1
  obtain ⟨col, k1, g1⟩ : ∃ v m, M.getText b (p : Int) 12 = (v, m, 0) := ⟨_, _, Prod.ext rfl (Prod.ext rfl (Decidable.not_not.1 e1))⟩
  rw [g1] at h
  simp only at h
  split at h
  · rename_i e; simp only [Prod.mk.injEq] at h; exact absurd h.2.2 e
  rename_i e2
  obtain ⟨K, k2, g2⟩ : ∃ v m, M.get b (k1 : Int) = (v, m, 0) := ⟨_, _, Prod.ext rfl (Prod.ext rfl (Decidable.not_not.1 e2))⟩
  rw [g2] at h
  simp only at h
  split at h
  · simp at h
  rename_i hK
  obtain ⟨a1, a2, a3, a4⟩ := text_back g1
  obtain ⟨b1, b2, b3, b4⟩ := get_at g2
  split at h
  · rename_i hK1
    subst hK1
    split at h
    · rename_i e; simp only [Prod.mk.injEq] at h; exact absurd h.2.2 e
    rename_i e3
    obtain ⟨x, k3, g3⟩ : ∃ v m, M.get b (k2 : Int) = (v, m, 0) := ⟨_, _, Prod.ext rfl (Prod.ext rfl (Decidable.not_not.1 e3))⟩
    rw [g3] at h
    simp only [Prod.mk.injEq, and_true] at h
    obtain ⟨rfl, rfl⟩ := h
    obtain ⟨c1, c2, c3, c4⟩ := get_at g3
    refine ⟨by omega, c2, ?_, zag_in c4⟩
    rw [c3, b3, a3, encC, if_pos rfl, M.zig_zag _ (by omega)]
    simp
  · rename_i hK1
    have hK2 : K = 2 := by omega
    subst hK2
    split at h
    · rename_i e; simp only [Prod.mk.injEq] at h; exact absurd h.2.2 e
    rename_i e3
    obtain ⟨x, k3, g3⟩ : ∃ v m, M.getText b (k2 : Int) 40 = (v, m, 0) := ⟨_, _, Prod.ext rfl (Prod.ext rfl (Decidable.not_not.1 e3))⟩
    rw [g3] at h
    simp only [Prod.mk.injEq, and_true] at h
    obtain ⟨rfl, rfl⟩ := h
    obtain ⟨c1, c2, c3, c4⟩ := text_back g3
    refine ⟨by omega, c2, ?_, ⟨by simp, by simp⟩⟩
    rw [c3, b3, a3, encC, if_neg (by simp)]
    simp
theorem rdCs_back {b : List UInt8} : ∀ (n p : Nat) (o l : List Ce) (k : Nat), p ≤ b.length → (∀ c ∈ o, In64 c.n) → rdCs b n p o = (l, k, 0) → p ≤ k ∧ k ≤ b.length ∧ ∃ m, l = o ++ m ∧ m.length = n ∧ b.take k = b.take p ++ encCs m ∧ ∀ c ∈ l, In64 c.n
  | 0, p, o, l, k, hp, ho, h => by
    simp only [rdCs, Prod.mk.injEq, and_true] at h
    obtain ⟨rfl, rfl⟩ := h
    exact ⟨Nat.le_refl _, hp, [], by simp, rfl, by simp [encCs], ho⟩
  | n + 1, p, o, l, k, hp, ho, h => by
    rw [rdCs] at h
    split at h
    · rename_i e; simp only [Prod.mk.injEq] at h; exact absurd h.2.2 e
    rename_i e1
    obtain ⟨c, k1, g1⟩ : ∃ v m, rdC b p = (v, m, 0) := ⟨_, _, Prod.ext rfl (Prod.ext rfl (Decidable.not_not.1 e1))⟩
    rw [g1] at h
    simp only at h
    obtain ⟨a1, a2, a3, a4⟩ := rdC_back g1
    obtain ⟨b1, b2, m, hm, hml, hbt, hok⟩ := rdCs_back n k1 (o ++ [c]) l k a2 (fun d hd => by
      rcases List.mem_append.1 hd with hd | hd
      · exact ho d hd
      · have : d = c := by simpa using hd
        rw [this]; exact a4) h
    refine ⟨by omega, b2, c :: m, by rw [hm]; simp, by simp [hml], ?_, hok⟩
    rw [hbt, a3, encCs_cons]
    simp
/-- What is read is Right, and its bytes are those that are written. -/
theorem dec_ok {b : List UInt8} {p : Nat} {r : Rw} {k : Nat} (h : dec b (p : Int) = (r, k, 0)) : right r = true ∧ k ≤ b.length ∧ b.take k = b.take p ++ enc r ∧ ∀ c ∈ r.c, In64 c.n := by
  unfold dec at h
  split at h
  · rename_i e; simp only [Prod.mk.injEq] at h; exact absurd h.2.2 e
  rename_i e1
  obtain ⟨t, k1, g1⟩ : ∃ v m, M.get b (p : Int) = (v, m, 0) := ⟨_, _, Prod.ext rfl (Prod.ext rfl (Decidable.not_not.1 e1))⟩
  rw [g1] at h
  simp only at h
  split at h
  · rename_i e; simp only [Prod.mk.injEq] at h; exact absurd h.2.2 e
  rename_i e2
  obtain ⟨q, k2, g2⟩ : ∃ v m, M.get b (k1 : Int) = (v, m, 0) := ⟨_, _, Prod.ext rfl (Prod.ext rfl (Decidable.not_not.1 e2))⟩
  rw [g2] at h
  simp only at h
  split at h
  · rename_i e; simp only [Prod.mk.injEq] at h; exact absurd h.2.2 e
  rename_i e3
  obtain ⟨n, k3, g3⟩ : ∃ v m, M.get b (k2 : Int) = (v, m, 0) := ⟨_, _, Prod.ext rfl (Prod.ext rfl (Decidable.not_not.1 e3))⟩
  rw [g3] at h
  simp only at h
  unfold dec3 at h
  split at h
  · simp at h
  rename_i hb
  split at h
  · rename_i e; simp only [Prod.mk.injEq] at h; exact absurd h.2.2 e
  rename_i e4
  obtain ⟨l, k4, g4⟩ : ∃ v m, rdCs b n k3 [] = (v, m, 0) := ⟨_, _, Prod.ext rfl (Prod.ext rfl (Decidable.not_not.1 e4))⟩
  rw [g4] at h
  simp only at h
  unfold fin at h
  split at h
  · rename_i hr
    simp only [Prod.mk.injEq, and_true] at h
    obtain ⟨rfl, rfl⟩ := h
    obtain ⟨a1, a2, a3, a4⟩ := get_at g1
    obtain ⟨b1, b2, b3, b4⟩ := get_at g2
    obtain ⟨c1, c2, c3, c4⟩ := get_at g3
    obtain ⟨d1, d2, m, hm, hml, d3, d4⟩ := rdCs_back n k3 [] l k4 c2 (by simp) g4
    have hm' : l = m := by simpa using hm
    subst hm'
    refine ⟨hr, d2, ?_, d4⟩
    rw [d3, c3, b3, a3, enc]
    simp only
    rw [M.zig_zag _ (by omega), Int.toNat_natCast, Int.toNat_natCast, hml]
    simp
  · simp at h
theorem dec_bad {b : List UInt8} {p : Int} {r : Rw} {k e : Nat} (h : dec b p = (r, k, e)) (he : e ≠ 0) : r = zero ∧ k = 0 := by
  unfold dec dec3 fin at h
  repeat' (split at h)
  all_goals (simp only [Prod.mk.injEq] at h; first | exact ⟨h.1.symm, h.2.1.symm⟩ | exact absurd h.2.2.symm he)
end Rw
end Go.Proofs.Ytibnhjfeepdddaa
namespace Go.Proofs.Ytibnhjfeepdddaa
open Go.Deep (BT)
set_option linter.unusedVariables false
set_option linter.unusedSimpArgs false
/-- What a part asks, its Kids aside. -/
structure Hd where
  k : Int
  col : List UInt8
  n : Int
  m : Int
  s : List UInt8
  set : List (List UInt8)
structure Hr where
  col : List UInt8
  m : Int
  s : List UInt8
  set : List (List UInt8)
namespace Pd
/-- Whole numbers as counts, one to one. -/
def zg (i : Int) : Nat := if 0 ≤ i then 2 * i.toNat else 2 * (-i).toNat - 1
def zb (n : Nat) : Int := if n % 2 = 0 then ((n / 2 : Nat) : Int) else -(((n + 1) / 2 : Nat) : Int)
theorem zb_zg (i : Int) : zb (zg i) = i := by unfold zb zg; split <;> split <;> omega
theorem zg_zb (n : Nat) : zg (zb n) = n := by unfold zb zg; split <;> split <;> omega
/-- Kids: the first one's Kids, its head (two of its numbers lie where the library's tree keeps two), the others. -/
abbrev Fo := BT Hr
def cons (h : Hd) (l r : Fo) : Fo := .node (zg h.k) (zg h.n) ⟨h.col, h.m, h.s, h.set⟩ l r
def hd (b o : Nat) (a : Hr) : Hd := ⟨zb b, a.col, zb o, a.m, a.s, a.set⟩
theorem cons_hd (b o : Nat) (a : Hr) (l r : Fo) : cons (hd b o a) l r = .node b o a l r := by
  unfold cons hd; simp only [zg_zb]
theorem hd_cons (h : Hd) : hd (zg h.k) (zg h.n) ⟨h.col, h.m, h.s, h.set⟩ = h := by
  unfold hd; simp only [zb_zg]
def fold {β : Type} (z : β) (f : Hd → Fo → β → β → β) : Fo → β
  | .nil => z
  | .node b o a l r => f (hd b o a) l (fold z f l) (fold z f r)
theorem fold_nil {β : Type} (z : β) (f : Hd → Fo → β → β → β) : fold z f .nil = z := rfl
theorem fold_cons {β : Type} (z : β) (f : Hd → Fo → β → β → β) (h : Hd) (l r : Fo) : fold z f (cons h l r) = f h l (fold z f l) (fold z f r) := by
  rw [cons, fold, hd_cons]
theorem ind {P : Fo → Prop} (z : P .nil) (s : ∀ h l r, P l → P r → P (cons h l r)) : ∀ f, P f
  | .nil => z
  | .node b o a l r => by rw [← cons_hd]; exact s _ l r (ind z s l) (ind z s r)
end Pd
/-- A predicate. -/
structure Pr where
  h : Hd
  f : Pd.Fo
namespace Pd
def kl (f : Fo) : List Pr := fold [] (fun h l _ r => ⟨h, l⟩ :: r) f
def ofl : List Pr → Fo
  | [] => .nil
  | p :: t => cons p.h p.f (ofl t)
theorem kl_nil : kl .nil = [] := rfl
theorem kl_cons (h : Hd) (l r : Fo) : kl (cons h l r) = ⟨h, l⟩ :: kl r := by rw [kl, fold_cons]; rfl
theorem kl_ofl (l : List Pr) : kl (ofl l) = l := by
  induction l with
  | nil => rfl
  | cons p t ih => rw [ofl, kl_cons, ih]
theorem ofl_kl (f : Fo) : ofl (kl f) = f := by
  refine ind (P := fun f => ofl (kl f) = f) rfl ?_ f
  intro h l r _ hr
  rw [kl_cons, ofl, hr]
end Pd
/-- A predicate of a head and a list of Kids. -/
def Pr.mk' (h : Hd) (l : List Pr) : Pr := ⟨h, Pd.ofl l⟩
def Pr.ks (p : Pr) : List Pr := Pd.kl p.f
namespace Pd
theorem h_mk (h : Hd) (l : List Pr) : (Pr.mk' h l).h = h := rfl
theorem ks_mk (h : Hd) (l : List Pr) : (Pr.mk' h l).ks = l := kl_ofl l
theorem mk_ks (p : Pr) : Pr.mk' p.h p.ks = p := by unfold Pr.mk' Pr.ks; rw [ofl_kl]
theorem mk_inj {h h2 : Hd} {l l2 : List Pr} (e : Pr.mk' h l = Pr.mk' h2 l2) : h = h2 ∧ l = l2 :=
  ⟨congrArg Pr.h e, by rw [← ks_mk h l, e, ks_mk]⟩
/-- By its Kids. -/
theorem tree {P : Pr → Prop} (s : ∀ h l, (∀ k ∈ l, P k) → P (Pr.mk' h l)) : ∀ p, P p := by
  have all : ∀ f, ∀ k ∈ kl f, P k := by
    refine ind (P := fun f => ∀ k ∈ kl f, P k) (by simp [kl_nil]) ?_
    intro h l r hl hr k hk
    rw [kl_cons] at hk
    rcases List.mem_cons.1 hk with rfl | hk
    · have := s h (kl l) hl
      rw [Pr.mk', ofl_kl] at this
      exact this
    · exact hr k hk
  intro p
  rw [← mk_ks p]
  exact s _ _ (all p.f)
/-- Reckoned of a head, the Kids, and what is reckoned of the Kids. -/
def each {β : Type} (g : Hd → List Pr → List β → β) (f : Fo) : List β := fold [] (fun h l a r => g h (kl l) a :: r) f
def rec' {β : Type} (g : Hd → List Pr → List β → β) (p : Pr) : β := g p.h p.ks (each g p.f)
theorem each_eq {β : Type} (g : Hd → List Pr → List β → β) (f : Fo) : each g f = (kl f).map (rec' g) := by
  refine ind (P := fun f => each g f = (kl f).map (rec' g)) rfl ?_ f
  intro h l r _ hr
  rw [kl_cons, List.map_cons, ← hr, each, fold_cons]
  rfl
theorem rec_mk {β : Type} (g : Hd → List Pr → List β → β) (h : Hd) (l : List Pr) : rec' g (Pr.mk' h l) = g h l (l.map (rec' g)) := by
  unfold rec'
  rw [each_eq, ks_mk, h_mk]
  show g h l ((kl (ofl l)).map _) = _
  rw [kl_ofl]
  rfl
end Pd
end Go.Proofs.Ytibnhjfeepdddaa
