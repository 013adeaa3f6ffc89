/-
  Plain facts on dictionaries as bytes: what is written, what is read. No program here.
-/
import Derived.Test.YtbdjccmlgdfapaaMath
import Derived.Test.YtbdjccmlgdfapaaOrder
namespace Go.Proofs.Ytbdjccmlgdfapaa.T

def ptext (s : B) : List UInt8 := M.digs s.length ++ s
def texts (d : List B) : List UInt8 := d.flatMap ptext
def enc (d : List B) : List UInt8 := M.digs d.length ++ texts d
theorem texts_snoc (d : List B) (s : B) : texts (d ++ [s]) = texts d ++ ptext s := by simp [texts]
theorem texts_cons (s : B) (d : List B) : texts (s :: d) = ptext s ++ texts d := by simp [texts]
def fits (d : List B) : Bool := d.all (fun s => decide (s.length ≤ 40)) && (decide (d.length ≤ 16) && adj d)
theorem fits_iff (d : List B) : fits d = true ↔ (∀ s ∈ d, s.length ≤ 40) ∧ d.length ≤ 16 ∧ Rise d := by
  simp [fits, adj_iff]
theorem texts_len (d : List B) (h : ∀ s ∈ d, s.length ≤ 41) : (texts d).length ≤ 51 * d.length := by
  induction d with
  | nil => simp [texts]
  | cons s r ih =>
    have h1 := ih (fun x hx => h x (by simp [hx]))
    have h2 := M.digs_len s.length
    have h3 := h s (by simp)
    rw [texts_cons]
    simp only [ptext, List.length_append, List.length_cons]
    omega
/-- n texts from place k on, behind those that are read. -/
def rd (b : List UInt8) : Nat → Nat → List B → List B × Nat × Nat
  | 0, k, o => (o, k, 0)
  | n + 1, k, o => if (M.getText b k 40).2.2 ≠ 0 then ([], 0, (M.getText b k 40).2.2) else rd b n (M.getText b k 40).2.1 (o ++ [(M.getText b k 40).1])
def dec (b : List UInt8) (p : Int) : List B × Nat × Nat :=
  if (M.get b p).2.2 ≠ 0 then ([], 0, (M.get b p).2.2) else if 16 < (M.get b p).1 then ([], 0, 4)
  else if (rd b (M.get b p).1 (M.get b p).2.1 []).2.2 ≠ 0 then ([], 0, (rd b (M.get b p).1 (M.get b p).2.1 []).2.2)
  else if adj (rd b (M.get b p).1 (M.get b p).2.1 []).1 = true then ((rd b (M.get b p).1 (M.get b p).2.1 []).1, (rd b (M.get b p).1 (M.get b p).2.1 []).2.1, 0) else ([], 0, 12)
theorem getText_all (b : List UInt8) (p most : Int) : (M.getText b p most).1.length ≤ most.toNat ∧ (M.getText b p most).2.1 ≤ b.length ∧ (M.getText b p most).2.2 ≤ 12 ∧ ((M.getText b p most).2.2 = 0 → p < ((M.getText b p most).2.1 : Int)) := by
  have h := M.get_all b p
  unfold M.getText
  by_cases h1 : (M.get b p).2.2 = 0
  · rw [if_neg (by simpa using h1)]
    have hst : p < ((M.get b p).2.1 : Int) := by
      unfold M.get at h1 ⊢
      by_cases hp : p < 0 ∨ (b.length : Int) < p
      · rw [if_pos hp] at h1; simp at h1
      · rw [if_neg hp] at h1 ⊢
        by_cases he : (M.getR (b.drop p.toNat)).2.2 = 0
        · rw [if_pos he]
          have : 0 < (M.getR (b.drop p.toNat)).2.1 := by
            unfold M.getR at he ⊢
            split at he
            · simp at he
            · split at he
              · rename_i a1 a2
                rw [if_neg a1, if_pos a2]; simp
              · simp at he
          simp only
          omega
        · rw [if_neg he] at h1; exact absurd h1 he
    split
    · simp
    · split
      · simp
      · refine ⟨by simp; omega, by simp; omega, by simp, fun _ => ?_⟩
        simp only
        omega
  · rw [if_pos (by simpa using h1)]
    exact ⟨by simp, by simp, h.2.2, fun h0 => absurd h0 h1⟩
theorem rd_all (b : List UInt8) : ∀ (n k : Nat) (o : List B), (∀ s ∈ o, s.length ≤ 40) → k ≤ b.length →
    ((rd b n k o).2.2 = 0 → (∀ s ∈ (rd b n k o).1, s.length ≤ 40) ∧ (rd b n k o).1.length = o.length + n ∧ (rd b n k o).2.1 ≤ b.length) ∧ ((rd b n k o).2.2 ≠ 0 → (rd b n k o).1 = [] ∧ (rd b n k o).2.1 = 0) ∧ (rd b n k o).2.2 ≤ 12
  | 0, k, o, ho, hk => by simp [rd]; exact ⟨ho, hk⟩
  | n + 1, k, o, ho, hk => by
    have h := getText_all b k 40
    rw [rd]
    by_cases h1 : (M.getText b k 40).2.2 = 0
    · rw [if_neg (by simpa using h1)]
      have hi := rd_all b n (M.getText b k 40).2.1 (o ++ [(M.getText b k 40).1]) (fun s hs => by
        rcases List.mem_append.1 hs with hs | hs
        · exact ho s hs
        · rw [List.mem_singleton] at hs; rw [hs]; have := h.1; omega) h.2.1
      refine ⟨fun h0 => ?_, hi.2.1, hi.2.2⟩
      obtain ⟨a, b', c⟩ := hi.1 h0
      exact ⟨a, by rw [b']; simp; omega, c⟩
    · rw [if_pos (by simpa using h1)]
      exact ⟨fun h0 => absurd h0 h1, fun _ => ⟨rfl, rfl⟩, h.2.2.1⟩
/-- What is read fits, or it is refused. -/
theorem dec_all {b : List UInt8} {p : Int} {d : List B} {k e : Nat} (h : dec b p = (d, k, e)) : (e = 0 → fits d = true ∧ k ≤ b.length) ∧ (e ≠ 0 → d = [] ∧ k = 0) ∧ e ≤ 12 := by
  have hg := M.get_all b p
  unfold dec at h
  split at h
  · rename_i h1
    simp only [Prod.mk.injEq] at h
    obtain ⟨rfl, rfl, rfl⟩ := h
    exact ⟨fun h0 => absurd h0 h1, fun _ => ⟨rfl, rfl⟩, hg.2.2⟩
  split at h
  · simp only [Prod.mk.injEq] at h
    obtain ⟨rfl, rfl, rfl⟩ := h
    simp
  rename_i h1 h2
  have hr := rd_all b (M.get b p).1 (M.get b p).2.1 [] (by simp) hg.2.1
  split at h
  · rename_i h3
    simp only [Prod.mk.injEq] at h
    obtain ⟨rfl, rfl, rfl⟩ := h
    exact ⟨fun h0 => absurd h0 h3, fun _ => ⟨rfl, rfl⟩, hr.2.2⟩
  rename_i h3
  split at h
  · rename_i h4
    simp only [Prod.mk.injEq] at h
    obtain ⟨rfl, rfl, rfl⟩ := h
    obtain ⟨a, b', c⟩ := hr.1 (by simpa using h3)
    refine ⟨fun _ => ⟨(fits_iff _).2 ⟨a, by rw [b']; simp; omega, (adj_iff _).1 h4⟩, c⟩, fun h0 => absurd rfl h0, by simp⟩
  · simp only [Prod.mk.injEq] at h
    obtain ⟨rfl, rfl, rfl⟩ := h
    simp
theorem getText_at (l s r : List UInt8) (h : s.length ≤ 40) : M.getText (l ++ ptext s ++ r) (l.length : Int) 40 = (s, (l ++ ptext s).length, 0) := by
  unfold M.getText ptext
  have e1 : l ++ (M.digs s.length ++ s) ++ r = l ++ M.digs s.length ++ (s ++ r) := by simp
  rw [e1, M.get_digs (by omega) l (s ++ r)]
  simp only
  rw [if_neg (by simp), if_neg (by omega), if_neg (by simp; omega)]
  have e : (l ++ M.digs s.length ++ (s ++ r)).drop (l.length + (M.digs s.length).length) = s ++ r := by
    rw [← List.length_append]; simp
  rw [e]
  simp
  omega
theorem rd_texts (d : List B) (h : ∀ s ∈ d, s.length ≤ 40) (P Z : List UInt8) (o : List B) : rd (P ++ texts d ++ Z) d.length P.length o = (o ++ d, (P ++ texts d).length, 0) := by
  induction d generalizing P o with
  | nil => simp [rd, texts]
  | cons s r ih =>
    have hs := h s (by simp)
    have e : P ++ texts (s :: r) ++ Z = P ++ ptext s ++ (texts r ++ Z) := by rw [texts_cons]; simp
    have e2 : P ++ ptext s ++ (texts r ++ Z) = (P ++ ptext s) ++ texts r ++ Z := by simp
    rw [e, List.length_cons, rd, getText_at P s _ hs]
    simp only [ne_eq, not_true_eq_false, if_false]
    rw [e2, ih (fun x hx => h x (by simp [hx])), texts_cons]
    simp
/-- What is written is read, behind anything and ahead of anything. -/
theorem dec_enc {d : List B} (h : fits d = true) (A Z : List UInt8) : dec (A ++ enc d ++ Z) (A.length : Int) = (d, (A ++ enc d).length, 0) := by
  obtain ⟨h1, h2, h3⟩ := (fits_iff d).1 h
  have e : A ++ enc d ++ Z = A ++ M.digs d.length ++ (texts d ++ Z) := by simp [enc]
  have e2 : A ++ M.digs d.length ++ (texts d ++ Z) = (A ++ M.digs d.length) ++ texts d ++ Z := by simp
  have hr := rd_texts d h1 (A ++ M.digs d.length) Z []
  unfold dec
  rw [e, M.get_digs (by omega) A _]
  simp only [ne_eq, not_true_eq_false, if_false]
  rw [if_neg (by omega), e2, show A.length + (M.digs d.length).length = (A ++ M.digs d.length).length from by simp, hr]
  simp only [not_true_eq_false, if_false, List.nil_append]
  rw [if_pos ((adj_iff d).2 h3)]
  simp [enc]
end Go.Proofs.Ytbdjccmlgdfapaa.T
