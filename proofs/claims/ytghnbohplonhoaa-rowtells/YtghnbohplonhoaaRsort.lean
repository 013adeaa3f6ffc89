/-
  Plain facts on rows in order: those that are alike stand as they stood. No program here.
-/
import Derived.Test.YtghnbohplonhoaaRow
namespace Go.Proofs.Ytghnbohplonhoaa
set_option linter.unusedVariables false
set_option linter.unusedSimpArgs false
namespace Rw
/-- Has a row this time and number? -/
def key (t q : Int) (r : Rw) : Bool := decide (r.t = t) && decide (r.q = q)
theorem key_iff {t q : Int} {r : Rw} : key t q r = true ↔ r.t = t ∧ r.q = q := by simp [key]
theorem less_iff {a b : Rw} : less a b = true ↔ a.t < b.t ∨ a.t = b.t ∧ a.q < b.q := by simp [less]
theorem less_no {a b : Rw} : less a b = false ↔ ¬ (a.t < b.t ∨ a.t = b.t ∧ a.q < b.q) := by rw [← less_iff]; simp
theorem less_same {a b : Rw} (h1 : less a b = false) (h2 : less b a = false) : a.t = b.t ∧ a.q = b.q := by
  rw [less_no] at h1 h2; omega
def Srt (l : List Rw) : Prop := l.Pairwise fun x y => less y x = false
theorem srt_cons {x : Rw} {l : List Rw} : Srt (x :: l) ↔ (∀ y ∈ l, less y x = false) ∧ Srt l := List.pairwise_cons
/-- A row ahead of the first that it is less than. -/
def ins (x : Rw) : List Rw → List Rw
  | [] => [x]
  | y :: r => if less x y = true then x :: y :: r else y :: ins x r
theorem mem_ins {x z : Rw} {l : List Rw} : z ∈ ins x l ↔ z = x ∨ z ∈ l := by
  induction l with
  | nil => simp [ins]
  | cons y r ih =>
    unfold ins
    split
    · simp
    · simp only [List.mem_cons, ih]
      constructor
      · rintro (h | h | h)
        · exact .inr (.inl h)
        · exact .inl h
        · exact .inr (.inr h)
      · rintro (h | h | h)
        · exact .inr (.inl h)
        · exact .inl h
        · exact .inr (.inr h)
theorem ins_len (x : Rw) (l : List Rw) : (ins x l).length = l.length + 1 := by
  induction l with
  | nil => rfl
  | cons y r ih => unfold ins; split <;> simp [ih]
theorem ins_srt {x : Rw} {l : List Rw} (h : Srt l) : Srt (ins x l) := by
  induction l with
  | nil => simp [ins, Srt]
  | cons y r ih =>
    have h' := srt_cons.1 h
    unfold ins
    split
    · rename_i hl
      rw [srt_cons]
      refine ⟨fun z hz => ?_, h⟩
      rw [less_iff] at hl
      rcases List.mem_cons.1 hz with rfl | hz
      · rw [less_no]; omega
      · have := h'.1 z hz
        rw [less_no] at this ⊢; omega
    · rename_i hl
      have hl' : less x y = false := by simpa using hl
      rw [srt_cons]
      refine ⟨fun z hz => ?_, ih h'.2⟩
      rcases mem_ins.1 hz with rfl | hz
      · exact hl'
      · exact h'.1 z hz
theorem ins_filter {x : Rw} {l : List Rw} (h : Srt l) (t q : Int) : (ins x l).filter (key t q) = l.filter (key t q) ++ [x].filter (key t q) := by
  induction l with
  | nil => simp [ins]
  | cons y r ih =>
    have h' := srt_cons.1 h
    unfold ins
    split
    · rename_i hl
      rw [less_iff] at hl
      by_cases hx : key t q x = true
      · have hno : (y :: r).filter (key t q) = [] := by
          rw [List.filter_eq_nil_iff]
          intro z hz hk
          rw [key_iff] at hx hk
          rcases List.mem_cons.1 hz with rfl | hz
          · omega
          · have := h'.1 z hz
            rw [less_no] at this; omega
        rw [List.filter_cons_of_pos hx, hno]
        simp [hx]
      · simp [hx]
    · have ih' := ih h'.2
      by_cases hy : key t q y = true
      · rw [List.filter_cons_of_pos hy, List.filter_cons_of_pos hy, ih', List.cons_append]
      · rw [List.filter_cons_of_neg hy, List.filter_cons_of_neg hy, ih']
def sort (l : List Rw) : List Rw := l.foldl (fun o x => ins x o) []
theorem fold_srt (l : List Rw) : ∀ o, Srt o → Srt (l.foldl (fun o x => ins x o) o) := by
  induction l with
  | nil => exact fun o h => h
  | cons x l ih => exact fun o h => ih _ (ins_srt h)
theorem fold_filter (l : List Rw) (t q : Int) : ∀ o, Srt o → (l.foldl (fun o x => ins x o) o).filter (key t q) = o.filter (key t q) ++ l.filter (key t q) := by
  induction l with
  | nil => intro o _; simp
  | cons x l ih =>
    intro o h
    rw [List.foldl_cons, ih _ (ins_srt h), ins_filter h, List.append_assoc, ← List.filter_append, List.singleton_append]
theorem fold_len (l : List Rw) : ∀ o, (l.foldl (fun o x => ins x o) o).length = o.length + l.length := by
  induction l with
  | nil => intro o; simp
  | cons x l ih => intro o; rw [List.foldl_cons, ih, ins_len, List.length_cons]; omega
theorem sort_srt (l : List Rw) : Srt (sort l) := fold_srt l [] List.Pairwise.nil
theorem sort_filter (l : List Rw) (t q : Int) : (sort l).filter (key t q) = l.filter (key t q) := by
  have := fold_filter l t q [] List.Pairwise.nil
  simpa [sort] using this
theorem sort_len (l : List Rw) : (sort l).length = l.length := by have := fold_len l []; simpa [sort] using this
theorem sort_snoc (l : List Rw) (x : Rw) : sort (l ++ [x]) = ins x (sort l) := by simp [sort]
/-- Rows in order, of which those that are alike stand alike, are one. -/
theorem srt_same : ∀ (a b : List Rw), Srt a → Srt b → (∀ t q, a.filter (key t q) = b.filter (key t q)) → a = b
  | [], [], _, _, _ => rfl
  | [], y :: b, _, _, h => by
    have := h y.t y.q
    rw [List.filter_cons_of_pos (by simp [key])] at this
    simp at this
  | x :: a, [], _, _, h => by
    have := h x.t x.q
    rw [List.filter_cons_of_pos (by simp [key])] at this
    simp at this
  | x :: a, y :: b, ha, hb, h => by
    have ha' := srt_cons.1 ha
    have hb' := srt_cons.1 hb
    have hx := h x.t x.q
    have hy := h y.t y.q
    have hyx : less y x = false := by
      rw [List.filter_cons_of_pos (show key y.t y.q y = true by simp [key])] at hy
      have hm : y ∈ (x :: a).filter (key y.t y.q) := by rw [hy]; simp
      rcases List.mem_cons.1 (List.mem_filter.1 hm).1 with e | e
      · rw [e, less_no]; omega
      · exact ha'.1 y e
    have hxy : less x y = false := by
      rw [List.filter_cons_of_pos (show key x.t x.q x = true by simp [key])] at hx
      have hm : x ∈ (y :: b).filter (key x.t x.q) := by rw [← hx]; simp
      rcases List.mem_cons.1 (List.mem_filter.1 hm).1 with e | e
      · rw [e, less_no]; omega
      · exact hb'.1 x e
    obtain ⟨e1, e2⟩ := less_same hxy hyx
    have hxk : key x.t x.q y = true := by rw [key_iff]; exact ⟨e1.symm, e2.symm⟩
    rw [List.filter_cons_of_pos (show key x.t x.q x = true by simp [key]), List.filter_cons_of_pos hxk] at hx
    obtain ⟨rfl, _⟩ := List.cons.inj hx
    rw [srt_same a b ha'.2 hb'.2 (fun t q => ?_)]
    have := h t q
    by_cases hk : key t q x = true
    · rw [List.filter_cons_of_pos hk, List.filter_cons_of_pos hk] at this
      exact (List.cons.inj this).2
    · rw [List.filter_cons_of_neg hk, List.filter_cons_of_neg hk] at this
      exact this
theorem sort_is {l s : List Rw} (h : Srt s) (hf : ∀ t q, s.filter (key t q) = l.filter (key t q)) : s = sort l :=
  srt_same _ _ h (sort_srt l) (fun t q => by rw [hf, sort_filter])
theorem sort_again (l : List Rw) : sort (sort l) = sort l := (sort_is (sort_srt l) (fun t q => rfl)).symm
theorem sort_mem (l : List Rw) (x : Rw) : x ∈ sort l ↔ x ∈ l := by
  have h := sort_filter l x.t x.q
  have hk : key x.t x.q x = true := by simp [key]
  constructor
  · intro hx
    have : x ∈ (sort l).filter (key x.t x.q) := List.mem_filter.2 ⟨hx, hk⟩
    rw [h] at this
    exact (List.mem_filter.1 this).1
  · intro hx
    have : x ∈ l.filter (key x.t x.q) := List.mem_filter.2 ⟨hx, hk⟩
    rw [← h] at this
    exact (List.mem_filter.1 this).1
/-- Where a row goes in, seen from the end. -/
theorem ins_at {x : Rw} {l : List Rw} (h : Srt l) {k : Nat} (hk : k ≤ l.length) (h1 : ∀ i y, k ≤ i → l[i]? = some y → less x y = true) (h2 : ∀ y, 0 < k → l[k - 1]? = some y → less x y = false) : ins x l = l.take k ++ x :: l.drop k := by
  induction l generalizing k with
  | nil =>
    have : k = 0 := by simpa using hk
    subst this; rfl
  | cons y r ih =>
    have h' := srt_cons.1 h
    cases k with
    | zero =>
      have := h1 0 y (Nat.le_refl _) rfl
      unfold ins
      rw [if_pos this]
      simp
    | succ k =>
      have hny : less x y = false := by
        rcases Nat.eq_zero_or_pos k with h0 | h0
        · subst h0; exact h2 y (by omega) rfl
        · obtain ⟨z, hz⟩ : ∃ z, r[k - 1]? = some z := ⟨_, List.getElem?_eq_getElem (by simp at hk; omega)⟩
          have hxz := h2 z (by omega) (by rw [show k + 1 - 1 = (k - 1) + 1 from by omega]; simpa using hz)
          have hzy := h'.1 z (List.mem_of_getElem? hz)
          rw [less_no] at hxz hzy ⊢; omega
      unfold ins
      rw [if_neg (by rw [hny]; simp), ih h'.2 (by simpa using hk) (fun i z hi hz => h1 (i + 1) z (by omega) (by simpa using hz)) (fun z h0 hz => h2 z (by omega) (by rw [show k + 1 - 1 = (k - 1) + 1 from by omega]; simpa using hz))]
      simp
end Rw
end Go.Proofs.Ytghnbohplonhoaa
