/-
  Plain facts on zones of cells: the least and the greatest of what is there, in whatever order and grouping. No program here.
-/
import Derived.Test.YtnfbmffafclaaaaZfold
namespace Go.Proofs.Ytnfbmffafclaaaa.Z
open Go.Proofs.Ytnfbmffafclaaaa
theorem snoc_ind {α : Type} {P : List α → Prop} (h0 : P []) (hs : ∀ l a, P l → P (l ++ [a])) : ∀ (n : Nat) (l : List α), l.length = n → P l
  | 0, l, h => by rw [List.eq_nil_of_length_eq_zero h]; exact h0
  | n + 1, l, h => by
    have hne : l ≠ [] := by intro e; rw [e] at h; simp at h
    rw [← List.dropLast_concat_getLast hne]
    exact hs _ _ (snoc_ind h0 hs n _ (by simp; omega))
/-- An order, as a Boolean. -/
structure Ord' (α : Type) where
  lt : α → α → Bool
  irr : ∀ a, lt a a = false
  tr : ∀ a b c, lt a b = true → lt b c = true → lt a c = true
  tot : ∀ a b, lt a b = true ∨ a = b ∨ lt b a = true
section
variable {α : Type} (o : Ord' α)
theorem Ord'.asy {a b : α} (h : o.lt a b = true) : o.lt b a = false := by
  cases hb : o.lt b a with
  | false => rfl
  | true => have := o.tr a b a h hb; rw [o.irr] at this; cases this
def mn2 (a b : α) : α := if o.lt b a = true then b else a
def mx2 (a b : α) : α := if o.lt a b = true then b else a
theorem mn2_self (a : α) : mn2 o a a = a := by simp [mn2, o.irr]
theorem mx2_self (a : α) : mx2 o a a = a := by simp [mx2, o.irr]
theorem mn2_comm (a b : α) : mn2 o a b = mn2 o b a := by
  unfold mn2
  rcases o.tot a b with h | h | h
  · simp [h, o.asy h]
  · subst h; rfl
  · simp [h, o.asy h]
theorem mx2_comm (a b : α) : mx2 o a b = mx2 o b a := by
  unfold mx2
  rcases o.tot a b with h | h | h
  · simp [h, o.asy h]
  · subst h; rfl
  · simp [h, o.asy h]
theorem mn2_assoc (a b c : α) : mn2 o (mn2 o a b) c = mn2 o a (mn2 o b c) := by
  unfold mn2
  cases h1 : o.lt b a with
  | true =>
    simp only [if_true]
    cases h2 : o.lt c b with
    | true => simp [o.tr c b a h2 h1]
    | false => simp [h1]
  | false =>
    simp only [Bool.false_eq_true, if_false]
    cases h2 : o.lt c b with
    | true => rfl
    | false =>
      simp only [Bool.false_eq_true, if_false, h1]
      cases h3 : o.lt c a with
      | false => simp
      | true =>
        exfalso
        rcases o.tot a b with h | h | h
        · have := o.tr c a b h3 h; rw [h2] at this; cases this
        · subst h; rw [h2] at h3; cases h3
        · rw [h1] at h; cases h
theorem mx2_assoc (a b c : α) : mx2 o (mx2 o a b) c = mx2 o a (mx2 o b c) := by
  unfold mx2
  cases h1 : o.lt a b with
  | true =>
    simp only [if_true]
    cases h2 : o.lt b c with
    | true => simp [o.tr a b c h1 h2]
    | false => simp [h1]
  | false =>
    simp only [Bool.false_eq_true, if_false]
    cases h2 : o.lt b c with
    | true => rfl
    | false =>
      simp only [Bool.false_eq_true, if_false, h1]
      cases h3 : o.lt a c with
      | false => simp
      | true =>
        exfalso
        rcases o.tot a b with h | h | h
        · rw [h1] at h; cases h
        · subst h; rw [h2] at h3; cases h3
        · have := o.tr b a c h h3; rw [h2] at this; cases this
/-- The least and the greatest of two lots, of which one may be empty. -/
def comb : Option (α × α) → Option (α × α) → Option (α × α)
  | none, y => y
  | some x, none => some x
  | some x, some y => some (mn2 o x.1 y.1, mx2 o x.2 y.2)
theorem comb_none (x : Option (α × α)) : comb o x none = x := by cases x <;> rfl
theorem comb_comm (x y : Option (α × α)) : comb o x y = comb o y x := by
  cases x <;> cases y <;> simp [comb]
  exact ⟨mn2_comm o _ _, mx2_comm o _ _⟩
theorem comb_assoc (x y z : Option (α × α)) : comb o (comb o x y) z = comb o x (comb o y z) := by
  cases x <;> cases y <;> cases z <;> simp [comb]
  exact ⟨mn2_assoc o _ _ _, mx2_assoc o _ _ _⟩
theorem comb_self (x : Option (α × α)) : comb o x x = x := by cases x <;> simp [comb, mn2_self, mx2_self]
/-- The least and the greatest of a list. -/
def ends (l : List α) : Option (α × α) := l.foldl (fun s x => comb o s (some (x, x))) none
theorem ends_snoc (l : List α) (x : α) : ends o (l ++ [x]) = comb o (ends o l) (some (x, x)) := by simp [ends]
theorem ends_append (l m : List α) : ends o (l ++ m) = comb o (ends o l) (ends o m) :=
  snoc_ind (P := fun m => ends o (l ++ m) = comb o (ends o l) (ends o m)) (by simp [ends, comb_none]) (fun m x ih => by
    rw [← List.append_assoc, ends_snoc, ih, ends_snoc, comb_assoc]) m.length m rfl
theorem ends_none (l : List α) : ends o l = none ↔ l = [] := by
  constructor
  · intro h
    refine Decidable.byContradiction fun hne => ?_
    rw [← List.dropLast_concat_getLast hne, ends_snoc] at h
    cases hx : ends o l.dropLast <;> rw [hx] at h <;> simp [comb] at h
  · rintro rfl; rfl
theorem ends_le (l : List α) : ∀ p, ends o l = some p → o.lt p.2 p.1 = false ∧ ∀ x ∈ l, o.lt x p.1 = false ∧ o.lt p.2 x = false :=
  snoc_ind (P := fun l => ∀ p, ends o l = some p → o.lt p.2 p.1 = false ∧ ∀ x ∈ l, o.lt x p.1 = false ∧ o.lt p.2 x = false) (by intro p h; simp [ends] at h) (fun l x ih p h => by
    rw [ends_snoc] at h
    cases hl : ends o l with
    | none =>
      have h0 := (ends_none o l).1 hl
      subst h0
      rw [hl] at h
      simp [comb] at h
      subst h
      simp [o.irr]
    | some q =>
      rw [hl] at h
      simp only [comb, Option.some.injEq] at h
      subst h
      obtain ⟨i1, i2⟩ := ih q hl
      have ge : ∀ {a b c : α}, o.lt b a = false → o.lt c b = false → o.lt c a = false := fun {a b c} h1 h2 => by
        cases h3 : o.lt c a with
        | false => rfl
        | true =>
          rcases o.tot b c with h | h | h
          · have := o.tr b c a h h3; rw [h1] at this; cases this
          · subst h; rw [h1] at h3; cases h3
          · rw [h2] at h; cases h
      have m1 : o.lt q.1 (mn2 o q.1 x) = false ∧ o.lt x (mn2 o q.1 x) = false := by
        unfold mn2
        cases hq : o.lt x q.1 with
        | true => simp [o.irr, o.asy hq]
        | false => simp [o.irr, hq]
      have m2 : o.lt (mx2 o q.2 x) q.2 = false ∧ o.lt (mx2 o q.2 x) x = false := by
        unfold mx2
        cases hq : o.lt q.2 x with
        | true => simp [o.irr, o.asy hq]
        | false => simp [o.irr, hq]
      refine ⟨?_, fun y hy => ?_⟩
      · exact ge (ge m1.1 i1) m2.1
      · rcases List.mem_append.1 hy with hy | hy
        · exact ⟨ge m1.1 (i2 y hy).1, ge (i2 y hy).2 m2.1⟩
        · simp at hy
          subst hy
          exact ⟨m1.2, m2.2⟩) l.length l rfl
end
def oI : Ord' Int := ⟨fun a b => decide (a < b), by simp, by simp; omega, by simp; omega⟩
def oT : Ord' (List UInt8) := ⟨T.lt, T.lt_irrefl, fun _ _ _ => T.lt_trans, T.lt_total⟩
end Go.Proofs.Ytnfbmffafclaaaa.Z
