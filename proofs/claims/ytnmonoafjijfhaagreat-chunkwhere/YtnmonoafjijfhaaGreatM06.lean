/-
  A region whose order is open, by what is so of each listing: beside each operation's own sentence one more sentence, over what is listed. A region whose order is open, of quiet operations and two stores, the second behind the first ('a, b = x[0], x[1]', each in a block of its own): what is read is the same behind either store. A region whose order is open, of operations that turn nothing and one store: what is read is the same ahead of it and behind it.
-/
import Derived.Test.YtnmonoafjijfhaaGreatM02
import Derived.Test.YtnmonoafjijfhaaGreatM04
import Derived.Test.YtnmonoafjijfhaaGreatM05
namespace Go.Proofs.YtnmonoafjijfhaaGreat
open Go.RowKit
set_option linter.unusedVariables false
set_option linter.unusedSimpArgs false
namespace Rg.Fr
theorem getD_set {l : Array Bool} {i j : Nat} (hi : i < l.size) : (l.setIfInBounds i true).getD j false = if i = j then true else l.getD j false := by
  by_cases h : i = j
  · subst h; simp [hi]
  · rw [if_neg h, getD_set_ne false h]
abbrev upd (i : Nat) (L : Nat → Bool) : Nat → Bool := fun j => if i = j then true else L j
def lst (listed : Array Bool) : Nat → Bool := fun j => listed.getD j false
theorem lst_set {l : Array Bool} {i : Nat} (hi : i < l.size) : lst (l.setIfInBounds i true) = upd i (lst l) := by
  funext j
  exact getD_set hi
section
variable {P : Program} {ops : Array Oper} {specs : List Spec} {a0 : Act} {C : World → Prop} {V : (Nat → Bool) → Act → World → Prop}
end
theorem later_mono {w : World} {K K' : Act → Prop} (hK : ∀ a, K a → K' a) : ∀ (os : List Oper) (ss : List Spec) (a : Act), later w K os ss a → later w K' os ss a
  | [], [], a, h => hK a h
  | o :: os, s :: ss, a, h => by
    unfold later at h ⊢
    cases hd : o.dst with
    | none => rw [hd] at h; exact later_mono hK os ss a h
    | some d =>
      rw [hd] at h
      cases s with
      | inl x => exact later_mono hK os ss _ h
      | inr p => exact fun v hv => later_mono hK os ss _ (h v hv)
  | [], _ :: _, a, h => hK a h
  | _ :: _, [], a, h => by unfold later at h; exact h.elim
theorem wp_skip {o : Oper} {a : Act} {w w1 : World} {K : Act → World → Prop} {Q : Exit → Act → World → Prop} (hr : (execOp a.eval o).run Tryz.prog w = .ok .skip w1) (h : K (a.put o.dst undef) w1) : o.wp Tryz.prog a w K Q := by
  unfold Oper.wp; rw [hr]; exact h
theorem dep_of {o : Oper} {L : Nat → Bool} {k : Nat} (h : o.after.any (fun e => Region.binds .any e && e.on == k) = true) (hd : ∀ e ∈ o.after, Region.binds .any e = true → L e.on = true) : L k = true := by
  obtain ⟨e, he, h2⟩ := Array.any_eq_true'.1 h
  simp only [Bool.and_eq_true, beq_iff_eq] at h2
  have := hd e he h2.1
  rw [h2.2] at this
  exact this
end Rg.Fr
end Go.Proofs.YtnmonoafjijfhaaGreat
namespace Go.Proofs.YtnmonoafjijfhaaGreat
open Go.RowKit
set_option linter.unusedVariables false
namespace Rg.Fr
theorem upd_ne' {i j : Nat} (h : i ≠ j) (L : Nat → Bool) : upd i L j = L j := by simp [upd, h]
theorem upd_self' (i : Nat) (L : Nat → Bool) : upd i L i = true := by simp [upd]
theorem later_all {w : World} {K : Act → Prop} (hK : ∀ a, K a) : ∀ (os : List Oper) (ss : List Spec) (a : Act), os.length ≤ ss.length → later w K os ss a
  | [], _, a, _ => hK a
  | _ :: _, [], _, h => absurd h (by simp)
  | o :: os, s :: ss, a, h => by
    have h' : os.length ≤ ss.length := by simpa using h
    unfold later
    cases hd : o.dst with
    | none => exact later_all hK os ss a h'
    | some d =>
      cases s with
      | inl x => exact later_all hK os ss _ h'
      | inr p => exact fun v _ => later_all hK os ss _ h'
end Rg.Fr
end Go.Proofs.YtnmonoafjijfhaaGreat
namespace Go.Proofs.YtnmonoafjijfhaaGreat
open Go.RowKit
set_option linter.unusedVariables false
namespace Rg.Fr
end Rg.Fr
end Go.Proofs.YtnmonoafjijfhaaGreat
