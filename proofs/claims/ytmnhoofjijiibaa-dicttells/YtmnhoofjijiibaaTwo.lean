/-
  Two rows that a call owns, one beside the other: one is as it was when the other grows or is written. No function of the program here.
-/
import Derived.Test.YtmnhoofjijiibaaApart
namespace Go.Proofs.Ytmnhoofjijiibaa
open Go.RowKit
set_option linter.unusedVariables false

/-- Two values lie in blocks of their own. -/
def Aside (v u : Value) : Prop := ∀ g, v.ownBlock = some g → u.ownBlock ≠ some g
theorem Aside.symm {v u : Value} (h : Aside v u) : Aside u v := fun g hg hv => h g hv hg
theorem Aside.nil (v : Value) : Aside (.slice none 0 0) v := fun g hg => by simp [Value.ownBlock] at hg
theorem ownsRow_far {w w' : World} {base size n : Nat} {e : TypeId} {v u : Value} {xs : List Value} (h : w.ownsRow base e size v n xs) (hg : w.grownBy w' u.ownBlock) (hne : Aside u v) : w'.ownsRow base e size v n xs := by
  obtain ⟨h1, h2⟩ := h
  refine ⟨h1, ?_⟩
  rcases h2 with h2 | ⟨g, cap, cur, hv, hb, hh, r⟩
  · exact .inl h2
  · refine .inr ⟨g, cap, cur, hv, hb, ?_, r⟩
    rw [hg.block g (Array.getElem?_eq_some_iff.1 hh).1 (fun hh => hne g hh.symm (by rw [hv]; rfl))]
    exact hh
theorem Own.far {w w' : World} {base : Nat} {v u : Value} {l : List UInt8} (h : Own w base v l) (hg : w.grownBy w' u.ownBlock) (hne : Aside u v) : Own w' base v l := ownsRow_far h hg hne
theorem OwnR.far {α : Type} {enc : α → Value} {e : TypeId} {w w' : World} {base : Nat} {v u : Value} {l : List α} (h : OwnR e enc w base v l) (hg : w.grownBy w' u.ownBlock) (hne : Aside u v) : OwnR e enc w' base v l := ownsRow_far h hg hne
/-- The one that grew is still aside of the other. -/
theorem Aside.grown {w : World} {base size n : Nat} {e : TypeId} {v v' u : Value} {xs : List Value} (h : Aside v u) (hat : v'.ownBlock = v.ownBlock ∨ v'.ownBlock = some w.heap.size) (hu : w.ownsRow base e size u n xs) : Aside v' u := by
  intro g hg hh
  rcases hat with hat | hat
  · exact h g (by rw [← hat]; exact hg) hh
  · have h1 := (World.ownsRow.lt hu g hh).2
    rw [hat] at hg
    simp at hg
    omega
/-- 'append(out, b...)', as wpList_append_byt; and where the new slice lies. -/
theorem wpList_append_byt_at {w : World} {ops : Array Oper} {rest : List Oper} {o : Oper} {a : Act} {Q : Exit → Act → World → Prop} (hgd : o.guard = none) (s x : Operand)
    (ho : o.op = .call { callee := .builtin .append, args := #[s, x], argTypes := #[23, 23] }) (base : Nat)
    (v : Value) (xs : List UInt8) (hs : a.eval s = v) (hown : Own w base v xs) (p : Option Addr) (n c : Nat) (l : List UInt8) (hx : a.eval x = .slice p n c) (hn : n = l.length) (hB : Byt w p c l)
    (h63 : xs.length + l.length ≤ 140737488355328) (hbase : base ≤ w.heap.size)
    (h : ∀ v' w', Own w' base v' (xs ++ l) → w.grownBy w' v.ownBlock → (v'.ownBlock = v.ownBlock ∨ v'.ownBlock = some w.heap.size) → wpList Try.prog ops Q rest (a.put o.dst v') w') : wpList Try.prog ops Q (o :: rest) a w := by
  subst hn
  obtain ⟨i0, hi, hz0, hz1, hz2⟩ := info_parts Try.info5
  cases p with
  | none =>
    have hc := hB.2.2.1 rfl
    have hl : l = [] := List.eq_nil_of_length_eq_zero (by have := hB.1; omega)
    subst hl
    subst hc
    refine wpList_append_own_none hgd s x 23 ho base 5 i0 1 Try.underlying23 hi v xs.length (cs xs) hs hown hx ?_
    exact h v w (by simpa using hown) (World.grownBy.refl w _) (.inl rfl)
  | some ad =>
    refine wpList_append_own_at _ hgd s x 23 ho base 5 i0 (.int .u8 0) 1 1 Try.underlying23 hi hz0 hz1 hz2 rfl (by decide) v xs.length (cs xs) hs hown ad l.length c (cs l) hx (by simp [cs]) ?_ (cs_one l) (by unfold maxLen; omega) (by omega) hbase ?_
    · intro j u hu
      obtain ⟨hj, rfl⟩ := cs_get hu
      obtain ⟨b, off, hbo, hc⟩ := hB.2.2.2 j hj
      simp at hbo
      subst hbo
      rw [add_none]
      exact hc
    · intro v' w' ho' hg' _ hat
      refine h v' w' ?_ hg' hat
      show w'.ownsRow base 5 1 v' (xs ++ l).length (cs (xs ++ l))
      rw [cs_append, List.length_append]
      exact ho'
/-- A byte that is written. -/
theorem Own.set {w : World} {base g n cap k : Nat} {l : List UInt8} {c : UInt8} {v : Value} (h : Own w base (.slice (some ⟨g, 0, none⟩) n cap) l) (hn : n = l.length) (hv : v = .int .u8 (c.toNat : Int)) :
    Own (w.setCell ⟨g, k, none⟩ v) base (.slice (some ⟨g, 0, none⟩) n cap) (l.set k c) ∧ w.grownBy (w.setCell ⟨g, k, none⟩ v) (some g) := by
  subst hn; subst hv
  obtain ⟨h1, h2⟩ := World.ownsRow.stored (show w.ownsRow base 5 1 (.slice (some ⟨g, 0, none⟩) l.length cap) l.length (cs l) from h) k (.int .u8 (c.toNat : Int))
  refine ⟨?_, h2⟩
  show World.ownsRow _ _ _ _ _ _ _
  rw [List.length_set]
  have e : cs (l.set k c) = (cs l).set k (.int .u8 (c.toNat : Int)) := by simp [cs, List.map_set]
  rw [e]
  exact h1
theorem Own.form {w : World} {base : Nat} {v : Value} {l : List UInt8} (h : Own w base v l) (hn : 0 < l.length) : ∃ g cap, v = .slice (some ⟨g, 0, none⟩) l.length cap ∧ base ≤ g ∧ g < w.heap.size ∧ l.length ≤ cap ∧ cap ≤ maxLen := by
  rcases h.2 with ⟨_, h0⟩ | ⟨g, cap, cur, hv, hb, hg, h1, h2, _⟩
  · omega
  · exact ⟨g, cap, hv, hb, (Array.getElem?_eq_some_iff.1 hg).1, h1, h2⟩
theorem Own.frozen {w : World} {base g n cap : Nat} (k : Nat) {l : List UInt8} (h : Own w base (.slice (some ⟨g, 0, none⟩) n cap) l) (hn : n = l.length) : w.frozen? ⟨g, k, none⟩ = false := by
  subst hn
  exact World.ownsRow.frozenAt (show w.ownsRow base 5 1 (.slice (some ⟨g, 0, none⟩) l.length cap) l.length (cs l) from h) k
theorem Own.none_ {w : World} {base : Nat} {v : Value} {l : List UInt8} (h : Own w base v l) (hn : l = []) : Own w base v [] := by subst hn; exact h
end Go.Proofs.Ytmnhoofjijiibaa
