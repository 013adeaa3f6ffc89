/-
  Slices of slices, whatever the inner elements are (one cell each): read and appended to. No function of the program here.
-/
import Derived.Test.YtbdjccmlgdfapaaApart
import Derived.Test.YtbdjccmlgdfapaaKinds
namespace Go.Proofs.Ytbdjccmlgdfapaa
open Go.RowKit
set_option linter.unusedVariables false

/-- A slice value: where it begins, how long it is, how long it may grow. -/
abbrev SV := Option Addr × Nat × Nat
abbrev sv : SV → Value := fun s => .slice s.1 s.2.1 s.2.2
section
variable {β : Type} {enc : β → Value}
def ElemN (enc : β → Value) (w : World) (s : SV) (x : List β) : Prop := s.2.1 = x.length ∧ Rd enc w s.1 s.2.2 x
def EachN (enc : β → Value) (w : World) (vs : List SV) (L : List (List β)) : Prop := vs.length = L.length ∧ ∀ (i : Nat) (s : SV) (x : List β), vs[i]? = some s → L[i]? = some x → ElemN enc w s x
/-- A slice reads as the lists L. -/
def RdN (enc : β → Value) (w : World) (a : Option Addr) (cap : Nat) (L : List (List β)) : Prop := ∃ vs, Rd sv w a cap vs ∧ EachN enc w vs L
def IsRdN (enc : β → Value) (L : List (List β)) (v : Value) (w : World) : Prop := ∃ a cap, v = .slice a L.length cap ∧ RdN enc w a cap L
theorem ElemN.below {w w' : World} {s : SV} {x : List β} (h : ElemN enc w s x) (hx : Ex w w') : ElemN enc w' s x := ⟨h.1, h.2.below hx⟩
theorem EachN.below {w w' : World} {vs : List SV} {L : List (List β)} (h : EachN enc w vs L) (hx : Ex w w') : EachN enc w' vs L := ⟨h.1, fun i s x h1 h2 => (h.2 i s x h1 h2).below hx⟩
theorem RdN.below {w w' : World} {a : Option Addr} {cap : Nat} {L : List (List β)} (h : RdN enc w a cap L) (hx : Ex w w') : RdN enc w' a cap L := by
  obtain ⟨vs, h1, h2⟩ := h
  exact ⟨vs, h1.below hx, h2.below hx⟩
theorem IsRdN.stands (L : List (List β)) : ∀ v w w', IsRdN enc L v w → Ex w w' → IsRdN enc L v w' := by
  rintro v w w' ⟨a, cap, rfl, h⟩ hx
  exact ⟨a, cap, rfl, h.below hx⟩
theorem EachN.nil (w : World) : EachN enc w [] [] := ⟨rfl, fun i s x h _ => by simp at h⟩
theorem EachN.cons {w : World} {s : SV} {x : List β} {vs : List SV} {L : List (List β)} (h : ElemN enc w s x) (hE : EachN enc w vs L) : EachN enc w (s :: vs) (x :: L) := by
  refine ⟨by simp [hE.1], fun i t y h1 h2 => ?_⟩
  cases i with
  | zero => simp at h1 h2; rw [← h1, ← h2]; exact h
  | succ i => exact hE.2 i t y (by simpa using h1) (by simpa using h2)
theorem IsRdN.nil (w : World) : IsRdN enc [] (.slice none 0 0) w := ⟨none, 0, rfl, [], Rd.nil w, EachN.nil w⟩
theorem RdN.bounds {w : World} {a : Option Addr} {cap : Nat} {L : List (List β)} (h : RdN enc w a cap L) : L.length ≤ cap ∧ cap ≤ maxLen := by
  obtain ⟨vs, h1, h2⟩ := h
  exact ⟨by rw [← h2.1]; exact h1.1, h1.2.1⟩
/-- One of the lists. -/
theorem RdN.at {w : World} {a : Option Addr} {cap : Nat} {L : List (List β)} (h : RdN enc w a cap L) {k : Nat} (hk : k < L.length) :
    ∃ b off p c, a = some ⟨b, off, none⟩ ∧ w.cell? ⟨b, off + k, none⟩ = some (.slice p L[k].length c) ∧ Rd enc w p c L[k] := by
  obtain ⟨vs, h1, h2⟩ := h
  have hk' : k < vs.length := by rw [h2.1]; exact hk
  obtain ⟨b, off, rfl, hc⟩ := h1.at hk'
  obtain ⟨he, hb⟩ := h2.2 k _ _ (List.getElem?_eq_getElem hk') (List.getElem?_eq_getElem hk)
  exact ⟨b, off, vs[k].1, vs[k].2.2, rfl, by rw [hc]; simp only [sv, he], hb⟩
/-- No list that has elements lies in that block. -/
def Away (g : Option Nat) (vs : List SV) : Prop := ∀ s ∈ vs, 0 < s.2.1 → ∀ q, (sv s).ownBlock = some q → g ≠ some q
theorem Away.nil (g : Option Nat) : Away g [] := fun s h => by simp at h
theorem ElemN.block {w : World} {s : SV} {x : List β} (h : ElemN enc w s x) (h0 : 0 < s.2.1) : ∃ q off, s.1 = some ⟨q, off, none⟩ ∧ q < w.heap.size := by
  obtain ⟨h1, h2⟩ := h
  have h0' : 0 < x.length := by omega
  obtain ⟨q, off, e, hc⟩ := h2.at h0'
  exact ⟨q, off, e, World.block_lt_of_cell? w _ hc⟩
theorem ElemN.far {w w' : World} {s : SV} {x : List β} {row : Option Nat} (h : ElemN enc w s x) (hg : w.grownBy w' row) (ha : 0 < s.2.1 → ∀ q, (sv s).ownBlock = some q → row ≠ some q) : ElemN enc w' s x := by
  obtain ⟨h1, h2, h3, h4, h5⟩ := h
  refine ⟨h1, h2, h3, h4, fun i y hi => ?_⟩
  obtain ⟨q, off, e, hc⟩ := h5 i y hi
  refine ⟨q, off, e, ?_⟩
  have hil := (List.getElem?_eq_some_iff.1 hi).1
  have hne := ha (by omega) q (by simp [sv, e, Value.ownBlock])
  rw [hg.cell_far ⟨q, off + i, none⟩ (World.block_lt_of_cell? w _ hc) (Ne.symm hne)]
  exact hc
theorem nest_after {w w' : World} {v v' : Value} {vs : List SV} {L : List (List β)} (hall : EachN enc w vs L) (haw : Away v.ownBlock vs)
    (hg : w.grownBy w' v.ownBlock) (hat : v'.ownBlock = v.ownBlock ∨ v'.ownBlock = some w.heap.size) : EachN enc w' vs L ∧ Away v'.ownBlock vs := by
  refine ⟨⟨hall.1, fun i t y h1 h2 => (hall.2 i t y h1 h2).far hg (haw t (List.mem_of_getElem? h1))⟩, fun t ht h0 q hq => ?_⟩
  rcases hat with hat | hat
  · rw [hat]; exact haw t ht h0 q hq
  · rw [hat]
    obtain ⟨i, hi⟩ := List.getElem?_of_mem ht
    have hil : i < L.length := by rw [← hall.1]; exact (List.getElem?_eq_some_iff.1 hi).1
    obtain ⟨q', off, e, hlt⟩ := (hall.2 i t _ hi (List.getElem?_eq_getElem hil)).block h0
    have : q = q' := by simp [sv, e, Value.ownBlock] at hq; omega
    intro hh
    simp at hh
    omega
/-- One list more. -/
theorem push_nest {w w' : World} {v v' : Value} {vs : List SV} {L : List (List β)} {s : SV} {x : List β} (hE : EachN enc w vs L) (hA : Away v.ownBlock vs) (hs : ElemN enc w s x) (hsA : 0 < s.2.1 → ∀ q, (sv s).ownBlock = some q → v.ownBlock ≠ some q)
    (hg : w.grownBy w' v.ownBlock) (hat : v'.ownBlock = v.ownBlock ∨ v'.ownBlock = some w.heap.size) : EachN enc w' (vs ++ [s]) (L ++ [x]) ∧ Away v'.ownBlock (vs ++ [s]) := by
  refine nest_after ⟨by simp [hE.1], fun i t y h1 h2 => ?_⟩ (fun t ht h0 q hq => ?_) hg hat
  · by_cases hi : i < vs.length
    · rw [List.getElem?_append_left hi] at h1
      rw [List.getElem?_append_left (by rw [← hE.1]; exact hi)] at h2
      exact hE.2 i t y h1 h2
    · rw [List.getElem?_append_right (by omega)] at h1
      rw [List.getElem?_append_right (by rw [← hE.1]; omega), ← hE.1] at h2
      have : i - vs.length = 0 := by
        rcases Nat.eq_zero_or_pos (i - vs.length) with h0 | h0
        · exact h0
        · rw [List.getElem?_eq_none (by simp; omega)] at h1; cases h1
      rw [this] at h1 h2
      simp at h1 h2
      rw [← h1, ← h2]
      exact hs
  · rcases List.mem_append.1 ht with h | h
    · exact hA t h h0 q hq
    · rw [List.mem_singleton] at h
      subst h
      exact hsA h0 q hq
/-- A call's own slice of lists (E: the type of the inner slices). -/
def OwnN (E : TypeId) (enc : β → Value) (w : World) (base : Nat) (v : Value) (L : List (List β)) : Prop := ∃ vs, OwnR E sv w base v vs ∧ EachN enc w vs L ∧ Away v.ownBlock vs
theorem OwnN.isRdN {E : TypeId} {w : World} {base : Nat} {v : Value} {L : List (List β)} (h : OwnN E enc w base v L) : IsRdN enc L v w := by
  obtain ⟨vs, h1, h2, _⟩ := h
  obtain ⟨a, cap, rfl, h3⟩ := h1.rd
  exact ⟨a, cap, by rw [h2.1], vs, h3, h2⟩
theorem OwnN.nil {E : TypeId} (w : World) (base : Nat) : OwnN E enc w base (.slice none 0 0) [] := ⟨[], ⟨by simp, .inl ⟨rfl, rfl⟩⟩, EachN.nil w, Away.nil _⟩
theorem OwnN.later {E : TypeId} {w w' : World} {base : Nat} {v : Value} {L : List (List β)} (h : OwnN E enc w base v L) (hx : Ex w w') : OwnN E enc w' base v L := by
  obtain ⟨vs, h1, h2, h3⟩ := h
  exact ⟨vs, h1.later hx, h2.below hx, h3⟩
theorem OwnN.lt {E : TypeId} {w : World} {base : Nat} {v : Value} {L : List (List β)} (h : OwnN E enc w base v L) : ∀ g, v.ownBlock = some g → base ≤ g ∧ g < w.heap.size := by
  obtain ⟨vs, h1, _, _⟩ := h
  exact World.ownsRow.lt h1
/-- A literal slice of slices. -/
theorem RdN.laid (w : World) (E : TypeId) (vs : List SV) (L : List (List β)) (h : EachN enc w vs L) (hl : vs.length ≤ 1000) : RdN enc (w.alloc (.cells (vs.map sv).toArray E)) (some ⟨w.heap.size, 0, none⟩) vs.length L :=
  ⟨vs, Rd.laid w E vs hl, h.below ((Below.refl _ _).alloc (Nat.le_refl _) _)⟩
end
end Go.Proofs.Ytbdjccmlgdfapaa
