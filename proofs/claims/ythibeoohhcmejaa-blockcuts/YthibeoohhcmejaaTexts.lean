/-
  Slices of slices of bytes, read and appended to. No function of the program here.
-/
import Derived.Test.YthibeoohhcmejaaApart
import Derived.Test.YthibeoohhcmejaaKinds
namespace Go.Proofs.Ythibeoohhcmejaa
open Go.RowKit
set_option linter.unusedVariables false

/-- A slice value: where it begins, how long it is, how long it may grow. -/
abbrev SV := Option Addr × Nat × Nat
abbrev sv : SV → Value := fun s => .slice s.1 s.2.1 s.2.2
def Elem (w : World) (s : SV) (x : List UInt8) : Prop := s.2.1 = x.length ∧ Byt w s.1 s.2.2 x
def Each (w : World) (vs : List SV) (L : List (List UInt8)) : Prop := vs.length = L.length ∧ ∀ (i : Nat) (s : SV) (x : List UInt8), vs[i]? = some s → L[i]? = some x → Elem w s x
/-- A slice reads as the lists L. -/
def RdB (w : World) (a : Option Addr) (cap : Nat) (L : List (List UInt8)) : Prop := ∃ vs, Rd sv w a cap vs ∧ Each w vs L
def IsRdB (L : List (List UInt8)) (v : Value) (w : World) : Prop := ∃ a cap, v = .slice a L.length cap ∧ RdB w a cap L
theorem Elem.below {w w' : World} {s : SV} {x : List UInt8} (h : Elem w s x) (hx : Ex w w') : Elem w' s x := ⟨h.1, h.2.below hx⟩
theorem Each.below {w w' : World} {vs : List SV} {L : List (List UInt8)} (h : Each w vs L) (hx : Ex w w') : Each w' vs L := ⟨h.1, fun i s x h1 h2 => (h.2 i s x h1 h2).below hx⟩
theorem RdB.below {w w' : World} {a : Option Addr} {cap : Nat} {L : List (List UInt8)} (h : RdB w a cap L) (hx : Ex w w') : RdB w' a cap L := by
  obtain ⟨vs, h1, h2⟩ := h
  exact ⟨vs, h1.below hx, h2.below hx⟩
theorem IsRdB.stands (L : List (List UInt8)) : ∀ v w w', IsRdB L v w → Ex w w' → IsRdB L v w' := by
  rintro v w w' ⟨a, cap, rfl, h⟩ hx
  exact ⟨a, cap, rfl, h.below hx⟩
theorem Each.nil (w : World) : Each w [] [] := ⟨rfl, fun i s x h _ => by simp at h⟩
theorem IsRdB.nil (w : World) : IsRdB [] (.slice none 0 0) w := ⟨none, 0, rfl, [], Rd.nil w, Each.nil w⟩
theorem RdB.bounds {w : World} {a : Option Addr} {cap : Nat} {L : List (List UInt8)} (h : RdB w a cap L) : L.length ≤ cap ∧ cap ≤ maxLen := by
  obtain ⟨vs, h1, h2⟩ := h
  exact ⟨by rw [← h2.1]; exact h1.1, h1.2.1⟩
/-- One of the lists. -/
theorem RdB.at {w : World} {a : Option Addr} {cap : Nat} {L : List (List UInt8)} (h : RdB w a cap L) {k : Nat} (hk : k < L.length) :
    ∃ b off p c, a = some ⟨b, off, none⟩ ∧ w.cell? ⟨b, off + k, none⟩ = some (.slice p L[k].length c) ∧ Byt w p c L[k] := by
  obtain ⟨vs, h1, h2⟩ := h
  have hk' : k < vs.length := by rw [h2.1]; exact hk
  obtain ⟨b, off, rfl, hc⟩ := h1.at hk'
  obtain ⟨he, hb⟩ := h2.2 k _ _ (List.getElem?_eq_getElem hk') (List.getElem?_eq_getElem hk)
  exact ⟨b, off, vs[k].1, vs[k].2.2, rfl, by rw [hc]; simp only [sv, he], hb⟩
/-- No list that has bytes lies in that block. -/
def Away (g : Option Nat) (vs : List SV) : Prop := ∀ s ∈ vs, 0 < s.2.1 → ∀ q, (sv s).ownBlock = some q → g ≠ some q
theorem Away.nil (g : Option Nat) : Away g [] := fun s h => by simp at h
theorem Elem.block {w : World} {s : SV} {x : List UInt8} (h : Elem w s x) (h0 : 0 < s.2.1) : ∃ q off, s.1 = some ⟨q, off, none⟩ ∧ q < w.heap.size := by
  obtain ⟨h1, h2⟩ := h
  obtain ⟨q, off, e, hc⟩ := h2.2.2.2 0 (by omega)
  exact ⟨q, off, e, World.block_lt_of_cell? w _ hc⟩
theorem Elem.far {w w' : World} {s : SV} {x : List UInt8} {row : Option Nat} (h : Elem w s x) (hg : w.grownBy w' row) (ha : 0 < s.2.1 → ∀ q, (sv s).ownBlock = some q → row ≠ some q) : Elem w' s x := by
  obtain ⟨h1, h2, h3, h4, h5⟩ := h
  refine ⟨h1, h2, h3, h4, fun i hi => ?_⟩
  obtain ⟨q, off, e, hc⟩ := h5 i hi
  refine ⟨q, off, e, ?_⟩
  have hne := ha (by omega) q (by simp [sv, e, Value.ownBlock])
  rw [hg.cell_far ⟨q, off + i, none⟩ (World.block_lt_of_cell? w _ hc) (Ne.symm hne)]
  exact hc
/-- One list more. -/
theorem push_texts {w w' : World} {v v' : Value} {vs : List SV} {L : List (List UInt8)} {s : SV} {x : List UInt8} (hE : Each w vs L) (hA : Away v.ownBlock vs) (hs : Elem w s x) (hsA : 0 < s.2.1 → ∀ q, (sv s).ownBlock = some q → v.ownBlock ≠ some q)
    (hg : w.grownBy w' v.ownBlock) (hat : v'.ownBlock = v.ownBlock ∨ v'.ownBlock = some w.heap.size) : Each w' (vs ++ [s]) (L ++ [x]) ∧ Away v'.ownBlock (vs ++ [s]) := by
  have hall : Each w (vs ++ [s]) (L ++ [x]) := by
    refine ⟨by simp [hE.1], fun i t y h1 h2 => ?_⟩
    by_cases hi : i < vs.length
    · rw [List.getElem?_append_left hi] at h1
      rw [List.getElem?_append_left (by rw [← hE.1]; exact hi)] at h2
      exact hE.2 i t y h1 h2
    · rw [List.getElem?_append_right (by omega)] at h1
      rw [List.getElem?_append_right (by rw [← hE.1]; omega), ← hE.1] at h2
      have : i - vs.length = 0 := by
        rcases Nat.eq_zero_or_pos (i - vs.length) with h0 | h0
        · exact h0
        · rw [List.getElem?_eq_none (by simp; omega)] at h1; cases h1
      rw [this] at h1 h2
      simp at h1 h2
      rw [← h1, ← h2]
      exact hs
  have haw : Away v.ownBlock (vs ++ [s]) := by
    intro t ht h0 q hq
    rcases List.mem_append.1 ht with h | h
    · exact hA t h h0 q hq
    · rw [List.mem_singleton] at h
      subst h
      exact hsA h0 q hq
  refine ⟨⟨hall.1, fun i t y h1 h2 => (hall.2 i t y h1 h2).far hg (haw t (List.mem_of_getElem? h1))⟩, fun t ht h0 q hq => ?_⟩
  rcases hat with hat | hat
  · rw [hat]; exact haw t ht h0 q hq
  · rw [hat]
    obtain ⟨i, hi⟩ := List.getElem?_of_mem ht
    have hil : i < (L ++ [x]).length := by rw [← hall.1]; exact (List.getElem?_eq_some_iff.1 hi).1
    obtain ⟨q', off, e, hlt⟩ := (hall.2 i t _ hi (List.getElem?_eq_getElem hil)).block h0
    have : q = q' := by simp [sv, e, Value.ownBlock] at hq; omega
    intro hh
    simp at hh
    omega
/-- A call's own slice of lists. -/
def OwnB (w : World) (base : Nat) (v : Value) (L : List (List UInt8)) : Prop := ∃ vs, OwnR 22 sv w base v vs ∧ Each w vs L ∧ Away v.ownBlock vs
theorem OwnB.isRdB {w : World} {base : Nat} {v : Value} {L : List (List UInt8)} (h : OwnB w base v L) : IsRdB L v w := by
  obtain ⟨vs, h1, h2, _⟩ := h
  obtain ⟨a, cap, rfl, h3⟩ := h1.rd
  exact ⟨a, cap, by rw [h2.1], vs, h3, h2⟩
theorem OwnB.nil (w : World) (base : Nat) : OwnB w base (.slice none 0 0) [] := ⟨[], ⟨by simp, .inl ⟨rfl, rfl⟩⟩, Each.nil w, Away.nil _⟩
theorem OwnB.later {w w' : World} {base : Nat} {v : Value} {L : List (List UInt8)} (h : OwnB w base v L) (hx : Ex w w') : OwnB w' base v L := by
  obtain ⟨vs, h1, h2, h3⟩ := h
  exact ⟨vs, h1.later hx, h2.below hx, h3⟩
theorem OwnB.lt {w : World} {base : Nat} {v : Value} {L : List (List UInt8)} (h : OwnB w base v L) : ∀ g, v.ownBlock = some g → base ≤ g ∧ g < w.heap.size := by
  obtain ⟨vs, h1, _, _⟩ := h
  exact World.ownsRow.lt h1
end Go.Proofs.Ythibeoohhcmejaa
