/-
  A slice of pairs of numbers ([][2]int), as it comes in.
-/
import Derived.Test.YtdkfmeneacbhjaaKinds
import Derived.Deep.Slices
import Derived.OpenShut
namespace Go.Proofs.Ytdkfmeneacbhjaa
open Go.RowKit Go.Deep
set_option linter.unusedVariables false

/-- A slice reads as the pairs l. -/
def P2 (w : World) (a : Option Addr) (cap : Nat) (l : List (Int × Int)) : Prop :=
  l.length ≤ cap ∧ cap ≤ maxLen ∧ (a = none → cap = 0) ∧ ∀ i x, l[i]? = some x → ∃ b off, a = some ⟨b, off, none⟩ ∧ w.cell? ⟨b, off + i * 2, none⟩ = some (.int .i64 x.1) ∧ w.cell? ⟨b, off + i * 2 + 1, none⟩ = some (.int .i64 x.2)
theorem P2.nil (w : World) : P2 w none 0 [] := ⟨by simp, by simp [maxLen], fun _ => rfl, fun i x hi => by simp at hi⟩
theorem P2.below {w w' : World} {a : Option Addr} {cap : Nat} {l : List (Int × Int)} (h : P2 w a cap l) (hb : Below w.heap.size w w') : P2 w' a cap l := by
  obtain ⟨h1, h2, h3, h4⟩ := h
  refine ⟨h1, h2, h3, fun i x hi => ?_⟩
  obtain ⟨b, off, rfl, hc, hd⟩ := h4 i x hi
  refine ⟨b, off, rfl, ?_, ?_⟩
  · rw [hb.cell (p := ⟨b, off + i * 2, none⟩) (World.block_lt_of_cell? w _ hc)]; exact hc
  · rw [hb.cell (p := ⟨b, off + i * 2 + 1, none⟩) (World.block_lt_of_cell? w _ hd)]; exact hd
theorem P2.at {w : World} {a : Option Addr} {cap : Nat} {l : List (Int × Int)} (h : P2 w a cap l) {k : Nat} (hk : k < l.length) : ∃ b off, a = some ⟨b, off, none⟩ ∧ w.cell? ⟨b, off + k * 2, none⟩ = some (.int .i64 l[k].1) ∧ w.cell? ⟨b, off + k * 2 + 1, none⟩ = some (.int .i64 l[k].2) :=
  h.2.2.2 k _ (List.getElem?_eq_getElem hk)
theorem choose_pairs {m : Nat} {Q : Nat → Int → Int → Prop} (h : ∀ i, i < m → ∃ x y, Q i x y) : ∃ l : List (Int × Int), l.length = m ∧ ∀ i p, l[i]? = some p → Q i p.1 p.2 := by
  induction m with
  | zero => exact ⟨[], rfl, fun i p hp => by simp at hp⟩
  | succ m ih =>
    obtain ⟨l, hl, hq⟩ := ih (fun i hi => h i (by omega))
    obtain ⟨x, y, hxy⟩ := h m (by omega)
    refine ⟨l ++ [(x, y)], by simp [hl], fun i p hp => ?_⟩
    by_cases hi : i < l.length
    · rw [List.getElem?_append_left hi] at hp
      exact hq i p hp
    · rw [List.getElem?_append_right (by omega)] at hp
      have : i - l.length = 0 := by
        rcases Nat.eq_zero_or_pos (i - l.length) with h0 | h0
        · exact h0
        · rw [List.getElem?_eq_none (by simp; omega)] at hp; cases hp
      rw [this] at hp
      simp at hp
      have him : i = m := by omega
      rw [← hp, him]
      exact hxy
theorem open_pairs {H : Type} {enc : TypeId × Value → H} {w : World} {base : Nat} {held : Bool} {t e q : TypeId} {fuel : Nat} {cs : List Value} {x : DataW H × List MemPlace} {spare : Nat → Bool} (ht : Try.prog.underlying t = some (.slice e)) (he : Try.prog.underlying e = some (.array 2 q)) (hq : Try.prog.underlying q = some (.int .i64))
    (ce : Try.prog.cellsOf e = 2) (cq : Try.prog.cellsOf q = 1) (h : DataW.trod enc Try.prog w base spare held fuel t cs = some x) :
    (cs = [.slice none 0 0]) ∨ ∃ (a : Addr) (len cap : Nat) (l : List (Int × Int)), cs = [.slice (some a) len cap] ∧ l.length = len ∧ P2 w (some a) cap l ∧ ∀ p ∈ l, In64 p.1 ∧ In64 p.2 := by
  rcases open_slice ht h with ⟨h0, _⟩ | ⟨a, len, cap, m, n, D, Pl, rfl, hb, hl, hm, hmm, rfl, hx⟩
  · exact .inl h0
  right
  have hlm : len ≤ m := by rw [hmm]; split <;> omega
  have each : ∀ i, i < len → ∃ u v : Int, w.cell? (a.add (i * 2)) = some (.int .i64 u) ∧ w.cell? (a.add (i * 2 + 1)) = some (.int .i64 v) ∧ In64 u ∧ In64 v := by
    intro i hi
    obtain ⟨cs', h1, h2⟩ := hx i (by omega)
    rw [ce] at h1
    obtain ⟨_, hlen, hcell⟩ := World.cells?_some h1
    obtain ⟨xs, k, hk, hxy, _, hxl, hf⟩ := DataW.trod_array he h2
    match xs, hxl, cs', hlen with
    | [y0, y1], _, [v0, v1], _ =>
      have g0 := hf 0 (by omega)
      have g1 := hf 1 (by omega)
      simp [cq] at g0 g1
      have e0 := hcell 0 (by omega)
      have e1 := hcell 1 (by omega)
      rw [add_add] at e0 e1
      obtain ⟨u, hu, _, wu⟩ := DataW.trod_int hq g0
      obtain ⟨v, hv, _, wv⟩ := DataW.trod_int hq g1
      simp at hu hv
      subst hu
      subst hv
      have h1 : IntKind.i64.min = -9223372036854775808 := rfl
      have h2 : IntKind.i64.max = 9223372036854775807 := rfl
      simp only [Lit.wf, Bool.and_eq_true, decide_eq_true_eq] at wu wv
      exact ⟨u, v, by simpa using e0, by simpa using e1, ⟨by omega, by omega⟩, ⟨by omega, by omega⟩⟩
  obtain ⟨l, hll, hql⟩ := choose_pairs each
  refine ⟨a, len, cap, l, rfl, hll, ⟨by omega, hm, by simp, fun i p hp => ?_⟩, fun p hp => ?_⟩
  · obtain ⟨h1, h2, _, _⟩ := hql i p hp
    obtain ⟨b, off, spot⟩ := a
    have hil : i < l.length := (List.getElem?_eq_some_iff.1 hp).1
    have hspot : spot = none := by
      obtain ⟨h3, _⟩ := hql 0 _ (List.getElem?_eq_getElem (by omega : 0 < l.length))
      have := World.cell?_spot h3
      simpa [Addr.add] using this
    subst hspot
    rw [add_none] at h1 h2
    exact ⟨b, off, rfl, h1, by rw [Nat.add_assoc]; exact h2⟩
  · obtain ⟨i, hi⟩ := List.getElem?_of_mem hp
    obtain ⟨_, _, h3, h4⟩ := hql i p hi
    exact ⟨h3, h4⟩
end Go.Proofs.Ytdkfmeneacbhjaa
