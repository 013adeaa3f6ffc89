/-
  Cells and zones as they come in: a slice of cells, a cell, a zone.
-/
import Derived.Test.YtnfbmffafclaaaaCells
import Derived.Deep.Slices
import Derived.OpenShut
import Derived.Lib.SmallJoins
namespace Go.Proofs.Ytnfbmffafclaaaa
open Go.RowKit Go.Deep
set_option linter.unusedVariables false
/-- A cell's numbers and texts are such as they are. -/
def CelOk (c : Cel) : Prop := c.col.length ≤ maxLen ∧ In64 c.k ∧ In64 c.n ∧ c.s.length ≤ maxLen
/-- A zone's, too. -/
def ZnOk (z : Zn) : Prop := In64 z.k ∧ In64 z.r ∧ In64 z.u ∧ In64 z.mn ∧ In64 z.mx ∧ z.ms.length ≤ maxLen ∧ z.xs.length ≤ maxLen
theorem choose_list {α : Type} {m : Nat} {Q : Nat → α → Prop} (h : ∀ i, i < m → ∃ x, Q i x) : ∃ l : List α, l.length = m ∧ ∀ i p, l[i]? = some p → Q i p := by
  induction m with
  | zero => exact ⟨[], rfl, fun i p hp => by simp at hp⟩
  | succ m ih =>
    obtain ⟨l, hl, hq⟩ := ih (fun i hi => h i (by omega))
    obtain ⟨x, hxy⟩ := h m (by omega)
    refine ⟨l ++ [x], by simp [hl], fun i p hp => ?_⟩
    by_cases hi : i < l.length
    · rw [List.getElem?_append_left hi] at hp
      exact hq i p hp
    · rw [List.getElem?_append_right (by omega)] at hp
      have : i - l.length = 0 := by
        rcases Nat.eq_zero_or_pos (i - l.length) with h0 | h0
        · exact h0
        · rw [List.getElem?_eq_none (by simp; omega)] at hp; cases hp
      rw [this] at hp
      simp at hp
      have him : i = m := by omega
      rw [← hp, him]
      exact hxy
theorem wf64 {n : Int} (h : (Lit.int .i64 n).wf = true) : In64 n := by
  have h1 : IntKind.i64.min = -9223372036854775808 := rfl
  have h2 : IntKind.i64.max = 9223372036854775807 := rfl
  simp only [Lit.wf, Bool.and_eq_true, decide_eq_true_eq] at h
  exact ⟨by omega, by omega⟩
theorem str_len {s : List UInt8} (h : (str s).size ≤ maxLen) : s.length ≤ maxLen := by rwa [str_size] at h
section
variable {H : Type} {enc : TypeId × Value → H} {w : World} {base : Nat} {held : Bool} {spare : Nat → Bool}
/-- Four places that read as a cell. -/
theorem open_cell4 {fuel : Nat} {v0 v1 v2 v3 : Value} {x : DataW H × List MemPlace} (h : DataW.trod enc Try.prog w base spare held fuel 52 [v0, v1, v2, v3] = some x) :
    ∃ c : Cel, v0 = .string (str c.col) ∧ v1 = .int .i64 c.k ∧ v2 = .int .i64 c.n ∧ v3 = .string (str c.s) ∧ CelOk c := by
  obtain ⟨xs, n, _, _, _, hl, hf⟩ := DataW.trod_struct Try.underlying52 h
  match xs, hl with
  | [y0, y1, y2, y3], _ =>
    have c9 : Try.prog.cellsOf 9 = 1 := by kernel_rfl
    have c3 : Try.prog.cellsOf 3 = 1 := by kernel_rfl
    have c2 : Try.prog.cellsOf 2 = 1 := by kernel_rfl
    have g0 := hf 0 _ rfl
    have g1 := hf 1 _ rfl
    have g2 := hf 2 _ rfl
    have g3 := hf 3 _ rfl
    simp [c9, c3, c2] at g0 g1 g2 g3
    obtain ⟨s0, e0, _, m0⟩ := DataW.trod_string Try.underlying9 g0
    obtain ⟨a1, e1, _, m1⟩ := DataW.trod_int Try.underlying3 g1
    obtain ⟨a2, e2, _, m2⟩ := DataW.trod_int Try.underlying2 g2
    obtain ⟨s3, e3, _, m3⟩ := DataW.trod_string Try.underlying9 g3
    simp at e0 e1 e2 e3
    obtain ⟨t0, rfl⟩ := str_of s0
    obtain ⟨t3, rfl⟩ := str_of s3
    exact ⟨⟨t0, a1, a2, t3⟩, e0, e1, e2, e3, str_len m0, wf64 m1, wf64 m2, str_len m3⟩
/-- A slice of cells. -/
theorem open_cells {fuel : Nat} {cs : List Value} {x : DataW H × List MemPlace} (h : DataW.trod enc Try.prog w base spare held fuel 46 cs = some x) :
    (cs = [.slice none 0 0]) ∨ ∃ (a : Addr) (len cap : Nat) (l : List Cel), cs = [.slice (some a) len cap] ∧ l.length = len ∧ RdC w (some a) cap l ∧ ∀ c ∈ l, CelOk c := by
  rcases open_slice Try.underlying46 h with ⟨h0, _⟩ | ⟨a, len, cap, m, n, D, Pl, rfl, hb, hl, hm, hmm, rfl, hx⟩
  · exact .inl h0
  right
  have ce : Try.prog.cellsOf 52 = 4 := by kernel_rfl
  have hlm : len ≤ m := by rw [hmm]; split <;> omega
  have each : ∀ i, i < len → ∃ c : Cel, w.cell? (a.add (i * 4)) = some (.string (str c.col)) ∧ w.cell? (a.add (i * 4 + 1)) = some (.int .i64 c.k) ∧ w.cell? (a.add (i * 4 + 2)) = some (.int .i64 c.n) ∧ w.cell? (a.add (i * 4 + 3)) = some (.string (str c.s)) ∧ CelOk c := by
    intro i hi
    obtain ⟨cs', h1, h2⟩ := hx i (by omega)
    rw [ce] at h1
    obtain ⟨_, hlen, hcell⟩ := World.cells?_some h1
    match cs', hlen with
    | [v0, v1, v2, v3], _ =>
      obtain ⟨c, rfl, rfl, rfl, rfl, hc⟩ := open_cell4 h2
      have e0 := hcell 0 (by omega)
      have e1 := hcell 1 (by omega)
      have e2 := hcell 2 (by omega)
      have e3 := hcell 3 (by omega)
      rw [add_add] at e0 e1 e2 e3
      exact ⟨c, by simpa using e0, by simpa using e1, by simpa using e2, by simpa using e3, hc⟩
  obtain ⟨l, hll, hql⟩ := choose_list each
  refine ⟨a, len, cap, l, rfl, hll, ⟨by omega, hm, by simp, fun i p hp => ?_⟩, fun p hp => ?_⟩
  · obtain ⟨h1, h2, h3, h4, _⟩ := hql i p hp
    obtain ⟨b, off, spot⟩ := a
    have hil : i < l.length := (List.getElem?_eq_some_iff.1 hp).1
    have hspot : spot = none := by
      obtain ⟨h3, _⟩ := hql 0 _ (List.getElem?_eq_getElem (by omega : 0 < l.length))
      have := World.cell?_spot h3
      simpa [Addr.add] using this
    subst hspot
    rw [add_none] at h1 h2 h3 h4
    exact ⟨b, off, rfl, h1, by rw [Nat.add_assoc]; exact h2, by rw [Nat.add_assoc]; exact h3, by rw [Nat.add_assoc]; exact h4⟩
  · obtain ⟨i, hi⟩ := List.getElem?_of_mem hp
    obtain ⟨_, _, _, _, h3⟩ := hql i p hi
    exact h3
/-- Seven places that read as a zone. -/
theorem open_zone7 {fuel : Nat} {v0 v1 v2 v3 v4 v5 v6 : Value} {x : DataW H × List MemPlace} (h : DataW.trod enc Try.prog w base spare held fuel 23 [v0, v1, v2, v3, v4, v5, v6] = some x) :
    ∃ z : Zn, .agg #[v0, v1, v2, v3, v4, v5, v6] = zv z ∧ ZnOk z := by
  obtain ⟨xs, n, _, _, _, hl, hf⟩ := DataW.trod_struct Try.underlying23 h
  match xs, hl with
  | [y0, y1, y2, y3, y4, y5, y6], _ =>
    have c9 : Try.prog.cellsOf 9 = 1 := by kernel_rfl
    have c3 : Try.prog.cellsOf 3 = 1 := by kernel_rfl
    have c2 : Try.prog.cellsOf 2 = 1 := by kernel_rfl
    have g0 := hf 0 _ rfl
    have g1 := hf 1 _ rfl
    have g2 := hf 2 _ rfl
    have g3 := hf 3 _ rfl
    have g4 := hf 4 _ rfl
    have g5 := hf 5 _ rfl
    have g6 := hf 6 _ rfl
    simp [c9, c3, c2] at g0 g1 g2 g3 g4 g5 g6
    obtain ⟨a0, e0, _, m0⟩ := DataW.trod_int Try.underlying3 g0
    obtain ⟨a1, e1, _, m1⟩ := DataW.trod_int Try.underlying3 g1
    obtain ⟨a2, e2, _, m2⟩ := DataW.trod_int Try.underlying3 g2
    obtain ⟨a3, e3, _, m3⟩ := DataW.trod_int Try.underlying2 g3
    obtain ⟨a4, e4, _, m4⟩ := DataW.trod_int Try.underlying2 g4
    obtain ⟨s5, e5, _, m5⟩ := DataW.trod_string Try.underlying9 g5
    obtain ⟨s6, e6, _, m6⟩ := DataW.trod_string Try.underlying9 g6
    simp at e0 e1 e2 e3 e4 e5 e6
    obtain ⟨t5, rfl⟩ := str_of s5
    obtain ⟨t6, rfl⟩ := str_of s6
    subst e0 e1 e2 e3 e4 e5 e6
    exact ⟨⟨a0, a1, a2, a3, a4, t5, t6⟩, rfl, wf64 m0, wf64 m1, wf64 m2, wf64 m3, wf64 m4, str_len m5, str_len m6⟩
end
end Go.Proofs.Ytnfbmffafclaaaa
