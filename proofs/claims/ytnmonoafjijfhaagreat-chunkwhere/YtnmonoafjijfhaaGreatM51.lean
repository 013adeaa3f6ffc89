/-
  How cells open.
-/
import Derived.Test.YtnmonoafjijfhaaGreatM49
import Derived.Deep.Slices
import Derived.OpenShut
import Derived.Lib.SmallJoins
import Derived.WideShapes
namespace Go.Proofs.YtnmonoafjijfhaaGreat
open Go.RowKit Go.Deep Go.WideShapes
set_option linter.unusedVariables false
/-- A cell's numbers and texts are such as they are. -/
def CelOk (c : Ce) : Prop := c.col.length ≤ maxLen ∧ In64 c.k ∧ In64 c.n ∧ c.s.length ≤ maxLen
theorem choose_list {α : Type} {m : Nat} {Q : Nat → α → Prop} (h : ∀ i, i < m → ∃ x, Q i x) : ∃ l : List α, l.length = m ∧ ∀ i p, l[i]? = some p → Q i p := by
  induction m with
  | zero => exact ⟨[], rfl, fun i p hp => by simp at hp⟩
  | succ m ih =>
    obtain ⟨l, hl, hq⟩ := ih (fun i hi => h i (by omega))
    obtain ⟨x, hxy⟩ := h m (by omega)
    refine ⟨l ++ [x], by simp [hl], fun i p hp => ?_⟩
    by_cases hi : i < l.length
    · rw [List.getElem?_append_left hi] at hp
      exact hq i p hp
    · rw [List.getElem?_append_right (by omega)] at hp
      have : i - l.length = 0 := by
        rcases Nat.eq_zero_or_pos (i - l.length) with h0 | h0
        · exact h0
        · rw [List.getElem?_eq_none (by simp; omega)] at hp; cases hp
      rw [this] at hp
      simp at hp
      have him : i = m := by omega
      rw [← hp, him]
      exact hxy
theorem wf64 {n : Int} (h : (Lit.int .i64 n).wf = true) : In64 n := by
  have h1 : IntKind.i64.min = -9223372036854775808 := rfl
  have h2 : IntKind.i64.max = 9223372036854775807 := rfl
  simp only [Lit.wf, Bool.and_eq_true, decide_eq_true_eq] at h
  exact ⟨by omega, by omega⟩
theorem str_len {s : List UInt8} (h : (str s).size ≤ maxLen) : s.length ≤ maxLen := by rwa [str_size] at h
section
variable {H : Type} {enc : TypeId × Value → H} {w : World} {base : Nat} {held : Bool} {spare : Nat → Bool}
/-- Four places that read as a cell. -/
theorem open_cell4 {fuel : Nat} {v0 v1 v2 v3 : Value} {x : DataW H × List MemPlace} (h : DataW.trod enc Tryz.prog w base spare held fuel 28 [v0, v1, v2, v3] = some x) :
    ∃ c : Ce, v0 = .string (str c.col) ∧ v1 = .int .i64 c.k ∧ v2 = .int .i64 c.n ∧ v3 = .string (str c.s) ∧ CelOk c := by
  obtain ⟨xs, n, _, _, _, hl, hf⟩ := DataW.trod_struct Tryz.underlying28 h
  match xs, hl with
  | [y0, y1, y2, y3], _ =>
    have c9 : Tryz.prog.cellsOf 9 = 1 := by kernel_rfl
    have c3 : Tryz.prog.cellsOf 3 = 1 := by kernel_rfl
    have c2 : Tryz.prog.cellsOf 2 = 1 := by kernel_rfl
    have g0 := hf 0 _ rfl
    have g1 := hf 1 _ rfl
    have g2 := hf 2 _ rfl
    have g3 := hf 3 _ rfl
    simp [c9, c3, c2] at g0 g1 g2 g3
    obtain ⟨s0, e0, _, m0⟩ := DataW.trod_string Tryz.underlying9 g0
    obtain ⟨a1, e1, _, m1⟩ := DataW.trod_int Tryz.underlying3 g1
    obtain ⟨a2, e2, _, m2⟩ := DataW.trod_int Tryz.underlying2 g2
    obtain ⟨s3, e3, _, m3⟩ := DataW.trod_string Tryz.underlying9 g3
    simp at e0 e1 e2 e3
    obtain ⟨t0, rfl⟩ := str_of s0
    obtain ⟨t3, rfl⟩ := str_of s3
    exact ⟨⟨t0, a1, a2, t3⟩, e0, e1, e2, e3, str_len m0, wf64 m1, wf64 m2, str_len m3⟩
/-- A slice of cells; how many bytes it is. -/
theorem open_cells {fuel : Nat} {cs : List Value} {x : DataW H × List MemPlace} (h : DataW.trod enc Tryz.prog w base spare held fuel 26 cs = some x) :
    ∃ (a : Option Addr) (cap : Nat) (l : List Ce), cs = [.slice a l.length cap] ∧ RdC w a cap l ∧ (∀ c ∈ l, CelOk c) ∧ ∃ m ∈ 0 :: x.1.weights Tryz.prog 26, l.length * 48 ≤ m := by
  rcases open_slice Tryz.underlying26 h with ⟨h0, _⟩ | ⟨a, len, cap, m, n, D, Pl, rfl, hb, hl, hm, hmm, rfl, hx⟩
  · exact ⟨none, 0, [], h0, RdW.nil w, by simp, 0, by simp, by simp⟩
  have ce : Tryz.prog.cellsOf 28 = 4 := by kernel_rfl
  have be : Tryz.prog.bytesOf 28 = 48 := by kernel_rfl
  have hlm : len ≤ m := by rw [hmm]; split <;> omega
  have each : ∀ i, i < len → ∃ c : Ce, (∀ j u, (cc c)[j]? = some u → w.cell? (a.add (i * 4 + j)) = some u) ∧ CelOk c := by
    intro i hi
    obtain ⟨cs', h1, h2⟩ := hx i (by omega)
    rw [ce] at h1
    obtain ⟨_, hlen, hcell⟩ := World.cells?_some h1
    match cs', hlen with
    | [v0, v1, v2, v3], _ =>
      obtain ⟨c, rfl, rfl, rfl, rfl, hc⟩ := open_cell4 h2
      refine ⟨c, fun j u hu => ?_, hc⟩
      have hj : j < 4 := (List.getElem?_eq_some_iff.1 hu).1
      have e := hcell j (by omega)
      rw [add_add] at e
      rw [e]; exact hu
  obtain ⟨l, hll, hql⟩ := choose_list each
  refine ⟨some a, cap, l, by rw [hll], ⟨by omega, hm, by simp, fun i p hp => ?_⟩, fun p hp => ?_, (len + (m - len)) * 48, ?_, by rw [hll]; omega⟩
  · obtain ⟨h1, _⟩ := hql i p hp
    obtain ⟨b, off, spot⟩ := a
    have hil : i < l.length := (List.getElem?_eq_some_iff.1 hp).1
    have hspot : spot = none := by
      have hl0 : 0 < l.length := by
        cases l with
        | nil => simp at hp
        | cons _ _ => simp
      obtain ⟨h3, _⟩ := hql 0 _ (List.getElem?_eq_getElem hl0)
      have := World.cell?_spot (h3 0 _ rfl)
      simpa [Addr.add] using this
    subst hspot
    refine ⟨b, off, rfl, fun j u hu => ?_⟩
    have := h1 j u hu
    rw [add_none, ← Nat.add_assoc] at this
    exact this
  · obtain ⟨i, hi⟩ := List.getElem?_of_mem hp
    exact (hql i p hi).2
  · refine List.mem_cons_of_mem _ ?_
    simp [DataW.weights, Tryz.underlying26, be]
end
end Go.Proofs.YtnmonoafjijfhaaGreat
