/-
  Taken out of another text of mine: Ropens.
-/
import Derived.Test.YtbdjccmlgdfapaaKtame
import Derived.Deep.Slices
import Derived.OpenShut
import Derived.Lib.SmallJoins
import Derived.WideShapes
namespace Go.Proofs.Ytbdjccmlgdfapaa
open Go.RowKit Go.Deep Go.WideShapes
set_option linter.unusedVariables false
/-- A cell's numbers and texts are such as they are. -/
def CelOk (c : Ce) : Prop := c.col.length ≤ maxLen ∧ In64 c.k ∧ In64 c.n ∧ c.s.length ≤ maxLen
def RowOk (r : Rw) : Prop := In64 r.t ∧ In64 r.q ∧ ∀ c ∈ r.c, CelOk c
theorem RowOk.rwOk {r : Rw} (h : RowOk r) : RwOk r := ⟨h.1, h.2.1, fun c hc => ⟨(h.2.2 c hc).1, (h.2.2 c hc).2.2.2, (h.2.2 c hc).2.1, (h.2.2 c hc).2.2.1⟩⟩
theorem choose_list {α : Type} {m : Nat} {Q : Nat → α → Prop} (h : ∀ i, i < m → ∃ x, Q i x) : ∃ l : List α, l.length = m ∧ ∀ i p, l[i]? = some p → Q i p := by
  induction m with
  | zero => exact ⟨[], rfl, fun i p hp => by simp at hp⟩
  | succ m ih =>
    obtain ⟨l, hl, hq⟩ := ih (fun i hi => h i (by omega))
    obtain ⟨x, hxy⟩ := h m (by omega)
    refine ⟨l ++ [x], by simp [hl], fun i p hp => ?_⟩
    by_cases hi : i < l.length
    · rw [List.getElem?_append_left hi] at hp
      exact hq i p hp
    · rw [List.getElem?_append_right (by omega)] at hp
      have : i - l.length = 0 := by
        rcases Nat.eq_zero_or_pos (i - l.length) with h0 | h0
        · exact h0
        · rw [List.getElem?_eq_none (by simp; omega)] at hp; cases hp
      rw [this] at hp
      simp at hp
      have him : i = m := by omega
      rw [← hp, him]
      exact hxy
theorem wf64 {n : Int} (h : (Lit.int .i64 n).wf = true) : In64 n := by
  have h1 : IntKind.i64.min = -9223372036854775808 := rfl
  have h2 : IntKind.i64.max = 9223372036854775807 := rfl
  simp only [Lit.wf, Bool.and_eq_true, decide_eq_true_eq] at h
  exact ⟨by omega, by omega⟩
theorem str_len {s : List UInt8} (h : (str s).size ≤ maxLen) : s.length ≤ maxLen := by rwa [str_size] at h
theorem weightsAll_mem {H : Type} {P : Program} {e : TypeId} : ∀ {l : List (DataW H)} {d : DataW H}, d ∈ l → ∀ n ∈ d.weights P e, n ∈ DataW.weightsAll P e l
  | [], d, h, _, _ => by simp at h
  | x :: l, d, h, n, hn => by
    simp only [DataW.weightsAll, List.mem_append]
    rcases List.mem_cons.1 h with rfl | h
    · exact Or.inl hn
    · exact Or.inr (weightsAll_mem h n hn)
section
variable {H : Type} {enc : TypeId × Value → H} {w : World} {base : Nat} {held : Bool} {spare : Nat → Bool}
/-- Four places that read as a cell. -/
theorem open_cell4 {fuel : Nat} {v0 v1 v2 v3 : Value} {x : DataW H × List MemPlace} (h : DataW.trod enc Try.prog w base spare held fuel 50 [v0, v1, v2, v3] = some x) :
    ∃ c : Ce, v0 = .string (str c.col) ∧ v1 = .int .i64 c.k ∧ v2 = .int .i64 c.n ∧ v3 = .string (str c.s) ∧ CelOk c := by
  obtain ⟨xs, n, _, _, _, hl, hf⟩ := DataW.trod_struct Try.underlying50 h
  match xs, hl with
  | [y0, y1, y2, y3], _ =>
    have c9 : Try.prog.cellsOf 9 = 1 := by kernel_rfl
    have c3 : Try.prog.cellsOf 3 = 1 := by kernel_rfl
    have c2 : Try.prog.cellsOf 2 = 1 := by kernel_rfl
    have g0 := hf 0 _ rfl
    have g1 := hf 1 _ rfl
    have g2 := hf 2 _ rfl
    have g3 := hf 3 _ rfl
    simp [c9, c3, c2] at g0 g1 g2 g3
    obtain ⟨s0, e0, _, m0⟩ := DataW.trod_string Try.underlying9 g0
    obtain ⟨a1, e1, _, m1⟩ := DataW.trod_int Try.underlying3 g1
    obtain ⟨a2, e2, _, m2⟩ := DataW.trod_int Try.underlying2 g2
    obtain ⟨s3, e3, _, m3⟩ := DataW.trod_string Try.underlying9 g3
    simp at e0 e1 e2 e3
    obtain ⟨t0, rfl⟩ := str_of s0
    obtain ⟨t3, rfl⟩ := str_of s3
    exact ⟨⟨t0, a1, a2, t3⟩, e0, e1, e2, e3, str_len m0, wf64 m1, wf64 m2, str_len m3⟩
/-- A slice of cells; how many bytes it is. -/
theorem open_cells {fuel : Nat} {cs : List Value} {x : DataW H × List MemPlace} (h : DataW.trod enc Try.prog w base spare held fuel 34 cs = some x) :
    ∃ (a : Option Addr) (cap : Nat) (l : List Ce), cs = [.slice a l.length cap] ∧ RdC w a cap l ∧ (∀ c ∈ l, CelOk c) ∧ ∃ m ∈ 0 :: x.1.weights Try.prog 34, l.length * 48 ≤ m := by
  rcases open_slice Try.underlying34 h with ⟨h0, _⟩ | ⟨a, len, cap, m, n, D, Pl, rfl, hb, hl, hm, hmm, rfl, hx⟩
  · exact ⟨none, 0, [], h0, RdW.nil w, by simp, 0, by simp, by simp⟩
  have ce : Try.prog.cellsOf 50 = 4 := by kernel_rfl
  have be : Try.prog.bytesOf 50 = 48 := by kernel_rfl
  have hlm : len ≤ m := by rw [hmm]; split <;> omega
  have each : ∀ i, i < len → ∃ c : Ce, (∀ j u, (cc c)[j]? = some u → w.cell? (a.add (i * 4 + j)) = some u) ∧ CelOk c := by
    intro i hi
    obtain ⟨cs', h1, h2⟩ := hx i (by omega)
    rw [ce] at h1
    obtain ⟨_, hlen, hcell⟩ := World.cells?_some h1
    match cs', hlen with
    | [v0, v1, v2, v3], _ =>
      obtain ⟨c, rfl, rfl, rfl, rfl, hc⟩ := open_cell4 h2
      refine ⟨c, fun j u hu => ?_, hc⟩
      have hj : j < 4 := (List.getElem?_eq_some_iff.1 hu).1
      have e := hcell j (by omega)
      rw [add_add] at e
      rw [e]; exact hu
  obtain ⟨l, hll, hql⟩ := choose_list each
  refine ⟨some a, cap, l, by rw [hll], ⟨by omega, hm, by simp, fun i p hp => ?_⟩, fun p hp => ?_, (len + (m - len)) * 48, ?_, by rw [hll]; omega⟩
  · obtain ⟨h1, _⟩ := hql i p hp
    obtain ⟨b, off, spot⟩ := a
    have hil : i < l.length := (List.getElem?_eq_some_iff.1 hp).1
    have hspot : spot = none := by
      have hl0 : 0 < l.length := by
        cases l with
        | nil => simp at hp
        | cons _ _ => simp
      obtain ⟨h3, _⟩ := hql 0 _ (List.getElem?_eq_getElem hl0)
      have := World.cell?_spot (h3 0 _ rfl)
      simpa [Addr.add] using this
    subst hspot
    refine ⟨b, off, rfl, fun j u hu => ?_⟩
    have := h1 j u hu
    rw [add_none, ← Nat.add_assoc] at this
    exact this
  · obtain ⟨i, hi⟩ := List.getElem?_of_mem hp
    exact (hql i p hi).2
  · refine List.mem_cons_of_mem _ ?_
    simp [DataW.weights, Try.underlying34, be]
/-- Three places that read as a row. -/
theorem open_row3 {fuel : Nat} {v0 v1 v2 : Value} {x : DataW H × List MemPlace} (h : DataW.trod enc Try.prog w base spare held fuel 36 [v0, v1, v2] = some x) :
    ∃ (v : RV) (r : Rw), [v0, v1, v2] = rc v ∧ RvOk w v r ∧ RowOk r ∧ ∃ m ∈ 0 :: x.1.weights Try.prog 36, r.c.length * 48 ≤ m := by
  obtain ⟨xs, n, _, rfl, _, hl, hf⟩ := DataW.trod_struct Try.underlying36 h
  match xs, hl with
  | [y0, y1, y2], _ =>
    have c3 : Try.prog.cellsOf 3 = 1 := by kernel_rfl
    have c2 : Try.prog.cellsOf 2 = 1 := by kernel_rfl
    have c23 : Try.prog.cellsOf 34 = 1 := by kernel_rfl
    have g0 := hf 0 _ rfl
    have g1 := hf 1 _ rfl
    have g2 := hf 2 _ rfl
    simp [c3, c2, c23] at g0 g1 g2
    obtain ⟨a0, e0, _, m0⟩ := DataW.trod_int Try.underlying2 g0
    obtain ⟨a1, e1, _, m1⟩ := DataW.trod_int Try.underlying3 g1
    obtain ⟨p, c, l, e2, hr, hok, m, hm, hml⟩ := open_cells g2
    simp at e0 e1 e2
    subst e0 e1 e2
    refine ⟨⟨a0, a1, p, l.length, c⟩, ⟨a0, a1, l⟩, rfl, ⟨rfl, rfl, rfl, hr⟩, ⟨wf64 m0, wf64 m1, hok⟩, m, ?_, hml⟩
    rcases List.mem_cons.1 hm with h | h
    · rw [h]; simp
    · refine List.mem_cons_of_mem _ ?_
      simp [DataW.weights, Try.underlying36, DataW.weightsEach]
      exact Or.inr (Or.inr h)
/-- A slice of rows. -/
theorem open_rows {fuel : Nat} {cs : List Value} {x : DataW H × List MemPlace} (h : DataW.trod enc Try.prog w base spare held fuel 26 cs = some x) :
    ∃ (a : Option Addr) (cap : Nat) (l : List Rw), cs = [.slice a l.length cap] ∧ RdR w a cap l ∧ (∀ r ∈ l, RowOk r ∧ ∃ m ∈ 0 :: x.1.weights Try.prog 26, r.c.length * 48 ≤ m) := by
  rcases open_slice Try.underlying26 h with ⟨h0, _⟩ | ⟨a, len, cap, m, n, D, Pl, rfl, hb, hl, hm, hmm, rfl, hx⟩
  · exact ⟨none, 0, [], h0, RdR.nil w, by simp⟩
  have ce : Try.prog.cellsOf 36 = 3 := by kernel_rfl
  have hlm : len ≤ m := by rw [hmm]; split <;> omega
  have each : ∀ i, i < len → ∃ vr : RV × Rw, (∀ j u, (rc vr.1)[j]? = some u → w.cell? (a.add (i * 3 + j)) = some u) ∧ RvOk w vr.1 vr.2 ∧ RowOk vr.2 ∧ ∃ m ∈ 0 :: (D i).weights Try.prog 36, vr.2.c.length * 48 ≤ m := by
    intro i hi
    obtain ⟨cs', h1, h2⟩ := hx i (by omega)
    rw [ce] at h1
    obtain ⟨_, hlen, hcell⟩ := World.cells?_some h1
    match cs', hlen with
    | [v0, v1, v2], _ =>
      obtain ⟨v, r, he, hv, hr, hm⟩ := open_row3 h2
      refine ⟨(v, r), fun j u hu => ?_, hv, hr, hm⟩
      have hj : j < 3 := (List.getElem?_eq_some_iff.1 hu).1
      have e := hcell j (by omega)
      rw [add_add, he] at e
      rw [e]; exact hu
  obtain ⟨l, hll, hql⟩ := choose_list each
  refine ⟨some a, cap, l.map (·.2), by rw [List.length_map, hll], ⟨l.map (·.1), ⟨by rw [List.length_map]; omega, hm, by simp, fun i p hp => ?_⟩, by simp, fun i v r hv hr => ?_⟩, fun r hr => ?_⟩
  · rw [List.getElem?_map] at hp
    obtain ⟨y, hy, rfl⟩ := Option.map_eq_some_iff.1 hp
    obtain ⟨h1, _⟩ := hql i y hy
    obtain ⟨b, off, spot⟩ := a
    have hspot : spot = none := by
      have hl0 : 0 < l.length := by
        cases l with
        | nil => simp at hy
        | cons _ _ => simp
      obtain ⟨h3, _⟩ := hql 0 _ (List.getElem?_eq_getElem hl0)
      have := World.cell?_spot (h3 0 _ rfl)
      simpa [Addr.add] using this
    subst hspot
    refine ⟨b, off, rfl, fun j u hu => ?_⟩
    have := h1 j u hu
    rw [add_none, ← Nat.add_assoc] at this
    exact this
  · rw [List.getElem?_map] at hv hr
    obtain ⟨y, hy, rfl⟩ := Option.map_eq_some_iff.1 hv
    rw [hy] at hr
    simp at hr
    subst hr
    exact (hql i y hy).2.1
  · obtain ⟨y, hy, rfl⟩ := List.mem_map.1 hr
    obtain ⟨i, hi⟩ := List.getElem?_of_mem hy
    have hil : i < len := by rw [← hll]; exact (List.getElem?_eq_some_iff.1 hi).1
    obtain ⟨_, _, hok, m', hm', hml⟩ := hql i y hi
    refine ⟨hok, m', ?_, hml⟩
    rcases List.mem_cons.1 hm' with h | h
    · rw [h]; simp
    · refine List.mem_cons_of_mem _ ?_
      simp only [DataW.weights, Try.underlying26]
      refine List.mem_cons_of_mem _ (List.mem_append_left _ (weightsAll_mem (d := D i) ?_ _ h))
      exact List.mem_map.2 ⟨i, List.mem_range.2 hil, rfl⟩
end
end Go.Proofs.Ytbdjccmlgdfapaa
