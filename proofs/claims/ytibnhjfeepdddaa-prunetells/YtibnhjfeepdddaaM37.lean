/-
  Stats as they come in, by value.
-/
import Derived.Test.YtibnhjfeepdddaaM11
import Derived.Test.YtibnhjfeepdddaaM36
import Derived.Test.YtibnhjfeepdddaaM04
namespace Go.Proofs.Ytibnhjfeepdddaa
open Go.RowKit Go.Deep Go.WideShapes Go.ChangeShapes
set_option linter.unusedVariables false
def ZnOk (z : Zn) : Prop := In64 z.k ∧ In64 z.r ∧ In64 z.u ∧ In64 z.mn ∧ In64 z.mx ∧ z.ms.length ≤ maxLen ∧ z.xs.length ≤ maxLen
section
variable {H : Type} {enc : TypeId × Value → H} {w : World} {base : Nat} {held : Bool}
set_option maxRecDepth 100000 in
/-- A slice of bytes; how many they are. -/
theorem open_bytes30 {fuel : Nat} {cs : List Value} {x : DataW H × List MemPlace} (h : DataW.trod enc Try.prog w base (fun _ => true) held fuel 30 cs = some x) :
    ∃ (a : Option Addr) (cap : Nat) (l : List UInt8), cs = [.slice a l.length cap] ∧ Byt w a cap l ∧ ∃ m ∈ 0 :: x.1.weights Try.prog 30, l.length ≤ m := by
  rcases open_ints Try.underlying30 Try.underlying5 (by kernel_rfl) h with ⟨hcs, _⟩ | ⟨x1, l, c, zs, hcs, _, hl, hm, hz, hx, hcell, hwz⟩
  · exact ⟨none, 0, [], hcs, Byt.nil _, 0, by simp, by simp⟩
  have hz' : zs.length = c := by simpa using hz
  have hlen := rowBytes_len hl hz'
  refine ⟨some x1, c, rowBytes zs l, by rw [hlen, hcs], byt_row hl hm hz' hcell hwz, ?_⟩
  rw [hlen]
  rcases open_slice Try.underlying30 h with ⟨h0, _⟩ | ⟨a, len, cap, m, n, D, Pl, rfl, hb, hl2, hm2, hmm, rfl, hx2⟩
  · rw [hcs] at h0; simp at h0
  have be : Try.prog.bytesOf 5 = 1 := by kernel_rfl
  simp only [List.cons.injEq, Value.slice.injEq, and_true] at hcs
  have hlm : len ≤ m := by rw [hmm]; split <;> omega
  refine ⟨(len + (m - len)) * 1, ?_, by omega⟩
  refine List.mem_cons_of_mem _ ?_
  simp [DataW.weights, Try.underlying30, be]
set_option maxRecDepth 100000 in
/-- Eight places that read as a column's zone. -/
theorem open_zone8 {fuel : Nat} {v0 v1 v2 v3 v4 v5 v6 v7 : Value} {x : DataW H × List MemPlace} (h : DataW.trod enc Try.prog w base (fun _ => true) held fuel 28 [v0, v1, v2, v3, v4, v5, v6, v7] = some x) :
    ∃ c : List UInt8 × Zn, [v0, v1, v2, v3, v4, v5, v6, v7] = zcc c ∧ c.1.length ≤ maxLen ∧ ZnOk c.2 := by
  obtain ⟨xs, n, _, _, _, hl, hf⟩ := DataW.trod_struct Try.underlying28 h
  match xs, hl with
  | [y0, y1], _ =>
    have c9 : Try.prog.cellsOf 9 = 1 := by kernel_rfl
    have c25 : Try.prog.cellsOf 25 = 7 := by kernel_rfl
    have c3 : Try.prog.cellsOf 3 = 1 := by kernel_rfl
    have c2 : Try.prog.cellsOf 2 = 1 := by kernel_rfl
    have g0 := hf 0 _ rfl
    have g1 := hf 1 _ rfl
    simp [c9, c25] at g0 g1
    obtain ⟨s0, e0, _, m0⟩ := DataW.trod_string Try.underlying9 g0
    obtain ⟨xs', n', _, _, _, hl', hf'⟩ := DataW.trod_struct Try.underlying25 g1
    match xs', hl' with
    | [q1, q2, q3, q4, q5, q6, q7], _ =>
      have k1 := hf' 0 _ rfl
      have k2 := hf' 1 _ rfl
      have k3 := hf' 2 _ rfl
      have k4 := hf' 3 _ rfl
      have k5 := hf' 4 _ rfl
      have k6 := hf' 5 _ rfl
      have k7 := hf' 6 _ rfl
      simp [c9, c3, c2] at k1 k2 k3 k4 k5 k6 k7
      obtain ⟨a1, e1, _, m1⟩ := DataW.trod_int Try.underlying3 k1
      obtain ⟨a2, e2, _, m2⟩ := DataW.trod_int Try.underlying3 k2
      obtain ⟨a3, e3, _, m3⟩ := DataW.trod_int Try.underlying3 k3
      obtain ⟨a4, e4, _, m4⟩ := DataW.trod_int Try.underlying2 k4
      obtain ⟨a5, e5, _, m5⟩ := DataW.trod_int Try.underlying2 k5
      obtain ⟨s6, e6, _, m6⟩ := DataW.trod_string Try.underlying9 k6
      obtain ⟨s7, e7, _, m7⟩ := DataW.trod_string Try.underlying9 k7
      simp at e0 e1 e2 e3 e4 e5 e6 e7
      obtain ⟨t0, rfl⟩ := str_of s0
      obtain ⟨t6, rfl⟩ := str_of s6
      obtain ⟨t7, rfl⟩ := str_of s7
      subst e0 e1 e2 e3 e4 e5 e6 e7
      exact ⟨(t0, ⟨a1, a2, a3, a4, a5, t6, t7⟩), rfl, str_len m0, wf64 m1, wf64 m2, wf64 m3, wf64 m4, wf64 m5, str_len m6, str_len m7⟩
/-- A slice of zones of columns. -/
theorem open_zones {fuel : Nat} {cs : List Value} {x : DataW H × List MemPlace} (h : DataW.trod enc Try.prog w base (fun _ => true) held fuel 29 cs = some x) :
    ∃ (a : Option Addr) (cap : Nat) (l : List (List UInt8 × Zn)), cs = [.slice a l.length cap] ∧ RdZ w a cap l ∧ ∀ c ∈ l, c.1.length ≤ maxLen ∧ ZnOk c.2 := by
  rcases open_slice Try.underlying29 h with ⟨h0, _⟩ | ⟨a, len, cap, m, n, D, Pl, rfl, hb, hl, hm, hmm, rfl, hx⟩
  · exact ⟨none, 0, [], h0, RdW.nil w, by simp⟩
  have ce : Try.prog.cellsOf 28 = 8 := by kernel_rfl
  have hlm : len ≤ m := by rw [hmm]; split <;> omega
  have each : ∀ i, i < len → ∃ c : List UInt8 × Zn, (∀ j u, (zcc c)[j]? = some u → w.cell? (a.add (i * 8 + j)) = some u) ∧ c.1.length ≤ maxLen ∧ ZnOk c.2 := by
    intro i hi
    obtain ⟨cs', h1, h2⟩ := hx i (by omega)
    rw [ce] at h1
    obtain ⟨_, hlen, hcell⟩ := World.cells?_some h1
    match cs', hlen with
    | [v0, v1, v2, v3, v4, v5, v6, v7], _ =>
      obtain ⟨c, he, hc⟩ := open_zone8 h2
      refine ⟨c, fun j u hu => ?_, hc⟩
      have hj : j < 8 := (List.getElem?_eq_some_iff.1 hu).1
      have e := hcell j (by omega)
      rw [add_add, he] at e
      rw [e]; exact hu
  obtain ⟨l, hll, hql⟩ := choose_list each
  refine ⟨some a, cap, l, by rw [hll], ⟨by omega, hm, by simp, fun i p hp => ?_⟩, fun p hp => ?_⟩
  · obtain ⟨h1, _⟩ := hql i p hp
    obtain ⟨b, off, spot⟩ := a
    have hspot : spot = none := by
      have hl0 : 0 < l.length := by
        cases l with
        | nil => simp at hp
        | cons _ _ => simp
      obtain ⟨h3, _⟩ := hql 0 _ (List.getElem?_eq_getElem hl0)
      have := World.cell?_spot (h3 0 _ rfl)
      simpa [Addr.add] using this
    subst hspot
    refine ⟨b, off, rfl, fun j u hu => ?_⟩
    have := h1 j u hu
    rw [add_none, ← Nat.add_assoc] at this
    exact this
  · obtain ⟨i, hi⟩ := List.getElem?_of_mem hp
    exact (hql i p hi).2
set_option maxRecDepth 100000 in
/-- Three places that read as a column's filter. -/
theorem open_bloom3 {fuel : Nat} {v0 v1 v2 : Value} {x : DataW H × List MemPlace} (h : DataW.trod enc Try.prog w base (fun _ => true) held fuel 35 [v0, v1, v2] = some x) :
    ∃ (v : BV) (r : List UInt8 × Int × List UInt8), [v0, v1, v2] = bc v ∧ BvOk w v r ∧ (r.1.length ≤ maxLen ∧ In64 r.2.1) ∧ ∃ m ∈ 0 :: x.1.weights Try.prog 35, r.2.2.length ≤ m := by
  obtain ⟨xs, n, _, rfl, _, hl, hf⟩ := DataW.trod_struct Try.underlying35 h
  match xs, hl with
  | [y0, y1], _ =>
    have c9 : Try.prog.cellsOf 9 = 1 := by kernel_rfl
    have c32 : Try.prog.cellsOf 32 = 2 := by kernel_rfl
    have c3 : Try.prog.cellsOf 3 = 1 := by kernel_rfl
    have c30 : Try.prog.cellsOf 30 = 1 := by kernel_rfl
    have g0 := hf 0 _ rfl
    have g1 := hf 1 _ rfl
    simp [c9, c32] at g0 g1
    obtain ⟨s0, e0, _, m0⟩ := DataW.trod_string Try.underlying9 g0
    obtain ⟨xs', n', _, hy1, _, hl', hf'⟩ := DataW.trod_struct Try.underlying32 g1
    match xs', hl' with
    | [q1, q2], _ =>
      have k1 := hf' 0 _ rfl
      have k2 := hf' 1 _ rfl
      simp [c3, c30] at k1 k2
      obtain ⟨a1, e1, _, m1⟩ := DataW.trod_int Try.underlying3 k1
      obtain ⟨p, c, l, e2, hr, m, hm, hml⟩ := open_bytes30 k2
      simp at e0 e1 e2
      obtain ⟨t0, rfl⟩ := str_of s0
      subst e0 e1 e2
      refine ⟨⟨t0, a1, p, l.length, c⟩, (t0, a1, l), rfl, ⟨rfl, rfl, rfl, hr⟩, ⟨str_len m0, wf64 m1⟩, m, ?_, hml⟩
      rcases List.mem_cons.1 hm with h9 | h9
      · rw [h9]; simp
      · refine List.mem_cons_of_mem _ ?_
        subst hy1
        simp [DataW.weights, Try.underlying35, Try.underlying32, DataW.weightsEach]
        exact Or.inr (Or.inr h9)
/-- A slice of filters of columns. -/
theorem open_blooms {fuel : Nat} {cs : List Value} {x : DataW H × List MemPlace} (h : DataW.trod enc Try.prog w base (fun _ => true) held fuel 36 cs = some x) :
    ∃ (a : Option Addr) (cap : Nat) (l : List (List UInt8 × Int × List UInt8)), cs = [.slice a l.length cap] ∧ RdF w a cap l ∧ (∀ r ∈ l, (r.1.length ≤ maxLen ∧ In64 r.2.1) ∧ ∃ m ∈ 0 :: x.1.weights Try.prog 36, r.2.2.length ≤ m) := by
  rcases open_slice Try.underlying36 h with ⟨h0, _⟩ | ⟨a, len, cap, m, n, D, Pl, rfl, hb, hl, hm, hmm, rfl, hx⟩
  · exact ⟨none, 0, [], h0, RdF.nil w, by simp⟩
  have ce : Try.prog.cellsOf 35 = 3 := by kernel_rfl
  have hlm : len ≤ m := by rw [hmm]; split <;> omega
  have each : ∀ i, i < len → ∃ vr : BV × (List UInt8 × Int × List UInt8), (∀ j u, (bc vr.1)[j]? = some u → w.cell? (a.add (i * 3 + j)) = some u) ∧ BvOk w vr.1 vr.2 ∧ (vr.2.1.length ≤ maxLen ∧ In64 vr.2.2.1) ∧ ∃ m ∈ 0 :: (D i).weights Try.prog 35, vr.2.2.2.length ≤ m := by
    intro i hi
    obtain ⟨cs', h1, h2⟩ := hx i (by omega)
    rw [ce] at h1
    obtain ⟨_, hlen, hcell⟩ := World.cells?_some h1
    match cs', hlen with
    | [v0, v1, v2], _ =>
      obtain ⟨v, r, he, hv, hr, hm⟩ := open_bloom3 h2
      refine ⟨(v, r), fun j u hu => ?_, hv, hr, hm⟩
      have hj : j < 3 := (List.getElem?_eq_some_iff.1 hu).1
      have e := hcell j (by omega)
      rw [add_add, he] at e
      rw [e]; exact hu
  obtain ⟨l, hll, hql⟩ := choose_list each
  refine ⟨some a, cap, l.map (·.2), by rw [List.length_map, hll], ⟨l.map (·.1), ⟨by rw [List.length_map]; omega, hm, by simp, fun i p hp => ?_⟩, by simp, fun i v r hv hr => ?_⟩, fun r hr => ?_⟩
  · rw [List.getElem?_map] at hp
    obtain ⟨y, hy, rfl⟩ := Option.map_eq_some_iff.1 hp
    obtain ⟨h1, _⟩ := hql i y hy
    obtain ⟨b, off, spot⟩ := a
    have hspot : spot = none := by
      have hl0 : 0 < l.length := by
        cases l with
        | nil => simp at hy
        | cons _ _ => simp
      obtain ⟨h3, _⟩ := hql 0 _ (List.getElem?_eq_getElem hl0)
      have := World.cell?_spot (h3 0 _ rfl)
      simpa [Addr.add] using this
    subst hspot
    refine ⟨b, off, rfl, fun j u hu => ?_⟩
    have := h1 j u hu
    rw [add_none, ← Nat.add_assoc] at this
    exact this
  · rw [List.getElem?_map] at hv hr
    obtain ⟨y, hy, rfl⟩ := Option.map_eq_some_iff.1 hv
    rw [hy] at hr
    simp at hr
    subst hr
    exact (hql i y hy).2.1
  · obtain ⟨y, hy, rfl⟩ := List.mem_map.1 hr
    obtain ⟨i, hi⟩ := List.getElem?_of_mem hy
    have hil : i < len := by rw [← hll]; exact (List.getElem?_eq_some_iff.1 hi).1
    obtain ⟨_, _, hok, m', hm', hml⟩ := hql i y hi
    refine ⟨hok, m', ?_, hml⟩
    rcases List.mem_cons.1 hm' with h9 | h9
    · rw [h9]; simp
    · refine List.mem_cons_of_mem _ ?_
      simp only [DataW.weights, Try.underlying36]
      refine List.mem_cons_of_mem _ (List.mem_append_left _ (weightsAll_mem (d := D i) ?_ _ h9))
      exact List.mem_map.2 ⟨i, List.mem_range.2 hil, rfl⟩
set_option maxRecDepth 100000 in
/-- Five places that read as Stats. -/
theorem open_stats5 {fuel : Nat} {v0 v1 v2 v3 v4 : Value} {x : DataW H × List MemPlace} (h : DataW.trod enc Try.prog w base (fun _ => true) held fuel 38 [v0, v1, v2, v3, v4] = some x) :
    ∃ (v : TV) (s : St), [v0, v1, v2, v3, v4] = tc v ∧ StOk w v s ∧ (In64 s.rows ∧ In64 s.lo ∧ In64 s.hi ∧ ∀ c ∈ s.zs, c.1.length ≤ maxLen ∧ ZnOk c.2) ∧ ∀ r ∈ s.bs, (r.1.length ≤ maxLen ∧ In64 r.2.1) ∧ ∃ m ∈ 0 :: x.1.weights Try.prog 38, r.2.2.length ≤ m := by
  obtain ⟨xs, n, _, rfl, _, hl, hf⟩ := DataW.trod_struct Try.underlying38 h
  match xs, hl with
  | [y0, y1, y2, y3, y4], _ =>
    have c3 : Try.prog.cellsOf 3 = 1 := by kernel_rfl
    have c2 : Try.prog.cellsOf 2 = 1 := by kernel_rfl
    have c29 : Try.prog.cellsOf 29 = 1 := by kernel_rfl
    have c36 : Try.prog.cellsOf 36 = 1 := by kernel_rfl
    have g0 := hf 0 _ rfl
    have g1 := hf 1 _ rfl
    have g2 := hf 2 _ rfl
    have g3 := hf 3 _ rfl
    have g4 := hf 4 _ rfl
    simp [c3, c2, c29, c36] at g0 g1 g2 g3 g4
    obtain ⟨a0, e0, _, m0⟩ := DataW.trod_int Try.underlying3 g0
    obtain ⟨a1, e1, _, m1⟩ := DataW.trod_int Try.underlying2 g1
    obtain ⟨a2, e2, _, m2⟩ := DataW.trod_int Try.underlying2 g2
    obtain ⟨p3, c3', l3, e3, hr3, hok3⟩ := open_zones g3
    obtain ⟨p4, c4', l4, e4, hr4, hok4⟩ := open_blooms g4
    simp at e0 e1 e2 e3 e4
    subst e0 e1 e2 e3 e4
    refine ⟨⟨a0, a1, a2, (p3, l3.length, c3'), (p4, l4.length, c4')⟩, ⟨a0, a1, a2, l3, l4⟩, rfl, ⟨⟨rfl, rfl, rfl⟩, ⟨rfl, hr3⟩, rfl, hr4⟩, ⟨wf64 m0, wf64 m1, wf64 m2, hok3⟩, fun r hr => ?_⟩
    obtain ⟨h1, m, hm, hml⟩ := hok4 r hr
    refine ⟨h1, m, ?_, hml⟩
    rcases List.mem_cons.1 hm with h9 | h9
    · rw [h9]; simp
    · refine List.mem_cons_of_mem _ ?_
      simp [DataW.weights, Try.underlying38, DataW.weightsEach]
      exact Or.inr (Or.inr (Or.inr (Or.inr h9)))
end
theorem array5' {α : Type} {a : Array α} (h : a.size = 5) : ∃ b c d e f, a = #[b, c, d, e, f] := by
  obtain ⟨l⟩ := a
  match l, h with
  | [b, c, d, e, f], _ => exact ⟨b, c, d, e, f, rfl⟩
set_option maxRecDepth 100000 in
theorem open_stats {H : Type} {enc : TypeId × Value → H} {w : World} {r : Reach} {b0 : Nat} {v : Value} {d : DataW H} {p : List MemPlace} (hv : Value.okWide Try.prog w r b0 38 v) (h : DataW.Trod enc Try.prog w 0 (fun _ => true) true 38 v d p) :
    ∃ (u : TV) (s : St), v = tvv u ∧ StOk w u s ∧ (In64 s.rows ∧ In64 s.lo ∧ In64 s.hi ∧ ∀ c ∈ s.zs, c.1.length ≤ maxLen ∧ ZnOk c.2) ∧ ∀ r ∈ s.bs, (r.1.length ≤ maxLen ∧ In64 r.2.1) ∧ ∃ m ∈ 0 :: d.weights Try.prog 38, r.2.2.length ≤ m := by
  obtain ⟨cs, rfl, hs⟩ := okWide_struct Try.underlying38 hv
  rw [show Try.prog.cellsOf 38 = 5 from by kernel_rfl] at hs
  obtain ⟨c0, c1, c2, c3, c4, rfl⟩ := array5' hs
  obtain ⟨fuel, hf⟩ := h
  have hf' : DataW.trod enc Try.prog w 0 (fun _ => true) true fuel 38 [c0, c1, c2, c3, c4] = some (d, p) := hf
  obtain ⟨u, x, hu, h1, h2, h3⟩ := open_stats5 hf'
  refine ⟨u, x, ?_, h1, h2, h3⟩
  simp only [tc, List.cons.injEq, and_true] at hu
  obtain ⟨rfl, rfl, rfl, rfl, rfl⟩ := hu
  rfl
/-- What Stats that come in are. -/
def StIn (s : St) : Prop := (In64 s.rows ∧ In64 s.lo ∧ In64 s.hi ∧ ∀ c ∈ s.zs, c.1.length ≤ maxLen ∧ ZnOk c.2) ∧ ∀ r ∈ s.bs, (r.1.length ≤ maxLen ∧ In64 r.2.1) ∧ r.2.2.length ≤ 140737488351232
theorem StIn.fine {s : St} (h : StIn s) : StFine s :=
  ⟨fun x hx => ⟨(h.1.2.2.2 x hx).1, (h.1.2.2.2 x hx).2.2.2.2.2.2.1, (h.1.2.2.2 x hx).2.2.2.2.2.2.2⟩, fun x hx => ⟨(h.2 x hx).1.1, by have := (h.2 x hx).2; omega, (h.2 x hx).1.2⟩⟩
end Go.Proofs.Ytibnhjfeepdddaa
