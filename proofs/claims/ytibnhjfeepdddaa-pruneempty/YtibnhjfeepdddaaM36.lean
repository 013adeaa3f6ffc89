/-
  Taken out of another text of mine: Ropens. A row as it comes in, by value. Predicates as they come in. What the statements ask of Eval: predicates that are cut, or laid out; a variable for a predicate in a region whose order is open. The law's own known.
-/
import Derived.Test.YtibnhjfeepdddaaM35
import Derived.Deep.Slices
import Derived.OpenShut
import Derived.Lib.SmallJoins
import Derived.WideShapes
import Derived.ChangeSlices
import Derived.Test.YtibnhjfeepdddaaM34
import Derived.Test.YtibnhjfeepdddaaM32
import Derived.Test.YtibnhjfeepdddaaM33
namespace Go.Proofs.Ytibnhjfeepdddaa
open Go.RowKit Go.Deep Go.WideShapes
set_option linter.unusedVariables false
/-- A cell's numbers and texts are such as they are. -/
def CelOk (c : Ce) : Prop := c.col.length ≤ maxLen ∧ In64 c.k ∧ In64 c.n ∧ c.s.length ≤ maxLen
def RowOk (r : Rw) : Prop := In64 r.t ∧ In64 r.q ∧ ∀ c ∈ r.c, CelOk c
theorem RowOk.rwOk {r : Rw} (h : RowOk r) : RwOk r := ⟨h.1, h.2.1, fun c hc => ⟨(h.2.2 c hc).1, (h.2.2 c hc).2.2.2, (h.2.2 c hc).2.1, (h.2.2 c hc).2.2.1⟩⟩
theorem choose_list {α : Type} {m : Nat} {Q : Nat → α → Prop} (h : ∀ i, i < m → ∃ x, Q i x) : ∃ l : List α, l.length = m ∧ ∀ i p, l[i]? = some p → Q i p := by
 induction m with
 | zero => exact ⟨[], rfl, fun i p hp => by simp at hp⟩
 | succ m ih =>
  obtain ⟨l, hl, hq⟩ := ih (fun i hi => h i (by omega))
  obtain ⟨x, hxy⟩ := h m (by omega)
  refine ⟨l ++ [x], by simp [hl], fun i p hp => ?_⟩
  by_cases hi : i < l.length
  ·rw [List.getElem?_append_left hi] at hp
   exact hq i p hp
  ·rw [List.getElem?_append_right (by omega)] at hp
   have : i - l.length = 0 := by
    rcases Nat.eq_zero_or_pos (i - l.length) with h0 | h0
    ·exact h0
    ·rw [List.getElem?_eq_none (by simp; omega)] at hp; cases hp
   rw [this] at hp
   simp at hp
   have him : i = m := by omega
   rw [← hp, him]
   exact hxy
theorem wf64 {n : Int} (h : (Lit.int .i64 n).wf = true) : In64 n := by
 have h1 : IntKind.i64.min = -9223372036854775808 := rfl
 have h2 : IntKind.i64.max = 9223372036854775807 := rfl
 simp only [Lit.wf, Bool.and_eq_true, decide_eq_true_eq] at h
 exact ⟨by omega, by omega⟩
theorem str_len {s : List UInt8} (h : (str s).size ≤ maxLen) : s.length ≤ maxLen := by rwa [str_size] at h
theorem weightsAll_mem {H : Type} {P : Program} {e : TypeId} : ∀ {l : List (DataW H)} {d : DataW H}, d ∈ l → ∀ n ∈ d.weights P e, n ∈ DataW.weightsAll P e l
 | [], d, h, _, _ => by simp at h
 | x :: l, d, h, n, hn => by
  simp only [DataW.weightsAll, List.mem_append]
  rcases List.mem_cons.1 h with rfl | h
  ·exact Or.inl hn
  ·exact Or.inr (weightsAll_mem h n hn)
section
variable {H : Type} {enc : TypeId × Value → H} {w : World} {base : Nat} {held : Bool} {spare : Nat → Bool}
/-- Four places that read as a cell. -/
theorem open_cell4 {fuel : Nat} {v0 v1 v2 v3 : Value} {x : DataW H × List MemPlace} (h : DataW.trod enc Try.prog w base spare held fuel 90 [v0, v1, v2, v3] = some x) :
  ∃ c : Ce, v0 = .string (str c.col) ∧ v1 = .int .i64 c.k ∧ v2 = .int .i64 c.n ∧ v3 = .string (str c.s) ∧ CelOk c := by
 obtain ⟨xs, n, _, _, _, hl, hf⟩ := DataW.trod_struct Try.underlying90 h
 match xs, hl with
 | [y0, y1, y2, y3], _ =>
  have c9 : Try.prog.cellsOf 9 = 1 := by kernel_rfl
  have c3 : Try.prog.cellsOf 3 = 1 := by kernel_rfl
  have c2 : Try.prog.cellsOf 2 = 1 := by kernel_rfl
  have g0 := hf 0 _ rfl
  have g1 := hf 1 _ rfl
  have g2 := hf 2 _ rfl
  have g3 := hf 3 _ rfl
  simp [c9, c3, c2] at g0 g1 g2 g3
  obtain ⟨s0, e0, _, m0⟩ := DataW.trod_string Try.underlying9 g0
  obtain ⟨a1, e1, _, m1⟩ := DataW.trod_int Try.underlying3 g1
  obtain ⟨a2, e2, _, m2⟩ := DataW.trod_int Try.underlying2 g2
  obtain ⟨s3, e3, _, m3⟩ := DataW.trod_string Try.underlying9 g3
  simp at e0 e1 e2 e3
  obtain ⟨t0, rfl⟩ := str_of s0
  obtain ⟨t3, rfl⟩ := str_of s3
  exact ⟨⟨t0, a1, a2, t3⟩, e0, e1, e2, e3, str_len m0, wf64 m1, wf64 m2, str_len m3⟩
/-- A slice of cells; how many bytes it is. -/
theorem open_cells {fuel : Nat} {cs : List Value} {x : DataW H × List MemPlace} (h : DataW.trod enc Try.prog w base spare held fuel 59 cs = some x) :
  ∃ (a : Option Addr) (cap : Nat) (l : List Ce), cs = [.slice a l.length cap] ∧ RdC w a cap l ∧ (∀ c ∈ l, CelOk c) ∧ ∃ m ∈ 0 :: x.1.weights Try.prog 59, l.length * 48 ≤ m := by
 rcases open_slice Try.underlying59 h with ⟨h0, _⟩ | ⟨a, len, cap, m, n, D, Pl, rfl, hb, hl, hm, hmm, rfl, hx⟩
 ·exact ⟨none, 0, [], h0, RdW.nil w, by simp, 0, by simp, by simp⟩
 have ce : Try.prog.cellsOf 90 = 4 := by kernel_rfl
 have be : Try.prog.bytesOf 90 = 48 := by kernel_rfl
 have hlm : len ≤ m := by rw [hmm]; split <;> omega
 have each : ∀ i, i < len → ∃ c : Ce, (∀ j u, (cc c)[j]? = some u → w.cell? (a.add (i * 4 + j)) = some u) ∧ CelOk c := by
  intro i hi
  obtain ⟨cs', h1, h2⟩ := hx i (by omega)
  rw [ce] at h1
  obtain ⟨_, hlen, hcell⟩ := World.cells?_some h1
  match cs', hlen with
  | [v0, v1, v2, v3], _ =>
   obtain ⟨c, rfl, rfl, rfl, rfl, hc⟩ := open_cell4 h2
   refine ⟨c, fun j u hu => ?_, hc⟩
   have hj : j < 4 := (List.getElem?_eq_some_iff.1 hu).1
   have e := hcell j (by omega)
   rw [add_add] at e
   rw [e]; exact hu
 obtain ⟨l, hll, hql⟩ := choose_list each
 refine ⟨some a, cap, l, by rw [hll], ⟨by omega, hm, by simp, fun i p hp => ?_⟩, fun p hp => ?_, (len + (m - len)) * 48, ?_, by rw [hll]; omega⟩
 ·obtain ⟨h1, _⟩ := hql i p hp
  obtain ⟨b, off, spot⟩ := a
  have hil : i < l.length := (List.getElem?_eq_some_iff.1 hp).1
  have hspot : spot = none := by
   have hl0 : 0 < l.length := by
    cases l with
    | nil => simp at hp
    | cons _ _ => simp
   obtain ⟨h3, _⟩ := hql 0 _ (List.getElem?_eq_getElem hl0)
   have := World.cell?_spot (h3 0 _ rfl)
   simpa [Addr.add] using this
  subst hspot
  refine ⟨b, off, rfl, fun j u hu => ?_⟩
  have := h1 j u hu
  rw [add_none, ← Nat.add_assoc] at this
  exact this
 ·obtain ⟨i, hi⟩ := List.getElem?_of_mem hp
  exact (hql i p hi).2
 ·refine List.mem_cons_of_mem _ ?_
  simp [DataW.weights, Try.underlying59, be]
/-- Three places that read as a row. -/
theorem open_row3 {fuel : Nat} {v0 v1 v2 : Value} {x : DataW H × List MemPlace} (h : DataW.trod enc Try.prog w base spare held fuel 61 [v0, v1, v2] = some x) :
  ∃ (v : RV) (r : Rw), [v0, v1, v2] = rc v ∧ RvOk w v r ∧ RowOk r ∧ ∃ m ∈ 0 :: x.1.weights Try.prog 61, r.c.length * 48 ≤ m := by
 obtain ⟨xs, n, _, rfl, _, hl, hf⟩ := DataW.trod_struct Try.underlying61 h
 match xs, hl with
 | [y0, y1, y2], _ =>
  have c3 : Try.prog.cellsOf 3 = 1 := by kernel_rfl
  have c2 : Try.prog.cellsOf 2 = 1 := by kernel_rfl
  have c23 : Try.prog.cellsOf 59 = 1 := by kernel_rfl
  have g0 := hf 0 _ rfl
  have g1 := hf 1 _ rfl
  have g2 := hf 2 _ rfl
  simp [c3, c2, c23] at g0 g1 g2
  obtain ⟨a0, e0, _, m0⟩ := DataW.trod_int Try.underlying2 g0
  obtain ⟨a1, e1, _, m1⟩ := DataW.trod_int Try.underlying3 g1
  obtain ⟨p, c, l, e2, hr, hok, m, hm, hml⟩ := open_cells g2
  simp at e0 e1 e2
  subst e0 e1 e2
  refine ⟨⟨a0, a1, p, l.length, c⟩, ⟨a0, a1, l⟩, rfl, ⟨rfl, rfl, rfl, hr⟩, ⟨wf64 m0, wf64 m1, hok⟩, m, ?_, hml⟩
  rcases List.mem_cons.1 hm with h | h
  ·rw [h]; simp
  ·refine List.mem_cons_of_mem _ ?_
   simp [DataW.weights, Try.underlying61, DataW.weightsEach]
   exact Or.inr (Or.inr h)
/-- A slice of rows. -/
theorem open_rows {fuel : Nat} {cs : List Value} {x : DataW H × List MemPlace} (h : DataW.trod enc Try.prog w base spare held fuel 53 cs = some x) :
  ∃ (a : Option Addr) (cap : Nat) (l : List Rw), cs = [.slice a l.length cap] ∧ RdR w a cap l ∧ (∀ r ∈ l, RowOk r ∧ ∃ m ∈ 0 :: x.1.weights Try.prog 53, r.c.length * 48 ≤ m) := by
 rcases open_slice Try.underlying53 h with ⟨h0, _⟩ | ⟨a, len, cap, m, n, D, Pl, rfl, hb, hl, hm, hmm, rfl, hx⟩
 ·exact ⟨none, 0, [], h0, RdR.nil w, by simp⟩
 have ce : Try.prog.cellsOf 61 = 3 := by kernel_rfl
 have hlm : len ≤ m := by rw [hmm]; split <;> omega
 have each : ∀ i, i < len → ∃ vr : RV × Rw, (∀ j u, (rc vr.1)[j]? = some u → w.cell? (a.add (i * 3 + j)) = some u) ∧ RvOk w vr.1 vr.2 ∧ RowOk vr.2 ∧ ∃ m ∈ 0 :: (D i).weights Try.prog 61, vr.2.c.length * 48 ≤ m := by
  intro i hi
  obtain ⟨cs', h1, h2⟩ := hx i (by omega)
  rw [ce] at h1
  obtain ⟨_, hlen, hcell⟩ := World.cells?_some h1
  match cs', hlen with
  | [v0, v1, v2], _ =>
   obtain ⟨v, r, he, hv, hr, hm⟩ := open_row3 h2
   refine ⟨(v, r), fun j u hu => ?_, hv, hr, hm⟩
   have hj : j < 3 := (List.getElem?_eq_some_iff.1 hu).1
   have e := hcell j (by omega)
   rw [add_add, he] at e
   rw [e]; exact hu
 obtain ⟨l, hll, hql⟩ := choose_list each
 refine ⟨some a, cap, l.map (·.2), by rw [List.length_map, hll], ⟨l.map (·.1), ⟨by rw [List.length_map]; omega, hm, by simp, fun i p hp => ?_⟩, by simp, fun i v r hv hr => ?_⟩, fun r hr => ?_⟩
 ·rw [List.getElem?_map] at hp
  obtain ⟨y, hy, rfl⟩ := Option.map_eq_some_iff.1 hp
  obtain ⟨h1, _⟩ := hql i y hy
  obtain ⟨b, off, spot⟩ := a
  have hspot : spot = none := by
   have hl0 : 0 < l.length := by
    cases l with
    | nil => simp at hy
    | cons _ _ => simp
   obtain ⟨h3, _⟩ := hql 0 _ (List.getElem?_eq_getElem hl0)
   have := World.cell?_spot (h3 0 _ rfl)
   simpa [Addr.add] using this
  subst hspot
  refine ⟨b, off, rfl, fun j u hu => ?_⟩
  have := h1 j u hu
  rw [add_none, ← Nat.add_assoc] at this
  exact this
 ·rw [List.getElem?_map] at hv hr
  obtain ⟨y, hy, rfl⟩ := Option.map_eq_some_iff.1 hv
  rw [hy] at hr
  simp at hr
  subst hr
  exact (hql i y hy).2.1
 ·obtain ⟨y, hy, rfl⟩ := List.mem_map.1 hr
  obtain ⟨i, hi⟩ := List.getElem?_of_mem hy
  have hil : i < len := by rw [← hll]; exact (List.getElem?_eq_some_iff.1 hi).1
  obtain ⟨_, _, hok, m', hm', hml⟩ := hql i y hi
  refine ⟨hok, m', ?_, hml⟩
  rcases List.mem_cons.1 hm' with h | h
  ·rw [h]; simp
  ·refine List.mem_cons_of_mem _ ?_
   simp only [DataW.weights, Try.underlying53]
   refine List.mem_cons_of_mem _ (List.mem_append_left _ (weightsAll_mem (d := D i) ?_ _ h))
   exact List.mem_map.2 ⟨i, List.mem_range.2 hil, rfl⟩
end
end Go.Proofs.Ytibnhjfeepdddaa
namespace Go.Proofs.Ytibnhjfeepdddaa
open Go.RowKit Go.Deep Go.WideShapes Go.ChangeShapes
set_option linter.unusedVariables false
theorem array3' {α : Type} {a : Array α} (h : a.size = 3) : ∃ b c d, a = #[b, c, d] := by
 obtain ⟨l⟩ := a
 match l, h with
 | [b, c, d], _ => exact ⟨b, c, d, rfl⟩
set_option maxRecDepth 100000 in
theorem open_row {H : Type} {enc : TypeId × Value → H} {w : World} {r : Reach} {b0 : Nat} {v : Value} {d : DataW H} {p : List MemPlace} (hv : Value.okWide Try.prog w r b0 61 v) (h : DataW.Trod enc Try.prog w 0 (fun _ => true) true 61 v d p) :
  ∃ (u : RV) (x : Rw), v = rvv u ∧ RvOk w u x ∧ RowOk x ∧ ∃ m ∈ 0 :: d.weights Try.prog 61, x.c.length * 48 ≤ m := by
 obtain ⟨cs, rfl, hs⟩ := okWide_struct Try.underlying61 hv
 rw [show Try.prog.cellsOf 61 = 3 from by kernel_rfl] at hs
 obtain ⟨c0, c1, c2, rfl⟩ := array3' hs
 obtain ⟨fuel, hf⟩ := h
 have hf' : DataW.trod enc Try.prog w 0 (fun _ => true) true fuel 61 [c0, c1, c2] = some (d, p) := hf
 obtain ⟨u, x, hu, h1, h2, h3⟩ := open_row3 hf'
 refine ⟨u, x, ?_, h1, h2, h3⟩
 simp only [rc, List.cons.injEq, and_true] at hu
 obtain ⟨rfl, rfl, rfl⟩ := hu
 rfl
end Go.Proofs.Ytibnhjfeepdddaa
namespace Go.Proofs.Ytibnhjfeepdddaa
open Go.RowKit Go.Deep Go.WideShapes Go.ChangeShapes
set_option linter.unusedVariables false
section
variable {H : Type} {enc : TypeId × Value → H} {w : World} {base : Nat} {held : Bool} {spare : Nat → Bool}
/-- A slice of texts. -/
theorem open_texts {fuel : Nat} {cs : List Value} {x : DataW H × List MemPlace} (h : DataW.trod enc Try.prog w base spare held fuel 26 cs = some x) :
  ∃ (a : Option Addr) (cap : Nat) (l : List (List UInt8)), cs = [.slice a l.length cap] ∧ Rd st w a cap l ∧ ∀ s ∈ l, s.length ≤ maxLen := by
 rcases open_slice1 Try.underlying26 (by kernel_rfl) h with ⟨h0, _⟩ | ⟨a, len, cap, m, n, V, D, Pl, rfl, hb, hl, hm, hmm, rfl, hx⟩
 ·exact ⟨none, 0, [], h0, Rd.nil w, by simp⟩
 have hlm : len ≤ m := by rw [hmm]; split <;> omega
 have each : ∀ i, i < len → ∃ s : List UInt8, w.cell? (a.add i) = some (.string (str s)) ∧ s.length ≤ maxLen := by
  intro i hi
  obtain ⟨h1, h2⟩ := hx i (by omega)
  obtain ⟨s0, e0, _, m0⟩ := DataW.trod_string Try.underlying9 h2
  simp at e0
  obtain ⟨t0, rfl⟩ := str_of s0
  exact ⟨t0, by rw [h1, e0], str_len m0⟩
 obtain ⟨l, hll, hql⟩ := choose_list each
 refine ⟨some a, cap, l, by rw [hll], ⟨by omega, hm, by simp, fun i p hp => ?_⟩, fun p hp => ?_⟩
 ·obtain ⟨h1, _⟩ := hql i p hp
  obtain ⟨b, off, spot⟩ := a
  have hspot : spot = none := by
   have hl0 : 0 < l.length := by
    cases l with
    | nil => simp at hp
    | cons _ _ => simp
   obtain ⟨h3, _⟩ := hql 0 _ (List.getElem?_eq_getElem hl0)
   have := World.cell?_spot h3
   simpa [Addr.add] using this
  subst hspot
  refine ⟨b, off, rfl, ?_⟩
  rw [add_none] at h1
  exact h1
 ·obtain ⟨i, hi⟩ := List.getElem?_of_mem hp
  exact (hql i p hi).2
set_option maxRecDepth 100000 in
/-- Seven places that read as a predicate. -/
theorem open_pred7 : ∀ (fuel : Nat) (cs : List Value) (x : DataW H × List MemPlace), DataW.trod enc Try.prog w base spare held fuel 40 cs = some x →
  ∃ (v : PV) (p : Pr), cs = pc v ∧ Pd.Lay (fun _ => True) p w v ∧ Pd.Raw p := by
 intro fuel
 induction fuel using Nat.strongRecOn with
 | _ fuel ih =>
  intro cs x h
  obtain ⟨xs, n, hn, _, hlen, hl, hf⟩ := DataW.trod_struct Try.underlying40 h
  rw [show Try.prog.cellsOf 40 = 7 from by kernel_rfl] at hlen
  match xs, hl, cs, hlen with
  | [y0, y1, y2, y3, y4, y5, y6], _, [v0, v1, v2, v3, v4, v5, v6], _ =>
   have c9 : Try.prog.cellsOf 9 = 1 := by kernel_rfl
   have c3 : Try.prog.cellsOf 3 = 1 := by kernel_rfl
   have c2 : Try.prog.cellsOf 2 = 1 := by kernel_rfl
   have c22 : Try.prog.cellsOf 26 = 1 := by kernel_rfl
   have c23 : Try.prog.cellsOf 22 = 1 := by kernel_rfl
   have g0 := hf 0 _ rfl
   have g1 := hf 1 _ rfl
   have g2 := hf 2 _ rfl
   have g3 := hf 3 _ rfl
   have g4 := hf 4 _ rfl
   have g5 := hf 5 _ rfl
   have g6 := hf 6 _ rfl
   simp [c9, c3, c2, c22, c23] at g0 g1 g2 g3 g4 g5 g6
   obtain ⟨a0, e0, _, m0⟩ := DataW.trod_int Try.underlying3 g0
   obtain ⟨s1, e1, _, m1⟩ := DataW.trod_string Try.underlying9 g1
   obtain ⟨a2, e2, _, m2⟩ := DataW.trod_int Try.underlying2 g2
   obtain ⟨a3, e3, _, m3⟩ := DataW.trod_int Try.underlying2 g3
   obtain ⟨s4, e4, _, m4⟩ := DataW.trod_string Try.underlying9 g4
   obtain ⟨sa, sc, set, e5, hR, hset⟩ := open_texts g5
   simp at e0 e1 e2 e3 e4 e5
   obtain ⟨t1, rfl⟩ := str_of s1
   obtain ⟨t4, rfl⟩ := str_of s4
   subst e0 e1 e2 e3 e4 e5
   have hraw : HdRaw ⟨a0, t1, a2, a3, t4, set⟩ := ⟨wf64 m0, wf64 m2, wf64 m3, str_len m1, str_len m4, hset⟩
   have key : ∃ (ka : Option Addr) (kc : Nat) (vs : List PV) (l : List Pr), v6 = .slice ka l.length kc ∧ RdW 7 pc w ka kc vs ∧ Pd.Lays (fun _ => True) w vs l ∧ ∀ q ∈ l, Pd.Raw q := by
    rcases DataW.trod_slice Try.underlying22 g6 with ⟨h0, _⟩ | ⟨a, len, cap, elems, rest, n', hn', h0, _, hb, hlc, hcm, hel, hall, _, _⟩
    ·simp at h0
     exact ⟨none, 0, [], [], h0, RdW.nil w, Pd.Lays.nil _ _, by simp⟩
    ·simp at h0
     rw [show Try.prog.cellsOf 40 = 7 from by kernel_rfl] at hall
     have each : ∀ i, i < len → ∃ vq : PV × Pr, (∀ j u, (pc vq.1)[j]? = some u → w.cell? (a.add (i * 7 + j)) = some u) ∧ Pd.Lay (fun _ => True) vq.2 w vq.1 ∧ Pd.Raw vq.2 := by
      intro i hi
      have h1 := hall i hi
      rw [List.getElem?_eq_getElem (by omega)] at h1
      obtain ⟨cs', hc, ht⟩ := Option.bind_eq_some_iff.1 h1
      obtain ⟨_, hlen', hcell⟩ := World.cells?_some hc
      obtain ⟨v, q, rfl, hL, hq⟩ := ih n' (by omega) cs' _ ht
      refine ⟨(v, q), fun j u hu => ?_, hL, hq⟩
      have hj : j < 7 := (List.getElem?_eq_some_iff.1 hu).1
      have e := hcell j (by omega)
      rw [add_add] at e
      rw [e]; exact hu
     obtain ⟨l, hll, hql⟩ := choose_list each
     refine ⟨some a, cap, l.map (·.1), l.map (·.2), by rw [List.length_map, hll]; exact h0, ⟨by rw [List.length_map]; omega, hcm, by simp, fun i p hp => ?_⟩, ⟨by simp, fun i v r hv hr => ?_⟩, fun r hr => ?_⟩
     ·rw [List.getElem?_map] at hp
      obtain ⟨y, hy, rfl⟩ := Option.map_eq_some_iff.1 hp
      obtain ⟨h1, _⟩ := hql i y hy
      obtain ⟨b, off, spot⟩ := a
      have hspot : spot = none := by
       have hl0 : 0 < l.length := by
        cases l with
        | nil => simp at hy
        | cons _ _ => simp
       obtain ⟨h3, _⟩ := hql 0 _ (List.getElem?_eq_getElem hl0)
       have := World.cell?_spot (h3 0 _ rfl)
       simpa [Addr.add] using this
      subst hspot
      refine ⟨b, off, rfl, fun j u hu => ?_⟩
      have := h1 j u hu
      rw [add_none, ← Nat.add_assoc] at this
      exact this
     ·rw [List.getElem?_map] at hv hr
      obtain ⟨y, hy, rfl⟩ := Option.map_eq_some_iff.1 hv
      rw [hy] at hr
      simp at hr
      subst hr
      exact (hql i y hy).2.1
     ·obtain ⟨y, hy, rfl⟩ := List.mem_map.1 hr
      obtain ⟨i, hi⟩ := List.getElem?_of_mem hy
      exact (hql i y hi).2.2
   obtain ⟨ka, kc, vs, l, rfl, hRk, hLk, hrk⟩ := key
   refine ⟨⟨a0, t1, a2, a3, t4, (sa, set.length, sc), ka, l.length, kc⟩, Pr.mk' ⟨a0, t1, a2, a3, t4, set⟩ l, rfl, ?_, ?_⟩
   ·rw [Pd.lay_mk]
    exact ⟨⟨⟨rfl, rfl, rfl, rfl, rfl⟩, rfl, hR, fun _ _ _ _ => trivial⟩, rfl, fun _ _ _ _ => trivial, vs, hRk, hLk⟩
   ·rw [Pd.raw_mk]
    exact ⟨hraw, hrk⟩
end
theorem array7 {α : Type} {a : Array α} (h : a.size = 7) : ∃ b c d e f g i, a = #[b, c, d, e, f, g, i] := by
 obtain ⟨l⟩ := a
 match l, h with
 | [b, c, d, e, f, g, i], _ => exact ⟨b, c, d, e, f, g, i, rfl⟩
set_option maxRecDepth 100000 in
theorem open_pred {H : Type} {enc : TypeId × Value → H} {w : World} {r : Reach} {b0 : Nat} {v : Value} {d : DataW H} {p : List MemPlace} (hv : Value.okWide Try.prog w r b0 40 v) (h : DataW.Trod enc Try.prog w 0 (fun _ => true) true 40 v d p) :
  ∃ (u : PV) (x : Pr), v = pvv u ∧ Pd.Lay (fun _ => True) x w u ∧ Pd.Raw x := by
 obtain ⟨cs, rfl, hs⟩ := okWide_struct Try.underlying40 hv
 rw [show Try.prog.cellsOf 40 = 7 from by kernel_rfl] at hs
 obtain ⟨c0, c1, c2, c3, c4, c5, c6, rfl⟩ := array7 hs
 obtain ⟨fuel, hf⟩ := h
 have hf' : DataW.trod enc Try.prog w 0 (fun _ => true) true fuel 40 [c0, c1, c2, c3, c4, c5, c6] = some (d, p) := hf
 obtain ⟨u, x, hu, h1, h2⟩ := open_pred7 _ _ _ hf'
 refine ⟨u, x, ?_, h1, h2⟩
 simp only [pc, List.cons.injEq, and_true] at hu
 obtain ⟨rfl, rfl, rfl, rfl, rfl, rfl, rfl⟩ := hu
 rfl
end Go.Proofs.Ytibnhjfeepdddaa
namespace Go.Proofs.Ytibnhjfeepdddaa
open Go.RowKit
set_option linter.unusedVariables false
set_option linter.unusedSimpArgs false
namespace Pd
theorem fit_of {p : Pr} (h1 : deep p ≤ 50) (h2 : size p ≤ 5000) : fit p 50 5000 = true := by unfold fit; simp [h1, h2]
theorem fine_bare {k : Int} {c : List UInt8} {n m : Int} {s : List UInt8} (h1 : In64 k) (h2 : In64 n) (h3 : In64 m) (h4 : c.length ≤ 1000) (h5 : s.length ≤ 1000) : Fine (Pr.mk' ⟨k, c, n, m, s, []⟩ []) := by
 rw [fine_mk]
 exact ⟨⟨h1, h2, h3, h4, h5, by simp, by simp⟩, by simp, by simp⟩
end Pd
/-- A new variable for a predicate. -/
def IsNew (base : Nat) (v : Value) (w : World) : Prop := ∃ g, v = .pointer (some ⟨g, 0, none⟩) ∧ base ≤ g ∧ PAt w g PV.zero
theorem IsNew.stands (base : Nat) : ∀ v w w', IsNew base v w → Ex w w' → IsNew base v w' := by
 rintro v w w' ⟨g, rfl, h0, h1⟩ hx
 exact ⟨g, rfl, h0, h1.below hx⟩
end Go.Proofs.Ytibnhjfeepdddaa
namespace Go.Proofs.Ytibnhjfeepdddaa
open Go.RowKit
set_option linter.unusedVariables false
set_option linter.unusedSimpArgs false
def kS : St := ⟨3, 0, 0, [([120], ⟨1, 3, 0, 5, 9, [], []⟩)], []⟩
abbrev kP : Pr := Pr.mk' ⟨4, [120], 5, 0, [], []⟩ []
abbrev kV : PV := ⟨4, [120], 5, 0, [], (none, 0, 0), none, 0, 0⟩
abbrev kT (w : World) : TV := ⟨3, 0, 0, (some ⟨w.heap.size, 0, none⟩, 1, 1), (none, 0, 0)⟩
theorem kP_right : Pd.right kP = true := by
 unfold Pd.right kP
 rw [Pd.deep_mk, Pd.size_mk, Pd.form_mk]
 decide
theorem kA_right : Pd.right (Pr.mk' (Pd.hk 1) []) = true := by
 unfold Pd.right
 rw [Pd.deep_mk, Pd.size_mk, Pd.form_mk]
 decide
theorem k_one : Pu.judge kS (Pu.fg 1) kP = 1 := by
 rw [Pu.judge_is (by decide) _ kP_right, Pu.jd_mk]
 decide +kernel
theorem k_two : Pu.judge kS (Pu.fg 0) kP = 2 := by
 rw [Pu.judge_is (by decide) _ kP_right, Pu.jd_mk]
 decide +kernel
theorem k_three : Pu.judge kS (Pu.fg 0) (Pr.mk' (Pd.hk 1) []) = 3 := by
 rw [Pu.judge_is (by decide) _ kA_right, Pu.jd_mk]
 rfl
theorem kfine : StFine kS := ⟨fun x hx => by simp [kS] at hx; subst hx; simp [maxLen], fun x hx => by simp [kS] at hx⟩
theorem kP_fine : Pd.Fine kP := Pd.fine_bare ⟨by decide, by decide⟩ ⟨by decide, by decide⟩ ⟨by decide, by decide⟩ (by decide) (by decide)
theorem kA_fine : Pd.Fine (Pr.mk' (Pd.hk 1) []) := Pd.fine_hk 1 ⟨by decide, by decide⟩ (by simp) (by simp)
theorem kP_lay (w : World) : Pd.Lay (fun _ => True) kP w kV := lay_bare _ _ _ _ _ _ _
set_option maxHeartbeats 4000000 in
set_option maxRecDepth 100000 in
theorem known_is (w : World) : Calls Try.prog 14 #[] w fun e w' => e = .returned (.bool true) ∧ Ex w w' := by
 obtain ⟨W, hW⟩ : ∃ W, ((w.alloc (.cells #[.string { data := #[120] }, .int .i64 1, .int .i64 3, .int .i64 0, .int .i64 5, .int .i64 9, .string { data := #[] }, .string { data := #[] }] 28)).alloc (.cells #[.int .i64 3, .int .i64 0, .int .i64 0, .slice (some ⟨w.heap.size, 0, none⟩) 1 1, .slice none 0 0] 38)).alloc (.cells #[.int .i64 4, .string { data := #[120] }, .int .i64 5, .int .i64 0, .string { data := #[] }, .slice none 0 0, .slice none 0 0] 40) = W := ⟨_, rfl⟩
 obtain ⟨w1, hw1⟩ : ∃ w1, w.alloc (.cells #[.string { data := #[120] }, .int .i64 1, .int .i64 3, .int .i64 0, .int .i64 5, .int .i64 9, .string { data := #[] }, .string { data := #[] }] 28) = w1 := ⟨_, rfl⟩
 obtain ⟨w2, hw2⟩ : ∃ w2, w1.alloc (.cells #[.int .i64 3, .int .i64 0, .int .i64 0, .slice (some ⟨w.heap.size, 0, none⟩) 1 1, .slice none 0 0] 38) = w2 := ⟨_, rfl⟩
 have hx1 : Ex w w1 := by rw [← hw1]; exact (Below.refl _ _).alloc (Nat.le_refl _) _
 have hx2 : Ex w1 w2 := by rw [← hw2]; exact (Below.refl _ _).alloc (Nat.le_refl _) _
 have hs1 : w1.heap.size = w.heap.size + 1 := by rw [← hw1]; simp
 have hs2 : w2.heap.size = w.heap.size + 1 + 1 := by rw [← hw2]; simp [hs1]
 have hW2 : w2.alloc (pb kV) = W := by rw [← hW, ← hw2, ← hw1]; rfl
 have hx3 : Ex w2 W := by rw [← hW2]; exact (Below.refl _ _).alloc (Nat.le_refl _) _
 have HXW : Hid (Ex w W) := (hx1.trans (hx2.trans hx3) : Ex w W)
 have HP : Hid (PAt W (w.heap.size + 1 + 1) kV) := (by rw [← hW2, ← hs2]; exact PAt.new w2 kV : PAt W (w.heap.size + 1 + 1) kV)
 have HT : Hid (TAt W (w.heap.size + 1) (kT w) 38) := (by
  refine TAt.below ?_ hx3
  rw [← hw2, ← hs1]
  exact TAt.new w1 (kT w) 38 : TAt W (w.heap.size + 1) (kT w) 38)
 have HS : Hid (StOk W (kT w) kS) := (by
  have h : RdZ w1 (some ⟨w.heap.size, 0, none⟩) 1 kS.zs := by
   rw [← hw1]; exact RdW.laid (t := 28) zcc_len w [([120], ⟨1, 3, 0, 5, 9, [], []⟩)] (by simp)
  exact ⟨⟨rfl, rfl, rfl⟩, ⟨rfl, h.below (hx2.trans hx3)⟩, rfl, RdF.nil _⟩ : StOk W (kT w) kS)
 have HW : Hid (((w.alloc (.cells #[.string { data := #[120] }, .int .i64 1, .int .i64 3, .int .i64 0, .int .i64 5, .int .i64 9, .string { data := #[] }, .string { data := #[] }] 28)).alloc (.cells #[.int .i64 3, .int .i64 0, .int .i64 0, .slice (some ⟨w.heap.size, 0, none⟩) 1 1, .slice none 0 0] 38)).alloc (.cells #[.int .i64 4, .string { data := #[120] }, .int .i64 5, .int .i64 0, .string { data := #[] }, .slice none 0 0, .slice none 0 0] 40) = W) := hW
 clear hx1 hx2 hx3 hs1 hs2 hW2 hw1 hw2 hW
 go_enter Try.func14, Try.ntmps14
 go_wp2_with fail
 rw [HW.out]
 have hre := Ex.refl
 refine Rg.wp_rows [.inl (pvv kV), .inl (tvv (kT w)), .inl (.int .i64 1), .inl (.bool true), .inl (.bool true), .inl (pvv kV), .inl (tvv (kT w)), .inl (.int .i64 2), .inl (.bool true), .inl (.bool true), .inl (.bool true), .inr (Pd.IsP (fun _ => True) (Pr.mk' (Pd.hk 1) [])), .inl (tvv (kT w)), .inl (.int .i64 3), .inl (.bool true), .inl (.bool true), .inl (.bool true)] (Ex W) Ex 24 (by kernel_rfl) rfl (by kernel_rfl) ?st hre (Ex.drew _) ?goods ?fin
 case st => exact ⟨Pd.IsP.stands _ _, trivial⟩
 case goods =>
  refine Rg.goods_cons (Rg.good_load hre rfl rfl rfl (fun wx hC => (HP.out.below hC).loadI)) ?_
  refine Rg.goods_cons (Rg.good_load hre rfl rfl rfl (fun wx hC => loadI_stats38 (HT.out.below hC))) ?_
  refine Rg.goods_cons (Rg.good_call3 Try.func10 (by kernel_rfl) rfl rfl rfl (by rintro v0 v1 v2 wx hC rfl rfl rfl; exact ex_rowP (pJudge_is kS kfine _ kP_fine _ _ _ wx (kP_lay wx) (HS.out.below hC) 1 k_one) hC)) ?_
  refine Rg.goods_cons (Rg.good_bin hre rfl rfl rfl rfl (fun _ => rfl) (fun w => by go_simp)) ?_
  refine Rg.goods_cons (Rg.good_move hre rfl rfl rfl) ?_
  refine Rg.goods_cons (Rg.good_load hre rfl rfl rfl (fun wx hC => (HP.out.below hC).loadI)) ?_
  refine Rg.goods_cons (Rg.good_load hre rfl rfl rfl (fun wx hC => loadI_stats38 (HT.out.below hC))) ?_
  refine Rg.goods_cons (Rg.good_call3 Try.func10 (by kernel_rfl) rfl rfl rfl (by rintro v0 v1 v2 wx hC rfl rfl rfl; exact ex_rowP (pJudge_is kS kfine _ kP_fine _ _ _ wx (kP_lay wx) (HS.out.below hC) 2 k_two) hC)) ?_
  refine Rg.goods_cons (Rg.good_bin hre rfl rfl rfl rfl (fun _ => rfl) (fun w => by go_simp)) ?_
  refine Rg.goods_cons (Rg.good_pick true hre rfl rfl rfl rfl) ?_
  refine Rg.goods_cons (Rg.good_move hre rfl rfl rfl) ?_
  refine Rg.goods_cons (Rg.good_call0 Try.func13 (by kernel_rfl) rfl rfl rfl (by intro wx hC; refine (every_is wx).mono ?_; rintro e w' ⟨u, rfl, hu, hx⟩; exact ⟨_, rfl, ⟨u, rfl, Pd.Lay.mono (fun _ _ => trivial) _ hu⟩, hx, hC.trans hx⟩)) ?_
  refine Rg.goods_cons (Rg.good_load hre rfl rfl rfl (fun wx hC => loadI_stats38 (HT.out.below hC))) ?_
  refine Rg.goods_cons (Rg.good_call3 Try.func10 (by kernel_rfl) rfl rfl rfl (by rintro v0 v1 v2 wx hC ⟨u, rfl, hu⟩ rfl rfl; exact ex_rowP (pJudge_is kS kfine _ kA_fine _ _ _ wx hu (HS.out.below hC) 3 k_three) hC)) ?_
  refine Rg.goods_cons (Rg.good_bin hre rfl rfl rfl rfl (fun _ => rfl) (fun w => by go_simp)) ?_
  refine Rg.goods_cons (Rg.good_pick true hre rfl rfl rfl rfl) ?_
  refine Rg.goods_cons (Rg.good_assign hre rfl rfl rfl) ?_
  exact Rg.goods_nil
 case fin =>
  intro wx hx
  simp only [Rg.later, Act.put, List.setIfInBounds_toArray, List.set_cons_succ, List.set_cons_zero]
  intro vin hin
  have HX9 : Hid (Ex w wx) := (HXW.out.trans hx : Ex w wx)
  clear hx hin
  go_wp2_with fail
  go_ret
  exact ⟨rfl, HX9.out⟩
end Go.Proofs.Ytibnhjfeepdddaa
