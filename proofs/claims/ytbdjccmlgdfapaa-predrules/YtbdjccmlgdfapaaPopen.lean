/-
  Predicates as they come in.
-/
import Derived.Test.YtbdjccmlgdfapaaKcut
import Derived.Test.YtbdjccmlgdfapaaRopen1
namespace Go.Proofs.Ytbdjccmlgdfapaa
open Go.RowKit Go.Deep Go.WideShapes Go.ChangeShapes
set_option linter.unusedVariables false
section
variable {H : Type} {enc : TypeId × Value → H} {w : World} {base : Nat} {held : Bool} {spare : Nat → Bool}
/-- A slice of texts. -/
theorem open_texts {fuel : Nat} {cs : List Value} {x : DataW H × List MemPlace} (h : DataW.trod enc Try.prog w base spare held fuel 22 cs = some x) :
    ∃ (a : Option Addr) (cap : Nat) (l : List (List UInt8)), cs = [.slice a l.length cap] ∧ Rd st w a cap l ∧ ∀ s ∈ l, s.length ≤ maxLen := by
  rcases open_slice1 Try.underlying22 (by kernel_rfl) h with ⟨h0, _⟩ | ⟨a, len, cap, m, n, V, D, Pl, rfl, hb, hl, hm, hmm, rfl, hx⟩
  · exact ⟨none, 0, [], h0, Rd.nil w, by simp⟩
  have hlm : len ≤ m := by rw [hmm]; split <;> omega
  have each : ∀ i, i < len → ∃ s : List UInt8, w.cell? (a.add i) = some (.string (str s)) ∧ s.length ≤ maxLen := by
    intro i hi
    obtain ⟨h1, h2⟩ := hx i (by omega)
    obtain ⟨s0, e0, _, m0⟩ := DataW.trod_string Try.underlying9 h2
    simp at e0
    obtain ⟨t0, rfl⟩ := str_of s0
    exact ⟨t0, by rw [h1, e0], str_len m0⟩
  obtain ⟨l, hll, hql⟩ := choose_list each
  refine ⟨some a, cap, l, by rw [hll], ⟨by omega, hm, by simp, fun i p hp => ?_⟩, fun p hp => ?_⟩
  · obtain ⟨h1, _⟩ := hql i p hp
    obtain ⟨b, off, spot⟩ := a
    have hspot : spot = none := by
      have hl0 : 0 < l.length := by
        cases l with
        | nil => simp at hp
        | cons _ _ => simp
      obtain ⟨h3, _⟩ := hql 0 _ (List.getElem?_eq_getElem hl0)
      have := World.cell?_spot h3
      simpa [Addr.add] using this
    subst hspot
    refine ⟨b, off, rfl, ?_⟩
    rw [add_none] at h1
    exact h1
  · obtain ⟨i, hi⟩ := List.getElem?_of_mem hp
    exact (hql i p hi).2
set_option maxRecDepth 100000 in
/-- Seven places that read as a predicate. -/
theorem open_pred7 : ∀ (fuel : Nat) (cs : List Value) (x : DataW H × List MemPlace), DataW.trod enc Try.prog w base spare held fuel 25 cs = some x →
    ∃ (v : PV) (p : Pr), cs = pc v ∧ Pd.Lay (fun _ => True) p w v ∧ Pd.Raw p := by
  intro fuel
  induction fuel using Nat.strongRecOn with
  | _ fuel ih =>
    intro cs x h
    obtain ⟨xs, n, hn, _, hlen, hl, hf⟩ := DataW.trod_struct Try.underlying25 h
    rw [show Try.prog.cellsOf 25 = 7 from by kernel_rfl] at hlen
    match xs, hl, cs, hlen with
    | [y0, y1, y2, y3, y4, y5, y6], _, [v0, v1, v2, v3, v4, v5, v6], _ =>
      have c9 : Try.prog.cellsOf 9 = 1 := by kernel_rfl
      have c3 : Try.prog.cellsOf 3 = 1 := by kernel_rfl
      have c2 : Try.prog.cellsOf 2 = 1 := by kernel_rfl
      have c22 : Try.prog.cellsOf 22 = 1 := by kernel_rfl
      have c23 : Try.prog.cellsOf 23 = 1 := by kernel_rfl
      have g0 := hf 0 _ rfl
      have g1 := hf 1 _ rfl
      have g2 := hf 2 _ rfl
      have g3 := hf 3 _ rfl
      have g4 := hf 4 _ rfl
      have g5 := hf 5 _ rfl
      have g6 := hf 6 _ rfl
      simp [c9, c3, c2, c22, c23] at g0 g1 g2 g3 g4 g5 g6
      obtain ⟨a0, e0, _, m0⟩ := DataW.trod_int Try.underlying3 g0
      obtain ⟨s1, e1, _, m1⟩ := DataW.trod_string Try.underlying9 g1
      obtain ⟨a2, e2, _, m2⟩ := DataW.trod_int Try.underlying2 g2
      obtain ⟨a3, e3, _, m3⟩ := DataW.trod_int Try.underlying2 g3
      obtain ⟨s4, e4, _, m4⟩ := DataW.trod_string Try.underlying9 g4
      obtain ⟨sa, sc, set, e5, hR, hset⟩ := open_texts g5
      simp at e0 e1 e2 e3 e4 e5
      obtain ⟨t1, rfl⟩ := str_of s1
      obtain ⟨t4, rfl⟩ := str_of s4
      subst e0 e1 e2 e3 e4 e5
      have hraw : HdRaw ⟨a0, t1, a2, a3, t4, set⟩ := ⟨wf64 m0, wf64 m2, wf64 m3, str_len m1, str_len m4, hset⟩
      have key : ∃ (ka : Option Addr) (kc : Nat) (vs : List PV) (l : List Pr), v6 = .slice ka l.length kc ∧ RdW 7 pc w ka kc vs ∧ Pd.Lays (fun _ => True) w vs l ∧ ∀ q ∈ l, Pd.Raw q := by
        rcases DataW.trod_slice Try.underlying23 g6 with ⟨h0, _⟩ | ⟨a, len, cap, elems, rest, n', hn', h0, _, hb, hlc, hcm, hel, hall, _, _⟩
        · simp at h0
          exact ⟨none, 0, [], [], h0, RdW.nil w, Pd.Lays.nil _ _, by simp⟩
        · simp at h0
          rw [show Try.prog.cellsOf 25 = 7 from by kernel_rfl] at hall
          have each : ∀ i, i < len → ∃ vq : PV × Pr, (∀ j u, (pc vq.1)[j]? = some u → w.cell? (a.add (i * 7 + j)) = some u) ∧ Pd.Lay (fun _ => True) vq.2 w vq.1 ∧ Pd.Raw vq.2 := by
            intro i hi
            have h1 := hall i hi
            rw [List.getElem?_eq_getElem (by omega)] at h1
            obtain ⟨cs', hc, ht⟩ := Option.bind_eq_some_iff.1 h1
            obtain ⟨_, hlen', hcell⟩ := World.cells?_some hc
            obtain ⟨v, q, rfl, hL, hq⟩ := ih n' (by omega) cs' _ ht
            refine ⟨(v, q), fun j u hu => ?_, hL, hq⟩
            have hj : j < 7 := (List.getElem?_eq_some_iff.1 hu).1
            have e := hcell j (by omega)
            rw [add_add] at e
            rw [e]; exact hu
          obtain ⟨l, hll, hql⟩ := choose_list each
          refine ⟨some a, cap, l.map (·.1), l.map (·.2), by rw [List.length_map, hll]; exact h0, ⟨by rw [List.length_map]; omega, hcm, by simp, fun i p hp => ?_⟩, ⟨by simp, fun i v r hv hr => ?_⟩, fun r hr => ?_⟩
          · rw [List.getElem?_map] at hp
            obtain ⟨y, hy, rfl⟩ := Option.map_eq_some_iff.1 hp
            obtain ⟨h1, _⟩ := hql i y hy
            obtain ⟨b, off, spot⟩ := a
            have hspot : spot = none := by
              have hl0 : 0 < l.length := by
                cases l with
                | nil => simp at hy
                | cons _ _ => simp
              obtain ⟨h3, _⟩ := hql 0 _ (List.getElem?_eq_getElem hl0)
              have := World.cell?_spot (h3 0 _ rfl)
              simpa [Addr.add] using this
            subst hspot
            refine ⟨b, off, rfl, fun j u hu => ?_⟩
            have := h1 j u hu
            rw [add_none, ← Nat.add_assoc] at this
            exact this
          · rw [List.getElem?_map] at hv hr
            obtain ⟨y, hy, rfl⟩ := Option.map_eq_some_iff.1 hv
            rw [hy] at hr
            simp at hr
            subst hr
            exact (hql i y hy).2.1
          · obtain ⟨y, hy, rfl⟩ := List.mem_map.1 hr
            obtain ⟨i, hi⟩ := List.getElem?_of_mem hy
            exact (hql i y hi).2.2
      obtain ⟨ka, kc, vs, l, rfl, hRk, hLk, hrk⟩ := key
      refine ⟨⟨a0, t1, a2, a3, t4, (sa, set.length, sc), ka, l.length, kc⟩, Pr.mk' ⟨a0, t1, a2, a3, t4, set⟩ l, rfl, ?_, ?_⟩
      · rw [Pd.lay_mk]
        exact ⟨⟨⟨rfl, rfl, rfl, rfl, rfl⟩, rfl, hR, fun _ _ _ _ => trivial⟩, rfl, fun _ _ _ _ => trivial, vs, hRk, hLk⟩
      · rw [Pd.raw_mk]
        exact ⟨hraw, hrk⟩
end
theorem array7 {α : Type} {a : Array α} (h : a.size = 7) : ∃ b c d e f g i, a = #[b, c, d, e, f, g, i] := by
  obtain ⟨l⟩ := a
  match l, h with
  | [b, c, d, e, f, g, i], _ => exact ⟨b, c, d, e, f, g, i, rfl⟩
set_option maxRecDepth 100000 in
theorem open_pred {H : Type} {enc : TypeId × Value → H} {w : World} {r : Reach} {b0 : Nat} {v : Value} {d : DataW H} {p : List MemPlace} (hv : Value.okWide Try.prog w r b0 25 v) (h : DataW.Trod enc Try.prog w 0 (fun _ => true) true 25 v d p) :
    ∃ (u : PV) (x : Pr), v = pvv u ∧ Pd.Lay (fun _ => True) x w u ∧ Pd.Raw x := by
  obtain ⟨cs, rfl, hs⟩ := okWide_struct Try.underlying25 hv
  rw [show Try.prog.cellsOf 25 = 7 from by kernel_rfl] at hs
  obtain ⟨c0, c1, c2, c3, c4, c5, c6, rfl⟩ := array7 hs
  obtain ⟨fuel, hf⟩ := h
  have hf' : DataW.trod enc Try.prog w 0 (fun _ => true) true fuel 25 [c0, c1, c2, c3, c4, c5, c6] = some (d, p) := hf
  obtain ⟨u, x, hu, h1, h2⟩ := open_pred7 _ _ _ hf'
  refine ⟨u, x, ?_, h1, h2⟩
  simp only [pc, List.cons.injEq, and_true] at hu
  obtain ⟨rfl, rfl, rfl, rfl, rfl, rfl, rfl⟩ := hu
  rfl
end Go.Proofs.Ytbdjccmlgdfapaa
