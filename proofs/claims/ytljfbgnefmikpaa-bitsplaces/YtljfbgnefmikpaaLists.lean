/-
  Rows that a call owns, whatever their elements are (one cell each): appended to, written, read.
-/
import Derived.Test.YtljfbgnefmikpaaKnown
namespace Go.Proofs.Ytljfbgnefmikpaa
open Go.RowKit
set_option linter.unusedVariables false

section
variable {α : Type} {enc : α → Value} {e : TypeId}
/-- A slice value owns the list l. -/
def OwnR (e : TypeId) (enc : α → Value) (w : World) (base : Nat) (v : Value) (l : List α) : Prop := w.ownsRow base e 1 v l.length (l.map enc)
theorem OwnR.rd {w : World} {base : Nat} {v : Value} {l : List α} (h : OwnR e enc w base v l) : ∃ a cap, v = .slice a l.length cap ∧ Rd enc w a cap l := by
  obtain ⟨h1, h2⟩ := h
  rcases h2 with ⟨rfl, h0⟩ | ⟨g, cap, cur, rfl, hb, hg, hlc, hcm, hsz, htake⟩
  · refine ⟨none, 0, by rw [h0], by omega, by simp [maxLen], fun _ => rfl, fun i x hi => ?_⟩
    have := (List.getElem?_eq_some_iff.1 hi).1
    omega
  · refine ⟨some ⟨g, 0, none⟩, cap, rfl, hlc, hcm, by simp, fun i x hi => ⟨g, 0, rfl, ?_⟩⟩
    have hc := World.ownsRow.cells (w := w) (base := base) (e := e) (size := 1) (v := .slice (some ⟨g, 0, none⟩) l.length cap) (n := l.length) (xs := l.map enc)
      ⟨h1, .inr ⟨g, cap, cur, rfl, hb, hg, hlc, hcm, hsz, htake⟩⟩ (g := g) rfl i (enc x) (by simp [hi])
    rw [add_none] at hc
    exact hc
theorem OwnR.later {w w' : World} {base : Nat} {v : Value} {l : List α} (h : OwnR e enc w base v l) (hx : Ex w w') : OwnR e enc w' base v l := by
  obtain ⟨h1, h2⟩ := h
  refine ⟨h1, ?_⟩
  rcases h2 with h2 | ⟨g, cap, cur, hv, hb, hg, r⟩
  · exact .inl h2
  · exact .inr ⟨g, cap, cur, hv, hb, by rw [hx.block g (Array.getElem?_eq_some_iff.1 hg).1]; exact hg, r⟩
theorem OwnR.alloc {w : World} {base : Nat} {v : Value} {l : List α} (h : OwnR e enc w base v l) (o : Obj) : OwnR e enc (w.alloc o) base v l := World.ownsRow.alloc h o
theorem OwnR.empty (w : World) (base : Nat) (hb : base ≤ w.heap.size) : OwnR e enc (w.alloc (.cells #[] e)) base (.slice (some ⟨w.heap.size, 0, none⟩) 0 0) [] :=
  World.ownsRow_made w #[] 0 hb (by simp [maxLen]) (by simp)
theorem OwnR.form {w : World} {base : Nat} {v : Value} {l : List α} (h : OwnR e enc w base v l) (hn : 0 < l.length) : ∃ g cap, v = .slice (some ⟨g, 0, none⟩) l.length cap ∧ base ≤ g ∧ g < w.heap.size ∧ l.length ≤ cap ∧ cap ≤ maxLen := by
  rcases h.2 with ⟨_, h0⟩ | ⟨g, cap, cur, hv, hb, hg, h1, h2, _⟩
  · omega
  · exact ⟨g, cap, hv, hb, (Array.getElem?_eq_some_iff.1 hg).1, h1, h2⟩
theorem OwnR.cell {w : World} {base g n cap k : Nat} {l : List α} (h : OwnR e enc w base (.slice (some ⟨g, 0, none⟩) n cap) l) (hn : n = l.length) (hk : k < l.length) : w.cell? ⟨g, k, none⟩ = some (enc l[k]) := by
  subst hn
  have h' : w.ownsRow base e 1 (.slice (some ⟨g, 0, none⟩) l.length cap) l.length (l.map enc) := h
  have hc := World.ownsRow.cells h' (g := g) rfl k (enc l[k]) (by simp [hk])
  rw [add_none, Nat.zero_add] at hc
  exact hc
theorem OwnR.frozen {w : World} {base g n cap : Nat} (k : Nat) {l : List α} (h : OwnR e enc w base (.slice (some ⟨g, 0, none⟩) n cap) l) (hn : n = l.length) : w.frozen? ⟨g, k, none⟩ = false := by
  subst hn
  exact World.ownsRow.frozenAt (show w.ownsRow base e 1 (.slice (some ⟨g, 0, none⟩) l.length cap) l.length (l.map enc) from h) k
theorem OwnR.set {w : World} {base g n cap k : Nat} {l : List α} {v : Value} (h : OwnR e enc w base (.slice (some ⟨g, 0, none⟩) n cap) l) (hn : n = l.length) (x : α) (hv : v = enc x) : OwnR e enc (w.setCell ⟨g, k, none⟩ v) base (.slice (some ⟨g, 0, none⟩) n cap) (l.set k x) := by
  subst hn; subst hv
  have h' := (World.ownsRow.stored (show w.ownsRow base e 1 (.slice (some ⟨g, 0, none⟩) l.length cap) l.length (l.map enc) from h) k (enc x)).1
  show World.ownsRow _ _ _ _ _ _ _
  rw [List.length_set, List.map_set]
  exact h'
theorem OwnR.rdS {w : World} {base n cap : Nat} {a : Option Addr} {l : List α} (h : OwnR e enc w base (.slice a n cap) l) : Rd enc w a cap l := by
  obtain ⟨a', cap', hv, hb⟩ := h.rd
  simp only [Value.slice.injEq] at hv
  obtain ⟨rfl, _, rfl⟩ := hv
  exact hb
theorem step_belowR {base : Nat} {w wr w1 : World} {v : Value} {l : List α} (hbel : Below base w wr) (hsz : base ≤ wr.heap.size) (hown : OwnR e enc wr base v l) (hg : wr.grownBy w1 v.ownBlock) : Below base w w1 :=
  hbel.grown hg hsz (fun k hk => (World.ownsRow.lt hown k hk).1)
/-- 'append(out, l...)', out the call's own, l whatever list that can be read, nil or not. -/
theorem wpList_append_rd {w : World} {ops : Array Oper} {rest : List Oper} {o : Oper} {a : Act} {Q : Exit → Act → World → Prop} (hgd : o.guard = none) (s x : Operand) (t : TypeId)
    (ho : o.op = .call { callee := .builtin .append, args := #[s, x], argTypes := #[t, t] }) (z : α) (by_ : Nat) (ht : Try.prog.underlying t = some (.slice e)) (hinfo : (Try.prog.info? e).map (fun i => (i.zero, i.size, i.bytes)) = some (some (enc z), 1, by_)) (hz : (enc z).cells.size = 1) (hone : ∀ x : α, (enc x).oneCell' = true) (base : Nat)
    (v : Value) (xs : List α) (hs : a.eval s = v) (hown : OwnR e enc w base v xs) (p : Option Addr) (n c : Nat) (l : List α) (hx : a.eval x = .slice p n c) (hn : n = l.length) (hB : Rd enc w p c l)
    (h63 : xs.length + l.length ≤ maxLen) (hby : (xs.length + l.length) * by_ ≤ 140737488355328) (hbase : base ≤ w.heap.size)
    (h : ∀ v' w', OwnR e enc w' base v' (xs ++ l) → w.grownBy w' v.ownBlock → wpList Try.prog ops Q rest (a.put o.dst v') w') : wpList Try.prog ops Q (o :: rest) a w := by
  subst hn
  obtain ⟨i0, hi, hz0, hz1, hz2⟩ := info_parts hinfo
  cases p with
  | none =>
    have hc := hB.2.2.1 rfl
    have hl : l = [] := List.eq_nil_of_length_eq_zero (by have := hB.1; omega)
    subst hl
    subst hc
    refine wpList_append_own_none hgd s x t ho base e i0 1 ht hi v xs.length (xs.map enc) hs hown hx ?_
    exact h v w (by simpa using hown) (World.grownBy.refl w _)
  | some ad =>
    refine wpList_append_own _ hgd s x t ho base e i0 (enc z) 1 by_ ht hi hz0 hz1 hz2 hz (by decide) v xs.length (xs.map enc) hs hown ad l.length c (l.map enc) hx (by simp) ?_ ?_ h63 hby hbase ?_
    · intro j u hu
      rw [List.getElem?_map] at hu
      obtain ⟨y, hy, rfl⟩ := Option.map_eq_some_iff.1 hu
      obtain ⟨b, off, hbo, hc⟩ := hB.2.2.2 j y hy
      simp at hbo
      subst hbo
      rw [add_none]
      exact hc
    · intro u hu
      obtain ⟨y, _, rfl⟩ := List.mem_map.1 hu
      exact hone y
    · intro v' w' ho' hg' _
      refine h v' w' ?_ hg'
      show World.ownsRow _ _ _ _ _ _ _
      rw [List.map_append, List.length_append]
      exact ho'
end
end Go.Proofs.Ytljfbgnefmikpaa
