/-
  Slices that read as lists, whatever their elements are (one cell each): read, made, owned, appended to, written. No function of the program here. Rows of whole numbers that come in: of 64 bits without and with a sign.
-/
import Derived.Test.YtnmonoafjijfhaaGreatM04
namespace Go.Proofs.YtnmonoafjijfhaaGreat
open Go.RowKit
set_option linter.unusedVariables false

/-- A slice reads as the list l. -/
def Rd {α : Type} (enc : α → Value) (w : World) (a : Option Addr) (cap : Nat) (l : List α) : Prop :=
  l.length ≤ cap ∧ cap ≤ maxLen ∧ (a = none → cap = 0) ∧ ∀ i x, l[i]? = some x → ∃ b off, a = some ⟨b, off, none⟩ ∧ w.cell? ⟨b, off + i, none⟩ = some (enc x)
section
variable {α : Type} {enc : α → Value}
theorem Rd.below {w w' : World} {a : Option Addr} {cap : Nat} {l : List α} (h : Rd enc w a cap l) (hb : Below w.heap.size w w') : Rd enc w' a cap l := by
  obtain ⟨h1, h2, h3, h4⟩ := h
  refine ⟨h1, h2, h3, fun i x hi => ?_⟩
  obtain ⟨b, off, rfl, hc⟩ := h4 i x hi
  refine ⟨b, off, rfl, ?_⟩
  rw [hb.cell (p := ⟨b, off + i, none⟩) (World.block_lt_of_cell? w _ hc)]
  exact hc
theorem Rd.nil (w : World) : Rd enc w none 0 [] := ⟨by simp, by simp [maxLen], fun _ => rfl, fun i x hi => by simp at hi⟩
theorem Rd.empty {w : World} {a : Option Addr} {cap : Nat} {l : List α} (h : Rd enc w a cap l) : Rd enc w a cap [] := ⟨by simp, h.2.1, h.2.2.1, fun i x hi => by simp at hi⟩
theorem Rd.take {w : World} {a : Option Addr} {cap : Nat} {l : List α} (h : Rd enc w a cap l) (k : Nat) : Rd enc w a cap (l.take k) := by
  obtain ⟨h1, h2, h3, h4⟩ := h
  refine ⟨by simp; omega, h2, h3, fun i x hi => ?_⟩
  rw [List.getElem?_take] at hi
  split at hi
  · exact h4 i x hi
  · cases hi
theorem Rd.at {w : World} {a : Option Addr} {cap : Nat} {l : List α} (h : Rd enc w a cap l) {k : Nat} (hk : k < l.length) : ∃ b off, a = some ⟨b, off, none⟩ ∧ w.cell? ⟨b, off + k, none⟩ = some (enc l[k]) :=
  h.2.2.2 k _ (List.getElem?_eq_getElem hk)
/-- A row in a block of its own. -/
def RowAt (enc : α → Value) (e : TypeId) (w : World) (g : Nat) (l : List α) : Prop := w.heap[g]? = some (.cells (l.map enc).toArray e (0, 0))
theorem RowAt.cell {e : TypeId} {w : World} {g k : Nat} {l : List α} (h : RowAt enc e w g l) (hk : k < l.length) : w.cell? ⟨g, k, none⟩ = some (enc l[k]) := by
  rw [cell_of_row w g k _ e (0, 0) h]
  simp [hk]
theorem RowAt.frozen {e : TypeId} {w : World} {g : Nat} (k : Nat) {l : List α} (h : RowAt enc e w g l) : w.frozen? ⟨g, k, none⟩ = false := frozen_of_row _ _ _ _ _ h
theorem RowAt.set {e : TypeId} {w : World} {g k : Nat} {l : List α} {v : Value} (h : RowAt enc e w g l) (x : α) (hv : v = enc x) : RowAt enc e (w.setCell ⟨g, k, none⟩ v) g (l.set k x) := by
  subst hv
  unfold RowAt
  rw [heap_setCell_same w g k _ e _ h, List.setIfInBounds_toArray, List.map_set]
theorem RowAt.other {e : TypeId} {w : World} {g q k : Nat} {l : List α} {v : Value} (h : RowAt enc e w g l) (hne : g ≠ q) : RowAt enc e (w.setCell ⟨q, k, none⟩ v) g l := by
  unfold RowAt
  rw [heap_setCell_other w _ g v (by simpa using hne)]; exact h
theorem RowAt.lt {e : TypeId} {w : World} {g : Nat} {l : List α} (h : RowAt enc e w g l) : g < w.heap.size := (Array.getElem?_eq_some_iff.1 h).1
theorem RowAt.below {e : TypeId} {w w' : World} {g : Nat} {l : List α} (h : RowAt enc e w g l) (hb : Below w.heap.size w w') : RowAt enc e w' g l := by
  unfold RowAt; rw [hb.block g h.lt]; exact h
theorem RowAt.rd {e : TypeId} {w : World} {g n : Nat} {l : List α} (h : RowAt enc e w g l) (hn : n = l.length) (hm : n ≤ 140737488355328) : Rd enc w (some ⟨g, 0, none⟩) n l := by
  refine ⟨by omega, by unfold maxLen; omega, by simp, fun i x hi => ⟨g, 0, rfl, ?_⟩⟩
  obtain ⟨hl, rfl⟩ := List.getElem?_eq_some_iff.1 hi
  rw [Nat.zero_add]
  exact h.cell hl
end
theorem RowAt.byt {e : TypeId} {w : World} {g n : Nat} {l : List UInt8} (h : RowAt (fun b : UInt8 => .int .u8 (b.toNat : Int)) e w g l) (hn : n = l.length) (hm : n ≤ 140737488355328) : Byt w (some ⟨g, 0, none⟩) n l := by
  refine ⟨by omega, by unfold maxLen; omega, by simp, fun i hi => ⟨g, 0, rfl, ?_⟩⟩
  rw [Nat.zero_add, h.cell hi]
  simp [M.bAt, hi]
theorem made_row (z : Value) (hz : z.cells = #[z]) (m : Nat) : (madeCells z.cells m).toList = List.replicate m z := by
  rw [hz]
  unfold madeCells
  rw [Array.toList_map]
  apply List.ext_getElem
  · simp
  · intro i h1 h2
    simp
    rw [Nat.mod_one]
    rfl
/-- 'make([]T, m)', of elements that are one cell each. -/
theorem wpList_make_row {α : Type} {enc : α → Value} {w : World} {ops : Array Oper} {rest : List Oper} {o : Oper} {a : Act} {Q : Exit → Act → World → Prop}
    (hg : o.guard = none) (l c : Operand) (t e : TypeId) (hop : o.op = Op.makeSlice t l c) (z : α) (B : Nat) (ht : Tryz.prog.underlying t = some (.slice e)) (hz : (enc z).cells = #[enc z]) (hinfo : (Tryz.prog.info? e).map (fun i => (i.zero, i.size, i.bytes)) = some (some (enc z), 1, B))
    (L C : Int) (m : Nat) (hl : a.eval l = .int .i64 L) (hc : a.eval c = .int .i64 C) (hL : L = (m : Int)) (hC : C = (m : Int)) (b2 : B * m ≤ 281474976710656) (b3 : m ≤ 281474976710656)
    (hK : ∀ (w' : World), RowAt enc e w' w.heap.size (List.replicate m z) → Below w.heap.size w w' → wpList Tryz.prog ops Q rest (a.put o.dst (.slice (some ⟨w.heap.size, 0, none⟩) m m)) w') :
    wpList Tryz.prog ops Q (o :: rest) a w := by
  obtain ⟨i0, hi, hz0, hz1, hz2⟩ := info_parts hinfo
  have hbm : (B : Int) * (m : Int) ≤ 281474976710656 := by
    have h : ((B * m : Nat) : Int) ≤ 281474976710656 := by omega
    rwa [Int.natCast_mul] at h
  refine wpList_plain hg fun K hK' => ?_
  subst hL
  subst hC
  have hrun := run_make (P := Tryz.prog) w t e i0 (enc z) ht hi hz0 .i64 .i64 (m : Int) (m : Int) (by omega) (by omega) (by rw [hz2]; exact hbm) (by omega)
  simp only [Int.toNat_natCast] at hrun
  unfold Oper.wp
  simp [execOp, hop, hl, hc, hrun, Result.andThen]
  refine hK' _ _ (hK _ ?_ ((Below.refl _ _).alloc (Nat.le_refl _) _))
  unfold RowAt
  rw [hz1, heap_alloc_new, Nat.mul_one, List.map_replicate, ← made_row _ hz m]
/-- A value is a slice that reads as the list l. -/
def IsRd {α : Type} (enc : α → Value) (l : List α) (v : Value) (w : World) : Prop := ∃ a cap, v = .slice a l.length cap ∧ Rd enc w a cap l
theorem IsRd.nil {α : Type} {enc : α → Value} (w : World) : IsRd enc [] (.slice none 0 0) w := ⟨none, 0, rfl, Rd.nil w⟩
theorem IsRd.stands {α : Type} {enc : α → Value} (l : List α) : ∀ v w w', IsRd enc l v w → Ex w w' → IsRd enc l v w' := by
  rintro v w w' ⟨a, cap, rfl, h⟩ hb
  exact ⟨a, cap, rfl, h.below hb⟩
/-- A list that is written out. -/
theorem Rd.laid {α : Type} {enc : α → Value} (w : World) (e : TypeId) (l : List α) (hl : l.length ≤ 1000) : Rd enc (w.alloc (.cells (l.map enc).toArray e)) (some ⟨w.heap.size, 0, none⟩) l.length l :=
  RowAt.rd (e := e) (heap_alloc_new w _) rfl (by omega)
section
variable {α : Type} {enc : α → Value} {e : TypeId}
/-- A slice value owns the list l. -/
def OwnR (e : TypeId) (enc : α → Value) (w : World) (base : Nat) (v : Value) (l : List α) : Prop := w.ownsRow base e 1 v l.length (l.map enc)
theorem OwnR.rd {w : World} {base : Nat} {v : Value} {l : List α} (h : OwnR e enc w base v l) : ∃ a cap, v = .slice a l.length cap ∧ Rd enc w a cap l := by
  obtain ⟨h1, h2⟩ := h
  rcases h2 with ⟨rfl, h0⟩ | ⟨g, cap, cur, rfl, hb, hg, hlc, hcm, hsz, htake⟩
  · refine ⟨none, 0, by rw [h0], by omega, by simp [maxLen], fun _ => rfl, fun i x hi => ?_⟩
    have := (List.getElem?_eq_some_iff.1 hi).1
    omega
  · refine ⟨some ⟨g, 0, none⟩, cap, rfl, hlc, hcm, by simp, fun i x hi => ⟨g, 0, rfl, ?_⟩⟩
    have hc := World.ownsRow.cells (w := w) (base := base) (e := e) (size := 1) (v := .slice (some ⟨g, 0, none⟩) l.length cap) (n := l.length) (xs := l.map enc)
      ⟨h1, .inr ⟨g, cap, cur, rfl, hb, hg, hlc, hcm, hsz, htake⟩⟩ (g := g) rfl i (enc x) (by simp [hi])
    rw [add_none] at hc
    exact hc
theorem OwnR.later {w w' : World} {base : Nat} {v : Value} {l : List α} (h : OwnR e enc w base v l) (hx : Ex w w') : OwnR e enc w' base v l := by
  obtain ⟨h1, h2⟩ := h
  refine ⟨h1, ?_⟩
  rcases h2 with h2 | ⟨g, cap, cur, hv, hb, hg, r⟩
  · exact .inl h2
  · exact .inr ⟨g, cap, cur, hv, hb, by rw [hx.block g (Array.getElem?_eq_some_iff.1 hg).1]; exact hg, r⟩
theorem OwnR.alloc {w : World} {base : Nat} {v : Value} {l : List α} (h : OwnR e enc w base v l) (o : Obj) : OwnR e enc (w.alloc o) base v l := World.ownsRow.alloc h o
theorem OwnR.empty (w : World) (base : Nat) (hb : base ≤ w.heap.size) : OwnR e enc (w.alloc (.cells #[] e)) base (.slice (some ⟨w.heap.size, 0, none⟩) 0 0) [] :=
  World.ownsRow_made w #[] 0 hb (by simp [maxLen]) (by simp)
theorem OwnR.form {w : World} {base : Nat} {v : Value} {l : List α} (h : OwnR e enc w base v l) (hn : 0 < l.length) : ∃ g cap, v = .slice (some ⟨g, 0, none⟩) l.length cap ∧ base ≤ g ∧ g < w.heap.size ∧ l.length ≤ cap ∧ cap ≤ maxLen := by
  rcases h.2 with ⟨_, h0⟩ | ⟨g, cap, cur, hv, hb, hg, h1, h2, _⟩
  · omega
  · exact ⟨g, cap, hv, hb, (Array.getElem?_eq_some_iff.1 hg).1, h1, h2⟩
theorem OwnR.cell {w : World} {base g n cap k : Nat} {l : List α} (h : OwnR e enc w base (.slice (some ⟨g, 0, none⟩) n cap) l) (hn : n = l.length) (hk : k < l.length) : w.cell? ⟨g, k, none⟩ = some (enc l[k]) := by
  subst hn
  have h' : w.ownsRow base e 1 (.slice (some ⟨g, 0, none⟩) l.length cap) l.length (l.map enc) := h
  have hc := World.ownsRow.cells h' (g := g) rfl k (enc l[k]) (by simp [hk])
  rw [add_none, Nat.zero_add] at hc
  exact hc
theorem OwnR.frozen {w : World} {base g n cap : Nat} (k : Nat) {l : List α} (h : OwnR e enc w base (.slice (some ⟨g, 0, none⟩) n cap) l) (hn : n = l.length) : w.frozen? ⟨g, k, none⟩ = false := by
  subst hn
  exact World.ownsRow.frozenAt (show w.ownsRow base e 1 (.slice (some ⟨g, 0, none⟩) l.length cap) l.length (l.map enc) from h) k
theorem OwnR.set {w : World} {base g n cap k : Nat} {l : List α} {v : Value} (h : OwnR e enc w base (.slice (some ⟨g, 0, none⟩) n cap) l) (hn : n = l.length) (x : α) (hv : v = enc x) : OwnR e enc (w.setCell ⟨g, k, none⟩ v) base (.slice (some ⟨g, 0, none⟩) n cap) (l.set k x) := by
  subst hn; subst hv
  have h' := (World.ownsRow.stored (show w.ownsRow base e 1 (.slice (some ⟨g, 0, none⟩) l.length cap) l.length (l.map enc) from h) k (enc x)).1
  show World.ownsRow _ _ _ _ _ _ _
  rw [List.length_set, List.map_set]
  exact h'
theorem OwnR.rdS {w : World} {base n cap : Nat} {a : Option Addr} {l : List α} (h : OwnR e enc w base (.slice a n cap) l) : Rd enc w a cap l := by
  obtain ⟨a', cap', hv, hb⟩ := h.rd
  simp only [Value.slice.injEq] at hv
  obtain ⟨rfl, _, rfl⟩ := hv
  exact hb
theorem step_belowR {base : Nat} {w wr w1 : World} {v : Value} {l : List α} (hbel : Below base w wr) (hsz : base ≤ wr.heap.size) (hown : OwnR e enc wr base v l) (hg : wr.grownBy w1 v.ownBlock) : Below base w w1 :=
  hbel.grown hg hsz (fun k hk => (World.ownsRow.lt hown k hk).1)
/-- 'append(out, l...)', out the call's own, l whatever list that can be read, nil or not. -/
theorem wpList_append_rd {w : World} {ops : Array Oper} {rest : List Oper} {o : Oper} {a : Act} {Q : Exit → Act → World → Prop} (hgd : o.guard = none) (s x : Operand) (t : TypeId)
    (ho : o.op = .call { callee := .builtin .append, args := #[s, x], argTypes := #[t, t] }) (z : α) (by_ : Nat) (ht : Tryz.prog.underlying t = some (.slice e)) (hinfo : (Tryz.prog.info? e).map (fun i => (i.zero, i.size, i.bytes)) = some (some (enc z), 1, by_)) (hz : (enc z).cells.size = 1) (hone : ∀ x : α, (enc x).oneCell' = true) (base : Nat)
    (v : Value) (xs : List α) (hs : a.eval s = v) (hown : OwnR e enc w base v xs) (p : Option Addr) (n c : Nat) (l : List α) (hx : a.eval x = .slice p n c) (hn : n = l.length) (hB : Rd enc w p c l)
    (h63 : xs.length + l.length ≤ maxLen) (hby : (xs.length + l.length) * by_ ≤ 140737488355328) (hbase : base ≤ w.heap.size)
    (h : ∀ v' w', OwnR e enc w' base v' (xs ++ l) → w.grownBy w' v.ownBlock → wpList Tryz.prog ops Q rest (a.put o.dst v') w') : wpList Tryz.prog ops Q (o :: rest) a w := by
  subst hn
  obtain ⟨i0, hi, hz0, hz1, hz2⟩ := info_parts hinfo
  cases p with
  | none =>
    have hc := hB.2.2.1 rfl
    have hl : l = [] := List.eq_nil_of_length_eq_zero (by have := hB.1; omega)
    subst hl
    subst hc
    refine wpList_append_own_none hgd s x t ho base e i0 1 ht hi v xs.length (xs.map enc) hs hown hx ?_
    exact h v w (by simpa using hown) (World.grownBy.refl w _)
  | some ad =>
    refine wpList_append_own _ hgd s x t ho base e i0 (enc z) 1 by_ ht hi hz0 hz1 hz2 hz (by decide) v xs.length (xs.map enc) hs hown ad l.length c (l.map enc) hx (by simp) ?_ ?_ h63 hby hbase ?_
    · intro j u hu
      rw [List.getElem?_map] at hu
      obtain ⟨y, hy, rfl⟩ := Option.map_eq_some_iff.1 hu
      obtain ⟨b, off, hbo, hc⟩ := hB.2.2.2 j y hy
      simp at hbo
      subst hbo
      rw [add_none]
      exact hc
    · intro u hu
      obtain ⟨y, _, rfl⟩ := List.mem_map.1 hu
      exact hone y
    · intro v' w' ho' hg' _
      refine h v' w' ?_ hg'
      show World.ownsRow _ _ _ _ _ _ _
      rw [List.map_append, List.length_append]
      exact ho'
end
end Go.Proofs.YtnmonoafjijfhaaGreat
namespace Go.Proofs.YtnmonoafjijfhaaGreat
open Go.RowKit
set_option linter.unusedVariables false

abbrev n64 : Nat → Value := fun n => .int .u64 (n : Int)
abbrev z64 : Int → Value := fun n => .int .i64 n
abbrev n8 : UInt8 → Value := fun b => .int .u8 (b.toNat : Int)
def In64 (n : Int) : Prop := -9223372036854775808 ≤ n ∧ n ≤ 9223372036854775807
theorem Tryz.info2 : (Tryz.prog.info? 2).map (fun i => (i.zero, i.size, i.bytes)) = some (some (.int .i64 0), 1, 8) := by kernel_rfl
theorem Tryz.info69 : (Tryz.prog.info? 69).map (fun i => (i.zero, i.size, i.bytes)) = some (some (.int .u64 0), 1, 8) := by kernel_rfl
end Go.Proofs.YtnmonoafjijfhaaGreat
