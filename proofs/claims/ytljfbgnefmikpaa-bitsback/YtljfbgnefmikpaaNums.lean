/-
  A slice that reads as a list, element by element, whatever its elements are: numbers of 64 bits above all.
-/
import Derived.Test.YtljfbgnefmikpaaBytes
import Derived.Test.YtljfbgnefmikpaaPack
namespace Go.Proofs.Ytljfbgnefmikpaa
open Go.RowKit
set_option linter.unusedVariables false

/-- A slice reads as the list l. -/
def Rd {α : Type} (enc : α → Value) (w : World) (a : Option Addr) (cap : Nat) (l : List α) : Prop :=
  l.length ≤ cap ∧ cap ≤ maxLen ∧ (a = none → cap = 0) ∧ ∀ i x, l[i]? = some x → ∃ b off, a = some ⟨b, off, none⟩ ∧ w.cell? ⟨b, off + i, none⟩ = some (enc x)
abbrev n64 : Nat → Value := fun n => .int .u64 (n : Int)

section
variable {α : Type} {enc : α → Value}
theorem Rd.below {w w' : World} {a : Option Addr} {cap : Nat} {l : List α} (h : Rd enc w a cap l) (hb : Below w.heap.size w w') : Rd enc w' a cap l := by
  obtain ⟨h1, h2, h3, h4⟩ := h
  refine ⟨h1, h2, h3, fun i x hi => ?_⟩
  obtain ⟨b, off, rfl, hc⟩ := h4 i x hi
  refine ⟨b, off, rfl, ?_⟩
  rw [hb.cell (p := ⟨b, off + i, none⟩) (World.block_lt_of_cell? w _ hc)]
  exact hc
theorem Rd.belowB {B : Nat} {w w0 w' : World} {a : Option Addr} {cap : Nat} {l : List α} (h : Rd enc w a cap l) (hb : Below w.heap.size w w') : Rd enc w' a cap l := h.below hb
theorem Rd.nil (w : World) : Rd enc w none 0 [] := ⟨by simp, by simp [maxLen], fun _ => rfl, fun i x hi => by simp at hi⟩
theorem Rd.empty {w : World} {a : Option Addr} {cap : Nat} {l : List α} (h : Rd enc w a cap l) : Rd enc w a cap [] := ⟨by simp, h.2.1, h.2.2.1, fun i x hi => by simp at hi⟩
theorem Rd.take {w : World} {a : Option Addr} {cap : Nat} {l : List α} (h : Rd enc w a cap l) (k : Nat) : Rd enc w a cap (l.take k) := by
  obtain ⟨h1, h2, h3, h4⟩ := h
  refine ⟨by simp; omega, h2, h3, fun i x hi => ?_⟩
  rw [List.getElem?_take] at hi
  split at hi
  · exact h4 i x hi
  · cases hi
theorem Rd.at {w : World} {a : Option Addr} {cap : Nat} {l : List α} (h : Rd enc w a cap l) {k : Nat} (hk : k < l.length) : ∃ b off, a = some ⟨b, off, none⟩ ∧ w.cell? ⟨b, off + k, none⟩ = some (enc l[k]) :=
  h.2.2.2 k _ (List.getElem?_eq_getElem hk)
/-- A row in a block of its own. -/
def RowAt (enc : α → Value) (e : TypeId) (w : World) (g : Nat) (l : List α) : Prop := w.heap[g]? = some (.cells (l.map enc).toArray e (0, 0))
theorem RowAt.cell {e : TypeId} {w : World} {g k : Nat} {l : List α} (h : RowAt enc e w g l) (hk : k < l.length) : w.cell? ⟨g, k, none⟩ = some (enc l[k]) := by
  rw [cell_of_row w g k _ e (0, 0) h]
  simp [hk]
theorem RowAt.frozen {e : TypeId} {w : World} {g : Nat} (k : Nat) {l : List α} (h : RowAt enc e w g l) : w.frozen? ⟨g, k, none⟩ = false := frozen_of_row _ _ _ _ _ h
theorem RowAt.set {e : TypeId} {w : World} {g k : Nat} {l : List α} {v : Value} (h : RowAt enc e w g l) (x : α) (hv : v = enc x) : RowAt enc e (w.setCell ⟨g, k, none⟩ v) g (l.set k x) := by
  subst hv
  unfold RowAt
  rw [heap_setCell_same w g k _ e _ h, List.setIfInBounds_toArray, List.map_set]
theorem RowAt.other {e : TypeId} {w : World} {g q k : Nat} {l : List α} {v : Value} (h : RowAt enc e w g l) (hne : g ≠ q) : RowAt enc e (w.setCell ⟨q, k, none⟩ v) g l := by
  unfold RowAt
  rw [heap_setCell_other w _ g v (by simpa using hne)]; exact h
theorem RowAt.lt {e : TypeId} {w : World} {g : Nat} {l : List α} (h : RowAt enc e w g l) : g < w.heap.size := (Array.getElem?_eq_some_iff.1 h).1
theorem RowAt.below {e : TypeId} {w w' : World} {g : Nat} {l : List α} (h : RowAt enc e w g l) (hb : Below w.heap.size w w') : RowAt enc e w' g l := by
  unfold RowAt; rw [hb.block g h.lt]; exact h
theorem RowAt.rd {e : TypeId} {w : World} {g n : Nat} {l : List α} (h : RowAt enc e w g l) (hn : n = l.length) (hm : n ≤ 140737488355328) : Rd enc w (some ⟨g, 0, none⟩) n l := by
  refine ⟨by omega, by unfold maxLen; omega, by simp, fun i x hi => ⟨g, 0, rfl, ?_⟩⟩
  obtain ⟨hl, rfl⟩ := List.getElem?_eq_some_iff.1 hi
  rw [Nat.zero_add]
  exact h.cell hl
end
theorem RowAt.byt {e : TypeId} {w : World} {g n : Nat} {l : List UInt8} (h : RowAt (fun b : UInt8 => .int .u8 (b.toNat : Int)) e w g l) (hn : n = l.length) (hm : n ≤ 140737488355328) : Byt w (some ⟨g, 0, none⟩) n l := by
  refine ⟨by omega, by unfold maxLen; omega, by simp, fun i hi => ⟨g, 0, rfl, ?_⟩⟩
  rw [Nat.zero_add, h.cell hi]
  simp [M.bAt, hi]
theorem made_row (z : Value) (hz : z.cells = #[z]) (m : Nat) : (madeCells z.cells m).toList = List.replicate m z := by
  rw [hz]
  unfold madeCells
  rw [Array.toList_map]
  apply List.ext_getElem
  · simp
  · intro i h1 h2
    simp
    rw [Nat.mod_one]
    rfl
/-- 'make([]T, m)', of elements that are one cell each. -/
theorem wpList_make_row {α : Type} {enc : α → Value} {w : World} {ops : Array Oper} {rest : List Oper} {o : Oper} {a : Act} {Q : Exit → Act → World → Prop}
    (hg : o.guard = none) (l c : Operand) (t e : TypeId) (hop : o.op = Op.makeSlice t l c) (z : α) (B : Nat) (ht : Try.prog.underlying t = some (.slice e)) (hz : (enc z).cells = #[enc z]) (hinfo : (Try.prog.info? e).map (fun i => (i.zero, i.size, i.bytes)) = some (some (enc z), 1, B))
    (L C : Int) (m : Nat) (hl : a.eval l = .int .i64 L) (hc : a.eval c = .int .i64 C) (hL : L = (m : Int)) (hC : C = (m : Int)) (b2 : B * m ≤ 281474976710656) (b3 : m ≤ 281474976710656)
    (hK : ∀ (w' : World), RowAt enc e w' w.heap.size (List.replicate m z) → Below w.heap.size w w' → wpList Try.prog ops Q rest (a.put o.dst (.slice (some ⟨w.heap.size, 0, none⟩) m m)) w') :
    wpList Try.prog ops Q (o :: rest) a w := by
  obtain ⟨i0, hi, hz0, hz1, hz2⟩ := info_parts hinfo
  have hbm : (B : Int) * (m : Int) ≤ 281474976710656 := by
    have h : ((B * m : Nat) : Int) ≤ 281474976710656 := by omega
    rwa [Int.natCast_mul] at h
  refine wpList_plain hg fun K hK' => ?_
  subst hL
  subst hC
  have hrun := run_make (P := Try.prog) w t e i0 (enc z) ht hi hz0 .i64 .i64 (m : Int) (m : Int) (by omega) (by omega) (by rw [hz2]; exact hbm) (by omega)
  simp only [Int.toNat_natCast] at hrun
  unfold Oper.wp
  simp [execOp, hop, hl, hc, hrun, Result.andThen]
  refine hK' _ _ (hK _ ?_ ((Below.refl _ _).alloc (Nat.le_refl _) _))
  unfold RowAt
  rw [hz1, heap_alloc_new, Nat.mul_one, List.map_replicate, ← made_row _ hz m]
theorem Try.info26 : (Try.prog.info? 26).map (fun i => (i.zero, i.size, i.bytes)) = some (some (.int .u64 0), 1, 8) := by kernel_rfl
/-- The elements of a row of numbers that came in. -/
def rowNats (zs : List Int) (n : Nat) : List Nat := (zs.take n).map Int.toNat
theorem rowNats_len {zs : List Int} {n cap : Nat} (hl : n ≤ cap) (hz : zs.length = cap) : (rowNats zs n).length = n := by simp [rowNats]; omega
theorem rd_row {w : World} {x : Addr} {n cap : Nat} {zs : List Int} (hl : n ≤ cap) (hm : cap ≤ maxLen) (hz : zs.length = cap)
    (hcell : ∀ i, i < zs.length → w.cell? (x.add i) = some (.int .u64 (zs.getD i 0))) (hwz : ∀ z ∈ zs, (Lit.int .u64 z).wf = true) : Rd n64 w (some x) cap (rowNats zs n) := by
  have hlen := rowNats_len hl hz
  refine ⟨by omega, hm, by simp, fun i y hi => ?_⟩
  obtain ⟨hil, hy⟩ := List.getElem?_eq_some_iff.1 hi
  rw [hlen] at hil
  have hc := hcell i (by omega)
  obtain ⟨b, off, spot⟩ := x
  have hspot : spot = none := by
    have := World.cell?_spot (hcell 0 (by omega))
    simpa [Addr.add] using this
  subst hspot
  rw [add_none] at hc
  refine ⟨b, off, rfl, ?_⟩
  rw [hc]
  have hi' : i < zs.length := by omega
  have hwf := hwz zs[i] (List.getElem_mem hi')
  have h1 : IntKind.u64.min = 0 := rfl
  simp only [Lit.wf, Bool.and_eq_true, decide_eq_true_eq] at hwf
  have e : (y : Int) = zs[i] := by
    rw [← hy]
    simp only [rowNats, List.getElem_map, List.getElem_take]
    omega
  show some (Value.int IntKind.u64 (zs.getD i 0)) = some (.int .u64 (y : Int))
  rw [e]
  simp [hi']
theorem rowNats_lt {n : Nat} {zs : List Int} (hwz : ∀ z ∈ zs, (Lit.int .u64 z).wf = true) : ∀ y ∈ rowNats zs n, y < 18446744073709551616 := by
  intro y hy
  simp only [rowNats, List.mem_map] at hy
  obtain ⟨z, hz, rfl⟩ := hy
  have hwf := hwz z (List.mem_of_mem_take hz)
  have h1 : IntKind.u64.min = 0 := rfl
  have h2 : IntKind.u64.max = 18446744073709551615 := rfl
  simp only [Lit.wf, Bool.and_eq_true, decide_eq_true_eq] at hwf
  omega
end Go.Proofs.Ytljfbgnefmikpaa
