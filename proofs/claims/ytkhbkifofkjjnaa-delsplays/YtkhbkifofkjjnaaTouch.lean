/-
  What a call turned: the blocks of a thing that it was handed, and no other. No function of the program here.
-/
import Derived.Test.YtkhbkifofkjjnaaKinds
import Derived.Test.YtkhbkifofkjjnaaApart
namespace Go.Proofs.Ytkhbkifofkjjnaa
open Go.RowKit
set_option linter.unusedVariables false
abbrev bl : Bool → Value := fun b => .bool b
/-- Nothing but the blocks of fp has turned; there may be new ones. -/
structure Touch (fp : Nat → Prop) (w w' : World) : Prop where
  os : w'.os = w.os
  tape : w'.tape = w.tape
  output : w'.output = w.output
  size : w.heap.size ≤ w'.heap.size
  block : ∀ k, k < w.heap.size → ¬ fp k → w'.heap[k]? = w.heap[k]?
theorem Touch.of_ex {fp : Nat → Prop} {w w' : World} (h : Ex w w') : Touch fp w w' := ⟨h.os, h.tape, h.output, h.size, fun k hk _ => h.block k hk⟩
theorem Touch.refl (fp : Nat → Prop) (w : World) : Touch fp w w := ⟨rfl, rfl, rfl, Nat.le_refl _, fun _ _ _ => rfl⟩
theorem Touch.trans {fp fp' : Nat → Prop} {a b c : World} (h : Touch fp a b) (k : Touch fp' b c) (hf : ∀ j, fp' j → fp j ∨ a.heap.size ≤ j) : Touch fp a c :=
  ⟨k.os.trans h.os, k.tape.trans h.tape, k.output.trans h.output, Nat.le_trans h.size k.size, fun j hj hn => by
    rw [k.block j (Nat.lt_of_lt_of_le hj h.size) (fun hh => by rcases hf j hh with h1 | h1; exact hn h1; omega)]; exact h.block j hj hn⟩
theorem Touch.below {fp : Nat → Prop} {B : Nat} {w0 w w' : World} (hb : Below B w0 w) (hB : B ≤ w.heap.size) (h : Touch fp w w') (hf : ∀ j, fp j → B ≤ j) : Below B w0 w' :=
  hb.trans ⟨h.os, h.tape, h.output, h.size, fun k hk => h.block k (by omega) (fun hh => by have := hf k hh; omega)⟩
theorem Touch.ex {fp : Nat → Prop} {w0 w w' : World} (hb : Ex w0 w) (h : Touch fp w w') (hf : ∀ j, fp j → w0.heap.size ≤ j) : Ex w0 w' := Touch.below hb hb.size h hf
section
variable {α : Type} {enc : α → Value} {e : TypeId}
theorem RowAt.touch {fp : Nat → Prop} {w w' : World} {g : Nat} {l : List α} (h : RowAt enc e w g l) (ht : Touch fp w w') (hn : ¬ fp g) : RowAt enc e w' g l := by
  unfold RowAt; rw [ht.block g h.lt hn]; exact h
theorem RowAt.keep {w w' : World} {g : Nat} {l : List α} (h : RowAt enc e w g l) (hk : w'.heap[g]? = w.heap[g]?) : RowAt enc e w' g l := by
  unfold RowAt; rw [hk]; exact h
theorem Rd.touch {fp : Nat → Prop} {w w' : World} {a : Option Addr} {cap : Nat} {l : List α} (h : Rd enc w a cap l) (ht : Touch fp w w') (hn : ∀ q, a.map (·.block) = some q → ¬ fp q) : Rd enc w' a cap l := by
  obtain ⟨h1, h2, h3, h4⟩ := h
  refine ⟨h1, h2, h3, fun i y hi => ?_⟩
  obtain ⟨q, off, e, hc⟩ := h4 i y hi
  refine ⟨q, off, e, ?_⟩
  rw [World.cell?_of_block (w := w) (w' := w') (a := ⟨q, off + i, none⟩) (ht.block q (World.block_lt_of_cell? w _ hc) (hn q (by rw [e]; rfl)))]
  exact hc
end
theorem Try.info4 : (Try.prog.info? 4).map (fun i => (i.zero, i.size, i.bytes)) = some (some (.bool false), 1, 1) := by kernel_rfl
end Go.Proofs.Ytkhbkifofkjjnaa
