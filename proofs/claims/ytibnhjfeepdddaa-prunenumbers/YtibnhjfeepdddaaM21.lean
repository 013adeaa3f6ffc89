/-
  Taken out of another text of mine: Rbuild. A filter as a value, and in a block of its own; its bytes in theirs. The document's own Build (layer 9), over the program.
-/
import Derived.Test.YtibnhjfeepdddaaM20
import Derived.Test.YtibnhjfeepdddaaM13
namespace Go.Proofs.Ytibnhjfeepdddaa
open Go.RowKit
set_option linter.unusedVariables false

def places (D : List (List UInt8)) (l : List (List UInt8)) : List Int := l.map fun s => ((T.place D s : Nat) : Int)
end Go.Proofs.Ytibnhjfeepdddaa
namespace Go.Proofs.Ytibnhjfeepdddaa
open Go.RowKit
set_option linter.unusedVariables false
set_option linter.unusedSimpArgs false
abbrev ub (b : UInt8) : Value := .int .u8 (b.toNat : Int)
def fv (k : Int) (v : Value) : Value := .agg #[.int .i64 k, v]
abbrev fb (k : Int) (v : Value) (t : TypeId) : Obj := .cells #[.int .i64 k, v] t
/-- A filter lies in a block. -/
def FAt (w : World) (g : Nat) (k : Int) (v : Value) (t : TypeId) : Prop := w.heap[g]? = some (.cells [.int .i64 k, v].toArray t (0, 0))
section
variable {w w' : World} {g : Nat} {k : Int} {v : Value} {t : TypeId}
theorem FAt.lt (h : FAt w g k v t) : g < w.heap.size := (Array.getElem?_eq_some_iff.1 h).1
theorem FAt.below (h : FAt w g k v t) (hb : Ex w w') : FAt w' g k v t := by unfold FAt; rw [hb.block g h.lt]; exact h
theorem FAt.new (w : World) (k : Int) (v : Value) (t : TypeId) : FAt (w.alloc (fb k v t)) w.heap.size k v t := heap_alloc_new w _
theorem FAt.cell (h : FAt w g k v t) (j : Nat) : w.cell? ⟨g, j, none⟩ = [.int .i64 k, v][j]? := by
 rw [cell_of_row w g j _ t (0, 0) h, List.getElem?_toArray]
theorem FAt.all (h : FAt w g k v t) : w.cell? ⟨g, 0, none⟩ = some (.int .i64 k) ∧ w.cell? ⟨g, 1, none⟩ = some v := ⟨h.cell 0, h.cell 1⟩
theorem FAt.fro (h : FAt w g k v t) : w.frozen? ⟨g, 0, none⟩ = false ∧ w.frozen? ⟨g, 1, none⟩ = false := ⟨frozen_of_row _ _ _ _ _ h, frozen_of_row _ _ _ _ _ h⟩
theorem FAt.set0 (h : FAt w g k v t) (k' : Int) : FAt (w.setCell ⟨g, 0, none⟩ (.int .i64 k')) g k' v t := by
 unfold FAt; rw [heap_setCell_same w g 0 _ t _ h, List.setIfInBounds_toArray]; rfl
theorem FAt.set1 (h : FAt w g k v t) (v' : Value) : FAt (w.setCell ⟨g, 1, none⟩ v') g k v' t := by
 unfold FAt; rw [heap_setCell_same w g 1 _ t _ h, List.setIfInBounds_toArray]; rfl
theorem FAt.other (h : FAt w g k v t) {q j : Nat} {u : Value} (hne : g ≠ q) : FAt (w.setCell ⟨q, j, none⟩ u) g k v t := by
 unfold FAt; rw [heap_setCell_other w _ g u (by simpa using hne)]; exact h
end
set_option maxHeartbeats 1000000 in
theorem load_fil {w9 : World} {g n cap : Nat} {k : Int} {a : Option Addr} {t : TypeId} (ht : t = 32 ∨ t = 77) (h : FAt w9 g k (.slice a n cap) t) : (loadVar t ⟨g, 0, none⟩).run Try.prog w9 = .ok (fv k (.slice a n cap)) w9 := by
 obtain ⟨c0, c1⟩ := h.all
 clear h
 rcases ht with rfl | rfl
 ·simp [go_sem, fv, c0, c1]
 ·simp [go_sem, fv, c0, c1]
theorem res_fil {fn : Func} {tmps : Array Value} {w9 : World} {g i n cap : Nat} {k : Int} {a : Option Addr} {t : TypeId} (ht : t = 32 ∨ t = 77) (hfn : fn.results = #[ResultVar.cell i t]) (htm : tmps.getD i undef = .pointer (some ⟨g, 0, none⟩)) (h : FAt w9 g k (.slice a n cap) t) : (results fn tmps).run Try.prog w9 = .ok (fv k (.slice a n cap)) w9 := by
 have hl := load_fil ht h
 have ht' : tmps[i]?.getD undef = .pointer (some ⟨g, 0, none⟩) := by simpa using htm
 simp [results, hfn, ht', asAddr, Sem.run_bind, Result.andThen, hl]
/-- Bytes in a block, as a slice that is owned. -/
theorem row_own {w : World} {g base n : Nat} {l : List UInt8} (h : RowAt ub 5 w g l) (hb : base ≤ g) (hn : n = l.length) (hm : n ≤ 140737488355328) : Own w base (.slice (some ⟨g, 0, none⟩) n n) l := by
 subst hn
 refine ⟨by simp [cs_len], .inr ⟨g, l.length, _, rfl, hb, h, Nat.le_refl _, by unfold maxLen; omega, by simp, ?_⟩⟩
 simp only [Nat.mul_one]
 rw [List.take_of_length_le (by simp)]
 rfl
namespace Rg
theorem bgood_field {P : Program} {ops : Array Oper} {specs : List Spec} {a0 : Act} {C : World → Prop} {E : World → World → Prop} {o : Oper} {t : TypeId} {x : Operand} {k : Nat} {vx v : Value} (hrefl : ∀ w, E w w) (ho : o.op = .fieldAddr t x k) (hg : guardV ops specs a0 o = some true)
  (hx : argS ops specs a0 x = .inl vx) (h : ∀ w, C w → (Instr.fieldAt t vx k).run P w = .ok v w) : GoodOp P ops specs a0 C E o (.inl v) :=
 good_val hrefl hg fun a w hC hh => by
  have h1 := hh x (by rw [ho]; simp [Op.operands])
  rw [hx] at h1
  simp only [Spec.ok] at h1
  refine ⟨v, ?_, rfl⟩
  unfold execOp
  rw [ho]
  simp only [h1, Sem.run_bind, Result.andThen, h w hC, Sem.run_pure]
end Rg
end Go.Proofs.Ytibnhjfeepdddaa
namespace Go.Proofs.Ytibnhjfeepdddaa
open Go.RowKit
set_option linter.unusedVariables false
set_option linter.unusedSimpArgs false
theorem Fl.wid_go {f d n : Nat} (hf : f ≤ 10) (hn : n = 64 * 2 ^ (10 - f)) (h : n < 8 * d ∧ n < 65536) : ∃ f', f = f' + 1 ∧ 2 * n = 64 * 2 ^ (10 - f') ∧ Fl.wid f d n = Fl.wid f' d (2 * n) := by
 cases f with
 | zero => rw [hn] at h; omega
 | succ f =>
  refine ⟨f, rfl, ?_, ?_⟩
  ·rw [hn, show 10 - f = (10 - (f + 1)) + 1 from by omega, Nat.pow_succ]; omega
  ·show (if n < 8 * d ∧ n < 65536 then _ else _) = _
   rw [if_pos h]
theorem Fl.wid_end {f d n : Nat} (h : ¬ (n < 8 * d ∧ n < 65536)) : Fl.wid f d n = n := by
 cases f with
 | zero => rfl
 | succ f =>
  show (if n < 8 * d ∧ n < 65536 then _ else _) = _
  rw [if_neg h]
/-- The bits of a text, one by one. -/
def Fl.adds (P : Nat → Bool) (s : List UInt8) (m : Nat) : Nat → Nat → Bool
 | 0 => P
 | k + 1 => Fl.add (Fl.adds P s m k) (Fl.pos s m k)
theorem Fl.adds_all (l : List (List UInt8)) (s : List UInt8) (m : Nat) : Fl.adds (Fl.has l m) s m 4 = Fl.has (l ++ [s]) m := (Fl.has_snoc l s m).symm
theorem qs_at (s : List UInt8) (m : Nat) {k : Nat} (h : k < 4) : (qs s m)[k]? = some (Fl.pos s m k : Int) := by
 match k, h with
 | 0, _ => rfl
 | 1, _ => rfl
 | 2, _ => rfl
 | 3, _ => rfl
end Go.Proofs.Ytibnhjfeepdddaa
