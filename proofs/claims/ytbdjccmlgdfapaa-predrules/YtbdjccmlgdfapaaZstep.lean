/-
  Steps of a region whose order is open: the address of a field; a callee's answer as a sentence.
-/
import Derived.Test.YtbdjccmlgdfapaaTail
import Derived.Test.YtbdjccmlgdfapaaVarint
namespace Go.Proofs.Ytbdjccmlgdfapaa
open Go.RowKit
set_option linter.unusedVariables false
theorem own_row {f : FuncId} {args : Array Value} {wx w1 : World} {base : Nat} {r : List UInt8} (h : Calls Try.prog f args wx fun e w' => ∃ v', e = .returned v' ∧ Own w' wx.heap.size v' r ∧ Below wx.heap.size wx w') (hb : base ≤ w1.heap.size) (hC : Ex w1 wx) :
    Calls Try.prog f args wx (fun e w' => ∃ u, e = .returned u ∧ Rg.Spec.ok (.inr (fun v wx => Own wx base v r)) u w' ∧ Ex wx w' ∧ Ex w1 w') :=
  h.mono fun e w' ⟨v, h1, h2, h3⟩ => ⟨v, h1, h2.mono (Nat.le_trans hb hC.size), h3, hC.trans h3⟩
theorem byt_row' {f : FuncId} {args : Array Value} {wx w1 : World} {r : List UInt8} (h : Calls Try.prog f args wx fun e w' => ∃ v', e = .returned v' ∧ Own w' wx.heap.size v' r ∧ Below wx.heap.size wx w') (hC : Ex w1 wx) :
    Calls Try.prog f args wx (fun e w' => ∃ u, e = .returned u ∧ Rg.Spec.ok (.inr (IsByt r)) u w' ∧ Ex wx w' ∧ Ex w1 w') :=
  h.mono fun e w' ⟨v, h1, h2, h3⟩ => ⟨v, h1, h2.isByt, h3, hC.trans h3⟩
theorem val_row {f : FuncId} {args : Array Value} {wx w1 : World} {v : Value} (h : Calls Try.prog f args wx fun e w' => e = .returned v ∧ w' = wx) (hC : Ex w1 wx) :
    Calls Try.prog f args wx (fun e w' => ∃ u, e = .returned u ∧ Rg.Spec.ok (.inl v) u w' ∧ Ex wx w' ∧ Ex w1 w') :=
  h.mono fun e w' ⟨h1, h2⟩ => ⟨v, h1, rfl, by rw [h2]; exact Ex.refl _, by rw [h2]; exact hC⟩
namespace Rg
theorem good_field {P : Program} {ops : Array Oper} {specs : List Spec} {a0 : Act} {C : World → Prop} {E : World → World → Prop} {o : Oper} {t : TypeId} {x : Operand} {k : Nat} {vx v : Value} (hrefl : ∀ w, E w w) (ho : o.op = .fieldAddr t x k) (hg : guardV ops specs a0 o = some true)
    (hx : argS ops specs a0 x = .inl vx) (h : ∀ w, C w → (Instr.fieldAt t vx k).run P w = .ok v w) : GoodOp P ops specs a0 C E o (.inl v) :=
  good_val hrefl hg fun a w hC hh => by
    have h1 := hh x (by rw [ho]; simp [Op.operands])
    rw [hx] at h1
    simp only [Spec.ok] at h1
    refine ⟨v, ?_, rfl⟩
    unfold execOp
    rw [ho]
    simp only [h1, Sem.run_bind, Result.andThen, h w hC, Sem.run_pure]
end Rg
end Go.Proofs.Ytbdjccmlgdfapaa
