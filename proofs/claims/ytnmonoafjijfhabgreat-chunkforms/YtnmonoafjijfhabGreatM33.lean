/-
  The document's own Build, Encode, Decode (layer 7) over the program. 's[j:k]' and 's[j:]' of texts and of numbers; a list beside a block that is written. No function of the program here.
-/
import Derived.Test.YtnmonoafjijfhabGreatM32
import Derived.Test.YtnmonoafjijfhabGreatM31
import Derived.Test.YtnmonoafjijfhabGreatM20
namespace Go.Proofs.YtnmonoafjijfhabGreat
open Go.RowKit
set_option linter.unusedVariables false

theorem Tryz.info3 : (Tryz.prog.info? 3).map (fun i => (i.zero, i.size, i.bytes)) = some (some (.int .i64 0), 1, 8) := by kernel_rfl
def places (D : List (List UInt8)) (l : List (List UInt8)) : List Int := l.map fun s => ((T.place D s : Nat) : Int)
theorem places_len (D l : List (List UInt8)) : (places D l).length = l.length := by simp [places]
theorem take_snoc {α : Type} {l : List α} {k : Nat} (h : k < l.length) : l.take (k + 1) = l.take k ++ [l[k]] := List.take_succ_eq_append_getElem h
theorem places_snoc (D l : List (List UInt8)) (s : List UInt8) : places D (l ++ [s]) = places D l ++ [((T.place D s : Nat) : Int)] := by simp [places]

end Go.Proofs.YtnmonoafjijfhabGreat
namespace Go.Proofs.YtnmonoafjijfhabGreat
open Go.RowKit
set_option linter.unusedVariables false

section
variable {α : Type} {enc : α → Value}
theorem Rd.farB {w w' : World} {a : Option Addr} {cap : Nat} {l : List α} {g : Nat} (h : Rd enc w a cap l) (hg : w.grownBy w' (some g)) (hne : a.map (·.block) ≠ some g) : Rd enc w' a cap l := by
  obtain ⟨h1, h2, h3, h4⟩ := h
  refine ⟨h1, h2, h3, fun i y hi => ?_⟩
  obtain ⟨q, off, e, hc⟩ := h4 i y hi
  refine ⟨q, off, e, ?_⟩
  rw [hg.cell_far ⟨q, off + i, none⟩ (World.block_lt_of_cell? w _ hc) (by rw [e] at hne; simpa using hne)]
  exact hc
/-- The block of what is cut out is the block of what it is cut from. -/
def Within (a' a : Option Addr) : Prop := a'.map (·.block) = a.map (·.block)
theorem within_add (a : Option Addr) (j : Nat) : Within (Option.map (fun x => x.add j) a) a := by
  unfold Within
  cases a with
  | none => rfl
  | some x =>
    simp only [Option.map_some, Addr.add]
    split <;> rfl
theorem within_same (a : Option Addr) : Within a a := rfl
/-- What cutting gives, in every world. -/
def Cut (t : TypeId) (enc : α → Value) (a : Option Addr) (n cap j k : Nat) (hi : Option Value) (a' : Option Addr) : Prop :=
  (∀ w, (Instr.sliceAt t (.slice a n cap) (some (.int .i64 j)) hi none).run Tryz.prog w = .ok (.slice a' (k - j) (cap - j)) w) ∧
  (∀ (w : World) (l : List α), l.length = n → Rd enc w a cap l → Rd enc w a' (cap - j) ((l.drop j).take (k - j))) ∧ Within a' a
theorem cut_of {t : TypeId} {a : Option Addr} {n cap j k : Nat} {hi : Option Value} (hj : j ≤ k) (hk : k ≤ n) (hn : n ≤ cap)
    (r0 : cap = j → ∀ w, (Instr.sliceAt t (.slice a n cap) (some (.int .i64 j)) hi none).run Tryz.prog w = .ok (.slice a (k - j) (cap - j)) w)
    (r1 : cap ≠ j → ∀ w, (Instr.sliceAt t (.slice a n cap) (some (.int .i64 j)) hi none).run Tryz.prog w = .ok (.slice (Option.map (fun x => x.add j) a) (k - j) (cap - j)) w) : ∃ a', Cut t enc a n cap j k hi a' := by
  by_cases h : cap = j
  · refine ⟨a, r0 h, fun w l hl hr => ?_, within_same a⟩
    have e : (l.drop j).take (k - j) = [] := by
      apply List.eq_nil_of_length_eq_zero
      simp; omega
    rw [e, h, Nat.sub_self]
    exact Rd.none_d w a
  · exact ⟨_, r1 h, fun w l hl hr => hr.sub j (k - j) (by omega), within_add a j⟩
end
theorem cut22 (a : Option Addr) (n cap j k : Nat) (hj : j ≤ k) (hk : k ≤ n) (hn : n ≤ cap) (hc : cap ≤ maxLen) : ∃ a', Cut 31 st a n cap j k (some (.int .i64 k)) a' := by
  unfold maxLen at hc
  have i0 : (j : Int) ≤ (k : Int) := by omega
  have i1 : (k : Int) ≤ (cap : Int) := by omega
  have i3 : cap ≤ 9223372036854775807 := by omega
  refine cut_of hj hk hn (fun h w => ?_) (fun h w => ?_)
  · have hkc : k = j := by omega
    subst h
    subst hkc
    go_simp
  · have hne : ¬ cap - j = 0 := by omega
    go_simp
namespace Rg
theorem good_cut3 {P : Program} {ops : Array Oper} {specs : List Spec} {a0 : Act} {C : World → Prop} {E : World → World → Prop} {o : Oper} {t : TypeId} {x lo hi : Operand} {vx vl vh v : Value} (hrefl : ∀ w, E w w) (ho : o.op = .slice t x (some lo) (some hi) none) (hg : guardV ops specs a0 o = some true) (hx : argS ops specs a0 x = .inl vx) (hl : argS ops specs a0 lo = .inl vl) (hh : argS ops specs a0 hi = .inl vh)
    (h : ∀ w, (Instr.sliceAt t vx (some vl) (some vh) none).run P w = .ok v w) : GoodOp P ops specs a0 C E o (.inl v) :=
  good_val hrefl hg fun a w hC hs => by
    have h1 := hs x (by rw [ho]; simp [Op.operands])
    rw [hx] at h1
    have h3 := hs hi (by rw [ho]; simp [Op.operands])
    rw [hh] at h3
    have h4 := hs lo (by rw [ho]; simp [Op.operands])
    rw [hl] at h4
    simp only [Spec.ok] at h1 h3 h4
    refine ⟨v, ?_, rfl⟩
    unfold execOp
    rw [ho]
    simp only [Option.map_some, Option.map_none, h1, h3, h4, Sem.run_bind, Result.andThen, h w, Sem.run_pure]
end Rg
end Go.Proofs.YtnmonoafjijfhabGreat
