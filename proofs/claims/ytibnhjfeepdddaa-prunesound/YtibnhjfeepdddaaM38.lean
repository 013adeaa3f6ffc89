/-
  The law's own in and back: Stats of the program's kind and of the document's.
-/
import Derived.Test.YtibnhjfeepdddaaM24
import Derived.Test.YtibnhjfeepdddaaM20
import Derived.Test.YtibnhjfeepdddaaM26
import Derived.Test.YtibnhjfeepdddaaM19
namespace Go.Proofs.Ytibnhjfeepdddaa
open Go.RowKit
set_option linter.unusedVariables false
set_option linter.unusedSimpArgs false
theorem TAt.far {w w' : World} {g : Nat} {v : TV} {t : TypeId} {row : Option Nat} (h : TAt w g v t) (hg : w.grownBy w' row) (hne : row ≠ some g) : TAt w' g v t := by
 unfold TAt; rw [hg.block g h.lt (Ne.symm hne)]; exact h
theorem TAt.frozen {w : World} {g : Nat} {v : TV} {t : TypeId} (h : TAt w g v t) (k : Nat) : w.frozen? ⟨g, k, none⟩ = false := frozen_of_row _ _ _ _ _ h
theorem TAt.fro {w : World} {g : Nat} {v : TV} {t : TypeId} (h : TAt w g v t) : w.frozen? ⟨g, 0, none⟩ = false ∧ w.frozen? ⟨g, 1, none⟩ = false ∧ w.frozen? ⟨g, 2, none⟩ = false ∧ w.frozen? ⟨g, 3, none⟩ = false ∧ w.frozen? ⟨g, 4, none⟩ = false := ⟨h.frozen 0, h.frozen 1, h.frozen 2, h.frozen 3, h.frozen 4⟩
theorem TAt.set {w : World} {g k : Nat} {v v' : TV} {t : TypeId} {u : Value} (h : TAt w g v t) (hz : (tc v).set k u = tc v') : TAt (w.setCell ⟨g, k, none⟩ u) g v' t := by
 unfold TAt
 rw [heap_setCell_same w g k _ t _ h, List.setIfInBounds_toArray, hz]
theorem TAt.other {w : World} {g q k : Nat} {v : TV} {t : TypeId} {u : Value} (h : TAt w g v t) (hne : g ≠ q) : TAt (w.setCell ⟨q, k, none⟩ u) g v t := by
 unfold TAt
 rw [heap_setCell_other w _ g u (by simpa using hne)]; exact h
abbrev tset (w : World) (g : Nat) (v : TV) : World := ((((w.setCell ⟨g, 0, none⟩ (.int .i64 v.rows)).setCell ⟨g, 1, none⟩ (.int .i64 v.lo)).setCell ⟨g, 2, none⟩ (.int .i64 v.hi)).setCell ⟨g, 3, none⟩ (.slice v.zs.1 v.zs.2.1 v.zs.2.2)).setCell ⟨g, 4, none⟩ (.slice v.bs.1 v.bs.2.1 v.bs.2.2)
theorem TAt.store {w : World} {g : Nat} {v0 : TV} {t : TypeId} (h : TAt w g v0 t) (v : TV) : TAt (tset w g v) g v t :=
 ((((h.set (k := 0) (v' := { v0 with rows := v.rows }) rfl).set (k := 1) (v' := { v0 with rows := v.rows, lo := v.lo }) rfl).set (k := 2) (v' := { v0 with rows := v.rows, lo := v.lo, hi := v.hi }) rfl).set (k := 3) (v' := { v0 with rows := v.rows, lo := v.lo, hi := v.hi, zs := v.zs }) rfl).set (k := 4) (v' := v) rfl
theorem Below.tset {B : Nat} {a w : World} (h : Below B a w) {g : Nat} (hg : B ≤ g) (v : TV) : Below B a (tset w g v) :=
 Below.setCell (Below.setCell (Below.setCell (Below.setCell (Below.setCell h (p := ⟨g, 0, none⟩) hg _) (p := ⟨g, 1, none⟩) hg _) (p := ⟨g, 2, none⟩) hg _) (p := ⟨g, 3, none⟩) hg _) (p := ⟨g, 4, none⟩) hg _
abbrev tb0 (t : TypeId) : Obj := .cells #[.int .i64 0, .int .i64 0, .int .i64 0, .slice none 0 0, .slice none 0 0] t
def TV.zero : TV := ⟨0, 0, 0, (none, 0, 0), (none, 0, 0)⟩
/-- A column's zone, a column's filter, as one value. -/
def zcw (x : List UInt8 × Zn) : Value := .agg (zcc x).toArray
def bcw (v : BV) : Value := .agg (bc v).toArray
def IsZ1 (base : Nat) (x : List UInt8 × Zn) (v : Value) (w : World) : Prop := ∃ g, v = .slice (some ⟨g, 0, none⟩) 1 1 ∧ base ≤ g ∧ RdW 8 zcc w (some ⟨g, 0, none⟩) 1 [x]
theorem IsZ1.stands (base : Nat) (x : List UInt8 × Zn) : ∀ v w w', IsZ1 base x v w → Ex w w' → IsZ1 base x v w' := by
 rintro v w w' ⟨g, rfl, h0, h1⟩ hx
 exact ⟨g, rfl, h0, h1.below hx⟩
def IsB1 (base : Nat) (x : BV) (v : Value) (w : World) : Prop := ∃ g, v = .slice (some ⟨g, 0, none⟩) 1 1 ∧ base ≤ g ∧ RdW 3 bc w (some ⟨g, 0, none⟩) 1 [x]
theorem IsB1.stands (base : Nat) (x : BV) : ∀ v w w', IsB1 base x v w → Ex w w' → IsB1 base x v w' := by
 rintro v w w' ⟨g, rfl, h0, h1⟩ hx
 exact ⟨g, rfl, h0, h1.below hx⟩
/-- What lies in the block that is made: rows, times, zones so far; and filters. -/
def OutS (wr : World) (g base : Nat) (t e1 e2 : TypeId) (r lo hi : Int) (L : List (List UInt8 × Zn)) (M : List BV) : Prop := ∃ z b : SV, TAt wr g ⟨r, lo, hi, z, b⟩ t ∧ (z.2.1 = L.length ∧ OwnW e1 8 zcc wr base (sv z) L) ∧ b.2.1 = M.length ∧ OwnW e2 3 bc wr base (sv b) M ∧ ∀ g1, (sv z).ownBlock = some g1 → (sv b).ownBlock ≠ some g1
theorem own_other {α : Type} {t : TypeId} {k : Nat} {fl : α → List Value} {w w' : World} {base : Nat} {v : Value} {l : List α} {row : Option Nat} (h : OwnW t k fl w base v l) (hg : w.grownBy w' row) (hne : ∀ g, row = some g → v.ownBlock ≠ some g) : OwnW t k fl w' base v l := by
 refine World.ownsRow.kept h hg ?_
 cases e : v.ownBlock with
 | none => exact .inl rfl
 | some g => exact .inr fun e2 => hne g e2.symm e
theorem OutS.putZ {wx w3 : World} {g base : Nat} {t e1 e2 : TypeId} {r lo hi : Int} {L L' : List (List UInt8 × Zn)} {M : List BV} {z b : SV} {a3 : Option Addr} {c3 : Nat} (hT : TAt wx g ⟨r, lo, hi, z, b⟩ t) (hgb : g < base) (hz : OwnW e1 8 zcc wx base (sv z) L) (hbn : b.2.1 = M.length) (hb : OwnW e2 3 bc wx base (sv b) M) (hne : ∀ g1, (sv z).ownBlock = some g1 → (sv b).ownBlock ≠ some g1) (hg : wx.grownBy w3 (sv z).ownBlock) (hO : OwnW e1 8 zcc w3 base (.slice a3 L'.length c3) L') (hat : (Value.slice a3 L'.length c3).ownBlock = (sv z).ownBlock ∨ (Value.slice a3 L'.length c3).ownBlock = some wx.heap.size) :
  OutS (w3.setCell ⟨g, 3, none⟩ (.slice a3 L'.length c3)) g base t e1 e2 r lo hi L' M := by
 have hzl := hz.lt
 have hbl := hb.lt
 have hT3 : TAt w3 g ⟨r, lo, hi, z, b⟩ t := hT.far hg (fun e => by have := (hzl g e).1; omega)
 refine ⟨(a3, L'.length, c3), b, hT3.set rfl, ⟨rfl, hO.apart (fun e => by have := (hO.lt g e).1; omega)⟩, hbn, (own_other hb hg hne).apart (fun e => by have := (hbl g e).1; omega), fun g1 e1 e2 => ?_⟩
 have e1' : (Value.slice a3 L'.length c3).ownBlock = some g1 := e1
 rcases hat with h | h
 ·rw [h] at e1'; exact hne g1 e1' e2
 ·rw [h] at e1'
  simp at e1'
  have := (hbl g1 e2).2
  omega
theorem OutS.putB {wx w3 : World} {g base : Nat} {t e1 e2 : TypeId} {r lo hi : Int} {L : List (List UInt8 × Zn)} {M M' : List BV} {z b : SV} {a3 : Option Addr} {c3 : Nat} (hT : TAt wx g ⟨r, lo, hi, z, b⟩ t) (hgb : g < base) (hzn : z.2.1 = L.length) (hz : OwnW e1 8 zcc wx base (sv z) L) (hb : OwnW e2 3 bc wx base (sv b) M) (hne : ∀ g1, (sv z).ownBlock = some g1 → (sv b).ownBlock ≠ some g1) (hg : wx.grownBy w3 (sv b).ownBlock) (hO : OwnW e2 3 bc w3 base (.slice a3 M'.length c3) M') (hat : (Value.slice a3 M'.length c3).ownBlock = (sv b).ownBlock ∨ (Value.slice a3 M'.length c3).ownBlock = some wx.heap.size) :
  OutS (w3.setCell ⟨g, 4, none⟩ (.slice a3 M'.length c3)) g base t e1 e2 r lo hi L M' := by
 have hzl := hz.lt
 have hbl := hb.lt
 have hT3 : TAt w3 g ⟨r, lo, hi, z, b⟩ t := hT.far hg (fun e => by have := (hbl g e).1; omega)
 refine ⟨z, (a3, M'.length, c3), hT3.set rfl, ⟨hzn, (own_other hz hg (fun g1 e1 e2 => hne g1 e2 e1)).apart (fun e => by have := (hzl g e).1; omega)⟩, rfl, hO.apart (fun e => by have := (hO.lt g e).1; omega), fun g1 e1 e2 => ?_⟩
 have e2' : (Value.slice a3 M'.length c3).ownBlock = some g1 := e2
 rcases hat with h | h
 ·rw [h] at e2'; exact hne g1 e1 e2'
 ·rw [h] at e2'
  simp at e2'
  have := (hzl g1 e1).2
  omega
theorem Try.info76 : (Try.prog.info? 76).map (fun i => (i.zero, i.size, i.bytes)) = some (some (.agg #[.string ⟨#[]⟩, .int .i64 0, .int .i64 0, .int .i64 0, .int .i64 0, .int .i64 0, .string ⟨#[]⟩, .string ⟨#[]⟩]), 8, 88) := by kernel_rfl
theorem Try.info79 : (Try.prog.info? 79).map (fun i => (i.zero, i.size, i.bytes)) = some (some (.agg #[.string ⟨#[]⟩, .int .i64 0, .slice none 0 0]), 3, 48) := by kernel_rfl
set_option maxHeartbeats 1000000 in
theorem good_bc76 {ops : Array Oper} {specs : List Rg.Spec} {a0 : Act} {w1 : World} {o : Oper} {x y : Operand} {n : List UInt8} {z : Zn} (ho : o.op = .build 76 #[(0, x), (1, y)]) (hg : Rg.guardV ops specs a0 o = some true)
  (h0 : Rg.argS ops specs a0 x = .inl (.string (str n))) (h1 : Rg.argS ops specs a0 y = .inl (zv z)) : Rg.GoodOp Try.prog ops specs a0 (Ex w1) Ex o (.inl (zcw (n, z))) :=
 Rg.good_val Ex.refl hg fun a w hC hh => by
  have k0 := hh x (by rw [ho]; simp [Op.operands])
  have k1 := hh y (by rw [ho]; simp [Op.operands])
  rw [h0] at k0; rw [h1] at k1
  simp only [Rg.Spec.ok] at k0 k1
  refine ⟨_, ?_, rfl⟩
  obtain ⟨ρ, hρ⟩ : ∃ ρ, a.eval = ρ := ⟨_, rfl⟩
  rw [hρ] at k0 k1 ⊢
  simp [execOp, ho, k0, k1, go_sem, zv, zcw, zcc]
set_option maxHeartbeats 1000000 in
theorem good_zs43 {ops : Array Oper} {specs : List Rg.Spec} {a0 : Act} {w1 : World} {o : Oper} {x : Operand} {c : List UInt8 × Zn} (ho : o.op = .buildSlice 43 1 #[(0, x)]) (hg : Rg.guardV ops specs a0 o = some true)
  (hx : Rg.argS ops specs a0 x = .inl (zcw c)) : Rg.GoodOp Try.prog ops specs a0 (Ex w1) Ex o (.inr (IsZ1 w1.heap.size c)) :=
 Rg.good_of hg fun Q a w hC hh => by
  have h1 := hh x (by rw [ho]; simp [Op.operands])
  rw [hx] at h1
  simp only [Rg.Spec.ok] at h1
  have hal : Ex w (w.alloc (.cells (flat zcc [c]).toArray 76)) := (Below.refl _ _).alloc (Nat.le_refl _) _
  have hr : (execOp a.eval o).run Try.prog w = .ok (.value (.slice (some ⟨w.heap.size, 0, none⟩) 1 1)) (w.alloc (.cells (flat zcc [c]).toArray 76)) := by
   obtain ⟨ρ, hρ⟩ : ∃ ρ, a.eval = ρ := ⟨_, rfl⟩
   rw [hρ] at h1 ⊢
   simp [execOp, ho, h1, go_sem, zcw, flat, zcc]
  refine Rg.Fr.wp_val hr ⟨.slice (some ⟨w.heap.size, 0, none⟩) 1 1, rfl, ?_, hal, hC.trans hal⟩
  exact ⟨w.heap.size, rfl, hC.size, RdW.laid zcc_len w [c] (by simp)⟩
theorem res_stats46 {fn : Func} {tmps : Array Value} {w9 : World} {g i : Nat} {v : TV} (hfn : fn.results = #[ResultVar.cell i 46]) (ht : tmps.getD i undef = .pointer (some ⟨g, 0, none⟩)) (h : TAt w9 g v 46) : (results fn tmps).run Try.prog w9 = .ok (tvv v) w9 := by
 have hl : (loadVar 46 ⟨g, 0, none⟩).run Try.prog w9 = .ok (tvv v) w9 := by
  obtain ⟨c0, c1, c2, c3, c4⟩ := h.all
  clear h
  simp [go_sem, tvv, sv, c0, c1, c2, c3, c4]
 have ht' : tmps[i]?.getD undef = .pointer (some ⟨g, 0, none⟩) := by simpa using ht
 simp [results, hfn, ht', asAddr, Sem.run_bind, Result.andThen, hl]
end Go.Proofs.Ytibnhjfeepdddaa
