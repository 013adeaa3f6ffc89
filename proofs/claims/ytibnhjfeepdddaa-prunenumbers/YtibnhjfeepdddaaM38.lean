/-
  The law's own in and back: Stats of the program's kind and of the document's.
-/
import Derived.Test.YtibnhjfeepdddaaM24
import Derived.Test.YtibnhjfeepdddaaM20
import Derived.Test.YtibnhjfeepdddaaM26
import Derived.Test.YtibnhjfeepdddaaM19
namespace Go.Proofs.Ytibnhjfeepdddaa
open Go.RowKit
set_option linter.unusedVariables false
set_option linter.unusedSimpArgs false
theorem TAt.far {w w' : World} {g : Nat} {v : TV} {t : TypeId} {row : Option Nat} (h : TAt w g v t) (hg : w.grownBy w' row) (hne : row ≠ some g) : TAt w' g v t := by
 unfold TAt; rw [hg.block g h.lt (Ne.symm hne)]; exact h
theorem TAt.frozen {w : World} {g : Nat} {v : TV} {t : TypeId} (h : TAt w g v t) (k : Nat) : w.frozen? ⟨g, k, none⟩ = false := frozen_of_row _ _ _ _ _ h
theorem TAt.fro {w : World} {g : Nat} {v : TV} {t : TypeId} (h : TAt w g v t) : w.frozen? ⟨g, 0, none⟩ = false ∧ w.frozen? ⟨g, 1, none⟩ = false ∧ w.frozen? ⟨g, 2, none⟩ = false ∧ w.frozen? ⟨g, 3, none⟩ = false ∧ w.frozen? ⟨g, 4, none⟩ = false := ⟨h.frozen 0, h.frozen 1, h.frozen 2, h.frozen 3, h.frozen 4⟩
theorem TAt.set {w : World} {g k : Nat} {v v' : TV} {t : TypeId} {u : Value} (h : TAt w g v t) (hz : (tc v).set k u = tc v') : TAt (w.setCell ⟨g, k, none⟩ u) g v' t := by
 unfold TAt
 rw [heap_setCell_same w g k _ t _ h, List.setIfInBounds_toArray, hz]
theorem TAt.other {w : World} {g q k : Nat} {v : TV} {t : TypeId} {u : Value} (h : TAt w g v t) (hne : g ≠ q) : TAt (w.setCell ⟨q, k, none⟩ u) g v t := by
 unfold TAt
 rw [heap_setCell_other w _ g u (by simpa using hne)]; exact h
abbrev tset (w : World) (g : Nat) (v : TV) : World := ((((w.setCell ⟨g, 0, none⟩ (.int .i64 v.rows)).setCell ⟨g, 1, none⟩ (.int .i64 v.lo)).setCell ⟨g, 2, none⟩ (.int .i64 v.hi)).setCell ⟨g, 3, none⟩ (.slice v.zs.1 v.zs.2.1 v.zs.2.2)).setCell ⟨g, 4, none⟩ (.slice v.bs.1 v.bs.2.1 v.bs.2.2)
theorem TAt.store {w : World} {g : Nat} {v0 : TV} {t : TypeId} (h : TAt w g v0 t) (v : TV) : TAt (tset w g v) g v t :=
 ((((h.set (k := 0) (v' := { v0 with rows := v.rows }) rfl).set (k := 1) (v' := { v0 with rows := v.rows, lo := v.lo }) rfl).set (k := 2) (v' := { v0 with rows := v.rows, lo := v.lo, hi := v.hi }) rfl).set (k := 3) (v' := { v0 with rows := v.rows, lo := v.lo, hi := v.hi, zs := v.zs }) rfl).set (k := 4) (v' := v) rfl
theorem Below.tset {B : Nat} {a w : World} (h : Below B a w) {g : Nat} (hg : B ≤ g) (v : TV) : Below B a (tset w g v) :=
 Below.setCell (Below.setCell (Below.setCell (Below.setCell (Below.setCell h (p := ⟨g, 0, none⟩) hg _) (p := ⟨g, 1, none⟩) hg _) (p := ⟨g, 2, none⟩) hg _) (p := ⟨g, 3, none⟩) hg _) (p := ⟨g, 4, none⟩) hg _
abbrev tb0 (t : TypeId) : Obj := .cells #[.int .i64 0, .int .i64 0, .int .i64 0, .slice none 0 0, .slice none 0 0] t
def TV.zero : TV := ⟨0, 0, 0, (none, 0, 0), (none, 0, 0)⟩
/-- A column's zone, a column's filter, as one value. -/
def zcw (x : List UInt8 × Zn) : Value := .agg (zcc x).toArray
def bcw (v : BV) : Value := .agg (bc v).toArray
def IsZ1 (base : Nat) (x : List UInt8 × Zn) (v : Value) (w : World) : Prop := ∃ g, v = .slice (some ⟨g, 0, none⟩) 1 1 ∧ base ≤ g ∧ RdW 8 zcc w (some ⟨g, 0, none⟩) 1 [x]
theorem IsZ1.stands (base : Nat) (x : List UInt8 × Zn) : ∀ v w w', IsZ1 base x v w → Ex w w' → IsZ1 base x v w' := by
 rintro v w w' ⟨g, rfl, h0, h1⟩ hx
 exact ⟨g, rfl, h0, h1.below hx⟩
def IsB1 (base : Nat) (x : BV) (v : Value) (w : World) : Prop := ∃ g, v = .slice (some ⟨g, 0, none⟩) 1 1 ∧ base ≤ g ∧ RdW 3 bc w (some ⟨g, 0, none⟩) 1 [x]
theorem IsB1.stands (base : Nat) (x : BV) : ∀ v w w', IsB1 base x v w → Ex w w' → IsB1 base x v w' := by
 rintro v w w' ⟨g, rfl, h0, h1⟩ hx
 exact ⟨g, rfl, h0, h1.below hx⟩
/-- What lies in the block that is made: rows, times, zones so far; and filters. -/
def OutS (wr : World) (g base : Nat) (t e1 e2 : TypeId) (r lo hi : Int) (L : List (List UInt8 × Zn)) (M : List BV) : Prop := ∃ z b : SV, TAt wr g ⟨r, lo, hi, z, b⟩ t ∧ (z.2.1 = L.length ∧ OwnW e1 8 zcc wr base (sv z) L) ∧ b.2.1 = M.length ∧ OwnW e2 3 bc wr base (sv b) M ∧ ∀ g1, (sv z).ownBlock = some g1 → (sv b).ownBlock ≠ some g1
theorem own_other {α : Type} {t : TypeId} {k : Nat} {fl : α → List Value} {w w' : World} {base : Nat} {v : Value} {l : List α} {row : Option Nat} (h : OwnW t k fl w base v l) (hg : w.grownBy w' row) (hne : ∀ g, row = some g → v.ownBlock ≠ some g) : OwnW t k fl w' base v l := by
 refine World.ownsRow.kept h hg ?_
 cases e : v.ownBlock with
 | none => exact .inl rfl
 | some g => exact .inr fun e2 => hne g e2.symm e
theorem OutS.putZ {wx w3 : World} {g base : Nat} {t e1 e2 : TypeId} {r lo hi : Int} {L L' : List (List UInt8 × Zn)} {M : List BV} {z b : SV} {a3 : Option Addr} {c3 : Nat} (hT : TAt wx g ⟨r, lo, hi, z, b⟩ t) (hgb : g < base) (hz : OwnW e1 8 zcc wx base (sv z) L) (hbn : b.2.1 = M.length) (hb : OwnW e2 3 bc wx base (sv b) M) (hne : ∀ g1, (sv z).ownBlock = some g1 → (sv b).ownBlock ≠ some g1) (hg : wx.grownBy w3 (sv z).ownBlock) (hO : OwnW e1 8 zcc w3 base (.slice a3 L'.length c3) L') (hat : (Value.slice a3 L'.length c3).ownBlock = (sv z).ownBlock ∨ (Value.slice a3 L'.length c3).ownBlock = some wx.heap.size) :
  OutS (w3.setCell ⟨g, 3, none⟩ (.slice a3 L'.length c3)) g base t e1 e2 r lo hi L' M := by
 have hzl := hz.lt
 have hbl := hb.lt
 have hT3 : TAt w3 g ⟨r, lo, hi, z, b⟩ t := hT.far hg (fun e => by have := (hzl g e).1; omega)
 refine ⟨(a3, L'.length, c3), b, hT3.set rfl, ⟨rfl, hO.apart (fun e => by have := (hO.lt g e).1; omega)⟩, hbn, (own_other hb hg hne).apart (fun e => by have := (hbl g e).1; omega), fun g1 e1 e2 => ?_⟩
 have e1' : (Value.slice a3 L'.length c3).ownBlock = some g1 := e1
 rcases hat with h | h
 ·rw [h] at e1'; exact hne g1 e1' e2
 ·rw [h] at e1'
  simp at e1'
  have := (hbl g1 e2).2
  omega
theorem OutS.putB {wx w3 : World} {g base : Nat} {t e1 e2 : TypeId} {r lo hi : Int} {L : List (List UInt8 × Zn)} {M M' : List BV} {z b : SV} {a3 : Option Addr} {c3 : Nat} (hT : TAt wx g ⟨r, lo, hi, z, b⟩ t) (hgb : g < base) (hzn : z.2.1 = L.length) (hz : OwnW e1 8 zcc wx base (sv z) L) (hb : OwnW e2 3 bc wx base (sv b) M) (hne : ∀ g1, (sv z).ownBlock = some g1 → (sv b).ownBlock ≠ some g1) (hg : wx.grownBy w3 (sv b).ownBlock) (hO : OwnW e2 3 bc w3 base (.slice a3 M'.length c3) M') (hat : (Value.slice a3 M'.length c3).ownBlock = (sv b).ownBlock ∨ (Value.slice a3 M'.length c3).ownBlock = some wx.heap.size) :
  OutS (w3.setCell ⟨g, 4, none⟩ (.slice a3 M'.length c3)) g base t e1 e2 r lo hi L M' := by
 have hzl := hz.lt
 have hbl := hb.lt
 have hT3 : TAt w3 g ⟨r, lo, hi, z, b⟩ t := hT.far hg (fun e => by have := (hbl g e).1; omega)
 refine ⟨z, (a3, M'.length, c3), hT3.set rfl, ⟨hzn, (own_other hz hg (fun g1 e1 e2 => hne g1 e2 e1)).apart (fun e => by have := (hzl g e).1; omega)⟩, rfl, hO.apart (fun e => by have := (hO.lt g e).1; omega), fun g1 e1 e2 => ?_⟩
 have e2' : (Value.slice a3 M'.length c3).ownBlock = some g1 := e2
 rcases hat with h | h
 ·rw [h] at e2'; exact hne g1 e1 e2'
 ·rw [h] at e2'
  simp at e2'
  have := (hzl g1 e1).2
  omega
theorem Try.info76 : (Try.prog.info? 76).map (fun i => (i.zero, i.size, i.bytes)) = some (some (.agg #[.string ⟨#[]⟩, .int .i64 0, .int .i64 0, .int .i64 0, .int .i64 0, .int .i64 0, .string ⟨#[]⟩, .string ⟨#[]⟩]), 8, 88) := by kernel_rfl
theorem Try.info79 : (Try.prog.info? 79).map (fun i => (i.zero, i.size, i.bytes)) = some (some (.agg #[.string ⟨#[]⟩, .int .i64 0, .slice none 0 0]), 3, 48) := by kernel_rfl
set_option maxHeartbeats 1000000 in
theorem good_bz74 {ops : Array Oper} {specs : List Rg.Spec} {a0 : Act} {w1 : World} {o : Oper} {x0 x1 x2 x3 x4 x5 x6 : Operand} {z : Zn} (ho : o.op = .build 74 #[(0, x0), (1, x1), (2, x2), (3, x3), (4, x4), (5, x5), (6, x6)]) (hg : Rg.guardV ops specs a0 o = some true)
  (h0 : Rg.argS ops specs a0 x0 = .inl (.int .i64 z.k)) (h1 : Rg.argS ops specs a0 x1 = .inl (.int .i64 z.r)) (h2 : Rg.argS ops specs a0 x2 = .inl (.int .i64 z.u)) (h3 : Rg.argS ops specs a0 x3 = .inl (.int .i64 z.mn)) (h4 : Rg.argS ops specs a0 x4 = .inl (.int .i64 z.mx)) (h5 : Rg.argS ops specs a0 x5 = .inl (.string (str z.ms))) (h6 : Rg.argS ops specs a0 x6 = .inl (.string (str z.xs))) :
  Rg.GoodOp Try.prog ops specs a0 (Ex w1) Ex o (.inl (zv z)) :=
 Rg.good_val Ex.refl hg fun a w hC hh => by
  have k0 := hh x0 (by rw [ho]; simp [Op.operands])
  have k1 := hh x1 (by rw [ho]; simp [Op.operands])
  have k2 := hh x2 (by rw [ho]; simp [Op.operands])
  have k3 := hh x3 (by rw [ho]; simp [Op.operands])
  have k4 := hh x4 (by rw [ho]; simp [Op.operands])
  have k5 := hh x5 (by rw [ho]; simp [Op.operands])
  have k6 := hh x6 (by rw [ho]; simp [Op.operands])
  rw [h0] at k0; rw [h1] at k1; rw [h2] at k2; rw [h3] at k3; rw [h4] at k4; rw [h5] at k5; rw [h6] at k6
  simp only [Rg.Spec.ok] at k0 k1 k2 k3 k4 k5 k6
  refine ⟨_, ?_, rfl⟩
  obtain ⟨ρ, hρ⟩ : ∃ ρ, a.eval = ρ := ⟨_, rfl⟩
  rw [hρ] at k0 k1 k2 k3 k4 k5 k6 ⊢
  simp [execOp, ho, k0, k1, k2, k3, k4, k5, k6, go_sem, zv]
set_option maxHeartbeats 1000000 in
theorem good_bc76 {ops : Array Oper} {specs : List Rg.Spec} {a0 : Act} {w1 : World} {o : Oper} {x y : Operand} {n : List UInt8} {z : Zn} (ho : o.op = .build 76 #[(0, x), (1, y)]) (hg : Rg.guardV ops specs a0 o = some true)
  (h0 : Rg.argS ops specs a0 x = .inl (.string (str n))) (h1 : Rg.argS ops specs a0 y = .inl (zv z)) : Rg.GoodOp Try.prog ops specs a0 (Ex w1) Ex o (.inl (zcw (n, z))) :=
 Rg.good_val Ex.refl hg fun a w hC hh => by
  have k0 := hh x (by rw [ho]; simp [Op.operands])
  have k1 := hh y (by rw [ho]; simp [Op.operands])
  rw [h0] at k0; rw [h1] at k1
  simp only [Rg.Spec.ok] at k0 k1
  refine ⟨_, ?_, rfl⟩
  obtain ⟨ρ, hρ⟩ : ∃ ρ, a.eval = ρ := ⟨_, rfl⟩
  rw [hρ] at k0 k1 ⊢
  simp [execOp, ho, k0, k1, go_sem, zv, zcw, zcc]
set_option maxHeartbeats 1000000 in
theorem good_zs43 {ops : Array Oper} {specs : List Rg.Spec} {a0 : Act} {w1 : World} {o : Oper} {x : Operand} {c : List UInt8 × Zn} (ho : o.op = .buildSlice 43 1 #[(0, x)]) (hg : Rg.guardV ops specs a0 o = some true)
  (hx : Rg.argS ops specs a0 x = .inl (zcw c)) : Rg.GoodOp Try.prog ops specs a0 (Ex w1) Ex o (.inr (IsZ1 w1.heap.size c)) :=
 Rg.good_of hg fun Q a w hC hh => by
  have h1 := hh x (by rw [ho]; simp [Op.operands])
  rw [hx] at h1
  simp only [Rg.Spec.ok] at h1
  have hal : Ex w (w.alloc (.cells (flat zcc [c]).toArray 76)) := (Below.refl _ _).alloc (Nat.le_refl _) _
  have hr : (execOp a.eval o).run Try.prog w = .ok (.value (.slice (some ⟨w.heap.size, 0, none⟩) 1 1)) (w.alloc (.cells (flat zcc [c]).toArray 76)) := by
   obtain ⟨ρ, hρ⟩ : ∃ ρ, a.eval = ρ := ⟨_, rfl⟩
   rw [hρ] at h1 ⊢
   simp [execOp, ho, h1, go_sem, zcw, flat, zcc]
  refine Rg.Fr.wp_val hr ⟨.slice (some ⟨w.heap.size, 0, none⟩) 1 1, rfl, ?_, hal, hC.trans hal⟩
  exact ⟨w.heap.size, rfl, hC.size, RdW.laid zcc_len w [c] (by simp)⟩
set_option maxHeartbeats 1000000 in
theorem good_bf77 {ops : Array Oper} {specs : List Rg.Spec} {a0 : Act} {w1 : World} {o : Oper} {x y : Operand} {k : Int} {s : SV} (ho : o.op = .build 77 #[(0, x), (1, y)]) (hg : Rg.guardV ops specs a0 o = some true)
  (h0 : Rg.argS ops specs a0 x = .inl (.int .i64 k)) (h1 : Rg.argS ops specs a0 y = .inl (sv s)) : Rg.GoodOp Try.prog ops specs a0 (Ex w1) Ex o (.inl (fv k (sv s))) :=
 Rg.good_val Ex.refl hg fun a w hC hh => by
  have k0 := hh x (by rw [ho]; simp [Op.operands])
  have k1 := hh y (by rw [ho]; simp [Op.operands])
  rw [h0] at k0; rw [h1] at k1
  simp only [Rg.Spec.ok] at k0 k1
  refine ⟨_, ?_, rfl⟩
  obtain ⟨ρ, hρ⟩ : ∃ ρ, a.eval = ρ := ⟨_, rfl⟩
  rw [hρ] at k0 k1 ⊢
  simp [execOp, ho, k0, k1, go_sem, fv, sv]
set_option maxHeartbeats 1000000 in
theorem good_bb79 {ops : Array Oper} {specs : List Rg.Spec} {a0 : Act} {w1 : World} {o : Oper} {x y : Operand} {n : List UInt8} {k : Int} {s : SV} (ho : o.op = .build 79 #[(0, x), (1, y)]) (hg : Rg.guardV ops specs a0 o = some true)
  (h0 : Rg.argS ops specs a0 x = .inl (.string (str n))) (h1 : Rg.argS ops specs a0 y = .inl (fv k (sv s))) : Rg.GoodOp Try.prog ops specs a0 (Ex w1) Ex o (.inl (bcw ⟨n, k, s⟩)) :=
 Rg.good_val Ex.refl hg fun a w hC hh => by
  have k0 := hh x (by rw [ho]; simp [Op.operands])
  have k1 := hh y (by rw [ho]; simp [Op.operands])
  rw [h0] at k0; rw [h1] at k1
  simp only [Rg.Spec.ok] at k0 k1
  refine ⟨_, ?_, rfl⟩
  obtain ⟨ρ, hρ⟩ : ∃ ρ, a.eval = ρ := ⟨_, rfl⟩
  rw [hρ] at k0 k1 ⊢
  simp [execOp, ho, k0, k1, go_sem, fv, sv, bcw, bc]
set_option maxHeartbeats 1000000 in
theorem good_bs44 {ops : Array Oper} {specs : List Rg.Spec} {a0 : Act} {w1 : World} {o : Oper} {x : Operand} {c : BV} (ho : o.op = .buildSlice 44 1 #[(0, x)]) (hg : Rg.guardV ops specs a0 o = some true)
  (hx : Rg.argS ops specs a0 x = .inl (bcw c)) : Rg.GoodOp Try.prog ops specs a0 (Ex w1) Ex o (.inr (IsB1 w1.heap.size c)) :=
 Rg.good_of hg fun Q a w hC hh => by
  have h1 := hh x (by rw [ho]; simp [Op.operands])
  rw [hx] at h1
  simp only [Rg.Spec.ok] at h1
  have hal : Ex w (w.alloc (.cells (flat bc [c]).toArray 79)) := (Below.refl _ _).alloc (Nat.le_refl _) _
  have hr : (execOp a.eval o).run Try.prog w = .ok (.value (.slice (some ⟨w.heap.size, 0, none⟩) 1 1)) (w.alloc (.cells (flat bc [c]).toArray 79)) := by
   obtain ⟨ρ, hρ⟩ : ∃ ρ, a.eval = ρ := ⟨_, rfl⟩
   rw [hρ] at h1 ⊢
   simp [execOp, ho, h1, go_sem, bcw, flat, bc, sv]
  refine Rg.Fr.wp_val hr ⟨.slice (some ⟨w.heap.size, 0, none⟩) 1 1, rfl, ?_, hal, hC.trans hal⟩
  exact ⟨w.heap.size, rfl, hC.size, RdW.laid bc_len w [c] (by simp)⟩
theorem res_stats46 {fn : Func} {tmps : Array Value} {w9 : World} {g i : Nat} {v : TV} (hfn : fn.results = #[ResultVar.cell i 46]) (ht : tmps.getD i undef = .pointer (some ⟨g, 0, none⟩)) (h : TAt w9 g v 46) : (results fn tmps).run Try.prog w9 = .ok (tvv v) w9 := by
 have hl : (loadVar 46 ⟨g, 0, none⟩).run Try.prog w9 = .ok (tvv v) w9 := by
  obtain ⟨c0, c1, c2, c3, c4⟩ := h.all
  clear h
  simp [go_sem, tvv, sv, c0, c1, c2, c3, c4]
 have ht' : tmps[i]?.getD undef = .pointer (some ⟨g, 0, none⟩) := by simpa using ht
 simp [results, hfn, ht', asAddr, Sem.run_bind, Result.andThen, hl]
set_option maxHeartbeats 8000000 in
set_option maxRecDepth 100000 in
theorem in_is (v : TV) (s : St) (w : World) (hS : StOk w v s) (hzl : s.zs.length ≤ 1000) (hbl : s.bs.length ≤ 1000) : Calls Try.prog 12 #[tvv v] w fun e w' => ∃ u, e = .returned (tvv u) ∧ StOk w' u s ∧ Ex w w' := by
 obtain ⟨vr, vl, vh, ⟨p, n, cap⟩, ⟨q, nq, capq⟩⟩ := v
 obtain ⟨⟨rfl, rfl, rfl⟩, ⟨hn, hB⟩, hnq, hQ⟩ := hS
 simp only at hn hB hnq hQ
 subst hn hnq
 have h1 := hB.1
 have h2 := hB.2.1
 obtain ⟨h3, h4⟩ := hQ.bounds
 obtain ⟨vs, hv1, hv2⟩ := hQ
 have hvl := hv2.1
 unfold maxLen at h2 h4
 obtain ⟨W, hW⟩ : ∃ W, ((w.alloc (tb ⟨s.rows, s.lo, s.hi, (p, s.zs.length, cap), (q, s.bs.length, capq)⟩ 38)).alloc (tb0 46)).alloc (tb ⟨s.rows, s.lo, s.hi, (none, 0, 0), (none, 0, 0)⟩ 46) = W := ⟨_, rfl⟩
 have x1 : Ex w (w.alloc (tb ⟨s.rows, s.lo, s.hi, (p, s.zs.length, cap), (q, s.bs.length, capq)⟩ 38)) := (Below.refl _ _).alloc (Nat.le_refl _) _
 have x2 : Ex w ((w.alloc (tb ⟨s.rows, s.lo, s.hi, (p, s.zs.length, cap), (q, s.bs.length, capq)⟩ 38)).alloc (tb0 46)) := Below.alloc x1 (by simp) _
 have HX : Hid (Ex w W) := (by rw [← hW]; exact Below.alloc x2 (by simp; omega) _ : Ex w W)
 have HSZ : Hid (W.heap.size = w.heap.size + 1 + 1 + 1) := (by rw [← hW]; simp : W.heap.size = w.heap.size + 1 + 1 + 1)
 have HB : Hid (RdZ w p cap s.zs) := hB
 have HV : Hid (RdW 3 bc w q capq vs) := hv1
 have HEB : Hid (EachB w vs s.bs) := hv2
 have HT0 : Hid (TAt W w.heap.size ⟨s.rows, s.lo, s.hi, (p, s.zs.length, cap), (q, s.bs.length, capq)⟩ 38) := (by rw [← hW]; exact ((TAt.new w _ _).alloc _).alloc _ : TAt W w.heap.size _ _)
 have HT1 : Hid (TAt W (w.heap.size + 1) TV.zero 46) := (by
  have h := (TAt.new (w.alloc (tb ⟨s.rows, s.lo, s.hi, (p, s.zs.length, cap), (q, s.bs.length, capq)⟩ 38)) TV.zero 46).alloc (tb ⟨s.rows, s.lo, s.hi, (none, 0, 0), (none, 0, 0)⟩ 46)
  have hs : (w.alloc (tb ⟨s.rows, s.lo, s.hi, (p, s.zs.length, cap), (q, s.bs.length, capq)⟩ 38)).heap.size = w.heap.size + 1 := by simp
  rw [hs] at h
  rw [← hW]; exact h : TAt W (w.heap.size + 1) _ _)
 have HT2 : Hid (TAt W (w.heap.size + 1 + 1) ⟨s.rows, s.lo, s.hi, (none, 0, 0), (none, 0, 0)⟩ 46) := (by
  have h := TAt.new ((w.alloc (tb ⟨s.rows, s.lo, s.hi, (p, s.zs.length, cap), (q, s.bs.length, capq)⟩ 38)).alloc (tb0 46)) ⟨s.rows, s.lo, s.hi, (none, 0, 0), (none, 0, 0)⟩ 46
  have hs : ((w.alloc (tb ⟨s.rows, s.lo, s.hi, (p, s.zs.length, cap), (q, s.bs.length, capq)⟩ 38)).alloc (tb0 46)).heap.size = w.heap.size + 1 + 1 := by simp
  rw [hs] at h
  rw [← hW]; exact h : TAt W (w.heap.size + 1 + 1) _ _)
 have HW : Hid (((w.alloc (tb ⟨s.rows, s.lo, s.hi, (p, s.zs.length, cap), (q, s.bs.length, capq)⟩ 38)).alloc (tb0 46)).alloc (tb ⟨s.rows, s.lo, s.hi, (none, 0, 0), (none, 0, 0)⟩ 46) = W) := hW
 clear hB hW x1 x2 hv1 hv2
 unfold tvv
 simp only [sv]
 go_enter Try.func12, Try.ntmps12
 go_wp2_with fail
 have hW := HW.out
 simp only [tb, sv] at hW
 rw [hW]
 clear hW HW
 go_loopw [4] (fun iv wr => ∃ i : Nat, i ≤ s.zs.length ∧ iv = .int .i64 i ∧ Hid (OutS wr (w.heap.size + 1 + 1) W.heap.size 46 76 79 s.rows s.lo s.hi (s.zs.take i) []) ∧ Hid (TAt wr w.heap.size ⟨s.rows, s.lo, s.hi, (p, s.zs.length, cap), (q, s.bs.length, capq)⟩ 38) ∧ Hid (TAt wr (w.heap.size + 1) TV.zero 46) ∧ Hid (W.heap.size ≤ wr.heap.size) ∧ Hid (Ex w wr)) (fun iv wr => s.zs.length - (intOf iv).toNat)
 case atStart => exact ⟨0, by omega, rfl, (⟨(none, 0, 0), (none, 0, 0), HT2.out, ⟨rfl, ownW_none _ _⟩, rfl, ownW_none _ _, fun g1 e => by simp [sv, Value.ownBlock] at e⟩ : OutS W _ _ _ _ _ _ _ _ (s.zs.take 0) []), HT0, HT1, (Nat.le_refl _ : W.heap.size ≤ W.heap.size), HX⟩
 case round =>
  obtain ⟨i, hi, rfl, HO, HTp0, HTz, HSr, HXr⟩ := hrel
  obtain ⟨t0, t1, t2, t3, t4⟩ := HTp0.out.all
  simp only at t0 t1 t2 t3 t4
  by_cases hlt : i < s.zs.length
  ·have hti : (i : Int) < (s.zs.length : Int) := by omega
   obtain ⟨b, off, rfl, e0, e1, e2, e3, e4, e5, e6, e7⟩ := RdZ.eight (HB.out.below HXr.out) hlt
   obtain ⟨⟨dn, d⟩, hd⟩ : ∃ d, s.zs[i] = d := ⟨_, rfl⟩
   rw [hd] at e0 e1 e2 e3 e4 e5 e6 e7
   simp only at e0 e1 e2 e3 e4 e5 e6 e7
   have HNX : Hid (s.zs.take (i + 1) = s.zs.take i ++ [(dn, d)]) := (by rw [List.take_add_one, List.getElem?_eq_getElem hlt, hd]; rfl : s.zs.take (i + 1) = s.zs.take i ++ [(dn, d)])
   obtain ⟨w1, hw1⟩ : ∃ w1, wr.alloc (zb d 25) = w1 := ⟨_, rfl⟩
   have hX1 : Ex wr w1 := by rw [← hw1]; exact (Below.refl _ _).alloc (Nat.le_refl _) _
   have HX1 : Hid (Ex wr w1) := hX1
   have HZ5 : Hid (ZAt w1 wr.heap.size d 25) := (by rw [← hw1]; exact ZAt.new wr d 25 : ZAt w1 wr.heap.size d 25)
   have HE0 : Hid (w1.cell? ⟨b, off + i * 8, none⟩ = some (.string (str dn))) := cell_ex e0 hX1
   obtain ⟨⟨za, zn, zc⟩, bb, hT, ⟨hzn, hzo⟩, hbn, hbo, hne⟩ := HO.out
   have htl : (s.zs.take i).length = i := by simp; omega
   simp only at hzn
   rw [htl] at hzn
   subst hzn
   have HTo : Hid (TAt w1 (w.heap.size + 1 + 1) ⟨s.rows, s.lo, s.hi, (za, zn, zc), bb⟩ 46) := hT.below hX1
   have HZO : Hid (OwnW 76 8 zcc w1 W.heap.size (.slice za zn zc) (s.zs.take zn)) := hzo.later hX1
   have HBO : Hid (OwnW 79 3 bc w1 W.heap.size (sv bb) []) := hbo.later hX1
   have HBN : Hid (bb.2.1 = 0) := hbn
   have HNE : Hid (∀ g1, (Value.slice za zn zc).ownBlock = some g1 → (sv bb).ownBlock ≠ some g1) := hne
   have HTp : Hid (TAt w1 w.heap.size ⟨s.rows, s.lo, s.hi, (some ⟨b, off, none⟩, s.zs.length, cap), (q, s.bs.length, capq)⟩ 38) := HTp0.out.below hX1
   have HTL : Hid ((s.zs.take zn).length = zn) := htl
   clear hX1 hT hzo hbn hbo hne htl hd
   go_wp2_with fail
   have hre := Ex.refl
   refine Rg.wp_rows_tail (List.take 25 _) (List.drop 25 _) (List.take_append_drop 25 _).symm [.inl (Value.pointer (some ⟨w.heap.size + 1 + 1, 3, none⟩)), .inl (.slice za zn zc), .inl (Value.pointer (some ⟨w.heap.size, 3, none⟩)), .inl (.slice (some ⟨b, off, none⟩) s.zs.length cap), .inl (.int .i64 (zn : Int)), .inl (Value.pointer (some ⟨b, off + zn * 8, none⟩)), .inl (Value.pointer (some ⟨b, off + zn * 8, none⟩)), .inl (.string (str dn)), .inl (Value.pointer (some ⟨wr.heap.size, 0, none⟩)), .inl (.int .i64 d.k), .inl (Value.pointer (some ⟨wr.heap.size, 1, none⟩)), .inl (.int .i64 d.r), .inl (Value.pointer (some ⟨wr.heap.size, 2, none⟩)), .inl (.int .i64 d.u), .inl (Value.pointer (some ⟨wr.heap.size, 3, none⟩)), .inl (.int .i64 d.mn), .inl (Value.pointer (some ⟨wr.heap.size, 4, none⟩)), .inl (.int .i64 d.mx), .inl (Value.pointer (some ⟨wr.heap.size, 5, none⟩)), .inl (.string (str d.ms)), .inl (Value.pointer (some ⟨wr.heap.size, 6, none⟩)), .inl (.string (str d.xs)), .inl (zv d), .inl (zcw (dn, d)), .inr (IsZ1 w1.heap.size (dn, d))] (Ex w1) Ex 86 (by kernel_rfl) rfl (by kernel_rfl) (by kernel_rfl) (by kernel_rfl) (by decide) (by kernel_rfl) ?st hre (Ex.drew _) ?goods ?fin
   case st => exact ⟨IsZ1.stands _ _, trivial⟩
   case goods =>
    refine Rg.goods_cons (Rg.good_field hre rfl rfl rfl (fun wx hC => by go_simp)) ?_
    refine Rg.goods_cons (Rg.good_load hre rfl rfl rfl (fun wx hC => by have hz := (HTo.out.below hC).all.2.2.2.1; go_simp)) ?_
    refine Rg.goods_cons (Rg.good_field hre rfl rfl rfl (fun wx hC => by go_simp)) ?_
    refine Rg.goods_cons (Rg.good_load hre rfl rfl rfl (fun wx hC => by have hz := (HTp.out.below hC).all.2.2.2.1; go_simp)) ?_
    refine Rg.goods_cons (Rg.good_move hre rfl rfl rfl) ?_
    refine Rg.goods_cons (Rg.good_index hre rfl rfl rfl rfl (fun wx hC => by go_simp)) ?_
    refine Rg.goods_cons (Rg.good_field hre rfl rfl rfl (fun wx hC => by go_simp)) ?_
    refine Rg.goods_cons (Rg.good_load hre rfl rfl rfl (fun wx hC => by have hz := cell_ex HE0.out hC; simp [go_sem, hz])) ?_
    refine Rg.goods_cons (Rg.good_field hre rfl rfl rfl (fun wx hC => by go_simp)) ?_
    refine Rg.goods_cons (Rg.good_load hre rfl rfl rfl (fun wx hC => by have hz := (HZ5.out.below hC).all.1; go_simp)) ?_
    refine Rg.goods_cons (Rg.good_field hre rfl rfl rfl (fun wx hC => by go_simp)) ?_
    refine Rg.goods_cons (Rg.good_load hre rfl rfl rfl (fun wx hC => by have hz := (HZ5.out.below hC).all.2.1; go_simp)) ?_
    refine Rg.goods_cons (Rg.good_field hre rfl rfl rfl (fun wx hC => by go_simp)) ?_
    refine Rg.goods_cons (Rg.good_load hre rfl rfl rfl (fun wx hC => by have hz := (HZ5.out.below hC).all.2.2.1; go_simp)) ?_
    refine Rg.goods_cons (Rg.good_field hre rfl rfl rfl (fun wx hC => by go_simp)) ?_
    refine Rg.goods_cons (Rg.good_load hre rfl rfl rfl (fun wx hC => by have hz := (HZ5.out.below hC).all.2.2.2.1; go_simp)) ?_
    refine Rg.goods_cons (Rg.good_field hre rfl rfl rfl (fun wx hC => by go_simp)) ?_
    refine Rg.goods_cons (Rg.good_load hre rfl rfl rfl (fun wx hC => by have hz := (HZ5.out.below hC).all.2.2.2.2.1; go_simp)) ?_
    refine Rg.goods_cons (Rg.good_field hre rfl rfl rfl (fun wx hC => by go_simp)) ?_
    refine Rg.goods_cons (Rg.good_load hre rfl rfl rfl (fun wx hC => by have hz := (HZ5.out.below hC).all.2.2.2.2.2.1; go_simp)) ?_
    refine Rg.goods_cons (Rg.good_field hre rfl rfl rfl (fun wx hC => by go_simp)) ?_
    refine Rg.goods_cons (Rg.good_load hre rfl rfl rfl (fun wx hC => by have hz := (HZ5.out.below hC).all.2.2.2.2.2.2; go_simp)) ?_
    refine Rg.goods_cons (good_bz74 rfl rfl rfl rfl rfl rfl rfl rfl rfl) ?_
    refine Rg.goods_cons (good_bc76 rfl rfl rfl rfl) ?_
    refine Rg.goods_cons (good_zs43 rfl rfl rfl) ?_
    exact Rg.goods_nil
   case fin =>
    intro wx hx
    simp only [Rg.later, List.take_succ_cons, List.take_zero, List.drop_succ_cons, List.drop_zero, Act.put, List.setIfInBounds_toArray, List.set_cons_succ, List.set_cons_zero]
    rintro v52 ⟨g52, rfl, hg52, hR52⟩
    have hbase : W.heap.size ≤ wx.heap.size := Nat.le_trans HSr.out (Nat.le_trans HX1.out.size hx.size)
    refine wpList_append_wide zcc_len zcc_one rfl (.tmp 29) (.tmp 52) 43 _ 88 rfl Try.underlying43 Try.info76 (by decide) rfl W.heap.size (.slice za zn zc) (s.zs.take zn) rfl (HZO.out.later hx) (some ⟨g52, 0, none⟩) 1 1 [(dn, d)] rfl rfl hR52 (by have := HTL.out; unfold maxLen; simp; omega) (by have := HTL.out; simp; omega) hbase ?_
    intro v' w3 hO3 hg3 hat3
    have hzl3 := (HZO.out.later hx).lt
    have hX3 : Ex w w3 := Below.grown ((HXr.out.trans HX1.out).trans hx) hg3 ((HXr.out.trans HX1.out).trans hx).size (fun g hg => by have h1 := hzl3 g hg; have h2 := HSZ.out; omega)
    rw [← HNX.out] at hO3
    obtain ⟨a3, c3, rfl, _⟩ := OwnW.rd zcc_len hO3
    have hlen : (s.zs.take (zn + 1)).length = zn + 1 := by simp; omega
    have hO4 := OutS.putZ (M := []) (HTo.out.below hx) (by have := HSZ.out; omega) (HZO.out.later hx) HBN.out (HBO.out.later hx) HNE.out hg3 hO3 hat3
    rw [hlen] at hO4 ⊢
    obtain ⟨w4, hw4⟩ : ∃ w4, w3.setCell ⟨w.heap.size + 1 + 1, 3, none⟩ (.slice a3 (zn + 1) c3) = w4 := ⟨_, rfl⟩
    have hneg : ∀ g, g < W.heap.size → (Value.slice za zn zc).ownBlock ≠ some g := fun g hg e => by have := (hzl3 g e).1; omega
    have HO4 : Hid (OutS w4 (w.heap.size + 1 + 1) W.heap.size 46 76 79 s.rows s.lo s.hi (s.zs.take (zn + 1)) []) := (by rw [← hw4]; exact hO4 : OutS _ _ _ _ _ _ _ _ _ _ _)
    have HTp4 : Hid (TAt w4 w.heap.size ⟨s.rows, s.lo, s.hi, (some ⟨b, off, none⟩, s.zs.length, cap), (q, s.bs.length, capq)⟩ 38) := (by rw [← hw4]; exact ((HTp.out.below hx).far hg3 (hneg _ (by have := HSZ.out; omega))).other (by omega) : TAt w4 _ _ _)
    have HTz4 : Hid (TAt w4 (w.heap.size + 1) TV.zero 46) := (by rw [← hw4]; exact (((HTz.out.below HX1.out).below hx).far hg3 (hneg _ (by have := HSZ.out; omega))).other (by omega) : TAt w4 _ _ _)
    have HX4 : Hid (Ex w w4) := (by rw [← hw4]; exact Below.setCell hX3 (by simp; omega) _ : Ex w w4)
    have HS4 : Hid (W.heap.size ≤ w4.heap.size) := (by have h3 := hg3.size; rw [← hw4]; simp; omega : W.heap.size ≤ w4.heap.size)
    have hT3 : TAt w3 (w.heap.size + 1 + 1) ⟨s.rows, s.lo, s.hi, (za, zn, zc), bb⟩ 46 := (HTo.out.below hx).far hg3 (hneg _ (by have := HSZ.out; omega))
    have f3 := hT3.fro.2.2.2.1
    have c3' := hT3.all.2.2.2.1
    simp only at c3'
    clear hO3 hg3 hat3 hX3 hneg hT3 hzl3 hlen hO4 hR52 hx hbase
    go_wp2_with fail
    go_roundw
    case rel => exact ⟨zn + 1, by omega, by go_num, HO4, HTp4, HTz4, HS4, HX4⟩
    case measure => simp [intOf]; omega
  ·have hti : ¬ (i : Int) < (s.zs.length : Int) := by omega
   have HO2 : Hid (OutS wr (w.heap.size + 1 + 1) W.heap.size 46 76 79 s.rows s.lo s.hi s.zs []) := (by have h := HO.out; rw [List.take_of_length_le (by omega)] at h; exact h : OutS _ _ _ _ _ _ _ _ _ _ _)
   clear HO
   go_wp2_with fail
   clear t0 t1 t2 t3 t4
   rename World => w6
   go_loopw [6] (fun iv wr => ∃ i : Nat, i ≤ s.bs.length ∧ iv = .int .i64 i ∧ Hid (OutS wr (w.heap.size + 1 + 1) W.heap.size 46 76 79 s.rows s.lo s.hi s.zs (vs.take i)) ∧ Hid (TAt wr w.heap.size ⟨s.rows, s.lo, s.hi, (p, s.zs.length, cap), (q, s.bs.length, capq)⟩ 38) ∧ Hid (TAt wr (w.heap.size + 1) TV.zero 46) ∧ Hid (W.heap.size ≤ wr.heap.size) ∧ Hid (Ex w wr)) (fun iv wr => s.bs.length - (intOf iv).toNat)
   case atStart => exact ⟨0, by omega, rfl, HO2, HTp0, HTz, HSr, HXr⟩
   case round =>
    clear HO2 HTp0 HTz HSr HXr hti hi
    obtain ⟨i, hi, rfl, HO, HTp0, HTz, HSr, HXr⟩ := hrel
    obtain ⟨t0, t1, t2, t3, t4⟩ := HTp0.out.all
    simp only at t0 t1 t2 t3 t4
    by_cases hlt : i < s.bs.length
    ·have hti : (i : Int) < (s.bs.length : Int) := by omega
     have hlv : i < vs.length := by omega
     obtain ⟨b, off, rfl, hcs⟩ := (HV.out.below HXr.out).at hlv
     obtain ⟨⟨dn, dk, dS⟩, hd⟩ : ∃ d, vs[i] = d := ⟨_, rfl⟩
     rw [hd] at hcs
     have e0 := hcs 0 _ rfl
     have e1 := hcs 1 _ rfl
     have e2 := hcs 2 _ rfl
     simp only [Nat.add_zero, sv] at e0 e1 e2
     have HNX : Hid (vs.take (i + 1) = vs.take i ++ [⟨dn, dk, dS⟩]) := (by rw [List.take_add_one, List.getElem?_eq_getElem hlv, hd]; rfl : vs.take (i + 1) = vs.take i ++ [⟨dn, dk, dS⟩])
     obtain ⟨w1, hw1⟩ : ∃ w1, wr.alloc (.cells #[.int .i64 dk, .slice dS.1 dS.2.1 dS.2.2] 32) = w1 := ⟨_, rfl⟩
     have hX1 : Ex wr w1 := by rw [← hw1]; exact (Below.refl _ _).alloc (Nat.le_refl _) _
     have HX1 : Hid (Ex wr w1) := hX1
     have HF5 : Hid (w1.cell? ⟨wr.heap.size, 0, none⟩ = some (.int .i64 dk) ∧ w1.cell? ⟨wr.heap.size, 1, none⟩ = some (.slice dS.1 dS.2.1 dS.2.2)) := (by
      have h : w1.heap[wr.heap.size]? = some (.cells #[.int .i64 dk, .slice dS.1 dS.2.1 dS.2.2] 32 (0, 0)) := by rw [← hw1]; exact heap_alloc_new wr _
      exact ⟨by rw [cell_of_row w1 _ 0 _ 32 (0, 0) h]; rfl, by rw [cell_of_row w1 _ 1 _ 32 (0, 0) h]; rfl⟩ : _ ∧ _)
     have HE0 : Hid (w1.cell? ⟨b, off + i * 3, none⟩ = some (.string (str dn))) := cell_ex e0 hX1
     obtain ⟨zz, ⟨ba, bn, bcap⟩, hT, ⟨hzn, hzo⟩, hbn, hbo, hne⟩ := HO.out
     have htl : (vs.take i).length = i := by simp; omega
     simp only at hbn
     rw [htl] at hbn
     subst hbn
     have HTo : Hid (TAt w1 (w.heap.size + 1 + 1) ⟨s.rows, s.lo, s.hi, zz, (ba, bn, bcap)⟩ 46) := hT.below hX1
     have HZO : Hid (OwnW 76 8 zcc w1 W.heap.size (sv zz) s.zs) := hzo.later hX1
     have HZN : Hid (zz.2.1 = s.zs.length) := hzn
     have HBO : Hid (OwnW 79 3 bc w1 W.heap.size (.slice ba bn bcap) (vs.take bn)) := hbo.later hX1
     have HNE : Hid (∀ g1, (sv zz).ownBlock = some g1 → (Value.slice ba bn bcap).ownBlock ≠ some g1) := hne
     have HTp : Hid (TAt w1 w.heap.size ⟨s.rows, s.lo, s.hi, (p, s.zs.length, cap), (some ⟨b, off, none⟩, s.bs.length, capq)⟩ 38) := HTp0.out.below hX1
     have HTL : Hid ((vs.take bn).length = bn) := htl
     clear hX1 hT hzo hzn hbo hne htl hd hcs
     go_wp2_with fail
     have hre := Ex.refl
     refine Rg.wp_rows_tail (List.take 15 _) (List.drop 15 _) (List.take_append_drop 15 _).symm [.inl (Value.pointer (some ⟨w.heap.size + 1 + 1, 4, none⟩)), .inl (.slice ba bn bcap), .inl (Value.pointer (some ⟨w.heap.size, 4, none⟩)), .inl (.slice (some ⟨b, off, none⟩) s.bs.length capq), .inl (.int .i64 (bn : Int)), .inl (Value.pointer (some ⟨b, off + bn * 3, none⟩)), .inl (Value.pointer (some ⟨b, off + bn * 3, none⟩)), .inl (.string (str dn)), .inl (Value.pointer (some ⟨wr.heap.size, 0, none⟩)), .inl (.int .i64 dk), .inl (Value.pointer (some ⟨wr.heap.size, 1, none⟩)), .inl (sv dS), .inl (fv dk (sv dS)), .inl (bcw ⟨dn, dk, dS⟩), .inr (IsB1 w1.heap.size ⟨dn, dk, dS⟩)] (Ex w1) Ex 86 (by kernel_rfl) rfl (by kernel_rfl) (by kernel_rfl) (by kernel_rfl) (by decide) (by kernel_rfl) ?st hre (Ex.drew _) ?goods ?fin
     case st => exact ⟨IsB1.stands _ _, trivial⟩
     case goods =>
      refine Rg.goods_cons (Rg.good_field hre rfl rfl rfl (fun wx hC => by go_simp)) ?_
      refine Rg.goods_cons (Rg.good_load hre rfl rfl rfl (fun wx hC => by have hz := (HTo.out.below hC).all.2.2.2.2; go_simp)) ?_
      refine Rg.goods_cons (Rg.good_field hre rfl rfl rfl (fun wx hC => by go_simp)) ?_
      refine Rg.goods_cons (Rg.good_load hre rfl rfl rfl (fun wx hC => by have hz := (HTp.out.below hC).all.2.2.2.2; go_simp)) ?_
      refine Rg.goods_cons (Rg.good_move hre rfl rfl rfl) ?_
      refine Rg.goods_cons (Rg.good_index hre rfl rfl rfl rfl (fun wx hC => by go_simp)) ?_
      refine Rg.goods_cons (Rg.good_field hre rfl rfl rfl (fun wx hC => by go_simp)) ?_
      refine Rg.goods_cons (Rg.good_load hre rfl rfl rfl (fun wx hC => by have hz := cell_ex HE0.out hC; simp [go_sem, hz])) ?_
      refine Rg.goods_cons (Rg.good_field hre rfl rfl rfl (fun wx hC => by go_simp)) ?_
      refine Rg.goods_cons (Rg.good_load hre rfl rfl rfl (fun wx hC => by have hz := cell_ex HF5.out.1 hC; simp [go_sem, hz])) ?_
      refine Rg.goods_cons (Rg.good_field hre rfl rfl rfl (fun wx hC => by go_simp)) ?_
      refine Rg.goods_cons (Rg.good_load hre rfl rfl rfl (fun wx hC => by have hz := cell_ex HF5.out.2 hC; simp [go_sem, hz])) ?_
      refine Rg.goods_cons (good_bf77 rfl rfl rfl rfl) ?_
      refine Rg.goods_cons (good_bb79 rfl rfl rfl rfl) ?_
      refine Rg.goods_cons (good_bs44 rfl rfl rfl) ?_
      exact Rg.goods_nil
     case fin =>
      intro wx hx
      simp only [Rg.later, List.take_succ_cons, List.take_zero, List.drop_succ_cons, List.drop_zero, Act.put, List.setIfInBounds_toArray, List.set_cons_succ, List.set_cons_zero]
      rintro v52 ⟨g52, rfl, hg52, hR52⟩
      have hbase : W.heap.size ≤ wx.heap.size := Nat.le_trans HSr.out (Nat.le_trans HX1.out.size hx.size)
      refine wpList_append_wide bc_len bc_one rfl (.tmp 69) (.tmp 82) 44 _ 48 rfl Try.underlying44 Try.info79 (by decide) rfl W.heap.size (.slice ba bn bcap) (vs.take bn) rfl (HBO.out.later hx) (some ⟨g52, 0, none⟩) 1 1 [⟨dn, dk, dS⟩] rfl rfl hR52 (by have := HTL.out; unfold maxLen; simp; omega) (by have := HTL.out; simp; omega) hbase ?_
      intro v' w3 hO3 hg3 hat3
      have hbl3 := (HBO.out.later hx).lt
      have hX3 : Ex w w3 := Below.grown ((HXr.out.trans HX1.out).trans hx) hg3 ((HXr.out.trans HX1.out).trans hx).size (fun g hg => by have h1 := hbl3 g hg; have h2 := HSZ.out; omega)
      rw [← HNX.out] at hO3
      obtain ⟨a3, c3, rfl, _⟩ := OwnW.rd bc_len hO3
      have hlen : (vs.take (bn + 1)).length = bn + 1 := by simp; omega
      have hO4 := OutS.putB (HTo.out.below hx) (by have := HSZ.out; omega) HZN.out (HZO.out.later hx) (HBO.out.later hx) HNE.out hg3 hO3 hat3
      rw [hlen] at hO4 ⊢
      obtain ⟨w4, hw4⟩ : ∃ w4, w3.setCell ⟨w.heap.size + 1 + 1, 4, none⟩ (.slice a3 (bn + 1) c3) = w4 := ⟨_, rfl⟩
      have hneg : ∀ g, g < W.heap.size → (Value.slice ba bn bcap).ownBlock ≠ some g := fun g hg e => by have := (hbl3 g e).1; omega
      have HO4 : Hid (OutS w4 (w.heap.size + 1 + 1) W.heap.size 46 76 79 s.rows s.lo s.hi s.zs (vs.take (bn + 1))) := (by rw [← hw4]; exact hO4 : OutS _ _ _ _ _ _ _ _ _ _ _)
      have HTp4 : Hid (TAt w4 w.heap.size ⟨s.rows, s.lo, s.hi, (p, s.zs.length, cap), (some ⟨b, off, none⟩, s.bs.length, capq)⟩ 38) := (by rw [← hw4]; exact ((HTp.out.below hx).far hg3 (hneg _ (by have := HSZ.out; omega))).other (by omega) : TAt w4 _ _ _)
      have HTz4 : Hid (TAt w4 (w.heap.size + 1) TV.zero 46) := (by rw [← hw4]; exact (((HTz.out.below HX1.out).below hx).far hg3 (hneg _ (by have := HSZ.out; omega))).other (by omega) : TAt w4 _ _ _)
      have HX4 : Hid (Ex w w4) := (by rw [← hw4]; exact Below.setCell hX3 (by simp; omega) _ : Ex w w4)
      have HS4 : Hid (W.heap.size ≤ w4.heap.size) := (by have h3 := hg3.size; rw [← hw4]; simp; omega : W.heap.size ≤ w4.heap.size)
      have hT3 : TAt w3 (w.heap.size + 1 + 1) ⟨s.rows, s.lo, s.hi, zz, (ba, bn, bcap)⟩ 46 := (HTo.out.below hx).far hg3 (hneg _ (by have := HSZ.out; omega))
      have f3 := hT3.fro.2.2.2.2
      have c3' := hT3.all.2.2.2.2
      simp only at c3'
      clear hO3 hg3 hat3 hX3 hneg hT3 hbl3 hlen hO4 hR52 hx hbase
      go_wp2_with fail
      go_roundw
      case rel => exact ⟨bn + 1, by omega, by go_num, HO4, HTp4, HTz4, HS4, HX4⟩
      case measure => simp [intOf]; omega
    ·have hti : ¬ (i : Int) < (s.bs.length : Int) := by omega
     obtain ⟨⟨za, zn, zc⟩, ⟨ba, bn, bcap⟩, hT, ⟨hzn, hzo⟩, hbn, hbo, hne⟩ := HO.out
     rw [List.take_of_length_le (by omega)] at hbn hbo
     obtain ⟨z0, z1, z2, z3, z4⟩ := hT.all
     obtain ⟨y0, y1, y2, y3, y4⟩ := HTz.out.all
     obtain ⟨f0, f1, f2, f3, f4⟩ := HTz.out.fro
     simp only [TV.zero] at z0 z1 z2 z3 z4 y0 y1 y2 y3 y4
     have HZO : Hid (OwnW 76 8 zcc wr W.heap.size (.slice za zn zc) s.zs) := hzo
     have HBO : Hid (OwnW 79 3 bc wr W.heap.size (.slice ba bn bcap) vs) := hbo
     have HZN : Hid (zn = s.zs.length ∧ bn = vs.length) := (⟨hzn, hbn⟩ : zn = s.zs.length ∧ bn = vs.length)
     clear hT hzo hbo hne hzn hbn
     go_wp2_with fail
     have hL9 := HTz.out.store ⟨s.rows, s.lo, s.hi, (za, zn, zc), (ba, bn, bcap)⟩
     have hX9 := Below.tset HXr.out (Nat.le_succ w.heap.size) ⟨s.rows, s.lo, s.hi, (za, zn, zc), (ba, bn, bcap)⟩
     refine bodyPost_ret (v := tvv ⟨s.rows, s.lo, s.hi, (za, zn, zc), (ba, bn, bcap)⟩) (res_stats46 Try.results12 rfl hL9) rfl ⟨_, rfl, ?_, hX9⟩
     have hz9 : OwnW 76 8 zcc (tset wr (w.heap.size + 1) ⟨s.rows, s.lo, s.hi, (za, zn, zc), (ba, bn, bcap)⟩) W.heap.size (.slice za zn zc) s.zs := ((((HZO.out.other (by have := HSZ.out; omega)).other (by have := HSZ.out; omega)).other (by have := HSZ.out; omega)).other (by have := HSZ.out; omega)).other (by have := HSZ.out; omega)
     have hb9 : OwnW 79 3 bc (tset wr (w.heap.size + 1) ⟨s.rows, s.lo, s.hi, (za, zn, zc), (ba, bn, bcap)⟩) W.heap.size (.slice ba bn bcap) vs := ((((HBO.out.other (by have := HSZ.out; omega)).other (by have := HSZ.out; omega)).other (by have := HSZ.out; omega)).other (by have := HSZ.out; omega)).other (by have := HSZ.out; omega)
     obtain ⟨a9, c9, ez, hz⟩ := OwnW.rd zcc_len hz9
     obtain ⟨a8, c8, eb, hb⟩ := OwnW.rd bc_len hb9
     simp only [Value.slice.injEq] at ez eb
     obtain ⟨rfl, _, rfl⟩ := ez
     obtain ⟨rfl, _, rfl⟩ := eb
     exact ⟨⟨rfl, rfl, rfl⟩, ⟨HZN.out.1, hz⟩, by rw [HZN.out.2]; exact HEB.out.1, vs, hb, HEB.out.below hX9⟩
end Go.Proofs.Ytibnhjfeepdddaa
