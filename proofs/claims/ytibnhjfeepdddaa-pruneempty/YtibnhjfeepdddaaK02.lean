/-
  Stats that are made column by column: what lies where. Taken out of another text of mine: Rcell. Plain: what the document's own Stats tells of rows is so of them; of one row it is exact. No program here.
-/
import Derived.Test.YtibnhjfeepdddaaM38
import Derived.Test.YtibnhjfeepdddaaM21
import Derived.Test.YtibnhjfeepdddaaM17
import Derived.Test.YtibnhjfeepdddaaM30
namespace Go.Proofs.Ytibnhjfeepdddaa
open Go.RowKit
set_option linter.unusedVariables false
set_option linter.unusedSimpArgs false
theorem owns_later {w w' : World} {base : Nat} {e : TypeId} {size : Nat} {v : Value} {n : Nat} {xs : List Value} (h : w.ownsRow base e size v n xs) (hx : Ex w w') : w'.ownsRow base e size v n xs := by
 obtain ⟨h1, h2⟩ := h
 refine ⟨h1, ?_⟩
 rcases h2 with h2 | ⟨g, cap, cur, hv, hb, hg, r⟩
 ·exact .inl h2
 ·exact .inr ⟨g, cap, cur, hv, hb, by rw [hx.block g (Array.getElem?_eq_some_iff.1 hg).1]; exact hg, r⟩
theorem owns_mono {w : World} {base base' : Nat} {e : TypeId} {size : Nat} {v : Value} {n : Nat} {xs : List Value} (h : w.ownsRow base e size v n xs) (hb : base' ≤ base) : w.ownsRow base' e size v n xs := by
 obtain ⟨h1, h2⟩ := h
 refine ⟨h1, ?_⟩
 rcases h2 with h2 | ⟨g, cap, cur, hv, hb', r⟩
 ·exact .inl h2
 ·exact .inr ⟨g, cap, cur, hv, by omega, r⟩
theorem owns_apart {w : World} {base g j : Nat} {e : TypeId} {size : Nat} {v u : Value} {n : Nat} {xs : List Value} (h : w.ownsRow base e size v n xs) (hg : v.ownBlock ≠ some g) : (w.setCell ⟨g, j, none⟩ u).ownsRow base e size v n xs := by
 obtain ⟨h1, h2⟩ := h
 refine ⟨h1, ?_⟩
 rcases h2 with h2 | ⟨b, cap, cur, hv, hb, hr, r⟩
 ·exact .inl h2
 ·refine .inr ⟨b, cap, cur, hv, hb, ?_, r⟩
  rw [heap_setCell_other w _ b u]
  ·exact hr
  ·intro e
   have e' : b = g := e
   subst e'
   rw [hv] at hg
   simp [Value.ownBlock] at hg
theorem owns_other {w w' : World} {base : Nat} {e : TypeId} {size : Nat} {v : Value} {n : Nat} {xs : List Value} {row : Option Nat} (h : w.ownsRow base e size v n xs) (hg : w.grownBy w' row) (hne : ∀ g, v.ownBlock = some g → row ≠ some g) : w'.ownsRow base e size v n xs := by
 refine World.ownsRow.kept h hg ?_
 cases e : v.ownBlock with
 | none => exact .inl rfl
 | some g => exact .inr fun e2 => hne g e e2.symm
/-- Filters of columns whose bytes the call made, each in a block of its own. -/
def EachO (w : World) (base : Nat) (X : Nat → Prop) (vs : List BV) (M : List (List UInt8 × Int × List UInt8)) : Prop := vs.length = M.length ∧ ∀ (i : Nat) v x, vs[i]? = some v → M[i]? = some x → (v.col = x.1 ∧ v.k = x.2.1 ∧ Own w base (sv v.s) x.2.2) ∧ ∀ q, (sv v.s).ownBlock = some q → X q
theorem EachO.nil (w : World) (base : Nat) (X : Nat → Prop) : EachO w base X [] [] := ⟨rfl, fun i v x h _ => by simp at h⟩
theorem EachO.each {w : World} {base : Nat} {X : Nat → Prop} {vs : List BV} {M : List (List UInt8 × Int × List UInt8)} (h : EachO w base X vs M) : EachB w vs M := by
 refine ⟨h.1, fun i v x h1 h2 => ?_⟩
 obtain ⟨⟨a1, a2, a3⟩, _⟩ := h.2 i v x h1 h2
 obtain ⟨a, c, e, hb⟩ := a3.byt
 obtain ⟨vc, vk, va, vn, vcap⟩ := v
 simp only [sv, Value.slice.injEq] at e
 obtain ⟨rfl, rfl, rfl⟩ := e
 exact ⟨a1, a2, rfl, hb⟩
theorem EachO.later {w w' : World} {base : Nat} {X : Nat → Prop} {vs : List BV} {M : List (List UInt8 × Int × List UInt8)} (h : EachO w base X vs M) (hx : Ex w w') : EachO w' base X vs M := ⟨h.1, fun i v x h1 h2 => by
 obtain ⟨⟨a1, a2, a3⟩, a4⟩ := h.2 i v x h1 h2
 exact ⟨⟨a1, a2, owns_later a3 hx⟩, a4⟩⟩
theorem EachO.step {w w' : World} {base g k : Nat} {u : Value} {X Y : Nat → Prop} {vs : List BV} {M : List (List UInt8 × Int × List UInt8)} {row : Option Nat} (h : EachO w base X vs M) (hg : w.grownBy w' row) (hgb : g < base) (hX : ∀ q, X q → q < w.heap.size → row ≠ some q ∧ Y q) : EachO (w'.setCell ⟨g, k, none⟩ u) base Y vs M := ⟨h.1, fun i v x h1 h2 => by
 obtain ⟨⟨a1, a2, a3⟩, a4⟩ := h.2 i v x h1 h2
 have hlt : ∀ q, (sv v.s).ownBlock = some q → base ≤ q ∧ q < w.heap.size := World.ownsRow.lt a3
 exact ⟨⟨a1, a2, owns_apart (owns_other a3 hg fun q e => (hX q (a4 q e) (hlt q e).2).1) (fun e => by have := (hlt g e).1; omega)⟩, fun q e => (hX q (a4 q e) (hlt q e).2).2⟩⟩
theorem EachO.append {w : World} {base : Nat} {X : Nat → Prop} {vs us : List BV} {M K : List (List UInt8 × Int × List UInt8)} (h : EachO w base X vs M) (k : EachO w base X us K) : EachO w base X (vs ++ us) (M ++ K) := by
 refine ⟨by rw [List.length_append, List.length_append, h.1, k.1], fun i v x h1 h2 => ?_⟩
 by_cases hi : i < vs.length
 ·rw [List.getElem?_append_left hi] at h1
  rw [List.getElem?_append_left (by rw [← h.1]; exact hi)] at h2
  exact h.2 i v x h1 h2
 ·rw [List.getElem?_append_right (by omega)] at h1
  rw [List.getElem?_append_right (by rw [← h.1]; omega), ← h.1] at h2
  exact k.2 _ v x h1 h2
theorem EachO.one {w : World} {base : Nat} {X : Nat → Prop} {v : BV} {x : List UInt8 × Int × List UInt8} (h : (v.col = x.1 ∧ v.k = x.2.1 ∧ Own w base (sv v.s) x.2.2) ∧ ∀ q, (sv v.s).ownBlock = some q → X q) : EachO w base X [v] [x] := ⟨rfl, fun i v' x' h1 h2 => by
 cases i with
 | zero => simp at h1 h2; subst h1 h2; exact h
 | succ i => simp at h1⟩
/-- What lies in the block that is made: rows, times, the zones so far, the filters so far. -/
def OutR (wr : World) (g base : Nat) (r lo hi : Int) (L : List (List UInt8 × Zn)) (M : List (List UInt8 × Int × List UInt8)) : Prop := ∃ (z b : SV) (vs : List BV), TAt wr g ⟨r, lo, hi, z, b⟩ 46 ∧ (z.2.1 = L.length ∧ OwnW 76 8 zcc wr base (sv z) L) ∧ (b.2.1 = vs.length ∧ OwnW 79 3 bc wr base (sv b) vs) ∧ (∀ g1, (sv z).ownBlock = some g1 → (sv b).ownBlock ≠ some g1) ∧ EachO wr base (fun q => (sv z).ownBlock ≠ some q ∧ (sv b).ownBlock ≠ some q) vs M
theorem OutR.later {w w' : World} {g base : Nat} {r lo hi : Int} {L : List (List UInt8 × Zn)} {M : List (List UInt8 × Int × List UInt8)} (h : OutR w g base r lo hi L M) (hx : Ex w w') : OutR w' g base r lo hi L M := by
 obtain ⟨z, b, vs, h1, ⟨h2, h3⟩, ⟨h4, h5⟩, h6, h7⟩ := h
 exact ⟨z, b, vs, h1.below hx, ⟨h2, h3.later hx⟩, ⟨h4, h5.later hx⟩, h6, h7.later hx⟩
theorem OutR.putZ {wx w3 : World} {g base : Nat} {r lo hi : Int} {L L' : List (List UInt8 × Zn)} {M : List (List UInt8 × Int × List UInt8)} {z b : SV} {vs : List BV} {a3 : Option Addr} {c3 : Nat} (hT : TAt wx g ⟨r, lo, hi, z, b⟩ 46) (hgb : g < base) (hz : OwnW 76 8 zcc wx base (sv z) L) (hbn : b.2.1 = vs.length) (hb : OwnW 79 3 bc wx base (sv b) vs) (hne : ∀ g1, (sv z).ownBlock = some g1 → (sv b).ownBlock ≠ some g1) (hE : EachO wx base (fun q => (sv z).ownBlock ≠ some q ∧ (sv b).ownBlock ≠ some q) vs M)
  (hg : wx.grownBy w3 (sv z).ownBlock) (hO : OwnW 76 8 zcc w3 base (.slice a3 L'.length c3) L') (hat : (Value.slice a3 L'.length c3).ownBlock = (sv z).ownBlock ∨ (Value.slice a3 L'.length c3).ownBlock = some wx.heap.size) :
  OutR (w3.setCell ⟨g, 3, none⟩ (.slice a3 L'.length c3)) g base r lo hi L' M := by
 have hzl := hz.lt
 have hbl := hb.lt
 have hT3 : TAt w3 g ⟨r, lo, hi, z, b⟩ 46 := hT.far hg (fun e => by have := (hzl g e).1; omega)
 have hq : ∀ q, (sv z).ownBlock ≠ some q → q < wx.heap.size → (sv (a3, L'.length, c3)).ownBlock ≠ some q := by
  intro q h1 h2 e
  have e' : (Value.slice a3 L'.length c3).ownBlock = some q := e
  rcases hat with h | h
  ·rw [h] at e'; exact h1 e'
  ·rw [h] at e'; simp at e'; omega
 refine ⟨(a3, L'.length, c3), b, vs, hT3.set rfl, ⟨rfl, hO.apart (fun e => by have := (hO.lt g e).1; omega)⟩, ⟨hbn, (own_other hb hg hne).apart (fun e => by have := (hbl g e).1; omega)⟩, fun g1 e1 e2 => ?_, hE.step hg hgb fun q hX hlt => ⟨hX.1, hq q hX.1 hlt, hX.2⟩⟩
 exact hq g1 (fun e => hne g1 e e2) (hbl g1 e2).2 e1
theorem OutR.putB {wx w3 : World} {g base w1s : Nat} {r lo hi : Int} {L : List (List UInt8 × Zn)} {M : List (List UInt8 × Int × List UInt8)} {z b : SV} {vs : List BV} {v : BV} {x : List UInt8 × Int × List UInt8} {a3 : Option Addr} {n3 c3 : Nat} (hT : TAt wx g ⟨r, lo, hi, z, b⟩ 46) (hgb : g < base) (hbw : base ≤ w1s) (hzn : z.2.1 = L.length) (hz : OwnW 76 8 zcc wx base (sv z) L) (hb : OwnW 79 3 bc wx base (sv b) vs) (hzs : ∀ q, (sv z).ownBlock = some q → q < w1s) (hbs : ∀ q, (sv b).ownBlock = some q → q < w1s) (hne : ∀ g1, (sv z).ownBlock = some g1 → (sv b).ownBlock ≠ some g1) (hE : EachO wx base (fun q => (sv z).ownBlock ≠ some q ∧ (sv b).ownBlock ≠ some q) vs M)
  (hv : v.col = x.1 ∧ v.k = x.2.1 ∧ Own wx w1s (sv v.s) x.2.2) (hg : wx.grownBy w3 (sv b).ownBlock) (hn3 : n3 = (vs ++ [v]).length) (hO : OwnW 79 3 bc w3 base (.slice a3 n3 c3) (vs ++ [v])) (hat : (Value.slice a3 n3 c3).ownBlock = (sv b).ownBlock ∨ (Value.slice a3 n3 c3).ownBlock = some wx.heap.size) :
  OutR (w3.setCell ⟨g, 4, none⟩ (.slice a3 n3 c3)) g base r lo hi L (M ++ [x]) := by
 have hzl := hz.lt
 have hbl := hb.lt
 have hT3 : TAt w3 g ⟨r, lo, hi, z, b⟩ 46 := hT.far hg (fun e => by have := (hbl g e).1; omega)
 have hq : ∀ q, (sv b).ownBlock ≠ some q → q < wx.heap.size → (sv (a3, n3, c3)).ownBlock ≠ some q := by
  intro q h1 h2 e
  have e' : (Value.slice a3 n3 c3).ownBlock = some q := e
  rcases hat with h | h
  ·rw [h] at e'; exact h1 e'
  ·rw [h] at e'; simp at e'; omega
 have hvl : ∀ q, (sv v.s).ownBlock = some q → w1s ≤ q ∧ q < wx.heap.size := World.ownsRow.lt hv.2.2
 have h1 : EachO wx base (fun q => (sv z).ownBlock ≠ some q ∧ (sv b).ownBlock ≠ some q) [v] [x] := EachO.one ⟨⟨hv.1, hv.2.1, owns_mono hv.2.2 hbw⟩, fun q e => ⟨fun e2 => by have := hzs q e2; have := (hvl q e).1; omega, fun e2 => by have := hbs q e2; have := (hvl q e).1; omega⟩⟩
 refine ⟨z, (a3, n3, c3), vs ++ [v], hT3.set rfl, ⟨hzn, (own_other hz hg (fun g1 e1 e2 => hne g1 e2 e1)).apart (fun e => by have := (hzl g e).1; omega)⟩, ⟨hn3, hO.apart (fun e => by have := (hO.lt g e).1; omega)⟩, fun g1 e1 e2 => ?_, (hE.append h1).step hg hgb fun q hX hlt => ⟨hX.2, hX.1, hq q hX.2 hlt⟩⟩
 exact hq g1 (hne g1 e1) (hzl g1 e1).2 e2
/-- A filter that a call made; with a column's name; in a slice of one. -/
def IsF (base : Nat) (k : Int) (B : List UInt8) (v : Value) (w : World) : Prop := ∃ s : SV, v = fv k (sv s) ∧ Own w base (sv s) B
theorem IsF.stands (base : Nat) (k : Int) (B : List UInt8) : ∀ v w w', IsF base k B v w → Ex w w' → IsF base k B v w' := by
 rintro v w w' ⟨s, rfl, h⟩ hx
 exact ⟨s, rfl, owns_later h hx⟩
def IsFc (base : Nat) (n : List UInt8) (k : Int) (B : List UInt8) (v : Value) (w : World) : Prop := ∃ s : SV, v = bcw ⟨n, k, s⟩ ∧ Own w base (sv s) B
theorem IsFc.stands (base : Nat) (n : List UInt8) (k : Int) (B : List UInt8) : ∀ v w w', IsFc base n k B v w → Ex w w' → IsFc base n k B v w' := by
 rintro v w w' ⟨s, rfl, h⟩ hx
 exact ⟨s, rfl, owns_later h hx⟩
def IsFs (base : Nat) (n : List UInt8) (k : Int) (B : List UInt8) (v : Value) (w : World) : Prop := ∃ (g : Nat) (s : SV), v = .slice (some ⟨g, 0, none⟩) 1 1 ∧ RdW 3 bc w (some ⟨g, 0, none⟩) 1 [⟨n, k, s⟩] ∧ Own w base (sv s) B
theorem IsFs.stands (base : Nat) (n : List UInt8) (k : Int) (B : List UInt8) : ∀ v w w', IsFs base n k B v w → Ex w w' → IsFs base n k B v w' := by
 rintro v w w' ⟨g, s, rfl, h1, h⟩ hx
 exact ⟨g, s, rfl, h1.below hx, owns_later h hx⟩
set_option maxHeartbeats 1000000 in
theorem good_fc {ops : Array Oper} {specs : List Rg.Spec} {a0 : Act} {w1 : World} {o : Oper} {x y : Operand} {n : List UInt8} {k : Int} {B : List UInt8} {base : Nat} (ho : o.op = .build 79 #[(0, x), (1, y)]) (hg : Rg.guardV ops specs a0 o = some true)
  (h0 : Rg.argS ops specs a0 x = .inl (.string (str n))) (h1 : Rg.argS ops specs a0 y = .inr (IsF base k B)) : Rg.GoodOp Try.prog ops specs a0 (Ex w1) Ex o (.inr (IsFc base n k B)) :=
 Rg.good_val Ex.refl hg fun a w hC hh => by
  have k0 := hh x (by rw [ho]; simp [Op.operands])
  have k1 := hh y (by rw [ho]; simp [Op.operands])
  rw [h0] at k0; rw [h1] at k1
  obtain ⟨s, k1, hs⟩ := k1
  simp only [Rg.Spec.ok] at k0
  refine ⟨bcw ⟨n, k, s⟩, ?_, s, rfl, hs⟩
  obtain ⟨ρ, hρ⟩ : ∃ ρ, a.eval = ρ := ⟨_, rfl⟩
  rw [hρ] at k0 k1 ⊢
  simp [execOp, ho, k0, k1, go_sem, fv, sv, bcw, bc]
set_option maxHeartbeats 1000000 in
theorem good_fs {ops : Array Oper} {specs : List Rg.Spec} {a0 : Act} {w1 : World} {o : Oper} {x : Operand} {n : List UInt8} {k : Int} {B : List UInt8} {base : Nat} (ho : o.op = .buildSlice 44 1 #[(0, x)]) (hg : Rg.guardV ops specs a0 o = some true)
  (hx : Rg.argS ops specs a0 x = .inr (IsFc base n k B)) : Rg.GoodOp Try.prog ops specs a0 (Ex w1) Ex o (.inr (IsFs base n k B)) :=
 Rg.good_of hg fun Q a w hC hh => by
  have h1 := hh x (by rw [ho]; simp [Op.operands])
  rw [hx] at h1
  obtain ⟨s, h1, hs⟩ := h1
  have hal : Ex w (w.alloc (.cells (flat bc [⟨n, k, s⟩]).toArray 79)) := (Below.refl _ _).alloc (Nat.le_refl _) _
  have hr : (execOp a.eval o).run Try.prog w = .ok (.value (.slice (some ⟨w.heap.size, 0, none⟩) 1 1)) (w.alloc (.cells (flat bc [⟨n, k, s⟩]).toArray 79)) := by
   obtain ⟨ρ, hρ⟩ : ∃ ρ, a.eval = ρ := ⟨_, rfl⟩
   rw [hρ] at h1 ⊢
   simp [execOp, ho, h1, go_sem, bcw, flat, bc, sv]
  refine Rg.Fr.wp_val hr ⟨.slice (some ⟨w.heap.size, 0, none⟩) 1 1, rfl, ?_, hal, hC.trans hal⟩
  exact ⟨w.heap.size, s, rfl, RdW.laid bc_len w [⟨n, k, s⟩] (by simp), owns_later hs hal⟩
end Go.Proofs.Ytibnhjfeepdddaa
namespace Go.Proofs.Ytibnhjfeepdddaa
open Go.RowKit
set_option linter.unusedVariables false
set_option linter.unusedSimpArgs false
set_option maxHeartbeats 4000000 in
set_option maxRecDepth 100000 in
theorem rcell_is (v : RV) (r : Rw) (s : List UInt8) (w : World) (h : RvOk w v r) (c : Ce) (hc : Rw.cell r.c s = c) : Calls Try.prog 61 #[rvv v, .string (str s)] w fun e w' => e = .returned (cv c) ∧ Ex w w' := by
 obtain ⟨vt, vq, p, n, cap⟩ := v
 obtain ⟨rfl, rfl, hn, hB⟩ := h
 simp only at hn hB
 subst hn
 have h1 := hB.1
 have h2 := hB.2.1
 unfold maxLen at h2
 obtain ⟨W, hW⟩ : ∃ W, W = (w.alloc (rb ⟨r.t, r.q, p, r.c.length, cap⟩)).alloc ecb0 := ⟨_, rfl⟩
 have HX : Hid (Ex w W) := (by rw [hW]; exact ((Below.refl _ _).alloc (Nat.le_refl _) _).alloc (by simp) _ : Ex w W)
 have HB : Hid (RdC W p cap r.c) := hB.below HX.out
 have HL : Hid (LAt W w.heap.size ⟨r.t, r.q, p, r.c.length, cap⟩) := (by rw [hW]; exact (LAt.new w _).alloc _ : LAt W w.heap.size ⟨r.t, r.q, p, r.c.length, cap⟩)
 have HZ : Hid (EAt W (w.heap.size + 1) Rw.none_) := (by rw [hW]; exact EAt.newat (w.alloc (rb ⟨r.t, r.q, p, r.c.length, cap⟩)) (w.heap.size + 1) Rw.none_ (by simp) : EAt W (w.heap.size + 1) Rw.none_)
 have HW : Hid (W = (w.alloc (rb ⟨r.t, r.q, p, r.c.length, cap⟩)).alloc ecb0) := hW
 have HC : Hid (Rw.cell r.c s = c) := hc
 have zs := str_toList s
 clear hB hW hc
 unfold rvv
 simp only [sv]
 go_enter Try.func61, Try.ntmps61
 go_wp2_with fail
 rw [← HW.out]
 obtain ⟨n0, n1, n2⟩ := HL.out.all
 obtain ⟨z0, z1, z2, z3⟩ := HZ.out.all
 obtain ⟨f0, f1, f2, f3⟩ := HZ.out.fro
 go_loopw [5] (fun iv wr => ∃ i : Nat, i ≤ r.c.length ∧ iv = .int .i64 i ∧ Hid (∀ d ∈ r.c.take i, d.col ≠ s) ∧ wr = W) (fun iv wr => r.c.length - (intOf iv).toNat)
 case atStart => exact ⟨0, by omega, rfl, (by simp : ∀ d ∈ r.c.take 0, d.col ≠ s), rfl⟩
 case round =>
  obtain ⟨i, hi, rfl, HN, hwr⟩ := hrel
  have hwr := hwr.symm
  subst hwr
  by_cases hlt : i < r.c.length
  ·have hti : (i : Int) < (r.c.length : Int) := by omega
   obtain ⟨b, off, rfl, e0, e1, e2, e3⟩ := RdC.four HB.out hlt
   obtain ⟨d, hd⟩ : ∃ d, r.c[i] = d := ⟨_, rfl⟩
   rw [hd] at e0 e1 e2 e3
   have hsp : r.c = r.c.take i ++ d :: r.c.drop (i + 1) := by rw [← hd, ← List.drop_eq_getElem_cons hlt, List.take_append_drop]
   have HSP : Hid (r.c = r.c.take i ++ d :: r.c.drop (i + 1)) := hsp
   have hnx : r.c.take (i + 1) = r.c.take i ++ [d] := by rw [List.take_add_one, List.getElem?_eq_getElem hlt, hd]; rfl
   have HNX : Hid (r.c.take (i + 1) = r.c.take i ++ [d]) := hnx
   have zd := str_toList d.col
   clear hd hsp hnx
   by_cases hds : d.col = s
   ·have td : (d.col == s) = true := by simp [hds]
    have HF : Hid (c = d) := (by rw [← HC.out, HSP.out]; exact Rw.cell_skip HN.out hds : c = d)
    clear hds
    go_wp2_with fail
    have hL9 := EAt.store HZ.out d
    have hX9 := Below.eset HX.out (Nat.le_succ _) d
    refine bodyPost_ret (v := cv d) (res_cell Try.results61 rfl hL9) rfl ⟨by rw [HF.out], hX9⟩
   ·have td : (d.col == s) = false := by simp [hds]
    have HN2 : Hid (∀ e ∈ r.c.take (i + 1), e.col ≠ s) := (by
     intro e he
     rw [HNX.out] at he
     rcases List.mem_append.1 he with h | h
     ·exact HN.out e h
     ·rw [List.mem_singleton] at h; subst h; exact hds : ∀ e ∈ r.c.take (i + 1), e.col ≠ s)
    go_wp2_with fail
    go_roundw
    case rel => exact ⟨i + 1, by omega, by go_num, HN2, by simp⟩
    case measure => simp [intOf]; omega
  ·have hti : ¬ (i : Int) < (r.c.length : Int) := by omega
   have HF : Hid (c = Rw.none_) := (by rw [← HC.out]; have h := HN.out; rw [List.take_of_length_le (by omega)] at h; exact Rw.cell_out h : c = Rw.none_)
   go_wp2_with fail
   have hL9 := EAt.store HZ.out Rw.none_
   have hX9 := Below.eset HX.out (Nat.le_succ _) Rw.none_
   refine bodyPost_ret (v := cv Rw.none_) (res_cell Try.results61 rfl hL9) rfl ⟨by rw [HF.out], hX9⟩
end Go.Proofs.Ytibnhjfeepdddaa
namespace Go.Proofs.Ytibnhjfeepdddaa
namespace Pu
def clear (x : Ce) : Ce := ⟨[], x.k, x.n, x.s⟩
def column (R : List Rw) (c : List UInt8) : List Ce := R.map fun r => clear (Rw.cell r.c c)
/-- What is told of rows, of these columns. -/
def sOf (R : List Rw) (cols : List Co) : St := ⟨R.length, (R.headD ⟨0, 0, []⟩).t, (R.getLastD ⟨0, 0, []⟩).t, cols.map fun c => (c.nm, Z.build c.k (column R c.nm)), (cols.filter fun c => decide (c.k = 2)).map fun c => (c.nm, (Fl.bits (Z.txts (column R c.nm)) : Int), Fl.bytes (Z.txts (column R c.nm)))⟩
theorem dc_clear {z : Zn} {x : Ce} (h : Dc z (clear x)) : Dc z x := ⟨h.kind, h.all, h.none_, h.ints, h.txts⟩
theorem dc_build1 {L : List Ce} {x : Ce} (hx : x ∈ L) (hk : ∀ y ∈ L, y.k = 0 ∨ y.k = 1) : Dc (Z.build 1 L) x := by
 rw [Z.build1]
 have hlen := Z.ints_len L
 have hpos : 0 < L.length := List.length_pos_of_mem hx
 have hin : x.k = 1 → x.n ∈ Z.ints L := fun h => List.mem_map.2 ⟨x, List.mem_filter.2 ⟨hx, by simpa using h⟩, rfl⟩
 refine ⟨?_, ?_, ?_, ?_, ?_⟩
 ·rcases hk x hx with h | h
  ·exact .inl h
  ·exact .inr ⟨h, .inl rfl⟩
 ·intro e
  simp only at e
  rcases hk x hx with h | h
  ·exact h
  ·have := List.length_pos_of_mem (hin h)
   omega
 ·intro e _
  simp only at e
  have h1 : (Z.ints L).length = L.length := by omega
  unfold Z.ints at h1
  rw [List.length_map, List.length_filter_eq_length_iff] at h1
  have := h1 x hx
  simp at this
  omega
 ·intro h
  have hm := hin h
  cases e : Z.ends Z.oI (Z.ints L) with
  | none => rw [Z.ends_none] at e; rw [e] at hm; simp at hm
  | some p =>
   have hb := (Z.ends_le Z.oI (Z.ints L) p e).2 x.n hm
   unfold Z.eI
   rw [e]
   simp [Z.oI] at hb
   simp
   omega
 ·intro h
  rcases hk x hx with h2 | h2 <;> omega
theorem dc_build2 {L : List Ce} {x : Ce} (hx : x ∈ L) (hk : ∀ y ∈ L, y.k = 0 ∨ y.k = 2) : Dc (Z.build 2 L) x := by
 rw [Z.build2]
 have hlen := Z.txts_len L
 have hpos : 0 < L.length := List.length_pos_of_mem hx
 have hin : x.k = 2 → x.s ∈ Z.txts L := fun h => List.mem_map.2 ⟨x, List.mem_filter.2 ⟨hx, by simpa using h⟩, rfl⟩
 refine ⟨?_, ?_, ?_, ?_, ?_⟩
 ·rcases hk x hx with h | h
  ·exact .inl h
  ·exact .inr ⟨h, .inr rfl⟩
 ·intro e
  simp only at e
  rcases hk x hx with h | h
  ·exact h
  ·have := List.length_pos_of_mem (hin h)
   omega
 ·intro e _
  simp only at e
  have h1 : (Z.txts L).length = L.length := by omega
  unfold Z.txts at h1
  rw [List.length_map, List.length_filter_eq_length_iff] at h1
  have := h1 x hx
  simp at this
  omega
 ·intro h
  rcases hk x hx with h2 | h2 <;> omega
 ·intro h
  have hm := hin h
  cases e : Z.ends Z.oT (Z.txts L) with
  | none => rw [Z.ends_none] at e; rw [e] at hm; simp at hm
  | some p =>
   have hb := (Z.ends_le Z.oT (Z.txts L) p e).2 x.s hm
   unfold Z.eT
   rw [e]
   exact hb
theorem nm_inj : ∀ {l : List Co}, Rw.RiseN l → ∀ {a b : Co}, a ∈ l → b ∈ l → a.nm = b.nm → a = b
 | [], _, _, _, ha, _, _ => by simp at ha
 | x :: l, h, a, b, ha, hb, e => by
  obtain ⟨h1, h2⟩ := Rw.riseN_cons.1 h
  rcases List.mem_cons.1 ha with ea | ha'
  ·rcases List.mem_cons.1 hb with eb | hb'
   ·rw [ea, eb]
   ·have := h1 b hb'; rw [← ea, e, T.lt_irrefl] at this; cases this
  ·rcases List.mem_cons.1 hb with eb | hb'
   ·have := h1 a ha'; rw [← eb, ← e, T.lt_irrefl] at this; cases this
   ·exact nm_inj h2 ha' hb' e
theorem zone_found {R : List Rw} {cols : List Co} (hR : Rw.RiseN cols) {c : Co} (hc : c ∈ cols) : zoneOf (sOf R cols) c.nm = Z.build c.k (column R c.nm) := by
 unfold zoneOf sOf
 simp only
 rw [List.find?_map]
 cases e : cols.find? ((fun x : List UInt8 × Zn => decide (x.1 = c.nm)) ∘ fun c => (c.nm, Z.build c.k (column R c.nm))) with
 | none =>
  rw [List.find?_eq_none] at e
  have := e c hc
  simp at this
 | some d =>
  have h1 := List.find?_some e
  have h2 := List.mem_of_find?_eq_some e
  simp at h1
  have := nm_inj hR h2 hc h1
  subst this
  rfl
theorem zone_none {R : List Rw} {cols : List Co} {n : List UInt8} (h : ∀ c ∈ cols, c.nm ≠ n) : zoneOf (sOf R cols) n = ⟨0, R.length, R.length, 0, 0, [], []⟩ := by
 unfold zoneOf sOf
 simp only
 rw [List.find?_map, List.find?_eq_none.2]
 ·rfl
 ·intro c hc
  simpa using h c hc
theorem tells {R : List Rw} {cols : List Co} {k : Nat} (hg : Rw.grow [] R = (cols, 0, k)) (htime : ∀ r ∈ R, (R.headD ⟨0, 0, []⟩).t ≤ r.t ∧ r.t ≤ (R.getLastD ⟨0, 0, []⟩).t) : Tells (sOf R cols) R := by
 obtain ⟨_, _, hok, hmem, _⟩ := Rw.grow_ok hg
 obtain ⟨hck, hri, _⟩ := (Rw.colsOk_iff cols).1 hok
 have hin : ∀ r ∈ R, ∀ x ∈ r.c, Rw.co x ∈ cols := fun r hr x hx => (hmem _).2 (.inr ⟨r, hr, x, hx, rfl⟩)
 have hkind : ∀ c ∈ cols, c.k = 1 ∨ c.k = 2 := fun c hc => by
  have := hck c hc
  unfold Rw.colOk at this
  simp at this
  exact this.2
 have hcol : ∀ c ∈ cols, ∀ y ∈ column R c.nm, y.k = 0 ∨ y.k = c.k := by
  intro c hc y hy
  obtain ⟨r, hr, rfl⟩ := List.mem_map.1 hy
  by_cases hx : ∃ x ∈ r.c, x.col = c.nm
  ·obtain ⟨x, hx, e, hn⟩ := Rw.cell_some hx
   have h1 := hin r hr x hx
   have h2 := nm_inj hri h1 hc (by simpa [Rw.co] using hn)
   right
   rw [e]
   show x.k = c.k
   rw [← h2]
   rfl
  ·left
   rw [Rw.cell_out (fun x hx' e => hx ⟨x, hx', e⟩)]
   rfl
 refine ⟨htime, ?_, ?_⟩
 ·intro n r hr
  by_cases hc : ∃ c ∈ cols, c.nm = n
  ·obtain ⟨c, hc, rfl⟩ := hc
   rw [zone_found hri hc]
   have hm : clear (Rw.cell r.c c.nm) ∈ column R c.nm := List.mem_map.2 ⟨r, hr, rfl⟩
   have hcl := hcol c hc
   apply dc_clear
   rcases hkind c hc with e | e
   ·rw [e] at hcl ⊢
    exact dc_build1 hm hcl
   ·rw [e] at hcl ⊢
    exact dc_build2 hm hcl
  ·rw [zone_none (fun c hc' e => hc ⟨c, hc', e⟩)]
   have e : Rw.cell r.c n = Rw.none_ := Rw.cell_out (fun x hx e => hc ⟨Rw.co x, hin r hr x hx, e⟩)
   rw [e]
   exact ⟨.inl rfl, fun _ => rfl, fun h1 h2 => absurd rfl h2, fun h => by simp [Rw.none_] at h, fun h => by simp [Rw.none_] at h⟩
 ·intro n r hr hk
  unfold mayB sOf
  simp only
  rw [List.find?_map]
  cases e : (cols.filter fun c => decide (c.k = 2)).find? ((fun x : List UInt8 × Int × List UInt8 => decide (x.1 = n)) ∘ fun c => (c.nm, (Fl.bits (Z.txts (column R c.nm)) : Int), Fl.bytes (Z.txts (column R c.nm)))) with
  | none => rfl
  | some d =>
   have h1 := List.find?_some e
   simp at h1
   subst h1
   simp only [Option.map_some, Option.getD_some]
   refine Fl.may_in ?_
   exact List.mem_map.2 ⟨clear (Rw.cell r.c d.nm), List.mem_filter.2 ⟨List.mem_map.2 ⟨r, hr, rfl⟩, by simpa [clear] using hk⟩, rfl⟩
theorem exact_one {r : Rw} {cols : List Co} {k : Nat} (hg : Rw.grow [] [r] = (cols, 0, k)) (n : List UInt8) : Exa (zoneOf (sOf [r] cols) n) (Rw.cell r.c n) := by
 obtain ⟨_, _, hok, hmem, _⟩ := Rw.grow_ok hg
 obtain ⟨hck, hri, _⟩ := (Rw.colsOk_iff cols).1 hok
 by_cases hx : ∃ x ∈ r.c, x.col = n
 ·obtain ⟨x, hx, e, hn⟩ := Rw.cell_some hx
  have h1 : Rw.co x ∈ cols := (hmem _).2 (.inr ⟨r, by simp, x, hx, rfl⟩)
  have h2 := hck _ h1
  unfold Rw.colOk at h2
  simp at h2
  have hz := zone_found (R := [r]) hri h1
  have hn2 : (Rw.co x).nm = n := hn
  rw [hn2] at hz
  rw [hz, e]
  have hcolm : column [r] n = [clear x] := by simp [column, e]
  rw [hcolm]
  rcases h2.2 with e1 | e1
  ·right; left
   rw [show (Rw.co x).k = 1 from e1, Z.build1]
   have e2 : x.k = 1 := e1
   have e3 : Z.ints [clear x] = [x.n] := by simp [Z.ints, clear, e2]
   unfold Z.eI
   rw [e3]
   refine ⟨e2, rfl, rfl, by simp, ?_, ?_⟩ <;> rfl
  ·right; right
   rw [show (Rw.co x).k = 2 from e1, Z.build2]
   have e2 : x.k = 2 := e1
   have e3 : Z.txts [clear x] = [x.s] := by simp [Z.txts, clear, e2]
   unfold Z.eT
   rw [e3]
   refine ⟨e2, rfl, rfl, by simp, ?_, ?_⟩ <;> rfl
 ·left
  have e : Rw.cell r.c n = Rw.none_ := Rw.cell_out (fun x hx' e => hx ⟨x, hx', e⟩)
  rw [e, zone_none]
  ·exact ⟨rfl, rfl⟩
  ·intro c hc e2
   rcases (hmem c).1 hc with h | ⟨r', hr', x, hx', e3⟩
   ·simp at h
   ·have : r' = r := by simpa using hr'
    subst this
    subst e3
    exact hx ⟨x, hx', e2⟩
end Pu
end Go.Proofs.Ytibnhjfeepdddaa
