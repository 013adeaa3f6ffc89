/-
  Stats that are made column by column: what lies where.
-/
import Derived.Test.YtibnhjfeepdddaaM38
import Derived.Test.YtibnhjfeepdddaaM21
namespace Go.Proofs.Ytibnhjfeepdddaa
open Go.RowKit
set_option linter.unusedVariables false
set_option linter.unusedSimpArgs false
theorem owns_later {w w' : World} {base : Nat} {e : TypeId} {size : Nat} {v : Value} {n : Nat} {xs : List Value} (h : w.ownsRow base e size v n xs) (hx : Ex w w') : w'.ownsRow base e size v n xs := by
 obtain ⟨h1, h2⟩ := h
 refine ⟨h1, ?_⟩
 rcases h2 with h2 | ⟨g, cap, cur, hv, hb, hg, r⟩
 ·exact .inl h2
 ·exact .inr ⟨g, cap, cur, hv, hb, by rw [hx.block g (Array.getElem?_eq_some_iff.1 hg).1]; exact hg, r⟩
theorem owns_mono {w : World} {base base' : Nat} {e : TypeId} {size : Nat} {v : Value} {n : Nat} {xs : List Value} (h : w.ownsRow base e size v n xs) (hb : base' ≤ base) : w.ownsRow base' e size v n xs := by
 obtain ⟨h1, h2⟩ := h
 refine ⟨h1, ?_⟩
 rcases h2 with h2 | ⟨g, cap, cur, hv, hb', r⟩
 ·exact .inl h2
 ·exact .inr ⟨g, cap, cur, hv, by omega, r⟩
theorem owns_apart {w : World} {base g j : Nat} {e : TypeId} {size : Nat} {v u : Value} {n : Nat} {xs : List Value} (h : w.ownsRow base e size v n xs) (hg : v.ownBlock ≠ some g) : (w.setCell ⟨g, j, none⟩ u).ownsRow base e size v n xs := by
 obtain ⟨h1, h2⟩ := h
 refine ⟨h1, ?_⟩
 rcases h2 with h2 | ⟨b, cap, cur, hv, hb, hr, r⟩
 ·exact .inl h2
 ·refine .inr ⟨b, cap, cur, hv, hb, ?_, r⟩
  rw [heap_setCell_other w _ b u]
  ·exact hr
  ·intro e
   have e' : b = g := e
   subst e'
   rw [hv] at hg
   simp [Value.ownBlock] at hg
theorem owns_other {w w' : World} {base : Nat} {e : TypeId} {size : Nat} {v : Value} {n : Nat} {xs : List Value} {row : Option Nat} (h : w.ownsRow base e size v n xs) (hg : w.grownBy w' row) (hne : ∀ g, v.ownBlock = some g → row ≠ some g) : w'.ownsRow base e size v n xs := by
 refine World.ownsRow.kept h hg ?_
 cases e : v.ownBlock with
 | none => exact .inl rfl
 | some g => exact .inr fun e2 => hne g e e2.symm
/-- Filters of columns whose bytes the call made, each in a block of its own. -/
def EachO (w : World) (base : Nat) (X : Nat → Prop) (vs : List BV) (M : List (List UInt8 × Int × List UInt8)) : Prop := vs.length = M.length ∧ ∀ (i : Nat) v x, vs[i]? = some v → M[i]? = some x → (v.col = x.1 ∧ v.k = x.2.1 ∧ Own w base (sv v.s) x.2.2) ∧ ∀ q, (sv v.s).ownBlock = some q → X q
theorem EachO.nil (w : World) (base : Nat) (X : Nat → Prop) : EachO w base X [] [] := ⟨rfl, fun i v x h _ => by simp at h⟩
theorem EachO.each {w : World} {base : Nat} {X : Nat → Prop} {vs : List BV} {M : List (List UInt8 × Int × List UInt8)} (h : EachO w base X vs M) : EachB w vs M := by
 refine ⟨h.1, fun i v x h1 h2 => ?_⟩
 obtain ⟨⟨a1, a2, a3⟩, _⟩ := h.2 i v x h1 h2
 obtain ⟨a, c, e, hb⟩ := a3.byt
 obtain ⟨vc, vk, va, vn, vcap⟩ := v
 simp only [sv, Value.slice.injEq] at e
 obtain ⟨rfl, rfl, rfl⟩ := e
 exact ⟨a1, a2, rfl, hb⟩
theorem EachO.later {w w' : World} {base : Nat} {X : Nat → Prop} {vs : List BV} {M : List (List UInt8 × Int × List UInt8)} (h : EachO w base X vs M) (hx : Ex w w') : EachO w' base X vs M := ⟨h.1, fun i v x h1 h2 => by
 obtain ⟨⟨a1, a2, a3⟩, a4⟩ := h.2 i v x h1 h2
 exact ⟨⟨a1, a2, owns_later a3 hx⟩, a4⟩⟩
theorem EachO.step {w w' : World} {base g k : Nat} {u : Value} {X Y : Nat → Prop} {vs : List BV} {M : List (List UInt8 × Int × List UInt8)} {row : Option Nat} (h : EachO w base X vs M) (hg : w.grownBy w' row) (hgb : g < base) (hX : ∀ q, X q → q < w.heap.size → row ≠ some q ∧ Y q) : EachO (w'.setCell ⟨g, k, none⟩ u) base Y vs M := ⟨h.1, fun i v x h1 h2 => by
 obtain ⟨⟨a1, a2, a3⟩, a4⟩ := h.2 i v x h1 h2
 have hlt : ∀ q, (sv v.s).ownBlock = some q → base ≤ q ∧ q < w.heap.size := World.ownsRow.lt a3
 exact ⟨⟨a1, a2, owns_apart (owns_other a3 hg fun q e => (hX q (a4 q e) (hlt q e).2).1) (fun e => by have := (hlt g e).1; omega)⟩, fun q e => (hX q (a4 q e) (hlt q e).2).2⟩⟩
theorem EachO.append {w : World} {base : Nat} {X : Nat → Prop} {vs us : List BV} {M K : List (List UInt8 × Int × List UInt8)} (h : EachO w base X vs M) (k : EachO w base X us K) : EachO w base X (vs ++ us) (M ++ K) := by
 refine ⟨by rw [List.length_append, List.length_append, h.1, k.1], fun i v x h1 h2 => ?_⟩
 by_cases hi : i < vs.length
 ·rw [List.getElem?_append_left hi] at h1
  rw [List.getElem?_append_left (by rw [← h.1]; exact hi)] at h2
  exact h.2 i v x h1 h2
 ·rw [List.getElem?_append_right (by omega)] at h1
  rw [List.getElem?_append_right (by rw [← h.1]; omega), ← h.1] at h2
  exact k.2 _ v x h1 h2
theorem EachO.one {w : World} {base : Nat} {X : Nat → Prop} {v : BV} {x : List UInt8 × Int × List UInt8} (h : (v.col = x.1 ∧ v.k = x.2.1 ∧ Own w base (sv v.s) x.2.2) ∧ ∀ q, (sv v.s).ownBlock = some q → X q) : EachO w base X [v] [x] := ⟨rfl, fun i v' x' h1 h2 => by
 cases i with
 | zero => simp at h1 h2; subst h1 h2; exact h
 | succ i => simp at h1⟩
/-- What lies in the block that is made: rows, times, the zones so far, the filters so far. -/
def OutR (wr : World) (g base : Nat) (r lo hi : Int) (L : List (List UInt8 × Zn)) (M : List (List UInt8 × Int × List UInt8)) : Prop := ∃ (z b : SV) (vs : List BV), TAt wr g ⟨r, lo, hi, z, b⟩ 46 ∧ (z.2.1 = L.length ∧ OwnW 76 8 zcc wr base (sv z) L) ∧ (b.2.1 = vs.length ∧ OwnW 79 3 bc wr base (sv b) vs) ∧ (∀ g1, (sv z).ownBlock = some g1 → (sv b).ownBlock ≠ some g1) ∧ EachO wr base (fun q => (sv z).ownBlock ≠ some q ∧ (sv b).ownBlock ≠ some q) vs M
theorem OutR.later {w w' : World} {g base : Nat} {r lo hi : Int} {L : List (List UInt8 × Zn)} {M : List (List UInt8 × Int × List UInt8)} (h : OutR w g base r lo hi L M) (hx : Ex w w') : OutR w' g base r lo hi L M := by
 obtain ⟨z, b, vs, h1, ⟨h2, h3⟩, ⟨h4, h5⟩, h6, h7⟩ := h
 exact ⟨z, b, vs, h1.below hx, ⟨h2, h3.later hx⟩, ⟨h4, h5.later hx⟩, h6, h7.later hx⟩
theorem OutR.putZ {wx w3 : World} {g base : Nat} {r lo hi : Int} {L L' : List (List UInt8 × Zn)} {M : List (List UInt8 × Int × List UInt8)} {z b : SV} {vs : List BV} {a3 : Option Addr} {c3 : Nat} (hT : TAt wx g ⟨r, lo, hi, z, b⟩ 46) (hgb : g < base) (hz : OwnW 76 8 zcc wx base (sv z) L) (hbn : b.2.1 = vs.length) (hb : OwnW 79 3 bc wx base (sv b) vs) (hne : ∀ g1, (sv z).ownBlock = some g1 → (sv b).ownBlock ≠ some g1) (hE : EachO wx base (fun q => (sv z).ownBlock ≠ some q ∧ (sv b).ownBlock ≠ some q) vs M)
  (hg : wx.grownBy w3 (sv z).ownBlock) (hO : OwnW 76 8 zcc w3 base (.slice a3 L'.length c3) L') (hat : (Value.slice a3 L'.length c3).ownBlock = (sv z).ownBlock ∨ (Value.slice a3 L'.length c3).ownBlock = some wx.heap.size) :
  OutR (w3.setCell ⟨g, 3, none⟩ (.slice a3 L'.length c3)) g base r lo hi L' M := by
 have hzl := hz.lt
 have hbl := hb.lt
 have hT3 : TAt w3 g ⟨r, lo, hi, z, b⟩ 46 := hT.far hg (fun e => by have := (hzl g e).1; omega)
 have hq : ∀ q, (sv z).ownBlock ≠ some q → q < wx.heap.size → (sv (a3, L'.length, c3)).ownBlock ≠ some q := by
  intro q h1 h2 e
  have e' : (Value.slice a3 L'.length c3).ownBlock = some q := e
  rcases hat with h | h
  ·rw [h] at e'; exact h1 e'
  ·rw [h] at e'; simp at e'; omega
 refine ⟨(a3, L'.length, c3), b, vs, hT3.set rfl, ⟨rfl, hO.apart (fun e => by have := (hO.lt g e).1; omega)⟩, ⟨hbn, (own_other hb hg hne).apart (fun e => by have := (hbl g e).1; omega)⟩, fun g1 e1 e2 => ?_, hE.step hg hgb fun q hX hlt => ⟨hX.1, hq q hX.1 hlt, hX.2⟩⟩
 exact hq g1 (fun e => hne g1 e e2) (hbl g1 e2).2 e1
theorem OutR.putB {wx w3 : World} {g base w1s : Nat} {r lo hi : Int} {L : List (List UInt8 × Zn)} {M : List (List UInt8 × Int × List UInt8)} {z b : SV} {vs : List BV} {v : BV} {x : List UInt8 × Int × List UInt8} {a3 : Option Addr} {n3 c3 : Nat} (hT : TAt wx g ⟨r, lo, hi, z, b⟩ 46) (hgb : g < base) (hbw : base ≤ w1s) (hzn : z.2.1 = L.length) (hz : OwnW 76 8 zcc wx base (sv z) L) (hb : OwnW 79 3 bc wx base (sv b) vs) (hzs : ∀ q, (sv z).ownBlock = some q → q < w1s) (hbs : ∀ q, (sv b).ownBlock = some q → q < w1s) (hne : ∀ g1, (sv z).ownBlock = some g1 → (sv b).ownBlock ≠ some g1) (hE : EachO wx base (fun q => (sv z).ownBlock ≠ some q ∧ (sv b).ownBlock ≠ some q) vs M)
  (hv : v.col = x.1 ∧ v.k = x.2.1 ∧ Own wx w1s (sv v.s) x.2.2) (hg : wx.grownBy w3 (sv b).ownBlock) (hn3 : n3 = (vs ++ [v]).length) (hO : OwnW 79 3 bc w3 base (.slice a3 n3 c3) (vs ++ [v])) (hat : (Value.slice a3 n3 c3).ownBlock = (sv b).ownBlock ∨ (Value.slice a3 n3 c3).ownBlock = some wx.heap.size) :
  OutR (w3.setCell ⟨g, 4, none⟩ (.slice a3 n3 c3)) g base r lo hi L (M ++ [x]) := by
 have hzl := hz.lt
 have hbl := hb.lt
 have hT3 : TAt w3 g ⟨r, lo, hi, z, b⟩ 46 := hT.far hg (fun e => by have := (hbl g e).1; omega)
 have hq : ∀ q, (sv b).ownBlock ≠ some q → q < wx.heap.size → (sv (a3, n3, c3)).ownBlock ≠ some q := by
  intro q h1 h2 e
  have e' : (Value.slice a3 n3 c3).ownBlock = some q := e
  rcases hat with h | h
  ·rw [h] at e'; exact h1 e'
  ·rw [h] at e'; simp at e'; omega
 have hvl : ∀ q, (sv v.s).ownBlock = some q → w1s ≤ q ∧ q < wx.heap.size := World.ownsRow.lt hv.2.2
 have h1 : EachO wx base (fun q => (sv z).ownBlock ≠ some q ∧ (sv b).ownBlock ≠ some q) [v] [x] := EachO.one ⟨⟨hv.1, hv.2.1, owns_mono hv.2.2 hbw⟩, fun q e => ⟨fun e2 => by have := hzs q e2; have := (hvl q e).1; omega, fun e2 => by have := hbs q e2; have := (hvl q e).1; omega⟩⟩
 refine ⟨z, (a3, n3, c3), vs ++ [v], hT3.set rfl, ⟨hzn, (own_other hz hg (fun g1 e1 e2 => hne g1 e2 e1)).apart (fun e => by have := (hzl g e).1; omega)⟩, ⟨hn3, hO.apart (fun e => by have := (hO.lt g e).1; omega)⟩, fun g1 e1 e2 => ?_, (hE.append h1).step hg hgb fun q hX hlt => ⟨hX.2, hX.1, hq q hX.2 hlt⟩⟩
 exact hq g1 (hne g1 e1) (hzl g1 e1).2 e2
/-- A filter that a call made; with a column's name; in a slice of one. -/
def IsF (base : Nat) (k : Int) (B : List UInt8) (v : Value) (w : World) : Prop := ∃ s : SV, v = fv k (sv s) ∧ Own w base (sv s) B
theorem IsF.stands (base : Nat) (k : Int) (B : List UInt8) : ∀ v w w', IsF base k B v w → Ex w w' → IsF base k B v w' := by
 rintro v w w' ⟨s, rfl, h⟩ hx
 exact ⟨s, rfl, owns_later h hx⟩
def IsFc (base : Nat) (n : List UInt8) (k : Int) (B : List UInt8) (v : Value) (w : World) : Prop := ∃ s : SV, v = bcw ⟨n, k, s⟩ ∧ Own w base (sv s) B
theorem IsFc.stands (base : Nat) (n : List UInt8) (k : Int) (B : List UInt8) : ∀ v w w', IsFc base n k B v w → Ex w w' → IsFc base n k B v w' := by
 rintro v w w' ⟨s, rfl, h⟩ hx
 exact ⟨s, rfl, owns_later h hx⟩
def IsFs (base : Nat) (n : List UInt8) (k : Int) (B : List UInt8) (v : Value) (w : World) : Prop := ∃ (g : Nat) (s : SV), v = .slice (some ⟨g, 0, none⟩) 1 1 ∧ RdW 3 bc w (some ⟨g, 0, none⟩) 1 [⟨n, k, s⟩] ∧ Own w base (sv s) B
theorem IsFs.stands (base : Nat) (n : List UInt8) (k : Int) (B : List UInt8) : ∀ v w w', IsFs base n k B v w → Ex w w' → IsFs base n k B v w' := by
 rintro v w w' ⟨g, s, rfl, h1, h⟩ hx
 exact ⟨g, s, rfl, h1.below hx, owns_later h hx⟩
end Go.Proofs.Ytibnhjfeepdddaa
