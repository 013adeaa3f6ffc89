/-
  Taken out of another text of mine: Rmem. A zone that lies in a block of its own: read, written field by field. What is known of some rows (Stats), as values and in memory: zones of columns (eight places each), filters of columns (three, the last a slice). No function of the program here. A result that lies in a block: a zone.
-/
import Derived.Test.YtibnhjfeepdddaaM10
import Derived.Test.YtibnhjfeepdddaaM06
import Derived.Test.YtibnhjfeepdddaaM09
namespace Go.Proofs.Ytibnhjfeepdddaa
open Go.RowKit
set_option linter.unusedVariables false
set_option linter.unusedSimpArgs false
/-- A cell's four places; as a value; in a block. -/
def cc (c : Ce) : List Value := [.string (str c.col), .int .i64 c.k, .int .i64 c.n, .string (str c.s)]
abbrev cb (c : Ce) : Obj := .cells #[.string (str c.col), .int .i64 c.k, .int .i64 c.n, .string (str c.s)] 90
/-- A row's three places, the last a slice. -/
structure RV where
 t : Int
 q : Int
 s : SV
def rc (v : RV) : List Value := [.int .i64 v.t, .int .i64 v.q, sv v.s]
abbrev rb (v : RV) : Obj := .cells #[.int .i64 v.t, .int .i64 v.q, sv v.s] 61
theorem rc_len (v : RV) : (rc v).length = 3 := rfl
abbrev RdC := @RdW Ce 4 cc
theorem RdC.four {w : World} {a : Option Addr} {cap : Nat} {l : List Ce} (h : RdC w a cap l) {i : Nat} (hi : i < l.length) : ∃ b off, a = some ⟨b, off, none⟩ ∧ w.cell? ⟨b, off + i * 4, none⟩ = some (.string (str l[i].col)) ∧ w.cell? ⟨b, off + i * 4 + 1, none⟩ = some (.int .i64 l[i].k) ∧
  w.cell? ⟨b, off + i * 4 + 2, none⟩ = some (.int .i64 l[i].n) ∧ w.cell? ⟨b, off + i * 4 + 3, none⟩ = some (.string (str l[i].s)) := by
 obtain ⟨b, off, e, hc⟩ := h.at hi
 exact ⟨b, off, e, hc 0 _ rfl, hc 1 _ rfl, hc 2 _ rfl, hc 3 _ rfl⟩
/-- A row as it lies reads as the row r. -/
def RvOk (w : World) (v : RV) (r : Rw) : Prop := v.t = r.t ∧ v.q = r.q ∧ v.s.2.1 = r.c.length ∧ RdC w v.s.1 v.s.2.2 r.c
def EachR (w : World) (vs : List RV) (l : List Rw) : Prop := vs.length = l.length ∧ ∀ (i : Nat) (v : RV) (r : Rw), vs[i]? = some v → l[i]? = some r → RvOk w v r
/-- A slice reads as the rows l. -/
def RdR (w : World) (a : Option Addr) (cap : Nat) (l : List Rw) : Prop := ∃ vs, RdW 3 rc w a cap vs ∧ EachR w vs l
theorem RvOk.below {w w' : World} {v : RV} {r : Rw} (h : RvOk w v r) (hx : Ex w w') : RvOk w' v r := ⟨h.1, h.2.1, h.2.2.1, h.2.2.2.below hx⟩
theorem EachR.below {w w' : World} {vs : List RV} {l : List Rw} (h : EachR w vs l) (hx : Ex w w') : EachR w' vs l := ⟨h.1, fun i v r h1 h2 => (h.2 i v r h1 h2).below hx⟩
theorem RdR.below {w w' : World} {a : Option Addr} {cap : Nat} {l : List Rw} (h : RdR w a cap l) (hx : Ex w w') : RdR w' a cap l := by
 obtain ⟨vs, h1, h2⟩ := h
 exact ⟨vs, h1.below hx, h2.below hx⟩
theorem EachR.nil (w : World) : EachR w [] [] := ⟨rfl, fun i s x h _ => by simp at h⟩
theorem RdR.nil (w : World) : RdR w none 0 [] := ⟨[], RdW.nil w, EachR.nil w⟩
theorem RdR.bounds {w : World} {a : Option Addr} {cap : Nat} {l : List Rw} (h : RdR w a cap l) : l.length ≤ cap ∧ cap ≤ maxLen ∧ (a = none → cap = 0) := by
 obtain ⟨vs, h1, h2⟩ := h
 exact ⟨by rw [← h2.1]; exact h1.1, h1.2.1, h1.2.2.1⟩
theorem RdR.at {w : World} {a : Option Addr} {cap : Nat} {l : List Rw} (h : RdR w a cap l) {i : Nat} (hi : i < l.length) : ∃ b off p c, a = some ⟨b, off, none⟩ ∧ w.cell? ⟨b, off + i * 3, none⟩ = some (.int .i64 l[i].t) ∧ w.cell? ⟨b, off + i * 3 + 1, none⟩ = some (.int .i64 l[i].q) ∧
  w.cell? ⟨b, off + i * 3 + 2, none⟩ = some (.slice p l[i].c.length c) ∧ RdC w p c l[i].c := by
 obtain ⟨vs, h1, h2⟩ := h
 have hi' : i < vs.length := by rw [h2.1]; exact hi
 obtain ⟨b, off, e, hc⟩ := h1.at hi'
 obtain ⟨q1, q2, q3, q4⟩ := h2.2 i _ _ (List.getElem?_eq_getElem hi') (List.getElem?_eq_getElem hi)
 refine ⟨b, off, vs[i].s.1, vs[i].s.2.2, e, ?_, ?_, ?_, q4⟩
 ·have := hc 0 _ rfl; rw [q1] at this; exact this
 ·have := hc 1 _ rfl; rw [q2] at this; exact this
 ·have := hc 2 _ rfl; simp only [sv, q3] at this; exact this
theorem RdR.take {w : World} {a : Option Addr} {cap : Nat} {l : List Rw} (h : RdR w a cap l) (n : Nat) : RdR w a cap (l.take n) := by
 obtain ⟨vs, h1, h2⟩ := h
 refine ⟨vs.take n, h1.take n, by simp [h2.1], fun i v r hv hr => ?_⟩
 rw [List.getElem?_take] at hv hr
 split at hv
 ·rename_i hin
  rw [if_pos hin] at hr
  exact h2.2 i v r hv hr
 ·cases hv
theorem RdR.from {w : World} {b off cap : Nat} {l : List Rw} (h : RdR w (some ⟨b, off, none⟩) cap l) (n : Nat) (hn : n ≤ l.length) : RdR w (some ⟨b, off + n * 3, none⟩) (cap - n) (l.drop n) := by
 obtain ⟨vs, h1, h2⟩ := h
 refine ⟨vs.drop n, h1.from n (by rw [h2.1]; exact hn), by simp [h2.1], fun i v r hv hr => ?_⟩
 rw [List.getElem?_drop] at hv hr
 exact h2.2 _ v r hv hr
/-- No inner list that has cells lies in that block. -/
def AwayR (g : Option Nat) (vs : List RV) : Prop := ∀ v ∈ vs, 0 < v.s.2.1 → ∀ q, (sv v.s).ownBlock = some q → g ≠ some q
/-- A call's own rows. -/
def OwnL (w : World) (base : Nat) (v : Value) (l : List Rw) : Prop := ∃ vs, OwnW 61 3 rc w base v vs ∧ EachR w vs l ∧ AwayR v.ownBlock vs
theorem OwnL.rd {w : World} {base : Nat} {v : Value} {l : List Rw} (h : OwnL w base v l) : ∃ a cap, v = .slice a l.length cap ∧ RdR w a cap l := by
 obtain ⟨vs, h1, h2, _⟩ := h
 obtain ⟨a, cap, rfl, h3⟩ := h1.rd rc_len
 exact ⟨a, cap, by rw [h2.1], vs, h3, h2⟩
theorem OwnL.nil (w : World) (base : Nat) : OwnL w base (.slice none 0 0) [] := ⟨[], ownW_none w base, EachR.nil w, fun v h => by simp at h⟩
theorem OwnL.later {w w' : World} {base : Nat} {v : Value} {l : List Rw} (h : OwnL w base v l) (hx : Ex w w') : OwnL w' base v l := by
 obtain ⟨vs, h1, h2, h3⟩ := h
 exact ⟨vs, h1.later hx, h2.below hx, h3⟩
theorem OwnL.lt {w : World} {base : Nat} {v : Value} {l : List Rw} (h : OwnL w base v l) : ∀ g, v.ownBlock = some g → base ≤ g ∧ g < w.heap.size := by
 obtain ⟨vs, h1, _, _⟩ := h
 exact h1.lt
theorem OwnL.mono {w : World} {base base' : Nat} {v : Value} {l : List Rw} (h : OwnL w base v l) (hb : base' ≤ base) : OwnL w base' v l := by
 obtain ⟨vs, h1, h2, h3⟩ := h
 exact ⟨vs, h1.mono hb, h2, h3⟩
theorem RvOk.block {w : World} {v : RV} {r : Rw} (h : RvOk w v r) (h0 : 0 < v.s.2.1) : ∃ q off, v.s.1 = some ⟨q, off, none⟩ ∧ q < w.heap.size := by
 obtain ⟨_, _, h3, h4⟩ := h
 obtain ⟨q, off, e, hc, _⟩ := h4.four (i := 0) (by omega)
 exact ⟨q, off, e, World.block_lt_of_cell? w _ hc⟩
theorem RvOk.far {w w' : World} {v : RV} {r : Rw} {row : Option Nat} (h : RvOk w v r) (hg : w.grownBy w' row) (ha : 0 < v.s.2.1 → ∀ q, (sv v.s).ownBlock = some q → row ≠ some q) : RvOk w' v r := by
 obtain ⟨h1, h2, h3, h4⟩ := h
 refine ⟨h1, h2, h3, h4.far hg fun h0 b off e => ha (by omega) b (by simp [sv, e, Value.ownBlock])⟩
theorem EachR.append {w : World} {vs us : List RV} {l m : List Rw} (h : EachR w vs l) (h' : EachR w us m) : EachR w (vs ++ us) (l ++ m) := by
 refine ⟨by simp [h.1, h'.1], fun i v r hv hr => ?_⟩
 by_cases hi : i < vs.length
 ·rw [List.getElem?_append_left hi] at hv
  rw [List.getElem?_append_left (by rw [← h.1]; exact hi)] at hr
  exact h.2 i v r hv hr
 ·rw [List.getElem?_append_right (by omega)] at hv
  rw [List.getElem?_append_right (by rw [← h.1]; omega), ← h.1] at hr
  exact h'.2 _ v r hv hr
theorem EachR.one {w : World} {v : RV} {r : Rw} (h : RvOk w v r) : EachR w [v] [r] := by
 refine ⟨rfl, fun i u x h1 h2 => ?_⟩
 match i, h1, h2 with
 | 0, h1, h2 => simp at h1 h2; rw [← h1, ← h2]; exact h
theorem AwayR.append {g : Option Nat} {vs us : List RV} (h : AwayR g vs) (h' : AwayR g us) : AwayR g (vs ++ us) := fun v hv => by
 rcases List.mem_append.1 hv with h1 | h1
 ·exact h v h1
 ·exact h' v h1
end Go.Proofs.Ytibnhjfeepdddaa
namespace Go.Proofs.Ytibnhjfeepdddaa
open Go.RowKit
set_option linter.unusedVariables false
/-- A zone's seven places. -/
def zc (z : Zn) : List Value := [.int .i64 z.k, .int .i64 z.r, .int .i64 z.u, .int .i64 z.mn, .int .i64 z.mx, .string (str z.ms), .string (str z.xs)]
/-- A zone lies in a block. -/
def ZAt (w : World) (g : Nat) (z : Zn) (t : TypeId) : Prop := w.heap[g]? = some (.cells (zc z).toArray t (0, 0))
theorem ZAt.lt {w : World} {g : Nat} {z : Zn} {t : TypeId} (h : ZAt w g z t) : g < w.heap.size := (Array.getElem?_eq_some_iff.1 h).1
theorem ZAt.below {w w' : World} {g : Nat} {z : Zn} {t : TypeId} (h : ZAt w g z t) (hb : Below w.heap.size w w') : ZAt w' g z t := by
 unfold ZAt; rw [hb.block g h.lt]; exact h
theorem ZAt.alloc {w : World} {g : Nat} {z : Zn} {t : TypeId} (h : ZAt w g z t) (o : Obj) : ZAt (w.alloc o) g z t := h.below ((Below.refl _ _).alloc (Nat.le_refl _) _)
theorem ZAt.new (w : World) (z : Zn) (t : TypeId) : ZAt (w.alloc (zb z t)) w.heap.size z t := heap_alloc_new w _
theorem ZAt.cell {w : World} {g : Nat} {z : Zn} {t : TypeId} (h : ZAt w g z t) (k : Nat) : w.cell? ⟨g, k, none⟩ = (zc z)[k]? := by
 rw [cell_of_row w g k _ t (0, 0) h, List.getElem?_toArray]
theorem ZAt.frozen {w : World} {g : Nat} {z : Zn} {t : TypeId} (h : ZAt w g z t) (k : Nat) : w.frozen? ⟨g, k, none⟩ = false := frozen_of_row _ _ _ _ _ h
theorem ZAt.set {w : World} {g k : Nat} {z z' : Zn} {t : TypeId} {v : Value} (h : ZAt w g z t) (hz : (zc z).set k v = zc z') : ZAt (w.setCell ⟨g, k, none⟩ v) g z' t := by
 unfold ZAt
 rw [heap_setCell_same w g k _ t _ h, List.setIfInBounds_toArray, hz]
theorem ZAt.other {w : World} {g q k : Nat} {z : Zn} {t : TypeId} {v : Value} (h : ZAt w g z t) (hne : g ≠ q) : ZAt (w.setCell ⟨q, k, none⟩ v) g z t := by
 unfold ZAt
 rw [heap_setCell_other w _ g v (by simpa using hne)]; exact h
end Go.Proofs.Ytibnhjfeepdddaa
namespace Go.Proofs.Ytibnhjfeepdddaa
open Go.RowKit
set_option linter.unusedVariables false
set_option linter.unusedSimpArgs false
/-- A column's zone: its eight places; as a value. -/
def zcc (x : List UInt8 × Zn) : List Value := [.string (str x.1), .int .i64 x.2.k, .int .i64 x.2.r, .int .i64 x.2.u, .int .i64 x.2.mn, .int .i64 x.2.mx, .string (str x.2.ms), .string (str x.2.xs)]
theorem zcc_len (x : List UInt8 × Zn) : (zcc x).length = 8 := rfl
theorem zcc_one (x : List UInt8 × Zn) : ∀ u ∈ zcc x, u.oneCell' = true := by
 intro u hu
 simp only [zcc, List.mem_cons, List.not_mem_nil, or_false] at hu
 rcases hu with rfl | rfl | rfl | rfl | rfl | rfl | rfl | rfl <;> rfl
abbrev RdZ := @RdW (List UInt8 × Zn) 8 zcc
/-- A column's filter as it lies: three places, the last a slice of bytes. -/
structure BV where
 col : List UInt8
 k : Int
 s : SV
def bc (v : BV) : List Value := [.string (str v.col), .int .i64 v.k, sv v.s]
theorem bc_len (v : BV) : (bc v).length = 3 := rfl
theorem bc_one (v : BV) : ∀ u ∈ bc v, u.oneCell' = true := by
 intro u hu
 simp only [bc, List.mem_cons, List.not_mem_nil, or_false] at hu
 rcases hu with rfl | rfl | rfl <;> rfl
def BvOk (w : World) (v : BV) (x : List UInt8 × Int × List UInt8) : Prop := v.col = x.1 ∧ v.k = x.2.1 ∧ v.s.2.1 = x.2.2.length ∧ Byt w v.s.1 v.s.2.2 x.2.2
def EachB (w : World) (vs : List BV) (l : List (List UInt8 × Int × List UInt8)) : Prop := vs.length = l.length ∧ ∀ (i : Nat) v x, vs[i]? = some v → l[i]? = some x → BvOk w v x
/-- A slice reads as such filters. -/
def RdF (w : World) (a : Option Addr) (cap : Nat) (l : List (List UInt8 × Int × List UInt8)) : Prop := ∃ vs, RdW 3 bc w a cap vs ∧ EachB w vs l
theorem BvOk.below {w w' : World} {v : BV} {x : List UInt8 × Int × List UInt8} (h : BvOk w v x) (hx : Ex w w') : BvOk w' v x := ⟨h.1, h.2.1, h.2.2.1, h.2.2.2.below hx⟩
theorem EachB.below {w w' : World} {vs : List BV} {l : List (List UInt8 × Int × List UInt8)} (h : EachB w vs l) (hx : Ex w w') : EachB w' vs l := ⟨h.1, fun i v x h1 h2 => (h.2 i v x h1 h2).below hx⟩
theorem RdF.below {w w' : World} {a : Option Addr} {cap : Nat} {l : List (List UInt8 × Int × List UInt8)} (h : RdF w a cap l) (hx : Ex w w') : RdF w' a cap l := by
 obtain ⟨vs, h1, h2⟩ := h
 exact ⟨vs, h1.below hx, h2.below hx⟩
theorem EachB.nil (w : World) : EachB w [] [] := ⟨rfl, fun i s x h _ => by simp at h⟩
theorem RdF.nil (w : World) : RdF w none 0 [] := ⟨[], RdW.nil w, EachB.nil w⟩
theorem RdF.bounds {w : World} {a : Option Addr} {cap : Nat} {l : List (List UInt8 × Int × List UInt8)} (h : RdF w a cap l) : l.length ≤ cap ∧ cap ≤ maxLen := by
 obtain ⟨vs, h1, h2⟩ := h
 exact ⟨by rw [← h2.1]; exact h1.1, h1.2.1⟩
theorem RdZ.eight {w : World} {a : Option Addr} {cap : Nat} {l : List (List UInt8 × Zn)} (h : RdZ w a cap l) {i : Nat} (hi : i < l.length) : ∃ b off, a = some ⟨b, off, none⟩ ∧ w.cell? ⟨b, off + i * 8, none⟩ = some (.string (str l[i].1)) ∧ w.cell? ⟨b, off + i * 8 + 1, none⟩ = some (.int .i64 l[i].2.k) ∧
  w.cell? ⟨b, off + i * 8 + 2, none⟩ = some (.int .i64 l[i].2.r) ∧ w.cell? ⟨b, off + i * 8 + 3, none⟩ = some (.int .i64 l[i].2.u) ∧ w.cell? ⟨b, off + i * 8 + 4, none⟩ = some (.int .i64 l[i].2.mn) ∧ w.cell? ⟨b, off + i * 8 + 5, none⟩ = some (.int .i64 l[i].2.mx) ∧
  w.cell? ⟨b, off + i * 8 + 6, none⟩ = some (.string (str l[i].2.ms)) ∧ w.cell? ⟨b, off + i * 8 + 7, none⟩ = some (.string (str l[i].2.xs)) := by
 obtain ⟨b, off, e, hc⟩ := h.at hi
 exact ⟨b, off, e, hc 0 _ rfl, hc 1 _ rfl, hc 2 _ rfl, hc 3 _ rfl, hc 4 _ rfl, hc 5 _ rfl, hc 6 _ rfl, hc 7 _ rfl⟩
theorem RdF.three {w : World} {a : Option Addr} {cap : Nat} {l : List (List UInt8 × Int × List UInt8)} (h : RdF w a cap l) {i : Nat} (hi : i < l.length) : ∃ b off p c, a = some ⟨b, off, none⟩ ∧ w.cell? ⟨b, off + i * 3, none⟩ = some (.string (str l[i].1)) ∧ w.cell? ⟨b, off + i * 3 + 1, none⟩ = some (.int .i64 l[i].2.1) ∧
  w.cell? ⟨b, off + i * 3 + 2, none⟩ = some (.slice p l[i].2.2.length c) ∧ Byt w p c l[i].2.2 := by
 obtain ⟨vs, h1, h2⟩ := h
 have hi' : i < vs.length := by rw [h2.1]; exact hi
 obtain ⟨b, off, e, hc⟩ := h1.at hi'
 obtain ⟨q1, q2, q3, q4⟩ := h2.2 i _ _ (List.getElem?_eq_getElem hi') (List.getElem?_eq_getElem hi)
 refine ⟨b, off, vs[i].s.1, vs[i].s.2.2, e, ?_, ?_, ?_, q4⟩
 ·have := hc 0 _ rfl; rw [q1] at this; exact this
 ·have := hc 1 _ rfl; rw [q2] at this; exact this
 ·have := hc 2 _ rfl; simp only [sv, q3] at this; exact this
/-- Stats as it lies: five places, the last two slices. -/
structure TV where
 rows : Int
 lo : Int
 hi : Int
 zs : SV
 bs : SV
def tvv (v : TV) : Value := .agg #[.int .i64 v.rows, .int .i64 v.lo, .int .i64 v.hi, sv v.zs, sv v.bs]
abbrev tb (v : TV) (t : TypeId) : Obj := .cells #[.int .i64 v.rows, .int .i64 v.lo, .int .i64 v.hi, sv v.zs, sv v.bs] t
/-- It reads as s. -/
def StOk (w : World) (v : TV) (s : St) : Prop := (v.rows = s.rows ∧ v.lo = s.lo ∧ v.hi = s.hi) ∧ (v.zs.2.1 = s.zs.length ∧ RdZ w v.zs.1 v.zs.2.2 s.zs) ∧ v.bs.2.1 = s.bs.length ∧ RdF w v.bs.1 v.bs.2.2 s.bs
theorem StOk.below {w w' : World} {v : TV} {s : St} (h : StOk w v s) (hx : Ex w w') : StOk w' v s := ⟨h.1, ⟨h.2.1.1, h.2.1.2.below hx⟩, h.2.2.1, h.2.2.2.below hx⟩
/-- What is asked of Stats: texts and filters of a length that Go has. -/
structure StFine (s : St) : Prop where
 zs : ∀ x ∈ s.zs, x.1.length ≤ maxLen ∧ x.2.ms.length ≤ maxLen ∧ x.2.xs.length ≤ maxLen
 bs : ∀ x ∈ s.bs, x.1.length ≤ maxLen ∧ x.2.2.length ≤ 281474976710656 ∧ In64 x.2.1
def tc (v : TV) : List Value := [.int .i64 v.rows, .int .i64 v.lo, .int .i64 v.hi, sv v.zs, sv v.bs]
/-- Stats in a block. -/
def TAt (w : World) (g : Nat) (v : TV) (t : TypeId) : Prop := w.heap[g]? = some (.cells (tc v).toArray t (0, 0))
theorem TAt.lt {w : World} {g : Nat} {v : TV} {t : TypeId} (h : TAt w g v t) : g < w.heap.size := (Array.getElem?_eq_some_iff.1 h).1
theorem TAt.below {w w' : World} {g : Nat} {v : TV} {t : TypeId} (h : TAt w g v t) (hb : Ex w w') : TAt w' g v t := by
 unfold TAt; rw [hb.block g h.lt]; exact h
theorem TAt.alloc {w : World} {g : Nat} {v : TV} {t : TypeId} (h : TAt w g v t) (o : Obj) : TAt (w.alloc o) g v t := h.below ((Below.refl _ _).alloc (Nat.le_refl _) _)
theorem TAt.new (w : World) (v : TV) (t : TypeId) : TAt (w.alloc (tb v t)) w.heap.size v t := heap_alloc_new w _
theorem TAt.cell {w : World} {g : Nat} {v : TV} {t : TypeId} (h : TAt w g v t) (k : Nat) : w.cell? ⟨g, k, none⟩ = (tc v)[k]? := by
 rw [cell_of_row w g k _ t (0, 0) h, List.getElem?_toArray]
theorem TAt.all {w : World} {g : Nat} {v : TV} {t : TypeId} (h : TAt w g v t) : w.cell? ⟨g, 0, none⟩ = some (.int .i64 v.rows) ∧ w.cell? ⟨g, 1, none⟩ = some (.int .i64 v.lo) ∧ w.cell? ⟨g, 2, none⟩ = some (.int .i64 v.hi) ∧ w.cell? ⟨g, 3, none⟩ = some (.slice v.zs.1 v.zs.2.1 v.zs.2.2) ∧ w.cell? ⟨g, 4, none⟩ = some (.slice v.bs.1 v.bs.2.1 v.bs.2.2) :=
 ⟨h.cell 0, h.cell 1, h.cell 2, h.cell 3, h.cell 4⟩
abbrev zset (w : World) (g : Nat) (z : Zn) : World :=
 ((((((w.setCell ⟨g, 0, none⟩ (.int .i64 z.k)).setCell ⟨g, 1, none⟩ (.int .i64 z.r)).setCell ⟨g, 2, none⟩ (.int .i64 z.u)).setCell ⟨g, 3, none⟩ (.int .i64 z.mn)).setCell ⟨g, 4, none⟩ (.int .i64 z.mx)).setCell ⟨g, 5, none⟩ (.string (str z.ms))).setCell ⟨g, 6, none⟩ (.string (str z.xs))
theorem ZAt.store {w : World} {g : Nat} {z0 : Zn} {t : TypeId} (h : ZAt w g z0 t) (z : Zn) : ZAt (zset w g z) g z t :=
 ((((((h.set (k := 0) (z' := { z0 with k := z.k }) rfl).set (k := 1) (z' := { z0 with k := z.k, r := z.r }) rfl).set (k := 2) (z' := { z0 with k := z.k, r := z.r, u := z.u }) rfl).set (k := 3) (z' := { z0 with k := z.k, r := z.r, u := z.u, mn := z.mn }) rfl).set (k := 4) (z' := { z0 with k := z.k, r := z.r, u := z.u, mn := z.mn, mx := z.mx }) rfl).set (k := 5) (z' := { z0 with k := z.k, r := z.r, u := z.u, mn := z.mn, mx := z.mx, ms := z.ms }) rfl).set (k := 6) (z' := z) rfl
theorem Below.zset {B : Nat} {a w : World} (h : Below B a w) {g : Nat} (hg : B ≤ g) (z : Zn) : Below B a (zset w g z) :=
 Below.setCell (Below.setCell (Below.setCell (Below.setCell (Below.setCell (Below.setCell (Below.setCell h (p := ⟨g, 0, none⟩) hg _) (p := ⟨g, 1, none⟩) hg _) (p := ⟨g, 2, none⟩) hg _) (p := ⟨g, 3, none⟩) hg _) (p := ⟨g, 4, none⟩) hg _) (p := ⟨g, 5, none⟩) hg _) (p := ⟨g, 6, none⟩) hg _
theorem ZAt.fro {w : World} {g : Nat} {z : Zn} {t : TypeId} (h : ZAt w g z t) : w.frozen? ⟨g, 0, none⟩ = false ∧ w.frozen? ⟨g, 1, none⟩ = false ∧ w.frozen? ⟨g, 2, none⟩ = false ∧ w.frozen? ⟨g, 3, none⟩ = false ∧ w.frozen? ⟨g, 4, none⟩ = false ∧ w.frozen? ⟨g, 5, none⟩ = false ∧ w.frozen? ⟨g, 6, none⟩ = false :=
 ⟨h.frozen 0, h.frozen 1, h.frozen 2, h.frozen 3, h.frozen 4, h.frozen 5, h.frozen 6⟩
abbrev zb0 (t : TypeId) : Obj := .cells #[.int .i64 0, .int .i64 0, .int .i64 0, .int .i64 0, .int .i64 0, .string { data := #[] }, .string { data := #[] }] t
end Go.Proofs.Ytibnhjfeepdddaa
namespace Go.Proofs.Ytibnhjfeepdddaa
open Go.RowKit
set_option linter.unusedVariables false
set_option linter.unusedSimpArgs false
theorem ZAt.all {w : World} {g : Nat} {z : Zn} {t : TypeId} (h : ZAt w g z t) : w.cell? ⟨g, 0, none⟩ = some (.int .i64 z.k) ∧ w.cell? ⟨g, 1, none⟩ = some (.int .i64 z.r) ∧ w.cell? ⟨g, 2, none⟩ = some (.int .i64 z.u) ∧ w.cell? ⟨g, 3, none⟩ = some (.int .i64 z.mn) ∧ w.cell? ⟨g, 4, none⟩ = some (.int .i64 z.mx) ∧ w.cell? ⟨g, 5, none⟩ = some (.string (str z.ms)) ∧ w.cell? ⟨g, 6, none⟩ = some (.string (str z.xs)) :=
 ⟨h.cell 0, h.cell 1, h.cell 2, h.cell 3, h.cell 4, h.cell 5, h.cell 6⟩
set_option maxHeartbeats 1000000 in
theorem load_zone {w9 : World} {g : Nat} {z : Zn} (h : ZAt w9 g z 25) : (loadVar 25 ⟨g, 0, none⟩).run Try.prog w9 = .ok (zv z) w9 := by
 have c0 : w9.cell? ⟨g, 0, none⟩ = some (.int .i64 z.k) := h.cell 0
 have c1 : w9.cell? ⟨g, 1, none⟩ = some (.int .i64 z.r) := h.cell 1
 have c2 : w9.cell? ⟨g, 2, none⟩ = some (.int .i64 z.u) := h.cell 2
 have c3 : w9.cell? ⟨g, 3, none⟩ = some (.int .i64 z.mn) := h.cell 3
 have c4 : w9.cell? ⟨g, 4, none⟩ = some (.int .i64 z.mx) := h.cell 4
 have c5 : w9.cell? ⟨g, 5, none⟩ = some (.string (str z.ms)) := h.cell 5
 have c6 : w9.cell? ⟨g, 6, none⟩ = some (.string (str z.xs)) := h.cell 6
 clear h
 simp [go_sem, zv, c0, c1, c2, c3, c4, c5, c6]
theorem res_zone {fn : Func} {tmps : Array Value} {w9 : World} {g i : Nat} {z : Zn} (hfn : fn.results = #[ResultVar.cell i 25]) (ht : tmps.getD i undef = .pointer (some ⟨g, 0, none⟩)) (h : ZAt w9 g z 25) : (results fn tmps).run Try.prog w9 = .ok (zv z) w9 := by
 have hl := load_zone h
 have ht' : tmps[i]?.getD undef = .pointer (some ⟨g, 0, none⟩) := by simpa using ht
 simp [results, hfn, ht', asAddr, Sem.run_bind, Result.andThen, hl]
set_option maxHeartbeats 1000000 in
theorem rload_zone {w9 : World} {g : Nat} {z : Zn} (h : ZAt w9 g z 74) : (loadVar 74 ⟨g, 0, none⟩).run Try.prog w9 = .ok (zv z) w9 := by
 have c0 : w9.cell? ⟨g, 0, none⟩ = some (.int .i64 z.k) := h.cell 0
 have c1 : w9.cell? ⟨g, 1, none⟩ = some (.int .i64 z.r) := h.cell 1
 have c2 : w9.cell? ⟨g, 2, none⟩ = some (.int .i64 z.u) := h.cell 2
 have c3 : w9.cell? ⟨g, 3, none⟩ = some (.int .i64 z.mn) := h.cell 3
 have c4 : w9.cell? ⟨g, 4, none⟩ = some (.int .i64 z.mx) := h.cell 4
 have c5 : w9.cell? ⟨g, 5, none⟩ = some (.string (str z.ms)) := h.cell 5
 have c6 : w9.cell? ⟨g, 6, none⟩ = some (.string (str z.xs)) := h.cell 6
 clear h
 simp [go_sem, zv, c0, c1, c2, c3, c4, c5, c6]
theorem rres_zone {fn : Func} {tmps : Array Value} {w9 : World} {g i : Nat} {z : Zn} (hfn : fn.results = #[ResultVar.cell i 74]) (ht : tmps.getD i undef = .pointer (some ⟨g, 0, none⟩)) (h : ZAt w9 g z 74) : (results fn tmps).run Try.prog w9 = .ok (zv z) w9 := by
 have hl := rload_zone h
 have ht' : tmps[i]?.getD undef = .pointer (some ⟨g, 0, none⟩) := by simpa using ht
 simp [results, hfn, ht', asAddr, Sem.run_bind, Result.andThen, hl]
end Go.Proofs.Ytibnhjfeepdddaa
