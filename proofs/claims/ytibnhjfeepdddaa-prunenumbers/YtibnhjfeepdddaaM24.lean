/-
  The landed prune: verdict, zoneOf, may. The document's own byZone: what a zone tells of a predicate without Kids. Taken out of another text of mine: Finds.
-/
import Derived.Test.YtibnhjfeepdddaaM12
import Derived.Test.YtibnhjfeepdddaaM23
import Derived.Test.YtibnhjfeepdddaaM11
import Derived.Deep.CutBlock
import Derived.Test.YtibnhjfeepdddaaM16
import Derived.Test.YtibnhjfeepdddaaM20
import Derived.Test.YtibnhjfeepdddaaM19
namespace Go.Proofs.Ytibnhjfeepdddaa
open Go.RowKit
set_option linter.unusedVariables false
set_option linter.unusedSimpArgs false
/-- A column's zone in a block. -/
def ZCAt (w : World) (g : Nat) (x : List UInt8 × Zn) (t : TypeId) : Prop := w.heap[g]? = some (.cells (zcc x).toArray t (0, 0))
abbrev zcb (n : List UInt8) (z : Zn) (t : TypeId) : Obj := .cells #[.string (str n), .int .i64 z.k, .int .i64 z.r, .int .i64 z.u, .int .i64 z.mn, .int .i64 z.mx, .string (str z.ms), .string (str z.xs)] t
theorem ZCAt.new (w : World) (n : List UInt8) (z : Zn) (t : TypeId) : ZCAt (w.alloc (zcb n z t)) w.heap.size (n, z) t := heap_alloc_new w _
theorem ZCAt.cell {w : World} {g : Nat} {x : List UInt8 × Zn} {t : TypeId} (h : ZCAt w g x t) (k : Nat) : w.cell? ⟨g, k, none⟩ = (zcc x)[k]? := by
 rw [cell_of_row w g k _ t (0, 0) h, List.getElem?_toArray]
theorem ZCAt.all {w : World} {g : Nat} {n : List UInt8} {z : Zn} {t : TypeId} (h : ZCAt w g (n, z) t) : w.cell? ⟨g, 0, none⟩ = some (.string (str n)) ∧ w.cell? ⟨g, 1, none⟩ = some (.int .i64 z.k) ∧ w.cell? ⟨g, 2, none⟩ = some (.int .i64 z.r) ∧ w.cell? ⟨g, 3, none⟩ = some (.int .i64 z.u) ∧ w.cell? ⟨g, 4, none⟩ = some (.int .i64 z.mn) ∧ w.cell? ⟨g, 5, none⟩ = some (.int .i64 z.mx) ∧ w.cell? ⟨g, 6, none⟩ = some (.string (str z.ms)) ∧ w.cell? ⟨g, 7, none⟩ = some (.string (str z.xs)) :=
 ⟨h.cell 0, h.cell 1, h.cell 2, h.cell 3, h.cell 4, h.cell 5, h.cell 6, h.cell 7⟩
/-- A column's filter in a block. -/
def BCAt (w : World) (g : Nat) (v : BV) (t : TypeId) : Prop := w.heap[g]? = some (.cells (bc v).toArray t (0, 0))
abbrev bcb (v : BV) (t : TypeId) : Obj := .cells #[.string (str v.col), .int .i64 v.k, sv v.s] t
theorem BCAt.new (w : World) (v : BV) (t : TypeId) : BCAt (w.alloc (bcb v t)) w.heap.size v t := heap_alloc_new w _
theorem BCAt.cell {w : World} {g : Nat} {v : BV} {t : TypeId} (h : BCAt w g v t) (k : Nat) : w.cell? ⟨g, k, none⟩ = (bc v)[k]? := by
 rw [cell_of_row w g k _ t (0, 0) h, List.getElem?_toArray]
theorem BCAt.all {w : World} {g : Nat} {v : BV} {t : TypeId} (h : BCAt w g v t) : w.cell? ⟨g, 0, none⟩ = some (.string (str v.col)) ∧ w.cell? ⟨g, 1, none⟩ = some (.int .i64 v.k) ∧ w.cell? ⟨g, 2, none⟩ = some (.slice v.s.1 v.s.2.1 v.s.2.2) := ⟨h.cell 0, h.cell 1, h.cell 2⟩
set_option maxHeartbeats 1000000 in
theorem pver_is (nv al : Bool) (w : World) (o : Nat) (ho : (if nv = true then 1 else if al = true then 3 else 2) = o) : Calls Try.prog 70 #[.bool nv, .bool al] w fun e w' => e = .returned (.int .i64 (o : Int)) ∧ w' = w := by
 subst ho
 go_enter Try.func70, Try.ntmps70
 cases nv <;> cases al <;> (go_wp2_with fail; go_ret; exact ⟨rfl, rfl⟩)
set_option maxHeartbeats 4000000 in
set_option maxRecDepth 100000 in
theorem pzone_is (v : TV) (s : St) (c : List UInt8) (w : World) (h : StOk w v s) (z : Zn) (hz : Pu.zoneOf s c = z) : Calls Try.prog 73 #[tvv v, .string (str c)] w fun e w' => e = .returned (zv z) ∧ Ex w w' := by
 obtain ⟨vr, vl, vh, ⟨p, n, cap⟩, ⟨q, nq, capq⟩⟩ := v
 obtain ⟨⟨rfl, rfl, rfl⟩, ⟨hn, hB⟩, hnq, _⟩ := h
 simp only at hn hB hnq
 subst hn hnq
 have h1 := hB.1
 have h2 := hB.2.1
 unfold maxLen at h2
 obtain ⟨W, hW⟩ : ∃ W, W = (w.alloc (tb ⟨s.rows, s.lo, s.hi, (p, s.zs.length, cap), (q, s.bs.length, capq)⟩ 38)).alloc (zb0 25) := ⟨_, rfl⟩
 have HX : Hid (Ex w W) := (by rw [hW]; exact ((Below.refl _ _).alloc (Nat.le_refl _) _).alloc (by simp) _ : Ex w W)
 have HB : Hid (RdZ W p cap s.zs) := hB.below HX.out
 have HL : Hid (TAt W w.heap.size ⟨s.rows, s.lo, s.hi, (p, s.zs.length, cap), (q, s.bs.length, capq)⟩ 38) := (by rw [hW]; exact (TAt.new w _ _).alloc _ : TAt W w.heap.size ⟨s.rows, s.lo, s.hi, (p, s.zs.length, cap), (q, s.bs.length, capq)⟩ 38)
 have HZ : Hid (ZAt W (w.heap.size + 1) Z.zero 25) := (by
  have h := ZAt.new (w.alloc (tb ⟨s.rows, s.lo, s.hi, (p, s.zs.length, cap), (q, s.bs.length, capq)⟩ 38)) Z.zero 25
  have hs : (w.alloc (tb ⟨s.rows, s.lo, s.hi, (p, s.zs.length, cap), (q, s.bs.length, capq)⟩ 38)).heap.size = w.heap.size + 1 := by simp
  rw [hs] at h
  rw [hW]; exact h : ZAt W (w.heap.size + 1) Z.zero 25)
 have HW : Hid (W = (w.alloc (tb ⟨s.rows, s.lo, s.hi, (p, s.zs.length, cap), (q, s.bs.length, capq)⟩ 38)).alloc (zb0 25)) := hW
 have HC : Hid (Pu.zoneOf s c = z) := hz
 have zs := str_toList c
 clear hB hW hz
 unfold tvv
 simp only [sv]
 go_enter Try.func73, Try.ntmps73
 go_wp2_with fail
 rw [← HW.out]
 obtain ⟨n0, n1, n2, n3, n4⟩ := HL.out.all
 simp only at n0 n1 n2 n3 n4
 go_wp2_with fail
 clear n0 n1 n2 n3 n4
 go_loopw [10] (fun iv wr => ∃ i : Nat, i ≤ s.zs.length ∧ iv = .int .i64 i ∧ Hid (∀ d ∈ s.zs.take i, d.1 ≠ c) ∧ Hid (Ex W wr)) (fun iv wr => s.zs.length - (intOf iv).toNat)
 case atStart => exact ⟨0, by omega, rfl, (by simp : ∀ d ∈ s.zs.take 0, d.1 ≠ c), Ex.refl W⟩
 case round =>
  obtain ⟨i, hi, rfl, HN, HXr⟩ := hrel
  have HB2 : Hid (RdZ wr p cap s.zs) := HB.out.below HXr.out
  have HZ2 : Hid (ZAt wr (w.heap.size + 1) Z.zero 25) := HZ.out.below HXr.out
  by_cases hlt : i < s.zs.length
  ·have hti : (i : Int) < (s.zs.length : Int) := by omega
   obtain ⟨b, off, rfl, e0, e1, e2, e3, e4, e5, e6, e7⟩ := RdZ.eight HB2.out hlt
   obtain ⟨⟨dn, d⟩, hd⟩ : ∃ d, s.zs[i] = d := ⟨_, rfl⟩
   rw [hd] at e0 e1 e2 e3 e4 e5 e6 e7
   simp only at e0 e1 e2 e3 e4 e5 e6 e7
   have hsp : s.zs = s.zs.take i ++ (dn, d) :: s.zs.drop (i + 1) := by rw [← hd, ← List.drop_eq_getElem_cons hlt, List.take_append_drop]
   have HSP : Hid (s.zs = s.zs.take i ++ (dn, d) :: s.zs.drop (i + 1)) := hsp
   have hnx : s.zs.take (i + 1) = s.zs.take i ++ [(dn, d)] := by rw [List.take_add_one, List.getElem?_eq_getElem hlt, hd]; rfl
   have HNX : Hid (s.zs.take (i + 1) = s.zs.take i ++ [(dn, d)]) := hnx
   have zd := str_toList dn
   obtain ⟨w1, hw1⟩ : ∃ w1, wr.alloc (zcb dn d 28) = w1 := ⟨_, rfl⟩
   have HX1 : Hid (Ex W w1) := (by rw [← hw1]; exact HXr.out.trans ((Below.refl _ _).alloc (Nat.le_refl _) _) : Ex W w1)
   have HE1 : Hid (ZCAt w1 wr.heap.size (dn, d) 28) := (by rw [← hw1]; exact ZCAt.new wr dn d 28 : ZCAt w1 wr.heap.size (dn, d) 28)
   have HZ1 : Hid (ZAt w1 (w.heap.size + 1) Z.zero 25) := HZ.out.below HX1.out
   obtain ⟨g0, g1, g2, g3, g4, g5, g6, g7⟩ := HE1.out.all
   obtain ⟨z0, z1, z2, z3, z4, z5, z6⟩ := HZ1.out.all
   obtain ⟨f0, f1, f2, f3, f4, f5, f6⟩ := HZ1.out.fro
   clear hd hsp hnx
   by_cases hds : dn = c
   ·have td : (dn == c) = true := by simp [hds]
    have HF : Hid (z = d) := (by rw [← HC.out]; exact Pu.zoneOf_at HSP.out HN.out hds : z = d)
    clear hds
    go_wp2_with fail
    have hL9 := ZAt.store HZ1.out d
    have hX9 := Below.zset (HX.out.trans HX1.out) (Nat.le_succ _) d
    refine bodyPost_ret (v := zv d) (res_zone Try.results73 rfl hL9) rfl ⟨by rw [HF.out], hX9⟩
   ·have td : (dn == c) = false := by simp [hds]
    have HN2 : Hid (∀ e ∈ s.zs.take (i + 1), e.1 ≠ c) := (by
     intro e he
     rw [HNX.out] at he
     rcases List.mem_append.1 he with h | h
     ·exact HN.out e h
     ·rw [List.mem_singleton] at h; subst h; exact hds : ∀ e ∈ s.zs.take (i + 1), e.1 ≠ c)
    go_wp2_with fail
    go_roundw
    case rel => exact ⟨i + 1, by omega, by go_num, HN2, HX1⟩
    case measure => simp [intOf]; omega
  ·have hti : ¬ (i : Int) < (s.zs.length : Int) := by omega
   have HF : Hid (z = ⟨0, s.rows, s.rows, 0, 0, [], []⟩) := (by rw [← HC.out]; have h := HN.out; rw [List.take_of_length_le (by omega)] at h; exact Pu.zoneOf_out h : z = ⟨0, s.rows, s.rows, 0, 0, [], []⟩)
   obtain ⟨n0, n1, n2, n3, n4⟩ := (HL.out.below HXr.out).all
   simp only at n0 n1 n2 n3 n4
   obtain ⟨z0, z1, z2, z3, z4, z5, z6⟩ := HZ2.out.all
   obtain ⟨f0, f1, f2, f3, f4, f5, f6⟩ := HZ2.out.fro
   go_wp2_with fail
   have hL9 := ZAt.store HZ2.out ⟨0, s.rows, s.rows, 0, 0, [], []⟩
   have hX9 := Below.zset (HX.out.trans HXr.out) (Nat.le_succ _) ⟨0, s.rows, s.rows, 0, 0, [], []⟩
   refine bodyPost_ret (v := zv ⟨0, s.rows, s.rows, 0, 0, [], []⟩) (res_zone Try.results73 rfl hL9) rfl ⟨by rw [HF.out], hX9⟩
/-- Whether a column may have a text, by the first of its filters. -/
def Pu.mayL (L : List (List UInt8 × Int × List UInt8)) (c t : List UInt8) : Bool := ((L.find? fun x => decide (x.1 = c)).map fun x => Fl.may x.2.1 x.2.2 t).getD true
theorem Pu.mayL_at {L l m : List (List UInt8 × Int × List UInt8)} {c t n : List UInt8} {d : Int × List UInt8} (h : L = l ++ (n, d) :: m) (hl : ∀ x ∈ l, x.1 ≠ c) (hn : n = c) : Pu.mayL L c t = Fl.may d.1 d.2 t := by
 unfold Pu.mayL
 rw [h, List.find?_append, List.find?_eq_none.2 (fun x hx => by simpa using hl x hx)]
 simp [hn]
theorem Pu.mayL_out {L : List (List UInt8 × Int × List UInt8)} {c t : List UInt8} (h : ∀ x ∈ L, x.1 ≠ c) : Pu.mayL L c t = true := by
 unfold Pu.mayL
 rw [List.find?_eq_none.2 (fun x hx => by simpa using h x hx)]
 rfl
set_option maxHeartbeats 4000000 in
set_option maxRecDepth 100000 in
theorem pmay_is (a : Option Addr) (n cap : Nat) (L : List (List UInt8 × Int × List UInt8)) (c t : List UInt8) (w : World) (hn : n = L.length) (hB : RdF w a cap L) (hF : ∀ x ∈ L, x.1.length ≤ maxLen ∧ x.2.2.length ≤ 281474976710656 ∧ In64 x.2.1) (ht : t.length ≤ maxLen) (r : Bool) (hr : Pu.mayL L c t = r) :
  Calls Try.prog 71 #[.slice a n cap, .string (str c), .string (str t)] w fun e w' => e = .returned (.bool r) ∧ Ex w w' := by
 subst hn
 obtain ⟨h1, h2⟩ := hB.bounds
 unfold maxLen at h2
 have HB : Hid (RdF w a cap L) := hB
 have HF : Hid (∀ x ∈ L, x.1.length ≤ maxLen ∧ x.2.2.length ≤ 281474976710656 ∧ In64 x.2.1) := hF
 have HT : Hid (t.length ≤ maxLen) := ht
 have HC : Hid (Pu.mayL L c t = r) := hr
 have zs := str_toList c
 clear hB hF ht hr
 go_enter Try.func71, Try.ntmps71
 go_wp2_with fail
 go_loopw [11] (fun iv wr => ∃ i : Nat, i ≤ L.length ∧ iv = .int .i64 i ∧ Hid (∀ d ∈ L.take i, d.1 ≠ c) ∧ Hid (Ex w wr)) (fun iv wr => L.length - (intOf iv).toNat)
 case atStart => exact ⟨0, by omega, rfl, (by simp : ∀ d ∈ L.take 0, d.1 ≠ c), Ex.refl w⟩
 case round =>
  obtain ⟨i, hi, rfl, HN, HXr⟩ := hrel
  by_cases hlt : i < L.length
  ·have hti : (i : Int) < (L.length : Int) := by omega
   obtain ⟨b, off, p, cp, rfl, e0, e1, e2, hP⟩ := RdF.three (HB.out.below HXr.out) hlt
   have hfi := HF.out L[i] (List.getElem_mem hlt)
   obtain ⟨⟨dn, dk, dB⟩, hd⟩ : ∃ d, L[i] = d := ⟨_, rfl⟩
   rw [hd] at e0 e1 e2 hP hfi
   simp only at e0 e1 e2 hP hfi
   have HP : Hid (Byt wr p cp dB) := hP
   have HFI : Hid (dn.length ≤ maxLen ∧ dB.length ≤ 281474976710656 ∧ In64 dk) := hfi
   have hsp : L = L.take i ++ (dn, dk, dB) :: L.drop (i + 1) := by rw [← hd, ← List.drop_eq_getElem_cons hlt, List.take_append_drop]
   have HSP : Hid (L = L.take i ++ (dn, dk, dB) :: L.drop (i + 1)) := hsp
   have hnx : L.take (i + 1) = L.take i ++ [(dn, dk, dB)] := by rw [List.take_add_one, List.getElem?_eq_getElem hlt, hd]; rfl
   have HNX : Hid (L.take (i + 1) = L.take i ++ [(dn, dk, dB)]) := hnx
   have zd := str_toList dn
   obtain ⟨w1, hw1⟩ : ∃ w1, wr.alloc (bcb ⟨dn, dk, (p, dB.length, cp)⟩ 35) = w1 := ⟨_, rfl⟩
   have hx1 : Ex wr w1 := by rw [← hw1]; exact (Below.refl _ _).alloc (Nat.le_refl _) _
   have HX1 : Hid (Ex w w1) := (HXr.out.trans hx1 : Ex w w1)
   have HP1 : Hid (Byt w1 p cp dB) := HP.out.below hx1
   have HE1 : Hid (BCAt w1 wr.heap.size ⟨dn, dk, (p, dB.length, cp)⟩ 35) := (by rw [← hw1]; exact BCAt.new wr _ 35 : BCAt w1 wr.heap.size _ 35)
   obtain ⟨g0, g1, g2⟩ := HE1.out.all
   have _g := g0
   simp only [bcb, sv] at hw1
   clear hd hsp hnx hfi hP hx1
   by_cases hds : dn = c
   ·have td : (dn == c) = true := by simp [hds]
    have HR : Hid (Fl.may dk dB t = r) := (by rw [← HC.out]; exact (Pu.mayL_at HSP.out HN.out hds).symm : Fl.may dk dB t = r)
    clear hds
    go_wp2_with fail
    go_at_call 100
    refine (may_is dk p _ cp dB t w1 rfl HP1.out HFI.out.2.1 (by have h := HT.out; unfold maxLen at h; omega) HFI.out.2.2.1 HFI.out.2.2.2 r HR.out).mono ?_
    rintro e w2 ⟨rfl, hx2⟩
    have HX2 : Hid (Ex w w2) := (HX1.out.trans hx2 : Ex w w2)
    clear hx2
    go_wp2_with fail
    go_ret
    exact ⟨rfl, HX2.out⟩
   ·have td : (dn == c) = false := by simp [hds]
    have HN2 : Hid (∀ e ∈ L.take (i + 1), e.1 ≠ c) := (by
     intro e he
     rw [HNX.out] at he
     rcases List.mem_append.1 he with h | h
     ·exact HN.out e h
     ·rw [List.mem_singleton] at h; subst h; exact hds : ∀ e ∈ L.take (i + 1), e.1 ≠ c)
    go_wp2_with fail
    go_roundw
    case rel => exact ⟨i + 1, by omega, by go_num, HN2, HX1⟩
    case measure => simp [intOf]; omega
  ·have hti : ¬ (i : Int) < (L.length : Int) := by omega
   have HE : Hid (r = true) := (by rw [← HC.out]; have h := HN.out; rw [List.take_of_length_le (by omega)] at h; exact Pu.mayL_out h : r = true)
   go_wp2_with fail
   go_ret
   exact ⟨by rw [HE.out]; rfl, HXr.out⟩
end Go.Proofs.Ytibnhjfeepdddaa
namespace Go.Proofs.Ytibnhjfeepdddaa
open Go.RowKit
set_option linter.unusedVariables false
set_option linter.unusedSimpArgs false
/-- The same of what the zone's tests say. -/
def Pu.znB (k n : Int) (t : List UInt8) (zk mn mx : Int) (ms xs : List UInt8) (A N : Bool) : Nat :=
 if k = 9 then (if A = true then 3 else if N = true then 1 else 2)
 else if A = true ∨ zk ≠ (if k = 4 ∨ k = 5 then 1 else 2) then 1
 else if Pu.nev k n t ⟨zk, 0, 0, mn, mx, ms, xs⟩ = true then 1 else if (Pu.alw k n t ⟨zk, 0, 0, mn, mx, ms, xs⟩ && N) = true then 3 else 2
theorem Pu.zn_form (k n : Int) (t : List UInt8) (zk zr zu mn mx : Int) (ms xs : List UInt8) : Pu.zn k n t ⟨zk, zr, zu, mn, mx, ms, xs⟩ = Pu.znB k n t zk mn mx ms xs (zu == zr) (zu == 0) := by
 unfold Pu.zn Pu.znB Pu.nev Pu.alw
 simp only [beq_iff_eq]
 have e : (zu == 0) = decide (zu = 0) := by by_cases h : zu = 0 <;> simp [h]
 rw [e]
theorem beqI5 (a b : Int) : (a == b) = decide (a = b) := by by_cases h : a = b <;> simp [h]
theorem gt_form (x y : List UInt8) : (!Op.bytesLess x y && !x == y) = T.lt y x := by have h := le_form x y; rw [← Bool.not_or, h, Bool.not_not]
theorem beqL5 (a b : List UInt8) : (a == b) = decide (a = b) := by by_cases h : a = b <;> simp [h]
set_option maxHeartbeats 8000000 in
set_option maxRecDepth 100000 in
theorem rby_is (v : PV) (z : Zn) (w : World) (hs : v.s.length ≤ maxLen) (h1 : z.ms.length ≤ maxLen) (h2 : z.xs.length ≤ maxLen) (o : Nat) (ho : Pu.zn v.k v.n v.s z = o) :
  Calls Try.prog 54 #[pvv v, zv z] w fun e w' => e = .returned (.int .i64 (o : Int)) ∧ Ex w w' := by
 obtain ⟨vk, vcol, vn, vm, vs, ⟨sa, sn, sc⟩, vkids⟩ := v
 obtain ⟨zk, zr, zu, zmn, zmx, zms, zxs⟩ := z
 simp only at hs h1 h2 ho
 have HO : Hid (Pu.zn vk vn vs ⟨zk, zr, zu, zmn, zmx, zms, zxs⟩ = o) := ho
 have HL : Hid (vs.length ≤ maxLen ∧ zms.length ≤ maxLen ∧ zxs.length ≤ maxLen) := (⟨hs, h1, h2⟩ : vs.length ≤ maxLen ∧ zms.length ≤ maxLen ∧ zxs.length ≤ maxLen)
 obtain ⟨W, hW⟩ : ∃ W, (w.alloc (pb ⟨vk, vcol, vn, vm, vs, (sa, sn, sc), vkids⟩)).alloc (zb ⟨zk, zr, zu, zmn, zmx, zms, zxs⟩ 74) = W := ⟨_, rfl⟩
 have hX1 : Ex w (w.alloc (pb ⟨vk, vcol, vn, vm, vs, (sa, sn, sc), vkids⟩)) := (Below.refl _ _).alloc (Nat.le_refl _) _
 have hXW : Ex w W := by rw [← hW]; exact Below.alloc hX1 (by simp) _
 have HXW : Hid (Ex w W) := hXW
 have hP : PAt W w.heap.size ⟨vk, vcol, vn, vm, vs, (sa, sn, sc), vkids⟩ := by rw [← hW]; exact (PAt.new w _).alloc _
 have hE : ZAt W (w.heap.size + 1) ⟨zk, zr, zu, zmn, zmx, zms, zxs⟩ 74 := by
  have h := ZAt.new (w.alloc (pb ⟨vk, vcol, vn, vm, vs, (sa, sn, sc), vkids⟩)) ⟨zk, zr, zu, zmn, zmx, zms, zxs⟩ 74
  have hs' : (w.alloc (pb ⟨vk, vcol, vn, vm, vs, (sa, sn, sc), vkids⟩)).heap.size = w.heap.size + 1 := by simp
  rw [hs'] at h
  rw [← hW]; exact h
 obtain ⟨p0, p1, p2, p3, p4, p5, p6⟩ := hP.all
 obtain ⟨e0, e1, e2, e3, e4, e5, e6⟩ := hE.all
 simp only at p0 p1 p2 p3 p4 p5 p6 e0 e1 e2 e3 e4 e5 e6
 have z1 := str_toList vs
 have z2 := str_toList zms
 have z3 := str_toList zxs
 clear hP hE hX1 hXW ho hs h1 h2
 unfold pvv zv
 simp only [sv]
 go_enter Try.func54, Try.ntmps54
 obtain ⟨A, hA⟩ : ∃ A, (zu == zr) = A := ⟨_, rfl⟩
 obtain ⟨N, hN⟩ : ∃ N, (zu == 0) = N := ⟨_, rfl⟩
 have qA : (zu = zr) = (A = true) := by rw [← hA]; simp
 have qN : (zu = 0) = (N = true) := by rw [← hN]; simp
 have HO2 : Hid (Pu.znB vk vn vs zk zmn zmx zms zxs A N = o) := (by rw [← HO.out, ← hA, ← hN]; exact (Pu.zn_form _ _ _ _ _ _ _ _ _ _).symm : Pu.znB vk vn vs zk zmn zmx zms zxs A N = o)
 clear qA qN HO
 by_cases h9 : vk = 9
 ·subst h9
  cases A <;> cases N <;> (go_wp2_with fail; go_ret; exact ⟨by rw [← HO2.out]; rfl, HXW.out⟩)
 obtain ⟨q, hq⟩ : ∃ q : Int, (if vk = 4 ∨ vk = 5 then (1 : Int) else 2) = q := ⟨_, rfl⟩
 obtain ⟨K, hK⟩ : ∃ K, (zk == q) = K := ⟨_, rfl⟩
 obtain ⟨nv, hnv⟩ : ∃ b, Pu.nev vk vn vs ⟨zk, 0, 0, zmn, zmx, zms, zxs⟩ = b := ⟨_, rfl⟩
 obtain ⟨al, hal⟩ : ∃ b, Pu.alw vk vn vs ⟨zk, 0, 0, zmn, zmx, zms, zxs⟩ = b := ⟨_, rfl⟩
 have HNV : Hid (Pu.nev vk vn vs ⟨zk, 0, 0, zmn, zmx, zms, zxs⟩ = nv) := hnv
 have HAL : Hid (Pu.alw vk vn vs ⟨zk, 0, 0, zmn, zmx, zms, zxs⟩ = al) := hal
 have HO3 : Hid ((if A = true ∨ K = false then 1 else if nv = true then 1 else if (al && N) = true then 3 else 2) = o) := (by
  rw [← HO2.out, Pu.znB, if_neg h9, hnv, hal, hq]
  have e : (K = false) = (zk ≠ q) := by rw [← hK]; simp
  simp only [e] : (if A = true ∨ K = false then 1 else if nv = true then 1 else if (al && N) = true then 3 else 2) = o)
 have HQ : Hid ((if vk = 4 ∨ vk = 5 then (1 : Int) else 2) = q) := hq
 have e9 : (vk == 9) = false := beq_eq_false_iff_ne.2 h9
 have HK : Hid ((zk == q) = K) := hK
 clear hnv hal HO2 hq hK
 obtain ⟨J, hJ⟩ : ∃ J, decide (vk = 4 ∨ vk = 5) = J := ⟨_, rfl⟩
 have HJ : Hid (decide (vk = 4 ∨ vk = 5) = J) := hJ
 have HQJ : Hid ((if J = true then (1 : Int) else 2) = q) := (by rw [← HQ.out, ← hJ]; by_cases h : vk = 4 ∨ vk = 5 <;> simp [h] : (if J = true then (1 : Int) else 2) = q)
 clear hJ HQ
 go_upto_region 10 with fail
 go_cut [30] (fun v wc => v = .bool J ∧ wc = W)
 case first =>
  by_cases k4 : vk = 4
  ·subst k4
   go_wp2_with fail
   go_meet
   exact ⟨by rw [← HJ.out]; rfl, rfl⟩
  ·have t4 : (vk == 4) = false := beq_eq_false_iff_ne.2 k4
   by_cases k5 : vk = 5
   ·subst k5
    go_wp2_with fail
    go_meet
    exact ⟨by rw [← HJ.out]; rfl, rfl⟩
   ·have t5 : (vk == 5) = false := beq_eq_false_iff_ne.2 k5
    go_wp2_with fail
    go_meet
    exact ⟨by rw [← HJ.out]; simp [k4, k5], rfl⟩
 case rest =>
 obtain ⟨rfl, hwc⟩ := hcut
 replace hwc := hwc.symm
 subst hwc
 go_upto_if 30 with fail
 go_cut [7] (fun v wc => v = .int .i64 q ∧ wc = W)
 case first =>
  cases J <;> (go_wp2_with fail; go_meet; exact ⟨by rw [← HQJ.out]; rfl, rfl⟩)
 case rest =>
  obtain ⟨rfl, hwc⟩ := hcut
  replace hwc := hwc.symm
  subst hwc
  have hk' := HK.out
  cases A with
  | true =>
   clear hk'
   go_wp2_with fail
   go_ret
   exact ⟨by rw [← HO3.out]; rfl, HXW.out⟩
  | false =>
   cases K with
   | false =>
    have hk2 : (zk != q) = true := by simp [bne, hk']
    go_wp2_with fail
    go_ret
    exact ⟨by rw [← HO3.out]; rfl, HXW.out⟩
   | true =>
    have hk2 : (zk != q) = false := by simp [bne, hk']
    go_upto_block 0 with fail
    clear hk'
    go_cut [8, 9] (fun a b wc => a = .bool nv ∧ b = .bool al ∧ wc = W)
    case first =>
     by_cases h4 : vk = 4
     ·subst h4
      go_wp2_with fail
      go_meet
      exact ⟨by rw [← HNV.out]; rfl, by rw [← HAL.out]; rfl, rfl⟩
     have t4 : (vk == 4) = false := beq_eq_false_iff_ne.2 h4
     by_cases h5 : vk = 5
     ·subst h5
      have HNV5 : Hid ((decide (vn < zmn) || decide (zmx < vn)) = nv) := HNV.out
      have HAL5 : Hid ((decide (zmn = vn) && decide (zmx = vn)) = al) := HAL.out
      by_cases n1 : vn < zmn
      ·have t1 : decide (vn < zmn) = true := decide_eq_true n1
       by_cases n3 : zmn = vn
       ·omega
       ·have t3 : (zmn == vn) = false := beq_eq_false_iff_ne.2 n3
        go_wp2_with fail
        go_meet
        exact ⟨by rw [← HNV5.out]; simp [n1], by rw [← HAL5.out]; simp [n3], rfl⟩
      ·have t1 : decide (vn < zmn) = false := decide_eq_false n1
       by_cases n3 : zmn = vn
       ·subst n3
        go_wp2_with fail
        go_meet
        exact ⟨by rw [← HNV5.out]; simp, by rw [← HAL5.out]; simp [beqI5], rfl⟩
       ·have t3 : (zmn == vn) = false := beq_eq_false_iff_ne.2 n3
        go_wp2_with fail
        go_meet
        exact ⟨by rw [← HNV5.out, t1]; rfl, by rw [← HAL5.out]; simp [n3], rfl⟩
     have t5 : (vk == 5) = false := beq_eq_false_iff_ne.2 h5
     by_cases h6 : vk = 6
     ·subst h6
      have HNV5 : Hid ((T.lt vs zms || T.lt zxs vs) = nv) := HNV.out
      have HAL5 : Hid ((decide (zms = vs) && decide (zxs = vs)) = al) := HAL.out
      obtain ⟨x, hx⟩ : ∃ x, Op.bytesLess vs zms = x := ⟨_, rfl⟩
      have HX5 : Hid (T.lt vs zms = x) := hx
      by_cases n3 : zms = vs
      ·subst n3
       cases x with
       | true =>
        go_wp2_with fail
        go_meet
        exact ⟨by rw [← HNV5.out, HX5.out]; rfl, by rw [← HAL5.out]; simp [beqL5], rfl⟩
       | false =>
        go_wp2_with fail
        go_meet
        exact ⟨by rw [← HNV5.out, HX5.out, ← gt_form]; rfl, by rw [← HAL5.out]; simp [beqL5], rfl⟩
      ·have t3 : (zms == vs) = false := beq_eq_false_iff_ne.2 n3
       cases x with
       | true =>
        go_wp2_with fail
        go_meet
        exact ⟨by rw [← HNV5.out, HX5.out]; rfl, by rw [← HAL5.out]; simp [n3], rfl⟩
       | false =>
        go_wp2_with fail
        go_meet
        exact ⟨by rw [← HNV5.out, HX5.out, ← gt_form]; rfl, by rw [← HAL5.out]; simp [n3], rfl⟩
     have t6 : (vk == 6) = false := beq_eq_false_iff_ne.2 h6
     by_cases h8 : vk = 8
     ·subst h8
      obtain ⟨x, hx⟩ : ∃ x, Op.bytesLess zxs vs = x := ⟨_, rfl⟩
      obtain ⟨y, hy⟩ : ∃ y, (!Op.bytesLess zms vs && !zms == vs) = y := ⟨_, rfl⟩
      obtain ⟨b1, hb1⟩ : ∃ b, T.begins vs zms = b := ⟨_, rfl⟩
      obtain ⟨b2, hb2⟩ : ∃ b, T.begins vs zxs = b := ⟨_, rfl⟩
      have HNV5 : Hid ((x || (y && !b1)) = nv) := (by rw [← HNV.out, ← hx, ← hy, ← hb1, gt_form]; rfl : (x || (y && !b1)) = nv)
      have HAL5 : Hid ((b1 && b2) = al) := (by rw [← HAL.out, ← hb1, ← hb2]; rfl : (b1 && b2) = al)
      have HB1 : Hid (T.begins vs zms = b1) := hb1
      have HB2 : Hid (T.begins vs zxs = b2) := hb2
      clear hb1 hb2
      cases x with
      | true =>
       go_wp2_with fail
       go_at_call 78
       refine (rbegins_is zms vs W HL.out.2.1 HL.out.1 b1 HB1.out).mono ?_
       rintro e w3 ⟨rfl, hw3⟩
       replace hw3 := hw3.symm
       subst hw3
       cases b1 with
       | false =>
        go_wp2_with fail
        go_meet
        exact ⟨by rw [← HNV5.out]; rfl, by rw [← HAL5.out]; rfl, rfl⟩
       | true =>
        go_wp2_with fail
        go_at_call 78
        refine (rbegins_is zxs vs W HL.out.2.2 HL.out.1 b2 HB2.out).mono ?_
        rintro e w3 ⟨rfl, hw3⟩
        replace hw3 := hw3.symm
        subst hw3
        go_wp2_with fail
        go_meet
        exact ⟨by rw [← HNV5.out]; rfl, by rw [← HAL5.out]; rfl, rfl⟩
      | false =>
       cases y with
       | false =>
        go_wp2_with fail
        go_at_call 78
        refine (rbegins_is zms vs W HL.out.2.1 HL.out.1 b1 HB1.out).mono ?_
        rintro e w3 ⟨rfl, hw3⟩
        replace hw3 := hw3.symm
        subst hw3
        cases b1 with
        | false =>
         go_wp2_with fail
         go_meet
         exact ⟨by rw [← HNV5.out]; rfl, by rw [← HAL5.out]; rfl, rfl⟩
        | true =>
         go_wp2_with fail
         go_at_call 78
         refine (rbegins_is zxs vs W HL.out.2.2 HL.out.1 b2 HB2.out).mono ?_
         rintro e w3 ⟨rfl, hw3⟩
         replace hw3 := hw3.symm
         subst hw3
         go_wp2_with fail
         go_meet
         exact ⟨by rw [← HNV5.out]; rfl, by rw [← HAL5.out]; rfl, rfl⟩
       | true =>
        go_wp2_with fail
        go_at_call 78
        refine (rbegins_is zms vs W HL.out.2.1 HL.out.1 b1 HB1.out).mono ?_
        rintro e w3 ⟨rfl, hw3⟩
        replace hw3 := hw3.symm
        subst hw3
        go_wp2_with fail
        go_at_call 78
        refine (rbegins_is zms vs W HL.out.2.1 HL.out.1 b1 HB1.out).mono ?_
        rintro e w3 ⟨rfl, hw3⟩
        replace hw3 := hw3.symm
        subst hw3
        cases b1 with
        | false =>
         go_wp2_with fail
         go_meet
         exact ⟨by rw [← HNV5.out]; rfl, by rw [← HAL5.out]; rfl, rfl⟩
        | true =>
         go_wp2_with fail
         go_at_call 78
         refine (rbegins_is zxs vs W HL.out.2.2 HL.out.1 b2 HB2.out).mono ?_
         rintro e w3 ⟨rfl, hw3⟩
         replace hw3 := hw3.symm
         subst hw3
         go_wp2_with fail
         go_meet
         exact ⟨by rw [← HNV5.out]; rfl, by rw [← HAL5.out]; rfl, rfl⟩
     have t8 : (vk == 8) = false := beq_eq_false_iff_ne.2 h8
     go_wp2_with fail
     go_meet
     exact ⟨by rw [← HNV.out]; simp [Pu.nev, h4, h5, h6, h8], by rw [← HAL.out]; simp [Pu.alw, h4, h5, h6, h8], rfl⟩
    case rest =>
     obtain ⟨rfl, rfl, hwc⟩ := hcut
     replace hwc := hwc.symm
     subst hwc
     cases nv with
     | true =>
      go_wp2_with fail
      go_ret
      exact ⟨by rw [← HO3.out]; rfl, HXW.out⟩
     | false =>
      cases al <;> cases N <;> (go_wp2_with fail; go_ret; exact ⟨by rw [← HO3.out]; rfl, HXW.out⟩)
end Go.Proofs.Ytibnhjfeepdddaa
namespace Go.Proofs.Ytibnhjfeepdddaa
open Go.RowKit
set_option linter.unusedVariables false

set_option maxRecDepth 100000 in
theorem begins45_is (x p : List UInt8) (w : World) (hx : x.length ≤ maxLen) (hp : p.length ≤ maxLen) (r : Bool) (hr : T.begins p x = r) :
  Calls Try.prog 102 #[.string (str x), .string (str p)] w fun e w' => e = .returned (.bool r) ∧ w' = w := by
 unfold maxLen at hx hp
 have h1 : (str x).size = x.length := str_size x
 have h2 : (str p).size = p.length := str_size p
 have zp := str_toList p
 unfold T.begins at hr
 by_cases hl : p.length ≤ x.length
 ·have t1 : decide ((p.length : Int) ≤ (x.length : Int)) = true := by simp; omega
  have hcut : (str x).extract 0 p.length = str (x.take p.length) := str_cut _ _
  have zx := str_toList (x.take p.length)
  rw [decide_eq_true hl, Bool.true_and] at hr
  by_cases he : x.take p.length = p
  ·rw [decide_eq_true he] at hr
   subst hr
   have hq : (x.take p.length == p) = true := by simpa using he
   have HE : Hid (x.take p.length = p) := he
   clear he
   go_enter Try.func102, Try.ntmps102
   go_wp2
   go_ret
   exact ⟨rfl, rfl⟩
  ·rw [decide_eq_false he] at hr
   subst hr
   have hq : (x.take p.length == p) = false := by simpa using he
   clear he
   go_enter Try.func102, Try.ntmps102
   go_wp2
   go_ret
   exact ⟨rfl, rfl⟩
 ·have t1 : decide ((p.length : Int) ≤ (x.length : Int)) = false := by simp; omega
  rw [decide_eq_false hl, Bool.false_and] at hr
  subst hr
  go_enter Try.func102, Try.ntmps102
  go_wp2
  go_ret
  exact ⟨rfl, rfl⟩
set_option maxRecDepth 100000 in
theorem hasPrefix_is (x p : List UInt8) (w : World) (hx : x.length ≤ maxLen) (hp : p.length ≤ maxLen) (r : Bool) (hr : T.begins p x = r) :
  Calls Try.prog 88 #[.string (str x), .string (str p)] w fun e w' => e = .returned (.bool r) ∧ w' = w := by
 go_enter Try.func88, Try.ntmps88
 go_wp2_with fail
 refine (begins45_is x p _ hx hp r hr).mono ?_
 rintro e wq ⟨rfl, hw⟩
 have hw' := hw.symm; clear hw; subst hw'
 go_wp2
 go_ret
 exact ⟨rfl, rfl⟩

end Go.Proofs.Ytibnhjfeepdddaa
