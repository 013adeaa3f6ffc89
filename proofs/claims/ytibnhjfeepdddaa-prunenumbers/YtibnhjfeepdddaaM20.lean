/-
  Predicates that a call makes: lists of its own, what lies in them elsewhere; one laid by itself, in a region whose order is open. No function of the program here. Taken out of another text of mine: Rput. Taken out of another text of mine: Rins.
-/
import Derived.Test.YtibnhjfeepdddaaM19
import Derived.Test.YtibnhjfeepdddaaM02
import Derived.Test.YtibnhjfeepdddaaM12
import Derived.Test.YtibnhjfeepdddaaM04
import Derived.Test.YtibnhjfeepdddaaM01
import Derived.Test.YtibnhjfeepdddaaM13
namespace Go.Proofs.Ytibnhjfeepdddaa
open Go.RowKit
set_option linter.unusedVariables false
set_option linter.unusedSimpArgs false
theorem Try.info40 : (Try.prog.info? 40).map (fun i => (i.zero, i.size, i.bytes)) = some (some (.agg #[.int .i64 0, .string ⟨#[]⟩, .int .i64 0, .int .i64 0, .string ⟨#[]⟩, .slice none 0 0, .slice none 0 0]), 7, 104) := by kernel_rfl
theorem Try.info9 : (Try.prog.info? 9).map (fun i => (i.zero, i.size, i.bytes)) = some (some (.string ⟨#[]⟩), 1, 16) := by kernel_rfl
namespace Pd
/-- A call's own predicates; what is in them lies in such blocks, and not in theirs. -/
def OwnQ (B : Nat → Prop) (w : World) (base : Nat) (v : Value) (l : List Pr) : Prop := ∃ vs, OwnW 40 7 pc w base v vs ∧ Lays (fun b => v.ownBlock ≠ some b ∧ B b) w vs l
theorem OwnQ.rd {B : Nat → Prop} {w : World} {base : Nat} {v : Value} {l : List Pr} (h : OwnQ B w base v l) : ∃ a cap vs, v = .slice a l.length cap ∧ RdW 7 pc w a cap vs ∧ Lays B w vs l := by
 obtain ⟨vs, h1, h2⟩ := h
 obtain ⟨a, cap, rfl, h3⟩ := h1.rd pc_len
 exact ⟨a, cap, vs, by rw [h2.1], h3, h2.mono fun _ hb => hb.2⟩
theorem OwnQ.nil (B : Nat → Prop) (w : World) (base : Nat) : OwnQ B w base (.slice none 0 0) [] := ⟨[], ownW_none w base, Lays.nil _ w⟩
theorem OwnQ.later {B : Nat → Prop} {w w' : World} {base : Nat} {v : Value} {l : List Pr} (h : OwnQ B w base v l) (hx : Ex w w') : OwnQ B w' base v l := by
 obtain ⟨vs, h1, h2⟩ := h
 exact ⟨vs, h1.later hx, h2.below hx⟩
theorem OwnQ.lt {B : Nat → Prop} {w : World} {base : Nat} {v : Value} {l : List Pr} (h : OwnQ B w base v l) : ∀ g, v.ownBlock = some g → base ≤ g ∧ g < w.heap.size := by
 obtain ⟨vs, h1, _⟩ := h
 exact h1.lt
/-- Another block is written. -/
theorem OwnQ.far {B : Nat → Prop} {w : World} {base g j : Nat} {v u : Value} {l : List Pr} (h : OwnQ B w base v l) (hg : v.ownBlock ≠ some g) (hB : ¬ B g) : OwnQ B (w.setCell ⟨g, j, none⟩ u) base v l := by
 obtain ⟨vs, h1, h2⟩ := h
 exact ⟨vs, h1.apart hg, h2.far (row := some g) (fun b hb e => hB (by simp at e; rw [e]; exact hb.2)) (grown_set1 w g j u)⟩
theorem OwnQ.mono {B C : Nat → Prop} (hB : ∀ b, B b → C b) {w : World} {base : Nat} {v : Value} {l : List Pr} (h : OwnQ B w base v l) : OwnQ C w base v l := by
 obtain ⟨vs, h1, h2⟩ := h
 exact ⟨vs, h1, h2.mono fun b hb => ⟨hb.1, hB b hb.2⟩⟩
theorem OwnQ.ltB {B : Nat → Prop} {w : World} {base : Nat} {v : Value} {l : List Pr} (h : OwnQ B w base v l) : OwnQ (fun b => B b ∧ b < w.heap.size) w base v l := by
 obtain ⟨vs, h1, h2⟩ := h
 exact ⟨vs, h1, h2.lt.mono fun b hb => ⟨hb.1.1, hb.1.2, hb.2⟩⟩
theorem OwnQ.grown {B : Nat → Prop} {w w' : World} {base g : Nat} {v : Value} {l : List Pr} (h : OwnQ B w base v l) (hg : w.grownBy w' (some g)) (hne : v.ownBlock ≠ some g) (hB : ¬ B g) : OwnQ B w' base v l := by
 obtain ⟨vs, h1, h2⟩ := h
 exact ⟨vs, World.ownsRow.kept h1 hg (.inr hne), h2.far (fun b hb e => hB (by simp at e; rw [e]; exact hb.2)) hg⟩
theorem lays_afterQ {B : Nat → Prop} {w w' : World} {v v' : Value} {vs : List PV} {l : List Pr} (h : Lays (fun b => v.ownBlock ≠ some b ∧ B b) w vs l) (hg : w.grownBy w' v.ownBlock) (hat : v'.ownBlock = v.ownBlock ∨ v'.ownBlock = some w.heap.size) :
  Lays (fun b => v'.ownBlock ≠ some b ∧ B b) w' vs l := by
 rcases hat with hat | hat
 ·rw [hat]; exact h.far (fun b hb => hb.1) hg
 ·refine (h.lt.far (fun b hb => hb.1.1) hg).mono fun b hb => ⟨?_, hb.1.2⟩
  rw [hat]
  intro e
  have := hb.2
  simp at e
  omega
/-- 'append(out, l...)', l whatever predicates that can be read, and lie elsewhere. -/
theorem wpList_append_Q {B : Nat → Prop} {w : World} {ops : Array Oper} {rest : List Oper} {o : Oper} {a : Act} {Q : Exit → Act → World → Prop} (hgd : o.guard = none) (s x : Operand)
  (ho : o.op = .call { callee := .builtin .append, args := #[s, x], argTypes := #[22, 22] }) (base : Nat)
  (v : Value) (xs : List Pr) (hs : a.eval s = v) (hown : OwnQ B w base v xs) (p : Option Addr) (n c : Nat) (us : List PV) (l : List Pr) (hx : a.eval x = .slice p n c) (hn : n = l.length) (hB : RdW 7 pc w p c us) (hL : Lays (fun b => v.ownBlock ≠ some b ∧ B b) w us l)
  (h63 : xs.length + l.length ≤ 1000000) (hbase : base ≤ w.heap.size)
  (h : ∀ v' w', OwnQ B w' base v' (xs ++ l) → w.grownBy w' v.ownBlock → (v'.ownBlock = v.ownBlock ∨ v'.ownBlock = some w.heap.size) → wpList Try.prog ops Q rest (a.put o.dst v') w') : wpList Try.prog ops Q (o :: rest) a w := by
 obtain ⟨vs, h1, h2⟩ := hown
 have e1 := h2.1
 have e2 := hL.1
 refine wpList_append_wide pc_len pc_one hgd s x 22 _ 104 ho Try.underlying22 Try.info40 (by decide) rfl base v vs hs h1 p n c us hx (by omega) hB (by unfold maxLen; omega) (by rw [e1, e2]; omega) hbase ?_
 intro v' w' hO hg hat
 exact h v' w' ⟨vs ++ us, hO, lays_afterQ (h2.append hL) hg hat⟩ hg hat
/-- A value is such a predicate. -/
def IsP (B : Nat → Prop) (p : Pr) (v : Value) (w : World) : Prop := ∃ u, v = pvv u ∧ Lay B p w u
theorem IsP.stands (B : Nat → Prop) (p : Pr) : ∀ v w w', IsP B p v w → Ex w w' → IsP B p v w' := by
 rintro v w w' ⟨u, rfl, h⟩ hx
 exact ⟨u, rfl, Lay.below _ h hx⟩
/-- A value is a list of such predicates, in a block that is new. -/
def IsPs (base : Nat) (B : Nat → Prop) (l : List Pr) (v : Value) (w : World) : Prop := ∃ g us, v = .slice (some ⟨g, 0, none⟩) l.length l.length ∧ base ≤ g ∧ RdW 7 pc w (some ⟨g, 0, none⟩) l.length us ∧ Lays B w us l
theorem IsPs.stands (base : Nat) (B : Nat → Prop) (l : List Pr) : ∀ v w w', IsPs base B l v w → Ex w w' → IsPs base B l v w' := by
 rintro v w w' ⟨g, us, rfl, h0, h1, h2⟩ hx
 exact ⟨g, us, rfl, h0, h1.below hx, h2.below hx⟩
end Pd
set_option maxHeartbeats 1000000 in
theorem run_pred1 {o : Oper} (ρ : Operand → Value) (w : World) (x : Operand) (u : PV) (ho : o.op = .buildSlice 22 1 #[(0, x)]) (h2 : ρ x = pvv u) : (execOp ρ o).run Try.prog w = .ok (.value (.slice (some ⟨w.heap.size, 0, none⟩) 1 1)) (w.alloc (.cells (flat pc [u]).toArray 40)) := by
 simp [execOp, ho, h2, go_sem, pvv, sv, flat, pc]
set_option maxHeartbeats 1000000 in
theorem run_pred2 {o : Oper} (ρ : Operand → Value) (w : World) (x y : Operand) (u z : PV) (ho : o.op = .buildSlice 22 2 #[(0, x), (1, y)]) (h2 : ρ x = pvv u) (h3 : ρ y = pvv z) : (execOp ρ o).run Try.prog w = .ok (.value (.slice (some ⟨w.heap.size, 0, none⟩) 2 2)) (w.alloc (.cells (flat pc [u, z]).toArray 40)) := by
 simp [execOp, ho, h2, h3, go_sem, pvv, sv, flat, pc]
theorem Rg.good_pred1 {ops : Array Oper} {specs : List Rg.Spec} {a0 : Act} {w1 : World} {o : Oper} {x : Operand} {B : Nat → Prop} {p : Pr} (ho : o.op = .buildSlice 22 1 #[(0, x)]) (hg : Rg.guardV ops specs a0 o = some true)
  (hx : Rg.argS ops specs a0 x = .inr (Pd.IsP B p)) : Rg.GoodOp Try.prog ops specs a0 (Ex w1) Ex o (.inr (Pd.IsPs w1.heap.size B [p])) :=
 Rg.good_of hg fun Q a w hC hh => by
  have h1 := hh x (by rw [ho]; simp [Op.operands])
  rw [hx] at h1
  obtain ⟨u, hu, hL⟩ := h1
  have hal : Ex w (w.alloc (.cells (flat pc [u]).toArray 40)) := (Below.refl _ _).alloc (Nat.le_refl _) _
  refine Rg.Fr.wp_val (run_pred1 _ w x u ho hu) ⟨.slice (some ⟨w.heap.size, 0, none⟩) 1 1, rfl, ?_, hal, hC.trans hal⟩
  exact ⟨w.heap.size, [u], rfl, hC.size, RdW.laid pc_len w [u] (by simp), Pd.Lays.one (Pd.Lay.below _ hL hal)⟩
end Go.Proofs.Ytibnhjfeepdddaa
namespace Go.Proofs.Ytibnhjfeepdddaa
open Go.RowKit
set_option linter.unusedVariables false

theorem Rd.from {α : Type} {enc : α → Value} {w : World} {b off cap : Nat} {l : List α} (h : Rd enc w (some ⟨b, off, none⟩) cap l) (k : Nat) (hk : k ≤ l.length) : Rd enc w (some ⟨b, off + k, none⟩) (cap - k) (l.drop k) := by
 obtain ⟨h1, h2, h3, h4⟩ := h
 refine ⟨by simp; omega, by omega, by simp, fun i x hi => ?_⟩
 rw [List.getElem?_drop] at hi
 obtain ⟨b', off', e, hc⟩ := h4 (k + i) x hi
 simp only [Option.some.injEq, Addr.mk.injEq, and_true] at e
 obtain ⟨rfl, rfl⟩ := e
 exact ⟨b, off + k, rfl, by rw [Nat.add_assoc]; exact hc⟩
theorem Rd.none_ {α : Type} {enc : α → Value} (w : World) (a : Option Addr) : Rd enc w a 0 [] := ⟨by simp, by simp [maxLen], fun _ => rfl, fun i x hi => by simp at hi⟩
set_option maxRecDepth 100000 in
theorem rbegins_is (x p : List UInt8) (w : World) (hx : x.length ≤ maxLen) (hp : p.length ≤ maxLen) (r : Bool) (hr : T.begins p x = r) :
  Calls Try.prog 78 #[.string (str x), .string (str p)] w fun e w' => e = .returned (.bool r) ∧ w' = w := by
 unfold maxLen at hx hp
 have h1 : (str x).size = x.length := str_size x
 have h2 : (str p).size = p.length := str_size p
 have zp := str_toList p
 unfold T.begins at hr
 by_cases hl : p.length ≤ x.length
 ·have t1 : decide ((p.length : Int) ≤ (x.length : Int)) = true := by simp; omega
  have hcut : (str x).extract 0 p.length = str (x.take p.length) := str_cut _ _
  have zx := str_toList (x.take p.length)
  rw [decide_eq_true hl, Bool.true_and] at hr
  by_cases he : x.take p.length = p
  ·rw [decide_eq_true he] at hr
   subst hr
   have hq : (x.take p.length == p) = true := by simpa using he
   have HE : Hid (x.take p.length = p) := he
   clear he
   go_enter Try.func78, Try.ntmps78
   go_wp2
   go_ret
   exact ⟨rfl, rfl⟩
  ·rw [decide_eq_false he] at hr
   subst hr
   have hq : (x.take p.length == p) = false := by simpa using he
   clear he
   go_enter Try.func78, Try.ntmps78
   go_wp2
   go_ret
   exact ⟨rfl, rfl⟩
 ·have t1 : decide ((p.length : Int) ≤ (x.length : Int)) = false := by simp; omega
  rw [decide_eq_false hl, Bool.false_and] at hr
  subst hr
  go_enter Try.func78, Try.ntmps78
  go_wp2
  go_ret
  exact ⟨rfl, rfl⟩
end Go.Proofs.Ytibnhjfeepdddaa
namespace Go.Proofs.Ytibnhjfeepdddaa
open Go.RowKit
set_option linter.unusedVariables false

theorem cell_exR {w1 wx : World} {p : Addr} {v : Value} (h : w1.cell? p = some v) (hC : Ex w1 wx) : wx.cell? p = some v := by
 rw [Below.cell hC (World.block_lt_of_cell? w1 _ h)]; exact h
theorem I.wi64 (n : Int) (h1 : -9223372036854775808 ≤ n) (h2 : n ≤ 9223372036854775807) : IntKind.i64.wrap n = n := by
 simp only [IntKind.wrap, IntKind.bits, IntKind.signed]
 simp
 omega
set_option maxRecDepth 100000 in
set_option maxHeartbeats 1000000 in
theorem rrising_is (a : Option Addr) (n cap : Nat) (d : List (List UInt8)) (w : World) (hn : n = d.length) (hB : Rd st w a cap d) (r : Bool) (hr : T.adj d = r) :
  Calls Try.prog 77 #[.slice a n cap] w fun e w' => e = .returned (.bool r) ∧ Ex w w' := by
 subst hn
 have HB : Hid (Rd st w a cap d) := hB
 have HR : Hid (T.adj (d.drop 0) = r) := hr
 have hcl := hB.1
 have hcm := hB.2.1
 unfold maxLen at hcm
 clear hB hr
 go_enter Try.func77, Try.ntmps77
 go_wp2_with fail
 go_loopw [3] (fun i wr => ∃ k q : Nat, k ≤ d.length ∧ q ≤ k + 1 ∧ k + 1 ≤ q ∧ i = .int .i64 (q : Int) ∧ Hid (T.adj (d.drop k) = r) ∧ Hid (Ex w wr)) (fun i _ => d.length + 1 - (intOf i).toNat)
 case atStart => exact ⟨0, 1, by omega, by omega, by omega, rfl, HR, Ex.refl _⟩
 case round =>
  obtain ⟨k, q, hk, hq1, hq2, rfl, HA, HEx⟩ := hrel
  clear HR
  by_cases hlt : q < d.length
  ·have tk : decide ((q : Int) < (d.length : Int)) = true := by simp; omega
   have hqk : q = k + 1 := by omega
   obtain ⟨b, off, rfl, hc1⟩ := (HB.out.below HEx.out).at (k := k) (by omega)
   obtain ⟨_, _, e2, hc2⟩ := (HB.out.below HEx.out).at (k := q) hlt
   simp only [Option.some.injEq, Addr.mk.injEq, and_true] at e2
   obtain ⟨rfl, rfl⟩ := e2
   obtain ⟨x, hx⟩ : ∃ x, x = d[k]'(by omega) := ⟨_, rfl⟩
   obtain ⟨y, hy⟩ : ∃ y, y = d[q] := ⟨_, rfl⟩
   rw [← hx] at hc1
   rw [← hy] at hc2
   have HC1 : Hid (wr.cell? ⟨b, off + k, none⟩ = some (.string (str x))) := hc1
   have HC2 : Hid (wr.cell? ⟨b, off + q, none⟩ = some (.string (str y))) := hc2
   have hA := HA.out
   have hd : d.drop k = x :: y :: d.drop (k + 2) := by
    have hy' : y = d[k + 1]'(by omega) := by rw [hy]; simp only [hqk]
    rw [List.drop_eq_getElem_cons (by omega), List.drop_eq_getElem_cons (show k + 1 < d.length by omega), ← hx, ← hy']
   have hd1 : d.drop (k + 1) = y :: d.drop (k + 2) := by
    have hy' : y = d[k + 1]'(by omega) := by rw [hy]; simp only [hqk]
    rw [List.drop_eq_getElem_cons (show k + 1 < d.length by omega), ← hy']
   rw [hd, T.adj, ← hd1] at hA
   have hk1 : (k : Int) < (d.length : Int) := by omega
   have hk2 : (q : Int) < (d.length : Int) := by omega
   have hq3 : (q : Int) - 1 = (k : Int) := by omega
   clear hc1 hc2 hx hy hd hd1 HA hqk
   cases hb : Op.bytesLess x y with
   | true =>
    have HL : Hid (Op.bytesLess x y = true) := hb
    have hA2 : T.adj (d.drop (k + 1)) = r := by
     have hb' : T.lt x y = true := hb
     rw [hb', Bool.true_and] at hA
     exact hA
    have HN : Hid (T.adj (d.drop (k + 1)) = r) := hA2
    clear hb hA hA2
    go_wp2_with fail
    have hre := Ex.refl
    refine Rg.wp_rows [.inl (Value.slice (some { block := b, off := off }) d.length cap), .inl (Value.int IntKind.i64 ↑q), .inl (Value.int IntKind.i64 ↑k), .inl (Value.pointer (some ⟨b, off + k, none⟩)), .inl (Value.string (str x)), .inl (Value.slice (some { block := b, off := off }) d.length cap), .inl (Value.int IntKind.i64 ↑q), .inl (Value.pointer (some ⟨b, off + q, none⟩)), .inl (Value.string (str y)), .inl (.bool false)] (Ex wr) Ex 20 (by kernel_rfl) rfl (by kernel_rfl) ?st hre (Ex.drew _) ?goods ?fin
    case st => exact trivial
    case goods =>
     refine Rg.goods_cons (Rg.good_move hre rfl rfl rfl) ?_
     refine Rg.goods_cons (Rg.good_move hre rfl rfl rfl) ?_
     refine Rg.goods_cons (Rg.good_bin hre rfl rfl rfl rfl (fun _ => rfl) (fun w => by go_simp; first | done | exact I.wi64 _ (by omega) (by omega) | (rw [I.wi64 _ (by omega) (by omega)]; omega))) ?_
     refine Rg.goods_cons (Rg.good_index hre rfl rfl rfl rfl (fun wx hC => by go_simp)) ?_
     refine Rg.goods_cons (Rg.good_load hre rfl rfl rfl (fun wx hC => by have hcz := cell_exR HC1.out hC; go_simp)) ?_
     refine Rg.goods_cons (Rg.good_move hre rfl rfl rfl) ?_
     refine Rg.goods_cons (Rg.good_move hre rfl rfl rfl) ?_
     refine Rg.goods_cons (Rg.good_index hre rfl rfl rfl rfl (fun wx hC => by go_simp)) ?_
     refine Rg.goods_cons (Rg.good_load hre rfl rfl rfl (fun wx hC => by have hcz := cell_exR HC2.out hC; go_simp)) ?_
     refine Rg.goods_cons (Rg.good_bin hre rfl rfl rfl rfl (fun _ => rfl) (fun w => by go_simp; rw [str_toList, str_toList]; exact HL.out)) ?_
     exact Rg.goods_nil
    case fin =>
     intro wx hx
     simp only [Rg.later, Act.put, List.setIfInBounds_toArray, List.set_cons_succ, List.set_cons_zero]
     have HXx : Hid (Ex w wx) := HEx.out.trans hx
     clear hx
     go_wp2
     go_roundw
     case rel => exact ⟨k + 1, q + 1, by omega, by omega, by omega, by go_num, HN, HXx⟩
     case measure => simp [intOf]; omega
   | false =>
    have HL : Hid (Op.bytesLess x y = false) := hb
    have hrf : r = false := by
     have hb' : T.lt x y = false := hb
     rw [hb', Bool.false_and] at hA
     exact hA.symm
    subst hrf
    clear hb hA
    go_wp2_with fail
    have hre := Ex.refl
    refine Rg.wp_rows [.inl (Value.slice (some { block := b, off := off }) d.length cap), .inl (Value.int IntKind.i64 ↑q), .inl (Value.int IntKind.i64 ↑k), .inl (Value.pointer (some ⟨b, off + k, none⟩)), .inl (Value.string (str x)), .inl (Value.slice (some { block := b, off := off }) d.length cap), .inl (Value.int IntKind.i64 ↑q), .inl (Value.pointer (some ⟨b, off + q, none⟩)), .inl (Value.string (str y)), .inl (.bool true)] (Ex wr) Ex 20 (by kernel_rfl) rfl (by kernel_rfl) ?st hre (Ex.drew _) ?goods ?fin
    case st => exact trivial
    case goods =>
     refine Rg.goods_cons (Rg.good_move hre rfl rfl rfl) ?_
     refine Rg.goods_cons (Rg.good_move hre rfl rfl rfl) ?_
     refine Rg.goods_cons (Rg.good_bin hre rfl rfl rfl rfl (fun _ => rfl) (fun w => by go_simp; first | done | exact I.wi64 _ (by omega) (by omega) | (rw [I.wi64 _ (by omega) (by omega)]; omega))) ?_
     refine Rg.goods_cons (Rg.good_index hre rfl rfl rfl rfl (fun wx hC => by go_simp)) ?_
     refine Rg.goods_cons (Rg.good_load hre rfl rfl rfl (fun wx hC => by have hcz := cell_exR HC1.out hC; go_simp)) ?_
     refine Rg.goods_cons (Rg.good_move hre rfl rfl rfl) ?_
     refine Rg.goods_cons (Rg.good_move hre rfl rfl rfl) ?_
     refine Rg.goods_cons (Rg.good_index hre rfl rfl rfl rfl (fun wx hC => by go_simp)) ?_
     refine Rg.goods_cons (Rg.good_load hre rfl rfl rfl (fun wx hC => by have hcz := cell_exR HC2.out hC; go_simp)) ?_
     refine Rg.goods_cons (Rg.good_bin hre rfl rfl rfl rfl (fun _ => rfl) (fun w => by go_simp; rw [str_toList, str_toList]; exact HL.out)) ?_
     exact Rg.goods_nil
    case fin =>
     intro wx hx
     simp only [Rg.later, Act.put, List.setIfInBounds_toArray, List.set_cons_succ, List.set_cons_zero]
     have HXx : Hid (Ex w wx) := HEx.out.trans hx
     clear hx
     go_wp2
     go_ret
     exact ⟨rfl, HXx.out⟩
  ·have tk : decide ((q : Int) < (d.length : Int)) = false := by simp; omega
   have hrt : r = true := by
    rw [← HA.out]
    have hl : (d.drop k).length ≤ 1 := by simp; omega
    match hd : d.drop k, hl with
    | [], _ => rfl
    | [_], _ => rfl
   subst hrt
   go_wp2
   go_ret
   exact ⟨rfl, HEx.out⟩

end Go.Proofs.Ytibnhjfeepdddaa
