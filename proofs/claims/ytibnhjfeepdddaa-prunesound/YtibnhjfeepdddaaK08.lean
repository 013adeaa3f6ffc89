/-
  The document's own Stats: what is told of rows.
-/
import Derived.Test.YtibnhjfeepdddaaK02
import Derived.Test.YtibnhjfeepdddaaK03
import Derived.Test.YtibnhjfeepdddaaK06
import Derived.Test.YtibnhjfeepdddaaK07
import Derived.Test.YtibnhjfeepdddaaM21
import Derived.Test.YtibnhjfeepdddaaM33
import Derived.BigRegion
namespace Go.Proofs.Ytibnhjfeepdddaa
open Go.RowKit
set_option linter.unusedVariables false
set_option linter.unusedSimpArgs false
theorem fil_row (a : Option Addr) (n cap : Nat) (l : List (List UInt8)) (wx : World) {w1 : World} (hn : n = l.length) (hB : Rd st wx a cap l) (hl : l.length ≤ 500) (hx : ∀ x ∈ l, x.length ≤ 9223372036854775807) (hC : Ex w1 wx) :
  Calls Try.prog 38 #[.slice a n cap] wx (fun e w' => ∃ u, e = .returned u ∧ Rg.Spec.ok (.inr (IsF w1.heap.size (Fl.bits l : Int) (Fl.bytes l))) u w' ∧ Ex wx w' ∧ Ex w1 w') := by
 refine (rfil_is a n cap l wx hn hB hl hx).mono ?_
 rintro e w' ⟨v, rfl, hO, hxx⟩
 have hO1 : Own w' w1.heap.size v (Fl.bytes l) := owns_mono hO hC.size
 obtain ⟨a', c', rfl, _⟩ := hO1.byt
 exact ⟨_, rfl, ⟨(a', (Fl.bytes l).length, c'), rfl, hO1⟩, hxx, hC.trans hxx⟩
theorem EachO.cell {w : World} {base g k : Nat} {u : Value} {X : Nat → Prop} {vs : List BV} {M : List (List UInt8 × Int × List UInt8)} (h : EachO w base X vs M) (hgb : g < base) : EachO (w.setCell ⟨g, k, none⟩ u) base X vs M := ⟨h.1, fun i v x h1 h2 => by
 obtain ⟨⟨a1, a2, a3⟩, a4⟩ := h.2 i v x h1 h2
 have hlt : ∀ q, (sv v.s).ownBlock = some q → base ≤ q ∧ q < w.heap.size := World.ownsRow.lt a3
 exact ⟨⟨a1, a2, owns_apart a3 (fun e => by have := (hlt g e).1; omega)⟩, a4⟩⟩
theorem OutR.done {wr : World} {g g1 base : Nat} {s : St} (h : OutR wr g base s.rows s.lo s.hi s.zs s.bs) (hg1 : g1 < base) : ∃ v : TV, TAt wr g v 46 ∧ StOk (tset wr g1 v) v s := by
 obtain ⟨z, b, vs, hT, ⟨hzn, hzo⟩, ⟨hbn, hbo⟩, hne, hE⟩ := h
 obtain ⟨za, zn, zc⟩ := z
 obtain ⟨ba, bn, bcap⟩ := b
 refine ⟨_, hT, ⟨rfl, rfl, rfl⟩, ?_, ?_⟩
 ·have hz9 := ((((hzo.other (j := 0) (u := .int .i64 s.rows) hg1).other (j := 1) (u := .int .i64 s.lo) hg1).other (j := 2) (u := .int .i64 s.hi) hg1).other (j := 3) (u := .slice za zn zc) hg1).other (j := 4) (u := .slice ba bn bcap) hg1
  obtain ⟨a9, c9, ez, hz⟩ := OwnW.rd zcc_len hz9
  simp only [sv, Value.slice.injEq] at ez
  obtain ⟨rfl, _, rfl⟩ := ez
  exact ⟨hzn, hz⟩
 ·have hb9 := ((((hbo.other (j := 0) (u := .int .i64 s.rows) hg1).other (j := 1) (u := .int .i64 s.lo) hg1).other (j := 2) (u := .int .i64 s.hi) hg1).other (j := 3) (u := .slice za zn zc) hg1).other (j := 4) (u := .slice ba bn bcap) hg1
  have hE9 := ((((hE.cell (k := 0) (u := .int .i64 s.rows) hg1).cell (k := 1) (u := .int .i64 s.lo) hg1).cell (k := 2) (u := .int .i64 s.hi) hg1).cell (k := 3) (u := .slice za zn zc) hg1).cell (k := 4) (u := .slice ba bn bcap) hg1
  obtain ⟨a9, c9, ez, hz⟩ := OwnW.rd bc_len hb9
  simp only [sv, Value.slice.injEq] at ez
  obtain ⟨rfl, _, rfl⟩ := ez
  have hl : vs.length = s.bs.length := hE.1
  exact ⟨by simp only at hbn ⊢; omega, vs, hz, hE9.each⟩
theorem Pu.txts_short {R : List Rw} (h : ∀ r ∈ R, ∀ c ∈ r.c, c.s.length ≤ maxLen) (n : List UInt8) : ∀ x ∈ Z.txts (Pu.column R n), x.length ≤ 9223372036854775807 := by
 intro x hx
 unfold Z.txts at hx
 obtain ⟨c, hc, rfl⟩ := List.mem_map.1 hx
 have hc := (List.mem_filter.1 hc).1
 unfold Pu.column at hc
 obtain ⟨r, hr, rfl⟩ := List.mem_map.1 hc
 exact cell_short (h r hr) n
theorem Pu.zs_next (R : List Rw) {cols : List Co} {i : Nat} {c : Co} (h : cols[i]? = some c) : (cols.take (i + 1)).map (fun c => (c.nm, Z.build c.k (Pu.column R c.nm))) = (cols.take i).map (fun c => (c.nm, Z.build c.k (Pu.column R c.nm))) ++ [(c.nm, Z.build c.k (Pu.column R c.nm))] := by
 rw [List.take_add_one, h, List.map_append]; rfl
def Pu.bsOf (R : List Rw) (cols : List Co) : List (List UInt8 × Int × List UInt8) := (cols.filter fun c => decide (c.k = 2)).map fun c => (c.nm, (Fl.bits (Z.txts (Pu.column R c.nm)) : Int), Fl.bytes (Z.txts (Pu.column R c.nm)))
theorem Pu.bs_next (R : List Rw) {cols : List Co} {i : Nat} {c : Co} (h : cols[i]? = some c) : Pu.bsOf R (cols.take (i + 1)) = if c.k = 2 then Pu.bsOf R (cols.take i) ++ [(c.nm, (Fl.bits (Z.txts (Pu.column R c.nm)) : Int), Fl.bytes (Z.txts (Pu.column R c.nm)))] else Pu.bsOf R (cols.take i) := by
 unfold Pu.bsOf
 rw [List.take_add_one, h]
 by_cases hk : c.k = 2
 ·rw [if_pos hk]; simp [hk]
 ·rw [if_neg hk]; simp [hk]
theorem col_apart {w : World} {g : Nat} {v : TV} {t : TypeId} {a : Option Addr} {cap : Nat} {cols : List Co} (hT : TAt w g v t) (hK : RdK w a cap cols) (h0 : 0 < cols.length) : ∀ b off, a = some ⟨b, off, none⟩ → b < w.heap.size ∧ b ≠ g := by
 intro b off e
 obtain ⟨b', off', e', c0, _⟩ := hK.two h0
 rw [e] at e'
 simp only [Option.some.injEq, Addr.mk.injEq, and_true] at e'
 obtain ⟨rfl, rfl⟩ := e'
 refine ⟨World.block_lt_of_cell? w _ c0, fun hbg => ?_⟩
 subst hbg
 rw [hT.cell] at c0
 simp only [Nat.zero_mul, Nat.add_zero] at c0
 match off, c0 with
 | 0, c0 => simp [tc] at c0
 | 1, c0 => simp [tc] at c0
 | 2, c0 => simp [tc] at c0
 | 3, c0 => simp [tc, sv] at c0
 | 4, c0 => simp [tc, sv] at c0
 | _ + 5, c0 => simp [tc] at c0
set_option maxHeartbeats 16000000 in
set_option maxRecDepth 100000 in
theorem rstats_is (a : Option Addr) (cap : Nat) (R : List Rw) (w : World) (hB : RdR w a cap R) (hl : 1 ≤ R.length ∧ R.length ≤ 500) (hok : ∀ r ∈ R, RwOk3 r) (cols : List Co) (k0 : Nat) (hg : Rw.grow [] R = (cols, 0, k0)) (hcl : cols.length ≤ 500) :
  Calls Try.prog 20 #[.slice a R.length cap] w fun e w' => ∃ u, e = .returned (tvv u) ∧ StOk w' u (Pu.sOf R cols) ∧ Ex w w' := by
 obtain ⟨h1, h2, _⟩ := hB.bounds
 unfold maxLen at h2
 obtain ⟨w0, hw0⟩ : ∃ w0, w.alloc (tb0 46) = w0 := ⟨_, rfl⟩
 have hx0 : Ex w w0 := by rw [← hw0]; exact (Below.refl _ _).alloc (Nat.le_refl _) _
 have hB0 : RdR w0 a cap R := hB.below hx0
 have hsz : w0.heap.size = w.heap.size + 1 := by rw [← hw0]; simp
 have hTz0 : TAt w0 w.heap.size TV.zero 46 := by rw [← hw0]; exact TAt.new w TV.zero 46
 obtain ⟨rb, ro, p, cp2, rfl, e0, e1, e2, hC⟩ := hB0.at (i := 0) (by omega)
 obtain ⟨b', off', p', cp2', hbo, f0, f1, f2, hC'⟩ := hB0.at (i := R.length - 1) (by omega)
 simp only [Option.some.injEq, Addr.mk.injEq, and_true] at hbo
 obtain ⟨rfl, rfl⟩ := hbo
 simp only [Nat.zero_mul, Nat.add_zero] at e0
 obtain ⟨T0, hT0⟩ : ∃ t, R[0].t = t := ⟨_, rfl⟩
 obtain ⟨T1, hT1⟩ : ∃ t, R[R.length - 1].t = t := ⟨_, rfl⟩
 have hs0 : (R.headD ⟨0, 0, []⟩).t = T0 := by
  rw [← hT0]
  cases R with
  | nil => simp at hl
  | cons r R => rfl
 have hs1 : (R.getLastD ⟨0, 0, []⟩).t = T1 := by
  rw [← hT1, List.getLastD_eq_getLast?, List.getLast?_eq_getElem?, List.getElem?_eq_getElem (by omega)]; rfl
 have HSO : Hid (Pu.sOf R cols = ⟨R.length, T0, T1, cols.map fun c => (c.nm, Z.build c.k (Pu.column R c.nm)), Pu.bsOf R cols⟩) := (by unfold Pu.sOf Pu.bsOf; rw [hs0, hs1] : _ = _)
 have HTX : Hid (∀ n, ∀ x ∈ Z.txts (Pu.column R n), x.length ≤ 9223372036854775807) := (fun n => Pu.txts_short (fun r hr c hc => ((hok r hr).2.2 c hc).2.1) n : ∀ n, ∀ x ∈ Z.txts (Pu.column R n), x.length ≤ 9223372036854775807)
 obtain ⟨n, hn⟩ : ∃ n, R.length = n := ⟨_, rfl⟩
 obtain ⟨m, hm⟩ : ∃ m, R.length - 1 = m := ⟨_, rfl⟩
 have HN : Hid (R.length = n) := hn
 have HGR : Hid (Rw.grow [] R = (cols, 0, k0)) := hg
 have HOK : Hid (∀ r ∈ R, RwOk3 r) := hok
 have HBw : Hid (RdR w (some ⟨rb, ro, none⟩) cap R) := hB
 rw [hT0] at e0
 rw [hT1, hm] at f0
 rw [hn] at hl h1
 have e0' : (w0.alloc (tb0 46)).cell? ⟨rb, ro, none⟩ = some (.int .i64 T0) := cell_ex e0 ((Below.refl _ _).alloc (Nat.le_refl _) _)
 have f0' : (w0.alloc (tb0 46)).cell? ⟨rb, ro + m * 3, none⟩ = some (.int .i64 T1) := cell_ex f0 ((Below.refl _ _).alloc (Nat.le_refl _) _)
 have hnm : (n : Int) - 1 = (m : Int) := by omega
 have hmn : (m : Int) < (n : Int) := by omega
 have hn0 : (0 : Int) < (n : Int) := by omega
 rw [hn]
 have HSZ : Hid (w0.heap.size = w.heap.size + 1) := hsz
 have HX0 : Hid (Ex w w0) := hx0
 have HTZ0 : Hid (TAt w0 w.heap.size TV.zero 46) := hTz0
 clear hB hB0 hx0 hC hC' e1 e2 f1 f2 hT0 hT1 hm hn hsz hs0 hs1 hg hok hTz0
 go_enter Try.func20, Try.ntmps20
 go_wp2_with fail
 go_region
 obtain ⟨W, hW⟩ : ∃ W, W = (w0.alloc (.cells #[.int .i64 (n : Int), .int .i64 T0, .int .i64 T1, .slice none 0 0, .slice none 0 0] 46)).drew := ⟨_, rfl⟩
 have hx1 : Ex w0 (w0.alloc (tb ⟨n, T0, T1, (none, 0, 0), (none, 0, 0)⟩ 46)) := (Below.refl _ _).alloc (Nat.le_refl _) _
 have hx2 : Ex w0 W := by rw [hW]; exact hx1.trans (Ex.drew _)
 have HTW : Hid (TAt W w0.heap.size ⟨n, T0, T1, (none, 0, 0), (none, 0, 0)⟩ 46) := (by rw [hW]; exact (TAt.new w0 ⟨n, T0, T1, (none, 0, 0), (none, 0, 0)⟩ 46).below (Ex.drew _) : TAt W _ _ _)
 have HZW : Hid (TAt W w.heap.size TV.zero 46) := (HTZ0.out.below hx2 : TAt W _ _ _)
 have HXW : Hid (Ex w W) := (HX0.out.trans hx2 : Ex w W)
 rw [← hW]
 obtain ⟨g2, hg2⟩ : ∃ g, w0.heap.size = g := ⟨_, rfl⟩
 rw [hg2] at HTW HSZ ⊢
 have HSW : Hid (g2 < W.heap.size) := (HTW.out.lt : g2 < W.heap.size)
 have HCg : Hid (Calls Try.prog 35 #[.slice none 0 0, .slice (some ⟨rb, ro, none⟩) n cap] W fun e w' => ∃ p c, e = .returned (.tuple #[.slice p cols.length c, .int .i64 (0 : Nat), .int .i64 k0]) ∧ RdK w' p c cols ∧ Ex W w') := rgrow_is none 0 0 [] _ n cap R W rfl HN.out.symm (RdW.nil W) (HBw.out.below HXW.out) (by simp) HOK.out cols 0 k0 HGR.out
 clear e0 e0' f0 f0' hw0 hnm hmn hn0 hW hx1 hx2 hg2 HTZ0 HX0
 go_wp2_with fail
 go_at_call 35
 refine Calls.mono HCg.out ?_
 rintro e wG ⟨pcol, cc, rfl, hK, hxG⟩
 have HTG : Hid (TAt wG g2 ⟨n, T0, T1, (none, 0, 0), (none, 0, 0)⟩ 46) := HTW.out.below hxG
 have HZG : Hid (TAt wG w.heap.size TV.zero 46) := HZW.out.below hxG
 have HXG : Hid (Ex w wG) := (HXW.out.trans hxG : Ex w wG)
 have HKG : Hid (RdK wG pcol cc cols) := hK
 have HSG : Hid (g2 < wG.heap.size) := (HTG.out.lt : g2 < wG.heap.size)
 have HCB : Hid (0 < cols.length → ∀ b off, pcol = some ⟨b, off, none⟩ → b < wG.heap.size ∧ b ≠ g2) := (fun h0 => col_apart HTG.out hK h0 : _ → _)
 clear hK hxG HCg HTW HZW HSW
 go_wp2_with fail
 go_loopw [7] (fun iv wr => ∃ i : Nat, i ≤ cols.length ∧ iv = .int .i64 i ∧ Hid (OutR wr g2 wG.heap.size n T0 T1 ((cols.take i).map fun c => (c.nm, Z.build c.k (Pu.column R c.nm))) (Pu.bsOf R (cols.take i))) ∧ Hid (RdK wr pcol cc cols) ∧ Hid (TAt wr w.heap.size TV.zero 46) ∧ Hid (wG.heap.size ≤ wr.heap.size) ∧ Hid (Ex w wr)) (fun iv wr => cols.length - (intOf iv).toNat)
 case atStart => exact ⟨0, by omega, rfl, (⟨(none, 0, 0), (none, 0, 0), [], HTG.out, ⟨rfl, ownW_none _ _⟩, ⟨rfl, ownW_none _ _⟩, fun g1 e => by simp [sv, Value.ownBlock] at e, EachO.nil _ _ _⟩ : OutR wG _ _ _ _ _ ((cols.take 0).map fun c => (c.nm, Z.build c.k (Pu.column R c.nm))) (Pu.bsOf R (cols.take 0))), HKG, HZG, (Nat.le_refl _ : wG.heap.size ≤ wG.heap.size), HXG⟩
 case round =>
  obtain ⟨i, hi, rfl, HO, HKr, HTz, HSr, HXr⟩ := hrel
  by_cases hlt : i < cols.length
  ·have hti : (i : Int) < (cols.length : Int) := by omega
   have hlc := HKr.out.1
   obtain ⟨b, off, rfl, q0, q1⟩ := HKr.out.two hlt
   have hci : cols[i]? = some cols[i] := List.getElem?_eq_getElem hlt
   have hzx := Pu.zs_next R hci
   have hbx := Pu.bs_next R hci
   obtain ⟨⟨nm, ck⟩, hc⟩ : ∃ c, cols[i] = c := ⟨_, rfl⟩
   rw [hc] at q0 q1 hzx hbx
   simp only at q0 q1 hzx hbx
   obtain ⟨X, hX⟩ : ∃ X, Pu.column R nm = X := ⟨_, rfl⟩
   have hXl : X.length ≤ 500 := by rw [← hX]; unfold Pu.column; rw [List.length_map]; have := HN.out; omega
   have HTL : Hid ((Z.txts X).length ≤ 500 ∧ ∀ x ∈ Z.txts X, x.length ≤ 9223372036854775807) := (⟨Nat.le_trans (Z.txts_len X) hXl, by rw [← hX]; exact HTX.out nm⟩ : _ ∧ _)
   have HCx : Hid (Calls Try.prog 36 #[.slice (some ⟨rb, ro, none⟩) n cap, .string (str nm)] wr fun e w' => ∃ v, e = .returned v ∧ OwnC w' wr.heap.size v X ∧ Ex wr w') := (by rw [← hX]; exact rcolumn_is _ n cap R nm wr HN.out.symm (HBw.out.below HXr.out) (by have := HN.out; omega) : Calls _ _ _ _ _)
   rw [hX] at hzx hbx
   have HZX : Hid ((cols.take (i + 1)).map (fun c => (c.nm, Z.build c.k (Pu.column R c.nm))) = (cols.take i).map (fun c => (c.nm, Z.build c.k (Pu.column R c.nm))) ++ [(nm, Z.build ck X)]) := hzx
   have HBX : Hid (Pu.bsOf R (cols.take (i + 1)) = if ck = 2 then Pu.bsOf R (cols.take i) ++ [(nm, (Fl.bits (Z.txts X) : Int), Fl.bytes (Z.txts X))] else Pu.bsOf R (cols.take i)) := hbx
   have HCBr : Hid (b < wG.heap.size ∧ b ≠ g2) := HCB.out (by omega) b off rfl
   clear hci hzx hbx hc hX
   go_wp2_with fail
   go_at_call 36
   refine Calls.mono HCx.out ?_
   rintro e w1 ⟨vx, rfl, hOx, hx1⟩
   obtain ⟨xa, xc, rfl, hRx⟩ := OwnW.rd cc_len hOx
   have hxl := hRx.1
   have hxm := hRx.2.1
   unfold maxLen at hxm
   have HX1 : Hid (Ex wr w1) := hx1
   have HRx : Hid (RdC w1 xa xc X) := hRx
   have HOx : Hid (OwnC w1 wr.heap.size (.slice xa X.length xc) X) := hOx
   have HK1 : Hid (RdK w1 (some ⟨b, off, none⟩) cc cols) := HKr.out.below hx1
   have HQ0 : Hid (w1.cell? ⟨b, off + i * 2, none⟩ = some (.string (str nm))) := cell_ex q0 hx1
   have HQ1 : Hid (w1.cell? ⟨b, off + i * 2 + 1, none⟩ = some (.int .i64 ck)) := cell_ex q1 hx1
   obtain ⟨⟨za, zn, zc⟩, bb, vs, hT, ⟨hzn, hzo⟩, ⟨hbn, hbo⟩, hne, hE⟩ := HO.out
   have htl : ((cols.take i).map fun c => (c.nm, Z.build c.k (Pu.column R c.nm))).length = i := by simp; omega
   simp only at hzn
   rw [htl] at hzn
   subst hzn
   have hzlt := hzo.lt
   have HZLT : Hid (∀ g, (Value.slice za zn zc).ownBlock = some g → wG.heap.size ≤ g ∧ g < wr.heap.size) := hzlt
   have HTo : Hid (TAt w1 g2 ⟨n, T0, T1, (za, zn, zc), bb⟩ 46) := hT.below hx1
   have HZO : Hid (OwnW 76 8 zcc w1 wG.heap.size (.slice za zn zc) ((cols.take zn).map fun c => (c.nm, Z.build c.k (Pu.column R c.nm)))) := hzo.later hx1
   have HBO : Hid (OwnW 79 3 bc w1 wG.heap.size (sv bb) vs) := hbo.later hx1
   have HBN : Hid (bb.2.1 = vs.length) := hbn
   have HNE : Hid (∀ g1, (Value.slice za zn zc).ownBlock = some g1 → (sv bb).ownBlock ≠ some g1) := hne
   have HE : Hid (EachO w1 wG.heap.size (fun q => (Value.slice za zn zc).ownBlock ≠ some q ∧ (sv bb).ownBlock ≠ some q) vs (Pu.bsOf R (cols.take zn))) := hE.later hx1
   have HTL2 : Hid (((cols.take zn).map fun c => (c.nm, Z.build c.k (Pu.column R c.nm))).length = zn) := htl
   clear hx1 hT hzo hbn hbo hne hE htl hOx hRx q0 q1 HO HCx hzlt
   go_wp2_with fail
   have hre := Ex.refl
   refine Rg.wp_rows_tail (List.take 16 _) (List.drop 16 _) (List.take_append_drop 16 _).symm [.inl (Value.pointer (some ⟨g2, 3, none⟩)), .inl (.slice za zn zc), .inl (.slice (some ⟨b, off, none⟩) cols.length cc), .inl (.int .i64 (zn : Int)), .inl (Value.pointer (some ⟨b, off + zn * 2, none⟩)), .inl (Value.pointer (some ⟨b, off + zn * 2, none⟩)), .inl (.string (str nm)), .inl (.slice (some ⟨b, off, none⟩) cols.length cc), .inl (.int .i64 (zn : Int)), .inl (Value.pointer (some ⟨b, off + zn * 2, none⟩)), .inl (Value.pointer (some ⟨b, off + zn * 2 + 1, none⟩)), .inl (.int .i64 ck), .inl (.slice xa X.length xc), .inl (zv (Z.build ck X)), .inl (zcw (nm, Z.build ck X)), .inr (IsZ1 w1.heap.size (nm, Z.build ck X))] (Ex w1) Ex 102 (by kernel_rfl) rfl (by kernel_rfl) (by kernel_rfl) (by kernel_rfl) (by decide) (by kernel_rfl) ?st hre (Ex.drew _) ?goods ?fin
   case st => exact ⟨IsZ1.stands _ _, trivial⟩
   case goods =>
    refine Rg.goods_cons (Rg.good_field hre rfl rfl rfl (fun wx hC => by go_simp)) ?_
    refine Rg.goods_cons (Rg.good_load hre rfl rfl rfl (fun wx hC => by have hz := (HTo.out.below hC).all.2.2.2.1; go_simp)) ?_
    refine Rg.goods_cons (Rg.good_move hre rfl rfl rfl) ?_
    refine Rg.goods_cons (Rg.good_move hre rfl rfl rfl) ?_
    refine Rg.goods_cons (Rg.good_index hre rfl rfl rfl rfl (fun wx hC => by go_simp)) ?_
    refine Rg.goods_cons (Rg.good_field hre rfl rfl rfl (fun wx hC => by go_simp)) ?_
    refine Rg.goods_cons (Rg.good_load hre rfl rfl rfl (fun wx hC => by have hz := cell_ex HQ0.out hC; simp [go_sem, hz])) ?_
    refine Rg.goods_cons (Rg.good_move hre rfl rfl rfl) ?_
    refine Rg.goods_cons (Rg.good_move hre rfl rfl rfl) ?_
    refine Rg.goods_cons (Rg.good_index hre rfl rfl rfl rfl (fun wx hC => by go_simp)) ?_
    refine Rg.goods_cons (Rg.good_field hre rfl rfl rfl (fun wx hC => by go_simp)) ?_
    refine Rg.goods_cons (Rg.good_load hre rfl rfl rfl (fun wx hC => by have hz := cell_ex HQ1.out hC; simp [go_sem, hz])) ?_
    refine Rg.goods_cons (Rg.good_move hre rfl rfl rfl) ?_
    refine Rg.goods_cons (Rg.good_call2 Try.func37 (by kernel_rfl) rfl rfl rfl (by rintro v0 v1 wx hC rfl rfl; exact ex_rowP (zbuild_is ck xa _ xc X wx rfl (HRx.out.below hC)) hC)) ?_
    refine Rg.goods_cons (good_bc76 rfl rfl rfl rfl) ?_
    refine Rg.goods_cons (good_zs43 rfl rfl rfl) ?_
    exact Rg.goods_nil
   case fin =>
    intro wx hx
    simp only [Rg.later, List.take_succ_cons, List.take_zero, List.drop_succ_cons, List.drop_zero, Act.put, List.setIfInBounds_toArray, List.set_cons_succ, List.set_cons_zero]
    rintro v52 ⟨g52, rfl, hg52, hR52⟩
    have hbase : wG.heap.size ≤ wx.heap.size := Nat.le_trans HSr.out (Nat.le_trans HX1.out.size hx.size)
    refine wpList_append_wide zcc_len zcc_one rfl (.tmp 45) (.tmp 59) 43 _ 88 rfl Try.underlying43 Try.info76 (by decide) rfl wG.heap.size (.slice za zn zc) ((cols.take zn).map fun c => (c.nm, Z.build c.k (Pu.column R c.nm))) rfl (HZO.out.later hx) (some ⟨g52, 0, none⟩) 1 1 [(nm, Z.build ck X)] rfl rfl hR52 (by rw [HTL2.out]; unfold maxLen; simp; omega) (by rw [HTL2.out]; simp; omega) hbase ?_
    intro v' w3 hO3 hg3 hat3
    have hzl3 := (HZO.out.later hx).lt
    have hsg := HSG.out
    have hsz := HSZ.out
    have hX3 : Ex w w3 := Below.grown ((HXr.out.trans HX1.out).trans hx) hg3 ((HXr.out.trans HX1.out).trans hx).size (fun g hg => by have h1 := hzl3 g hg; omega)
    rw [← HZX.out] at hO3
    obtain ⟨a3, c3, rfl, _⟩ := OwnW.rd zcc_len hO3
    have hlen : ((cols.take (zn + 1)).map fun c => (c.nm, Z.build c.k (Pu.column R c.nm))).length = zn + 1 := by simp; omega
    have hO4 := OutR.putZ (HTo.out.below hx) hsg (HZO.out.later hx) HBN.out (HBO.out.later hx) HNE.out (HE.out.later hx) hg3 hO3 hat3
    rw [hlen] at hO4 ⊢
    obtain ⟨w4, hw4⟩ : ∃ w4, w3.setCell ⟨g2, 3, none⟩ (.slice a3 (zn + 1) c3) = w4 := ⟨_, rfl⟩
    have hneg : ∀ g, g < wG.heap.size → (Value.slice za zn zc).ownBlock ≠ some g := fun g hg e => by have := (hzl3 g e).1; omega
    have HO4 : Hid (OutR w4 g2 wG.heap.size n T0 T1 ((cols.take (zn + 1)).map fun c => (c.nm, Z.build c.k (Pu.column R c.nm))) (Pu.bsOf R (cols.take zn))) := (by rw [← hw4]; exact hO4 : OutR _ _ _ _ _ _ _ _)
    have HK4 : Hid (RdK w4 (some ⟨b, off, none⟩) cc cols) := (by
     rw [← hw4]
     refine RdW.far (RdW.far (HK1.out.below hx) hg3 ?_) (grown_set1 _ _ _ _) ?_
     ·intro _ b1 off1 e; simp only [Option.some.injEq, Addr.mk.injEq, and_true] at e; rw [← e.1]; exact hneg _ HCBr.out.1
     ·intro _ b1 off1 e; simp only [Option.some.injEq, Addr.mk.injEq, and_true] at e; rw [← e.1]; simp; exact fun e => HCBr.out.2 e.symm : RdK _ _ _ _)
    have HTz4 : Hid (TAt w4 w.heap.size TV.zero 46) := (by rw [← hw4]; exact (((HTz.out.below HX1.out).below hx).far hg3 (hneg _ (by omega))).other (by omega) : TAt w4 _ _ _)
    have HX4 : Hid (Ex w w4) := (by rw [← hw4]; exact Below.setCell hX3 (by simp; omega) _ : Ex w w4)
    have HS4 : Hid (wG.heap.size ≤ w4.heap.size) := (by have h3 := hg3.size; rw [← hw4]; simp; omega : wG.heap.size ≤ w4.heap.size)
    have HRx4 : Hid (RdC w4 xa xc X) := (by
     have hol := (HOx.out.later hx).lt
     have h1 : OwnC w3 wr.heap.size (.slice xa X.length xc) X := own_other (HOx.out.later hx) hg3 (fun g e1 e2 => by have h1 := (HZLT.out g e1).2; have h2 := (hol g e2).1; omega)
     have h2 : OwnC w4 wr.heap.size (.slice xa X.length xc) X := by rw [← hw4]; exact h1.apart (fun e => by have h3 := (hol g2 e).1; have := HSr.out; omega)
     obtain ⟨a9, c9, e9, h9⟩ := OwnW.rd cc_len h2
     simp only [Value.slice.injEq] at e9
     obtain ⟨rfl, _, rfl⟩ := e9
     exact h9 : RdC w4 xa xc X)
    have hT3 : TAt w3 g2 ⟨n, T0, T1, (za, zn, zc), bb⟩ 46 := (HTo.out.below hx).far hg3 (hneg _ hsg)
    have f3 := hT3.fro.2.2.2.1
    have c3' := hT3.all.2.2.2.1
    simp only at c3'
    obtain ⟨b4, off4, e4, q0, q1⟩ := HK4.out.two hlt
    have hKc : cols[zn].k = ck := by
     obtain ⟨b5, off5, e5, _, q5⟩ := HK1.out.two hlt
     simp only [Option.some.injEq, Addr.mk.injEq, and_true] at e5
     obtain ⟨rfl, rfl⟩ := e5
     rw [HQ1.out] at q5
     simp at q5
     exact q5.symm
    have hNc : cols[zn].nm = nm := by
     obtain ⟨b5, off5, e5, q5, _⟩ := HK1.out.two hlt
     simp only [Option.some.injEq, Addr.mk.injEq, and_true] at e5
     obtain ⟨rfl, rfl⟩ := e5
     rw [HQ0.out] at q5
     simp only [Option.some.injEq, Value.string.injEq] at q5
     have q6 := congrArg (fun (b : ByteArray) => b.toList) q5
     simp only [str_toList] at q6
     exact q6.symm
    simp only [Option.some.injEq, Addr.mk.injEq, and_true] at e4
    obtain ⟨rfl, rfl⟩ := e4
    rw [hKc] at q1
    rw [hNc] at q0
    clear hO3 hg3 hat3 hX3 hneg hT3 hzl3 hlen hO4 hR52 hx hbase HTo HZO HBO HBN HNE HE HK1 HQ0 HQ1 HX1 HRx HOx hKc hNc hsz hsg
    by_cases hck : ck = 2
    ·have tck : (ck != 2) = false := by simp [hck]
     have HCK : Hid (Pu.bsOf R (cols.take (zn + 1)) = Pu.bsOf R (cols.take zn) ++ [(nm, (Fl.bits (Z.txts X) : Int), Fl.bytes (Z.txts X))]) := (by rw [HBX.out, if_pos hck] : _ = _)
     clear hck
     go_wp2_with fail
     go_loopw [10, 9] (fun iv tv w5 => ∃ j : Nat, j ≤ X.length ∧ iv = .int .i64 j ∧ Hid (OwnR 9 st w5 w4.heap.size tv (Z.txts (X.take j))) ∧ Hid (Ex w4 w5)) (fun iv tv w5 => X.length - (intOf iv).toNat)
     case atStart => exact ⟨0, by omega, rfl, (World.ownsRow_nil _ _ _ _ : OwnR 9 st w4 w4.heap.size (.slice none 0 0) (Z.txts (X.take 0))), Ex.refl w4⟩
     case round =>
      obtain ⟨j, hj, rfl, HOt, HX5⟩ := hrel
      by_cases hjl : j < X.length
      ·have htj : (j : Int) < (X.length : Int) := by omega
       obtain ⟨xb, xo, rfl, x0, x1, x2, x3⟩ := RdC.four (HRx4.out.below HX5.out) hjl
       obtain ⟨d, hd⟩ : ∃ d, X[j] = d := ⟨_, rfl⟩
       rw [hd] at x0 x1 x2 x3
       have hnx : X.take (j + 1) = X.take j ++ [d] := by rw [List.take_add_one, List.getElem?_eq_getElem hjl, hd]; rfl
       have hlj : (Z.txts (X.take j)).length ≤ 500 := Nat.le_trans (Z.txts_len _) (by simp; omega)
       obtain ⟨b2, hb2⟩ : ∃ b, (d.k == 2) = b := ⟨_, rfl⟩
       have HNX : Hid (Z.txts (X.take (j + 1)) = if b2 = true then Z.txts (X.take j) ++ [d.s] else Z.txts (X.take j)) := (by
        rw [hnx, Z.txts_append, ← hb2]
        by_cases h : d.k = 2 <;> simp [Z.txts, h] : _ = _)
       clear hd hnx
       cases b2 with
       | false =>
        have HO5 : Hid (OwnR 9 st wr w4.heap.size u9 (Z.txts (X.take (j + 1)))) := (by rw [HNX.out]; exact HOt.out : OwnR _ _ _ _ _ _)
        go_wp2_with fail
        go_roundw
        case rel => exact ⟨j + 1, by omega, by go_num, HO5, HX5⟩
        case measure => simp [intOf]; omega
       | true =>
        obtain ⟨w6, hw6⟩ : ∃ w6, wr.alloc (.cells #[.string (str d.s)] 9) = w6 := ⟨_, rfl⟩
        have hx56 : Ex wr w6 := by rw [← hw6]; exact (Below.refl _ _).alloc (Nat.le_refl _) _
        have HO6 : Hid (OwnR 9 st w6 w4.heap.size u9 (Z.txts (X.take j))) := HOt.out.later hx56
        have HX6 : Hid (Ex w4 w6) := (HX5.out.trans hx56 : Ex w4 w6)
        have HR6 : Hid (Rd st w6 (some ⟨wr.heap.size, 0, none⟩) 1 [d.s]) := (by rw [← hw6]; exact Rd.laid wr 9 [d.s] (by simp) : Rd _ _ _ _ _)
        have hstep : ∀ v9 w9, OwnR 9 st w9 w4.heap.size v9 (Z.txts (X.take j) ++ [d.s]) → w6.grownBy w9 u9.ownBlock → Hid (OwnR 9 st w9 w4.heap.size v9 (Z.txts (X.take (j + 1)))) ∧ Hid (Ex w4 w9) := by
         intro v9 w9 ho9 hg9
         have hob := World.ownsRow.lt HO6.out
         exact ⟨(by rw [HNX.out]; exact ho9 : OwnR _ _ _ _ _ _), (Below.grown HX6.out hg9 HX6.out.size (fun g hg => (hob g hg).1) : Ex w4 w9)⟩
        clear hx56
        go_wp2_with (at_builtin; refine wpList_append_rd_at (e := 9) (enc := st) rfl (.tmp 80) (.tmp 86) 26 rfl [] 16 Try.underlying26 Try.info9 rfl (fun _ => rfl) w4.heap.size _ _ rfl HO6.out (some ⟨wr.heap.size, 0, none⟩) 1 1 [d.s] rfl rfl HR6.out (by unfold maxLen; simp; omega) (by simp; omega) HX6.out.size ?_; intro v9 w9 ho9 hg9 hat9; obtain ⟨HO9, HX9⟩ := hstep v9 w9 ho9 hg9; clear ho9 hg9 hat9 hstep)
        go_roundw
        case rel => exact ⟨j + 1, by omega, by go_num, HO9, HX9⟩
        case measure => simp [intOf]; omega
      ·have htj : ¬ (j : Int) < (X.length : Int) := by omega
       have hOt : OwnR 9 st wr w4.heap.size u9 (Z.txts X) := by have h := HOt.out; rw [List.take_of_length_le (by omega)] at h; exact h
       obtain ⟨ta, tc', rfl, hRt⟩ := hOt.rd
       obtain ⟨w5, hw5⟩ : ∃ w5, w5 = wr := ⟨_, rfl⟩
       have HRT : Hid (Rd st wr ta tc' (Z.txts X)) := hRt
       have HO5 : Hid (OutR wr g2 wG.heap.size n T0 T1 ((cols.take (zn + 1)).map fun c => (c.nm, Z.build c.k (Pu.column R c.nm))) (Pu.bsOf R (cols.take zn))) := HO4.out.later HX5.out
       obtain ⟨zz, ⟨ba, bn, bcap⟩, vs5, hT, ⟨hzn, hzo⟩, ⟨hbn, hbo⟩, hne, hE⟩ := HO5.out
       simp only at hbn
       subst hbn
       have HTo : Hid (TAt wr g2 ⟨n, T0, T1, zz, (ba, vs5.length, bcap)⟩ 46) := hT
       have HZN : Hid (zz.2.1 = ((cols.take (zn + 1)).map fun c => (c.nm, Z.build c.k (Pu.column R c.nm))).length) := hzn
       have HZO : Hid (OwnW 76 8 zcc wr wG.heap.size (sv zz) ((cols.take (zn + 1)).map fun c => (c.nm, Z.build c.k (Pu.column R c.nm)))) := hzo
       have HBO : Hid (OwnW 79 3 bc wr wG.heap.size (.slice ba vs5.length bcap) vs5) := hbo
       have HNE : Hid (∀ g1, (sv zz).ownBlock = some g1 → (Value.slice ba vs5.length bcap).ownBlock ≠ some g1) := hne
       have HE : Hid (EachO wr wG.heap.size (fun q => (sv zz).ownBlock ≠ some q ∧ (Value.slice ba vs5.length bcap).ownBlock ≠ some q) vs5 (Pu.bsOf R (cols.take zn))) := hE
       have HVL : Hid (vs5.length ≤ 500) := (by have h := hE.1; have h2 : (Pu.bsOf R (cols.take zn)).length ≤ (cols.take zn).length := (by unfold Pu.bsOf; rw [List.length_map]; exact List.length_filter_le _ _); simp at h2; omega : vs5.length ≤ 500)
       have HQ0 : Hid (wr.cell? ⟨b, off + zn * 2, none⟩ = some (.string (str nm))) := cell_ex q0 HX5.out
       clear hOt hRt hT hzn hzo hbo hne hE HO5 q0 q1 hw5
       go_wp2_with fail
       have hre := Ex.refl
       refine Rg.wp_rows_tail (List.take 11 _) (List.drop 11 _) (List.take_append_drop 11 _).symm [.inl (Value.pointer (some ⟨g2, 4, none⟩)), .inl (.slice ba vs5.length bcap), .inl (.slice (some ⟨b, off, none⟩) cols.length cc), .inl (.int .i64 (zn : Int)), .inl (Value.pointer (some ⟨b, off + zn * 2, none⟩)), .inl (Value.pointer (some ⟨b, off + zn * 2, none⟩)), .inl (.string (str nm)), .inl (.slice ta (Z.txts X).length tc'), .inr (IsF wr.heap.size (Fl.bits (Z.txts X) : Int) (Fl.bytes (Z.txts X))), .inr (IsFc wr.heap.size nm (Fl.bits (Z.txts X) : Int) (Fl.bytes (Z.txts X))), .inr (IsFs wr.heap.size nm (Fl.bits (Z.txts X) : Int) (Fl.bytes (Z.txts X)))] (Ex wr) Ex 102 (by kernel_rfl) rfl (by kernel_rfl) (by kernel_rfl) (by kernel_rfl) (by decide) (by kernel_rfl) ?st hre (Ex.drew _) ?goods ?fin
       case st => exact ⟨IsF.stands _ _ _, IsFc.stands _ _ _ _, IsFs.stands _ _ _ _, trivial⟩
       case goods =>
        refine Rg.goods_cons (Rg.good_field hre rfl rfl rfl (fun wx hC => by go_simp)) ?_
        refine Rg.goods_cons (Rg.good_load hre rfl rfl rfl (fun wx hC => by have hz := (HTo.out.below hC).all.2.2.2.2; go_simp)) ?_
        refine Rg.goods_cons (Rg.good_move hre rfl rfl rfl) ?_
        refine Rg.goods_cons (Rg.good_move hre rfl rfl rfl) ?_
        refine Rg.goods_cons (Rg.good_index hre rfl rfl rfl rfl (fun wx hC => by go_simp)) ?_
        refine Rg.goods_cons (Rg.good_field hre rfl rfl rfl (fun wx hC => by go_simp)) ?_
        refine Rg.goods_cons (Rg.good_load hre rfl rfl rfl (fun wx hC => by have hz := cell_ex HQ0.out hC; simp [go_sem, hz])) ?_
        refine Rg.goods_cons (Rg.good_move hre rfl rfl rfl) ?_
        refine Rg.goods_cons (Rg.good_call1 Try.func38 (by kernel_rfl) rfl rfl rfl (by rintro v0 wx hC rfl; exact fil_row ta _ tc' (Z.txts X) wx rfl (HRT.out.below hC) HTL.out.1 HTL.out.2 hC)) ?_
        refine Rg.goods_cons (good_fc rfl rfl rfl rfl) ?_
        refine Rg.goods_cons (good_fs rfl rfl rfl) ?_
        exact Rg.goods_nil
       case fin =>
        intro wx hx
        simp only [Rg.later, List.take_succ_cons, List.take_zero, List.drop_succ_cons, List.drop_zero, Act.put, List.setIfInBounds_toArray, List.set_cons_succ, List.set_cons_zero]
        rintro v96 _ v97 _ v98 ⟨g52, s52, rfl, hR52, hO52⟩
        have hbase : wG.heap.size ≤ wr.heap.size := Nat.le_trans HS4.out HX5.out.size
        have hbase2 : wG.heap.size ≤ wx.heap.size := Nat.le_trans hbase hx.size
        refine wpList_append_wide bc_len bc_one rfl (.tmp 89) (.tmp 98) 44 _ 48 rfl Try.underlying44 Try.info79 (by decide) rfl wG.heap.size (.slice ba vs5.length bcap) vs5 rfl (HBO.out.later hx) (some ⟨g52, 0, none⟩) 1 1 [⟨nm, (Fl.bits (Z.txts X) : Int), s52⟩] rfl rfl hR52 (by have := HVL.out; unfold maxLen; simp; omega) (by have := HVL.out; simp; omega) hbase2 ?_
        intro v' w7 hO7 hg7 hat7
        have hbl7 := (HBO.out.later hx).lt
        have hsg := HSG.out
        have hsz := HSZ.out
        have hX7 : Ex w w7 := Below.grown ((HX4.out.trans HX5.out).trans hx) hg7 ((HX4.out.trans HX5.out).trans hx).size (fun g hg => by have h1 := hbl7 g hg; omega)
        obtain ⟨a7, c7, rfl, _⟩ := OwnW.rd bc_len hO7
        have hlen : (vs5 ++ [(⟨nm, (Fl.bits (Z.txts X) : Int), s52⟩ : BV)]).length = vs5.length + 1 := by simp
        rw [hlen] at hO7 hat7 ⊢
        have hO8 := OutR.putB (w1s := wr.heap.size) (x := (nm, (Fl.bits (Z.txts X) : Int), Fl.bytes (Z.txts X))) (HTo.out.below hx) hsg hbase HZN.out (HZO.out.later hx) (HBO.out.later hx) (fun q e => (HZO.out.lt q e).2) (fun q e => (HBO.out.lt q e).2) HNE.out (HE.out.later hx) ⟨rfl, rfl, hO52⟩ hg7 hlen.symm hO7 hat7
        obtain ⟨w8, hw8⟩ : ∃ w8, w7.setCell ⟨g2, 4, none⟩ (.slice a7 (vs5.length + 1) c7) = w8 := ⟨_, rfl⟩
        have hneg : ∀ g, g < wG.heap.size → (Value.slice ba vs5.length bcap).ownBlock ≠ some g := fun g hg e => by have := (hbl7 g e).1; omega
        have HO8 : Hid (OutR w8 g2 wG.heap.size n T0 T1 ((cols.take (zn + 1)).map fun c => (c.nm, Z.build c.k (Pu.column R c.nm))) (Pu.bsOf R (cols.take (zn + 1)))) := (by rw [← hw8, HCK.out]; exact hO8 : OutR _ _ _ _ _ _ _ _)
        have HK8 : Hid (RdK w8 (some ⟨b, off, none⟩) cc cols) := (by
         rw [← hw8]
         refine RdW.far (RdW.far ((HK4.out.below HX5.out).below hx) hg7 ?_) (grown_set1 _ _ _ _) ?_
         ·intro _ b1 off1 e; simp only [Option.some.injEq, Addr.mk.injEq, and_true] at e; rw [← e.1]; exact hneg _ HCBr.out.1
         ·intro _ b1 off1 e; simp only [Option.some.injEq, Addr.mk.injEq, and_true] at e; rw [← e.1]; simp; exact fun e => HCBr.out.2 e.symm : RdK _ _ _ _)
        have HTz8 : Hid (TAt w8 w.heap.size TV.zero 46) := (by rw [← hw8]; exact (((HTz4.out.below HX5.out).below hx).far hg7 (hneg _ (by omega))).other (by omega) : TAt w8 _ _ _)
        have HX8 : Hid (Ex w w8) := (by rw [← hw8]; exact Below.setCell hX7 (by simp; omega) _ : Ex w w8)
        have HS8 : Hid (wG.heap.size ≤ w8.heap.size) := (by have h3 := hg7.size; rw [← hw8]; simp; omega : wG.heap.size ≤ w8.heap.size)
        have hT7 : TAt w7 g2 ⟨n, T0, T1, zz, (ba, vs5.length, bcap)⟩ 46 := (HTo.out.below hx).far hg7 (hneg _ hsg)
        have f7 := hT7.fro.2.2.2.2
        have c7' := hT7.all.2.2.2.2
        simp only at c7'
        clear hO7 hg7 hat7 hX7 hneg hT7 hbl7 hlen hO8 hR52 hO52 hx hbase hbase2 hsg hsz
        go_wp2_with fail
        go_roundw
        case rel => exact ⟨zn + 1, by omega, by go_num, HO8, HK8, HTz8, HS8, HX8⟩
        case measure => simp [intOf]; omega
    ·have tck : (ck != 2) = true := by simp [hck]
     have HCK : Hid (Pu.bsOf R (cols.take (zn + 1)) = Pu.bsOf R (cols.take zn)) := (by rw [HBX.out, if_neg hck] : _ = _)
     have HO5 : Hid (OutR w4 g2 wG.heap.size n T0 T1 ((cols.take (zn + 1)).map fun c => (c.nm, Z.build c.k (Pu.column R c.nm))) (Pu.bsOf R (cols.take (zn + 1)))) := (by rw [HCK.out]; exact HO4.out : OutR _ _ _ _ _ _ _ _)
     clear hck
     go_wp2_with fail
     go_roundw
     case rel => exact ⟨zn + 1, by omega, by go_num, HO5, HK4, HTz4, HS4, HX4⟩
     case measure => simp [intOf]; omega
  ·have hti : ¬ (i : Int) < (cols.length : Int) := by omega
   have HO2 : Hid (OutR wr g2 wG.heap.size n T0 T1 (cols.map fun c => (c.nm, Z.build c.k (Pu.column R c.nm))) (Pu.bsOf R cols)) := (by have h := HO.out; rw [List.take_of_length_le (by omega)] at h; exact h : OutR _ _ _ _ _ _ _ _)
   have hD := OutR.done (s := ⟨n, T0, T1, cols.map fun c => (c.nm, Z.build c.k (Pu.column R c.nm)), Pu.bsOf R cols⟩) (g1 := w.heap.size) HO2.out (by have := HSG.out; have := HSZ.out; omega)
   obtain ⟨⟨vr, vl, vh, ⟨za, zn, zc⟩, ⟨ba, bn, bcap⟩⟩, hT, hS⟩ := hD
   obtain ⟨z0, z1, z2, z3, z4⟩ := hT.all
   obtain ⟨y0, y1, y2, y3, y4⟩ := HTz.out.all
   obtain ⟨f0, f1, f2, f3, f4⟩ := HTz.out.fro
   simp only [TV.zero] at z0 z1 z2 z3 z4 y0 y1 y2 y3 y4
   have HST : Hid (StOk (tset wr w.heap.size ⟨vr, vl, vh, (za, zn, zc), (ba, bn, bcap)⟩) ⟨vr, vl, vh, (za, zn, zc), (ba, bn, bcap)⟩ ⟨n, T0, T1, cols.map fun c => (c.nm, Z.build c.k (Pu.column R c.nm)), Pu.bsOf R cols⟩) := hS
   clear hT hS HO HO2
   go_wp2_with fail
   have hL9 := HTz.out.store ⟨vr, vl, vh, (za, zn, zc), (ba, bn, bcap)⟩
   have hX9 := Below.tset HXr.out (Nat.le_refl w.heap.size) ⟨vr, vl, vh, (za, zn, zc), (ba, bn, bcap)⟩
   refine bodyPost_ret (v := tvv ⟨vr, vl, vh, (za, zn, zc), (ba, bn, bcap)⟩) (res_stats46 Try.results20 rfl hL9) rfl ⟨_, rfl, ?_, hX9⟩
   rw [HSO.out, HN.out]
   exact HST.out
end Go.Proofs.Ytibnhjfeepdddaa
