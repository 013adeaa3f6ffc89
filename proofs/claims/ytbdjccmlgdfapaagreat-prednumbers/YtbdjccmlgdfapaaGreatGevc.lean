/-
  What Eval answers; how a Kid is loaded. The document's own Eval: All. The document's own Eval: Any. The document's own Eval: what has no Kids and no Set.
-/
import Derived.Test.YtbdjccmlgdfapaaGreatLeval
import Derived.Test.YtbdjccmlgdfapaaGreatLkn2
import Derived.Test.YtbdjccmlgdfapaaGreatRput
import Derived.Test.YtbdjccmlgdfapaaGreatPask
namespace Go.Proofs.YtbdjccmlgdfapaaGreat
open Go.RowKit
set_option linter.unusedVariables false
set_option linter.unusedSimpArgs false
/-- What Eval answers. -/
def EvC (r : Rw) (k : Pr) : Prop := ∀ (v : PV) (rv : RV) (w : World) (o : Bool), Pd.Lay (fun _ => True) k w v → RvOk w rv r → Pd.ev r k = o → Calls Tryz.prog 20 #[pvv v, rvv rv] w fun e w' => e = .returned (.bool o) ∧ Ex w w'
set_option maxHeartbeats 1000000 in
theorem loadI_pv {w9 : World} {b off : Nat} {v : PV} (e0 : w9.cell? ⟨b, off, none⟩ = some (.int .i64 v.k)) (e1 : w9.cell? ⟨b, off + 1, none⟩ = some (.string (str v.col))) (e2 : w9.cell? ⟨b, off + 2, none⟩ = some (.int .i64 v.n)) (e3 : w9.cell? ⟨b, off + 3, none⟩ = some (.int .i64 v.m)) (e4 : w9.cell? ⟨b, off + 4, none⟩ = some (.string (str v.s))) (e5 : w9.cell? ⟨b, off + 5, none⟩ = some (.slice v.set.1 v.set.2.1 v.set.2.2)) (e6 : w9.cell? ⟨b, off + 6, none⟩ = some (.slice v.kids.1 v.kids.2.1 v.kids.2.2)) :
  (Instr.loadAt 32 (.pointer (some ⟨b, off, none⟩))).run Tryz.prog w9 = .ok (pvv v) w9 := by
 simp [go_sem, pvv, sv, e0, e1, e2, e3, e4, e5, e6]
theorem cell_ex' {w1 wx : World} {p : Addr} {v : Value} (h : w1.cell? p = some v) (hC : Ex w1 wx) : wx.cell? p = some v := by
 rw [hC.cell (World.block_lt_of_cell? w1 p h)]; exact h
/-- A Kid that can be loaded, now and later. -/
theorem kid_load {h : Hd} {l : List Pr} {w : World} {v : PV} (H : Pd.Lay (fun _ => True) (Pr.mk' h l) w v) {i : Nat} (hi : i < l.length) : ∃ b off u, v.kids.1 = some ⟨b, off, none⟩ ∧ Pd.Lay (fun _ => True) l[i] w u ∧ ∀ wx, Ex w wx → (Instr.loadAt 32 (.pointer (some ⟨b, off + i * 7, none⟩))).run Tryz.prog wx = .ok (pvv u) wx := by
 obtain ⟨b, off, u, hp, _, hL, e0, e1, e2, e3, e4, e5, e6⟩ := H.kid hi
 exact ⟨b, off, u, hp, hL, fun wx hx => loadI_pv (cell_ex' e0 hx) (cell_ex' e1 hx) (cell_ex' e2 hx) (cell_ex' e3 hx) (cell_ex' e4 hx) (cell_ex' e5 hx) (cell_ex' e6 hx)⟩
end Go.Proofs.YtbdjccmlgdfapaaGreat
namespace Go.Proofs.YtbdjccmlgdfapaaGreat
open Go.RowKit
set_option linter.unusedVariables false
set_option linter.unusedSimpArgs false
set_option maxHeartbeats 16000000 in
set_option maxRecDepth 100000 in
theorem rev_all (r : Rw) (hrs : ∀ c ∈ r.c, c.s.length ≤ maxLen) (h : Hd) (l : List Pr) (ih : ∀ k ∈ l, EvC r k) (hF : Pd.Fine (Pr.mk' h l)) (hk : h.k = 1) : EvC r (Pr.mk' h l) := by
 intro v rv w o hL hr ho
 rw [Pd.fine_mk] at hF
 obtain ⟨hFi, hl1, hFk⟩ := hF
 obtain ⟨hHd, hkn, hkB, hkc, hkm, hk0⟩ := hL.head
 obtain ⟨vk, vcol, vn, vm, vs, ⟨sa, sn, sc⟩, ⟨p, n, cap⟩⟩ := v
 obtain ⟨rt, rq, ra, rn, rc'⟩ := rv
 simp only at hkn hkB hkc hkm hk0
 subst hkn
 obtain ⟨k, col, hn', m, s, set⟩ := h
 obtain ⟨⟨hv1, hv2, hv3, hv4, hv5⟩, hsn, hB, _⟩ := hHd
 simp only at hv1 hv2 hv3 hv4 hv5 hsn hB
 subst hv1 hv2 hv3 hv4 hv5 hsn
 simp only at hk
 have HKH : Hid _ := hk
 have hrt : rt = r.t := hr.1
 have hs1 := hB.1
 have hs2 := hB.2.1
 unfold maxLen at hkm hs2
 have hc2 : vs.length ≤ 1000 := hFi.s
 rw [Pd.ev_mk] at ho
 simp only at ho
 have HO : Hid _ := ho
 have HIH : Hid (∀ k ∈ l, EvC r k) := ih
 have HLw : Hid (Pd.Lay (fun _ => True) (Pr.mk' ⟨vk, vcol, vn, vm, vs, set⟩ l) w ⟨vk, vcol, vn, vm, vs, (sa, set.length, sc), p, l.length, cap⟩) := hL
 have HRV : Hid (RvOk w ⟨rt, rq, ra, rn, rc'⟩ r) := hr
 obtain ⟨W, hW⟩ : ∃ W, (w.alloc (pb ⟨vk, vcol, vn, vm, vs, (sa, set.length, sc), p, l.length, cap⟩)).alloc (rb ⟨rt, rq, ra, rn, rc'⟩) = W := ⟨_, rfl⟩
 have e1 : Ex w (w.alloc (pb ⟨vk, vcol, vn, vm, vs, (sa, set.length, sc), p, l.length, cap⟩)) := (Below.refl _ _).alloc (Nat.le_refl _) _
 have hXW : Ex w W := by rw [← hW]; exact Below.alloc e1 (by simp) _
 have HXW : Hid (Ex w W) := hXW
 have HP : Hid (PAt W w.heap.size ⟨vk, vcol, vn, vm, vs, (sa, set.length, sc), p, l.length, cap⟩) := (by rw [← hW]; exact (PAt.new w _).alloc _ : PAt W w.heap.size _)
 have HR : Hid (LAt W (w.heap.size + 1) ⟨rt, rq, ra, rn, rc'⟩) := (by rw [← hW]; exact LAt.newat (w.alloc (pb ⟨vk, vcol, vn, vm, vs, (sa, set.length, sc), p, l.length, cap⟩)) (w.heap.size + 1) _ (by simp) : LAt W _ _)
 have HST : Hid (Rd st W sa sc set) := (hB.below hXW : Rd st W sa sc set)
 obtain ⟨⟨ec, ek, en, es⟩, hc⟩ : ∃ c, Rw.cell r.c vcol = c := ⟨_, rfl⟩
 have HCE : Hid (Rw.cell r.c vcol = ⟨ec, ek, en, es⟩) := hc
 have hesl : es.length ≤ maxLen := by have h := cell_short hrs vcol; rw [hc] at h; exact h
 obtain ⟨c0, c1, c2, c3, c4, c5, c6⟩ := HP.out.all
 obtain ⟨d0, d1, d2⟩ := HR.out.all
 simp only at c0 c1 c2 c3 c4 c5 c6 d0 d1 d2
 have HTT : Hid (rt = r.t) := hrt
 clear hL hr hFi hFk hkB hB ih e1 hXW ho hc hrs hk hrt
 unfold pvv rvv
 simp only [sv]
 go_enter Tryz.func20, Tryz.ntmps20
 go_wp2_with fail
 go_at_call 48
 refine (rcell_is ⟨rt, rq, ra, rn, rc'⟩ r vcol W (HRV.out.below HXW.out) ⟨ec, ek, en, es⟩ HCE.out).mono ?_
 rintro e w1 ⟨rfl, hx1⟩
 obtain ⟨w2, hw2⟩ : ∃ w2, w1.alloc (cb ⟨ec, ek, en, es⟩) = w2 := ⟨_, rfl⟩
 have hX2 : Ex w1 w2 := by rw [← hw2]; exact (Below.refl _ _).alloc (Nat.le_refl _) _
 have HXB : Hid (Ex W w2) := (hx1.trans hX2 : Ex W w2)
 have HE : Hid (EAt w2 w1.heap.size ⟨ec, ek, en, es⟩) := (by rw [← hw2]; exact EAt.new w1 _ : EAt _ _ _)
 have HP2 : Hid (PAt w2 w.heap.size ⟨vk, vcol, vn, vm, vs, (sa, set.length, sc), p, l.length, cap⟩) := (HP.out.below HXB.out : PAt _ _ _)
 have HR2 : Hid (LAt w2 (w.heap.size + 1) ⟨rt, rq, ra, rn, rc'⟩) := (HR.out.below HXB.out : LAt _ _ _)
 have HX2 : Hid (Ex w w2) := (HXW.out.trans HXB.out : Ex w w2)
 obtain ⟨c0', c1', c2', c3', c4', c5', c6'⟩ := HP2.out.all
 obtain ⟨d0', d1', d2'⟩ := HR2.out.all
 obtain ⟨e0, e1, e2, e3⟩ := HE.out.all
 simp only at c0' c1' c2' c3' c4' c5' c6' d0' d1' d2' e0 e1 e2 e3
 clear hx1 hX2 c0 c1 c2 c3 c4 c5 c6 d0 d1 d2
 have hk := HKH.out
 have hO := HO.out
 clear HKH HO
 simp only [cv]
 subst hk
 have HOL : Hid (l.all (Pd.ev r) = o) := (by rw [if_pos rfl] at hO; exact hO : l.all (Pd.ev r) = o)
 clear hO
 go_wp2_with fail
 go_loopw [6] (fun iv wr => ∃ i : Nat, i ≤ l.length ∧ iv = .int .i64 i ∧ Hid ((l.take i).all (Pd.ev r) = true) ∧ Hid (Ex w2 wr)) (fun iv wr => l.length - (intOf iv).toNat)
 case atStart => exact ⟨0, by omega, rfl, (by simp : (l.take 0).all (Pd.ev r) = true), (Ex.refl w2 : Ex w2 w2)⟩
 case round =>
  obtain ⟨i, hi, rfl, HA, HXr⟩ := hrel
  obtain ⟨g0, g1, g2, g3, g4, g5, g6⟩ := (HP2.out.below HXr.out).all
  simp only at g0 g1 g2 g3 g4 g5 g6
  by_cases hlt : i < l.length
  ·have hti : (i : Int) < (l.length : Int) := by omega
   obtain ⟨b, off, x, hpp, hLk, hld⟩ := kid_load (Pd.Lay.below _ HLw.out (HX2.out.trans HXr.out)) hlt
   simp only at hpp
   obtain ⟨k, hk⟩ : ∃ k, l[i] = k := ⟨_, rfl⟩
   rw [hk] at hLk
   have HKM : Hid (k ∈ l) := (by rw [← hk]; exact List.getElem_mem hlt : k ∈ l)
   have HLK : Hid (Pd.Lay (fun _ => True) k wr x) := hLk
   have HLD : Hid (∀ wx, Ex wr wx → (Instr.loadAt 32 (.pointer (some ⟨b, off + i * 7, none⟩))).run Tryz.prog wx = .ok (pvv x) wx) := hld
   have HNX : Hid ((l.take (i + 1)).all (Pd.ev r) = ((l.take i).all (Pd.ev r) && Pd.ev r k)) := (by rw [List.take_add_one, List.getElem?_eq_getElem hlt, hk]; simp : _ = _)
   subst hpp
   clear hk hLk hld
   go_wp2_with fail
   obtain ⟨f, hf⟩ : ∃ f, Pd.ev r k = f := ⟨_, rfl⟩
   have HEV : Hid (Pd.ev r k = f) := hf
   clear hf
   cases f with
   | true =>
    have hre := Ex.refl
    refine Rg.wp_rows [.inl (Value.pointer (some ⟨w.heap.size, 6, none⟩)), .inl (Value.slice (some ⟨b, off, none⟩) l.length cap), .inl (Value.int .i64 i), .inl (Value.pointer (some ⟨b, off + i * 7, none⟩)), .inl (pvv x), .inl (rvv ⟨rt, rq, ra, rn, rc'⟩), .inl (.bool true), .inl (.bool false)] (Ex wr) Ex 152 (by kernel_rfl) rfl (by kernel_rfl) ?st hre (Ex.drew _) ?goods ?fin
    case st => exact trivial
    case goods =>
     refine Rg.goods_cons (Rg.good_field hre rfl rfl rfl (fun wx hC => by go_simp)) ?_
     refine Rg.goods_cons (Rg.good_load hre rfl rfl rfl (fun wx hC => by have hz := (HP2.out.below (HXr.out.trans hC)).all.2.2.2.2.2.2; simp only at hz; go_simp)) ?_
     refine Rg.goods_cons (Rg.good_move hre rfl rfl rfl) ?_
     refine Rg.goods_cons (Rg.good_index hre rfl rfl rfl rfl (fun wx hC => by go_simp)) ?_
     refine Rg.goods_cons (Rg.good_load hre rfl rfl rfl (fun wx hC => HLD.out wx hC)) ?_
     refine Rg.goods_cons (Rg.good_load hre rfl rfl rfl (fun wx hC => rload (HR2.out.below (HXr.out.trans hC)))) ?_
     refine Rg.goods_cons (Rg.good_call2 Tryz.func20 (by kernel_rfl) rfl rfl rfl (by rintro y0 y1 wx hC rfl rfl; exact ex_rowP (HIH.out k HKM.out x _ wx true (Pd.Lay.below _ HLK.out hC) (HRV.out.below (HX2.out.trans (HXr.out.trans hC))) HEV.out) hC)) ?_
     refine Rg.goods_cons (Rg.good_un hre rfl rfl rfl (fun w => by go_simp)) ?_
     exact Rg.goods_nil
    case fin =>
     intro wx hx
     simp only [Rg.later, Act.put, List.setIfInBounds_toArray, List.set_cons_succ, List.set_cons_zero]
     have HXx : Hid (Ex w2 wx) := (HXr.out.trans hx : Ex w2 wx)
     clear hx
     have HN : Hid ((l.take (i + 1)).all (Pd.ev r) = true) := (by rw [HNX.out, HA.out, HEV.out]; rfl : _ = true)
     go_wp2_with fail
     go_roundw
     case rel => exact ⟨i + 1, by omega, by go_num, HN, HXx⟩
     case measure => simp [intOf]; omega
   | false =>
    have hre := Ex.refl
    refine Rg.wp_rows [.inl (Value.pointer (some ⟨w.heap.size, 6, none⟩)), .inl (Value.slice (some ⟨b, off, none⟩) l.length cap), .inl (Value.int .i64 i), .inl (Value.pointer (some ⟨b, off + i * 7, none⟩)), .inl (pvv x), .inl (rvv ⟨rt, rq, ra, rn, rc'⟩), .inl (.bool false), .inl (.bool true)] (Ex wr) Ex 152 (by kernel_rfl) rfl (by kernel_rfl) ?st hre (Ex.drew _) ?goods ?fin
    case st => exact trivial
    case goods =>
     refine Rg.goods_cons (Rg.good_field hre rfl rfl rfl (fun wx hC => by go_simp)) ?_
     refine Rg.goods_cons (Rg.good_load hre rfl rfl rfl (fun wx hC => by have hz := (HP2.out.below (HXr.out.trans hC)).all.2.2.2.2.2.2; simp only at hz; go_simp)) ?_
     refine Rg.goods_cons (Rg.good_move hre rfl rfl rfl) ?_
     refine Rg.goods_cons (Rg.good_index hre rfl rfl rfl rfl (fun wx hC => by go_simp)) ?_
     refine Rg.goods_cons (Rg.good_load hre rfl rfl rfl (fun wx hC => HLD.out wx hC)) ?_
     refine Rg.goods_cons (Rg.good_load hre rfl rfl rfl (fun wx hC => rload (HR2.out.below (HXr.out.trans hC)))) ?_
     refine Rg.goods_cons (Rg.good_call2 Tryz.func20 (by kernel_rfl) rfl rfl rfl (by rintro y0 y1 wx hC rfl rfl; exact ex_rowP (HIH.out k HKM.out x _ wx false (Pd.Lay.below _ HLK.out hC) (HRV.out.below (HX2.out.trans (HXr.out.trans hC))) HEV.out) hC)) ?_
     refine Rg.goods_cons (Rg.good_un hre rfl rfl rfl (fun w => by go_simp)) ?_
     exact Rg.goods_nil
    case fin =>
     intro wx hx
     simp only [Rg.later, Act.put, List.setIfInBounds_toArray, List.set_cons_succ, List.set_cons_zero]
     have HXx : Hid (Ex w2 wx) := (HXr.out.trans hx : Ex w2 wx)
     clear hx
     have HOO : Hid (o = false) := (by
      rw [← HOL.out]
      cases e : l.all (Pd.ev r) with
      | false => rfl
      | true => exact absurd (List.all_eq_true.1 e k HKM.out) (by rw [HEV.out]; simp) : o = false)
     go_wp2_with fail
     go_ret
     exact ⟨by rw [HOO.out]; rfl, HX2.out.trans HXx.out⟩
  ·have hti : ¬ (i : Int) < (l.length : Int) := by omega
   have HOO : Hid (o = true) := (by
    have h := HA.out
    rw [List.take_of_length_le (by omega), HOL.out] at h
    exact h : o = true)
   go_wp2_with fail
   go_ret
   exact ⟨by rw [HOO.out]; rfl, HX2.out.trans HXr.out⟩
end Go.Proofs.YtbdjccmlgdfapaaGreat
namespace Go.Proofs.YtbdjccmlgdfapaaGreat
open Go.RowKit
set_option linter.unusedVariables false
set_option linter.unusedSimpArgs false
set_option maxHeartbeats 16000000 in
set_option maxRecDepth 100000 in
theorem rev_any (r : Rw) (hrs : ∀ c ∈ r.c, c.s.length ≤ maxLen) (h : Hd) (l : List Pr) (ih : ∀ k ∈ l, EvC r k) (hF : Pd.Fine (Pr.mk' h l)) (hk : h.k = 2) : EvC r (Pr.mk' h l) := by
 intro v rv w o hL hr ho
 rw [Pd.fine_mk] at hF
 obtain ⟨hFi, hl1, hFk⟩ := hF
 obtain ⟨hHd, hkn, hkB, hkc, hkm, hk0⟩ := hL.head
 obtain ⟨vk, vcol, vn, vm, vs, ⟨sa, sn, sc⟩, ⟨p, n, cap⟩⟩ := v
 obtain ⟨rt, rq, ra, rn, rc'⟩ := rv
 simp only at hkn hkB hkc hkm hk0
 subst hkn
 obtain ⟨k, col, hn', m, s, set⟩ := h
 obtain ⟨⟨hv1, hv2, hv3, hv4, hv5⟩, hsn, hB, _⟩ := hHd
 simp only at hv1 hv2 hv3 hv4 hv5 hsn hB
 subst hv1 hv2 hv3 hv4 hv5 hsn
 simp only at hk
 have HKH : Hid _ := hk
 have hrt : rt = r.t := hr.1
 have hs1 := hB.1
 have hs2 := hB.2.1
 unfold maxLen at hkm hs2
 have hc2 : vs.length ≤ 1000 := hFi.s
 rw [Pd.ev_mk] at ho
 simp only at ho
 have HO : Hid _ := ho
 have HIH : Hid (∀ k ∈ l, EvC r k) := ih
 have HLw : Hid (Pd.Lay (fun _ => True) (Pr.mk' ⟨vk, vcol, vn, vm, vs, set⟩ l) w ⟨vk, vcol, vn, vm, vs, (sa, set.length, sc), p, l.length, cap⟩) := hL
 have HRV : Hid (RvOk w ⟨rt, rq, ra, rn, rc'⟩ r) := hr
 obtain ⟨W, hW⟩ : ∃ W, (w.alloc (pb ⟨vk, vcol, vn, vm, vs, (sa, set.length, sc), p, l.length, cap⟩)).alloc (rb ⟨rt, rq, ra, rn, rc'⟩) = W := ⟨_, rfl⟩
 have e1 : Ex w (w.alloc (pb ⟨vk, vcol, vn, vm, vs, (sa, set.length, sc), p, l.length, cap⟩)) := (Below.refl _ _).alloc (Nat.le_refl _) _
 have hXW : Ex w W := by rw [← hW]; exact Below.alloc e1 (by simp) _
 have HXW : Hid (Ex w W) := hXW
 have HP : Hid (PAt W w.heap.size ⟨vk, vcol, vn, vm, vs, (sa, set.length, sc), p, l.length, cap⟩) := (by rw [← hW]; exact (PAt.new w _).alloc _ : PAt W w.heap.size _)
 have HR : Hid (LAt W (w.heap.size + 1) ⟨rt, rq, ra, rn, rc'⟩) := (by rw [← hW]; exact LAt.newat (w.alloc (pb ⟨vk, vcol, vn, vm, vs, (sa, set.length, sc), p, l.length, cap⟩)) (w.heap.size + 1) _ (by simp) : LAt W _ _)
 have HST : Hid (Rd st W sa sc set) := (hB.below hXW : Rd st W sa sc set)
 obtain ⟨⟨ec, ek, en, es⟩, hc⟩ : ∃ c, Rw.cell r.c vcol = c := ⟨_, rfl⟩
 have HCE : Hid (Rw.cell r.c vcol = ⟨ec, ek, en, es⟩) := hc
 have hesl : es.length ≤ maxLen := by have h := cell_short hrs vcol; rw [hc] at h; exact h
 obtain ⟨c0, c1, c2, c3, c4, c5, c6⟩ := HP.out.all
 obtain ⟨d0, d1, d2⟩ := HR.out.all
 simp only at c0 c1 c2 c3 c4 c5 c6 d0 d1 d2
 have HTT : Hid (rt = r.t) := hrt
 clear hL hr hFi hFk hkB hB ih e1 hXW ho hc hrs hk hrt
 unfold pvv rvv
 simp only [sv]
 go_enter Tryz.func20, Tryz.ntmps20
 go_wp2_with fail
 go_at_call 48
 refine (rcell_is ⟨rt, rq, ra, rn, rc'⟩ r vcol W (HRV.out.below HXW.out) ⟨ec, ek, en, es⟩ HCE.out).mono ?_
 rintro e w1 ⟨rfl, hx1⟩
 obtain ⟨w2, hw2⟩ : ∃ w2, w1.alloc (cb ⟨ec, ek, en, es⟩) = w2 := ⟨_, rfl⟩
 have hX2 : Ex w1 w2 := by rw [← hw2]; exact (Below.refl _ _).alloc (Nat.le_refl _) _
 have HXB : Hid (Ex W w2) := (hx1.trans hX2 : Ex W w2)
 have HE : Hid (EAt w2 w1.heap.size ⟨ec, ek, en, es⟩) := (by rw [← hw2]; exact EAt.new w1 _ : EAt _ _ _)
 have HP2 : Hid (PAt w2 w.heap.size ⟨vk, vcol, vn, vm, vs, (sa, set.length, sc), p, l.length, cap⟩) := (HP.out.below HXB.out : PAt _ _ _)
 have HR2 : Hid (LAt w2 (w.heap.size + 1) ⟨rt, rq, ra, rn, rc'⟩) := (HR.out.below HXB.out : LAt _ _ _)
 have HX2 : Hid (Ex w w2) := (HXW.out.trans HXB.out : Ex w w2)
 obtain ⟨c0', c1', c2', c3', c4', c5', c6'⟩ := HP2.out.all
 obtain ⟨d0', d1', d2'⟩ := HR2.out.all
 obtain ⟨e0, e1, e2, e3⟩ := HE.out.all
 simp only at c0' c1' c2' c3' c4' c5' c6' d0' d1' d2' e0 e1 e2 e3
 clear hx1 hX2 c0 c1 c2 c3 c4 c5 c6 d0 d1 d2
 have hk := HKH.out
 have hO := HO.out
 clear HKH HO
 simp only [cv]
 subst hk
 have HOL : Hid (l.any (Pd.ev r) = o) := (by rw [if_neg (by decide), if_pos rfl] at hO; exact hO : l.any (Pd.ev r) = o)
 clear hO
 go_wp2_with fail
 go_loopw [7] (fun iv wr => ∃ i : Nat, i ≤ l.length ∧ iv = .int .i64 i ∧ Hid ((l.take i).any (Pd.ev r) = false) ∧ Hid (Ex w2 wr)) (fun iv wr => l.length - (intOf iv).toNat)
 case atStart => exact ⟨0, by omega, rfl, (by simp : (l.take 0).any (Pd.ev r) = false), (Ex.refl w2 : Ex w2 w2)⟩
 case round =>
  obtain ⟨i, hi, rfl, HA, HXr⟩ := hrel
  obtain ⟨g0, g1, g2, g3, g4, g5, g6⟩ := (HP2.out.below HXr.out).all
  simp only at g0 g1 g2 g3 g4 g5 g6
  by_cases hlt : i < l.length
  ·have hti : (i : Int) < (l.length : Int) := by omega
   obtain ⟨b, off, x, hpp, hLk, hld⟩ := kid_load (Pd.Lay.below _ HLw.out (HX2.out.trans HXr.out)) hlt
   simp only at hpp
   obtain ⟨k, hk⟩ : ∃ k, l[i] = k := ⟨_, rfl⟩
   rw [hk] at hLk
   have HKM : Hid (k ∈ l) := (by rw [← hk]; exact List.getElem_mem hlt : k ∈ l)
   have HLK : Hid (Pd.Lay (fun _ => True) k wr x) := hLk
   have HLD : Hid (∀ wx, Ex wr wx → (Instr.loadAt 32 (.pointer (some ⟨b, off + i * 7, none⟩))).run Tryz.prog wx = .ok (pvv x) wx) := hld
   have HNX : Hid ((l.take (i + 1)).any (Pd.ev r) = ((l.take i).any (Pd.ev r) || Pd.ev r k)) := (by rw [List.take_add_one, List.getElem?_eq_getElem hlt, hk]; simp : _ = _)
   subst hpp
   clear hk hLk hld
   go_wp2_with fail
   obtain ⟨f, hf⟩ : ∃ f, Pd.ev r k = f := ⟨_, rfl⟩
   have HEV : Hid (Pd.ev r k = f) := hf
   clear hf
   cases f with
   | true =>
    have hre := Ex.refl
    refine Rg.wp_rows [.inl (Value.pointer (some ⟨w.heap.size, 6, none⟩)), .inl (Value.slice (some ⟨b, off, none⟩) l.length cap), .inl (Value.int .i64 i), .inl (Value.pointer (some ⟨b, off + i * 7, none⟩)), .inl (pvv x), .inl (rvv ⟨rt, rq, ra, rn, rc'⟩), .inl (.bool true)] (Ex wr) Ex 152 (by kernel_rfl) rfl (by kernel_rfl) ?st hre (Ex.drew _) ?goods ?fin
    case st => exact trivial
    case goods =>
     refine Rg.goods_cons (Rg.good_field hre rfl rfl rfl (fun wx hC => by go_simp)) ?_
     refine Rg.goods_cons (Rg.good_load hre rfl rfl rfl (fun wx hC => by have hz := (HP2.out.below (HXr.out.trans hC)).all.2.2.2.2.2.2; simp only at hz; go_simp)) ?_
     refine Rg.goods_cons (Rg.good_move hre rfl rfl rfl) ?_
     refine Rg.goods_cons (Rg.good_index hre rfl rfl rfl rfl (fun wx hC => by go_simp)) ?_
     refine Rg.goods_cons (Rg.good_load hre rfl rfl rfl (fun wx hC => HLD.out wx hC)) ?_
     refine Rg.goods_cons (Rg.good_load hre rfl rfl rfl (fun wx hC => rload (HR2.out.below (HXr.out.trans hC)))) ?_
     refine Rg.goods_cons (Rg.good_call2 Tryz.func20 (by kernel_rfl) rfl rfl rfl (by rintro y0 y1 wx hC rfl rfl; exact ex_rowP (HIH.out k HKM.out x _ wx true (Pd.Lay.below _ HLK.out hC) (HRV.out.below (HX2.out.trans (HXr.out.trans hC))) HEV.out) hC)) ?_
     exact Rg.goods_nil
    case fin =>
     intro wx hx
     simp only [Rg.later, Act.put, List.setIfInBounds_toArray, List.set_cons_succ, List.set_cons_zero]
     have HXx : Hid (Ex w2 wx) := (HXr.out.trans hx : Ex w2 wx)
     clear hx
     have HOO : Hid (o = true) := (by
      rw [← HOL.out]
      exact List.any_eq_true.2 ⟨k, HKM.out, HEV.out⟩ : o = true)
     go_wp2_with fail
     go_ret
     exact ⟨by rw [HOO.out]; rfl, HX2.out.trans HXx.out⟩
   | false =>
    have hre := Ex.refl
    refine Rg.wp_rows [.inl (Value.pointer (some ⟨w.heap.size, 6, none⟩)), .inl (Value.slice (some ⟨b, off, none⟩) l.length cap), .inl (Value.int .i64 i), .inl (Value.pointer (some ⟨b, off + i * 7, none⟩)), .inl (pvv x), .inl (rvv ⟨rt, rq, ra, rn, rc'⟩), .inl (.bool false)] (Ex wr) Ex 152 (by kernel_rfl) rfl (by kernel_rfl) ?st hre (Ex.drew _) ?goods ?fin
    case st => exact trivial
    case goods =>
     refine Rg.goods_cons (Rg.good_field hre rfl rfl rfl (fun wx hC => by go_simp)) ?_
     refine Rg.goods_cons (Rg.good_load hre rfl rfl rfl (fun wx hC => by have hz := (HP2.out.below (HXr.out.trans hC)).all.2.2.2.2.2.2; simp only at hz; go_simp)) ?_
     refine Rg.goods_cons (Rg.good_move hre rfl rfl rfl) ?_
     refine Rg.goods_cons (Rg.good_index hre rfl rfl rfl rfl (fun wx hC => by go_simp)) ?_
     refine Rg.goods_cons (Rg.good_load hre rfl rfl rfl (fun wx hC => HLD.out wx hC)) ?_
     refine Rg.goods_cons (Rg.good_load hre rfl rfl rfl (fun wx hC => rload (HR2.out.below (HXr.out.trans hC)))) ?_
     refine Rg.goods_cons (Rg.good_call2 Tryz.func20 (by kernel_rfl) rfl rfl rfl (by rintro y0 y1 wx hC rfl rfl; exact ex_rowP (HIH.out k HKM.out x _ wx false (Pd.Lay.below _ HLK.out hC) (HRV.out.below (HX2.out.trans (HXr.out.trans hC))) HEV.out) hC)) ?_
     exact Rg.goods_nil
    case fin =>
     intro wx hx
     simp only [Rg.later, Act.put, List.setIfInBounds_toArray, List.set_cons_succ, List.set_cons_zero]
     have HXx : Hid (Ex w2 wx) := (HXr.out.trans hx : Ex w2 wx)
     clear hx
     have HN : Hid ((l.take (i + 1)).any (Pd.ev r) = false) := (by rw [HNX.out, HA.out, HEV.out]; rfl : _ = false)
     go_wp2_with fail
     go_roundw
     case rel => exact ⟨i + 1, by omega, by go_num, HN, HXx⟩
     case measure => simp [intOf]; omega
  ·have hti : ¬ (i : Int) < (l.length : Int) := by omega
   have HOO : Hid (o = false) := (by
    have h := HA.out
    rw [List.take_of_length_le (by omega), HOL.out] at h
    exact h : o = false)
   go_wp2_with fail
   go_ret
   exact ⟨by rw [HOO.out]; rfl, HX2.out.trans HXr.out⟩
end Go.Proofs.YtbdjccmlgdfapaaGreat
namespace Go.Proofs.YtbdjccmlgdfapaaGreat
open Go.RowKit
set_option linter.unusedVariables false
set_option linter.unusedSimpArgs false
set_option maxHeartbeats 16000000 in
set_option maxRecDepth 100000 in
theorem rev_leaf (r : Rw) (hrs : ∀ c ∈ r.c, c.s.length ≤ maxLen) (h : Hd) (l : List Pr) (ih : ∀ k ∈ l, EvC r k) (hF : Pd.Fine (Pr.mk' h l)) (hk : h.k = 4 ∨ h.k = 5 ∨ h.k = 6 ∨ h.k = 8 ∨ h.k = 9 ∨ h.k = 10) : EvC r (Pr.mk' h l) := by
 intro v rv w o hL hr ho
 rw [Pd.fine_mk] at hF
 obtain ⟨hFi, hl1, hFk⟩ := hF
 obtain ⟨hHd, hkn, hkB, hkc, hkm, hk0⟩ := hL.head
 obtain ⟨vk, vcol, vn, vm, vs, ⟨sa, sn, sc⟩, ⟨p, n, cap⟩⟩ := v
 obtain ⟨rt, rq, ra, rn, rc'⟩ := rv
 simp only at hkn hkB hkc hkm hk0
 subst hkn
 obtain ⟨k, col, hn', m, s, set⟩ := h
 obtain ⟨⟨hv1, hv2, hv3, hv4, hv5⟩, hsn, hB, _⟩ := hHd
 simp only at hv1 hv2 hv3 hv4 hv5 hsn hB
 subst hv1 hv2 hv3 hv4 hv5 hsn
 simp only at hk
 have HKH : Hid _ := hk
 have hrt : rt = r.t := hr.1
 have hs1 := hB.1
 have hs2 := hB.2.1
 unfold maxLen at hkm hs2
 have hc2 : vs.length ≤ 1000 := hFi.s
 rw [Pd.ev_mk] at ho
 simp only at ho
 have HO : Hid _ := ho
 have HIH : Hid (∀ k ∈ l, EvC r k) := ih
 have HLw : Hid (Pd.Lay (fun _ => True) (Pr.mk' ⟨vk, vcol, vn, vm, vs, set⟩ l) w ⟨vk, vcol, vn, vm, vs, (sa, set.length, sc), p, l.length, cap⟩) := hL
 have HRV : Hid (RvOk w ⟨rt, rq, ra, rn, rc'⟩ r) := hr
 obtain ⟨W, hW⟩ : ∃ W, (w.alloc (pb ⟨vk, vcol, vn, vm, vs, (sa, set.length, sc), p, l.length, cap⟩)).alloc (rb ⟨rt, rq, ra, rn, rc'⟩) = W := ⟨_, rfl⟩
 have e1 : Ex w (w.alloc (pb ⟨vk, vcol, vn, vm, vs, (sa, set.length, sc), p, l.length, cap⟩)) := (Below.refl _ _).alloc (Nat.le_refl _) _
 have hXW : Ex w W := by rw [← hW]; exact Below.alloc e1 (by simp) _
 have HXW : Hid (Ex w W) := hXW
 have HP : Hid (PAt W w.heap.size ⟨vk, vcol, vn, vm, vs, (sa, set.length, sc), p, l.length, cap⟩) := (by rw [← hW]; exact (PAt.new w _).alloc _ : PAt W w.heap.size _)
 have HR : Hid (LAt W (w.heap.size + 1) ⟨rt, rq, ra, rn, rc'⟩) := (by rw [← hW]; exact LAt.newat (w.alloc (pb ⟨vk, vcol, vn, vm, vs, (sa, set.length, sc), p, l.length, cap⟩)) (w.heap.size + 1) _ (by simp) : LAt W _ _)
 have HST : Hid (Rd st W sa sc set) := (hB.below hXW : Rd st W sa sc set)
 obtain ⟨⟨ec, ek, en, es⟩, hc⟩ : ∃ c, Rw.cell r.c vcol = c := ⟨_, rfl⟩
 have HCE : Hid (Rw.cell r.c vcol = ⟨ec, ek, en, es⟩) := hc
 have hesl : es.length ≤ maxLen := by have h := cell_short hrs vcol; rw [hc] at h; exact h
 obtain ⟨c0, c1, c2, c3, c4, c5, c6⟩ := HP.out.all
 obtain ⟨d0, d1, d2⟩ := HR.out.all
 simp only at c0 c1 c2 c3 c4 c5 c6 d0 d1 d2
 have HTT : Hid (rt = r.t) := hrt
 clear hL hr hFi hFk hkB hB ih e1 hXW ho hc hrs hk hrt
 unfold pvv rvv
 simp only [sv]
 go_enter Tryz.func20, Tryz.ntmps20
 go_wp2_with fail
 go_at_call 48
 refine (rcell_is ⟨rt, rq, ra, rn, rc'⟩ r vcol W (HRV.out.below HXW.out) ⟨ec, ek, en, es⟩ HCE.out).mono ?_
 rintro e w1 ⟨rfl, hx1⟩
 obtain ⟨w2, hw2⟩ : ∃ w2, w1.alloc (cb ⟨ec, ek, en, es⟩) = w2 := ⟨_, rfl⟩
 have hX2 : Ex w1 w2 := by rw [← hw2]; exact (Below.refl _ _).alloc (Nat.le_refl _) _
 have HXB : Hid (Ex W w2) := (hx1.trans hX2 : Ex W w2)
 have HE : Hid (EAt w2 w1.heap.size ⟨ec, ek, en, es⟩) := (by rw [← hw2]; exact EAt.new w1 _ : EAt _ _ _)
 have HP2 : Hid (PAt w2 w.heap.size ⟨vk, vcol, vn, vm, vs, (sa, set.length, sc), p, l.length, cap⟩) := (HP.out.below HXB.out : PAt _ _ _)
 have HR2 : Hid (LAt w2 (w.heap.size + 1) ⟨rt, rq, ra, rn, rc'⟩) := (HR.out.below HXB.out : LAt _ _ _)
 have HX2 : Hid (Ex w w2) := (HXW.out.trans HXB.out : Ex w w2)
 obtain ⟨c0', c1', c2', c3', c4', c5', c6'⟩ := HP2.out.all
 obtain ⟨d0', d1', d2'⟩ := HR2.out.all
 obtain ⟨e0, e1, e2, e3⟩ := HE.out.all
 simp only at c0' c1' c2' c3' c4' c5' c6' d0' d1' d2' e0 e1 e2 e3
 clear hx1 hX2 c0 c1 c2 c3 c4 c5 c6 d0 d1 d2
 have hk := HKH.out
 have hO := HO.out
 clear HKH HO
 simp only [cv]
 have HOL : Hid (Pd.leaf r ⟨vk, vcol, vn, vm, vs, set⟩ = o) := (by rw [if_neg (by omega), if_neg (by omega), if_neg (by omega)] at hO; exact hO : Pd.leaf r ⟨vk, vcol, vn, vm, vs, set⟩ = o)
 clear hO
 unfold Pd.leaf at HOL
 simp only [HCE.out] at HOL
 rcases hk with rfl | rfl | rfl | rfl | rfl | rfl
 ·have HQ := HOL.out
  rw [if_pos (by decide)] at HQ
  by_cases hek : ek = 1
  ·subst hek
   by_cases hx : en < vn
   ·skip
    have HOO : Hid (o = true) := (by rw [← HQ]; first | (simp [hx]; done) | (simp; done) : o = true)
    clear HQ HOL
    go_wp2_with fail
    go_ret
    exact ⟨by rw [HOO.out]; rfl, HX2.out⟩
   ·have tx : decide (en < vn) = false := decide_eq_false hx
    have HOO : Hid (o = false) := (by rw [← HQ]; simp [hx] : o = false)
    clear HQ HOL
    go_wp2_with fail
    go_ret
    exact ⟨by rw [HOO.out]; rfl, HX2.out⟩
  ·have tk : (ek == 1) = false := beq_eq_false_iff_ne.2 hek
   have HOO : Hid (o = false) := (by rw [← HQ]; simp [hek] : o = false)
   clear HQ HOL
   go_wp2_with fail
   go_ret
   exact ⟨by rw [HOO.out]; rfl, HX2.out⟩
 ·have HQ := HOL.out
  rw [if_neg (by decide), if_pos (by decide)] at HQ
  by_cases hek : ek = 1
  ·subst hek
   by_cases hx : en = vn
   ·subst hx
    have HOO : Hid (o = true) := (by rw [← HQ]; first | (simp [hx]; done) | (simp; done) : o = true)
    clear HQ HOL
    go_wp2_with fail
    go_ret
    exact ⟨by rw [HOO.out]; rfl, HX2.out⟩
   ·have tx : (en == vn) = false := beq_eq_false_iff_ne.2 hx
    have HOO : Hid (o = false) := (by rw [← HQ]; simp [hx] : o = false)
    clear HQ HOL
    go_wp2_with fail
    go_ret
    exact ⟨by rw [HOO.out]; rfl, HX2.out⟩
  ·have tk : (ek == 1) = false := beq_eq_false_iff_ne.2 hek
   have HOO : Hid (o = false) := (by rw [← HQ]; simp [hek] : o = false)
   clear HQ HOL
   go_wp2_with fail
   go_ret
   exact ⟨by rw [HOO.out]; rfl, HX2.out⟩
 ·have HQ := HOL.out
  rw [if_neg (by decide), if_neg (by decide), if_pos (by decide)] at HQ
  by_cases hek : ek = 2
  ·subst hek
   by_cases hx : es = vs
   ·subst hx
    have z1 := str_toList es
    have HOO : Hid (o = true) := (by rw [← HQ]; first | (simp [hx]; done) | (simp; done) : o = true)
    clear HQ HOL
    go_wp2_with fail
    go_ret
    exact ⟨by rw [HOO.out]; rfl, HX2.out⟩
   ·have tx : (es == vs) = false := beq_eq_false_iff_ne.2 hx
    have z1 := str_toList es
    have z2 := str_toList vs
    have HOO : Hid (o = false) := (by rw [← HQ]; simp [hx] : o = false)
    clear HQ HOL
    go_wp2_with fail
    go_ret
    exact ⟨by rw [HOO.out]; rfl, HX2.out⟩
  ·have tk : (ek == 2) = false := beq_eq_false_iff_ne.2 hek
   have HOO : Hid (o = false) := (by rw [← HQ]; simp [hek] : o = false)
   clear HQ HOL
   go_wp2_with fail
   go_ret
   exact ⟨by rw [HOO.out]; rfl, HX2.out⟩
 ·have HQ := HOL.out
  rw [if_neg (by decide), if_neg (by decide), if_neg (by decide), if_neg (by decide), if_pos (by decide)] at HQ
  by_cases hek : ek = 2
  ·subst hek
   have HOO : Hid (T.begins vs es = o) := (by rw [← HQ]; simp : T.begins vs es = o)
   clear HQ HOL
   go_wp2_with fail
   go_at_call 49
   refine (rbegins_is es vs _ hesl (by unfold maxLen; omega) o HOO.out).mono ?_
   rintro e w3 ⟨rfl, hw3⟩
   replace hw3 := hw3.symm
   subst hw3
   go_wp2_with fail
   go_ret
   exact ⟨rfl, HX2.out⟩
  ·have tk : (ek == 2) = false := beq_eq_false_iff_ne.2 hek
   have HOO : Hid (o = false) := (by rw [← HQ]; simp [hek] : o = false)
   clear HQ HOL
   go_wp2_with fail
   go_ret
   exact ⟨by rw [HOO.out]; rfl, HX2.out⟩
 ·have HQ := HOL.out
  rw [if_neg (by decide), if_neg (by decide), if_neg (by decide), if_neg (by decide), if_neg (by decide), if_pos (by decide)] at HQ
  obtain ⟨z, hz⟩ : ∃ z, (ek == 0) = z := ⟨_, rfl⟩
  have HOO : Hid (z = o) := (by rw [← HQ, ← hz]; by_cases h9 : ek = 0 <;> simp [h9] : z = o)
  clear HQ HOL
  go_wp2_with fail
  go_ret
  exact ⟨by rw [← HOO.out]; rfl, HX2.out⟩
 ·have HQ := HOL.out
  rw [if_neg (by decide), if_neg (by decide), if_neg (by decide), if_neg (by decide), if_neg (by decide), if_neg (by decide), if_pos (by decide), ← HTT.out] at HQ
  by_cases h1 : vn ≤ rt
  ·by_cases h2 : rt ≤ vm
   ·have HOO : Hid (o = true) := (by rw [← HQ]; simp [h1, h2] : o = true)
    clear HQ HOL
    go_wp2_with fail
    go_ret
    exact ⟨by rw [HOO.out]; rfl, HX2.out⟩
   ·have tx : decide (rt ≤ vm) = false := decide_eq_false h2
    have HOO : Hid (o = false) := (by rw [← HQ]; simp [h2] : o = false)
    clear HQ HOL
    go_wp2_with fail
    go_ret
    exact ⟨by rw [HOO.out]; rfl, HX2.out⟩
  ·have tx : decide (vn ≤ rt) = false := decide_eq_false h1
   have HOO : Hid (o = false) := (by rw [← HQ]; simp [h1] : o = false)
   clear HQ HOL
   go_wp2_with fail
   go_ret
   exact ⟨by rw [HOO.out]; rfl, HX2.out⟩
end Go.Proofs.YtbdjccmlgdfapaaGreat
