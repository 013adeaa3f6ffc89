/-
  The document's own Eval: Not. The document's own Eval: In. The document's own Eval: no kind. The document's own Eval.
-/
import Derived.Test.YtbdjccmlgdfapaaGreatGevc
namespace Go.Proofs.YtbdjccmlgdfapaaGreat
open Go.RowKit
set_option linter.unusedVariables false
set_option linter.unusedSimpArgs false
set_option maxHeartbeats 16000000 in
set_option maxRecDepth 100000 in
theorem rev_not (r : Rw) (hrs : ∀ c ∈ r.c, c.s.length ≤ maxLen) (h : Hd) (l : List Pr) (ih : ∀ k ∈ l, EvC r k) (hF : Pd.Fine (Pr.mk' h l)) (hk : h.k = 3) : EvC r (Pr.mk' h l) := by
 intro v rv w o hL hr ho
 rw [Pd.fine_mk] at hF
 obtain ⟨hFi, hl1, hFk⟩ := hF
 obtain ⟨hHd, hkn, hkB, hkc, hkm, hk0⟩ := hL.head
 obtain ⟨vk, vcol, vn, vm, vs, ⟨sa, sn, sc⟩, ⟨p, n, cap⟩⟩ := v
 obtain ⟨rt, rq, ra, rn, rc'⟩ := rv
 simp only at hkn hkB hkc hkm hk0
 subst hkn
 obtain ⟨k, col, hn', m, s, set⟩ := h
 obtain ⟨⟨hv1, hv2, hv3, hv4, hv5⟩, hsn, hB, _⟩ := hHd
 simp only at hv1 hv2 hv3 hv4 hv5 hsn hB
 subst hv1 hv2 hv3 hv4 hv5 hsn
 simp only at hk
 have HKH : Hid _ := hk
 have hrt : rt = r.t := hr.1
 have hs1 := hB.1
 have hs2 := hB.2.1
 unfold maxLen at hkm hs2
 have hc2 : vs.length ≤ 1000 := hFi.s
 rw [Pd.ev_mk] at ho
 simp only at ho
 have HO : Hid _ := ho
 have HIH : Hid (∀ k ∈ l, EvC r k) := ih
 have HLw : Hid (Pd.Lay (fun _ => True) (Pr.mk' ⟨vk, vcol, vn, vm, vs, set⟩ l) w ⟨vk, vcol, vn, vm, vs, (sa, set.length, sc), p, l.length, cap⟩) := hL
 have HRV : Hid (RvOk w ⟨rt, rq, ra, rn, rc'⟩ r) := hr
 obtain ⟨W, hW⟩ : ∃ W, (w.alloc (pb ⟨vk, vcol, vn, vm, vs, (sa, set.length, sc), p, l.length, cap⟩)).alloc (rb ⟨rt, rq, ra, rn, rc'⟩) = W := ⟨_, rfl⟩
 have e1 : Ex w (w.alloc (pb ⟨vk, vcol, vn, vm, vs, (sa, set.length, sc), p, l.length, cap⟩)) := (Below.refl _ _).alloc (Nat.le_refl _) _
 have hXW : Ex w W := by rw [← hW]; exact Below.alloc e1 (by simp) _
 have HXW : Hid (Ex w W) := hXW
 have HP : Hid (PAt W w.heap.size ⟨vk, vcol, vn, vm, vs, (sa, set.length, sc), p, l.length, cap⟩) := (by rw [← hW]; exact (PAt.new w _).alloc _ : PAt W w.heap.size _)
 have HR : Hid (LAt W (w.heap.size + 1) ⟨rt, rq, ra, rn, rc'⟩) := (by rw [← hW]; exact LAt.newat (w.alloc (pb ⟨vk, vcol, vn, vm, vs, (sa, set.length, sc), p, l.length, cap⟩)) (w.heap.size + 1) _ (by simp) : LAt W _ _)
 have HST : Hid (Rd st W sa sc set) := (hB.below hXW : Rd st W sa sc set)
 obtain ⟨⟨ec, ek, en, es⟩, hc⟩ : ∃ c, Rw.cell r.c vcol = c := ⟨_, rfl⟩
 have HCE : Hid (Rw.cell r.c vcol = ⟨ec, ek, en, es⟩) := hc
 have hesl : es.length ≤ maxLen := by have h := cell_short hrs vcol; rw [hc] at h; exact h
 obtain ⟨c0, c1, c2, c3, c4, c5, c6⟩ := HP.out.all
 obtain ⟨d0, d1, d2⟩ := HR.out.all
 simp only at c0 c1 c2 c3 c4 c5 c6 d0 d1 d2
 have HTT : Hid (rt = r.t) := hrt
 clear hL hr hFi hFk hkB hB ih e1 hXW ho hc hrs hk hrt
 unfold pvv rvv
 simp only [sv]
 go_enter Tryz.func20, Tryz.ntmps20
 go_wp2_with fail
 go_at_call 48
 refine (rcell_is ⟨rt, rq, ra, rn, rc'⟩ r vcol W (HRV.out.below HXW.out) ⟨ec, ek, en, es⟩ HCE.out).mono ?_
 rintro e w1 ⟨rfl, hx1⟩
 obtain ⟨w2, hw2⟩ : ∃ w2, w1.alloc (cb ⟨ec, ek, en, es⟩) = w2 := ⟨_, rfl⟩
 have hX2 : Ex w1 w2 := by rw [← hw2]; exact (Below.refl _ _).alloc (Nat.le_refl _) _
 have HXB : Hid (Ex W w2) := (hx1.trans hX2 : Ex W w2)
 have HE : Hid (EAt w2 w1.heap.size ⟨ec, ek, en, es⟩) := (by rw [← hw2]; exact EAt.new w1 _ : EAt _ _ _)
 have HP2 : Hid (PAt w2 w.heap.size ⟨vk, vcol, vn, vm, vs, (sa, set.length, sc), p, l.length, cap⟩) := (HP.out.below HXB.out : PAt _ _ _)
 have HR2 : Hid (LAt w2 (w.heap.size + 1) ⟨rt, rq, ra, rn, rc'⟩) := (HR.out.below HXB.out : LAt _ _ _)
 have HX2 : Hid (Ex w w2) := (HXW.out.trans HXB.out : Ex w w2)
 obtain ⟨c0', c1', c2', c3', c4', c5', c6'⟩ := HP2.out.all
 obtain ⟨d0', d1', d2'⟩ := HR2.out.all
 obtain ⟨e0, e1, e2, e3⟩ := HE.out.all
 simp only at c0' c1' c2' c3' c4' c5' c6' d0' d1' d2' e0 e1 e2 e3
 clear hx1 hX2 c0 c1 c2 c3 c4 c5 c6 d0 d1 d2
 have hk := HKH.out
 have hO := HO.out
 clear HKH HO
 simp only [cv]
 subst hk
 have HOL : Hid (Pd.notB (l.map (Pd.ev r)) = o) := (by rw [if_neg (by decide), if_neg (by decide), if_pos rfl] at hO; exact hO : Pd.notB (l.map (Pd.ev r)) = o)
 clear hO
 have hre := Ex.refl
 cases l with
 | nil =>
  have HOO : Hid (o = false) := (by rw [← HOL.out]; rfl : o = false)
  go_wp2_with fail
  refine Rg.wp_rows [.inl (Value.pointer (some ⟨w.heap.size, 6, none⟩)), .inl (Value.slice p 0 cap), .inl (Value.int .i64 0), .inl (.bool false), .inl (.bool false), .inl undef, .inl undef, .inl undef, .inl undef, .inl undef, .inl undef, .inl undef, .inl (.bool false), .inl (.bool false)] (Ex w2) Ex 152 (by kernel_rfl) rfl (by kernel_rfl) ?st hre (Ex.drew _) ?goods ?fin
  case st => exact trivial
  case goods =>
   refine Rg.goods_cons (Rg.good_field hre rfl rfl rfl (fun wx hC => by go_simp)) ?_
   refine Rg.goods_cons (Rg.good_load hre rfl rfl rfl (fun wx hC => by have hz := (HP2.out.below hC).all.2.2.2.2.2.2; simp only [List.length_nil] at hz; go_simp)) ?_
   refine Rg.goods_cons (Rg.good_len hre rfl rfl (by rintro u wx hC rfl; go_simp)) ?_
   refine Rg.goods_cons (Rg.good_bin hre rfl rfl rfl rfl (fun _ => rfl) (fun w => by go_simp)) ?_
   refine Rg.goods_cons (Rg.good_move hre rfl rfl rfl) ?_
   refine Rg.goods_cons (Rg.good_skip rfl) ?_
   refine Rg.goods_cons (Rg.good_skip rfl) ?_
   refine Rg.goods_cons (Rg.good_skip rfl) ?_
   refine Rg.goods_cons (Rg.good_skip rfl) ?_
   refine Rg.goods_cons (Rg.good_skip rfl) ?_
   refine Rg.goods_cons (Rg.good_skip rfl) ?_
   refine Rg.goods_cons (Rg.good_skip rfl) ?_
   refine Rg.goods_cons (Rg.good_pick false hre rfl rfl rfl rfl) ?_
   refine Rg.goods_cons (Rg.good_assign hre rfl rfl rfl) ?_
   exact Rg.goods_nil
  case fin =>
   intro wx hx
   simp only [Rg.later, Act.put, List.setIfInBounds_toArray, List.set_cons_succ, List.set_cons_zero]
   have HXx : Hid (Ex w wx) := (HX2.out.trans hx : Ex w wx)
   clear hx
   go_wp2_with fail
   go_ret
   exact ⟨by rw [HOO.out]; rfl, HXx.out⟩
 | cons k t =>
  obtain ⟨b, off, x, hpp, hLk, hld⟩ := kid_load (i := 0) (Pd.Lay.below _ HLw.out HX2.out) (by simp)
  simp only [Nat.zero_mul, Nat.add_zero, List.getElem_cons_zero] at hpp hLk hld
  obtain ⟨f, hf⟩ : ∃ f, Pd.ev r k = f := ⟨_, rfl⟩
  have HEV : Hid (Pd.ev r k = f) := hf
  have HOO : Hid (o = !f) := (by rw [← HOL.out, ← hf]; rfl : o = !f)
  have HLK : Hid (Pd.Lay (fun _ => True) k w2 x) := hLk
  have HLD : Hid (∀ wx, Ex w2 wx → (Instr.loadAt 32 (.pointer (some ⟨b, off, none⟩))).run Tryz.prog wx = .ok (pvv x) wx) := hld
  subst hpp
  obtain ⟨n, hn⟩ : ∃ n, (k :: t).length = n := ⟨_, rfl⟩
  have hn0 : 0 < n := by rw [← hn]; simp
  have hni : (0 : Int) < (n : Int) := by omega
  rw [hn] at HP2 c6' hl1 hkc
  clear hf hLk hld hn
  go_wp2_with fail
  refine Rg.wp_rows [.inl (Value.pointer (some ⟨w.heap.size, 6, none⟩)), .inl (Value.slice (some ⟨b, off, none⟩) n cap), .inl (Value.int .i64 (n : Int)), .inl (.bool true), .inl (.bool true), .inl (Value.pointer (some ⟨w.heap.size, 6, none⟩)), .inl (Value.slice (some ⟨b, off, none⟩) n cap), .inl (Value.pointer (some ⟨b, off, none⟩)), .inl (pvv x), .inl (rvv ⟨rt, rq, ra, rn, rc'⟩), .inl (.bool f), .inl (.bool (!f)), .inl (.bool (!f)), .inl (.bool (!f))] (Ex w2) Ex 152 (by kernel_rfl) rfl (by kernel_rfl) ?st hre (Ex.drew _) ?goods ?fin
  case st => exact trivial
  case goods =>
   refine Rg.goods_cons (Rg.good_field hre rfl rfl rfl (fun wx hC => by go_simp)) ?_
   refine Rg.goods_cons (Rg.good_load hre rfl rfl rfl (fun wx hC => by have hz := (HP2.out.below hC).all.2.2.2.2.2.2; simp only at hz; go_simp)) ?_
   refine Rg.goods_cons (Rg.good_len hre rfl rfl (by rintro u wx hC rfl; go_simp)) ?_
   refine Rg.goods_cons (Rg.good_bin hre rfl rfl rfl rfl (fun _ => rfl) (fun w => by go_simp)) ?_
   refine Rg.goods_cons (Rg.good_move hre rfl rfl rfl) ?_
   refine Rg.goods_cons (Rg.good_field hre rfl rfl rfl (fun wx hC => by go_simp)) ?_
   refine Rg.goods_cons (Rg.good_load hre rfl rfl rfl (fun wx hC => by have hz := (HP2.out.below hC).all.2.2.2.2.2.2; simp only at hz; go_simp)) ?_
   refine Rg.goods_cons (Rg.good_index hre rfl rfl rfl rfl (fun wx hC => by go_simp)) ?_
   refine Rg.goods_cons (Rg.good_load hre rfl rfl rfl (fun wx hC => HLD.out wx hC)) ?_
   refine Rg.goods_cons (Rg.good_load hre rfl rfl rfl (fun wx hC => rload (HR2.out.below hC))) ?_
   refine Rg.goods_cons (Rg.good_call2 Tryz.func20 (by kernel_rfl) rfl rfl rfl (by rintro y0 y1 wx hC rfl rfl; exact ex_rowP (HIH.out k (by simp) x _ wx f (Pd.Lay.below _ HLK.out hC) (HRV.out.below (HX2.out.trans hC)) HEV.out) hC)) ?_
   refine Rg.goods_cons (Rg.good_un hre rfl rfl rfl (fun w => by go_simp)) ?_
   refine Rg.goods_cons (Rg.good_pick true hre rfl rfl rfl rfl) ?_
   refine Rg.goods_cons (Rg.good_assign hre rfl rfl rfl) ?_
   exact Rg.goods_nil
  case fin =>
   intro wx hx
   simp only [Rg.later, Act.put, List.setIfInBounds_toArray, List.set_cons_succ, List.set_cons_zero]
   have HXx : Hid (Ex w wx) := (HX2.out.trans hx : Ex w wx)
   clear hx
   go_wp2_with fail
   go_ret
   exact ⟨by rw [HOO.out]; rfl, HXx.out⟩
end Go.Proofs.YtbdjccmlgdfapaaGreat
namespace Go.Proofs.YtbdjccmlgdfapaaGreat
open Go.RowKit
set_option linter.unusedVariables false
set_option linter.unusedSimpArgs false
set_option maxHeartbeats 16000000 in
set_option maxRecDepth 100000 in
theorem rev_in (r : Rw) (hrs : ∀ c ∈ r.c, c.s.length ≤ maxLen) (h : Hd) (l : List Pr) (ih : ∀ k ∈ l, EvC r k) (hF : Pd.Fine (Pr.mk' h l)) (hk : h.k = 7) : EvC r (Pr.mk' h l) := by
 intro v rv w o hL hr ho
 rw [Pd.fine_mk] at hF
 obtain ⟨hFi, hl1, hFk⟩ := hF
 obtain ⟨hHd, hkn, hkB, hkc, hkm, hk0⟩ := hL.head
 obtain ⟨vk, vcol, vn, vm, vs, ⟨sa, sn, sc⟩, ⟨p, n, cap⟩⟩ := v
 obtain ⟨rt, rq, ra, rn, rc'⟩ := rv
 simp only at hkn hkB hkc hkm hk0
 subst hkn
 obtain ⟨k, col, hn', m, s, set⟩ := h
 obtain ⟨⟨hv1, hv2, hv3, hv4, hv5⟩, hsn, hB, _⟩ := hHd
 simp only at hv1 hv2 hv3 hv4 hv5 hsn hB
 subst hv1 hv2 hv3 hv4 hv5 hsn
 simp only at hk
 have HKH : Hid _ := hk
 have hrt : rt = r.t := hr.1
 have hs1 := hB.1
 have hs2 := hB.2.1
 unfold maxLen at hkm hs2
 have hc2 : vs.length ≤ 1000 := hFi.s
 rw [Pd.ev_mk] at ho
 simp only at ho
 have HO : Hid _ := ho
 have HIH : Hid (∀ k ∈ l, EvC r k) := ih
 have HLw : Hid (Pd.Lay (fun _ => True) (Pr.mk' ⟨vk, vcol, vn, vm, vs, set⟩ l) w ⟨vk, vcol, vn, vm, vs, (sa, set.length, sc), p, l.length, cap⟩) := hL
 have HRV : Hid (RvOk w ⟨rt, rq, ra, rn, rc'⟩ r) := hr
 obtain ⟨W, hW⟩ : ∃ W, (w.alloc (pb ⟨vk, vcol, vn, vm, vs, (sa, set.length, sc), p, l.length, cap⟩)).alloc (rb ⟨rt, rq, ra, rn, rc'⟩) = W := ⟨_, rfl⟩
 have e1 : Ex w (w.alloc (pb ⟨vk, vcol, vn, vm, vs, (sa, set.length, sc), p, l.length, cap⟩)) := (Below.refl _ _).alloc (Nat.le_refl _) _
 have hXW : Ex w W := by rw [← hW]; exact Below.alloc e1 (by simp) _
 have HXW : Hid (Ex w W) := hXW
 have HP : Hid (PAt W w.heap.size ⟨vk, vcol, vn, vm, vs, (sa, set.length, sc), p, l.length, cap⟩) := (by rw [← hW]; exact (PAt.new w _).alloc _ : PAt W w.heap.size _)
 have HR : Hid (LAt W (w.heap.size + 1) ⟨rt, rq, ra, rn, rc'⟩) := (by rw [← hW]; exact LAt.newat (w.alloc (pb ⟨vk, vcol, vn, vm, vs, (sa, set.length, sc), p, l.length, cap⟩)) (w.heap.size + 1) _ (by simp) : LAt W _ _)
 have HST : Hid (Rd st W sa sc set) := (hB.below hXW : Rd st W sa sc set)
 obtain ⟨⟨ec, ek, en, es⟩, hc⟩ : ∃ c, Rw.cell r.c vcol = c := ⟨_, rfl⟩
 have HCE : Hid (Rw.cell r.c vcol = ⟨ec, ek, en, es⟩) := hc
 have hesl : es.length ≤ maxLen := by have h := cell_short hrs vcol; rw [hc] at h; exact h
 obtain ⟨c0, c1, c2, c3, c4, c5, c6⟩ := HP.out.all
 obtain ⟨d0, d1, d2⟩ := HR.out.all
 simp only at c0 c1 c2 c3 c4 c5 c6 d0 d1 d2
 have HTT : Hid (rt = r.t) := hrt
 clear hL hr hFi hFk hkB hB ih e1 hXW ho hc hrs hk hrt
 unfold pvv rvv
 simp only [sv]
 go_enter Tryz.func20, Tryz.ntmps20
 go_wp2_with fail
 go_at_call 48
 refine (rcell_is ⟨rt, rq, ra, rn, rc'⟩ r vcol W (HRV.out.below HXW.out) ⟨ec, ek, en, es⟩ HCE.out).mono ?_
 rintro e w1 ⟨rfl, hx1⟩
 obtain ⟨w2, hw2⟩ : ∃ w2, w1.alloc (cb ⟨ec, ek, en, es⟩) = w2 := ⟨_, rfl⟩
 have hX2 : Ex w1 w2 := by rw [← hw2]; exact (Below.refl _ _).alloc (Nat.le_refl _) _
 have HXB : Hid (Ex W w2) := (hx1.trans hX2 : Ex W w2)
 have HE : Hid (EAt w2 w1.heap.size ⟨ec, ek, en, es⟩) := (by rw [← hw2]; exact EAt.new w1 _ : EAt _ _ _)
 have HP2 : Hid (PAt w2 w.heap.size ⟨vk, vcol, vn, vm, vs, (sa, set.length, sc), p, l.length, cap⟩) := (HP.out.below HXB.out : PAt _ _ _)
 have HR2 : Hid (LAt w2 (w.heap.size + 1) ⟨rt, rq, ra, rn, rc'⟩) := (HR.out.below HXB.out : LAt _ _ _)
 have HX2 : Hid (Ex w w2) := (HXW.out.trans HXB.out : Ex w w2)
 obtain ⟨c0', c1', c2', c3', c4', c5', c6'⟩ := HP2.out.all
 obtain ⟨d0', d1', d2'⟩ := HR2.out.all
 obtain ⟨e0, e1, e2, e3⟩ := HE.out.all
 simp only at c0' c1' c2' c3' c4' c5' c6' d0' d1' d2' e0 e1 e2 e3
 clear hx1 hX2 c0 c1 c2 c3 c4 c5 c6 d0 d1 d2
 have hk := HKH.out
 have hO := HO.out
 clear HKH HO
 simp only [cv]
 subst hk
 have HOL : Hid (decide (ek = 2 ∧ es ∈ set) = o) := (by
  rw [if_neg (by decide), if_neg (by decide), if_neg (by decide)] at hO
  unfold Pd.leaf at hO
  simp only [HCE.out] at hO
  rw [if_neg (by decide), if_neg (by decide), if_neg (by decide), if_pos (by decide)] at hO
  exact hO : decide (ek = 2 ∧ es ∈ set) = o)
 clear hO
 have hre := Ex.refl
 go_wp2_with fail
 go_loopw [8] (fun iv wr => ∃ i : Nat, i ≤ set.length ∧ iv = .int .i64 i ∧ Hid ((decide (ek = 2) && decide (es ∈ set.take i)) = false) ∧ Hid (Ex w2 wr)) (fun iv wr => set.length - (intOf iv).toNat)
 case atStart => exact ⟨0, by omega, rfl, (by simp : (decide (ek = 2) && decide (es ∈ set.take 0)) = false), (Ex.refl w2 : Ex w2 w2)⟩
 case round =>
  obtain ⟨i, hi, rfl, HA, HXr⟩ := hrel
  obtain ⟨g0, g1, g2, g3, g4, g5, g6⟩ := (HP2.out.below HXr.out).all
  simp only at g0 g1 g2 g3 g4 g5 g6
  by_cases hlt : i < set.length
  ·have hti : (i : Int) < (set.length : Int) := by omega
   obtain ⟨x, hx⟩ : ∃ x, set[i] = x := ⟨_, rfl⟩
   obtain ⟨b, off, hpp, hx0⟩ := (HST.out.below (HXB.out.trans HXr.out)).at hlt
   rw [hx] at hx0
   have HX0 : Hid (wr.cell? ⟨b, off + i, none⟩ = some (.string (str x))) := hx0
   have HXM : Hid (x ∈ set) := (by rw [← hx]; exact List.getElem_mem hlt : x ∈ set)
   have hmem : es ∈ set.take (i + 1) ↔ es ∈ set.take i ∨ es = x := by rw [List.take_add_one, List.getElem?_eq_getElem hlt, hx]; simp
   have HMM : Hid (es ∈ set.take (i + 1) ↔ es ∈ set.take i ∨ es = x) := hmem
   subst hpp
   clear hx hx0 hmem
   go_wp2_with fail
   by_cases hek : ek = 2
   ·subst hek
    by_cases hxe : es = x
    ·have HXM' := HXM.out
     rw [← hxe] at HXM'
     replace HXM : Hid (es ∈ set) := HXM'
     refine Rg.wp_rows [.inl (Value.pointer (some ⟨w1.heap.size, 1, none⟩)), .inl (Value.int .i64 2), .inl (.bool true), .inl (.bool true), .inl (Value.pointer (some ⟨w1.heap.size, 3, none⟩)), .inl (Value.string (str es)), .inl (Value.pointer (some ⟨w.heap.size, 5, none⟩)), .inl (Value.slice (some ⟨b, off, none⟩) set.length sc), .inl (Value.int .i64 i), .inl (Value.pointer (some ⟨b, off + i, none⟩)), .inl (Value.string (str x)), .inl (.bool true), .inl (.bool true)] (Ex wr) Ex 152 (by kernel_rfl) rfl (by kernel_rfl) ?st hre (Ex.drew _) ?goods ?fin
     case st => exact trivial
     case goods =>
      refine Rg.goods_cons (Rg.good_field hre rfl rfl rfl (fun wx hC => by go_simp)) ?_
      refine Rg.goods_cons (Rg.good_load hre rfl rfl rfl (fun wx hC => by have hz := (HE.out.below (HXr.out.trans hC)).all.2.1; simp only at hz; go_simp)) ?_
      refine Rg.goods_cons (Rg.good_bin hre rfl rfl rfl rfl (fun _ => rfl) (fun w => by go_simp)) ?_
      refine Rg.goods_cons (Rg.good_move hre rfl rfl rfl) ?_
      refine Rg.goods_cons (Rg.good_field hre rfl rfl rfl (fun wx hC => by go_simp)) ?_
      refine Rg.goods_cons (Rg.good_load hre rfl rfl rfl (fun wx hC => by have hz := (HE.out.below (HXr.out.trans hC)).all.2.2.2; simp only at hz; go_simp)) ?_
      refine Rg.goods_cons (Rg.good_field hre rfl rfl rfl (fun wx hC => by go_simp)) ?_
      refine Rg.goods_cons (Rg.good_load hre rfl rfl rfl (fun wx hC => by have hz := (HP2.out.below (HXr.out.trans hC)).all.2.2.2.2.2.1; simp only at hz; go_simp)) ?_
      refine Rg.goods_cons (Rg.good_move hre rfl rfl rfl) ?_
      refine Rg.goods_cons (Rg.good_index hre rfl rfl rfl rfl (fun wx hC => by go_simp)) ?_
      refine Rg.goods_cons (Rg.good_load hre rfl rfl rfl (fun wx hC => by have hz := cell_ex' HX0.out hC; go_simp)) ?_
      refine Rg.goods_cons (Rg.good_bin hre rfl rfl rfl rfl (fun _ => rfl) (fun w => by subst hxe; go_simp)) ?_
      refine Rg.goods_cons (Rg.good_pick true hre rfl rfl rfl rfl) ?_
      exact Rg.goods_nil
     case fin =>
      intro wx hx
      simp only [Rg.later, Act.put, List.setIfInBounds_toArray, List.set_cons_succ, List.set_cons_zero]
      have HXx : Hid (Ex w2 wx) := (HXr.out.trans hx : Ex w2 wx)
      clear hx
      have HOO : Hid (o = true) := (by rw [← HOL.out]; simp only [decide_eq_true_eq]; exact ⟨trivial, HXM.out⟩ : o = true)
      go_wp2_with fail
      go_ret
      exact ⟨by rw [HOO.out]; rfl, HX2.out.trans HXx.out⟩
    ·have HNX : Hid (decide (es ∈ set.take (i + 1)) = decide (es ∈ set.take i)) := (by congr 1; exact propext ⟨fun h => (HMM.out.1 h).elim id (fun e => absurd e hxe), fun h => HMM.out.2 (.inl h)⟩ : _ = _)
     have HA2 := HA.out
     refine Rg.wp_rows [.inl (Value.pointer (some ⟨w1.heap.size, 1, none⟩)), .inl (Value.int .i64 2), .inl (.bool true), .inl (.bool true), .inl (Value.pointer (some ⟨w1.heap.size, 3, none⟩)), .inl (Value.string (str es)), .inl (Value.pointer (some ⟨w.heap.size, 5, none⟩)), .inl (Value.slice (some ⟨b, off, none⟩) set.length sc), .inl (Value.int .i64 i), .inl (Value.pointer (some ⟨b, off + i, none⟩)), .inl (Value.string (str x)), .inl (.bool false), .inl (.bool false)] (Ex wr) Ex 152 (by kernel_rfl) rfl (by kernel_rfl) ?st hre (Ex.drew _) ?goods ?fin
     case st => exact trivial
     case goods =>
      refine Rg.goods_cons (Rg.good_field hre rfl rfl rfl (fun wx hC => by go_simp)) ?_
      refine Rg.goods_cons (Rg.good_load hre rfl rfl rfl (fun wx hC => by have hz := (HE.out.below (HXr.out.trans hC)).all.2.1; simp only at hz; go_simp)) ?_
      refine Rg.goods_cons (Rg.good_bin hre rfl rfl rfl rfl (fun _ => rfl) (fun w => by go_simp)) ?_
      refine Rg.goods_cons (Rg.good_move hre rfl rfl rfl) ?_
      refine Rg.goods_cons (Rg.good_field hre rfl rfl rfl (fun wx hC => by go_simp)) ?_
      refine Rg.goods_cons (Rg.good_load hre rfl rfl rfl (fun wx hC => by have hz := (HE.out.below (HXr.out.trans hC)).all.2.2.2; simp only at hz; go_simp)) ?_
      refine Rg.goods_cons (Rg.good_field hre rfl rfl rfl (fun wx hC => by go_simp)) ?_
      refine Rg.goods_cons (Rg.good_load hre rfl rfl rfl (fun wx hC => by have hz := (HP2.out.below (HXr.out.trans hC)).all.2.2.2.2.2.1; simp only at hz; go_simp)) ?_
      refine Rg.goods_cons (Rg.good_move hre rfl rfl rfl) ?_
      refine Rg.goods_cons (Rg.good_index hre rfl rfl rfl rfl (fun wx hC => by go_simp)) ?_
      refine Rg.goods_cons (Rg.good_load hre rfl rfl rfl (fun wx hC => by have hz := cell_ex' HX0.out hC; go_simp)) ?_
      refine Rg.goods_cons (Rg.good_bin hre rfl rfl rfl rfl (fun _ => rfl) (fun w => by go_simp; rw [str_toList, str_toList]; exact hxe)) ?_
      refine Rg.goods_cons (Rg.good_pick true hre rfl rfl rfl rfl) ?_
      exact Rg.goods_nil
     case fin =>
      intro wx hx
      simp only [Rg.later, Act.put, List.setIfInBounds_toArray, List.set_cons_succ, List.set_cons_zero]
      have HXx : Hid (Ex w2 wx) := (HXr.out.trans hx : Ex w2 wx)
      clear hx
      have HN : Hid ((decide ((2 : Int) = 2) && decide (es ∈ set.take (i + 1))) = false) := (by rw [HNX.out]; exact HA2 : _ = false)
      go_wp2_with fail
      go_roundw
      case rel => exact ⟨i + 1, by omega, by go_num, HN, HXx⟩
      case measure => simp [intOf]; omega
   ·have tk : (ek == 2) = false := beq_eq_false_iff_ne.2 hek
    refine Rg.wp_rows [.inl (Value.pointer (some ⟨w1.heap.size, 1, none⟩)), .inl (Value.int .i64 ek), .inl (.bool false), .inl (.bool false), .inl undef, .inl undef, .inl undef, .inl undef, .inl undef, .inl undef, .inl undef, .inl undef, .inl (.bool false)] (Ex wr) Ex 152 (by kernel_rfl) rfl (by kernel_rfl) ?st hre (Ex.drew _) ?goods ?fin
    case st => exact trivial
    case goods =>
     refine Rg.goods_cons (Rg.good_field hre rfl rfl rfl (fun wx hC => by go_simp)) ?_
     refine Rg.goods_cons (Rg.good_load hre rfl rfl rfl (fun wx hC => by have hz := (HE.out.below (HXr.out.trans hC)).all.2.1; simp only at hz; go_simp)) ?_
     refine Rg.goods_cons (Rg.good_bin hre rfl rfl rfl rfl (fun _ => rfl) (fun w => by go_simp)) ?_
     refine Rg.goods_cons (Rg.good_move hre rfl rfl rfl) ?_
     refine Rg.goods_cons (Rg.good_skip rfl) ?_
     refine Rg.goods_cons (Rg.good_skip rfl) ?_
     refine Rg.goods_cons (Rg.good_skip rfl) ?_
     refine Rg.goods_cons (Rg.good_skip rfl) ?_
     refine Rg.goods_cons (Rg.good_skip rfl) ?_
     refine Rg.goods_cons (Rg.good_skip rfl) ?_
     refine Rg.goods_cons (Rg.good_skip rfl) ?_
     refine Rg.goods_cons (Rg.good_skip rfl) ?_
     refine Rg.goods_cons (Rg.good_pick false hre rfl rfl rfl rfl) ?_
     exact Rg.goods_nil
    case fin =>
     intro wx hx
     simp only [Rg.later, Act.put, List.setIfInBounds_toArray, List.set_cons_succ, List.set_cons_zero]
     have HXx : Hid (Ex w2 wx) := (HXr.out.trans hx : Ex w2 wx)
     clear hx
     have HN : Hid ((decide (ek = 2) && decide (es ∈ set.take (i + 1))) = false) := (by simp [hek] : _ = false)
     go_wp2_with fail
     go_roundw
     case rel => exact ⟨i + 1, by omega, by go_num, HN, HXx⟩
     case measure => simp [intOf]; omega
  ·have hti : ¬ (i : Int) < (set.length : Int) := by omega
   have HOO : Hid (o = false) := (by
    have h := HA.out
    rw [List.take_of_length_le (by omega)] at h
    rw [← HOL.out]
    simpa using h : o = false)
   go_wp2_with fail
   go_ret
   exact ⟨by rw [HOO.out]; rfl, HX2.out.trans HXr.out⟩
end Go.Proofs.YtbdjccmlgdfapaaGreat
namespace Go.Proofs.YtbdjccmlgdfapaaGreat
open Go.RowKit
set_option linter.unusedVariables false
set_option linter.unusedSimpArgs false
set_option maxHeartbeats 16000000 in
set_option maxRecDepth 100000 in
theorem rev_none (r : Rw) (hrs : ∀ c ∈ r.c, c.s.length ≤ maxLen) (h : Hd) (l : List Pr) (ih : ∀ k ∈ l, EvC r k) (hF : Pd.Fine (Pr.mk' h l)) (hk : h.k < 1 ∨ 10 < h.k) : EvC r (Pr.mk' h l) := by
 intro v rv w o hL hr ho
 rw [Pd.fine_mk] at hF
 obtain ⟨hFi, hl1, hFk⟩ := hF
 obtain ⟨hHd, hkn, hkB, hkc, hkm, hk0⟩ := hL.head
 obtain ⟨vk, vcol, vn, vm, vs, ⟨sa, sn, sc⟩, ⟨p, n, cap⟩⟩ := v
 obtain ⟨rt, rq, ra, rn, rc'⟩ := rv
 simp only at hkn hkB hkc hkm hk0
 subst hkn
 obtain ⟨k, col, hn', m, s, set⟩ := h
 obtain ⟨⟨hv1, hv2, hv3, hv4, hv5⟩, hsn, hB, _⟩ := hHd
 simp only at hv1 hv2 hv3 hv4 hv5 hsn hB
 subst hv1 hv2 hv3 hv4 hv5 hsn
 simp only at hk
 have HKH : Hid _ := hk
 have hrt : rt = r.t := hr.1
 have hs1 := hB.1
 have hs2 := hB.2.1
 unfold maxLen at hkm hs2
 have hc2 : vs.length ≤ 1000 := hFi.s
 rw [Pd.ev_mk] at ho
 simp only at ho
 have HO : Hid _ := ho
 have HIH : Hid (∀ k ∈ l, EvC r k) := ih
 have HLw : Hid (Pd.Lay (fun _ => True) (Pr.mk' ⟨vk, vcol, vn, vm, vs, set⟩ l) w ⟨vk, vcol, vn, vm, vs, (sa, set.length, sc), p, l.length, cap⟩) := hL
 have HRV : Hid (RvOk w ⟨rt, rq, ra, rn, rc'⟩ r) := hr
 obtain ⟨W, hW⟩ : ∃ W, (w.alloc (pb ⟨vk, vcol, vn, vm, vs, (sa, set.length, sc), p, l.length, cap⟩)).alloc (rb ⟨rt, rq, ra, rn, rc'⟩) = W := ⟨_, rfl⟩
 have e1 : Ex w (w.alloc (pb ⟨vk, vcol, vn, vm, vs, (sa, set.length, sc), p, l.length, cap⟩)) := (Below.refl _ _).alloc (Nat.le_refl _) _
 have hXW : Ex w W := by rw [← hW]; exact Below.alloc e1 (by simp) _
 have HXW : Hid (Ex w W) := hXW
 have HP : Hid (PAt W w.heap.size ⟨vk, vcol, vn, vm, vs, (sa, set.length, sc), p, l.length, cap⟩) := (by rw [← hW]; exact (PAt.new w _).alloc _ : PAt W w.heap.size _)
 have HR : Hid (LAt W (w.heap.size + 1) ⟨rt, rq, ra, rn, rc'⟩) := (by rw [← hW]; exact LAt.newat (w.alloc (pb ⟨vk, vcol, vn, vm, vs, (sa, set.length, sc), p, l.length, cap⟩)) (w.heap.size + 1) _ (by simp) : LAt W _ _)
 have HST : Hid (Rd st W sa sc set) := (hB.below hXW : Rd st W sa sc set)
 obtain ⟨⟨ec, ek, en, es⟩, hc⟩ : ∃ c, Rw.cell r.c vcol = c := ⟨_, rfl⟩
 have HCE : Hid (Rw.cell r.c vcol = ⟨ec, ek, en, es⟩) := hc
 have hesl : es.length ≤ maxLen := by have h := cell_short hrs vcol; rw [hc] at h; exact h
 obtain ⟨c0, c1, c2, c3, c4, c5, c6⟩ := HP.out.all
 obtain ⟨d0, d1, d2⟩ := HR.out.all
 simp only at c0 c1 c2 c3 c4 c5 c6 d0 d1 d2
 have HTT : Hid (rt = r.t) := hrt
 clear hL hr hFi hFk hkB hB ih e1 hXW ho hc hrs hk hrt
 unfold pvv rvv
 simp only [sv]
 go_enter Tryz.func20, Tryz.ntmps20
 go_wp2_with fail
 go_at_call 48
 refine (rcell_is ⟨rt, rq, ra, rn, rc'⟩ r vcol W (HRV.out.below HXW.out) ⟨ec, ek, en, es⟩ HCE.out).mono ?_
 rintro e w1 ⟨rfl, hx1⟩
 obtain ⟨w2, hw2⟩ : ∃ w2, w1.alloc (cb ⟨ec, ek, en, es⟩) = w2 := ⟨_, rfl⟩
 have hX2 : Ex w1 w2 := by rw [← hw2]; exact (Below.refl _ _).alloc (Nat.le_refl _) _
 have HXB : Hid (Ex W w2) := (hx1.trans hX2 : Ex W w2)
 have HE : Hid (EAt w2 w1.heap.size ⟨ec, ek, en, es⟩) := (by rw [← hw2]; exact EAt.new w1 _ : EAt _ _ _)
 have HP2 : Hid (PAt w2 w.heap.size ⟨vk, vcol, vn, vm, vs, (sa, set.length, sc), p, l.length, cap⟩) := (HP.out.below HXB.out : PAt _ _ _)
 have HR2 : Hid (LAt w2 (w.heap.size + 1) ⟨rt, rq, ra, rn, rc'⟩) := (HR.out.below HXB.out : LAt _ _ _)
 have HX2 : Hid (Ex w w2) := (HXW.out.trans HXB.out : Ex w w2)
 obtain ⟨c0', c1', c2', c3', c4', c5', c6'⟩ := HP2.out.all
 obtain ⟨d0', d1', d2'⟩ := HR2.out.all
 obtain ⟨e0, e1, e2, e3⟩ := HE.out.all
 simp only at c0' c1' c2' c3' c4' c5' c6' d0' d1' d2' e0 e1 e2 e3
 clear hx1 hX2 c0 c1 c2 c3 c4 c5 c6 d0 d1 d2
 have hk := HKH.out
 have hO := HO.out
 clear HKH HO
 simp only [cv]
 have HOO : Hid (o = false) := (by
  rw [if_neg (by omega), if_neg (by omega), if_neg (by omega)] at hO
  unfold Pd.leaf at hO
  simp only at hO
  rw [if_neg (by omega), if_neg (by omega), if_neg (by omega), if_neg (by omega), if_neg (by omega), if_neg (by omega), if_neg (by omega)] at hO
  exact hO.symm : o = false)
 clear hO
 have t1 : (vk == 1) = false := beq_eq_false_iff_ne.2 (by omega)
 have t2 : (vk == 2) = false := beq_eq_false_iff_ne.2 (by omega)
 have t3 : (vk == 3) = false := beq_eq_false_iff_ne.2 (by omega)
 have t4 : (vk == 4) = false := beq_eq_false_iff_ne.2 (by omega)
 have t5 : (vk == 5) = false := beq_eq_false_iff_ne.2 (by omega)
 have t6 : (vk == 6) = false := beq_eq_false_iff_ne.2 (by omega)
 have t7 : (vk == 7) = false := beq_eq_false_iff_ne.2 (by omega)
 have t8 : (vk == 8) = false := beq_eq_false_iff_ne.2 (by omega)
 have t9 : (vk == 9) = false := beq_eq_false_iff_ne.2 (by omega)
 have t10 : (vk == 10) = false := beq_eq_false_iff_ne.2 (by omega)
 clear hk
 go_wp2_with fail
 go_ret
 exact ⟨by rw [HOO.out]; rfl, HX2.out⟩
end Go.Proofs.YtbdjccmlgdfapaaGreat
namespace Go.Proofs.YtbdjccmlgdfapaaGreat
open Go.RowKit
set_option linter.unusedVariables false
set_option linter.unusedSimpArgs false
theorem reval_is (r : Rw) (hrs : ∀ c ∈ r.c, c.s.length ≤ maxLen) : ∀ q : Pr, Pd.Fine q → EvC r q := by
 refine Pd.tree ?_
 intro h l ih hF
 have hk : ∀ k ∈ l, EvC r k := fun k hk => ih k hk (((Pd.fine_mk h l).1 hF).2.2 k hk)
 by_cases h1 : h.k = 1
 ·exact rev_all r hrs h l hk hF h1
 by_cases h2 : h.k = 2
 ·exact rev_any r hrs h l hk hF h2
 by_cases h3 : h.k = 3
 ·exact rev_not r hrs h l hk hF h3
 by_cases h7 : h.k = 7
 ·exact rev_in r hrs h l hk hF h7
 by_cases h0 : h.k < 1 ∨ 10 < h.k
 ·exact rev_none r hrs h l hk hF h0
 ·exact rev_leaf r hrs h l hk hF (by omega)
end Go.Proofs.YtbdjccmlgdfapaaGreat
