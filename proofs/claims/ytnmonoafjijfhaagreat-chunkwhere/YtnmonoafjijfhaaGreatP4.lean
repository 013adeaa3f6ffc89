/-
  What Eval answers; how a Kid is loaded. The document's own Eval: what has no Kids and no Set. The document's own Eval: In. The document's own Eval of a part that asks one column. The landed asksCell and holds: a predicate without Kids asked of one cell. The landed Where: of each row, whether a predicate without Kids is true of it.
-/
import Derived.Test.YtnmonoafjijfhaaGreatP2
import Derived.Test.YtnmonoafjijfhaaGreatP3
import Derived.Test.YtnmonoafjijfhaaGreatM31
import Derived.Test.YtnmonoafjijfhaaGreatM49
namespace Go.Proofs.YtnmonoafjijfhaaGreat
open Go.RowKit
set_option linter.unusedVariables false
set_option linter.unusedSimpArgs false
/-- What Eval answers. -/
def EvC (r : Rw) (k : Pr) : Prop := ∀ (v : PV) (rv : RV) (w : World) (o : Bool), Pd.Lay (fun _ => True) k w v → RvOk w rv r → Pd.ev r k = o → Calls Tryz.prog 25 #[pvv v, rvv rv] w fun e w' => e = .returned (.bool o) ∧ Ex w w'
theorem cell_ex' {w1 wx : World} {p : Addr} {v : Value} (h : w1.cell? p = some v) (hC : Ex w1 wx) : wx.cell? p = some v := by
  rw [hC.cell (World.block_lt_of_cell? w1 p h)]; exact h
end Go.Proofs.YtnmonoafjijfhaaGreat
namespace Go.Proofs.YtnmonoafjijfhaaGreat
open Go.RowKit
set_option linter.unusedVariables false
set_option linter.unusedSimpArgs false
set_option maxHeartbeats 16000000 in
set_option maxRecDepth 100000 in
theorem rev_leaf (r : Rw) (hrs : ∀ c ∈ r.c, c.s.length ≤ maxLen) (h : Hd) (l : List Pr) (hF : Pd.Fine (Pr.mk' h l)) (hk : h.k = 4 ∨ h.k = 5 ∨ h.k = 6 ∨ h.k = 8 ∨ h.k = 9 ∨ h.k = 10) : EvC r (Pr.mk' h l) := by
  intro v rv w o hL hr ho
  rw [Pd.fine_mk] at hF
  obtain ⟨hFi, hl1, hFk⟩ := hF
  obtain ⟨hHd, hkn, hkB, hkc, hkm, hk0⟩ := hL.head
  obtain ⟨vk, vcol, vn, vm, vs, ⟨sa, sn, sc⟩, ⟨p, n, cap⟩⟩ := v
  obtain ⟨rt, rq, ra, rn, rc'⟩ := rv
  simp only at hkn hkB hkc hkm hk0
  subst hkn
  obtain ⟨k, col, hn', m, s, set⟩ := h
  obtain ⟨⟨hv1, hv2, hv3, hv4, hv5⟩, hsn, hB, _⟩ := hHd
  simp only at hv1 hv2 hv3 hv4 hv5 hsn hB
  subst hv1 hv2 hv3 hv4 hv5 hsn
  simp only at hk
  have HKH : Hid _ := hk
  have hrt : rt = r.t := hr.1
  have hs1 := hB.1
  have hs2 := hB.2.1
  unfold maxLen at hkm hs2
  have hc2 : vs.length ≤ 1000 := hFi.s
  rw [Pd.ev_mk] at ho
  simp only at ho
  have HO : Hid _ := ho
  have HLw : Hid (Pd.Lay (fun _ => True) (Pr.mk' ⟨vk, vcol, vn, vm, vs, set⟩ l) w ⟨vk, vcol, vn, vm, vs, (sa, set.length, sc), p, l.length, cap⟩) := hL
  have HRV : Hid (RvOk w ⟨rt, rq, ra, rn, rc'⟩ r) := hr
  obtain ⟨W, hW⟩ : ∃ W, (w.alloc (pb ⟨vk, vcol, vn, vm, vs, (sa, set.length, sc), p, l.length, cap⟩)).alloc (rb ⟨rt, rq, ra, rn, rc'⟩) = W := ⟨_, rfl⟩
  have e1 : Ex w (w.alloc (pb ⟨vk, vcol, vn, vm, vs, (sa, set.length, sc), p, l.length, cap⟩)) := (Below.refl _ _).alloc (Nat.le_refl _) _
  have hXW : Ex w W := by rw [← hW]; exact Below.alloc e1 (by simp) _
  have HXW : Hid (Ex w W) := hXW
  have HP : Hid (PAt W w.heap.size ⟨vk, vcol, vn, vm, vs, (sa, set.length, sc), p, l.length, cap⟩) := (by rw [← hW]; exact (PAt.new w _).alloc _ : PAt W w.heap.size _)
  have HR : Hid (LAt W (w.heap.size + 1) ⟨rt, rq, ra, rn, rc'⟩) := (by rw [← hW]; exact LAt.newat (w.alloc (pb ⟨vk, vcol, vn, vm, vs, (sa, set.length, sc), p, l.length, cap⟩)) (w.heap.size + 1) _ (by simp) : LAt W _ _)
  have HST : Hid (Rd st W sa sc set) := (hB.below hXW : Rd st W sa sc set)
  obtain ⟨⟨ec, ek, en, es⟩, hc⟩ : ∃ c, Rw.cell r.c vcol = c := ⟨_, rfl⟩
  have HCE : Hid (Rw.cell r.c vcol = ⟨ec, ek, en, es⟩) := hc
  have hesl : es.length ≤ maxLen := by have h := cell_short hrs vcol; rw [hc] at h; exact h
  obtain ⟨c0, c1, c2, c3, c4, c5, c6⟩ := HP.out.all
  obtain ⟨d0, d1, d2⟩ := HR.out.all
  simp only at c0 c1 c2 c3 c4 c5 c6 d0 d1 d2
  have HTT : Hid (rt = r.t) := hrt
  clear hL hr hFi hFk hkB hB e1 hXW ho hc hrs hk hrt
  unfold pvv rvv
  simp only [sv]
  go_enter Tryz.func25, Tryz.ntmps25
  go_wp2_with fail
  go_at_call 60
  refine (rcell_is ⟨rt, rq, ra, rn, rc'⟩ r vcol W (HRV.out.below HXW.out) ⟨ec, ek, en, es⟩ HCE.out).mono ?_
  rintro e w1 ⟨rfl, hx1⟩
  obtain ⟨w2, hw2⟩ : ∃ w2, w1.alloc (cb ⟨ec, ek, en, es⟩) = w2 := ⟨_, rfl⟩
  have hX2 : Ex w1 w2 := by rw [← hw2]; exact (Below.refl _ _).alloc (Nat.le_refl _) _
  have HXB : Hid (Ex W w2) := (hx1.trans hX2 : Ex W w2)
  have HE : Hid (EAt w2 w1.heap.size ⟨ec, ek, en, es⟩) := (by rw [← hw2]; exact EAt.new w1 _ : EAt _ _ _)
  have HP2 : Hid (PAt w2 w.heap.size ⟨vk, vcol, vn, vm, vs, (sa, set.length, sc), p, l.length, cap⟩) := (HP.out.below HXB.out : PAt _ _ _)
  have HR2 : Hid (LAt w2 (w.heap.size + 1) ⟨rt, rq, ra, rn, rc'⟩) := (HR.out.below HXB.out : LAt _ _ _)
  have HX2 : Hid (Ex w w2) := (HXW.out.trans HXB.out : Ex w w2)
  obtain ⟨c0', c1', c2', c3', c4', c5', c6'⟩ := HP2.out.all
  obtain ⟨d0', d1', d2'⟩ := HR2.out.all
  obtain ⟨e0, e1, e2, e3⟩ := HE.out.all
  simp only at c0' c1' c2' c3' c4' c5' c6' d0' d1' d2' e0 e1 e2 e3
  clear hx1 hX2 c0 c1 c2 c3 c4 c5 c6 d0 d1 d2
  have hk := HKH.out
  have hO := HO.out
  clear HKH HO
  simp only [cv]
  have HOL : Hid (Pd.leaf r ⟨vk, vcol, vn, vm, vs, set⟩ = o) := (by rw [if_neg (by omega), if_neg (by omega), if_neg (by omega)] at hO; exact hO : Pd.leaf r ⟨vk, vcol, vn, vm, vs, set⟩ = o)
  clear hO
  unfold Pd.leaf at HOL
  simp only [HCE.out] at HOL
  rcases hk with rfl | rfl | rfl | rfl | rfl | rfl
  · have HQ := HOL.out
    rw [if_pos (by decide)] at HQ
    by_cases hek : ek = 1
    · subst hek
      by_cases hx : en < vn
      · skip
        have HOO : Hid (o = true) := (by rw [← HQ]; first | (simp [hx]; done) | (simp; done) : o = true)
        clear HQ HOL
        go_wp2_with fail
        go_ret
        exact ⟨by rw [HOO.out]; rfl, HX2.out⟩
      · have tx : decide (en < vn) = false := decide_eq_false hx
        have HOO : Hid (o = false) := (by rw [← HQ]; simp [hx] : o = false)
        clear HQ HOL
        go_wp2_with fail
        go_ret
        exact ⟨by rw [HOO.out]; rfl, HX2.out⟩
    · have tk : (ek == 1) = false := beq_eq_false_iff_ne.2 hek
      have HOO : Hid (o = false) := (by rw [← HQ]; simp [hek] : o = false)
      clear HQ HOL
      go_wp2_with fail
      go_ret
      exact ⟨by rw [HOO.out]; rfl, HX2.out⟩
  · have HQ := HOL.out
    rw [if_neg (by decide), if_pos (by decide)] at HQ
    by_cases hek : ek = 1
    · subst hek
      by_cases hx : en = vn
      · subst hx
        have HOO : Hid (o = true) := (by rw [← HQ]; first | (simp [hx]; done) | (simp; done) : o = true)
        clear HQ HOL
        go_wp2_with fail
        go_ret
        exact ⟨by rw [HOO.out]; rfl, HX2.out⟩
      · have tx : (en == vn) = false := beq_eq_false_iff_ne.2 hx
        have HOO : Hid (o = false) := (by rw [← HQ]; simp [hx] : o = false)
        clear HQ HOL
        go_wp2_with fail
        go_ret
        exact ⟨by rw [HOO.out]; rfl, HX2.out⟩
    · have tk : (ek == 1) = false := beq_eq_false_iff_ne.2 hek
      have HOO : Hid (o = false) := (by rw [← HQ]; simp [hek] : o = false)
      clear HQ HOL
      go_wp2_with fail
      go_ret
      exact ⟨by rw [HOO.out]; rfl, HX2.out⟩
  · have HQ := HOL.out
    rw [if_neg (by decide), if_neg (by decide), if_pos (by decide)] at HQ
    by_cases hek : ek = 2
    · subst hek
      by_cases hx : es = vs
      · subst hx
        have z1 := str_toList es
        have HOO : Hid (o = true) := (by rw [← HQ]; first | (simp [hx]; done) | (simp; done) : o = true)
        clear HQ HOL
        go_wp2_with fail
        go_ret
        exact ⟨by rw [HOO.out]; rfl, HX2.out⟩
      · have tx : (es == vs) = false := beq_eq_false_iff_ne.2 hx
        have z1 := str_toList es
        have z2 := str_toList vs
        have HOO : Hid (o = false) := (by rw [← HQ]; simp [hx] : o = false)
        clear HQ HOL
        go_wp2_with fail
        go_ret
        exact ⟨by rw [HOO.out]; rfl, HX2.out⟩
    · have tk : (ek == 2) = false := beq_eq_false_iff_ne.2 hek
      have HOO : Hid (o = false) := (by rw [← HQ]; simp [hek] : o = false)
      clear HQ HOL
      go_wp2_with fail
      go_ret
      exact ⟨by rw [HOO.out]; rfl, HX2.out⟩
  · have HQ := HOL.out
    rw [if_neg (by decide), if_neg (by decide), if_neg (by decide), if_neg (by decide), if_pos (by decide)] at HQ
    by_cases hek : ek = 2
    · subst hek
      have HOO : Hid (T.begins vs es = o) := (by rw [← HQ]; simp : T.begins vs es = o)
      clear HQ HOL
      go_wp2_with fail
      go_at_call 61
      refine (rbegins_is es vs _ hesl (by unfold maxLen; omega) o HOO.out).mono ?_
      rintro e w3 ⟨rfl, hw3⟩
      replace hw3 := hw3.symm
      subst hw3
      go_wp2_with fail
      go_ret
      exact ⟨rfl, HX2.out⟩
    · have tk : (ek == 2) = false := beq_eq_false_iff_ne.2 hek
      have HOO : Hid (o = false) := (by rw [← HQ]; simp [hek] : o = false)
      clear HQ HOL
      go_wp2_with fail
      go_ret
      exact ⟨by rw [HOO.out]; rfl, HX2.out⟩
  · have HQ := HOL.out
    rw [if_neg (by decide), if_neg (by decide), if_neg (by decide), if_neg (by decide), if_neg (by decide), if_pos (by decide)] at HQ
    obtain ⟨z, hz⟩ : ∃ z, (ek == 0) = z := ⟨_, rfl⟩
    have HOO : Hid (z = o) := (by rw [← HQ, ← hz]; by_cases h9 : ek = 0 <;> simp [h9] : z = o)
    clear HQ HOL
    go_wp2_with fail
    go_ret
    exact ⟨by rw [← HOO.out]; rfl, HX2.out⟩
  · have HQ := HOL.out
    rw [if_neg (by decide), if_neg (by decide), if_neg (by decide), if_neg (by decide), if_neg (by decide), if_neg (by decide), if_pos (by decide), ← HTT.out] at HQ
    by_cases h1 : vn ≤ rt
    · by_cases h2 : rt ≤ vm
      · have HOO : Hid (o = true) := (by rw [← HQ]; simp [h1, h2] : o = true)
        clear HQ HOL
        go_wp2_with fail
        go_ret
        exact ⟨by rw [HOO.out]; rfl, HX2.out⟩
      · have tx : decide (rt ≤ vm) = false := decide_eq_false h2
        have HOO : Hid (o = false) := (by rw [← HQ]; simp [h2] : o = false)
        clear HQ HOL
        go_wp2_with fail
        go_ret
        exact ⟨by rw [HOO.out]; rfl, HX2.out⟩
    · have tx : decide (vn ≤ rt) = false := decide_eq_false h1
      have HOO : Hid (o = false) := (by rw [← HQ]; simp [h1] : o = false)
      clear HQ HOL
      go_wp2_with fail
      go_ret
      exact ⟨by rw [HOO.out]; rfl, HX2.out⟩
end Go.Proofs.YtnmonoafjijfhaaGreat
namespace Go.Proofs.YtnmonoafjijfhaaGreat
open Go.RowKit
set_option linter.unusedVariables false
set_option linter.unusedSimpArgs false
set_option maxHeartbeats 16000000 in
set_option maxRecDepth 100000 in
theorem rev_in (r : Rw) (hrs : ∀ c ∈ r.c, c.s.length ≤ maxLen) (h : Hd) (l : List Pr) (hF : Pd.Fine (Pr.mk' h l)) (hk : h.k = 7) : EvC r (Pr.mk' h l) := by
  intro v rv w o hL hr ho
  rw [Pd.fine_mk] at hF
  obtain ⟨hFi, hl1, hFk⟩ := hF
  obtain ⟨hHd, hkn, hkB, hkc, hkm, hk0⟩ := hL.head
  obtain ⟨vk, vcol, vn, vm, vs, ⟨sa, sn, sc⟩, ⟨p, n, cap⟩⟩ := v
  obtain ⟨rt, rq, ra, rn, rc'⟩ := rv
  simp only at hkn hkB hkc hkm hk0
  subst hkn
  obtain ⟨k, col, hn', m, s, set⟩ := h
  obtain ⟨⟨hv1, hv2, hv3, hv4, hv5⟩, hsn, hB, _⟩ := hHd
  simp only at hv1 hv2 hv3 hv4 hv5 hsn hB
  subst hv1 hv2 hv3 hv4 hv5 hsn
  simp only at hk
  have HKH : Hid _ := hk
  have hrt : rt = r.t := hr.1
  have hs1 := hB.1
  have hs2 := hB.2.1
  unfold maxLen at hkm hs2
  have hc2 : vs.length ≤ 1000 := hFi.s
  rw [Pd.ev_mk] at ho
  simp only at ho
  have HO : Hid _ := ho
  have HLw : Hid (Pd.Lay (fun _ => True) (Pr.mk' ⟨vk, vcol, vn, vm, vs, set⟩ l) w ⟨vk, vcol, vn, vm, vs, (sa, set.length, sc), p, l.length, cap⟩) := hL
  have HRV : Hid (RvOk w ⟨rt, rq, ra, rn, rc'⟩ r) := hr
  obtain ⟨W, hW⟩ : ∃ W, (w.alloc (pb ⟨vk, vcol, vn, vm, vs, (sa, set.length, sc), p, l.length, cap⟩)).alloc (rb ⟨rt, rq, ra, rn, rc'⟩) = W := ⟨_, rfl⟩
  have e1 : Ex w (w.alloc (pb ⟨vk, vcol, vn, vm, vs, (sa, set.length, sc), p, l.length, cap⟩)) := (Below.refl _ _).alloc (Nat.le_refl _) _
  have hXW : Ex w W := by rw [← hW]; exact Below.alloc e1 (by simp) _
  have HXW : Hid (Ex w W) := hXW
  have HP : Hid (PAt W w.heap.size ⟨vk, vcol, vn, vm, vs, (sa, set.length, sc), p, l.length, cap⟩) := (by rw [← hW]; exact (PAt.new w _).alloc _ : PAt W w.heap.size _)
  have HR : Hid (LAt W (w.heap.size + 1) ⟨rt, rq, ra, rn, rc'⟩) := (by rw [← hW]; exact LAt.newat (w.alloc (pb ⟨vk, vcol, vn, vm, vs, (sa, set.length, sc), p, l.length, cap⟩)) (w.heap.size + 1) _ (by simp) : LAt W _ _)
  have HST : Hid (Rd st W sa sc set) := (hB.below hXW : Rd st W sa sc set)
  obtain ⟨⟨ec, ek, en, es⟩, hc⟩ : ∃ c, Rw.cell r.c vcol = c := ⟨_, rfl⟩
  have HCE : Hid (Rw.cell r.c vcol = ⟨ec, ek, en, es⟩) := hc
  have hesl : es.length ≤ maxLen := by have h := cell_short hrs vcol; rw [hc] at h; exact h
  obtain ⟨c0, c1, c2, c3, c4, c5, c6⟩ := HP.out.all
  obtain ⟨d0, d1, d2⟩ := HR.out.all
  simp only at c0 c1 c2 c3 c4 c5 c6 d0 d1 d2
  have HTT : Hid (rt = r.t) := hrt
  clear hL hr hFi hFk hkB hB e1 hXW ho hc hrs hk hrt
  unfold pvv rvv
  simp only [sv]
  go_enter Tryz.func25, Tryz.ntmps25
  go_wp2_with fail
  go_at_call 60
  refine (rcell_is ⟨rt, rq, ra, rn, rc'⟩ r vcol W (HRV.out.below HXW.out) ⟨ec, ek, en, es⟩ HCE.out).mono ?_
  rintro e w1 ⟨rfl, hx1⟩
  obtain ⟨w2, hw2⟩ : ∃ w2, w1.alloc (cb ⟨ec, ek, en, es⟩) = w2 := ⟨_, rfl⟩
  have hX2 : Ex w1 w2 := by rw [← hw2]; exact (Below.refl _ _).alloc (Nat.le_refl _) _
  have HXB : Hid (Ex W w2) := (hx1.trans hX2 : Ex W w2)
  have HE : Hid (EAt w2 w1.heap.size ⟨ec, ek, en, es⟩) := (by rw [← hw2]; exact EAt.new w1 _ : EAt _ _ _)
  have HP2 : Hid (PAt w2 w.heap.size ⟨vk, vcol, vn, vm, vs, (sa, set.length, sc), p, l.length, cap⟩) := (HP.out.below HXB.out : PAt _ _ _)
  have HR2 : Hid (LAt w2 (w.heap.size + 1) ⟨rt, rq, ra, rn, rc'⟩) := (HR.out.below HXB.out : LAt _ _ _)
  have HX2 : Hid (Ex w w2) := (HXW.out.trans HXB.out : Ex w w2)
  obtain ⟨c0', c1', c2', c3', c4', c5', c6'⟩ := HP2.out.all
  obtain ⟨d0', d1', d2'⟩ := HR2.out.all
  obtain ⟨e0, e1, e2, e3⟩ := HE.out.all
  simp only at c0' c1' c2' c3' c4' c5' c6' d0' d1' d2' e0 e1 e2 e3
  clear hx1 hX2 c0 c1 c2 c3 c4 c5 c6 d0 d1 d2
  have hk := HKH.out
  have hO := HO.out
  clear HKH HO
  simp only [cv]
  subst hk
  have HOL : Hid (decide (ek = 2 ∧ es ∈ set) = o) := (by
    rw [if_neg (by decide), if_neg (by decide), if_neg (by decide)] at hO
    unfold Pd.leaf at hO
    simp only [HCE.out] at hO
    rw [if_neg (by decide), if_neg (by decide), if_neg (by decide), if_pos (by decide)] at hO
    exact hO : decide (ek = 2 ∧ es ∈ set) = o)
  clear hO
  have hre := Ex.refl
  go_wp2_with fail
  go_loopw [8] (fun iv wr => ∃ i : Nat, i ≤ set.length ∧ iv = .int .i64 i ∧ Hid ((decide (ek = 2) && decide (es ∈ set.take i)) = false) ∧ Hid (Ex w2 wr)) (fun iv wr => set.length - (intOf iv).toNat)
  case atStart => exact ⟨0, by omega, rfl, (by simp : (decide (ek = 2) && decide (es ∈ set.take 0)) = false), (Ex.refl w2 : Ex w2 w2)⟩
  case round =>
    obtain ⟨i, hi, rfl, HA, HXr⟩ := hrel
    obtain ⟨g0, g1, g2, g3, g4, g5, g6⟩ := (HP2.out.below HXr.out).all
    simp only at g0 g1 g2 g3 g4 g5 g6
    by_cases hlt : i < set.length
    · have hti : (i : Int) < (set.length : Int) := by omega
      obtain ⟨x, hx⟩ : ∃ x, set[i] = x := ⟨_, rfl⟩
      obtain ⟨b, off, hpp, hx0⟩ := (HST.out.below (HXB.out.trans HXr.out)).at hlt
      rw [hx] at hx0
      have HX0 : Hid (wr.cell? ⟨b, off + i, none⟩ = some (.string (str x))) := hx0
      have HXM : Hid (x ∈ set) := (by rw [← hx]; exact List.getElem_mem hlt : x ∈ set)
      have hmem : es ∈ set.take (i + 1) ↔ es ∈ set.take i ∨ es = x := by rw [List.take_add_one, List.getElem?_eq_getElem hlt, hx]; simp
      have HMM : Hid (es ∈ set.take (i + 1) ↔ es ∈ set.take i ∨ es = x) := hmem
      subst hpp
      clear hx hx0 hmem
      go_wp2_with fail
      by_cases hek : ek = 2
      · subst hek
        by_cases hxe : es = x
        · have HXM' := HXM.out
          rw [← hxe] at HXM'
          replace HXM : Hid (es ∈ set) := HXM'
          refine Rg.wp_rows [.inl (Value.pointer (some ⟨w1.heap.size, 1, none⟩)), .inl (Value.int .i64 2), .inl (.bool true), .inl (.bool true), .inl (Value.pointer (some ⟨w1.heap.size, 3, none⟩)), .inl (Value.string (str es)), .inl (Value.pointer (some ⟨w.heap.size, 5, none⟩)), .inl (Value.slice (some ⟨b, off, none⟩) set.length sc), .inl (Value.int .i64 i), .inl (Value.pointer (some ⟨b, off + i, none⟩)), .inl (Value.string (str x)), .inl (.bool true), .inl (.bool true)] (Ex wr) Ex 152 (by kernel_rfl) rfl (by kernel_rfl) ?st hre (Ex.drew _) ?goods ?fin
          case st => exact trivial
          case goods =>
            refine Rg.goods_cons (Rg.good_field hre rfl rfl rfl (fun wx hC => by go_simp)) ?_
            refine Rg.goods_cons (Rg.good_load hre rfl rfl rfl (fun wx hC => by have hz := (HE.out.below (HXr.out.trans hC)).all.2.1; simp only at hz; go_simp)) ?_
            refine Rg.goods_cons (Rg.good_bin hre rfl rfl rfl rfl (fun _ => rfl) (fun w => by go_simp)) ?_
            refine Rg.goods_cons (Rg.good_move hre rfl rfl rfl) ?_
            refine Rg.goods_cons (Rg.good_field hre rfl rfl rfl (fun wx hC => by go_simp)) ?_
            refine Rg.goods_cons (Rg.good_load hre rfl rfl rfl (fun wx hC => by have hz := (HE.out.below (HXr.out.trans hC)).all.2.2.2; simp only at hz; go_simp)) ?_
            refine Rg.goods_cons (Rg.good_field hre rfl rfl rfl (fun wx hC => by go_simp)) ?_
            refine Rg.goods_cons (Rg.good_load hre rfl rfl rfl (fun wx hC => by have hz := (HP2.out.below (HXr.out.trans hC)).all.2.2.2.2.2.1; simp only at hz; go_simp)) ?_
            refine Rg.goods_cons (Rg.good_move hre rfl rfl rfl) ?_
            refine Rg.goods_cons (Rg.good_index hre rfl rfl rfl rfl (fun wx hC => by go_simp)) ?_
            refine Rg.goods_cons (Rg.good_load hre rfl rfl rfl (fun wx hC => by have hz := cell_ex' HX0.out hC; go_simp)) ?_
            refine Rg.goods_cons (Rg.good_bin hre rfl rfl rfl rfl (fun _ => rfl) (fun w => by subst hxe; go_simp)) ?_
            refine Rg.goods_cons (Rg.good_pick true hre rfl rfl rfl rfl) ?_
            exact Rg.goods_nil
          case fin =>
            intro wx hx
            simp only [Rg.later, Act.put, List.setIfInBounds_toArray, List.set_cons_succ, List.set_cons_zero]
            have HXx : Hid (Ex w2 wx) := (HXr.out.trans hx : Ex w2 wx)
            clear hx
            have HOO : Hid (o = true) := (by rw [← HOL.out]; simp only [decide_eq_true_eq]; exact ⟨trivial, HXM.out⟩ : o = true)
            go_wp2_with fail
            go_ret
            exact ⟨by rw [HOO.out]; rfl, HX2.out.trans HXx.out⟩
        · have HNX : Hid (decide (es ∈ set.take (i + 1)) = decide (es ∈ set.take i)) := (by congr 1; exact propext ⟨fun h => (HMM.out.1 h).elim id (fun e => absurd e hxe), fun h => HMM.out.2 (.inl h)⟩ : _ = _)
          have HA2 := HA.out
          refine Rg.wp_rows [.inl (Value.pointer (some ⟨w1.heap.size, 1, none⟩)), .inl (Value.int .i64 2), .inl (.bool true), .inl (.bool true), .inl (Value.pointer (some ⟨w1.heap.size, 3, none⟩)), .inl (Value.string (str es)), .inl (Value.pointer (some ⟨w.heap.size, 5, none⟩)), .inl (Value.slice (some ⟨b, off, none⟩) set.length sc), .inl (Value.int .i64 i), .inl (Value.pointer (some ⟨b, off + i, none⟩)), .inl (Value.string (str x)), .inl (.bool false), .inl (.bool false)] (Ex wr) Ex 152 (by kernel_rfl) rfl (by kernel_rfl) ?st hre (Ex.drew _) ?goods ?fin
          case st => exact trivial
          case goods =>
            refine Rg.goods_cons (Rg.good_field hre rfl rfl rfl (fun wx hC => by go_simp)) ?_
            refine Rg.goods_cons (Rg.good_load hre rfl rfl rfl (fun wx hC => by have hz := (HE.out.below (HXr.out.trans hC)).all.2.1; simp only at hz; go_simp)) ?_
            refine Rg.goods_cons (Rg.good_bin hre rfl rfl rfl rfl (fun _ => rfl) (fun w => by go_simp)) ?_
            refine Rg.goods_cons (Rg.good_move hre rfl rfl rfl) ?_
            refine Rg.goods_cons (Rg.good_field hre rfl rfl rfl (fun wx hC => by go_simp)) ?_
            refine Rg.goods_cons (Rg.good_load hre rfl rfl rfl (fun wx hC => by have hz := (HE.out.below (HXr.out.trans hC)).all.2.2.2; simp only at hz; go_simp)) ?_
            refine Rg.goods_cons (Rg.good_field hre rfl rfl rfl (fun wx hC => by go_simp)) ?_
            refine Rg.goods_cons (Rg.good_load hre rfl rfl rfl (fun wx hC => by have hz := (HP2.out.below (HXr.out.trans hC)).all.2.2.2.2.2.1; simp only at hz; go_simp)) ?_
            refine Rg.goods_cons (Rg.good_move hre rfl rfl rfl) ?_
            refine Rg.goods_cons (Rg.good_index hre rfl rfl rfl rfl (fun wx hC => by go_simp)) ?_
            refine Rg.goods_cons (Rg.good_load hre rfl rfl rfl (fun wx hC => by have hz := cell_ex' HX0.out hC; go_simp)) ?_
            refine Rg.goods_cons (Rg.good_bin hre rfl rfl rfl rfl (fun _ => rfl) (fun w => by go_simp; rw [str_toList, str_toList]; exact hxe)) ?_
            refine Rg.goods_cons (Rg.good_pick true hre rfl rfl rfl rfl) ?_
            exact Rg.goods_nil
          case fin =>
            intro wx hx
            simp only [Rg.later, Act.put, List.setIfInBounds_toArray, List.set_cons_succ, List.set_cons_zero]
            have HXx : Hid (Ex w2 wx) := (HXr.out.trans hx : Ex w2 wx)
            clear hx
            have HN : Hid ((decide ((2 : Int) = 2) && decide (es ∈ set.take (i + 1))) = false) := (by rw [HNX.out]; exact HA2 : _ = false)
            go_wp2_with fail
            go_roundw
            case rel => exact ⟨i + 1, by omega, by go_num, HN, HXx⟩
            case measure => simp [intOf]; omega
      · have tk : (ek == 2) = false := beq_eq_false_iff_ne.2 hek
        refine Rg.wp_rows [.inl (Value.pointer (some ⟨w1.heap.size, 1, none⟩)), .inl (Value.int .i64 ek), .inl (.bool false), .inl (.bool false), .inl undef, .inl undef, .inl undef, .inl undef, .inl undef, .inl undef, .inl undef, .inl undef, .inl (.bool false)] (Ex wr) Ex 152 (by kernel_rfl) rfl (by kernel_rfl) ?st hre (Ex.drew _) ?goods ?fin
        case st => exact trivial
        case goods =>
          refine Rg.goods_cons (Rg.good_field hre rfl rfl rfl (fun wx hC => by go_simp)) ?_
          refine Rg.goods_cons (Rg.good_load hre rfl rfl rfl (fun wx hC => by have hz := (HE.out.below (HXr.out.trans hC)).all.2.1; simp only at hz; go_simp)) ?_
          refine Rg.goods_cons (Rg.good_bin hre rfl rfl rfl rfl (fun _ => rfl) (fun w => by go_simp)) ?_
          refine Rg.goods_cons (Rg.good_move hre rfl rfl rfl) ?_
          refine Rg.goods_cons (Rg.good_skip rfl) ?_
          refine Rg.goods_cons (Rg.good_skip rfl) ?_
          refine Rg.goods_cons (Rg.good_skip rfl) ?_
          refine Rg.goods_cons (Rg.good_skip rfl) ?_
          refine Rg.goods_cons (Rg.good_skip rfl) ?_
          refine Rg.goods_cons (Rg.good_skip rfl) ?_
          refine Rg.goods_cons (Rg.good_skip rfl) ?_
          refine Rg.goods_cons (Rg.good_skip rfl) ?_
          refine Rg.goods_cons (Rg.good_pick false hre rfl rfl rfl rfl) ?_
          exact Rg.goods_nil
        case fin =>
          intro wx hx
          simp only [Rg.later, Act.put, List.setIfInBounds_toArray, List.set_cons_succ, List.set_cons_zero]
          have HXx : Hid (Ex w2 wx) := (HXr.out.trans hx : Ex w2 wx)
          clear hx
          have HN : Hid ((decide (ek = 2) && decide (es ∈ set.take (i + 1))) = false) := (by simp [hek] : _ = false)
          go_wp2_with fail
          go_roundw
          case rel => exact ⟨i + 1, by omega, by go_num, HN, HXx⟩
          case measure => simp [intOf]; omega
    · have hti : ¬ (i : Int) < (set.length : Int) := by omega
      have HOO : Hid (o = false) := (by
        have h := HA.out
        rw [List.take_of_length_le (by omega)] at h
        rw [← HOL.out]
        simpa using h : o = false)
      go_wp2_with fail
      go_ret
      exact ⟨by rw [HOO.out]; rfl, HX2.out.trans HXr.out⟩
end Go.Proofs.YtnmonoafjijfhaaGreat
namespace Go.Proofs.YtnmonoafjijfhaaGreat
open Go.RowKit
set_option linter.unusedVariables false
theorem reval_ask (r : Rw) (hrs : ∀ c ∈ r.c, c.s.length ≤ maxLen) (h : Hd) (l : List Pr) (hF : Pd.Fine (Pr.mk' h l)) (h4 : 4 ≤ h.k) (h9 : h.k ≤ 9) : EvC r (Pr.mk' h l) := by
  by_cases h7 : h.k = 7
  · exact rev_in r hrs h l hF h7
  · exact rev_leaf r hrs h l hF (by omega)
end Go.Proofs.YtnmonoafjijfhaaGreat
namespace Go.Proofs.YtnmonoafjijfhaaGreat
open Go.RowKit
set_option linter.unusedVariables false
set_option linter.unusedSimpArgs false
def askB (k : Int) : Bool := decide (4 ≤ k ∧ k ≤ 9)
set_option maxRecDepth 100000 in
theorem asks_is (k : Int) (w : World) : Calls Tryz.prog 58 #[.int .i64 k] w fun e w' => e = .returned (.bool (askB k)) ∧ w' = w := by
  go_enter Tryz.func58, Tryz.ntmps58
  by_cases h4 : k = 4
  · subst h4
    go_wp2_with fail
    go_ret
    exact ⟨rfl, rfl⟩
  by_cases h5 : k = 5
  · subst h5
    go_wp2_with fail
    go_ret
    exact ⟨rfl, rfl⟩
  by_cases h6 : k = 6
  · subst h6
    go_wp2_with fail
    go_ret
    exact ⟨rfl, rfl⟩
  by_cases h7 : k = 7
  · subst h7
    go_wp2_with fail
    go_ret
    exact ⟨rfl, rfl⟩
  by_cases h8 : k = 8
  · subst h8
    go_wp2_with fail
    go_ret
    exact ⟨rfl, rfl⟩
  by_cases h9 : k = 9
  · subst h9
    go_wp2_with fail
    go_ret
    exact ⟨rfl, rfl⟩
  have t4 : (k == 4) = false := beq_eq_false_iff_ne.2 h4
  have t5 : (k == 5) = false := beq_eq_false_iff_ne.2 h5
  have t6 : (k == 6) = false := beq_eq_false_iff_ne.2 h6
  have t7 : (k == 7) = false := beq_eq_false_iff_ne.2 h7
  have t8 : (k == 8) = false := beq_eq_false_iff_ne.2 h8
  have t9 : (k == 9) = false := beq_eq_false_iff_ne.2 h9
  have HB : Hid (askB k = false) := (by unfold askB; rw [decide_eq_false_iff_not]; omega : askB k = false)
  clear h4 h5 h6 h7 h8 h9
  go_wp2_with fail
  go_ret
  exact ⟨by rw [HB.out]; rfl, rfl⟩
namespace Pd
theorem leafC_same {c d : Ce} {h : Hd} (hk : c.k = d.k) (hn : c.n = d.n) (hs : c.s = d.s) : leafC c h = leafC d h := by unfold leafC; rw [hk, hn, hs]
theorem ev_ask {h : Hd} (l : List Pr) (h4 : 4 ≤ h.k) (h9 : h.k ≤ 9) (r : Rw) : ev r (Pr.mk' h l) = leafC (Rw.cell r.c h.col) h := by
  rw [ev_mk, if_neg (by omega), if_neg (by omega), if_neg (by omega), leaf_eq r h (by omega)]
/-- A row of one cell. -/
def rone (h : Hd) (c : Ce) : Rw := ⟨0, 0, [⟨h.col, c.k, c.n, c.s⟩]⟩
theorem ev_rone {h : Hd} (l : List Pr) (h4 : 4 ≤ h.k) (h9 : h.k ≤ 9) (c : Ce) : ev (rone h c) (Pr.mk' h l) = leafC c h := by
  rw [ev_ask l h4 h9]
  have e : Rw.cell (rone h c).c h.col = ⟨h.col, c.k, c.n, c.s⟩ := by simp [rone, Rw.cell]
  rw [e]
  exact leafC_same rfl rfl rfl
theorem cut_bare (p : Pr) : deep (cut p 0) = 1 ∧ size (cut p 0) = 1 := by
  have key : ∀ p, deep (cut p 0) = 1 ∧ size (cut p 0) = 1 := tree fun h l _ => by
    rw [cut_mk, if_pos rfl, deep_mk, size_mk]
    simp
  exact key p
theorem fit_cut1 (p : Pr) : fit (cut p 1) 50 5000 = true := by
  have key : ∀ p, fit (cut p 1) 50 5000 = true := tree fun h l _ => by
    rw [cut_mk, if_neg (by decide)]
    have hd : ∀ m : List Pr, ((m.map fun x => cut x (1 - 1)).map deep).foldr max 0 ≤ 1 := by
      intro m
      induction m with
      | nil => simp
      | cons x m ih => simp only [List.map_cons, List.foldr_cons]; have := (cut_bare x).1; simp only [Nat.sub_self] at ih ⊢; omega
    have hs : ∀ m : List Pr, ((m.map fun x => cut x (1 - 1)).map size).sum = m.length := by
      intro m
      induction m with
      | nil => simp
      | cons x m ih => simp only [List.map_cons, List.sum_cons, List.length_cons]; have := (cut_bare x).2; simp only [Nat.sub_self] at ih ⊢; omega
    refine fit_of ?_ ?_
    · rw [deep_mk]; have := hd (l.take 4); omega
    · rw [size_mk, hs, List.length_take]; omega
  exact key p
end Pd
set_option maxHeartbeats 4000000 in
set_option maxRecDepth 100000 in
theorem hold_is (h : Hd) (l : List Pr) (v : PV) (c : Ce) (w : World) (hL : Pd.Lay (fun _ => True) (Pr.mk' h l) w v) (hF : Pd.Fine (Pr.mk' h l)) (hf : Pd.fit (Pr.mk' h l) 50 5000 = true) (h4 : 4 ≤ h.k) (h9 : h.k ≤ 9) (hc : c.s.length ≤ maxLen) (o : Bool) (ho : Pd.leafC c h = o) :
    Calls Tryz.prog 59 #[pvv v, cv c] w fun e w' => e = .returned (.bool o) ∧ Ex w w' := by
  have hcol : h.col = v.col := hL.head.1.1.2.1.symm
  obtain ⟨vk, vcol, vn, vm, vs, vset, vkids⟩ := v
  obtain ⟨ccol, ck, cn, cs⟩ := c
  simp only at hcol hc
  obtain ⟨W, hW⟩ : ∃ W, (w.alloc (pb ⟨vk, vcol, vn, vm, vs, vset, vkids⟩)).alloc (cb ⟨ccol, ck, cn, cs⟩) = W := ⟨_, rfl⟩
  have hX1 : Ex w (w.alloc (pb ⟨vk, vcol, vn, vm, vs, vset, vkids⟩)) := (Below.refl _ _).alloc (Nat.le_refl _) _
  have hXW : Ex w W := by rw [← hW]; exact Below.alloc hX1 (by simp) _
  have hPW : PAt W w.heap.size ⟨vk, vcol, vn, vm, vs, vset, vkids⟩ := by rw [← hW]; exact (PAt.new w _).alloc _
  have hEW : EAt W (w.heap.size + 1) ⟨ccol, ck, cn, cs⟩ := by
    rw [← hW]
    exact EAt.newat (w.alloc (pb ⟨vk, vcol, vn, vm, vs, vset, vkids⟩)) (w.heap.size + 1) _ (by simp)
  obtain ⟨W2, hW2⟩ : ∃ W2, W.setCell ⟨w.heap.size + 1, 0, none⟩ (.string (str vcol)) = W2 := ⟨_, rfl⟩
  have hX2 : Ex w W2 := by rw [← hW2]; exact Below.setCell hXW (by simp) _
  have hP2 : PAt W2 w.heap.size ⟨vk, vcol, vn, vm, vs, vset, vkids⟩ := by rw [← hW2]; exact hPW.other (by omega)
  have hE2 : EAt W2 (w.heap.size + 1) ⟨vcol, ck, cn, cs⟩ := by rw [← hW2]; exact hEW.set (k := 0) rfl
  obtain ⟨W3, hW3⟩ : ∃ W3, W2.alloc (.cells #[.string (str vcol), .int .i64 ck, .int .i64 cn, .string (str cs)] 28) = W3 := ⟨_, rfl⟩
  have hX3 : Ex w W3 := by rw [← hW3]; exact Below.alloc hX2 hX2.size _
  have hR3 : RdC W3 (some ⟨W2.heap.size, 0, none⟩) 1 [⟨vcol, ck, cn, cs⟩] := by rw [← hW3]; exact RdW.laid (t := 28) cc_len W2 [⟨vcol, ck, cn, cs⟩] (by simp)
  have hrv : RvOk W3 ⟨0, 0, some ⟨W2.heap.size, 0, none⟩, 1, 1⟩ (Pd.rone h ⟨ccol, ck, cn, cs⟩) := by
    refine ⟨rfl, rfl, rfl, ?_⟩
    unfold Pd.rone
    rw [hcol]
    exact hR3
  have HX3 : Hid (Ex w W3) := hX3
  have HC : Hid (Calls Tryz.prog 26 #[pvv ⟨vk, vcol, vn, vm, vs, vset, vkids⟩, rvv ⟨0, 0, some ⟨W2.heap.size, 0, none⟩, 1, 1⟩] W3 fun e w' => e = .returned (.bool o) ∧ Ex W3 w') :=
    ev_is (Pr.mk' h l) (Pd.rone h ⟨ccol, ck, cn, cs⟩) _ _ W3 (Pd.Lay.below _ hL hX3) hF hrv (by intro c hc'; simp only [Pd.rone, List.mem_singleton] at hc'; subst hc'; exact hc) hf o (by rw [Pd.ev_rone l h4 h9]; exact ho)
  obtain ⟨p0, p1, p2, p3, p4, p5, p6⟩ := hPW.all
  obtain ⟨e0, e1, e2, e3⟩ := hEW.all
  have f0 := hEW.fro.1
  obtain ⟨q0, q1, q2, q3, q4, q5, q6⟩ := hP2.all
  obtain ⟨d0, d1, d2, d3⟩ := hE2.all
  simp only at p0 p1 p2 p3 p4 p5 p6 e0 e1 e2 e3 q0 q1 q2 q3 q4 q5 q6 d0 d1 d2 d3
  clear hL hF hf h4 h9 hc ho hcol hX1 hXW hPW hEW hX2 hP2 hE2 hX3 hR3 hrv
  unfold pvv cv
  simp only [sv]
  go_enter Tryz.func59, Tryz.ntmps59
  go_wp2_with fail
  go_at_call 26
  refine Calls.mono HC.out ?_
  rintro e w4 ⟨rfl, hx4⟩
  have HX4 : Hid (Ex w w4) := (HX3.out.trans hx4 : Ex w w4)
  clear hx4 HC
  go_wp2_with fail
  go_ret
  exact ⟨rfl, HX4.out⟩
end Go.Proofs.YtnmonoafjijfhaaGreat
namespace Go.Proofs.YtnmonoafjijfhaaGreat
open Go.RowKit
set_option linter.unusedVariables false
set_option linter.unusedSimpArgs false
namespace Ck
theorem lints_short {b : List UInt8} : ∀ (n : Nat) (o : List Ce) (s : CS), (∀ c ∈ o, c.s.length ≤ 40) → ∀ c ∈ (lints b n o s).1, c.s.length ≤ 40
  | 0, o, s, h => h
  | n + 1, o, s, h => by
    rw [lints]
    split
    · exact h
    · refine lints_short n _ _ fun c hc => ?_
      rcases List.mem_append.1 hc with hc | hc
      · exact h c hc
      · rw [List.mem_singleton] at hc; subst hc; simp [ic]
theorem ltexts_short {b : List UInt8} : ∀ (n : Nat) (o : List Ce) (s : CS), (∀ c ∈ o, c.s.length ≤ 40) → ∀ c ∈ (ltexts b n o s).1, c.s.length ≤ 40
  | 0, o, s, h => h
  | n + 1, o, s, h => by
    rw [ltexts]
    split
    · exact h
    · refine ltexts_short n _ _ fun c hc => ?_
      rcases List.mem_append.1 hc with hc | hc
      · exact h c hc
      · rw [List.mem_singleton] at hc; subst hc
        have := (T.getText_all b s.at' 40).1
        unfold tc ltxt
        split <;> simp <;> omega
theorem dec_short (b : List UInt8) (p : Int) : ∀ s ∈ (T.dec b p).1, s.length ≤ 40 := by
  obtain ⟨⟨d, k, e⟩, hd⟩ : ∃ x, T.dec b p = x := ⟨_, rfl⟩
  have h := T.dec_all hd
  rw [hd]
  by_cases he : e = 0
  · exact ((T.fits_iff d).1 (h.1 he).1).1
  · rw [(h.2.1 he).1]; simp
theorem lread_short (b : List UInt8) : ∀ c ∈ (lread b).words, c.s.length ≤ 40 := by
  have key : ∀ (F : Nat) (mk : List Nat) (s : CS), ∀ c ∈ (lvals b F mk s).words, c.s.length ≤ 40 := by
    intro F mk s
    unfold lvals
    split
    · exact lints_short _ _ _ (by simp)
    · split
      · intro c hc
        simp only [List.mem_map] at hc
        obtain ⟨x, hx, rfl⟩ := hc
        unfold ldict at hx
        split at hx
        · exact dec_short _ _ x hx
        · simp at hx
      · split
        · exact ltexts_short _ _ _ (by simp)
        · simp
  exact key _ _ _
end Ck
theorem lw_short (b : List UInt8) : ∀ c ∈ LW b, c.s.length ≤ maxLen := by
  intro c hc
  unfold LW at hc
  rcases List.mem_append.1 hc with hc | hc
  · have := Ck.lread_short b c hc; unfold maxLen; omega
  · rw [List.mem_singleton] at hc; subst hc; simp [Rw.none_, maxLen]
theorem cel_short (b : List UInt8) (ps : List Nat) (i : Nat) : (cel (LW b) ps i).s.length ≤ maxLen := by
  unfold cel
  rw [List.getD_eq_getElem?_getD]
  cases h : (LW b)[ps.getD i 0]? with
  | none => simp [Rw.none_, maxLen]
  | some c => exact lw_short b c (List.mem_of_getElem? h)
theorem askB_is {k : Int} (h : askB k = true) : 4 ≤ k ∧ k ≤ 9 := by simpa [askB] using h
def bo (x : Bool) : Value := .bool x
theorem Tryz.info4 : (Tryz.prog.info? 4).map (fun i => (i.zero, i.size, i.bytes)) = some (some (.bool false), 1, 1) := by kernel_rfl
/-- Is a part that asks one column true of a cell? -/
def wsay (h : Hd) (c : Ce) : Bool := askB h.k && Pd.leafC c h
theorem wsay_no {h : Hd} (hk : askB h.k = false) (l : List Ce) : l.map (wsay h) = List.replicate l.length false := by
  induction l with
  | nil => rfl
  | cons c l ih => rw [List.map_cons, ih, List.length_cons, List.replicate_succ]; simp [wsay, hk]
theorem wsay_yes {h : Hd} (hk : askB h.k = true) (c : Ce) : wsay h c = Pd.leafC c h := by simp [wsay, hk]
/-- Behind Where: a row of its own beside the chunk. -/
def Told (w w' : World) (g hh : Nat) (b : List UInt8) (fp : Nat → Prop) (L : List Bool) : Prop := ∃ fp' : Nat → Prop, Chk w' g b fp' ∧ (∀ q, fp' q → (fp q ∨ w.heap.size ≤ q) ∧ q ≠ hh) ∧ RowAt bo 4 w' hh L ∧ w.heap.size ≤ hh ∧ w.grownBy w' (some g)
set_option maxRecDepth 100000 in
set_option maxHeartbeats 8000000 in
theorem where_is (h : Hd) (l : List Pr) (v : PV) (dicts : Bool) (g : Nat) (b : List UInt8) (fp : Nat → Prop) (w : World) (hC : Chk w g b fp) (hok : Ok b) (hL : Pd.Lay (fun q => q ≠ g) (Pr.mk' h l) w v) (hF : Pd.Fine (Pr.mk' h l)) (hf : Pd.fit (Pr.mk' h l) 50 5000 = true) :
    Calls Tryz.prog 24 #[.pointer (some ⟨g, 0, none⟩), pvv v, .bool dicts] w fun e w' => ∃ hh, e = .returned (.slice (some ⟨hh, 0, none⟩) (LC b).length (LC b).length) ∧ Told w w' g hh b fp ((LC b).map (wsay h)) := by
  have hglt := hC.lt
  obtain ⟨n, hn⟩ : ∃ n, (LC b).length = n := ⟨_, rfl⟩
  have HLn : Hid ((LC b).length = n) := hn
  have hn7 : n ≤ 65536 := by rw [← hn, LC_len]; exact hok.2.2.1
  have hwl : (LW b).length ≤ 70000 := hok.2.2.2.2
  have HPl : Hid (∀ p ∈ LP b, p < (LW b).length) := hok.2.2.2.1
  have htwo := hC.two.2
  rw [hn] at htwo ⊢
  have hvk : v.k = h.k := hL.head.1.1.1
  obtain ⟨vk, vcol, vn, vm, vs, ⟨sa, sn, sc⟩, ⟨ka, kn, kc⟩⟩ := v
  simp only at hvk
  obtain ⟨w1, hw1⟩ : ∃ w1, w.alloc (pb ⟨vk, vcol, vn, vm, vs, (sa, sn, sc), (ka, kn, kc)⟩) = w1 := ⟨_, rfl⟩
  have hx1 : Ex w w1 := by rw [← hw1]; exact (Below.refl _ _).alloc (Nat.le_refl _) _
  have hP1 : PAt w1 w.heap.size ⟨vk, vcol, vn, vm, vs, (sa, sn, sc), (ka, kn, kc)⟩ := by rw [← hw1]; exact PAt.new w _
  have hs1 : w1.heap.size = w.heap.size + 1 := by rw [← hw1]; simp
  have q1 := dcell_ex htwo hx1
  have HLt : Hid (Pd.Lay (fun q => q ≠ g ∧ q < w.heap.size) (Pr.mk' h l) w ⟨vk, vcol, vn, vm, vs, (sa, sn, sc), (ka, kn, kc)⟩) := hL.lt
  obtain ⟨ak, hak⟩ : ∃ ak, askB vk = ak := ⟨_, rfl⟩
  have HAk : Hid (askB h.k = ak) := (by rw [← hvk]; exact hak : askB h.k = ak)
  have HX1 : Hid (Ex w w1) := hx1
  have HP1 : Hid (PAt w1 w.heap.size ⟨vk, vcol, vn, vm, vs, (sa, sn, sc), (ka, kn, kc)⟩) := hP1
  have HS1 : Hid (w1.heap.size = w.heap.size + 1) := hs1
  have HC1 : Hid (Chk w1 g b (fun q => fp q ∧ q < w.heap.size)) := hC.tight.below hx1
  have HOk : Hid (Ok b) := hok
  have HF : Hid (Pd.Fine (Pr.mk' h l)) := hF
  have HFit : Hid (Pd.fit (Pr.mk' h l) 50 5000 = true) := hf
  obtain ⟨L, hLL⟩ : ∃ L, (LC b).map (wsay h) = L := ⟨_, rfl⟩
  have HLL : Hid ((LC b).map (wsay h) = L) := hLL
  rw [hLL]
  have HLen : Hid (L.length = n) := (by rw [← hLL, List.length_map]; exact hn : L.length = n)
  clear hC hok hL hF hf hn htwo hvk hx1 hP1 hs1 hLL
  unfold pvv
  simp only [sv]
  go_enter Tryz.func24, Tryz.ntmps24
  go_wp2_with (at_make; refine wpList_make_row (enc := bo) rfl _ _ 56 4 rfl false 1 Tryz.underlying56 rfl Tryz.info4 _ _ n rfl rfl rfl rfl (by omega) (by omega) ?_; intro w2 hr2 hb2; have p0 : w2.cell? ⟨w.heap.size, 0, none⟩ = some (.int .i64 vk) := (HP1.out.below hb2).all.1)
  obtain ⟨hh, hhe⟩ : ∃ hh, w1.heap.size = hh := ⟨_, rfl⟩
  rw [hhe] at hr2 ⊢
  have HHe : Hid (w1.heap.size = hh) := hhe
  have HR2 : Hid (RowAt bo 4 w2 hh (List.replicate n false)) := hr2
  have HX2 : Hid (Ex w w2) := HX1.out.trans hb2
  have HP2 : Hid (PAt w2 w.heap.size ⟨vk, vcol, vn, vm, vs, (sa, sn, sc), (ka, kn, kc)⟩) := HP1.out.below hb2
  have HC2 : Hid (Chk w2 g b (fun q => fp q ∧ q < w.heap.size)) := HC1.out.below hb2
  have hsz2 := hr2.lt
  have hhw : w.heap.size < hh := by have := HS1.out; omega
  clear hr2 hb2 hhe q1 hw1
  go_at_call 58
  refine (asks_is vk w2).mono ?_
  rintro e w2' ⟨rfl, hw⟩
  have hw' := hw.symm
  clear hw
  subst hw'
  rw [hak]
  clear hak
  cases ak with
  | false =>
    have HT : Hid (Told w w2 g hh b fp L) := (by
      refine ⟨_, HC2.out, fun q hq => ⟨.inl hq.1, by omega⟩, ?_, by omega, HX2.out.grownBy _⟩
      rw [← HLL.out, wsay_no HAk.out, HLn.out]
      exact HR2.out : Told w w2 g hh b fp L)
    go_wp2_with fail
    go_ret
    exact ⟨hh, rfl, HT.out⟩
  | true =>
    go_wp2_with fail
    go_at_call 56
    refine (values_is g b _ w2 HC2.out HOk.out).mono ?_
    rintro e4 w4 ⟨rfl, hA⟩
    obtain ⟨fp4, hD4, hf4, hg4⟩ := hA
    have HD4 : Hid (ChD w4 g b fp4) := hD4
    have HF4 : Hid (∀ q, fp4 q → (fp q ∨ w.heap.size ≤ q) ∧ q ≠ hh) := (fun q hq => (hf4 q hq).elim (fun h => ⟨.inl h.1, by omega⟩) (fun h => ⟨.inr (by omega), by omega⟩) : ∀ q, fp4 q → (fp q ∨ w.heap.size ≤ q) ∧ q ≠ hh)
    have HG4 : Hid (w.grownBy w4 (some g)) := grown_tr (HX2.out.grownBy _) hg4
    have HR4 : Hid (RowAt bo 4 w4 hh (List.replicate n false)) := (by unfold RowAt; rw [hg4.block hh hsz2 (by simp; omega)]; exact HR2.out : RowAt bo 4 w4 hh (List.replicate n false))
    have HP4 : Hid (PAt w4 w.heap.size ⟨vk, vcol, vn, vm, vs, (sa, sn, sc), (ka, kn, kc)⟩) := HP2.out.far hg4 (by simp; omega)
    have HLy4 : Hid (Pd.Lay (fun q => q ≠ g ∧ q < w.heap.size) (Pr.mk' h l) w4 ⟨vk, vcol, vn, vm, vs, (sa, sn, sc), (ka, kn, kc)⟩) := Pd.Lay.far (row := some g) (fun q hq e => hq.1 (by simpa using e.symm)) _ HLt.out HG4.out
    have hs24 : w2.heap.size ≤ w4.heap.size := hg4.size
    have h49 := askB_is HAk.out
    have HCell : Hid (∀ (i : Nat) (d : Ce) (wx : World), i < n → cel (LW b) (LP b) i = d → w4.grownBy wx (some hh) → Calls Tryz.prog 57 #[.pointer (some ⟨g, 6, none⟩), .int .i64 (i : Int)] wx fun e w' => e = .returned (cv d) ∧ Ex wx w') := (by
      intro i d wx hi hd hg
      obtain ⟨x, y, _, c7, c8, hic, hiz⟩ := Chk.nine (HD4.out.far hg (by omega) (fun h => (HF4.out hh h).2 rfl))
      rw [← hd]
      exact colcell_is g 6 x y (LW b) (LP b) i i wx c7 c8 hic hiz rfl (by rw [← LC_len, HLn.out]; exact hi) HPl.out : ∀ (i : Nat) (d : Ce) (wx : World), i < n → cel (LW b) (LP b) i = d → w4.grownBy wx (some hh) → Calls Tryz.prog 57 #[.pointer (some ⟨g, 6, none⟩), .int .i64 (i : Int)] wx fun e w' => e = .returned (cv d) ∧ Ex wx w')
    have HHold : Hid (∀ (d : Ce) (o : Bool) (wx : World), d.s.length ≤ maxLen → Pd.leafC d h = o → w4.grownBy wx (some hh) → Calls Tryz.prog 59 #[pvv ⟨vk, vcol, vn, vm, vs, (sa, sn, sc), (ka, kn, kc)⟩, cv d] wx fun e w' => e = .returned (.bool o) ∧ Ex wx w') := (by
      intro d o wx hd ho hg
      exact hold_is h l ⟨vk, vcol, vn, vm, vs, (sa, sn, sc), (ka, kn, kc)⟩ d wx (Pd.Lay.mono (fun _ _ => trivial) _ (Pd.Lay.far (row := some hh) (fun q hq e => by simp only [Option.some.injEq] at e; omega) _ HLy4.out hg)) HF.out HFit.out h49.1 h49.2 hd o ho : ∀ (d : Ce) (o : Bool) (wx : World), d.s.length ≤ maxLen → Pd.leafC d h = o → w4.grownBy wx (some hh) → Calls Tryz.prog 59 #[pvv ⟨vk, vcol, vn, vm, vs, (sa, sn, sc), (ka, kn, kc)⟩, cv d] wx fun e w' => e = .returned (.bool o) ∧ Ex wx w')
    have HLi : Hid (∀ i, i < n → ∃ d, cel (LW b) (LP b) i = d ∧ d.s.length ≤ maxLen ∧ L.take (i + 1) = L.take i ++ [Pd.leafC d h]) := (by
      intro i hi
      have hiP : i < (LP b).length := by rw [← LC_len, HLn.out]; exact hi
      refine ⟨_, rfl, cel_short _ _ _, ?_⟩
      rw [← HLL.out, LC_def, take_snoc (by rw [List.length_map, allC_len]; exact hiP), List.getElem_map, allC_at hiP, wsay_yes HAk.out] : ∀ i, i < n → ∃ d, cel (LW b) (LP b) i = d ∧ d.s.length ≤ maxLen ∧ L.take (i + 1) = L.take i ++ [Pd.leafC d h])
    have HTold : Hid (∀ wr, RowAt bo 4 wr hh L → w4.grownBy wr (some hh) → Told w wr g hh b fp L) := (by
      intro wr hr hg
      exact ⟨fp4, .inr (HD4.out.far hg (by omega) (fun h => (HF4.out hh h).2 rfl)), HF4.out, hr, by omega, grown_trN HG4.out hg (fun j hj => by simp only [Option.some.injEq] at hj; omega)⟩ : ∀ wr, RowAt bo 4 wr hh L → w4.grownBy wr (some hh) → Told w wr g hh b fp L)
    clear hD4 hf4 hg4 HC2 HR2 HP2 p0 h49
    cases dicts with
    | false =>
      go_wp2_with fail
      go_loopw [9, 31] (fun iv2 iv wr => ∃ i : Nat, i ≤ n ∧ iv = .int .i64 (i : Int) ∧ Hid (RowAt bo 4 wr hh (L.take i ++ List.replicate (n - i) false)) ∧ Hid (w4.grownBy wr (some hh))) (fun iv2 iv wr => n - (intOf iv).toNat)
      case atStart => exact ⟨0, by omega, rfl, (by simpa using HR4.out : RowAt bo 4 w4 hh (L.take 0 ++ List.replicate (n - 0) false)), World.grownBy.refl _ _⟩
      case round =>
        obtain ⟨i, hi, rfl, HRo, HG⟩ := hrel
        by_cases hlt : i < n
        · have ti : (i : Int) < (n : Int) := by omega
          obtain ⟨d, hcel, hds, htk⟩ := HLi.out i hlt
          obtain ⟨o, ho⟩ : ∃ o, Pd.leafC d h = o := ⟨_, rfl⟩
          rw [ho] at htk
          have HTk : Hid (L.take (i + 1) = L.take i ++ [o]) := htk
          have HPr : Hid (PAt wr w.heap.size ⟨vk, vcol, vn, vm, vs, (sa, sn, sc), (ka, kn, kc)⟩) := HP4.out.far HG.out (by simp only [ne_eq, Option.some.injEq]; omega)
          have HCl : Hid (∀ wx, Ex wr wx → Calls Tryz.prog 57 #[.pointer (some ⟨g, 6, none⟩), .int .i64 (i : Int)] wx fun e w' => e = .returned (cv d) ∧ Ex wx w') := (fun wx hx => HCell.out i d wx hlt hcel (grown_tr HG.out (hx.grownBy _)) : ∀ wx, Ex wr wx → Calls Tryz.prog 57 #[.pointer (some ⟨g, 6, none⟩), .int .i64 (i : Int)] wx fun e w' => e = .returned (cv d) ∧ Ex wx w')
          have HHd : Hid (∀ wx, Ex wr wx → Calls Tryz.prog 59 #[pvv ⟨vk, vcol, vn, vm, vs, (sa, sn, sc), (ka, kn, kc)⟩, cv d] wx fun e w' => e = .returned (.bool o) ∧ Ex wx w') := (fun wx hx => HHold.out d o wx hds ho (grown_tr HG.out (hx.grownBy _)) : ∀ wx, Ex wr wx → Calls Tryz.prog 59 #[pvv ⟨vk, vcol, vn, vm, vs, (sa, sn, sc), (ka, kn, kc)⟩, cv d] wx fun e w' => e = .returned (.bool o) ∧ Ex wx w')
          clear hcel hds htk ho
          go_wp2_with fail
          have hre := Ex.refl
          refine Rg.wp_rows_tail (List.take 8 _) (List.drop 8 _) (List.take_append_drop 8 _).symm [.inl (.slice (some ⟨hh, 0, none⟩) n n), .inl (.int .i64 (i : Int)), .inl (pvv ⟨vk, vcol, vn, vm, vs, (sa, sn, sc), (ka, kn, kc)⟩), .inl (.pointer (some ⟨g, 6, none⟩)), .inl (.int .i64 (i : Int)), .inl (cv d), .inl (.bool o), .inl (.pointer (some ⟨hh, i, none⟩))] (Ex wr) Ex 86 (by kernel_rfl) rfl (by kernel_rfl) (by kernel_rfl) (by kernel_rfl) (by decide) (by kernel_rfl) ?st hre (Ex.drew _) ?goods ?fin
          case st => exact trivial
          case goods =>
            refine Rg.goods_cons (Rg.good_move hre rfl rfl rfl) ?_
            refine Rg.goods_cons (Rg.good_move hre rfl rfl rfl) ?_
            refine Rg.goods_cons (Rg.good_load hre rfl rfl rfl (fun wx hC => (HPr.out.below hC).loadI)) ?_
            refine Rg.goods_cons (Rg.good_move hre rfl rfl rfl) ?_
            refine Rg.goods_cons (Rg.good_move hre rfl rfl rfl) ?_
            refine Rg.goods_cons (Rg.good_call2 Tryz.func57 (by kernel_rfl) rfl rfl rfl (by rintro v0 v1 wx hC rfl rfl; exact ex_rowP (HCl.out wx hC) hC)) ?_
            refine Rg.goods_cons (Rg.good_call2 Tryz.func59 (by kernel_rfl) rfl rfl rfl (by rintro v0 v1 wx hC rfl rfl; exact ex_rowP (HHd.out wx hC) hC)) ?_
            refine Rg.goods_cons (Rg.good_index hre rfl rfl rfl rfl (fun wx hC => by go_simp)) ?_
            exact Rg.goods_nil
          case fin =>
            intro wx hx
            simp only [Rg.later, List.take_succ_cons, List.take_zero, List.drop_succ_cons, List.drop_zero, Act.put, List.setIfInBounds_toArray, List.set_cons_succ, List.set_cons_zero]
            have hRx : RowAt bo 4 wx hh (L.take i ++ List.replicate (n - i) false) := HRo.out.below hx
            have hGx : w4.grownBy wx (some hh) := grown_tr HG.out (hx.grownBy _)
            obtain ⟨m1, hm1⟩ : ∃ m1, n - i = m1 + 1 := ⟨n - i - 1, by omega⟩
            have hal : (L.take i).length = i := by rw [List.length_take, HLen.out]; omega
            have z0 : wx.cell? ⟨hh, i, none⟩ = some (bo ((L.take i ++ List.replicate (n - i) false)[i]'(by rw [List.length_append, hal, List.length_replicate]; omega))) := hRx.cell _
            generalize ((L.take i ++ List.replicate (n - i) false)[i]'(by rw [List.length_append, hal, List.length_replicate]; omega)) = zz at z0
            unfold bo at z0
            have f0 := RowAt.frozen i hRx
            have hR9 : RowAt bo 4 (wx.setCell ⟨hh, i, none⟩ (.bool o)) hh (L.take (i + 1) ++ List.replicate (n - (i + 1)) false) := by
              have h := hRx.set (k := i) (v := .bool o) o rfl
              rw [hm1, fillz_set _ m1 i _ o hal.symm, ← HTk.out] at h
              rw [show n - (i + 1) = m1 by omega]
              exact h
            have HR9 : Hid (RowAt bo 4 (wx.setCell ⟨hh, i, none⟩ (.bool o)) hh (L.take (i + 1) ++ List.replicate (n - (i + 1)) false)) := hR9
            have HG9 : Hid (w4.grownBy (wx.setCell ⟨hh, i, none⟩ (.bool o)) (some hh)) := grown_tr hGx (grown_set1 _ _ _ _)
            clear hRx hGx hm1 hal hR9 hx hre HRo HG
            go_wp2_with fail
            go_roundw
            case rel => exact ⟨i + 1, by omega, by go_num, HR9, HG9⟩
            case measure => simp [intOf]; omega
        · have ti : ¬ (i : Int) < (n : Int) := by omega
          have him : i = n := by omega
          have hro := HRo.out
          rw [him, Nat.sub_self, List.replicate_zero, List.append_nil, List.take_of_length_le (Nat.le_of_eq HLen.out)] at hro
          have HT : Hid (Told w wr g hh b fp L) := HTold.out wr hro HG.out
          clear hro him
          go_wp2_with fail
          go_ret
          exact ⟨hh, rfl, HT.out⟩
    | true =>
      obtain ⟨⟨xa, xn, xc⟩, ⟨ya, yn, yc⟩, hAt, hic, hiz, hix, hiy⟩ := HD4.out
      have c7 : w4.cell? ⟨g, 7, none⟩ = some (.slice xa xn xc) := hAt.cell 7
      have c8 : w4.cell? ⟨g, 8, none⟩ = some (.slice ya yn yc) := hAt.cell 8
      obtain ⟨m, hm⟩ : ∃ m, (LW b).length = m := ⟨_, rfl⟩
      have HM : Hid ((LW b).length = m) := hm
      have hxn : xn = m := hic.1.trans hm
      have hyn : yn = n := hiz.1.trans ((LC_len b).symm.trans HLn.out)
      have hm7 : m ≤ 70000 := by omega
      subst hxn
      subst hyn
      have C7 : Hid (w4.cell? ⟨g, 7, none⟩ = some (.slice xa xn xc)) := c7
      have C8 : Hid (w4.cell? ⟨g, 8, none⟩ = some (.slice ya yn yc)) := c8
      have HIC : Hid (RdC w4 xa xc (LW b)) := hic.2
      have HIZ : Hid (Rd zn w4 ya yc (LP b)) := hiz.2
      have HYb : Hid (0 < yn → ∀ q off, ya = some ⟨q, off, none⟩ → q ≠ hh) := (fun h0 q off e => (HF4.out q (hiy h0 q (by rw [e]; rfl)).2).2 : 0 < yn → ∀ q off, ya = some ⟨q, off, none⟩ → q ≠ hh)
      have HPlm : Hid (∀ p ∈ LP b, p < xn) := (by rw [← hm]; exact HPl.out : ∀ p ∈ LP b, p < xn)
      have hxc : xn ≤ xc := by have h : (LW b).length ≤ xc := hic.2.1; omega
      have hxm : xc ≤ maxLen := hic.2.2.1
      unfold maxLen at hxm
      obtain ⟨S, hS⟩ : ∃ S, (LW b).map (fun c => Pd.leafC c h) = S := ⟨_, rfl⟩
      have HS : Hid ((LW b).map (fun c => Pd.leafC c h) = S) := hS
      have HSl : Hid (S.length = xn) := (by rw [← hS, List.length_map]; exact hm : S.length = xn)
      have c7' : w4.cell? ⟨g, 7, none⟩ = some (.slice xa xn xc) := c7
      clear c7 c8 hic hiz hm hS hwl hAt hix hiy
      go_wp2_with (at_make; refine wpList_make_row (enc := bo) rfl _ _ 56 4 rfl false 1 Tryz.underlying56 rfl Tryz.info4 _ _ xn rfl rfl rfl rfl (by omega) (by omega) ?_; intro w5 hr5 hb5; have d7 : w5.cell? ⟨g, 7, none⟩ = some (.slice xa xn xc) := dcell_ex C7.out hb5)
      obtain ⟨ss, hss⟩ : ∃ ss, w4.heap.size = ss := ⟨_, rfl⟩
      rw [hss] at hr5 ⊢
      have HSS : Hid (w4.heap.size = ss) := hss
      have HX5 : Hid (Ex w4 w5) := hb5
      have HR5 : Hid (RowAt bo 4 w5 ss (List.replicate xn false)) := hr5
      clear hr5 hb5 hss c7' d7
      go_loopw [11, 12, 55] (fun iv2 pv iv wr => ∃ k : Nat, k ≤ xn ∧ iv = .int .i64 (k : Int) ∧ Hid (RowAt bo 4 wr ss (S.take k ++ List.replicate (xn - k) false)) ∧ Hid (Ex w4 wr)) (fun iv2 pv iv wr => xn - (intOf iv).toNat)
      case atStart => exact ⟨0, by omega, rfl, (by simpa using HR5.out : RowAt bo 4 w5 ss (S.take 0 ++ List.replicate (xn - 0) false)), HX5⟩
      case round =>
        obtain ⟨k, hk, rfl, HRo, HX⟩ := hrel
        by_cases hlt : k < xn
        · have ti : (k : Int) < (xn : Int) := by omega
          have hkw : k < (LW b).length := by rw [HM.out]; exact hlt
          obtain ⟨bq, off, rfl, e0, e1, e2, e3⟩ := RdC.four (HIC.out.below HX.out) hkw
          obtain ⟨d, hd⟩ : ∃ d, (LW b)[k] = d := ⟨_, rfl⟩
          rw [hd] at e0 e1 e2 e3
          obtain ⟨o, ho⟩ : ∃ o, Pd.leafC d h = o := ⟨_, rfl⟩
          have htk : S.take (k + 1) = S.take k ++ [o] := by rw [← HS.out, take_snoc (by rw [List.length_map]; exact hkw), List.getElem_map, hd, ho]
          have HTk : Hid (S.take (k + 1) = S.take k ++ [o]) := htk
          have hds : d.s.length ≤ maxLen := lw_short b d (by rw [← hd]; exact List.getElem_mem hkw)
          obtain ⟨wa, hwa⟩ : ∃ wa, wr.alloc (cb d) = wa := ⟨_, rfl⟩
          have hxa : Ex wr wa := by rw [← hwa]; exact (Below.refl _ _).alloc (Nat.le_refl _) _
          have HXa : Hid (Ex w4 wa) := HX.out.trans hxa
          have HPa : Hid (PAt wa w.heap.size ⟨vk, vcol, vn, vm, vs, (sa, sn, sc), (ka, kn, kc)⟩) := HP4.out.below HXa.out
          have hEa : EAt wa wr.heap.size d := by rw [← hwa]; exact EAt.new wr d
          have HHd : Hid (Calls Tryz.prog 59 #[pvv ⟨vk, vcol, vn, vm, vs, (sa, sn, sc), (ka, kn, kc)⟩, cv d] wa fun e w' => e = .returned (.bool o) ∧ Ex wa w') := HHold.out d o wa hds ho (HXa.out.grownBy _)
          have HRa : Hid (RowAt bo 4 wa ss (S.take k ++ List.replicate (xn - k) false)) := HRo.out.below hxa
          obtain ⟨p0, p1, p2, p3, p4, p5, p6⟩ := HPa.out.all
          obtain ⟨g0, g1, g2, g3⟩ := hEa.all
          simp only [sv] at p0 p1 p2 p3 p4 p5 p6
          clear hkw hd ho htk hds hxa hEa HRo HX
          go_wp2_with fail
          go_at_call 59
          refine Calls.mono HHd.out ?_
          rintro e wb ⟨rfl, hxb⟩
          have hRb : RowAt bo 4 wb ss (S.take k ++ List.replicate (xn - k) false) := HRa.out.below hxb
          have HXb : Hid (Ex w4 wb) := HXa.out.trans hxb
          obtain ⟨m1, hm1⟩ : ∃ m1, xn - k = m1 + 1 := ⟨xn - k - 1, by omega⟩
          have hal : (S.take k).length = k := by rw [List.length_take, HSl.out]; omega
          have z0 : wb.cell? ⟨ss, k, none⟩ = some (bo ((S.take k ++ List.replicate (xn - k) false)[k]'(by rw [List.length_append, hal, List.length_replicate]; omega))) := hRb.cell _
          generalize ((S.take k ++ List.replicate (xn - k) false)[k]'(by rw [List.length_append, hal, List.length_replicate]; omega)) = zz at z0
          unfold bo at z0
          have f0 := RowAt.frozen k hRb
          have hR9 : RowAt bo 4 (wb.setCell ⟨ss, k, none⟩ (.bool o)) ss (S.take (k + 1) ++ List.replicate (xn - (k + 1)) false) := by
            have h := hRb.set (k := k) (v := .bool o) o rfl
            rw [hm1, fillz_set _ m1 k _ o hal.symm, ← HTk.out] at h
            rw [show xn - (k + 1) = m1 by omega]
            exact h
          have HR9 : Hid (RowAt bo 4 (wb.setCell ⟨ss, k, none⟩ (.bool o)) ss (S.take (k + 1) ++ List.replicate (xn - (k + 1)) false)) := hR9
          have HX9 : Hid (Ex w4 (wb.setCell ⟨ss, k, none⟩ (.bool o))) := (Below.setCell (p := ⟨ss, k, none⟩) HXb.out (by simp only; exact Nat.le_of_eq HSS.out) _ : Ex w4 (wb.setCell ⟨ss, k, none⟩ (.bool o)))
          clear hxb hRb hm1 hal hR9 p0 p1 p2 p3 p4 p5 p6 g0 g1 g2 g3 e0 e1 e2 e3 HHd HRa HPa
          go_wp2_with fail
          go_roundw
          case rel => exact ⟨k + 1, by omega, by go_num, HR9, HX9⟩
          case measure => simp [intOf]; omega
        · have ti : ¬ (k : Int) < (xn : Int) := by omega
          have him : k = xn := by omega
          have hro := HRo.out
          rw [him, Nat.sub_self, List.replicate_zero, List.append_nil, List.take_of_length_le (Nat.le_of_eq HSl.out)] at hro
          rename World => w6
          have HSR : Hid (RowAt bo 4 w6 ss S) := hro
          have HX6 : Hid (Ex w4 w6) := HX.out
          have HR6 : Hid (RowAt bo 4 w6 hh (List.replicate yn false)) := HR4.out.below HX.out
          have d8 := dcell_ex C8.out HX.out
          have hhs : hh < ss := by have := HSS.out; omega
          clear hro him HRo HX
          go_wp2_with fail
          clear d8
          go_loopw [13, 14, 72] (fun iv2 pv iv wr => ∃ i : Nat, i ≤ yn ∧ iv = .int .i64 (i : Int) ∧ Hid (RowAt bo 4 wr hh (L.take i ++ List.replicate (yn - i) false)) ∧ Hid (w6.grownBy wr (some hh))) (fun iv2 pv iv wr => yn - (intOf iv).toNat)
          case atStart => exact ⟨0, by omega, rfl, (by simpa using HR6.out : RowAt bo 4 w6 hh (L.take 0 ++ List.replicate (yn - 0) false)), World.grownBy.refl _ _⟩
          case round =>
            obtain ⟨i, hi, rfl, HRo, HG⟩ := hrel
            by_cases hlt2 : i < yn
            · have tj : (i : Int) < (yn : Int) := by omega
              obtain ⟨d, hcel, hds, htk⟩ := HLi.out i hlt2
              obtain ⟨o, ho⟩ : ∃ o, Pd.leafC d h = o := ⟨_, rfl⟩
              rw [ho] at htk
              have HTk : Hid (L.take (i + 1) = L.take i ++ [o]) := htk
              have hiP : i < (LP b).length := by rw [← LC_len, HLn.out]; exact hlt2
              have hYr : Rd zn wr ya yc (LP b) := rd_far (HIZ.out.below HX6.out) HG.out (fun _ q off e e2 => HYb.out (by omega) q off e (by simpa using e2.symm))
              obtain ⟨bz, offz, rfl, y0⟩ := hYr.at hiP
              obtain ⟨P, hP⟩ : ∃ P, (LP b)[i] = P := ⟨_, rfl⟩
              rw [hP] at y0
              unfold zn at y0
              have hPm : P < xn := HPlm.out P (by rw [← hP]; exact List.getElem_mem hiP)
              have tP : (P : Int) < (xn : Int) := by omega
              have hSr : RowAt bo 4 wr ss S := by unfold RowAt; rw [HG.out.block ss HSR.out.lt (by simp only [ne_eq, Option.some.injEq]; omega)]; exact HSR.out
              have hPS : P < S.length := by rw [HSl.out]; exact hPm
              have s0 : wr.cell? ⟨ss, P, none⟩ = some (.bool o) := by
                have h := hSr.cell hPS
                rw [h]
                unfold bo
                congr 2
                subst ho
                have hPW : P < (LW b).length := by rw [HM.out]; exact hPm
                have e1 : cel (LW b) (LP b) i = (LW b)[P] := by
                  unfold cel
                  rw [List.getD_eq_getElem?_getD, List.getD_eq_getElem?_getD, List.getElem?_eq_getElem hiP, Option.getD_some, hP, List.getElem?_eq_getElem hPW, Option.getD_some]
                rw [← hcel, e1]
                simp only [← HS.out, List.getElem_map]
              have hRx := HRo.out
              obtain ⟨m1, hm1⟩ : ∃ m1, yn - i = m1 + 1 := ⟨yn - i - 1, by omega⟩
              have hal : (L.take i).length = i := by rw [List.length_take, HLen.out]; omega
              have z0 : wr.cell? ⟨hh, i, none⟩ = some (bo ((L.take i ++ List.replicate (yn - i) false)[i]'(by rw [List.length_append, hal, List.length_replicate]; omega))) := hRx.cell _
              generalize ((L.take i ++ List.replicate (yn - i) false)[i]'(by rw [List.length_append, hal, List.length_replicate]; omega)) = zz at z0
              unfold bo at z0
              have f0 := RowAt.frozen i hRx
              have hR9 : RowAt bo 4 (wr.setCell ⟨hh, i, none⟩ (.bool o)) hh (L.take (i + 1) ++ List.replicate (yn - (i + 1)) false) := by
                have h := hRx.set (k := i) (v := .bool o) o rfl
                rw [hm1, fillz_set _ m1 i _ o hal.symm, ← HTk.out] at h
                rw [show yn - (i + 1) = m1 by omega]
                exact h
              have HR9 : Hid (RowAt bo 4 (wr.setCell ⟨hh, i, none⟩ (.bool o)) hh (L.take (i + 1) ++ List.replicate (yn - (i + 1)) false)) := hR9
              have HG9 : Hid (w6.grownBy (wr.setCell ⟨hh, i, none⟩ (.bool o)) (some hh)) := grown_tr HG.out (grown_set1 _ _ _ _)
              clear hcel hds htk ho hiP hYr hP hSr hPS hRx hm1 hal hR9 HRo HG
              go_wp2_with fail
              go_roundw
              case rel => exact ⟨i + 1, by omega, by go_num, HR9, HG9⟩
              case measure => simp [intOf]; omega
            · have tj : ¬ (i : Int) < (yn : Int) := by omega
              have him : i = yn := by omega
              have hro := HRo.out
              rw [him, Nat.sub_self, List.replicate_zero, List.append_nil, List.take_of_length_le (Nat.le_of_eq HLen.out)] at hro
              have HT : Hid (Told w wr g hh b fp L) := HTold.out wr hro (grown_tr (HX6.out.grownBy _) HG.out)
              clear hro him
              go_wp2_with fail
              go_ret
              exact ⟨hh, rfl, HT.out⟩
end Go.Proofs.YtnmonoafjijfhaaGreat
