/-
  What encode answers. The document's own encode, of some kinds. The document's own encode, of some kinds. The document's own encode, of some kinds.
-/
import Derived.Test.YtbdjccmlgdfapaaGreatLput
import Derived.Test.YtbdjccmlgdfapaaGreatRvarint
import Derived.Test.YtbdjccmlgdfapaaGreatStrs
namespace Go.Proofs.YtbdjccmlgdfapaaGreat
open Go.RowKit
set_option linter.unusedVariables false
set_option linter.unusedSimpArgs false
/-- What encode answers. -/
def EncC (k : Pr) : Prop := ∀ (v : PV) (a : Option Addr) (n cap : Nat) (l r : List UInt8) (w : World), Pd.Lay (fun _ => True) k w v → Pd.form k = true → Pd.num k → Byt w a cap l → l ++ Pd.enc k = r → r.length ≤ 1000000 → n = l.length → Calls Tryz.prog 33 #[.slice a n cap, pvv v] w fun e w' => ∃ v', e = .returned v' ∧ Own w' w.heap.size v' r ∧ Ex w w'
end Go.Proofs.YtbdjccmlgdfapaaGreat
namespace Go.Proofs.YtbdjccmlgdfapaaGreat
open Go.RowKit
set_option linter.unusedVariables false
set_option linter.unusedSimpArgs false
set_option maxHeartbeats 16000000 in
set_option maxRecDepth 100000 in
theorem renc_kids (h : Hd) (ks : List Pr) (ih : ∀ k ∈ ks, EncC k) (hk : h.k = 1 ∨ h.k = 2) : EncC (Pr.mk' h ks) := by
 intro v a n cap l r w hL hF hN hB hr hlen hn
 subst hn
 obtain ⟨hHd, hkn, hkB, hkc, hkm, hk0⟩ := hL.head
 obtain ⟨vk, vcol, vn, vm, vs, ⟨sa, sn, sc⟩, ⟨p, n, kc⟩⟩ := v
 obtain ⟨k, col, hn', m, s, set⟩ := h
 simp only at hkn hkB hkc hkm hk0
 subst hkn
 unfold maxLen at hkm
 obtain ⟨⟨hv1, hv2, hv3, hv4, hv5⟩, hsn, hSB, _⟩ := hHd
 simp only at hv1 hv2 hv3 hv4 hv5 hsn hSB
 subst hv1 hv2 hv3 hv4 hv5 hsn
 simp only at hk
 have hsc1 := hSB.1
 have hsc2 := hSB.2.1
 unfold maxLen at hsc2
 rw [Pd.form_mk, Bool.and_eq_true] at hF
 obtain ⟨hpt, hfk⟩ := hF
 rw [Pd.num_mk] at hN
 obtain ⟨⟨hn1, hn2⟩, hnk⟩ := hN
 rw [Pd.enc_mk] at hr
 have HIH : Hid (∀ k ∈ ks, EncC k) := ih
 have HLw : Hid (Pd.Lay (fun _ => True) (Pr.mk' ⟨vk, vcol, vn, vm, vs, set⟩ ks) w ⟨vk, vcol, vn, vm, vs, (sa, set.length, sc), p, ks.length, kc⟩) := hL
 have HFK : Hid (∀ k ∈ ks, Pd.form k = true) := (by simpa using hfk : ∀ k ∈ ks, Pd.form k = true)
 have HNK : Hid (∀ k ∈ ks, Pd.num k) := hnk
 have HRL : Hid (r.length ≤ 1000000) := hlen
 have HC0 : Hid _ := Pd.part_cases hpt
 obtain ⟨w0, hw0⟩ : ∃ w0, w.alloc (pb ⟨vk, vcol, vn, vm, vs, (sa, set.length, sc), p, ks.length, kc⟩) = w0 := ⟨_, rfl⟩
 have hX0 : Ex w w0 := by rw [← hw0]; exact (Below.refl _ _).alloc (Nat.le_refl _) _
 have HX0 : Hid (Ex w w0) := hX0
 have HP0 : Hid (PAt w0 w.heap.size ⟨vk, vcol, vn, vm, vs, (sa, set.length, sc), p, ks.length, kc⟩) := (by rw [← hw0]; exact PAt.new w _ : PAt w0 w.heap.size _)
 have HB0 : Hid (Byt w0 a cap l) := hB.below hX0
 have HSB : Hid (Rd st w0 sa sc set) := (hSB.below hX0 : Rd st w0 sa sc set)
 have hkr : 1 ≤ vk ∧ vk ≤ 10 := Pd.part_kind hpt
 have hKw : IntKind.u64.wrap vk = vk := I.wraps64 _ (by omega) (by omega)
 obtain ⟨l1, hl1⟩ : ∃ L, l ++ M.digs vk.toNat = L := ⟨_, rfl⟩
 have HL1 : Hid (l ++ M.digs vk.toNat = l1) := hl1
 obtain ⟨rest, hrest⟩ : ∃ R, (if vk = 1 ∨ vk = 2 then M.digs ks.length else if vk = 3 then [] else if vk = 10 then M.digs (M.zig vn).toNat ++ M.digs (M.zig vm).toNat
  else T.ptext vcol ++ (if vk = 4 ∨ vk = 5 then M.digs (M.zig vn).toNat else if vk = 6 ∨ vk = 8 then T.ptext vs else if vk = 7 then M.digs set.length ++ T.texts set else [])) = R := ⟨_, rfl⟩
 have HRS : Hid _ := hrest
 have HR : Hid (l1 ++ (rest ++ (ks.map Pd.enc).flatten) = r) := (by rw [← hr, ← hl1, ← hrest, Pd.encH]; simp : l1 ++ (rest ++ (ks.map Pd.enc).flatten) = r)
 have hq1 : l1.length + (rest.length + ((ks.map Pd.enc).flatten).length) = r.length := by have h := congrArg List.length HR.out; simp only [List.length_append] at h; exact h
 have hq0 : l.length ≤ l1.length := by rw [← hl1]; simp
 obtain ⟨c0, c1, c2, c3, c4, c5, c6⟩ := HP0.out.all
 simp only at c0 c1 c2 c3 c4 c5 c6
 have HQ1 : Hid (l1.length + (rest.length + ((ks.map Pd.enc).flatten).length) = r.length) := hq1
 have hq2 : l1.length ≤ 1000000 := by omega
 have HQ0 : Hid (l.length ≤ l1.length) := hq0
 have HKH : Hid _ := hk
 have HKR : Hid (1 ≤ vk ∧ vk ≤ 10) := hkr
 clear hL hB hX0 hfk hnk ih hkB hSB hpt hl1 hrest hr hq1 hq0 hk hlen
 unfold pvv
 simp only [sv]
 go_enter Tryz.func33, Tryz.ntmps33
 go_wp2_with fail
 go_at_call 57
 refine (rput_is a _ cap l l1 _ vk.toNat _ (by have := HKR.out; omega) HL1.out HB0.out rfl (by have := HKR.out; omega) (by have := HQ0.out; omega)).mono ?_
 rintro e w1 ⟨v1, rfl, ho, hx⟩
 have HO1 : Hid (Own w1 w.heap.size v1 l1) := (ho.mono HX0.out.size : Own w1 w.heap.size v1 _)
 have HX1 : Hid (Ex w w1) := (HX0.out.trans hx : Ex w w1)
 have HP1 : Hid (PAt w1 w.heap.size ⟨vk, vcol, vn, vm, vs, (sa, set.length, sc), p, ks.length, kc⟩) := (HP0.out.below hx : PAt _ _ _)
 have HSB1 : Hid (Rd st w1 sa sc set) := (HSB.out.below hx : Rd st w1 sa sc set)
 obtain ⟨a1, c1', hv1, hb⟩ := HO1.out.byt
 subst hv1
 have HB1 : Hid (Byt w1 a1 c1' l1) := hb
 clear ho hx hb c0 c1 c2 c3 c4 c5 c6
 obtain ⟨c0, c1, c2, c3, c4, c5, c6⟩ := HP1.out.all
 simp only at c0 c1 c2 c3 c4 c5 c6
 have hk := HKH.out
 have hRS := HRS.out
 clear HKH HRS
 rw [if_pos hk] at hRS
 subst hRS
 obtain ⟨l2, hl2⟩ : ∃ L, l1 ++ M.digs ks.length = L := ⟨_, rfl⟩
 have HL2 : Hid (l1 ++ M.digs ks.length = l2) := hl2
 have HL3 : Hid (l2 ++ (ks.map Pd.enc).flatten = r) := (by rw [← hl2, ← HR.out]; simp : l2 ++ (ks.map Pd.enc).flatten = r)
 have hkl : ks.length ≤ 1000000 := by have h1 := HQ1.out; have h2 := Pd.kids_enc ks; have h3 := HRL.out; omega
 have hKw2 : IntKind.u64.wrap (ks.length : Int) = (ks.length : Int) := I.wraps64 _ (by omega) (by omega)
 clear hl2
 rcases hk with rfl | rfl
 ·skip
  go_wp2_with fail
  go_at_call 57
  refine (rput_is a1 _ c1' l1 l2 _ ks.length _ rfl HL2.out HB1.out rfl (by omega) (by omega)).mono ?_
  rintro e w2 ⟨v2, rfl, ho, hx⟩
  have HOS : Hid (Own w2 w.heap.size v2 (l2 ++ ((ks.take 0).map Pd.enc).flatten)) := (by simpa using ho.mono HX1.out.size : Own w2 w.heap.size v2 _)
  have HX2 : Hid (Ex w w2) := (HX1.out.trans hx : Ex w w2)
  have HP2 := HP1.out.below hx
  replace HP2 : Hid (PAt w2 w.heap.size _) := HP2
  clear ho hx c0 c1 c2 c3 c4 c5 c6
  go_wp2_with fail
  go_loopw [5, 0] (fun iv bv wr => ∃ i : Nat, i ≤ ks.length ∧ iv = .int .i64 i ∧ Hid (Own wr w.heap.size bv (l2 ++ ((ks.take i).map Pd.enc).flatten)) ∧ Hid (Ex w2 wr)) (fun iv bv wr => ks.length - (intOf iv).toNat)
  case atStart => exact ⟨0, by omega, rfl, HOS, (Ex.refl w2 : Ex w2 w2)⟩
  case round =>
   obtain ⟨i, hi, rfl, HO, HXr⟩ := hrel
   obtain ⟨g0, g1, g2, g3, g4, g5, g6⟩ := (HP2.out.below HXr.out).all
   simp only at g0 g1 g2 g3 g4 g5 g6
   by_cases hlt : i < ks.length
   ·have hti : (i : Int) < (ks.length : Int) := by omega
    have hLr := Pd.Lay.below _ HLw.out (HX2.out.trans HXr.out)
    obtain ⟨b, off, u, hpp, hbg, hLk, e0, e1, e2, e3, e4, e5, e6⟩ := hLr.kid hlt
    simp only at hpp
    obtain ⟨k, hk⟩ : ∃ k, ks[i] = k := ⟨_, rfl⟩
    rw [hk] at hLk
    have hkm2 : k ∈ ks := by rw [← hk]; exact List.getElem_mem hlt
    obtain ⟨L, hL⟩ : ∃ L, l2 ++ ((ks.take i).map Pd.enc).flatten = L := ⟨_, rfl⟩
    have HNL : Hid (L ++ Pd.enc k = l2 ++ ((ks.take (i + 1)).map Pd.enc).flatten) := (by rw [← hL, List.take_add_one, List.getElem?_eq_getElem hlt, hk]; simp : _ = _)
    have HNR : Hid ((l2 ++ ((ks.take (i + 1)).map Pd.enc).flatten).length ≤ 1000000) := (by have h := Pd.enc_take ks (i + 1); have h2 := congrArg List.length HL3.out; rw [List.length_append] at h2 ⊢; have h3 := HRL.out; omega : _ ≤ 1000000)
    obtain ⟨pa, pc', hpv, hpb⟩ := HO.out.byt
    subst hpv
    rw [hL] at hpb
    rw [hL]
    have HC3 : Hid (Calls Tryz.prog 33 #[.slice pa L.length pc', pvv u] wr fun e w' => ∃ v', e = .returned v' ∧ Own w' wr.heap.size v' (l2 ++ ((ks.take (i + 1)).map Pd.enc).flatten) ∧ Ex wr w') := HIH.out k hkm2 u pa _ pc' L _ wr hLk (HFK.out k hkm2) (HNK.out k hkm2) hpb HNL.out HNR.out rfl
    subst hpp
    clear hLr hLk hk hbg hpb hL HO hkm2
    go_wp2_with fail
    go_at_call 33
    refine Calls.mono HC3.out ?_
    rintro e w4 ⟨v4, rfl, ho4, hx4⟩
    have HO4 : Hid (Own w4 w.heap.size v4 (l2 ++ ((ks.take (i + 1)).map Pd.enc).flatten)) := (ho4.mono (HX2.out.trans HXr.out).size : Own w4 w.heap.size v4 _)
    have HX4 : Hid (Ex w2 w4) := (HXr.out.trans hx4 : Ex w2 w4)
    clear ho4 hx4 HC3
    go_wp2_with fail
    go_roundw
    case rel => exact ⟨i + 1, by omega, by go_num, HO4, HX4⟩
    case measure => simp [intOf]; omega
   ·have hti : ¬ (i : Int) < (ks.length : Int) := by omega
    have HO9 : Hid (Own wr w.heap.size u0 r) := (by have h := HO.out; rw [List.take_of_length_le (by omega), HL3.out] at h; exact h : Own wr w.heap.size u0 r)
    go_wp2_with fail
    go_ret
    exact ⟨_, rfl, HO9.out, HX2.out.trans HXr.out⟩
 ·skip
  go_wp2_with fail
  go_at_call 57
  refine (rput_is a1 _ c1' l1 l2 _ ks.length _ rfl HL2.out HB1.out rfl (by omega) (by omega)).mono ?_
  rintro e w2 ⟨v2, rfl, ho, hx⟩
  have HOS : Hid (Own w2 w.heap.size v2 (l2 ++ ((ks.take 0).map Pd.enc).flatten)) := (by simpa using ho.mono HX1.out.size : Own w2 w.heap.size v2 _)
  have HX2 : Hid (Ex w w2) := (HX1.out.trans hx : Ex w w2)
  have HP2 := HP1.out.below hx
  replace HP2 : Hid (PAt w2 w.heap.size _) := HP2
  clear ho hx c0 c1 c2 c3 c4 c5 c6
  go_wp2_with fail
  go_loopw [5, 0] (fun iv bv wr => ∃ i : Nat, i ≤ ks.length ∧ iv = .int .i64 i ∧ Hid (Own wr w.heap.size bv (l2 ++ ((ks.take i).map Pd.enc).flatten)) ∧ Hid (Ex w2 wr)) (fun iv bv wr => ks.length - (intOf iv).toNat)
  case atStart => exact ⟨0, by omega, rfl, HOS, (Ex.refl w2 : Ex w2 w2)⟩
  case round =>
   obtain ⟨i, hi, rfl, HO, HXr⟩ := hrel
   obtain ⟨g0, g1, g2, g3, g4, g5, g6⟩ := (HP2.out.below HXr.out).all
   simp only at g0 g1 g2 g3 g4 g5 g6
   by_cases hlt : i < ks.length
   ·have hti : (i : Int) < (ks.length : Int) := by omega
    have hLr := Pd.Lay.below _ HLw.out (HX2.out.trans HXr.out)
    obtain ⟨b, off, u, hpp, hbg, hLk, e0, e1, e2, e3, e4, e5, e6⟩ := hLr.kid hlt
    simp only at hpp
    obtain ⟨k, hk⟩ : ∃ k, ks[i] = k := ⟨_, rfl⟩
    rw [hk] at hLk
    have hkm2 : k ∈ ks := by rw [← hk]; exact List.getElem_mem hlt
    obtain ⟨L, hL⟩ : ∃ L, l2 ++ ((ks.take i).map Pd.enc).flatten = L := ⟨_, rfl⟩
    have HNL : Hid (L ++ Pd.enc k = l2 ++ ((ks.take (i + 1)).map Pd.enc).flatten) := (by rw [← hL, List.take_add_one, List.getElem?_eq_getElem hlt, hk]; simp : _ = _)
    have HNR : Hid ((l2 ++ ((ks.take (i + 1)).map Pd.enc).flatten).length ≤ 1000000) := (by have h := Pd.enc_take ks (i + 1); have h2 := congrArg List.length HL3.out; rw [List.length_append] at h2 ⊢; have h3 := HRL.out; omega : _ ≤ 1000000)
    obtain ⟨pa, pc', hpv, hpb⟩ := HO.out.byt
    subst hpv
    rw [hL] at hpb
    rw [hL]
    have HC3 : Hid (Calls Tryz.prog 33 #[.slice pa L.length pc', pvv u] wr fun e w' => ∃ v', e = .returned v' ∧ Own w' wr.heap.size v' (l2 ++ ((ks.take (i + 1)).map Pd.enc).flatten) ∧ Ex wr w') := HIH.out k hkm2 u pa _ pc' L _ wr hLk (HFK.out k hkm2) (HNK.out k hkm2) hpb HNL.out HNR.out rfl
    subst hpp
    clear hLr hLk hk hbg hpb hL HO hkm2
    go_wp2_with fail
    go_at_call 33
    refine Calls.mono HC3.out ?_
    rintro e w4 ⟨v4, rfl, ho4, hx4⟩
    have HO4 : Hid (Own w4 w.heap.size v4 (l2 ++ ((ks.take (i + 1)).map Pd.enc).flatten)) := (ho4.mono (HX2.out.trans HXr.out).size : Own w4 w.heap.size v4 _)
    have HX4 : Hid (Ex w2 w4) := (HXr.out.trans hx4 : Ex w2 w4)
    clear ho4 hx4 HC3
    go_wp2_with fail
    go_roundw
    case rel => exact ⟨i + 1, by omega, by go_num, HO4, HX4⟩
    case measure => simp [intOf]; omega
   ·have hti : ¬ (i : Int) < (ks.length : Int) := by omega
    have HO9 : Hid (Own wr w.heap.size u0 r) := (by have h := HO.out; rw [List.take_of_length_le (by omega), HL3.out] at h; exact h : Own wr w.heap.size u0 r)
    go_wp2_with fail
    go_ret
    exact ⟨_, rfl, HO9.out, HX2.out.trans HXr.out⟩
end Go.Proofs.YtbdjccmlgdfapaaGreat
namespace Go.Proofs.YtbdjccmlgdfapaaGreat
open Go.RowKit
set_option linter.unusedVariables false
set_option linter.unusedSimpArgs false
set_option maxHeartbeats 16000000 in
set_option maxRecDepth 100000 in
theorem renc_not (h : Hd) (ks : List Pr) (ih : ∀ k ∈ ks, EncC k) (hk : h.k = 3) : EncC (Pr.mk' h ks) := by
 intro v a n cap l r w hL hF hN hB hr hlen hn
 subst hn
 obtain ⟨hHd, hkn, hkB, hkc, hkm, hk0⟩ := hL.head
 obtain ⟨vk, vcol, vn, vm, vs, ⟨sa, sn, sc⟩, ⟨p, n, kc⟩⟩ := v
 obtain ⟨k, col, hn', m, s, set⟩ := h
 simp only at hkn hkB hkc hkm hk0
 subst hkn
 unfold maxLen at hkm
 obtain ⟨⟨hv1, hv2, hv3, hv4, hv5⟩, hsn, hSB, _⟩ := hHd
 simp only at hv1 hv2 hv3 hv4 hv5 hsn hSB
 subst hv1 hv2 hv3 hv4 hv5 hsn
 simp only at hk
 have hsc1 := hSB.1
 have hsc2 := hSB.2.1
 unfold maxLen at hsc2
 rw [Pd.form_mk, Bool.and_eq_true] at hF
 obtain ⟨hpt, hfk⟩ := hF
 rw [Pd.num_mk] at hN
 obtain ⟨⟨hn1, hn2⟩, hnk⟩ := hN
 rw [Pd.enc_mk] at hr
 have HIH : Hid (∀ k ∈ ks, EncC k) := ih
 have HLw : Hid (Pd.Lay (fun _ => True) (Pr.mk' ⟨vk, vcol, vn, vm, vs, set⟩ ks) w ⟨vk, vcol, vn, vm, vs, (sa, set.length, sc), p, ks.length, kc⟩) := hL
 have HFK : Hid (∀ k ∈ ks, Pd.form k = true) := (by simpa using hfk : ∀ k ∈ ks, Pd.form k = true)
 have HNK : Hid (∀ k ∈ ks, Pd.num k) := hnk
 have HRL : Hid (r.length ≤ 1000000) := hlen
 have HC0 : Hid _ := Pd.part_cases hpt
 obtain ⟨w0, hw0⟩ : ∃ w0, w.alloc (pb ⟨vk, vcol, vn, vm, vs, (sa, set.length, sc), p, ks.length, kc⟩) = w0 := ⟨_, rfl⟩
 have hX0 : Ex w w0 := by rw [← hw0]; exact (Below.refl _ _).alloc (Nat.le_refl _) _
 have HX0 : Hid (Ex w w0) := hX0
 have HP0 : Hid (PAt w0 w.heap.size ⟨vk, vcol, vn, vm, vs, (sa, set.length, sc), p, ks.length, kc⟩) := (by rw [← hw0]; exact PAt.new w _ : PAt w0 w.heap.size _)
 have HB0 : Hid (Byt w0 a cap l) := hB.below hX0
 have HSB : Hid (Rd st w0 sa sc set) := (hSB.below hX0 : Rd st w0 sa sc set)
 have hkr : 1 ≤ vk ∧ vk ≤ 10 := Pd.part_kind hpt
 have hKw : IntKind.u64.wrap vk = vk := I.wraps64 _ (by omega) (by omega)
 obtain ⟨l1, hl1⟩ : ∃ L, l ++ M.digs vk.toNat = L := ⟨_, rfl⟩
 have HL1 : Hid (l ++ M.digs vk.toNat = l1) := hl1
 obtain ⟨rest, hrest⟩ : ∃ R, (if vk = 1 ∨ vk = 2 then M.digs ks.length else if vk = 3 then [] else if vk = 10 then M.digs (M.zig vn).toNat ++ M.digs (M.zig vm).toNat
  else T.ptext vcol ++ (if vk = 4 ∨ vk = 5 then M.digs (M.zig vn).toNat else if vk = 6 ∨ vk = 8 then T.ptext vs else if vk = 7 then M.digs set.length ++ T.texts set else [])) = R := ⟨_, rfl⟩
 have HRS : Hid _ := hrest
 have HR : Hid (l1 ++ (rest ++ (ks.map Pd.enc).flatten) = r) := (by rw [← hr, ← hl1, ← hrest, Pd.encH]; simp : l1 ++ (rest ++ (ks.map Pd.enc).flatten) = r)
 have hq1 : l1.length + (rest.length + ((ks.map Pd.enc).flatten).length) = r.length := by have h := congrArg List.length HR.out; simp only [List.length_append] at h; exact h
 have hq0 : l.length ≤ l1.length := by rw [← hl1]; simp
 obtain ⟨c0, c1, c2, c3, c4, c5, c6⟩ := HP0.out.all
 simp only at c0 c1 c2 c3 c4 c5 c6
 have HQ1 : Hid (l1.length + (rest.length + ((ks.map Pd.enc).flatten).length) = r.length) := hq1
 have hq2 : l1.length ≤ 1000000 := by omega
 have HQ0 : Hid (l.length ≤ l1.length) := hq0
 have HKH : Hid _ := hk
 have HKR : Hid (1 ≤ vk ∧ vk ≤ 10) := hkr
 clear hL hB hX0 hfk hnk ih hkB hSB hpt hl1 hrest hr hq1 hq0 hk hlen
 unfold pvv
 simp only [sv]
 go_enter Tryz.func33, Tryz.ntmps33
 go_wp2_with fail
 go_at_call 57
 refine (rput_is a _ cap l l1 _ vk.toNat _ (by have := HKR.out; omega) HL1.out HB0.out rfl (by have := HKR.out; omega) (by have := HQ0.out; omega)).mono ?_
 rintro e w1 ⟨v1, rfl, ho, hx⟩
 have HO1 : Hid (Own w1 w.heap.size v1 l1) := (ho.mono HX0.out.size : Own w1 w.heap.size v1 _)
 have HX1 : Hid (Ex w w1) := (HX0.out.trans hx : Ex w w1)
 have HP1 : Hid (PAt w1 w.heap.size ⟨vk, vcol, vn, vm, vs, (sa, set.length, sc), p, ks.length, kc⟩) := (HP0.out.below hx : PAt _ _ _)
 have HSB1 : Hid (Rd st w1 sa sc set) := (HSB.out.below hx : Rd st w1 sa sc set)
 obtain ⟨a1, c1', hv1, hb⟩ := HO1.out.byt
 subst hv1
 have HB1 : Hid (Byt w1 a1 c1' l1) := hb
 clear ho hx hb c0 c1 c2 c3 c4 c5 c6
 obtain ⟨c0, c1, c2, c3, c4, c5, c6⟩ := HP1.out.all
 simp only at c0 c1 c2 c3 c4 c5 c6
 have hk := HKH.out
 have hRS := HRS.out
 clear HKH HRS
 rw [if_neg (by omega), if_pos hk] at hRS
 subst hRS
 obtain ⟨q, hq⟩ : ∃ q, ks = [q] := by
  rcases HC0.out with ⟨k, hk', he⟩ | ⟨he, h1⟩ | ⟨k, c, x, hk', hc, he, h1⟩ | ⟨k, c, s1, hk', hc, hs1, he, h1⟩ | ⟨c, t, hc, ht, hta, hts, he, h1⟩ | ⟨c, hc, he, h1⟩ | ⟨x, y, he, h1⟩
  ·simp only [Pd.hk, Hd.mk.injEq] at he; omega
  ·exact List.length_eq_one_iff.1 h1
  all_goals (simp only [Hd.mk.injEq] at he; omega)
 subst hq
 subst hk
 have HL2 : Hid (l1 ++ Pd.enc q = r) := (by rw [← HR.out]; simp : l1 ++ Pd.enc q = r)
 have hLr := Pd.Lay.below _ HLw.out HX1.out
 obtain ⟨b, off, u, hpp, hbg, hLk, e0, e1, e2, e3, e4, e5, e6⟩ := hLr.kid (i := 0) (by simp)
 simp only [List.getElem_cons_zero] at hpp hLk
 simp only [Nat.zero_mul, Nat.add_zero] at e0 e1 e2 e3 e4 e5 e6
 have HC3 : Hid (Calls Tryz.prog 33 #[.slice a1 l1.length c1', pvv u] w1 fun e w' => ∃ v', e = .returned v' ∧ Own w' w1.heap.size v' r ∧ Ex w1 w') := HIH.out q (by simp) u a1 _ c1' l1 _ w1 hLk (HFK.out q (by simp)) (HNK.out q (by simp)) HB1.out HL2.out HRL.out rfl
 subst hpp
 simp only [List.length_cons, List.length_nil, Nat.zero_add] at c6
 clear hLr hLk hbg
 go_wp2_with fail
 go_at_call 33
 refine Calls.mono HC3.out ?_
 rintro e w4 ⟨v4, rfl, ho4, hx4⟩
 have HO4 : Hid (Own w4 w.heap.size v4 r) := (ho4.mono HX1.out.size : Own w4 w.heap.size v4 _)
 have HX4 : Hid (Ex w w4) := (HX1.out.trans hx4 : Ex w w4)
 clear ho4 hx4 HC3
 go_wp2_with fail
 go_ret
 exact ⟨_, rfl, HO4.out, HX4.out⟩
end Go.Proofs.YtbdjccmlgdfapaaGreat
namespace Go.Proofs.YtbdjccmlgdfapaaGreat
open Go.RowKit
set_option linter.unusedVariables false
set_option linter.unusedSimpArgs false
set_option maxHeartbeats 16000000 in
set_option maxRecDepth 100000 in
theorem renc_less (h : Hd) (ks : List Pr) (ih : ∀ k ∈ ks, EncC k) (hk : h.k = 4 ∨ h.k = 5) : EncC (Pr.mk' h ks) := by
 intro v a n cap l r w hL hF hN hB hr hlen hn
 subst hn
 obtain ⟨hHd, hkn, hkB, hkc, hkm, hk0⟩ := hL.head
 obtain ⟨vk, vcol, vn, vm, vs, ⟨sa, sn, sc⟩, ⟨p, n, kc⟩⟩ := v
 obtain ⟨k, col, hn', m, s, set⟩ := h
 simp only at hkn hkB hkc hkm hk0
 subst hkn
 unfold maxLen at hkm
 obtain ⟨⟨hv1, hv2, hv3, hv4, hv5⟩, hsn, hSB, _⟩ := hHd
 simp only at hv1 hv2 hv3 hv4 hv5 hsn hSB
 subst hv1 hv2 hv3 hv4 hv5 hsn
 simp only at hk
 have hsc1 := hSB.1
 have hsc2 := hSB.2.1
 unfold maxLen at hsc2
 rw [Pd.form_mk, Bool.and_eq_true] at hF
 obtain ⟨hpt, hfk⟩ := hF
 rw [Pd.num_mk] at hN
 obtain ⟨⟨hn1, hn2⟩, hnk⟩ := hN
 rw [Pd.enc_mk] at hr
 have HIH : Hid (∀ k ∈ ks, EncC k) := ih
 have HLw : Hid (Pd.Lay (fun _ => True) (Pr.mk' ⟨vk, vcol, vn, vm, vs, set⟩ ks) w ⟨vk, vcol, vn, vm, vs, (sa, set.length, sc), p, ks.length, kc⟩) := hL
 have HFK : Hid (∀ k ∈ ks, Pd.form k = true) := (by simpa using hfk : ∀ k ∈ ks, Pd.form k = true)
 have HNK : Hid (∀ k ∈ ks, Pd.num k) := hnk
 have HRL : Hid (r.length ≤ 1000000) := hlen
 have HC0 : Hid _ := Pd.part_cases hpt
 obtain ⟨w0, hw0⟩ : ∃ w0, w.alloc (pb ⟨vk, vcol, vn, vm, vs, (sa, set.length, sc), p, ks.length, kc⟩) = w0 := ⟨_, rfl⟩
 have hX0 : Ex w w0 := by rw [← hw0]; exact (Below.refl _ _).alloc (Nat.le_refl _) _
 have HX0 : Hid (Ex w w0) := hX0
 have HP0 : Hid (PAt w0 w.heap.size ⟨vk, vcol, vn, vm, vs, (sa, set.length, sc), p, ks.length, kc⟩) := (by rw [← hw0]; exact PAt.new w _ : PAt w0 w.heap.size _)
 have HB0 : Hid (Byt w0 a cap l) := hB.below hX0
 have HSB : Hid (Rd st w0 sa sc set) := (hSB.below hX0 : Rd st w0 sa sc set)
 have hkr : 1 ≤ vk ∧ vk ≤ 10 := Pd.part_kind hpt
 have hKw : IntKind.u64.wrap vk = vk := I.wraps64 _ (by omega) (by omega)
 obtain ⟨l1, hl1⟩ : ∃ L, l ++ M.digs vk.toNat = L := ⟨_, rfl⟩
 have HL1 : Hid (l ++ M.digs vk.toNat = l1) := hl1
 obtain ⟨rest, hrest⟩ : ∃ R, (if vk = 1 ∨ vk = 2 then M.digs ks.length else if vk = 3 then [] else if vk = 10 then M.digs (M.zig vn).toNat ++ M.digs (M.zig vm).toNat
  else T.ptext vcol ++ (if vk = 4 ∨ vk = 5 then M.digs (M.zig vn).toNat else if vk = 6 ∨ vk = 8 then T.ptext vs else if vk = 7 then M.digs set.length ++ T.texts set else [])) = R := ⟨_, rfl⟩
 have HRS : Hid _ := hrest
 have HR : Hid (l1 ++ (rest ++ (ks.map Pd.enc).flatten) = r) := (by rw [← hr, ← hl1, ← hrest, Pd.encH]; simp : l1 ++ (rest ++ (ks.map Pd.enc).flatten) = r)
 have hq1 : l1.length + (rest.length + ((ks.map Pd.enc).flatten).length) = r.length := by have h := congrArg List.length HR.out; simp only [List.length_append] at h; exact h
 have hq0 : l.length ≤ l1.length := by rw [← hl1]; simp
 obtain ⟨c0, c1, c2, c3, c4, c5, c6⟩ := HP0.out.all
 simp only at c0 c1 c2 c3 c4 c5 c6
 have HQ1 : Hid (l1.length + (rest.length + ((ks.map Pd.enc).flatten).length) = r.length) := hq1
 have hq2 : l1.length ≤ 1000000 := by omega
 have HQ0 : Hid (l.length ≤ l1.length) := hq0
 have HKH : Hid _ := hk
 have HKR : Hid (1 ≤ vk ∧ vk ≤ 10) := hkr
 clear hL hB hX0 hfk hnk ih hkB hSB hpt hl1 hrest hr hq1 hq0 hk hlen
 unfold pvv
 simp only [sv]
 go_enter Tryz.func33, Tryz.ntmps33
 go_wp2_with fail
 go_at_call 57
 refine (rput_is a _ cap l l1 _ vk.toNat _ (by have := HKR.out; omega) HL1.out HB0.out rfl (by have := HKR.out; omega) (by have := HQ0.out; omega)).mono ?_
 rintro e w1 ⟨v1, rfl, ho, hx⟩
 have HO1 : Hid (Own w1 w.heap.size v1 l1) := (ho.mono HX0.out.size : Own w1 w.heap.size v1 _)
 have HX1 : Hid (Ex w w1) := (HX0.out.trans hx : Ex w w1)
 have HP1 : Hid (PAt w1 w.heap.size ⟨vk, vcol, vn, vm, vs, (sa, set.length, sc), p, ks.length, kc⟩) := (HP0.out.below hx : PAt _ _ _)
 have HSB1 : Hid (Rd st w1 sa sc set) := (HSB.out.below hx : Rd st w1 sa sc set)
 obtain ⟨a1, c1', hv1, hb⟩ := HO1.out.byt
 subst hv1
 have HB1 : Hid (Byt w1 a1 c1' l1) := hb
 clear ho hx hb c0 c1 c2 c3 c4 c5 c6
 obtain ⟨c0, c1, c2, c3, c4, c5, c6⟩ := HP1.out.all
 simp only at c0 c1 c2 c3 c4 c5 c6
 have hk := HKH.out
 have hRS := HRS.out
 clear HKH HRS
 have hks : ks = [] := by
  rcases HC0.out with ⟨k, hk', he⟩ | ⟨he, h1⟩ | ⟨k, c, x, hk', hc, he, h1⟩ | ⟨k, c, s1, hk', hc, hs1, he, h1⟩ | ⟨c, t, hc, ht, hta, hts, he, h1⟩ | ⟨c, hc, he, h1⟩ | ⟨x, y, he, h1⟩
  ·simp only [Pd.hk, Hd.mk.injEq] at he; omega
  ·simp only [Pd.hk, Hd.mk.injEq] at he; omega
  all_goals exact List.eq_nil_of_length_eq_zero h1
 have HRR : Hid (l1 ++ rest = r) := (by rw [← HR.out, hks]; simp : l1 ++ rest = r)
 have hre := Ex.refl
 have hq9 : l1.length + rest.length ≤ 1000000 := by have h1 := HQ1.out; have h2 := HRL.out; omega
 obtain ⟨G, hG, hGl⟩ := zig_nat' hn1
 have HG : Hid (M.zig vn = (G : Int)) := hG
 have htG : (M.zig vn).toNat = G := by rw [hG]; rfl
 have bG := hn1
 unfold In64 at bG
 rw [if_neg (by omega), if_neg (by omega), if_neg (by omega), if_pos hk, htG] at hRS
 obtain ⟨l2, hl2⟩ : ∃ L, l1 ++ M.digs vcol.length ++ vcol = L := ⟨_, rfl⟩
 have HL2 : Hid (l1 ++ M.digs vcol.length ++ vcol = l2) := hl2
 have HL3 : Hid (l2 ++ M.digs G = r) := (by rw [← HRR.out, ← hRS, ← hl2, T.ptext]; simp : l2 ++ M.digs G = r)
 have hq3 : l2.length ≤ 1000000 ∧ vcol.length ≤ 1000000 := by have h1 := congrArg List.length HL3.out; have h2 := HRL.out; have h3 := congrArg List.length hl2; simp only [List.length_append] at h1 h3; omega
 clear hl2 hRS htG hG
 rcases hk with rfl | rfl
 ·go_wp2_with fail
  refine Rg.wp_rows_tail (List.take 8 _) (List.drop 8 _) (List.take_append_drop 8 _).symm [.inl (Value.slice a1 l1.length c1'), .inl (Value.pointer (some ⟨w.heap.size, 1, none⟩)), .inl (Value.string (str vcol)), .inr (IsByt l2), .inl (Value.pointer (some ⟨w.heap.size, 2, none⟩)), .inl (Value.int .i64 vn), .inl (Value.int .u64 (G : Int)), .inr (fun v wx => Own wx w.heap.size v r)] (Ex w1) Ex 109 (by kernel_rfl) rfl (by kernel_rfl) (by kernel_rfl) (by kernel_rfl) (by decide) (by kernel_rfl) ?st hre (Ex.drew _) ?goods ?fin
  case st => exact ⟨IsByt.stands _, (fun v w' w'' h hx => h.later hx), trivial⟩
  case goods =>
   refine Rg.goods_cons (Rg.good_move hre rfl rfl rfl) ?_
   refine Rg.goods_cons (Rg.good_field hre rfl rfl rfl (fun wx hC => by go_simp)) ?_
   refine Rg.goods_cons (Rg.good_load hre rfl rfl rfl (fun wx hC => by have hz := (HP1.out.below hC).all.2.1; simp only at hz; go_simp)) ?_
   refine Rg.goods_cons (Rg.good_call2 Tryz.func58 (by kernel_rfl) rfl rfl rfl (by rintro y0 y1 wx hC rfl rfl; exact byt_row' (rputText_any a1 c1' l1 vcol l2 wx (HB1.out.below hC) HL2.out (by omega)) hC)) ?_
   refine Rg.goods_cons (Rg.good_field hre rfl rfl rfl (fun wx hC => by go_simp)) ?_
   refine Rg.goods_cons (Rg.good_load hre rfl rfl rfl (fun wx hC => by have hz := (HP1.out.below hC).all.2.2.1; simp only at hz; go_simp)) ?_
   refine Rg.goods_cons (Rg.good_call1 Tryz.func59 (by kernel_rfl) rfl rfl rfl (by rintro y0 wx hC rfl; exact val_row (rzig_any vn G wx bG.1 bG.2 HG.out) hC)) ?_
   refine Rg.goods_cons (Rg.good_call2 Tryz.func57 (by kernel_rfl) rfl rfl rfl (by rintro y0 y1 wx hC hu rfl; obtain ⟨pa, pc, rfl, pb⟩ := hu; exact own_row (rput_is pa _ pc l2 r _ G wx rfl HL3.out pb rfl hGl (by omega)) HX1.out.size hC)) ?_
   exact Rg.goods_nil
  case fin =>
   intro wx hx
   simp only [Rg.later, List.take_succ_cons, List.take_zero, List.drop_succ_cons, List.drop_zero, Act.put, List.setIfInBounds_toArray, List.set_cons_succ, List.set_cons_zero]
   rintro u51 _ uO hO
   have HXx : Hid (Ex w wx) := (HX1.out.trans hx : Ex w wx)
   have HOx : Hid (Own wx w.heap.size uO r) := hO
   clear hx hO
   go_wp2_with fail
   go_ret
   exact ⟨_, rfl, HOx.out, HXx.out⟩
 ·go_wp2_with fail
  refine Rg.wp_rows_tail (List.take 8 _) (List.drop 8 _) (List.take_append_drop 8 _).symm [.inl (Value.slice a1 l1.length c1'), .inl (Value.pointer (some ⟨w.heap.size, 1, none⟩)), .inl (Value.string (str vcol)), .inr (IsByt l2), .inl (Value.pointer (some ⟨w.heap.size, 2, none⟩)), .inl (Value.int .i64 vn), .inl (Value.int .u64 (G : Int)), .inr (fun v wx => Own wx w.heap.size v r)] (Ex w1) Ex 109 (by kernel_rfl) rfl (by kernel_rfl) (by kernel_rfl) (by kernel_rfl) (by decide) (by kernel_rfl) ?st hre (Ex.drew _) ?goods ?fin
  case st => exact ⟨IsByt.stands _, (fun v w' w'' h hx => h.later hx), trivial⟩
  case goods =>
   refine Rg.goods_cons (Rg.good_move hre rfl rfl rfl) ?_
   refine Rg.goods_cons (Rg.good_field hre rfl rfl rfl (fun wx hC => by go_simp)) ?_
   refine Rg.goods_cons (Rg.good_load hre rfl rfl rfl (fun wx hC => by have hz := (HP1.out.below hC).all.2.1; simp only at hz; go_simp)) ?_
   refine Rg.goods_cons (Rg.good_call2 Tryz.func58 (by kernel_rfl) rfl rfl rfl (by rintro y0 y1 wx hC rfl rfl; exact byt_row' (rputText_any a1 c1' l1 vcol l2 wx (HB1.out.below hC) HL2.out (by omega)) hC)) ?_
   refine Rg.goods_cons (Rg.good_field hre rfl rfl rfl (fun wx hC => by go_simp)) ?_
   refine Rg.goods_cons (Rg.good_load hre rfl rfl rfl (fun wx hC => by have hz := (HP1.out.below hC).all.2.2.1; simp only at hz; go_simp)) ?_
   refine Rg.goods_cons (Rg.good_call1 Tryz.func59 (by kernel_rfl) rfl rfl rfl (by rintro y0 wx hC rfl; exact val_row (rzig_any vn G wx bG.1 bG.2 HG.out) hC)) ?_
   refine Rg.goods_cons (Rg.good_call2 Tryz.func57 (by kernel_rfl) rfl rfl rfl (by rintro y0 y1 wx hC hu rfl; obtain ⟨pa, pc, rfl, pb⟩ := hu; exact own_row (rput_is pa _ pc l2 r _ G wx rfl HL3.out pb rfl hGl (by omega)) HX1.out.size hC)) ?_
   exact Rg.goods_nil
  case fin =>
   intro wx hx
   simp only [Rg.later, List.take_succ_cons, List.take_zero, List.drop_succ_cons, List.drop_zero, Act.put, List.setIfInBounds_toArray, List.set_cons_succ, List.set_cons_zero]
   rintro u51 _ uO hO
   have HXx : Hid (Ex w wx) := (HX1.out.trans hx : Ex w wx)
   have HOx : Hid (Own wx w.heap.size uO r) := hO
   clear hx hO
   go_wp2_with fail
   go_ret
   exact ⟨_, rfl, HOx.out, HXx.out⟩
end Go.Proofs.YtbdjccmlgdfapaaGreat
