/-
  The landed putSet, put, Encode.
-/
import Derived.Test.YtbdjccmlgdfapaaGreatPstep
namespace Go.Proofs.YtbdjccmlgdfapaaGreat
open Go.RowKit
set_option linter.unusedVariables false
set_option linter.unusedSimpArgs false
theorem zig_nat' {n : Int} (h : In64 n) : ∃ G : Nat, M.zig n = (G : Int) ∧ G < 18446744073709551616 := by
 have := Rw.zig_lt h
 exact ⟨(M.zig n).toNat, by omega, this.1⟩
namespace Pd
theorem fine_num : ∀ p, Fine p → num p := by
 refine tree ?_
 intro h l ih hF
 rw [fine_mk] at hF
 rw [num_mk]
 exact ⟨⟨hF.1.n, hF.1.m⟩, fun x hx => ih x hx (hF.2.2 x hx)⟩
end Pd
namespace Pd
theorem enc_pos (p : Pr) : 1 ≤ (enc p).length := by
 rw [← mk_ks p, enc_mk, List.length_append]
 unfold encH
 rw [List.length_append]
 have := (M.digs_len p.h.k.toNat).1
 omega
theorem kids_enc : ∀ l : List Pr, l.length ≤ ((l.map enc).flatten).length
 | [] => by simp
 | x :: t => by
  have h1 := kids_enc t
  have h2 := enc_pos x
  simp only [List.map_cons, List.flatten_cons, List.length_append, List.length_cons]
  omega
theorem enc_take (l : List Pr) (i : Nat) : (((l.take i).map enc).flatten).length ≤ ((l.map enc).flatten).length := by
 have h : (l.map enc).flatten = ((l.take i).map enc).flatten ++ ((l.drop i).map enc).flatten := by rw [← List.flatten_append, ← List.map_append, List.take_append_drop]
 rw [h, List.length_append]; omega
end Pd
set_option maxHeartbeats 4000000 in
set_option maxRecDepth 100000 in
theorem putSet_is (a : Option Addr) (n cap : Nat) (l r : List UInt8) (sa : Option Addr) (sn sc : Nat) (d : List (List UInt8)) (w : World) (hB : Byt w a cap l) (hS : Rd st w sa sc d) (hn : n = l.length) (hsn : sn = d.length) (hd : d.length ≤ 8) (hds : ∀ s ∈ d, s.length ≤ 40) (hlen : l.length ≤ 1000000) (hr : l ++ (M.digs d.length ++ T.texts d) = r) :
  Calls Tryz.prog 56 #[.slice a n cap, .slice sa sn sc] w fun e w' => ∃ v', e = .returned v' ∧ Own w' w.heap.size v' r ∧ Ex w w' := by
 subst hn
 subst hsn
 have h1 := hS.1
 have h2 := hS.2.1
 unfold maxLen at h2
 obtain ⟨l1, hl1⟩ : ∃ l1, l ++ M.digs d.length = l1 := ⟨_, rfl⟩
 have HL1 : Hid (l ++ M.digs d.length = l1) := hl1
 have HS : Hid (Rd st w sa sc d) := hS
 have HB : Hid (Byt w a cap l) := hB
 have HR : Hid (l1 ++ T.texts d = r) := (by rw [← hr, ← hl1, List.append_assoc] : l1 ++ T.texts d = r)
 have HDS : Hid (∀ s ∈ d, s.length ≤ 40) := hds
 have hq : l1.length ≤ 1000010 := by
  have := M.digs_len d.length
  rw [← hl1, List.length_append]; omega
 have HT : Hid (∀ i, (T.texts (d.take i)).length ≤ 400) := (by
  intro i
  have h3 := Pd.texts_le (d := d.take i) (fun s hs => hds s (List.mem_of_mem_take hs))
  have h4 : (d.take i).length ≤ 8 := by rw [List.length_take]; omega
  omega : ∀ i, (T.texts (d.take i)).length ≤ 400)
 have hKw : IntKind.u64.wrap (d.length : Int) = (d.length : Int) := I.wraps64 _ (by omega) (by omega)
 clear hl1 hr hS hB hds
 go_enter Tryz.func56, Tryz.ntmps56
 go_wp2_with fail
 go_at_call 53
 refine (put_is a _ cap l l1 _ d.length _ rfl HL1.out HB.out rfl (by omega) (by omega)).mono ?_
 rintro e w1 ⟨v1, rfl, ho1, hx1⟩
 have HO1 : Hid (Own w1 w.heap.size v1 (l1 ++ T.texts (d.take 0))) := (by simpa [T.texts] using ho1 : Own w1 w.heap.size v1 (l1 ++ T.texts (d.take 0)))
 have HX1 : Hid (Ex w w1) := hx1
 clear ho1 hx1
 go_wp2_with fail
 go_loopw [14, 0, 6] (fun iv bv sv6 wr => ∃ i : Nat, i ≤ d.length ∧ iv = .int .i64 i ∧ Hid (Own wr w.heap.size bv (l1 ++ T.texts (d.take i))) ∧ Hid (Ex w wr)) (fun iv bv sv6 wr => d.length - (intOf iv).toNat)
 case atStart => exact ⟨0, by omega, rfl, HO1, HX1⟩
 case round =>
  obtain ⟨i, hi, rfl, HO, HXr⟩ := hrel
  by_cases hlt : i < d.length
  ·have hti : (i : Int) < (d.length : Int) := by omega
   obtain ⟨b, off, hpp, e0⟩ := (HS.out.below HXr.out).at hlt
   obtain ⟨x, hx⟩ : ∃ x, d[i] = x := ⟨_, rfl⟩
   rw [hx] at e0
   have HXL : Hid (x.length ≤ 40) := (by rw [← hx]; exact HDS.out _ (List.getElem_mem hlt) : x.length ≤ 40)
   have hxl : x.length ≤ 40 := HXL.out
   have HNX : Hid (l1 ++ T.texts (d.take i) ++ M.digs x.length ++ x = l1 ++ T.texts (d.take (i + 1))) := (by
    rw [List.take_add_one, List.getElem?_eq_getElem hlt, hx]
    simp [T.texts, T.ptext] : l1 ++ T.texts (d.take i) ++ M.digs x.length ++ x = l1 ++ T.texts (d.take (i + 1)))
   obtain ⟨L, hL⟩ : ∃ L, l1 ++ T.texts (d.take i) = L := ⟨_, rfl⟩
   have hLL : L.length ≤ 1001000 := by
    have := HT.out i
    rw [← hL, List.length_append]; omega
   obtain ⟨pa, pc', hpv, hpb⟩ := HO.out.byt
   subst hpv
   rw [hL] at hpb
   have HPB : Hid (Byt wr pa pc' L) := hpb
   have HNL : Hid (L ++ M.digs x.length ++ x = l1 ++ T.texts (d.take (i + 1))) := (by rw [← hL]; exact HNX.out : L ++ M.digs x.length ++ x = l1 ++ T.texts (d.take (i + 1)))
   rw [hL]
   subst hpp
   clear hx hpb hL HO HNX
   go_wp2_with fail
   go_at_call 54
   refine (putText_any pa pc' L x _ _ HPB.out HNL.out (by omega)).mono ?_
   rintro e w2 ⟨v2, rfl, ho2, hx2⟩
   have HO2 : Hid (Own w2 w.heap.size v2 (l1 ++ T.texts (d.take (i + 1)))) := (ho2.mono HXr.out.size : Own w2 w.heap.size v2 _)
   have HX2 : Hid (Ex w w2) := (HXr.out.trans hx2 : Ex w w2)
   clear ho2 hx2
   go_wp2_with fail
   go_roundw
   case rel => exact ⟨i + 1, by omega, by go_num, HO2, HX2⟩
   case measure => simp [intOf]; omega
  ·have hti : ¬ (i : Int) < (d.length : Int) := by omega
   have HO9 : Hid (Own wr w.heap.size u0 r) := (by
    have h := HO.out
    rw [List.take_of_length_le (by omega), HR.out] at h
    exact h : Own wr w.heap.size u0 r)
   go_wp2_with fail
   go_ret
   exact ⟨_, rfl, HO9.out, HXr.out⟩
set_option maxHeartbeats 16000000 in
set_option maxRecDepth 100000 in
theorem pput_is : ∀ (q : Pr) (v : PV) (a : Option Addr) (n cap : Nat) (l r : List UInt8) (w : World), Pd.Lay (fun _ => True) q w v → Pd.form q = true → Pd.num q → Byt w a cap l → l ++ Pd.enc q = r → r.length ≤ 1000000 → n = l.length →
  Calls Tryz.prog 32 #[.slice a n cap, pvv v] w fun e w' => ∃ v', e = .returned v' ∧ Own w' w.heap.size v' r ∧ Ex w w' := by
 refine Pd.tree ?_
 intro h ks ih v a n cap l r w hL hF hN hB hr hlen hn
 subst hn
 obtain ⟨hHd, hkn, hkB, hkc, hkm, hk0⟩ := hL.head
 obtain ⟨vk, vcol, vn, vm, vs, ⟨sa, sn, sc⟩, ⟨p, n, kc⟩⟩ := v
 obtain ⟨k, col, hn', m, s, set⟩ := h
 simp only at hkn hkB hkc hkm hk0
 subst hkn
 unfold maxLen at hkm
 obtain ⟨⟨hv1, hv2, hv3, hv4, hv5⟩, hsn, hSB, _⟩ := hHd
 simp only at hv1 hv2 hv3 hv4 hv5 hsn hSB
 subst hv1 hv2 hv3 hv4 hv5 hsn
 rw [Pd.form_mk, Bool.and_eq_true] at hF
 obtain ⟨hpt, hfk⟩ := hF
 rw [Pd.num_mk] at hN
 obtain ⟨⟨hn1, hn2⟩, hnk⟩ := hN
 rw [Pd.enc_mk] at hr
 have HIH : Hid (∀ k ∈ ks, ∀ (v : PV) (a : Option Addr) (n cap : Nat) (l r : List UInt8) (w : World), Pd.Lay (fun _ => True) k w v → Pd.form k = true → Pd.num k → Byt w a cap l → l ++ Pd.enc k = r → r.length ≤ 1000000 → n = l.length →
  Calls Tryz.prog 32 #[.slice a n cap, pvv v] w fun e w' => ∃ v', e = .returned v' ∧ Own w' w.heap.size v' r ∧ Ex w w') := ih
 have HLw : Hid (Pd.Lay (fun _ => True) (Pr.mk' ⟨vk, vcol, vn, vm, vs, set⟩ ks) w ⟨vk, vcol, vn, vm, vs, (sa, set.length, sc), p, ks.length, kc⟩) := hL
 have HFK : Hid (∀ k ∈ ks, Pd.form k = true) := (by simpa using hfk : ∀ k ∈ ks, Pd.form k = true)
 have HNK : Hid (∀ k ∈ ks, Pd.num k) := hnk
 have HRL : Hid (r.length ≤ 1000000) := hlen
 obtain ⟨w0, hw0⟩ : ∃ w0, w.alloc (pb ⟨vk, vcol, vn, vm, vs, (sa, set.length, sc), p, ks.length, kc⟩) = w0 := ⟨_, rfl⟩
 have hX0 : Ex w w0 := by rw [← hw0]; exact (Below.refl _ _).alloc (Nat.le_refl _) _
 have HX0 : Hid (Ex w w0) := hX0
 have HP0 : Hid (PAt w0 w.heap.size ⟨vk, vcol, vn, vm, vs, (sa, set.length, sc), p, ks.length, kc⟩) := (by rw [← hw0]; exact PAt.new w _ : PAt w0 w.heap.size _)
 have HB0 : Hid (Byt w0 a cap l) := hB.below hX0
 have HSB : Hid (Rd st w0 sa sc set) := (hSB.below hX0 : Rd st w0 sa sc set)
 have HC0 := Pd.part_cases hpt
 clear hL hB hX0 hfk hnk ih hkB hSB hpt
 unfold pvv
 simp only [sv]
 rcases HC0 with ⟨k, hk, he⟩ | ⟨he, h1⟩ | ⟨k, c, x, hk, hc, he, h1⟩ | ⟨k, c, s1, hk, hc, hs1, he, h1⟩ | ⟨c, t, hc, ht, hta, hts, he, h1⟩ | ⟨c, hc, he, h1⟩ | ⟨x, y, he, h1⟩
 ·skip
  simp only [Pd.hk, Hd.mk.injEq] at he
  obtain ⟨h11, h12, h13, h14, h15, h16⟩ := he
  subst h11 h12 h13 h14 h15 h16
  rcases hk with rfl | rfl
  ·skip
   have hkl : ks.length ≤ 1000000 := by
    have h := congrArg List.length hr
    simp only [List.length_append] at h
    have h2 := Pd.kids_enc ks
    have h3 := HRL.out
    omega
   have hKw : IntKind.u64.wrap (ks.length : Int) = (ks.length : Int) := I.wraps64 _ (by omega) (by omega)
   obtain ⟨L1, hL1⟩ : ∃ L, l ++ M.digs 1 = L := ⟨_, rfl⟩
   obtain ⟨L2, hL2⟩ : ∃ L, L1 ++ M.digs ks.length = L := ⟨_, rfl⟩
   have HL1 : Hid (l ++ M.digs 1 = L1) := hL1
   have HL2 : Hid (L1 ++ M.digs ks.length = L2) := hL2
   have HL3 : Hid (L2 ++ (ks.map Pd.enc).flatten = r) := (by rw [← hr, ← hL2, ← hL1]; simp [Pd.encH, T.ptext] : L2 ++ (ks.map Pd.enc).flatten = r)
   have hq : r.length ≤ 1000000 := HRL.out
   have hq2 : L2.length ≤ 1000000 := by have h := congrArg List.length HL3.out; simp only [List.length_append] at h; omega
   have hq1 : L1.length ≤ 1000000 := by have h := congrArg List.length HL2.out; simp only [List.length_append] at h; omega
   have hq0 : l.length ≤ 1000000 := by have h := congrArg List.length HL1.out; simp only [List.length_append] at h; omega
   clear hr hL1 hL2
   try simp only [pb, List.length_nil, List.length_cons, Nat.zero_add] at hw0
   go_enter Tryz.func32, Tryz.ntmps32
   obtain ⟨g0, g1, g2, g3, g4, g5, g6⟩ := HP0.out.all
   simp only [List.length_nil, List.length_cons, Nat.zero_add] at g0 g1 g2 g3 g4 g5 g6
   go_wp2_with fail
   go_at_call 53
   refine (put_is a _ cap l L1 _ 1 _ rfl HL1.out HB0.out rfl (by omega) (by omega)).mono ?_
   rintro e w1 ⟨v1, rfl, ho, hx⟩
   have HO1 : Hid (Own w1 w.heap.size v1 L1) := (ho.mono HX0.out.size : Own w1 w.heap.size v1 _)
   have HX1 : Hid (Ex w w1) := (HX0.out.trans hx : Ex w w1)
   have HP1 := HP0.out.below hx
   replace HP1 : Hid (PAt w1 w.heap.size _) := HP1
   obtain ⟨a1, c1, hv1, hb⟩ := HO1.out.byt
   subst hv1
   have HB1 : Hid (Byt w1 a1 c1 L1) := hb
   clear ho hx hb g0 g1 g2 g3 g4 g5 g6
   obtain ⟨g0, g1, g2, g3, g4, g5, g6⟩ := HP1.out.all
   simp only [List.length_nil, List.length_cons, Nat.zero_add] at g0 g1 g2 g3 g4 g5 g6
   go_wp2_with fail
   go_at_call 53
   refine (put_is a1 _ c1 L1 L2 _ ks.length _ rfl HL2.out HB1.out rfl (by omega) (by omega)).mono ?_
   rintro e w2 ⟨v2, rfl, ho, hx⟩
   have HO2 : Hid (Own w2 w.heap.size v2 L2) := (ho.mono HX1.out.size : Own w2 w.heap.size v2 _)
   have HX2 : Hid (Ex w w2) := (HX1.out.trans hx : Ex w w2)
   have HP2 := HP1.out.below hx
   replace HP2 : Hid (PAt w2 w.heap.size _) := HP2
   obtain ⟨a2, c2, hv2, hb⟩ := HO2.out.byt
   subst hv2
   have HB2 : Hid (Byt w2 a2 c2 L2) := hb
   clear ho hx hb g0 g1 g2 g3 g4 g5 g6
   obtain ⟨g0, g1, g2, g3, g4, g5, g6⟩ := HP2.out.all
   simp only [List.length_nil, List.length_cons, Nat.zero_add] at g0 g1 g2 g3 g4 g5 g6
   have HOS : Hid (Own w2 w.heap.size (.slice a2 L2.length c2) (L2 ++ ((ks.take 0).map Pd.enc).flatten)) := (by simpa using HO2.out : Own w2 w.heap.size _ _)
   go_wp2_with fail
   go_loopw [26, 0, 6] (fun iv bv kv wr => ∃ i : Nat, i ≤ ks.length ∧ iv = .int .i64 i ∧ Hid (Own wr w.heap.size bv (L2 ++ ((ks.take i).map Pd.enc).flatten)) ∧ Hid (Ex w wr)) (fun iv bv kv wr => ks.length - (intOf iv).toNat)
   case atStart => exact ⟨0, by omega, rfl, HOS, HX2⟩
   case round =>
    obtain ⟨i, hi, rfl, HO, HXr⟩ := hrel
    by_cases hlt : i < ks.length
    ·have hti : (i : Int) < (ks.length : Int) := by omega
     have hLr := Pd.Lay.below _ HLw.out HXr.out
     obtain ⟨b, off, u, hpp, hbg, hLk, e0, e1, e2, e3, e4, e5, e6⟩ := hLr.kid hlt
     simp only at hpp
     obtain ⟨k, hk⟩ : ∃ k, ks[i] = k := ⟨_, rfl⟩
     rw [hk] at hLk
     have HK : Hid (k ∈ ks) := (by rw [← hk]; exact List.getElem_mem hlt : k ∈ ks)
     obtain ⟨L, hL⟩ : ∃ L, L2 ++ ((ks.take i).map Pd.enc).flatten = L := ⟨_, rfl⟩
     have HNL : Hid (L ++ Pd.enc k = L2 ++ ((ks.take (i + 1)).map Pd.enc).flatten) := (by rw [← hL, List.take_add_one, List.getElem?_eq_getElem hlt, hk]; simp : L ++ Pd.enc k = L2 ++ ((ks.take (i + 1)).map Pd.enc).flatten)
     have HNR : Hid ((L2 ++ ((ks.take (i + 1)).map Pd.enc).flatten).length ≤ 1000000) := (by have h := Pd.enc_take ks (i + 1); have h2 := congrArg List.length HL3.out; rw [List.length_append] at h2 ⊢; have h3 := HRL.out; omega : (L2 ++ ((ks.take (i + 1)).map Pd.enc).flatten).length ≤ 1000000)
     obtain ⟨pa, pc', hpv, hpb⟩ := HO.out.byt
     subst hpv
     rw [hL] at hpb
     rw [hL]
     obtain ⟨w3, hw3⟩ : ∃ w3, wr.alloc (pb u) = w3 := ⟨_, rfl⟩
     have hX3 : Ex wr w3 := by rw [← hw3]; exact (Below.refl _ _).alloc (Nat.le_refl _) _
     have HX3 : Hid (Ex w w3) := (HXr.out.trans hX3 : Ex w w3)
     have HC3 : Hid (Calls Tryz.prog 32 #[.slice pa L.length pc', pvv u] w3 fun e w' => ∃ v', e = .returned v' ∧ Own w' w3.heap.size v' (L2 ++ ((ks.take (i + 1)).map Pd.enc).flatten) ∧ Ex w3 w') := HIH.out k HK.out u pa _ pc' L _ w3 (Pd.Lay.below _ hLk hX3) (HFK.out k HK.out) (HNK.out k HK.out) (hpb.below hX3) HNL.out HNR.out rfl
     have HP3 : Hid (PAt w3 wr.heap.size u) := (by rw [← hw3]; exact PAt.new wr u : PAt w3 wr.heap.size u)
     obtain ⟨q0, q1, q2, q3, q4, q5, q6⟩ := HP3.out.all
     subst hpp
     clear hLr hLk hk hX3 hbg hpb hL HO
     go_wp2_with fail
     go_at_call 32
     refine Calls.mono HC3.out ?_
     rintro e w4 ⟨v4, rfl, ho4, hx4⟩
     have HO4 : Hid (Own w4 w.heap.size v4 (L2 ++ ((ks.take (i + 1)).map Pd.enc).flatten)) := (ho4.mono HX3.out.size : Own w4 w.heap.size v4 _)
     have HX4 : Hid (Ex w w4) := (HX3.out.trans hx4 : Ex w w4)
     clear ho4 hx4 HC3
     go_wp2_with fail
     go_roundw
     case rel => exact ⟨i + 1, by omega, by go_num, HO4, HX4⟩
     case measure => simp [intOf]; omega
    ·have hti : ¬ (i : Int) < (ks.length : Int) := by omega
     have HO9 : Hid (Own wr w.heap.size u0 r) := (by have h := HO.out; rw [List.take_of_length_le (by omega), HL3.out] at h; exact h : Own wr w.heap.size u0 r)
     go_wp2_with fail
     go_ret
     exact ⟨_, rfl, HO9.out, HXr.out⟩
  ·skip
   have hkl : ks.length ≤ 1000000 := by
    have h := congrArg List.length hr
    simp only [List.length_append] at h
    have h2 := Pd.kids_enc ks
    have h3 := HRL.out
    omega
   have hKw : IntKind.u64.wrap (ks.length : Int) = (ks.length : Int) := I.wraps64 _ (by omega) (by omega)
   obtain ⟨L1, hL1⟩ : ∃ L, l ++ M.digs 2 = L := ⟨_, rfl⟩
   obtain ⟨L2, hL2⟩ : ∃ L, L1 ++ M.digs ks.length = L := ⟨_, rfl⟩
   have HL1 : Hid (l ++ M.digs 2 = L1) := hL1
   have HL2 : Hid (L1 ++ M.digs ks.length = L2) := hL2
   have HL3 : Hid (L2 ++ (ks.map Pd.enc).flatten = r) := (by rw [← hr, ← hL2, ← hL1]; simp [Pd.encH, T.ptext] : L2 ++ (ks.map Pd.enc).flatten = r)
   have hq : r.length ≤ 1000000 := HRL.out
   have hq2 : L2.length ≤ 1000000 := by have h := congrArg List.length HL3.out; simp only [List.length_append] at h; omega
   have hq1 : L1.length ≤ 1000000 := by have h := congrArg List.length HL2.out; simp only [List.length_append] at h; omega
   have hq0 : l.length ≤ 1000000 := by have h := congrArg List.length HL1.out; simp only [List.length_append] at h; omega
   clear hr hL1 hL2
   try simp only [pb, List.length_nil, List.length_cons, Nat.zero_add] at hw0
   go_enter Tryz.func32, Tryz.ntmps32
   obtain ⟨g0, g1, g2, g3, g4, g5, g6⟩ := HP0.out.all
   simp only [List.length_nil, List.length_cons, Nat.zero_add] at g0 g1 g2 g3 g4 g5 g6
   go_wp2_with fail
   go_at_call 53
   refine (put_is a _ cap l L1 _ 2 _ rfl HL1.out HB0.out rfl (by omega) (by omega)).mono ?_
   rintro e w1 ⟨v1, rfl, ho, hx⟩
   have HO1 : Hid (Own w1 w.heap.size v1 L1) := (ho.mono HX0.out.size : Own w1 w.heap.size v1 _)
   have HX1 : Hid (Ex w w1) := (HX0.out.trans hx : Ex w w1)
   have HP1 := HP0.out.below hx
   replace HP1 : Hid (PAt w1 w.heap.size _) := HP1
   obtain ⟨a1, c1, hv1, hb⟩ := HO1.out.byt
   subst hv1
   have HB1 : Hid (Byt w1 a1 c1 L1) := hb
   clear ho hx hb g0 g1 g2 g3 g4 g5 g6
   obtain ⟨g0, g1, g2, g3, g4, g5, g6⟩ := HP1.out.all
   simp only [List.length_nil, List.length_cons, Nat.zero_add] at g0 g1 g2 g3 g4 g5 g6
   go_wp2_with fail
   go_at_call 53
   refine (put_is a1 _ c1 L1 L2 _ ks.length _ rfl HL2.out HB1.out rfl (by omega) (by omega)).mono ?_
   rintro e w2 ⟨v2, rfl, ho, hx⟩
   have HO2 : Hid (Own w2 w.heap.size v2 L2) := (ho.mono HX1.out.size : Own w2 w.heap.size v2 _)
   have HX2 : Hid (Ex w w2) := (HX1.out.trans hx : Ex w w2)
   have HP2 := HP1.out.below hx
   replace HP2 : Hid (PAt w2 w.heap.size _) := HP2
   obtain ⟨a2, c2, hv2, hb⟩ := HO2.out.byt
   subst hv2
   have HB2 : Hid (Byt w2 a2 c2 L2) := hb
   clear ho hx hb g0 g1 g2 g3 g4 g5 g6
   obtain ⟨g0, g1, g2, g3, g4, g5, g6⟩ := HP2.out.all
   simp only [List.length_nil, List.length_cons, Nat.zero_add] at g0 g1 g2 g3 g4 g5 g6
   have HOS : Hid (Own w2 w.heap.size (.slice a2 L2.length c2) (L2 ++ ((ks.take 0).map Pd.enc).flatten)) := (by simpa using HO2.out : Own w2 w.heap.size _ _)
   go_wp2_with fail
   go_loopw [26, 0, 6] (fun iv bv kv wr => ∃ i : Nat, i ≤ ks.length ∧ iv = .int .i64 i ∧ Hid (Own wr w.heap.size bv (L2 ++ ((ks.take i).map Pd.enc).flatten)) ∧ Hid (Ex w wr)) (fun iv bv kv wr => ks.length - (intOf iv).toNat)
   case atStart => exact ⟨0, by omega, rfl, HOS, HX2⟩
   case round =>
    obtain ⟨i, hi, rfl, HO, HXr⟩ := hrel
    by_cases hlt : i < ks.length
    ·have hti : (i : Int) < (ks.length : Int) := by omega
     have hLr := Pd.Lay.below _ HLw.out HXr.out
     obtain ⟨b, off, u, hpp, hbg, hLk, e0, e1, e2, e3, e4, e5, e6⟩ := hLr.kid hlt
     simp only at hpp
     obtain ⟨k, hk⟩ : ∃ k, ks[i] = k := ⟨_, rfl⟩
     rw [hk] at hLk
     have HK : Hid (k ∈ ks) := (by rw [← hk]; exact List.getElem_mem hlt : k ∈ ks)
     obtain ⟨L, hL⟩ : ∃ L, L2 ++ ((ks.take i).map Pd.enc).flatten = L := ⟨_, rfl⟩
     have HNL : Hid (L ++ Pd.enc k = L2 ++ ((ks.take (i + 1)).map Pd.enc).flatten) := (by rw [← hL, List.take_add_one, List.getElem?_eq_getElem hlt, hk]; simp : L ++ Pd.enc k = L2 ++ ((ks.take (i + 1)).map Pd.enc).flatten)
     have HNR : Hid ((L2 ++ ((ks.take (i + 1)).map Pd.enc).flatten).length ≤ 1000000) := (by have h := Pd.enc_take ks (i + 1); have h2 := congrArg List.length HL3.out; rw [List.length_append] at h2 ⊢; have h3 := HRL.out; omega : (L2 ++ ((ks.take (i + 1)).map Pd.enc).flatten).length ≤ 1000000)
     obtain ⟨pa, pc', hpv, hpb⟩ := HO.out.byt
     subst hpv
     rw [hL] at hpb
     rw [hL]
     obtain ⟨w3, hw3⟩ : ∃ w3, wr.alloc (pb u) = w3 := ⟨_, rfl⟩
     have hX3 : Ex wr w3 := by rw [← hw3]; exact (Below.refl _ _).alloc (Nat.le_refl _) _
     have HX3 : Hid (Ex w w3) := (HXr.out.trans hX3 : Ex w w3)
     have HC3 : Hid (Calls Tryz.prog 32 #[.slice pa L.length pc', pvv u] w3 fun e w' => ∃ v', e = .returned v' ∧ Own w' w3.heap.size v' (L2 ++ ((ks.take (i + 1)).map Pd.enc).flatten) ∧ Ex w3 w') := HIH.out k HK.out u pa _ pc' L _ w3 (Pd.Lay.below _ hLk hX3) (HFK.out k HK.out) (HNK.out k HK.out) (hpb.below hX3) HNL.out HNR.out rfl
     have HP3 : Hid (PAt w3 wr.heap.size u) := (by rw [← hw3]; exact PAt.new wr u : PAt w3 wr.heap.size u)
     obtain ⟨q0, q1, q2, q3, q4, q5, q6⟩ := HP3.out.all
     subst hpp
     clear hLr hLk hk hX3 hbg hpb hL HO
     go_wp2_with fail
     go_at_call 32
     refine Calls.mono HC3.out ?_
     rintro e w4 ⟨v4, rfl, ho4, hx4⟩
     have HO4 : Hid (Own w4 w.heap.size v4 (L2 ++ ((ks.take (i + 1)).map Pd.enc).flatten)) := (ho4.mono HX3.out.size : Own w4 w.heap.size v4 _)
     have HX4 : Hid (Ex w w4) := (HX3.out.trans hx4 : Ex w w4)
     clear ho4 hx4 HC3
     go_wp2_with fail
     go_roundw
     case rel => exact ⟨i + 1, by omega, by go_num, HO4, HX4⟩
     case measure => simp [intOf]; omega
    ·have hti : ¬ (i : Int) < (ks.length : Int) := by omega
     have HO9 : Hid (Own wr w.heap.size u0 r) := (by have h := HO.out; rw [List.take_of_length_le (by omega), HL3.out] at h; exact h : Own wr w.heap.size u0 r)
     go_wp2_with fail
     go_ret
     exact ⟨_, rfl, HO9.out, HXr.out⟩
 ·skip
  simp only [Pd.hk, Hd.mk.injEq] at he
  obtain ⟨h11, h12, h13, h14, h15, h16⟩ := he
  subst h11 h12 h13 h14 h15 h16
  obtain ⟨q, rfl⟩ : ∃ q, ks = [q] := List.length_eq_one_iff.1 h1
  obtain ⟨L1, hL1⟩ : ∃ L, l ++ M.digs 3 = L := ⟨_, rfl⟩
  have HL1 : Hid (l ++ M.digs 3 = L1) := hL1
  have HL2 : Hid (L1 ++ Pd.enc q = r) := (by rw [← hr, ← hL1]; simp [Pd.encH, T.ptext] : L1 ++ Pd.enc q = r)
  have hq : r.length ≤ 1000000 := HRL.out
  have hq1 : L1.length ≤ 1000000 := by have h := congrArg List.length HL2.out; simp only [List.length_append] at h; omega
  have hq0 : l.length ≤ 1000000 := by have h := congrArg List.length HL1.out; simp only [List.length_append] at h; omega
  clear hr hL1
  try simp only [pb, List.length_nil, List.length_cons, Nat.zero_add] at hw0
  go_enter Tryz.func32, Tryz.ntmps32
  obtain ⟨g0, g1, g2, g3, g4, g5, g6⟩ := HP0.out.all
  simp only [List.length_nil, List.length_cons, Nat.zero_add] at g0 g1 g2 g3 g4 g5 g6
  go_wp2_with fail
  go_at_call 53
  refine (put_is a _ cap l L1 _ 3 _ rfl HL1.out HB0.out rfl (by omega) (by omega)).mono ?_
  rintro e w1 ⟨v1, rfl, ho, hx⟩
  have HO1 : Hid (Own w1 w.heap.size v1 L1) := (ho.mono HX0.out.size : Own w1 w.heap.size v1 _)
  have HX1 : Hid (Ex w w1) := (HX0.out.trans hx : Ex w w1)
  have HP1 := HP0.out.below hx
  replace HP1 : Hid (PAt w1 w.heap.size _) := HP1
  obtain ⟨a1, c1, hv1, hb⟩ := HO1.out.byt
  subst hv1
  have HB1 : Hid (Byt w1 a1 c1 L1) := hb
  clear ho hx hb g0 g1 g2 g3 g4 g5 g6
  obtain ⟨g0, g1, g2, g3, g4, g5, g6⟩ := HP1.out.all
  simp only [List.length_nil, List.length_cons, Nat.zero_add] at g0 g1 g2 g3 g4 g5 g6
  have hLr := Pd.Lay.below _ HLw.out HX1.out
  obtain ⟨b, off, u, hpp, hbg, hLk, e0, e1, e2, e3, e4, e5, e6⟩ := hLr.kid (i := 0) (by simp)
  simp only at hpp
  simp only [List.getElem_cons_zero] at hLk
  simp only [Nat.zero_mul, Nat.add_zero] at e0 e1 e2 e3 e4 e5 e6
  have HC3 : Hid (Calls Tryz.prog 32 #[.slice a1 L1.length c1, pvv u] w1 fun e w' => ∃ v', e = .returned v' ∧ Own w' w1.heap.size v' r ∧ Ex w1 w') := HIH.out q (by simp) u a1 _ c1 L1 _ w1 hLk (HFK.out q (by simp)) (HNK.out q (by simp)) HB1.out HL2.out HRL.out rfl
  subst hpp
  clear hLr hLk hbg
  go_wp2_with fail
  go_at_call 32
  refine Calls.mono HC3.out ?_
  rintro e w4 ⟨v4, rfl, ho4, hx4⟩
  have HO4 : Hid (Own w4 w.heap.size v4 r) := (ho4.mono HX1.out.size : Own w4 w.heap.size v4 _)
  have HX4 : Hid (Ex w w4) := (HX1.out.trans hx4 : Ex w w4)
  clear ho4 hx4 HC3
  go_wp2_with fail
  go_ret
  exact ⟨_, rfl, HO4.out, HX4.out⟩
 ·skip
  simp only [Pd.hk, Hd.mk.injEq] at he
  obtain ⟨h11, h12, h13, h14, h15, h16⟩ := he
  subst h11 h12 h13 h14 h15 h16
  obtain rfl := List.eq_nil_of_length_eq_zero h1
  have hcl := Pd.name_len hc
  obtain ⟨G, hG, hGl⟩ := zig_nat' hn1
  have HG : Hid (M.zig vn = (G : Int)) := hG
  have htG : (M.zig vn).toNat = G := by rw [hG]; rfl
  unfold In64 at hn1
  rcases hk with rfl | rfl
  ·skip
   obtain ⟨L1, hL1⟩ : ∃ L, l ++ M.digs 4 = L := ⟨_, rfl⟩
   obtain ⟨L2, hL2⟩ : ∃ L, L1 ++ M.digs vcol.length ++ vcol = L := ⟨_, rfl⟩
   have HL1 : Hid (l ++ M.digs 4 = L1) := hL1
   have HL2 : Hid (L1 ++ M.digs vcol.length ++ vcol = L2) := hL2
   have HL3 : Hid (L2 ++ M.digs G = r) := (by rw [← hr, ← hL2, ← hL1]; simp [Pd.encH, T.ptext, htG] : L2 ++ M.digs G = r)
   have hq : r.length ≤ 1000000 := HRL.out
   have hq2 : L2.length ≤ 1000000 := by have h := congrArg List.length HL3.out; simp only [List.length_append] at h; omega
   have hq1 : L1.length ≤ 1000000 := by have h := congrArg List.length HL2.out; simp only [List.length_append] at h; omega
   have hq0 : l.length ≤ 1000000 := by have h := congrArg List.length HL1.out; simp only [List.length_append] at h; omega
   clear hr hL1 hL2
   try simp only [pb, List.length_nil, List.length_cons, Nat.zero_add] at hw0
   go_enter Tryz.func32, Tryz.ntmps32
   obtain ⟨g0, g1, g2, g3, g4, g5, g6⟩ := HP0.out.all
   simp only [List.length_nil, List.length_cons, Nat.zero_add] at g0 g1 g2 g3 g4 g5 g6
   go_wp2_with fail
   go_at_call 53
   refine (put_is a _ cap l L1 _ 4 _ rfl HL1.out HB0.out rfl (by omega) (by omega)).mono ?_
   rintro e w1 ⟨v1, rfl, ho, hx⟩
   have HO1 : Hid (Own w1 w.heap.size v1 L1) := (ho.mono HX0.out.size : Own w1 w.heap.size v1 _)
   have HX1 : Hid (Ex w w1) := (HX0.out.trans hx : Ex w w1)
   have HP1 := HP0.out.below hx
   replace HP1 : Hid (PAt w1 w.heap.size _) := HP1
   obtain ⟨a1, c1, hv1, hb⟩ := HO1.out.byt
   subst hv1
   have HB1 : Hid (Byt w1 a1 c1 L1) := hb
   clear ho hx hb g0 g1 g2 g3 g4 g5 g6
   obtain ⟨g0, g1, g2, g3, g4, g5, g6⟩ := HP1.out.all
   simp only [List.length_nil, List.length_cons, Nat.zero_add] at g0 g1 g2 g3 g4 g5 g6
   go_wp2_with fail
   go_at_call 54
   refine (putText_any a1 c1 L1 vcol L2 _ HB1.out HL2.out (by omega)).mono ?_
   rintro e w2 ⟨v2, rfl, ho, hx⟩
   have HO2 : Hid (Own w2 w.heap.size v2 L2) := (ho.mono HX1.out.size : Own w2 w.heap.size v2 _)
   have HX2 : Hid (Ex w w2) := (HX1.out.trans hx : Ex w w2)
   have HP2 := HP1.out.below hx
   replace HP2 : Hid (PAt w2 w.heap.size _) := HP2
   obtain ⟨a2, c2, hv2, hb⟩ := HO2.out.byt
   subst hv2
   have HB2 : Hid (Byt w2 a2 c2 L2) := hb
   clear ho hx hb g0 g1 g2 g3 g4 g5 g6
   obtain ⟨g0, g1, g2, g3, g4, g5, g6⟩ := HP2.out.all
   simp only [List.length_nil, List.length_cons, Nat.zero_add] at g0 g1 g2 g3 g4 g5 g6
   go_wp2_with fail
   go_at_call 55
   refine (zig_is vn G _ hn1.1 hn1.2 HG.out).mono ?_
   rintro e wz ⟨rfl, hwz⟩
   replace hwz := hwz.symm
   subst hwz
   go_wp2_with fail
   go_at_call 53
   refine (put_is a2 _ c2 L2 r _ G _ rfl HL3.out HB2.out rfl hGl (by omega)).mono ?_
   rintro e w3 ⟨v3, rfl, ho, hx⟩
   have HO3 : Hid (Own w3 w.heap.size v3 r) := (ho.mono HX2.out.size : Own w3 w.heap.size v3 _)
   have HX3 : Hid (Ex w w3) := (HX2.out.trans hx : Ex w w3)
   have HP3 := HP2.out.below hx
   replace HP3 : Hid (PAt w3 w.heap.size _) := HP3
   obtain ⟨a3, c3, hv3, hb⟩ := HO3.out.byt
   subst hv3
   have HB3 : Hid (Byt w3 a3 c3 r) := hb
   clear ho hx hb g0 g1 g2 g3 g4 g5 g6
   go_wp2_with fail
   go_ret
   exact ⟨_, rfl, HO3.out, HX3.out⟩
  ·skip
   obtain ⟨L1, hL1⟩ : ∃ L, l ++ M.digs 5 = L := ⟨_, rfl⟩
   obtain ⟨L2, hL2⟩ : ∃ L, L1 ++ M.digs vcol.length ++ vcol = L := ⟨_, rfl⟩
   have HL1 : Hid (l ++ M.digs 5 = L1) := hL1
   have HL2 : Hid (L1 ++ M.digs vcol.length ++ vcol = L2) := hL2
   have HL3 : Hid (L2 ++ M.digs G = r) := (by rw [← hr, ← hL2, ← hL1]; simp [Pd.encH, T.ptext, htG] : L2 ++ M.digs G = r)
   have hq : r.length ≤ 1000000 := HRL.out
   have hq2 : L2.length ≤ 1000000 := by have h := congrArg List.length HL3.out; simp only [List.length_append] at h; omega
   have hq1 : L1.length ≤ 1000000 := by have h := congrArg List.length HL2.out; simp only [List.length_append] at h; omega
   have hq0 : l.length ≤ 1000000 := by have h := congrArg List.length HL1.out; simp only [List.length_append] at h; omega
   clear hr hL1 hL2
   try simp only [pb, List.length_nil, List.length_cons, Nat.zero_add] at hw0
   go_enter Tryz.func32, Tryz.ntmps32
   obtain ⟨g0, g1, g2, g3, g4, g5, g6⟩ := HP0.out.all
   simp only [List.length_nil, List.length_cons, Nat.zero_add] at g0 g1 g2 g3 g4 g5 g6
   go_wp2_with fail
   go_at_call 53
   refine (put_is a _ cap l L1 _ 5 _ rfl HL1.out HB0.out rfl (by omega) (by omega)).mono ?_
   rintro e w1 ⟨v1, rfl, ho, hx⟩
   have HO1 : Hid (Own w1 w.heap.size v1 L1) := (ho.mono HX0.out.size : Own w1 w.heap.size v1 _)
   have HX1 : Hid (Ex w w1) := (HX0.out.trans hx : Ex w w1)
   have HP1 := HP0.out.below hx
   replace HP1 : Hid (PAt w1 w.heap.size _) := HP1
   obtain ⟨a1, c1, hv1, hb⟩ := HO1.out.byt
   subst hv1
   have HB1 : Hid (Byt w1 a1 c1 L1) := hb
   clear ho hx hb g0 g1 g2 g3 g4 g5 g6
   obtain ⟨g0, g1, g2, g3, g4, g5, g6⟩ := HP1.out.all
   simp only [List.length_nil, List.length_cons, Nat.zero_add] at g0 g1 g2 g3 g4 g5 g6
   go_wp2_with fail
   go_at_call 54
   refine (putText_any a1 c1 L1 vcol L2 _ HB1.out HL2.out (by omega)).mono ?_
   rintro e w2 ⟨v2, rfl, ho, hx⟩
   have HO2 : Hid (Own w2 w.heap.size v2 L2) := (ho.mono HX1.out.size : Own w2 w.heap.size v2 _)
   have HX2 : Hid (Ex w w2) := (HX1.out.trans hx : Ex w w2)
   have HP2 := HP1.out.below hx
   replace HP2 : Hid (PAt w2 w.heap.size _) := HP2
   obtain ⟨a2, c2, hv2, hb⟩ := HO2.out.byt
   subst hv2
   have HB2 : Hid (Byt w2 a2 c2 L2) := hb
   clear ho hx hb g0 g1 g2 g3 g4 g5 g6
   obtain ⟨g0, g1, g2, g3, g4, g5, g6⟩ := HP2.out.all
   simp only [List.length_nil, List.length_cons, Nat.zero_add] at g0 g1 g2 g3 g4 g5 g6
   go_wp2_with fail
   go_at_call 55
   refine (zig_is vn G _ hn1.1 hn1.2 HG.out).mono ?_
   rintro e wz ⟨rfl, hwz⟩
   replace hwz := hwz.symm
   subst hwz
   go_wp2_with fail
   go_at_call 53
   refine (put_is a2 _ c2 L2 r _ G _ rfl HL3.out HB2.out rfl hGl (by omega)).mono ?_
   rintro e w3 ⟨v3, rfl, ho, hx⟩
   have HO3 : Hid (Own w3 w.heap.size v3 r) := (ho.mono HX2.out.size : Own w3 w.heap.size v3 _)
   have HX3 : Hid (Ex w w3) := (HX2.out.trans hx : Ex w w3)
   have HP3 := HP2.out.below hx
   replace HP3 : Hid (PAt w3 w.heap.size _) := HP3
   obtain ⟨a3, c3, hv3, hb⟩ := HO3.out.byt
   subst hv3
   have HB3 : Hid (Byt w3 a3 c3 r) := hb
   clear ho hx hb g0 g1 g2 g3 g4 g5 g6
   go_wp2_with fail
   go_ret
   exact ⟨_, rfl, HO3.out, HX3.out⟩
 ·skip
  simp only [Pd.hk, Hd.mk.injEq] at he
  obtain ⟨h11, h12, h13, h14, h15, h16⟩ := he
  subst h11 h12 h13 h14 h15 h16
  obtain rfl := List.eq_nil_of_length_eq_zero h1
  have hcl := Pd.name_len hc
  rcases hk with rfl | rfl
  ·skip
   obtain ⟨L1, hL1⟩ : ∃ L, l ++ M.digs 6 = L := ⟨_, rfl⟩
   obtain ⟨L2, hL2⟩ : ∃ L, L1 ++ M.digs vcol.length ++ vcol = L := ⟨_, rfl⟩
   have HL1 : Hid (l ++ M.digs 6 = L1) := hL1
   have HL2 : Hid (L1 ++ M.digs vcol.length ++ vcol = L2) := hL2
   have HL3 : Hid (L2 ++ M.digs vs.length ++ vs = r) := (by rw [← hr, ← hL2, ← hL1]; simp [Pd.encH, T.ptext] : L2 ++ M.digs vs.length ++ vs = r)
   have hq : r.length ≤ 1000000 := HRL.out
   have hq2 : L2.length ≤ 1000000 := by have h := congrArg List.length HL3.out; simp only [List.length_append] at h; omega
   have hq1 : L1.length ≤ 1000000 := by have h := congrArg List.length HL2.out; simp only [List.length_append] at h; omega
   have hq0 : l.length ≤ 1000000 := by have h := congrArg List.length HL1.out; simp only [List.length_append] at h; omega
   clear hr hL1 hL2
   try simp only [pb, List.length_nil, List.length_cons, Nat.zero_add] at hw0
   go_enter Tryz.func32, Tryz.ntmps32
   obtain ⟨g0, g1, g2, g3, g4, g5, g6⟩ := HP0.out.all
   simp only [List.length_nil, List.length_cons, Nat.zero_add] at g0 g1 g2 g3 g4 g5 g6
   go_wp2_with fail
   go_at_call 53
   refine (put_is a _ cap l L1 _ 6 _ rfl HL1.out HB0.out rfl (by omega) (by omega)).mono ?_
   rintro e w1 ⟨v1, rfl, ho, hx⟩
   have HO1 : Hid (Own w1 w.heap.size v1 L1) := (ho.mono HX0.out.size : Own w1 w.heap.size v1 _)
   have HX1 : Hid (Ex w w1) := (HX0.out.trans hx : Ex w w1)
   have HP1 := HP0.out.below hx
   replace HP1 : Hid (PAt w1 w.heap.size _) := HP1
   obtain ⟨a1, c1, hv1, hb⟩ := HO1.out.byt
   subst hv1
   have HB1 : Hid (Byt w1 a1 c1 L1) := hb
   clear ho hx hb g0 g1 g2 g3 g4 g5 g6
   obtain ⟨g0, g1, g2, g3, g4, g5, g6⟩ := HP1.out.all
   simp only [List.length_nil, List.length_cons, Nat.zero_add] at g0 g1 g2 g3 g4 g5 g6
   go_wp2_with fail
   go_at_call 54
   refine (putText_any a1 c1 L1 vcol L2 _ HB1.out HL2.out (by omega)).mono ?_
   rintro e w2 ⟨v2, rfl, ho, hx⟩
   have HO2 : Hid (Own w2 w.heap.size v2 L2) := (ho.mono HX1.out.size : Own w2 w.heap.size v2 _)
   have HX2 : Hid (Ex w w2) := (HX1.out.trans hx : Ex w w2)
   have HP2 := HP1.out.below hx
   replace HP2 : Hid (PAt w2 w.heap.size _) := HP2
   obtain ⟨a2, c2, hv2, hb⟩ := HO2.out.byt
   subst hv2
   have HB2 : Hid (Byt w2 a2 c2 L2) := hb
   clear ho hx hb g0 g1 g2 g3 g4 g5 g6
   obtain ⟨g0, g1, g2, g3, g4, g5, g6⟩ := HP2.out.all
   simp only [List.length_nil, List.length_cons, Nat.zero_add] at g0 g1 g2 g3 g4 g5 g6
   go_wp2_with fail
   go_at_call 54
   refine (putText_any a2 c2 L2 vs r _ HB2.out HL3.out (by omega)).mono ?_
   rintro e w3 ⟨v3, rfl, ho, hx⟩
   have HO3 : Hid (Own w3 w.heap.size v3 r) := (ho.mono HX2.out.size : Own w3 w.heap.size v3 _)
   have HX3 : Hid (Ex w w3) := (HX2.out.trans hx : Ex w w3)
   have HP3 := HP2.out.below hx
   replace HP3 : Hid (PAt w3 w.heap.size _) := HP3
   obtain ⟨a3, c3, hv3, hb⟩ := HO3.out.byt
   subst hv3
   have HB3 : Hid (Byt w3 a3 c3 r) := hb
   clear ho hx hb g0 g1 g2 g3 g4 g5 g6
   go_wp2_with fail
   go_ret
   exact ⟨_, rfl, HO3.out, HX3.out⟩
  ·skip
   obtain ⟨L1, hL1⟩ : ∃ L, l ++ M.digs 8 = L := ⟨_, rfl⟩
   obtain ⟨L2, hL2⟩ : ∃ L, L1 ++ M.digs vcol.length ++ vcol = L := ⟨_, rfl⟩
   have HL1 : Hid (l ++ M.digs 8 = L1) := hL1
   have HL2 : Hid (L1 ++ M.digs vcol.length ++ vcol = L2) := hL2
   have HL3 : Hid (L2 ++ M.digs vs.length ++ vs = r) := (by rw [← hr, ← hL2, ← hL1]; simp [Pd.encH, T.ptext] : L2 ++ M.digs vs.length ++ vs = r)
   have hq : r.length ≤ 1000000 := HRL.out
   have hq2 : L2.length ≤ 1000000 := by have h := congrArg List.length HL3.out; simp only [List.length_append] at h; omega
   have hq1 : L1.length ≤ 1000000 := by have h := congrArg List.length HL2.out; simp only [List.length_append] at h; omega
   have hq0 : l.length ≤ 1000000 := by have h := congrArg List.length HL1.out; simp only [List.length_append] at h; omega
   clear hr hL1 hL2
   try simp only [pb, List.length_nil, List.length_cons, Nat.zero_add] at hw0
   go_enter Tryz.func32, Tryz.ntmps32
   obtain ⟨g0, g1, g2, g3, g4, g5, g6⟩ := HP0.out.all
   simp only [List.length_nil, List.length_cons, Nat.zero_add] at g0 g1 g2 g3 g4 g5 g6
   go_wp2_with fail
   go_at_call 53
   refine (put_is a _ cap l L1 _ 8 _ rfl HL1.out HB0.out rfl (by omega) (by omega)).mono ?_
   rintro e w1 ⟨v1, rfl, ho, hx⟩
   have HO1 : Hid (Own w1 w.heap.size v1 L1) := (ho.mono HX0.out.size : Own w1 w.heap.size v1 _)
   have HX1 : Hid (Ex w w1) := (HX0.out.trans hx : Ex w w1)
   have HP1 := HP0.out.below hx
   replace HP1 : Hid (PAt w1 w.heap.size _) := HP1
   obtain ⟨a1, c1, hv1, hb⟩ := HO1.out.byt
   subst hv1
   have HB1 : Hid (Byt w1 a1 c1 L1) := hb
   clear ho hx hb g0 g1 g2 g3 g4 g5 g6
   obtain ⟨g0, g1, g2, g3, g4, g5, g6⟩ := HP1.out.all
   simp only [List.length_nil, List.length_cons, Nat.zero_add] at g0 g1 g2 g3 g4 g5 g6
   go_wp2_with fail
   go_at_call 54
   refine (putText_any a1 c1 L1 vcol L2 _ HB1.out HL2.out (by omega)).mono ?_
   rintro e w2 ⟨v2, rfl, ho, hx⟩
   have HO2 : Hid (Own w2 w.heap.size v2 L2) := (ho.mono HX1.out.size : Own w2 w.heap.size v2 _)
   have HX2 : Hid (Ex w w2) := (HX1.out.trans hx : Ex w w2)
   have HP2 := HP1.out.below hx
   replace HP2 : Hid (PAt w2 w.heap.size _) := HP2
   obtain ⟨a2, c2, hv2, hb⟩ := HO2.out.byt
   subst hv2
   have HB2 : Hid (Byt w2 a2 c2 L2) := hb
   clear ho hx hb g0 g1 g2 g3 g4 g5 g6
   obtain ⟨g0, g1, g2, g3, g4, g5, g6⟩ := HP2.out.all
   simp only [List.length_nil, List.length_cons, Nat.zero_add] at g0 g1 g2 g3 g4 g5 g6
   go_wp2_with fail
   go_at_call 54
   refine (putText_any a2 c2 L2 vs r _ HB2.out HL3.out (by omega)).mono ?_
   rintro e w3 ⟨v3, rfl, ho, hx⟩
   have HO3 : Hid (Own w3 w.heap.size v3 r) := (ho.mono HX2.out.size : Own w3 w.heap.size v3 _)
   have HX3 : Hid (Ex w w3) := (HX2.out.trans hx : Ex w w3)
   have HP3 := HP2.out.below hx
   replace HP3 : Hid (PAt w3 w.heap.size _) := HP3
   obtain ⟨a3, c3, hv3, hb⟩ := HO3.out.byt
   subst hv3
   have HB3 : Hid (Byt w3 a3 c3 r) := hb
   clear ho hx hb g0 g1 g2 g3 g4 g5 g6
   go_wp2_with fail
   go_ret
   exact ⟨_, rfl, HO3.out, HX3.out⟩
 ·skip
  simp only [Pd.hk, Hd.mk.injEq] at he
  obtain ⟨h11, h12, h13, h14, h15, h16⟩ := he
  subst h11 h12 h13 h14 h15 h16
  obtain rfl := List.eq_nil_of_length_eq_zero h1
  have hcl := Pd.name_len hc
  obtain ⟨L1, hL1⟩ : ∃ L, l ++ M.digs 7 = L := ⟨_, rfl⟩
  obtain ⟨L2, hL2⟩ : ∃ L, L1 ++ M.digs vcol.length ++ vcol = L := ⟨_, rfl⟩
  have HL1 : Hid (l ++ M.digs 7 = L1) := hL1
  have HL2 : Hid (L1 ++ M.digs vcol.length ++ vcol = L2) := hL2
  have HL3 : Hid (L2 ++ (M.digs set.length ++ T.texts set) = r) := (by rw [← hr, ← hL2, ← hL1]; simp [Pd.encH, T.ptext] : L2 ++ (M.digs set.length ++ T.texts set) = r)
  have hq : r.length ≤ 1000000 := HRL.out
  have hq2 : L2.length ≤ 1000000 := by have h := congrArg List.length HL3.out; simp only [List.length_append] at h; omega
  have hq1 : L1.length ≤ 1000000 := by have h := congrArg List.length HL2.out; simp only [List.length_append] at h; omega
  have hq0 : l.length ≤ 1000000 := by have h := congrArg List.length HL1.out; simp only [List.length_append] at h; omega
  clear hr hL1 hL2
  have HTS : Hid (∀ x ∈ set, x.length ≤ 40) := hts
  clear hts hta
  try simp only [pb, List.length_nil, List.length_cons, Nat.zero_add] at hw0
  go_enter Tryz.func32, Tryz.ntmps32
  obtain ⟨g0, g1, g2, g3, g4, g5, g6⟩ := HP0.out.all
  simp only [List.length_nil, List.length_cons, Nat.zero_add] at g0 g1 g2 g3 g4 g5 g6
  go_wp2_with fail
  go_at_call 53
  refine (put_is a _ cap l L1 _ 7 _ rfl HL1.out HB0.out rfl (by omega) (by omega)).mono ?_
  rintro e w1 ⟨v1, rfl, ho, hx⟩
  have HO1 : Hid (Own w1 w.heap.size v1 L1) := (ho.mono HX0.out.size : Own w1 w.heap.size v1 _)
  have HX1 : Hid (Ex w w1) := (HX0.out.trans hx : Ex w w1)
  have HP1 := HP0.out.below hx
  replace HP1 : Hid (PAt w1 w.heap.size _) := HP1
  obtain ⟨a1, c1, hv1, hb⟩ := HO1.out.byt
  subst hv1
  have HB1 : Hid (Byt w1 a1 c1 L1) := hb
  clear ho hx hb g0 g1 g2 g3 g4 g5 g6
  obtain ⟨g0, g1, g2, g3, g4, g5, g6⟩ := HP1.out.all
  simp only [List.length_nil, List.length_cons, Nat.zero_add] at g0 g1 g2 g3 g4 g5 g6
  go_wp2_with fail
  go_at_call 54
  refine (putText_any a1 c1 L1 vcol L2 _ HB1.out HL2.out (by omega)).mono ?_
  rintro e w2 ⟨v2, rfl, ho, hx⟩
  have HO2 : Hid (Own w2 w.heap.size v2 L2) := (ho.mono HX1.out.size : Own w2 w.heap.size v2 _)
  have HX2 : Hid (Ex w w2) := (HX1.out.trans hx : Ex w w2)
  have HP2 := HP1.out.below hx
  replace HP2 : Hid (PAt w2 w.heap.size _) := HP2
  obtain ⟨a2, c2, hv2, hb⟩ := HO2.out.byt
  subst hv2
  have HB2 : Hid (Byt w2 a2 c2 L2) := hb
  clear ho hx hb g0 g1 g2 g3 g4 g5 g6
  obtain ⟨g0, g1, g2, g3, g4, g5, g6⟩ := HP2.out.all
  simp only [List.length_nil, List.length_cons, Nat.zero_add] at g0 g1 g2 g3 g4 g5 g6
  have HSB2 : Hid (Rd st w2 sa sc set) := ((HLw.out.head.1.2.2.1).below HX2.out : Rd st w2 sa sc set)
  go_wp2_with fail
  go_at_call 56
  refine (putSet_is a2 _ c2 L2 r sa _ sc set _ HB2.out HSB2.out rfl rfl (by omega) HTS.out (by omega) HL3.out).mono ?_
  rintro e w4 ⟨v4, rfl, ho4, hx4⟩
  have HO4 : Hid (Own w4 w.heap.size v4 r) := (ho4.mono HX2.out.size : Own w4 w.heap.size v4 _)
  have HX4 : Hid (Ex w w4) := (HX2.out.trans hx4 : Ex w w4)
  clear ho4 hx4
  go_wp2_with fail
  go_ret
  exact ⟨_, rfl, HO4.out, HX4.out⟩
 ·skip
  simp only [Pd.hk, Hd.mk.injEq] at he
  obtain ⟨h11, h12, h13, h14, h15, h16⟩ := he
  subst h11 h12 h13 h14 h15 h16
  obtain rfl := List.eq_nil_of_length_eq_zero h1
  have hcl := Pd.name_len hc
  obtain ⟨L1, hL1⟩ : ∃ L, l ++ M.digs 9 = L := ⟨_, rfl⟩
  have HL1 : Hid (l ++ M.digs 9 = L1) := hL1
  have HL2 : Hid (L1 ++ M.digs vcol.length ++ vcol = r) := (by rw [← hr, ← hL1]; simp [Pd.encH, T.ptext] : L1 ++ M.digs vcol.length ++ vcol = r)
  have hq : r.length ≤ 1000000 := HRL.out
  have hq1 : L1.length ≤ 1000000 := by have h := congrArg List.length HL2.out; simp only [List.length_append] at h; omega
  have hq0 : l.length ≤ 1000000 := by have h := congrArg List.length HL1.out; simp only [List.length_append] at h; omega
  clear hr hL1
  try simp only [pb, List.length_nil, List.length_cons, Nat.zero_add] at hw0
  go_enter Tryz.func32, Tryz.ntmps32
  obtain ⟨g0, g1, g2, g3, g4, g5, g6⟩ := HP0.out.all
  simp only [List.length_nil, List.length_cons, Nat.zero_add] at g0 g1 g2 g3 g4 g5 g6
  go_wp2_with fail
  go_at_call 53
  refine (put_is a _ cap l L1 _ 9 _ rfl HL1.out HB0.out rfl (by omega) (by omega)).mono ?_
  rintro e w1 ⟨v1, rfl, ho, hx⟩
  have HO1 : Hid (Own w1 w.heap.size v1 L1) := (ho.mono HX0.out.size : Own w1 w.heap.size v1 _)
  have HX1 : Hid (Ex w w1) := (HX0.out.trans hx : Ex w w1)
  have HP1 := HP0.out.below hx
  replace HP1 : Hid (PAt w1 w.heap.size _) := HP1
  obtain ⟨a1, c1, hv1, hb⟩ := HO1.out.byt
  subst hv1
  have HB1 : Hid (Byt w1 a1 c1 L1) := hb
  clear ho hx hb g0 g1 g2 g3 g4 g5 g6
  obtain ⟨g0, g1, g2, g3, g4, g5, g6⟩ := HP1.out.all
  simp only [List.length_nil, List.length_cons, Nat.zero_add] at g0 g1 g2 g3 g4 g5 g6
  go_wp2_with fail
  go_at_call 54
  refine (putText_any a1 c1 L1 vcol r _ HB1.out HL2.out (by omega)).mono ?_
  rintro e w2 ⟨v2, rfl, ho, hx⟩
  have HO2 : Hid (Own w2 w.heap.size v2 r) := (ho.mono HX1.out.size : Own w2 w.heap.size v2 _)
  have HX2 : Hid (Ex w w2) := (HX1.out.trans hx : Ex w w2)
  have HP2 := HP1.out.below hx
  replace HP2 : Hid (PAt w2 w.heap.size _) := HP2
  obtain ⟨a2, c2, hv2, hb⟩ := HO2.out.byt
  subst hv2
  have HB2 : Hid (Byt w2 a2 c2 r) := hb
  clear ho hx hb g0 g1 g2 g3 g4 g5 g6
  go_wp2_with fail
  go_ret
  exact ⟨_, rfl, HO2.out, HX2.out⟩
 ·skip
  simp only [Pd.hk, Hd.mk.injEq] at he
  obtain ⟨h11, h12, h13, h14, h15, h16⟩ := he
  subst h11 h12 h13 h14 h15 h16
  obtain rfl := List.eq_nil_of_length_eq_zero h1
  obtain ⟨G, hG, hGl⟩ := zig_nat' hn1
  have HG : Hid (M.zig vn = (G : Int)) := hG
  have htG : (M.zig vn).toNat = G := by rw [hG]; rfl
  obtain ⟨H, hH, hHl⟩ := zig_nat' hn2
  have HH : Hid (M.zig vm = (H : Int)) := hH
  have htH : (M.zig vm).toNat = H := by rw [hH]; rfl
  unfold In64 at hn1 hn2
  obtain ⟨L1, hL1⟩ : ∃ L, l ++ M.digs 10 = L := ⟨_, rfl⟩
  obtain ⟨L2, hL2⟩ : ∃ L, L1 ++ M.digs G = L := ⟨_, rfl⟩
  have HL1 : Hid (l ++ M.digs 10 = L1) := hL1
  have HL2 : Hid (L1 ++ M.digs G = L2) := hL2
  have HL3 : Hid (L2 ++ M.digs H = r) := (by rw [← hr, ← hL2, ← hL1]; simp [Pd.encH, T.ptext, htG, htH] : L2 ++ M.digs H = r)
  have hq : r.length ≤ 1000000 := HRL.out
  have hq2 : L2.length ≤ 1000000 := by have h := congrArg List.length HL3.out; simp only [List.length_append] at h; omega
  have hq1 : L1.length ≤ 1000000 := by have h := congrArg List.length HL2.out; simp only [List.length_append] at h; omega
  have hq0 : l.length ≤ 1000000 := by have h := congrArg List.length HL1.out; simp only [List.length_append] at h; omega
  clear hr hL1 hL2
  try simp only [pb, List.length_nil, List.length_cons, Nat.zero_add] at hw0
  go_enter Tryz.func32, Tryz.ntmps32
  obtain ⟨g0, g1, g2, g3, g4, g5, g6⟩ := HP0.out.all
  simp only [List.length_nil, List.length_cons, Nat.zero_add] at g0 g1 g2 g3 g4 g5 g6
  go_wp2_with fail
  go_at_call 53
  refine (put_is a _ cap l L1 _ 10 _ rfl HL1.out HB0.out rfl (by omega) (by omega)).mono ?_
  rintro e w1 ⟨v1, rfl, ho, hx⟩
  have HO1 : Hid (Own w1 w.heap.size v1 L1) := (ho.mono HX0.out.size : Own w1 w.heap.size v1 _)
  have HX1 : Hid (Ex w w1) := (HX0.out.trans hx : Ex w w1)
  have HP1 := HP0.out.below hx
  replace HP1 : Hid (PAt w1 w.heap.size _) := HP1
  obtain ⟨a1, c1, hv1, hb⟩ := HO1.out.byt
  subst hv1
  have HB1 : Hid (Byt w1 a1 c1 L1) := hb
  clear ho hx hb g0 g1 g2 g3 g4 g5 g6
  obtain ⟨g0, g1, g2, g3, g4, g5, g6⟩ := HP1.out.all
  simp only [List.length_nil, List.length_cons, Nat.zero_add] at g0 g1 g2 g3 g4 g5 g6
  go_wp2_with fail
  go_at_call 55
  refine (zig_is vn G _ hn1.1 hn1.2 HG.out).mono ?_
  rintro e wz ⟨rfl, hwz⟩
  replace hwz := hwz.symm
  subst hwz
  go_wp2_with fail
  go_at_call 53
  refine (put_is a1 _ c1 L1 L2 _ G _ rfl HL2.out HB1.out rfl hGl (by omega)).mono ?_
  rintro e w2 ⟨v2, rfl, ho, hx⟩
  have HO2 : Hid (Own w2 w.heap.size v2 L2) := (ho.mono HX1.out.size : Own w2 w.heap.size v2 _)
  have HX2 : Hid (Ex w w2) := (HX1.out.trans hx : Ex w w2)
  have HP2 := HP1.out.below hx
  replace HP2 : Hid (PAt w2 w.heap.size _) := HP2
  obtain ⟨a2, c2, hv2, hb⟩ := HO2.out.byt
  subst hv2
  have HB2 : Hid (Byt w2 a2 c2 L2) := hb
  clear ho hx hb g0 g1 g2 g3 g4 g5 g6
  obtain ⟨g0, g1, g2, g3, g4, g5, g6⟩ := HP2.out.all
  simp only [List.length_nil, List.length_cons, Nat.zero_add] at g0 g1 g2 g3 g4 g5 g6
  go_wp2_with fail
  go_at_call 55
  refine (zig_is vm H _ hn2.1 hn2.2 HH.out).mono ?_
  rintro e wz ⟨rfl, hwz⟩
  replace hwz := hwz.symm
  subst hwz
  go_wp2_with fail
  go_at_call 53
  refine (put_is a2 _ c2 L2 r _ H _ rfl HL3.out HB2.out rfl hHl (by omega)).mono ?_
  rintro e w3 ⟨v3, rfl, ho, hx⟩
  have HO3 : Hid (Own w3 w.heap.size v3 r) := (ho.mono HX2.out.size : Own w3 w.heap.size v3 _)
  have HX3 : Hid (Ex w w3) := (HX2.out.trans hx : Ex w w3)
  have HP3 := HP2.out.below hx
  replace HP3 : Hid (PAt w3 w.heap.size _) := HP3
  obtain ⟨a3, c3, hv3, hb⟩ := HO3.out.byt
  subst hv3
  have HB3 : Hid (Byt w3 a3 c3 r) := hb
  clear ho hx hb g0 g1 g2 g3 g4 g5 g6
  go_wp2_with fail
  go_ret
  exact ⟨_, rfl, HO3.out, HX3.out⟩
set_option maxHeartbeats 4000000 in
set_option maxRecDepth 100000 in
theorem encode_is (q : Pr) (v : PV) (w : World) (h : Pd.Lay (fun _ => True) q w v) (hF : Pd.Fine q) (R : List UInt8) (e0 : Nat) (hr : Pd.encE q = (R, e0)) :
  Calls Tryz.prog 7 #[pvv v] w fun e w' => ∃ p c, e = .returned (.tuple #[.slice p R.length c, .int .i64 e0]) ∧ Byt w' p c R ∧ Ex w w' := by
 obtain ⟨vk, vcol, vn, vm, vs, vset, vkids⟩ := v
 obtain ⟨W, hW⟩ : ∃ W, w.alloc (pb ⟨vk, vcol, vn, vm, vs, vset, vkids⟩) = W := ⟨_, rfl⟩
 have hXW : Ex w W := by rw [← hW]; exact (Below.refl _ _).alloc (Nat.le_refl _) _
 have HXW : Hid (Ex w W) := hXW
 have HP : Hid (PAt W w.heap.size ⟨vk, vcol, vn, vm, vs, vset, vkids⟩) := (by rw [← hW]; exact PAt.new w _ : PAt W w.heap.size _)
 obtain ⟨o, ho⟩ : ∃ o, Pd.right q = o := ⟨_, rfl⟩
 have HLW := Pd.Lay.below _ h hXW
 have HC : Hid (Calls Tryz.prog 9 #[pvv ⟨vk, vcol, vn, vm, vs, vset, vkids⟩] W fun e w' => e = .returned (.bool o) ∧ Ex W w') := right_is q _ W HLW hF o ho
 replace HLW : Hid (Pd.Lay (fun _ => True) q W ⟨vk, vcol, vn, vm, vs, vset, vkids⟩) := HLW
 have HF : Hid (Pd.Fine q) := hF
 have HO : Hid (Pd.right q = o) := ho
 have HR : Hid (Pd.encE q = (R, e0)) := hr
 obtain ⟨p0, p1, p2, p3, p4, p5, p6⟩ := HP.out.all
 simp only at p0 p1 p2 p3 p4 p5 p6
 clear h hF hr ho hXW
 unfold pvv
 simp only [sv]
 go_enter Tryz.func7, Tryz.ntmps7
 go_wp2_with fail
 go_at_call 9
 refine Calls.mono HC.out ?_
 rintro e w1 ⟨rfl, hx1⟩
 have HX1 : Hid (Ex w w1) := (HXW.out.trans hx1 : Ex w w1)
 have HP1 : Hid (PAt w1 w.heap.size ⟨vk, vcol, vn, vm, vs, vset, vkids⟩) := (HP.out.below hx1 : PAt w1 _ _)
 have HL1 : Hid (Pd.Lay (fun _ => True) q w1 ⟨vk, vcol, vn, vm, vs, vset, vkids⟩) := (Pd.Lay.below _ HLW.out hx1 : Pd.Lay _ _ w1 _)
 clear hx1 HC p0 p1 p2 p3 p4 p5 p6
 obtain ⟨p0, p1, p2, p3, p4, p5, p6⟩ := HP1.out.all
 simp only at p0 p1 p2 p3 p4 p5 p6
 cases o with
 | false =>
  have hR := HR.out
  unfold Pd.encE at hR
  rw [HO.out] at hR
  simp only [Bool.false_eq_true, if_false, Prod.mk.injEq] at hR
  obtain ⟨rfl, rfl⟩ := hR
  go_wp2_with fail
  go_ret2
  exact ⟨none, 0, rfl, Byt.nil _, HX1.out⟩
 | true =>
  have hR := HR.out
  unfold Pd.encE at hR
  rw [HO.out] at hR
  simp only [if_true, Prod.mk.injEq] at hR
  obtain ⟨hR1, hR2⟩ := hR
  subst hR2
  have hri := HO.out
  unfold Pd.right at hri
  simp only [Bool.and_eq_true, decide_eq_true_eq] at hri
  have HRL : Hid (R.length ≤ 1000000) := (by
   have h := Pd.enc_len q hri.2
   rw [← hR1]; omega : R.length ≤ 1000000)
  have HC2 : Hid (Calls Tryz.prog 32 #[.slice none 0 0, pvv ⟨vk, vcol, vn, vm, vs, vset, vkids⟩] w1 fun e w' => ∃ v', e = .returned v' ∧ Own w' w1.heap.size v' R ∧ Ex w1 w') := pput_is q _ none 0 0 [] R w1 HL1.out hri.2 (Pd.fine_num q HF.out) (Byt.nil _) (by rw [List.nil_append]; exact hR1) HRL.out rfl
  clear hR1 hri
  go_wp2_with fail
  go_at_call 32
  refine Calls.mono HC2.out ?_
  rintro e w2 ⟨v2, rfl, ho2, hx2⟩
  obtain ⟨pa, pc', rfl, hb⟩ := ho2.byt
  have HB : Hid (Byt w2 pa pc' R) := hb
  have HX2 : Hid (Ex w w2) := (HX1.out.trans hx2 : Ex w w2)
  clear ho2 hb hx2 HC2
  go_wp2_with fail
  go_ret2
  exact ⟨pa, pc', rfl, HB.out, HX2.out⟩
end Go.Proofs.YtbdjccmlgdfapaaGreat
