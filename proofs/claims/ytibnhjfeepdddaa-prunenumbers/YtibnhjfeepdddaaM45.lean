/-
  The document's own normal: All under a Not.
-/
import Derived.Test.YtibnhjfeepdddaaM43
namespace Go.Proofs.Ytibnhjfeepdddaa
open Go.RowKit
set_option linter.unusedVariables false
set_option linter.unusedSimpArgs false
set_option maxHeartbeats 16000000 in
set_option maxRecDepth 100000 in
theorem rnorm_1t (h : Hd) (l : List Pr) (ih : ∀ k ∈ l, NormC k) (hk : h.k = 1) : NormB true (Pr.mk' h l) := by
 intro B v w hL hBL hF hsz
 have HL0 : Hid (Pd.Lay B (Pr.mk' h l) w v) := hL
 rw [Pd.form_mk, Bool.and_eq_true] at hF
 obtain ⟨hpt, hfk⟩ := hF
 rw [Pd.size_mk] at hsz
 obtain ⟨hHd, hkn, hkB, hkc, hkm, hk0⟩ := hL.head
 obtain ⟨vk, vcol, vn, vm, vs, vset, ⟨p, n, cap⟩⟩ := v
 simp only at hkn hkB hkc hkm hk0
 subst hkn
 unfold maxLen at hkm
 have hvk : vk = h.k := hHd.1.1
 rw [← hvk] at hk
 have HPT : Hid (Pd.part h l.length = true) := hpt
 have HVK : Hid (vk = h.k) := hvk
 have HKH : Hid _ := hk
 have HIH : Hid (∀ k ∈ l, NormC k) := ih
 have HFK : Hid (∀ k ∈ l, Pd.form k = true) := (by simpa using hfk : ∀ k ∈ l, Pd.form k = true)
 have HSUM : Hid ((l.map Pd.size).sum ≤ 39) := (by omega : (l.map Pd.size).sum ≤ 39)
 have HLw : Hid (Pd.Lay B (Pr.mk' h l) w ⟨vk, vcol, vn, vm, vs, vset, p, l.length, cap⟩) := hL
 have HBL : Hid (∀ x, B x → x < w.heap.size) := hBL
 obtain ⟨W, hW⟩ : ∃ W, (w.alloc (pb ⟨vk, vcol, vn, vm, vs, vset, p, l.length, cap⟩)).alloc pb0 = W := ⟨_, rfl⟩
 have hX1 : Ex w (w.alloc (pb ⟨vk, vcol, vn, vm, vs, vset, p, l.length, cap⟩)) := (Below.refl _ _).alloc (Nat.le_refl _) _
 have hXW : Ex w W := by rw [← hW]; exact Below.alloc hX1 (by simp) _
 have HXW : Hid (Ex w W) := hXW
 have HSZ : Hid (W.heap.size = w.heap.size + 2) := (by rw [← hW]; simp : W.heap.size = w.heap.size + 2)
 have HP : Hid (PAt W w.heap.size ⟨vk, vcol, vn, vm, vs, vset, p, l.length, cap⟩) := (by rw [← hW]; exact (PAt.new w _).alloc _ : PAt W w.heap.size _)
 have HZ : Hid (PAt W (w.heap.size + 1) PV.zero) := (by rw [← hW]; exact PAt.newat (w.alloc (pb ⟨vk, vcol, vn, vm, vs, vset, p, l.length, cap⟩)) (w.heap.size + 1) PV.zero (by simp) : PAt W _ _)
 have HWW : Hid ((w.alloc (pb ⟨vk, vcol, vn, vm, vs, vset, p, l.length, cap⟩)).alloc pb0 = W) := hW
 obtain ⟨c0, c1, c2, c3, c4, c5, c6⟩ := HP.out.all
 simp only at c0 c1 c2 c3 c4 c5 c6
 clear hL hHd hkB ih hX1 hXW hfk hpt hsz hBL hvk hk
 unfold pvv
 simp only [sv]
 go_enter Try.func57, Try.ntmps57
 have hk := HKH.out
 obtain rfl : vk = 1 := hk
 have HKD : Hid ((1 : Int) = 1 ∨ (1 : Int) = 2) := (by decide : (1 : Int) = 1 ∨ (1 : Int) = 2)
 have HTU : Hid (Pd.turn 1 true = 2) := (by decide : Pd.turn 1 true = 2)
 obtain ⟨W3, hW2⟩ : ∃ W2, W.alloc (pbk 2) = W2 := ⟨_, rfl⟩
 have hX2 : Ex W W3 := by rw [← hW2]; exact (Below.refl _ _).alloc (Nat.le_refl _) _
 have HX3 : Hid (Ex w W3) := (HXW.out.trans hX2 : Ex w W3)
 have HP3 : Hid (PAt W3 w.heap.size ⟨1, vcol, vn, vm, vs, vset, p, l.length, cap⟩) := (HP.out.below hX2 : PAt _ _ _)
 have HZ3 : Hid (PAt W3 (w.heap.size + 1) PV.zero) := (HZ.out.below hX2 : PAt _ _ _)
 have HQ3 : Hid (PAt W3 (w.heap.size + 2) ⟨2, [], 0, 0, [], (none, 0, 0), none, 0, 0⟩) := (by rw [← hW2]; exact PAt.newat W (w.heap.size + 2) ⟨2, [], 0, 0, [], (none, 0, 0), none, 0, 0⟩ HSZ.out.symm : PAt _ _ _)
 have HSZ3 : Hid (w.heap.size + 3 ≤ W3.heap.size) := (by rw [← hW2]; have := HSZ.out; simp; omega : w.heap.size + 3 ≤ W3.heap.size)
 have HW2 : Hid (W.alloc (pbk 2) = W3) := hW2
 clear hX2 hW hW2 HKH
 go_wp2_with fail
 simp only [Nat.add_assoc, Nat.reduceAdd]
 rw [HWW.out, HW2.out]
 obtain ⟨c0, c1, c2, c3, c4, c5, c6⟩ := HP3.out.all
 simp only at c0 c1 c2 c3 c4 c5 c6
 have HK0 : Hid (KidsAt (w.heap.size + 2) (fun x => B x ∨ w.heap.size + 3 ≤ x) ⟨2, [], 0, 0, [], (none, 0, 0), none, 0, 0⟩ (w.heap.size + 3) W3 0 []) := (⟨(none, 0, 0), HQ3.out, rfl, Pd.OwnQ.nil _ _ _⟩ : KidsAt _ _ _ _ _ _ _)
 clear c0 c1 c2 c3 c4 c5 c6
 go_loopw [6, 7] (fun iv kv wr => ∃ i : Nat, i ≤ l.length ∧ iv = .int .i64 i ∧ Hid (KidsAt (w.heap.size + 2) (fun x => B x ∨ w.heap.size + 3 ≤ x) ⟨2, [], 0, 0, [], (none, 0, 0), none, 0, 0⟩ (w.heap.size + 3) wr ((l.take i).flatMap fun x => Pd.put 2 (Pd.nrm x true)).length ((l.take i).flatMap fun x => Pd.put 2 (Pd.nrm x true))) ∧ Hid (PAt wr (w.heap.size + 1) PV.zero) ∧ Hid (PAt wr w.heap.size ⟨1, vcol, vn, vm, vs, vset, p, l.length, cap⟩) ∧ Hid (w.heap.size + 3 ≤ wr.heap.size) ∧ Hid (Ex w wr)) (fun iv kv wr => l.length - (intOf iv).toNat)
 case atStart => exact ⟨0, by omega, rfl, HK0, HZ3, HP3, HSZ3, HX3⟩
 case round =>
  obtain ⟨i, hi, rfl, HKr, HZr, HPb, HSr, HXr⟩ := hrel
  obtain ⟨Li, hLi⟩ : ∃ L, ((l.take i).flatMap fun x => Pd.put 2 (Pd.nrm x true)) = L := ⟨_, rfl⟩
  rw [hLi] at HKr
  have HLI : Hid (((l.take i).flatMap fun x => Pd.put 2 (Pd.nrm x true)) = Li) := hLi
  clear hLi
  obtain ⟨⟨ka, kn, kc⟩, hPr, hkn, hOr⟩ := HKr.out
  simp only at hkn hPr
  have HKN : Hid (kn = Li.length) := hkn
  obtain ⟨b0, b1, b2, b3, b4, b5, b6⟩ := HPb.out.all
  simp only at b0 b1 b2 b3 b4 b5 b6
  by_cases hlt : i < l.length
  ·have hti : (i : Int) < (l.length : Int) := by omega
   obtain ⟨bb, off, u, hpp, hbg, hLk, e0, e1, e2, e3, e4, e5, e6⟩ := (Pd.Lay.below _ HLw.out HXr.out).kid hlt
   simp only at hpp
   obtain ⟨k, hk⟩ : ∃ k, l[i] = k := ⟨_, rfl⟩
   rw [hk] at hLk
   have hkm2 : k ∈ l := by rw [← hk]; exact List.getElem_mem hlt
   have HNX : Hid (((l.take (i + 1)).flatMap fun x => Pd.put 2 (Pd.nrm x true)) = Li ++ Pd.put 2 (Pd.nrm k true)) := (by
    rw [List.take_add_one, List.getElem?_eq_getElem hlt, hk, List.flatMap_append, HLI.out]
    simp : _ = Li ++ Pd.put 2 (Pd.nrm k true))
   have HLEN : Hid ((Li ++ Pd.put 2 (Pd.nrm k true)).length ≤ 80) := (by
    have h1 := Pd.len_join 2 true (l := l.take (i + 1)) (fun x hx => HFK.out x (List.mem_of_mem_take hx))
    have h2 := Pd.sum_take l (i + 1)
    have h3 := HSUM.out
    rw [← HNX.out]
    omega : (Li ++ Pd.put 2 (Pd.nrm k true)).length ≤ 80)
   have hks : Pd.size k ≤ 40 := by
    have h1 := Pd.sum_take l (i + 1)
    have h2 : ((l.take (i + 1)).map Pd.size).sum = ((l.take i).map Pd.size).sum + Pd.size k := by rw [List.take_add_one, List.getElem?_eq_getElem hlt, hk]; simp
    have h3 := HSUM.out
    omega
   have HC : Hid (Calls Try.prog 57 #[pvv u, .bool true] wr fun e w' => ∃ u, e = .returned (pvv u) ∧ Pd.Lay (fun x => B x ∨ wr.heap.size ≤ x) (Pd.nrm k true) w' u ∧ Ex wr w') := HIH.out k hkm2 true B u wr hLk (fun x hx => Nat.lt_of_lt_of_le (HBL.out x hx) HXr.out.size) (HFK.out k hkm2) hks
   have HPv : Hid (PAt wr (w.heap.size + 2) ⟨2, [], 0, 0, [], (none, 0, 0), ka, kn, kc⟩) := (hPr : PAt wr (w.heap.size + 2) _)
   have HOv : Hid (Pd.OwnQ (fun x => B x ∨ w.heap.size + 3 ≤ x) wr (w.heap.size + 3) (.slice ka kn kc) Li) := hOr
   have HOB : Hid (∀ g, (Value.slice ka kn kc).ownBlock = some g → w.heap.size + 3 ≤ g ∧ g < wr.heap.size) := hOr.lt
   subst hpp
   clear hLk hk hPr hOr HKr hkn hbg hkm2 hks
   go_wp2_with fail
   go_at_call 57
   refine Calls.mono HC.out ?_
   rintro e w2 ⟨u2, rfl, hL2, hx2⟩
   obtain ⟨w3, hw3⟩ : ∃ w3, w2.alloc (pb u2) = w3 := ⟨_, rfl⟩
   have hX23 : Ex w2 w3 := by rw [← hw3]; exact (Below.refl _ _).alloc (Nat.le_refl _) _
   have hX3 : Ex wr w3 := hx2.trans hX23
   have HXw3 : Hid (Ex w w3) := (HXr.out.trans hX3 : Ex w w3)
   have HPk : Hid (PAt w3 w2.heap.size u2) := (by rw [← hw3]; exact PAt.new w2 u2 : PAt w3 _ _)
   have hL3 : Pd.Lay (fun x => B x ∨ wr.heap.size ≤ x) (Pd.nrm k true) w3 u2 := Pd.Lay.below _ hL2 hX23
   have HS3 : Hid (w.heap.size + 3 ≤ w3.heap.size ∧ wr.heap.size ≤ w3.heap.size) := (⟨Nat.le_trans HSr.out hX3.size, hX3.size⟩ : _ ∧ _)
   have HPv3 : Hid (PAt w3 (w.heap.size + 2) ⟨2, [], 0, 0, [], (none, 0, 0), ka, kn, kc⟩) := (HPv.out.below hX3 : PAt _ _ _)
   have HO3 : Hid (Pd.OwnQ (fun x => B x ∨ w.heap.size + 3 ≤ x) w3 (w.heap.size + 3) (.slice ka kn kc) Li) := (HOv.out.later hX3 : Pd.OwnQ _ _ _ _ _)
   have HZ3' : Hid (PAt w3 (w.heap.size + 1) PV.zero) := (HZr.out.below hX3 : PAt _ _ _)
   have HPb3 : Hid (PAt w3 w.heap.size ⟨1, vcol, vn, vm, vs, vset, some ⟨bb, off, none⟩, l.length, cap⟩) := (HPb.out.below hX3 : PAt _ _ _)
   have hk3 : u2.k = (Pd.nrm k true).h.k := by
    have h := hL3
    rw [← Pd.mk_ks (Pd.nrm k true)] at h
    exact h.head.1.1.1
   have hnb : ¬ (B (w.heap.size + 2) ∨ w.heap.size + 3 ≤ w.heap.size + 2) := by
    rintro (h | h)
    ·have := HBL.out _ h; omega
    ·omega
   have HNB : Hid (¬ (B (w.heap.size + 2) ∨ w.heap.size + 3 ≤ w.heap.size + 2)) := hnb
   obtain ⟨r0, r1, r2, r3, r4, r5, r6⟩ := HPk.out.all
   obtain ⟨m0, m1, m2, m3, m4, m5, m6⟩ := HPv3.out.all
   simp only at m0 m1 m2 m3 m4 m5 m6
   obtain ⟨x, hx⟩ : ∃ x, (u2.k == 2) = x := ⟨_, rfl⟩
   clear HC hL2 hx2 hX23 hX3 hnb
   simp only [pvv, sv]
   cases x with
   | true =>
    have hput : Pd.put 2 (Pd.nrm k true) = (Pd.nrm k true).ks := by
     unfold Pd.put
     rw [if_pos (by rw [← hk3]; simpa using hx)]
    rw [hput] at HNX HLEN
    obtain ⟨M, hM⟩ : ∃ M, (Li ++ (Pd.nrm k true).ks).length = M := ⟨_, rfl⟩
    rw [hM] at HLEN
    have HM : Hid ((Li ++ (Pd.nrm k true).ks).length = M) := hM
    have HLE : Hid (Li.length + ((Pd.nrm k true).ks).length ≤ 80) := (by have h := HLEN.out; rw [← hM, List.length_append] at h; exact h : Li.length + ((Pd.nrm k true).ks).length ≤ 80)
    have hLm := hL3
    rw [← Pd.mk_ks (Pd.nrm k true)] at hLm
    have HKL : Hid (u2.kids.2.1 = (Pd.nrm k true).ks.length) := (hLm.head.2.1 : u2.kids.2.1 = _)
    rw [Pd.lay_mk] at hLm
    obtain ⟨hz1, hz2, hz3, vs2, hR2, hLs2⟩ := hLm
    have HR2 : Hid (RdW 7 pc w3 u2.kids.1 u2.kids.2.2 vs2) := hR2
    have HLS2 : Hid (Pd.Lays (fun c => (Value.slice ka kn kc).ownBlock ≠ some c ∧ (B c ∨ w.heap.size + 3 ≤ c)) w3 vs2 (Pd.nrm k true).ks) := (hLs2.mono fun c hc => ⟨fun e => by have h1 := HOB.out c e; rcases hc with hc | hc; (have := HBL.out c hc; omega); omega, hc.imp id fun h => Nat.le_trans HSr.out h⟩ : Pd.Lays _ w3 vs2 _)
    clear hR2 hLs2 hz1 hz2 hz3 hM hput hL3 hk3
    have hstep : ∀ v9 w9, Pd.OwnQ (fun x => B x ∨ w.heap.size + 3 ≤ x) w9 (w.heap.size + 3) v9 (Li ++ (Pd.nrm k true).ks) → World.grownBy w3 w9 (Value.slice ka kn kc).ownBlock → ∃ a9 c9 w10, v9 = .slice a9 M c9 ∧ w9.setCell ⟨w.heap.size + 2, 6, none⟩ (.slice a9 M c9) = w10 ∧ Hid (KidsAt (w.heap.size + 2) (fun x => B x ∨ w.heap.size + 3 ≤ x) ⟨2, [], 0, 0, [], (none, 0, 0), none, 0, 0⟩ (w.heap.size + 3) w10 (((l.take (i + 1)).flatMap fun x => Pd.put 2 (Pd.nrm x true)).length) ((l.take (i + 1)).flatMap fun x => Pd.put 2 (Pd.nrm x true))) ∧ Hid (PAt w10 (w.heap.size + 1) PV.zero) ∧ Hid (PAt w10 w.heap.size ⟨1, vcol, vn, vm, vs, vset, some ⟨bb, off, none⟩, l.length, cap⟩) ∧ Hid (w.heap.size + 3 ≤ w10.heap.size) ∧ Hid (Ex w w10) ∧ w9.cell? ⟨w.heap.size + 2, 6, none⟩ = some (.slice ka kn kc) ∧ w9.frozen? ⟨w.heap.size + 2, 6, none⟩ = false := by
     intro v9 w9 ho9 hg9
     obtain ⟨hP9, a9, c9, rfl, hK9⟩ := kids_push (kd := (ka, kn, kc)) (X := ⟨2, [], 0, 0, [], (none, 0, 0), none, 0, 0⟩) HPv3.out HO3.out ho9 hg9 (by omega) HNB.out
     rw [HNX.out]
     rw [HM.out] at hK9 ⊢
     have hne : ∀ g, g < w.heap.size + 3 → (Value.slice ka kn kc).ownBlock ≠ some g := fun g hg e => by have := (HOB.out g e).1; omega
     refine ⟨a9, c9, _, rfl, rfl, hK9, (HZ3'.out.far hg9 (hne _ (by omega))).other (by omega), (HPb3.out.far hg9 (hne _ (by omega))).other (by omega), ?_, ?_, hP9.all.2.2.2.2.2.2, hP9.fro.2.2.2.2.2.2⟩
     ·have h1 := HS3.out.1; have h2 := hg9.size; have h3 := (Nat.le_refl w3.heap.size); show w.heap.size + 3 ≤ _; simp at h2 h3 ⊢; omega
     ·exact Below.setCell (Below.grown HXw3.out hg9 (by have h1 := HS3.out.1; have h3 := (Nat.le_refl w3.heap.size); simp at h3 ⊢; omega) (fun g hg => by have := (HOB.out g hg).1; omega)) (show w.heap.size ≤ w.heap.size + 2 by omega) _
    go_wp2_with (at_builtin; refine Pd.wpList_append_Q (B := fun x => B x ∨ w.heap.size + 3 ≤ x) rfl (.tmp 50) (.tmp 52) rfl (w.heap.size + 3) (.slice ka kn kc) Li rfl HO3.out u2.kids.1 u2.kids.2.1 u2.kids.2.2 vs2 (Pd.nrm k true).ks rfl HKL.out HR2.out HLS2.out (by have := HLE.out; omega) HS3.out.1 ?_; intro v9 w9 ho9 hg9 hat9; obtain ⟨a9, c9, w10, rfl, hw10, HK10, HZ10, HP10, HS10, HX10, n6, n7⟩ := hstep v9 w9 ho9 hg9; clear ho9 hg9 hat9)
    go_roundw
    case rel => exact ⟨i + 1, by omega, by go_num, HK10, HZ10, HP10, HS10, HX10⟩
    case measure => simp [intOf]; omega
   | false =>
    have hput : Pd.put 2 (Pd.nrm k true) = [Pd.nrm k true] := by
     unfold Pd.put
     rw [if_neg (by rw [← hk3]; simpa using hx)]
    rw [hput] at HNX HLEN
    obtain ⟨M, hM⟩ : ∃ M, (Li ++ [Pd.nrm k true]).length = M := ⟨_, rfl⟩
    rw [hM] at HLEN
    have HM : Hid ((Li ++ [Pd.nrm k true]).length = M) := hM
    have HLE : Hid (Li.length + ([Pd.nrm k true]).length ≤ 80) := (by have h := HLEN.out; rw [← hM, List.length_append] at h; exact h : Li.length + ([Pd.nrm k true]).length ≤ 80)
    have hX34 : Ex w3 (w3.alloc (pb u2)) := (Below.refl _ _).alloc (Nat.le_refl _) _
    have HR2 : Hid (RdW 7 pc (w3.alloc (pb u2)) (some ⟨w3.heap.size, 0, none⟩) 1 [u2]) := (RdW.laid pc_len w3 [u2] (by simp) : RdW 7 pc _ _ _ _)
    have HLS2 : Hid (Pd.Lays (fun c => (Value.slice ka kn kc).ownBlock ≠ some c ∧ (B c ∨ w.heap.size + 3 ≤ c)) (w3.alloc (pb u2)) [u2] [Pd.nrm k true]) := ((Pd.Lays.one (Pd.Lay.below _ hL3 hX34)).mono fun c hc => ⟨fun e => by have h1 := HOB.out c e; rcases hc with hc | hc; (have := HBL.out c hc; omega); omega, hc.imp id fun h => Nat.le_trans HSr.out h⟩ : Pd.Lays _ _ [u2] _)
    have HO4 : Hid (Pd.OwnQ (fun x => B x ∨ w.heap.size + 3 ≤ x) (w3.alloc (pb u2)) (w.heap.size + 3) (.slice ka kn kc) Li) := (HO3.out.later hX34 : Pd.OwnQ _ _ _ _ _)
    have HX34 : Hid (Ex w3 (w3.alloc (pb u2))) := hX34
    clear hM hput hL3 hk3 hX34
    have hstep : ∀ v9 w9, Pd.OwnQ (fun x => B x ∨ w.heap.size + 3 ≤ x) w9 (w.heap.size + 3) v9 (Li ++ [Pd.nrm k true]) → World.grownBy (w3.alloc (pb u2)) w9 (Value.slice ka kn kc).ownBlock → ∃ a9 c9 w10, v9 = .slice a9 M c9 ∧ w9.setCell ⟨w.heap.size + 2, 6, none⟩ (.slice a9 M c9) = w10 ∧ Hid (KidsAt (w.heap.size + 2) (fun x => B x ∨ w.heap.size + 3 ≤ x) ⟨2, [], 0, 0, [], (none, 0, 0), none, 0, 0⟩ (w.heap.size + 3) w10 (((l.take (i + 1)).flatMap fun x => Pd.put 2 (Pd.nrm x true)).length) ((l.take (i + 1)).flatMap fun x => Pd.put 2 (Pd.nrm x true))) ∧ Hid (PAt w10 (w.heap.size + 1) PV.zero) ∧ Hid (PAt w10 w.heap.size ⟨1, vcol, vn, vm, vs, vset, some ⟨bb, off, none⟩, l.length, cap⟩) ∧ Hid (w.heap.size + 3 ≤ w10.heap.size) ∧ Hid (Ex w w10) ∧ w9.cell? ⟨w.heap.size + 2, 6, none⟩ = some (.slice ka kn kc) ∧ w9.frozen? ⟨w.heap.size + 2, 6, none⟩ = false := by
     intro v9 w9 ho9 hg9
     obtain ⟨hP9, a9, c9, rfl, hK9⟩ := kids_push (kd := (ka, kn, kc)) (X := ⟨2, [], 0, 0, [], (none, 0, 0), none, 0, 0⟩) (HPv3.out.below HX34.out) HO4.out ho9 hg9 (by omega) HNB.out
     rw [HNX.out]
     rw [HM.out] at hK9 ⊢
     have hne : ∀ g, g < w.heap.size + 3 → (Value.slice ka kn kc).ownBlock ≠ some g := fun g hg e => by have := (HOB.out g e).1; omega
     refine ⟨a9, c9, _, rfl, rfl, hK9, ((HZ3'.out.below HX34.out).far hg9 (hne _ (by omega))).other (by omega), ((HPb3.out.below HX34.out).far hg9 (hne _ (by omega))).other (by omega), ?_, ?_, hP9.all.2.2.2.2.2.2, hP9.fro.2.2.2.2.2.2⟩
     ·have h1 := HS3.out.1; have h2 := hg9.size; have h3 := HX34.out.size; show w.heap.size + 3 ≤ _; simp at h2 h3 ⊢; omega
     ·exact Below.setCell (Below.grown (HXw3.out.trans HX34.out) hg9 (by have h1 := HS3.out.1; have h3 := HX34.out.size; simp at h3 ⊢; omega) (fun g hg => by have := (HOB.out g hg).1; omega)) (show w.heap.size ≤ w.heap.size + 2 by omega) _
    go_wp2_with (at_builtin; refine Pd.wpList_append_Q (B := fun x => B x ∨ w.heap.size + 3 ≤ x) rfl (.tmp 56) (.tmp 58) rfl (w.heap.size + 3) (.slice ka kn kc) Li rfl HO4.out (some ⟨w3.heap.size, 0, none⟩) _ _ [u2] [Pd.nrm k true] rfl rfl HR2.out HLS2.out (by have := HLE.out; omega) (Nat.le_trans HS3.out.1 HX34.out.size) ?_; intro v9 w9 ho9 hg9 hat9; obtain ⟨a9, c9, w10, rfl, hw10, HK10, HZ10, HP10, HS10, HX10, n6, n7⟩ := hstep v9 w9 ho9 hg9; clear ho9 hg9 hat9)
    go_roundw
    case rel => exact ⟨i + 1, by omega, by go_num, HK10, HZ10, HP10, HS10, HX10⟩
    case measure => simp [intOf]; omega
  ·have hti : ¬ (i : Int) < (l.length : Int) := by omega
   have hil : l.take i = l := List.take_of_length_le (by omega)
   have HLI2 : Hid ((l.flatMap fun x => Pd.put 2 (Pd.nrm x true)) = Li) := (by have h := HLI.out; rwa [hil] at h : (l.flatMap fun x => Pd.put 2 (Pd.nrm x true)) = Li)
   have HNR : Hid (Pd.nrm (Pr.mk' h l) true = Pd.one 2 Li) := (by rw [Pd.nrm_mk, if_neg (by rw [← HVK.out]; decide), if_pos (by rw [← HVK.out]; decide), ← HVK.out, show Pd.turn 1 true = 2 from by decide, HLI2.out] : Pd.nrm (Pr.mk' h l) true = Pd.one 2 Li)
   have hlen : kn ≤ 80 := by
    have h1 := Pd.len_join 2 true HFK.out
    rw [HLI2.out] at h1
    have := HSUM.out
    omega
   have hob := hOr.lt
   obtain ⟨a3, c3, vs3, e, hR3, hL3⟩ := hOr.rd
   simp only [sv, Value.slice.injEq] at e
   obtain ⟨rfl, he2, rfl⟩ := e
   clear he2 hkn
   have HR3 : Hid (RdW 7 pc wr ka kc vs3) := hR3
   have HL3 : Hid (Pd.Lays (fun x => B x ∨ w.heap.size + 3 ≤ x) wr vs3 Li) := hL3
   have HKB : Hid (∀ g off, ka = some ⟨g, off, none⟩ → w.heap.size + 3 ≤ g) := (fun g off e => (hob g (by rw [e]; rfl)).1 : ∀ g off, ka = some ⟨g, off, none⟩ → w.heap.size + 3 ≤ g)
   obtain ⟨c0, c1, c2, c3', c4, c5, c6⟩ := hPr.all
   obtain ⟨z0, z1, z2, z3, z4, z5, z6⟩ := HZr.out.fro
   obtain ⟨y0, y1, y2, y3, y4, y5, y6⟩ := HZr.out.all
   simp only at c0 c1 c2 c3' c4 c5 c6
   by_cases hone : kn = 1
   ·have t1 : ((kn : Int) == 1) = true := beq_iff_eq.2 (by omega)
    have hLl : Li.length = 1 := by rw [← HKN.out]; exact hone
    obtain ⟨q, hq⟩ := Pd.one_of hLl
    have HQ : Hid (Li = [q]) := hq
    have hv3 : vs3.length = 1 := by rw [hL3.1]; exact hLl
    obtain ⟨bb, off, hpp, hc⟩ := hR3.at (i := 0) (by omega)
    obtain ⟨u, hu⟩ : ∃ u, vs3[0] = u := ⟨_, rfl⟩
    rw [hu] at hc
    have hLq : Pd.Lay (fun x => B x ∨ w.heap.size + 3 ≤ x) q wr u := by
     refine hL3.2 0 u q ?_ ?_
     ·rw [List.getElem?_eq_getElem (by omega), hu]
     ·rw [hq]; rfl
    have HLQ : Hid (Pd.Lay (fun x => B x ∨ w.heap.size + 3 ≤ x) q wr u) := hLq
    have e0 := hc 0 _ rfl
    have e1 := hc 1 _ rfl
    have e2 := hc 2 _ rfl
    have e3 := hc 3 _ rfl
    have e4 := hc 4 _ rfl
    have e5 := hc 5 _ rfl
    have e6 := hc 6 _ rfl
    simp only [Nat.zero_mul, Nat.add_zero, sv] at e0 e1 e2 e3 e4 e5 e6
    have hk1 : (0 : Int) < (kn : Int) := by omega
    have hk0' : 0 < kn := by omega
    subst hpp
    clear hone hLl hq hv3 hc hu hLq hL3 hR3 hob hPr hOr HKr hil
    go_wp2_with fail
    have hP9 := HZr.out.store u
    have hX9 := Below.pset HXr.out (Nat.le_succ _) u
    refine bodyPost_ret (v := pvv u) (res_pred Try.results57 rfl hP9) rfl ⟨_, rfl, ?_, hX9⟩
    rw [HNR.out, HQ.out]
    show Pd.Lay _ q _ u
    exact Pd.Lay.mono (fun x hx => hx.imp id fun h => by omega) _ (Pd.Lay.far (row := some (w.heap.size + 1)) (fun x hx e => by simp at e; rcases hx with hx | hx; (have := HBL.out x hx; omega); omega) _ HLQ.out (grown_pset _ _ _))
   ·have t1 : ((kn : Int) == 1) = false := beq_eq_false_iff_ne.2 (by omega)
    have HONE : Hid (¬ kn = 1) := hone
    clear hone hL3 hR3 hob hPr hOr HKr hil
    go_wp2_with fail
    have hP9 := HZr.out.store ⟨2, [], 0, 0, [], (none, 0, 0), ka, kn, kc⟩
    have hX9 := Below.pset HXr.out (Nat.le_succ _) ⟨2, [], 0, 0, [], (none, 0, 0), ka, kn, kc⟩
    refine bodyPost_ret (v := pvv ⟨2, [], 0, 0, [], (none, 0, 0), ka, kn, kc⟩) (res_pred Try.results57 rfl hP9) rfl ⟨_, rfl, ?_, hX9⟩
    rw [HNR.out]
    unfold Pd.one
    rw [if_neg (by rw [← HKN.out]; exact HONE.out), Pd.lay_mk]
    have hgr := grown_pset wr (w.heap.size + 1) ⟨2, [], 0, 0, [], (none, 0, 0), ka, kn, kc⟩
    refine ⟨⟨⟨rfl, rfl, rfl, rfl, rfl⟩, rfl, Rd.nil _, fun h0 => by simp at h0⟩, HKN.out, fun _ c off e => .inr (by have := HKB.out c off e; omega), vs3, ?_, ?_⟩
    ·exact HR3.out.far hgr (fun _ c off e => by have := HKB.out c off e; simp; omega)
    ·exact (HL3.out.far (row := some (w.heap.size + 1)) (fun c hc e => by simp at e; rcases hc with hc | hc; (have := HBL.out c hc; omega); omega) hgr).mono fun c hc => hc.imp id fun h => by omega
end Go.Proofs.Ytibnhjfeepdddaa
