/-
  The landed copied: a predicate in memory of its own, at each depth. Plain facts on normal predicates: how great they are. No program here.
-/
import Derived.Test.YtibnhjfeepdddaaM20
namespace Go.Proofs.Ytibnhjfeepdddaa
open Go.RowKit
set_option linter.unusedVariables false
set_option linter.unusedSimpArgs false
/-- A predicate in a block whose Kids, the call's own, are these. -/
def KidsAt (g : Nat) (B : Nat → Prop) (X : PV) (base : Nat) (wr : World) (i : Nat) (l : List Pr) : Prop := ∃ kd : SV, PAt wr g { X with kids := kd } ∧ kd.2.1 = i ∧ Pd.OwnQ B wr base (sv kd) l
/-- A callee's predicate, in new memory. -/
theorem pred_row {f : FuncId} {args : Array Value} {wx w1 : World} {p : Pr} (h : Calls Try.prog f args wx fun e w' => ∃ u, e = .returned (pvv u) ∧ Pd.Lay (fun b => wx.heap.size ≤ b) p w' u ∧ Ex wx w') (hC : Ex w1 wx) :
  Calls Try.prog f args wx (fun e w' => ∃ u, e = .returned u ∧ Rg.Spec.ok (.inr (Pd.IsP (fun b => w1.heap.size ≤ b) p)) u w' ∧ Ex wx w' ∧ Ex w1 w') :=
 h.mono fun e w' ⟨u, h1, h2, h3⟩ => ⟨pvv u, h1, ⟨u, rfl, Pd.Lay.mono (fun b hb => Nat.le_trans hC.size hb) _ h2⟩, h3, hC.trans h3⟩
set_option maxHeartbeats 4000000 in
set_option maxRecDepth 100000 in
theorem copied_is : ∀ (p : Pr) (v : PV) (w : World), Pd.Lay (fun _ => True) p w v → Pd.Fine p →
  Calls Try.prog 51 #[pvv v] w fun e w' => ∃ u, e = .returned (pvv u) ∧ Pd.Lay (fun b => w.heap.size ≤ b) p w' u ∧ Ex w w' := by
 refine Pd.tree ?_
 intro h l ih v w hL hFi
 rw [Pd.fine_mk] at hFi
 obtain ⟨hF, hl1, hFk⟩ := hFi
 obtain ⟨hHd, hkn, hkB, hkc, hkm, hk0⟩ := hL.head
 obtain ⟨vk, vcol, vn, vm, vs, ⟨sa, sn, sc⟩, ⟨p, n, cap⟩⟩ := v
 simp only at hkn hkB hkc hkm hk0
 subst hkn
 obtain ⟨k, col, hn', m, s, set⟩ := h
 obtain ⟨⟨rfl, rfl, rfl, rfl, rfl⟩, hsn, hB, _⟩ := hHd
 simp only at hsn hB
 subst hsn
 have hs1 := hB.1
 have hs2 := hB.2.1
 have hs3 : set.length ≤ 1000 := hF.set
 have HIH : Hid (∀ k ∈ l, ∀ (v : PV) (w : World), Pd.Lay (fun _ => True) k w v → Pd.Fine k → Calls Try.prog 51 #[pvv v] w fun e w' => ∃ u, e = .returned (pvv u) ∧ Pd.Lay (fun b => w.heap.size ≤ b) k w' u ∧ Ex w w') := ih
 have HFK : Hid (∀ k ∈ l, Pd.Fine k) := hFk
 have HLw : Hid (Pd.Lay (fun _ => True) (Pr.mk' ⟨vk, vcol, vn, vm, vs, set⟩ l) w ⟨vk, vcol, vn, vm, vs, (sa, set.length, sc), p, l.length, cap⟩) := hL
 obtain ⟨W, hW⟩ : ∃ W, (w.alloc (pb ⟨vk, vcol, vn, vm, vs, (sa, set.length, sc), p, l.length, cap⟩)).alloc pb0 = W := ⟨_, rfl⟩
 have hX1 : Ex w (w.alloc (pb ⟨vk, vcol, vn, vm, vs, (sa, set.length, sc), p, l.length, cap⟩)) := (Below.refl _ _).alloc (Nat.le_refl _) _
 have hXW : Ex w W := by rw [← hW]; exact Below.alloc hX1 (by simp) _
 have HXW : Hid (Ex w W) := hXW
 have hszW : W.heap.size = w.heap.size + 2 := by rw [← hW]; simp
 have HSZ : Hid (W.heap.size = w.heap.size + 2) := hszW
 have HP : Hid (PAt W w.heap.size ⟨vk, vcol, vn, vm, vs, (sa, set.length, sc), p, l.length, cap⟩) := (by rw [← hW]; exact (PAt.new w _).alloc _ : PAt W w.heap.size _)
 have HZ : Hid (PAt W (w.heap.size + 1) PV.zero) := (by
  rw [← hW]
  have h := PAt.newat (w.alloc (pb ⟨vk, vcol, vn, vm, vs, (sa, set.length, sc), p, l.length, cap⟩)) (w.heap.size + 1) PV.zero (by simp)
  exact h : PAt W (w.heap.size + 1) PV.zero)
 have HB : Hid (Rd st W sa sc set) := hB.below hXW
 obtain ⟨p0, p1, p2, p3, p4, p5, p6⟩ := HP.out.all
 simp only at p0 p1 p2 p3 p4 p5 p6
 unfold maxLen at hkm hs2
 clear hL hB hkB ih hXW hF hFk hX1 hszW
 have hstep : ∀ v9 w9, OwnR 9 st w9 (w.heap.size + 2) v9 ([] ++ set) → W.grownBy w9 (Value.slice none 0 0).ownBlock → ∃ a9 c9 w10 w11, v9 = .slice a9 set.length c9 ∧ w9.setCell ⟨w.heap.size, 5, none⟩ (.slice a9 set.length c9) = w10 ∧ w10.setCell ⟨w.heap.size, 6, none⟩ (.slice none 0 0) = w11 ∧
   Hid (PAt w9 w.heap.size ⟨vk, vcol, vn, vm, vs, (sa, set.length, sc), p, l.length, cap⟩) ∧ Hid (PAt w10 w.heap.size ⟨vk, vcol, vn, vm, vs, (a9, set.length, c9), p, l.length, cap⟩) ∧ Hid (PAt w11 w.heap.size ⟨vk, vcol, vn, vm, vs, (a9, set.length, c9), none, 0, 0⟩) ∧
   Hid (PAt w11 (w.heap.size + 1) PV.zero) ∧ Hid (Ex w w11) ∧ Hid (Rd st w11 a9 c9 set) ∧ Hid (∀ g off, a9 = some ⟨g, off, none⟩ → w.heap.size + 2 ≤ g ∧ g < w11.heap.size) ∧ Hid (w.heap.size + 2 ≤ w11.heap.size) ∧
   (w9.cell? ⟨w.heap.size, 5, none⟩ = some (.slice sa set.length sc) ∧ w9.cell? ⟨w.heap.size, 6, none⟩ = some (.slice p l.length cap) ∧ w9.frozen? ⟨w.heap.size, 5, none⟩ = false) ∧ w10.cell? ⟨w.heap.size, 6, none⟩ = some (.slice p l.length cap) ∧ w10.frozen? ⟨w.heap.size, 6, none⟩ = false := by
  intro v9 w9 ho9 hg9
  rw [List.nil_append] at ho9
  obtain ⟨a9, c9, rfl, hb9⟩ := ho9.rd
  have hlt9 : ∀ g off, a9 = some ⟨g, off, none⟩ → w.heap.size + 2 ≤ g ∧ g < w9.heap.size := fun g off e => World.ownsRow.lt ho9 g (by rw [e]; rfl)
  have hP9 : PAt w9 w.heap.size ⟨vk, vcol, vn, vm, vs, (sa, set.length, sc), p, l.length, cap⟩ := HP.out.far hg9 (by simp [Value.ownBlock])
  have hZ9 : PAt w9 (w.heap.size + 1) PV.zero := HZ.out.far hg9 (by simp [Value.ownBlock])
  have hX9 : Ex w w9 := Below.grown HXW.out hg9 HXW.out.size (fun k hk => by simp [Value.ownBlock] at hk)
  have hP10 : PAt (w9.setCell ⟨w.heap.size, 5, none⟩ (.slice a9 set.length c9)) w.heap.size ⟨vk, vcol, vn, vm, vs, (a9, set.length, c9), p, l.length, cap⟩ := hP9.set rfl
  refine ⟨a9, c9, _, _, rfl, rfl, rfl, hP9, hP10, hP10.set rfl, (hZ9.other (by omega)).other (by omega), Below.setCell (Below.setCell hX9 (Nat.le_refl _) _) (Nat.le_refl _) _, ?_, ?_, ?_, ⟨hP9.all.2.2.2.2.2.1, hP9.all.2.2.2.2.2.2, hP9.fro.2.2.2.2.2.1⟩, hP10.all.2.2.2.2.2.2, hP10.fro.2.2.2.2.2.2⟩
  ·refine rd_far (rd_far hb9 (grown_set1 _ _ _ _) ?_) (grown_set1 _ _ _ _) ?_
   ·intro _ b off e; have := (hlt9 b off e).1; simp; omega
   ·intro _ b off e; have := (hlt9 b off e).1; simp; omega
  ·intro g off e
   have h1 := hlt9 g off e
   simpa using h1
  ·have := hg9.size
   have h2 := HSZ.out
   show w.heap.size + 2 ≤ _
   simp; omega
 unfold pvv
 simp only [sv]
 go_enter Try.func51, Try.ntmps51
 go_wp2_with (at_builtin; refine wpList_append_rd_at (e := 9) (enc := st) rfl (.const (.slice none 0 0)) (.tmp 7) 26 rfl [] 16 Try.underlying26 Try.info9 rfl (fun _ => rfl) (w.heap.size + 2) _ [] rfl (World.ownsRow_nil _ _ _ _) sa set.length sc set rfl rfl HB.out (by simp [maxLen]; omega) (by simp; omega) (by rw [HSZ.out]; exact Nat.le_refl _) ?_; intro v9 w9 ho9 hg9 hat9; obtain ⟨a9, c9, w10, w11, rfl, hw10, hw11, HP9, HP10, HP11, HZ11, HX11, HR11, HSB, HSZ11, ⟨r5, r6, r7⟩, r8, r9⟩ := hstep v9 w9 ho9 hg9; clear ho9 hg9 hat9)
 clear r5 r6 r7 r8 r9 hstep
 go_loopw [15, 5] (fun iv kv wr => ∃ i : Nat, i ≤ l.length ∧ iv = .int .i64 i ∧ Hid (KidsAt w.heap.size (fun b => w.heap.size + 2 ≤ b) ⟨vk, vcol, vn, vm, vs, (a9, set.length, c9), none, 0, 0⟩ w11.heap.size wr i (l.take i)) ∧ Hid (PAt wr (w.heap.size + 1) PV.zero) ∧ Hid (Rd st wr a9 c9 set) ∧ Hid (w11.heap.size ≤ wr.heap.size) ∧ Hid (Ex w wr)) (fun iv kv wr => l.length - (intOf iv).toNat)
 case atStart => exact ⟨0, by omega, rfl, (⟨(none, 0, 0), HP11.out, rfl, by rw [List.take_zero]; exact Pd.OwnQ.nil _ _ _⟩ : KidsAt w.heap.size (fun b => w.heap.size + 2 ≤ b) ⟨vk, vcol, vn, vm, vs, (a9, set.length, c9), none, 0, 0⟩ w11.heap.size w11 0 (l.take 0)), HZ11, HR11, (Nat.le_refl _ : w11.heap.size ≤ w11.heap.size), HX11⟩
 case round =>
  obtain ⟨i, hi, rfl, HKD, HZr, HRr, HSr, HXr⟩ := hrel
  obtain ⟨⟨ka, kn, kc⟩, hPr, hkn, hOr⟩ := HKD.out
  simp only at hkn
  subst hkn
  by_cases hlt : kn < l.length
  ·have hti : (kn : Int) < (l.length : Int) := by omega
   have hLr := Pd.Lay.below _ HLw.out HXr.out
   obtain ⟨b, off, u, hpp, hbg, hLk, e0, e1, e2, e3, e4, e5, e6⟩ := hLr.kid hlt
   simp only at hpp
   obtain ⟨k, hk⟩ : ∃ k, l[kn] = k := ⟨_, rfl⟩
   rw [hk] at hLk
   have HK : Hid (k ∈ l) := (by rw [← hk]; exact List.getElem_mem hlt : k ∈ l)
   have HNX : Hid (l.take (kn + 1) = l.take kn ++ [k]) := (by rw [List.take_add_one, List.getElem?_eq_getElem hlt, hk]; rfl : l.take (kn + 1) = l.take kn ++ [k])
   obtain ⟨w1, hw1⟩ : ∃ w1, wr.alloc (pb u) = w1 := ⟨_, rfl⟩
   have hX1 : Ex wr w1 := by rw [← hw1]; exact (Below.refl _ _).alloc (Nat.le_refl _) _
   have HX1 : Hid (Ex wr w1) := hX1
   have HL1 : Hid (Pd.Lay (fun _ => True) k w1 u) := (Pd.Lay.below _ hLk hX1 : Pd.Lay _ k w1 u)
   have HP1 : Hid (PAt w1 wr.heap.size u) := (by rw [← hw1]; exact PAt.new wr u : PAt w1 wr.heap.size u)
   have HPv1 : Hid (PAt w1 w.heap.size ⟨vk, vcol, vn, vm, vs, (a9, set.length, c9), ka, kn, kc⟩) := (hPr.below hX1 : PAt w1 w.heap.size _)
   have HO1 : Hid (Pd.OwnQ (fun b => w.heap.size + 2 ≤ b) w1 w11.heap.size (.slice ka kn kc) (l.take kn)) := (hOr.later hX1 : Pd.OwnQ _ w1 _ _ _)
   subst hpp
   clear hLr hLk hk hX1 hbg hPr hOr HKD
   go_wp2_with fail
   have hre := Ex.refl
   refine Rg.wp_rows_tail (List.take 5 _) (List.drop 5 _) (List.take_append_drop 5 _).symm [.inl (Value.pointer (some ⟨w.heap.size, 6, none⟩)), .inl (Value.slice ka kn kc), .inl (pvv u), .inr (Pd.IsP (fun b => w1.heap.size ≤ b) k), .inr (Pd.IsPs w1.heap.size (fun b => w1.heap.size ≤ b) [k])] (Ex w1) Ex 28 (by kernel_rfl) rfl (by kernel_rfl) (by kernel_rfl) (by kernel_rfl) (by decide) (by kernel_rfl) ?st hre (Ex.drew _) ?goods ?fin
   case st => exact ⟨Pd.IsP.stands _ _, Pd.IsPs.stands _ _ _, trivial⟩
   case goods =>
    refine Rg.goods_cons (Rg.good_field hre rfl rfl rfl (fun wx hC => by go_simp)) ?_
    refine Rg.goods_cons (Rg.good_load hre rfl rfl rfl (fun wx hC => by have hz := (HPv1.out.below hC).all.2.2.2.2.2.2; go_simp)) ?_
    refine Rg.goods_cons (Rg.good_load hre rfl rfl rfl (fun wx hC => (HP1.out.below hC).loadI)) ?_
    refine Rg.goods_cons (Rg.good_call1 Try.func51 (by kernel_rfl) rfl rfl rfl (by rintro u0 wx hC rfl; exact pred_row (HIH.out k HK.out u wx (Pd.Lay.below _ HL1.out hC) (HFK.out k HK.out)) hC)) ?_
    refine Rg.goods_cons (Rg.good_pred1 rfl rfl rfl) ?_
    exact Rg.goods_nil
   case fin =>
    intro wx hx
    simp only [Rg.later, List.take_succ_cons, List.take_zero, List.drop_succ_cons, List.drop_zero, Act.put, List.setIfInBounds_toArray, List.set_cons_succ, List.set_cons_zero]
    rintro v22 _ v23 ⟨g23, us, rfl, hg23, hR23, hL23⟩
    have hsz1 := HX1.out.size
    have hob : ∀ g, (Value.slice ka kn kc).ownBlock = some g → w11.heap.size ≤ g ∧ g < w1.heap.size := HO1.out.lt
    refine Pd.wpList_append_Q rfl (.tmp 20) (.tmp 23) rfl w11.heap.size (.slice ka kn kc) (l.take kn) rfl (HO1.out.later hx) (some ⟨g23, 0, none⟩) _ 1 us [k] rfl rfl hR23 (hL23.mono fun b hb => ⟨fun e => by have := hob b e; omega, by have h1 := HSZ11.out; have h2 := HSr.out; omega⟩) (by simp; omega) (by have h2 := HSr.out; have := hx.size; omega) ?_
    intro v' w3 ho3 hg3 hat3
    have hX3 : Ex w w3 := Below.grown ((HXr.out.trans HX1.out).trans hx) hg3 ((HXr.out.trans HX1.out).trans hx).size (fun g hg => by have h1 := hob g hg; have h2 := HSZ11.out; omega)
    have hne : ∀ g, g < w11.heap.size → (Value.slice ka kn kc).ownBlock ≠ some g := fun g hg e => by have := hob g e; omega
    have hP3 : PAt w3 w.heap.size ⟨vk, vcol, vn, vm, vs, (a9, set.length, c9), ka, kn, kc⟩ := (HPv1.out.below hx).far hg3 (hne _ (by have h2 := HSZ11.out; omega))
    have hZ3 : PAt w3 (w.heap.size + 1) PV.zero := ((HZr.out.below HX1.out).below hx).far hg3 (hne _ (by have h2 := HSZ11.out; omega))
    have hR3 : Rd st w3 a9 c9 set := rd_far ((HRr.out.below HX1.out).below hx) hg3 (fun _ b off e => hne _ (HSB.out b off e).2)
    have hob3 := ho3.lt
    obtain ⟨a3, c3, vs3, rfl, _, _⟩ := ho3.rd
    have hlen : (l.take kn ++ [k]).length = kn + 1 := by simp; omega
    rw [hlen] at ho3 hat3 hob3 ⊢
    obtain ⟨w4, hw4⟩ : ∃ w4, w3.setCell ⟨w.heap.size, 6, none⟩ (.slice a3 (kn + 1) c3) = w4 := ⟨_, rfl⟩
    have HK4 : Hid (KidsAt w.heap.size (fun b => w.heap.size + 2 ≤ b) ⟨vk, vcol, vn, vm, vs, (a9, set.length, c9), none, 0, 0⟩ w11.heap.size w4 (kn + 1) (l.take (kn + 1))) := (by
     rw [HNX.out, ← hw4]
     exact ⟨(a3, kn + 1, c3), hP3.set rfl, rfl, ho3.far (fun e => by have := (hob3 _ e).1; have h2 := HSZ11.out; omega) (by omega)⟩ : KidsAt _ _ _ _ _ _ _)
    have HZ4 : Hid (PAt w4 (w.heap.size + 1) PV.zero) := (by rw [← hw4]; exact hZ3.other (by omega) : PAt w4 (w.heap.size + 1) PV.zero)
    have HR4 : Hid (Rd st w4 a9 c9 set) := (by rw [← hw4]; exact rd_far hR3 (grown_set1 _ _ _ _) (fun _ b off e => by have := (HSB.out b off e).1; simp; omega) : Rd st w4 a9 c9 set)
    have HX4 : Hid (Ex w w4) := (by rw [← hw4]; exact Below.setCell hX3 (Nat.le_refl _) _ : Ex w w4)
    have HS4 : Hid (w11.heap.size ≤ w4.heap.size) := (by have h1 := HSr.out; have h2 := hx.size; have h3 := hg3.size; rw [← hw4]; simp; omega : w11.heap.size ≤ w4.heap.size)
    have f6 := hP3.fro.2.2.2.2.2.2
    have c6 := hP3.all.2.2.2.2.2.2
    simp only at c6
    clear ho3 hg3 hat3 hX3 hne hP3 hZ3 hR3 hob3 hob hlen hR23 hL23 hx
    go_wp2_with fail
    go_roundw
    case rel => exact ⟨kn + 1, by omega, by go_num, HK4, HZ4, HR4, HS4, HX4⟩
    case measure => simp [intOf]; omega
  ·have hti : ¬ (kn : Int) < (l.length : Int) := by omega
   have HPr : Hid (PAt wr w.heap.size ⟨vk, vcol, vn, vm, vs, (a9, set.length, c9), ka, kn, kc⟩) := hPr
   have hil : l.take kn = l := List.take_of_length_le (by omega)
   have hknl : kn = l.length := by omega
   have HLQ : Hid (∃ vs, RdW 7 pc wr ka kc vs ∧ Pd.Lays (fun b => w.heap.size + 2 ≤ b) wr vs l) := (by
    rw [hil] at hOr
    obtain ⟨a3, c3, vs3, e, h1, h2⟩ := hOr.rd
    simp only [sv, Value.slice.injEq] at e
    obtain ⟨rfl, _, rfl⟩ := e
    exact ⟨vs3, h1, h2⟩ : ∃ vs, RdW 7 pc wr ka kc vs ∧ Pd.Lays (fun b => w.heap.size + 2 ≤ b) wr vs l)
   have HKB : Hid (∀ g off, ka = some ⟨g, off, none⟩ → w.heap.size + 2 ≤ g) := (by
    intro g off e
    have := (hOr.lt g (by rw [e]; rfl)).1
    have h2 := HSZ11.out
    omega : ∀ g off, ka = some ⟨g, off, none⟩ → w.heap.size + 2 ≤ g)
   have HKN : Hid (kn = l.length) := hknl
   obtain ⟨c0, c1, c2, c3, c4, c5, c6⟩ := hPr.all
   obtain ⟨z0, z1, z2, z3, z4, z5, z6⟩ := HZr.out.fro
   obtain ⟨y0, y1, y2, y3, y4, y5, y6⟩ := HZr.out.all
   simp only at c0 c1 c2 c3 c4 c5 c6
   clear hPr hOr HKD hil hknl
   go_wp2_with fail
   have hP9 := HZr.out.store ⟨vk, vcol, vn, vm, vs, (a9, set.length, c9), ka, kn, kc⟩
   have hX9 := Below.pset HXr.out (Nat.le_succ _) ⟨vk, vcol, vn, vm, vs, (a9, set.length, c9), ka, kn, kc⟩
   refine bodyPost_ret (v := pvv ⟨vk, vcol, vn, vm, vs, (a9, set.length, c9), ka, kn, kc⟩) (res_pred Try.results51 rfl hP9) rfl ⟨_, rfl, ?_, hX9⟩
   rw [Pd.lay_mk]
   obtain ⟨vs3, hR, hLs⟩ := HLQ.out
   have hgr := grown_pset wr (w.heap.size + 1) ⟨vk, vcol, vn, vm, vs, (a9, set.length, c9), ka, kn, kc⟩
   refine ⟨⟨⟨rfl, rfl, rfl, rfl, rfl⟩, rfl, rd_far HRr.out hgr (fun _ b off e => by have := (HSB.out b off e).1; simp; omega), fun _ b off e => by have := (HSB.out b off e).1; omega⟩, HKN.out, fun _ b off e => by have := HKB.out b off e; omega, vs3, ?_, ?_⟩
   ·exact hR.far hgr (fun _ b off e => by have := HKB.out b off e; simp; omega)
   ·exact (hLs.far (row := some (w.heap.size + 1)) (fun b hb e => by simp at e; omega) hgr).mono fun b hb => by omega
end Go.Proofs.Ytibnhjfeepdddaa
namespace Go.Proofs.Ytibnhjfeepdddaa
set_option linter.unusedVariables false
set_option linter.unusedSimpArgs false
namespace Pd
theorem size_put (k : Int) (p : Pr) : ((put k p).map size).sum ≤ size p := by
 unfold put
 split
 ·conv => rhs; rw [← mk_ks p, size_mk]
  omega
 ·simp
theorem size_puts (k : Int) (l : List Pr) : ((l.flatMap (put k)).map size).sum ≤ (l.map size).sum := by
 induction l with
 | nil => simp
 | cons x t ih =>
  have := size_put k x
  rw [List.flatMap_cons, List.map_append, List.sum_append, List.map_cons, List.sum_cons]
  omega
theorem size_one (k : Int) (l : List Pr) : size (one k l) ≤ 1 + (l.map size).sum := by
 unfold one
 split
 ·rename_i h
  obtain ⟨x, rfl⟩ := one_of h
  simp
 ·rw [size_mk]
  exact Nat.le_refl _
theorem size_nrm : ∀ p, form p = true → ∀ b, size (nrm p b) ≤ 2 * size p := by
 refine tree ?_
 intro h l ih hf b
 rw [form_mk, Bool.and_eq_true, List.all_eq_true] at hf
 obtain ⟨hp, hl⟩ := hf
 rw [nrm_mk, size_mk]
 split
 ·rename_i h3
  obtain ⟨_, h1⟩ := part_not h3 hp
  obtain ⟨x, rfl⟩ := one_of h1
  have := ih x (by simp) (hl x (by simp)) (!b)
  show size (nrm x (!b)) ≤ _
  simp only [List.map_cons, List.map_nil, List.sum_cons, List.sum_nil]
  omega
 ·split
  ·have h1 := size_one (turn h.k b) (l.flatMap fun x => put (turn h.k b) (nrm x b))
   have h2 : ((l.flatMap fun x => put (turn h.k b) (nrm x b)).map size).sum ≤ ((l.map fun x => nrm x b).map size).sum := by
    rw [show (l.flatMap fun x => put (turn h.k b) (nrm x b)) = (l.map fun x => nrm x b).flatMap (put (turn h.k b)) from by rw [List.flatMap_map]]
    exact size_puts _ _
   have h3 : ((l.map fun x => nrm x b).map size).sum ≤ 2 * (l.map size).sum := by
    clear h1 h2 hp
    induction l with
    | nil => simp
    | cons x t iht =>
     have h4 := ih x (by simp) (hl x (by simp)) b
     have h5 := iht (fun k hk => ih k (by simp [hk])) (fun k hk => hl k (by simp [hk]))
     simp only [List.map_cons, List.sum_cons] at h5 ⊢
     omega
   omega
  ·split
   ·rw [size_mk, List.map_cons, List.map_nil, List.sum_cons, List.sum_nil, size_mk]
    omega
   ·rw [size_mk]
    omega
/-- How many Kids there will be. -/
theorem len_puts (k : Int) (l : List Pr) : (l.flatMap (put k)).length ≤ (l.map size).sum := by
 have h1 := sum_len (l.flatMap (put k))
 have h2 := size_puts k l
 omega
theorem len_join (k : Int) (b : Bool) {l : List Pr} (hf : ∀ x ∈ l, form x = true) : (l.flatMap fun x => put k (nrm x b)).length ≤ 2 * (l.map size).sum := by
 rw [show (l.flatMap fun x => put k (nrm x b)) = (l.map fun x => nrm x b).flatMap (put k) from by rw [List.flatMap_map]]
 have h1 := len_puts k (l.map fun x => nrm x b)
 have h3 : ((l.map fun x => nrm x b).map size).sum ≤ 2 * (l.map size).sum := by
  clear h1
  induction l with
  | nil => simp
  | cons x t iht =>
   have h4 := size_nrm x (hf x (by simp)) b
   have h5 := iht (fun k hk => hf k (by simp [hk]))
   simp only [List.map_cons, List.sum_cons] at h5 ⊢
   omega
 omega
theorem form_fit {p : Pr} (h : right p = true) : form p = true ∧ size p ≤ 40 ∧ deep p ≤ 6 := by
 unfold right at h
 simp only [Bool.and_eq_true, decide_eq_true_eq] at h
 exact ⟨h.2, h.1.2, h.1.1⟩
end Pd
end Go.Proofs.Ytibnhjfeepdddaa
