/-
  The landed turned, join, normal.
-/
import Derived.Test.YtibnhjfeepdddaaM27
namespace Go.Proofs.Ytibnhjfeepdddaa
open Go.RowKit
set_option linter.unusedVariables false
set_option linter.unusedSimpArgs false
set_option maxRecDepth 100000 in
theorem turned_is (k : Int) (b : Bool) (w : World) (hk : k = 1 ∨ k = 2) (o : Int) (ho : Pd.turn k b = o) : Calls Try.prog 75 #[.int .i64 k, .bool b] w fun e w' => e = .returned (.int .i64 o) ∧ w' = w := by
 subst ho
 rcases hk with rfl | rfl <;> cases b
 all_goals
  go_enter Try.func75, Try.ntmps75
  go_wp2_with fail
  go_ret
  exact ⟨rfl, rfl⟩
abbrev pbk (k : Int) : Obj := .cells #[.int .i64 k, .string { data := #[] }, .int .i64 0, .int .i64 0, .string { data := #[] }, .slice none 0 0, .slice none 0 0] 40
/-- The Kids have grown. -/
theorem kids_push {g base : Nat} {B : Nat → Prop} {X : PV} {w3 w4 : World} {kd : SV} {L l' : List Pr} {v' : Value} (hP : PAt w3 g { X with kids := kd }) (hkd : Pd.OwnQ B w3 base (sv kd) L) (hO : Pd.OwnQ B w4 base v' (L ++ l')) (hg : w3.grownBy w4 (sv kd).ownBlock) (hgb : g < base) (hBg : ¬ B g) :
  PAt w4 g { X with kids := kd } ∧ ∃ a c, v' = .slice a (L ++ l').length c ∧ KidsAt g B X base (w4.setCell ⟨g, 6, none⟩ (.slice a (L ++ l').length c)) (L ++ l').length (L ++ l') := by
 have hne : (sv kd).ownBlock ≠ some g := fun e => by have := (hkd.lt g e).1; omega
 have hP4 := hP.far hg hne
 have hlt := hO.lt
 obtain ⟨a, c, vs, rfl, _, _⟩ := hO.rd
 refine ⟨hP4, a, c, rfl, (a, (L ++ l').length, c), hP4.set rfl, rfl, ?_⟩
 exact hO.far (fun e => by have := (hlt g e).1; omega) hBg
set_option maxHeartbeats 4000000 in
set_option maxRecDepth 100000 in
theorem join_is (kind : Int) (b : Bool) (l : List Pr) (ihl : ∀ k ∈ l, ∀ (v : PV) (w : World), Pd.Lay (fun _ => True) k w v → Calls Try.prog 50 #[pvv v, .bool b] w fun e w' => ∃ u, e = .returned (pvv u) ∧ Pd.Lay (fun b => w.heap.size ≤ b) (Pd.nrm k b) w' u ∧ Ex w w')
  (hf : ∀ k ∈ l, Pd.form k = true) (hsum : (l.map Pd.size).sum ≤ 40) (a : Option Addr) (n cap : Nat) (us : List PV) (w : World) (hn : n = l.length) (hR : RdW 7 pc w a cap us) (hL : Pd.Lays (fun _ => True) w us l) :
  Calls Try.prog 74 #[.int .i64 kind, .slice a n cap, .bool b] w fun e w' => ∃ u, e = .returned (pvv u) ∧ Pd.Lay (fun b => w.heap.size ≤ b) (Pd.one kind (l.flatMap fun x => Pd.put kind (Pd.nrm x b))) w' u ∧ Ex w w' := by
 subst hn
 have hu := hL.1
 have h1 : l.length ≤ cap := by rw [← hu]; exact hR.1
 have h2 := hR.2.1
 unfold maxLen at h2
 have hll := Pd.sum_len l
 have HIH : Hid (∀ k ∈ l, ∀ (v : PV) (w : World), Pd.Lay (fun _ => True) k w v → Calls Try.prog 50 #[pvv v, .bool b] w fun e w' => ∃ u, e = .returned (pvv u) ∧ Pd.Lay (fun b => w.heap.size ≤ b) (Pd.nrm k b) w' u ∧ Ex w w') := ihl
 have HF : Hid (∀ k ∈ l, Pd.form k = true) := hf
 have HSUM : Hid ((l.map Pd.size).sum ≤ 40) := hsum
 have HR : Hid (RdW 7 pc w a cap us) := hR
 have HL : Hid (Pd.Lays (fun _ => True) w us l) := hL
 have HU : Hid (us.length = l.length) := hu
 obtain ⟨W, hW⟩ : ∃ W, (w.alloc pb0).alloc (pbk kind) = W := ⟨_, rfl⟩
 have hX1 : Ex w (w.alloc pb0) := (Below.refl _ _).alloc (Nat.le_refl _) _
 have HXW : Hid (Ex w W) := (by rw [← hW]; exact Below.alloc hX1 (by simp) _ : Ex w W)
 have HSZ : Hid (W.heap.size = w.heap.size + 2) := (by rw [← hW]; simp : W.heap.size = w.heap.size + 2)
 have HZ : Hid (PAt W w.heap.size PV.zero) := (by rw [← hW]; exact (PAt.new w PV.zero).alloc _ : PAt W w.heap.size PV.zero)
 have HP : Hid (PAt W (w.heap.size + 1) ⟨kind, [], 0, 0, [], (none, 0, 0), none, 0, 0⟩) := (by rw [← hW]; exact PAt.newat (w.alloc pb0) (w.heap.size + 1) ⟨kind, [], 0, 0, [], (none, 0, 0), none, 0, 0⟩ (by simp) : PAt W (w.heap.size + 1) _)
 have HK0 : Hid (KidsAt (w.heap.size + 1) (fun b => w.heap.size + 2 ≤ b) ⟨kind, [], 0, 0, [], (none, 0, 0), none, 0, 0⟩ (w.heap.size + 2) W 0 []) := (⟨(none, 0, 0), HP.out, rfl, Pd.OwnQ.nil _ _ _⟩ : KidsAt _ _ _ _ _ _ _)
 have HWW : Hid ((w.alloc pb0).alloc (pbk kind) = W) := hW
 clear ihl hf hsum hR hL hX1 hu hW
 go_enter Try.func74, Try.ntmps74
 go_wp2_with fail
 rw [HWW.out]
 go_loopw [14, 9] (fun iv kv wr => ∃ i : Nat, i ≤ l.length ∧ iv = .int .i64 i ∧ Hid (KidsAt (w.heap.size + 1) (fun b => w.heap.size + 2 ≤ b) ⟨kind, [], 0, 0, [], (none, 0, 0), none, 0, 0⟩ (w.heap.size + 2) wr ((l.take i).flatMap fun x => Pd.put kind (Pd.nrm x b)).length ((l.take i).flatMap fun x => Pd.put kind (Pd.nrm x b))) ∧ Hid (PAt wr w.heap.size PV.zero) ∧ Hid (w.heap.size + 2 ≤ wr.heap.size) ∧ Hid (Ex w wr)) (fun iv kv wr => l.length - (intOf iv).toNat)
 case atStart => exact ⟨0, by omega, rfl, HK0, HZ, (by have := HSZ.out; omega : w.heap.size + 2 ≤ W.heap.size), HXW⟩
 case round =>
  obtain ⟨i, hi, rfl, HKr, HZr, HSr, HXr⟩ := hrel
  obtain ⟨Li, hLi⟩ : ∃ L, ((l.take i).flatMap fun x => Pd.put kind (Pd.nrm x b)) = L := ⟨_, rfl⟩
  rw [hLi] at HKr
  have HLI : Hid (((l.take i).flatMap fun x => Pd.put kind (Pd.nrm x b)) = Li) := hLi
  clear hLi
  obtain ⟨⟨ka, kn, kc⟩, hPr, hkn, hOr⟩ := HKr.out
  simp only at hkn hPr
  have HKN : Hid (kn = Li.length) := hkn
  by_cases hlt : i < l.length
  ·have hti : (i : Int) < (l.length : Int) := by omega
   obtain ⟨bb, off, u, hpp, hLk, e0, e1, e2, e3, e4, e5, e6⟩ := Pd.RdP.seven (⟨us, HR.out.below HXr.out, HL.out.below HXr.out⟩ : Pd.RdP wr a cap l) hlt
   obtain ⟨k, hk⟩ : ∃ k, l[i] = k := ⟨_, rfl⟩
   rw [hk] at hLk
   have HK : Hid (k ∈ l) := (by rw [← hk]; exact List.getElem_mem hlt : k ∈ l)
   have HNX : Hid (((l.take (i + 1)).flatMap fun x => Pd.put kind (Pd.nrm x b)) = Li ++ Pd.put kind (Pd.nrm k b)) := (by
    rw [List.take_add_one, List.getElem?_eq_getElem hlt, hk, List.flatMap_append, HLI.out]
    simp : ((l.take (i + 1)).flatMap fun x => Pd.put kind (Pd.nrm x b)) = Li ++ Pd.put kind (Pd.nrm k b))
   have HLEN : Hid ((Li ++ Pd.put kind (Pd.nrm k b)).length ≤ 80) := (by
    have h1 := Pd.len_join kind b (l := l.take (i + 1)) (fun x hx => HF.out x (List.mem_of_mem_take hx))
    have h2 := Pd.sum_take l (i + 1)
    have h3 := HSUM.out
    rw [← HNX.out]
    omega : (Li ++ Pd.put kind (Pd.nrm k b)).length ≤ 80)
   obtain ⟨w1, hw1⟩ : ∃ w1, wr.alloc (pb u) = w1 := ⟨_, rfl⟩
   have hX1 : Ex wr w1 := by rw [← hw1]; exact (Below.refl _ _).alloc (Nat.le_refl _) _
   have hs1 : w1.heap.size = wr.heap.size + 1 := by rw [← hw1]; simp
   have HS1 : Hid (w1.heap.size = wr.heap.size + 1) := hs1
   have HX1 : Hid (Ex wr w1) := hX1
   have HC : Hid (Calls Try.prog 50 #[pvv u, .bool b] w1 fun e w' => ∃ u, e = .returned (pvv u) ∧ Pd.Lay (fun b => w1.heap.size ≤ b) (Pd.nrm k b) w' u ∧ Ex w1 w') := HIH.out k HK.out u w1 (Pd.Lay.below _ hLk hX1)
   have HP1 : Hid (PAt w1 wr.heap.size u) := (by rw [← hw1]; exact PAt.new wr u : PAt w1 wr.heap.size u)
   obtain ⟨q0, q1, q2, q3, q4, q5, q6⟩ := HP1.out.all
   have HPv : Hid (PAt w1 (w.heap.size + 1) ⟨kind, [], 0, 0, [], (none, 0, 0), ka, kn, kc⟩) := (hPr.below hX1 : PAt w1 (w.heap.size + 1) _)
   have HOv : Hid (Pd.OwnQ (fun b => w.heap.size + 2 ≤ b ∧ b < wr.heap.size) w1 (w.heap.size + 2) (.slice ka kn kc) Li) := (hOr.ltB.later hX1 : Pd.OwnQ _ w1 _ _ _)
   have HOB : Hid (∀ g, (Value.slice ka kn kc).ownBlock = some g → w.heap.size + 2 ≤ g ∧ g < wr.heap.size) := hOr.lt
   have HZv : Hid (PAt w1 w.heap.size PV.zero) := HZr.out.below hX1
   subst hpp
   clear hLk hk hX1 hPr hOr HKr hkn hs1
   go_wp2_with fail
   go_at_call 50
   refine Calls.mono HC.out ?_
   rintro e w2 ⟨u2, rfl, hL2, hx2⟩
   have hw12 : w1.heap.size ≤ w2.heap.size := hx2.size
   have hgk : PAt w2 wr.heap.size u := HP1.out.below hx2
   obtain ⟨w3, hw3⟩ : ∃ w3, pset w2 wr.heap.size u2 = w3 := ⟨_, rfl⟩
   have hP3 : PAt w3 wr.heap.size u2 := by rw [← hw3]; exact hgk.store u2
   have hg3 : w2.grownBy w3 (some wr.heap.size) := by rw [← hw3]; exact grown_pset _ _ _
   have hsz3 : w3.heap.size = w2.heap.size := by rw [← hw3]; simp
   obtain ⟨f0, f1, f2, f3, f4, f5, f6⟩ := hgk.fro
   obtain ⟨g0, g1, g2, g3, g4, g5, g6⟩ := hgk.all
   obtain ⟨r0, r1, r2, r3, r4, r5, r6⟩ := hP3.all
   have hL3 : Pd.Lay (fun b => w1.heap.size ≤ b) (Pd.nrm k b) w3 u2 := Pd.Lay.far (row := some wr.heap.size) (fun b hb e => by simp at e; have := HS1.out; omega) _ hL2 hg3
   have hPv3 : PAt w3 (w.heap.size + 1) ⟨kind, [], 0, 0, [], (none, 0, 0), ka, kn, kc⟩ := (HPv.out.below hx2).far hg3 (by have := HSr.out; simp; omega)
   have hZ3 : PAt w3 w.heap.size PV.zero := (HZv.out.below hx2).far hg3 (by have := HSr.out; simp; omega)
   clear HC
   have hk3 : u2.k = (Pd.nrm k b).h.k := by
    have h := hL3
    rw [← Pd.mk_ks (Pd.nrm k b)] at h
    exact h.head.1.1.1
   have hO3 : Pd.OwnQ (fun b => w.heap.size + 2 ≤ b) w3 (w.heap.size + 2) (.slice ka kn kc) Li :=
    ((HOv.out.later hx2).grown hg3 (fun e => by have := (HOB.out _ e).2; omega) (by omega)).mono fun b hb => hb.1
   have hX3 : Ex w w3 := Below.grown ((HXr.out.trans HX1.out).trans hx2) hg3 ((HXr.out.trans HX1.out).trans hx2).size (fun g hg => by simp at hg; have := HSr.out; omega)
   have hS3 : w.heap.size + 2 ≤ w3.heap.size := by have h1 := HSr.out; have h2 := HS1.out; omega
   obtain ⟨x, hx⟩ : ∃ x, (u2.k == kind) = x := ⟨_, rfl⟩
   simp only [pvv, sv]
   cases x with
   | true =>
    have hput : Pd.put kind (Pd.nrm k b) = (Pd.nrm k b).ks := by
     unfold Pd.put
     rw [if_pos (by rw [← hk3]; simpa using hx)]
    rw [hput] at HNX HLEN
    obtain ⟨M, hM⟩ : ∃ M, (Li ++ (Pd.nrm k b).ks).length = M := ⟨_, rfl⟩
    rw [hM] at HLEN
    have HM : Hid ((Li ++ (Pd.nrm k b).ks).length = M) := hM
    have hlen2 : Li.length + ((Pd.nrm k b).ks).length ≤ 80 := by have h := HLEN.out; rw [← hM, List.length_append] at h; exact h
    have hLm := hL3
    rw [← Pd.mk_ks (Pd.nrm k b)] at hLm
    have hkl : u2.kids.2.1 = (Pd.nrm k b).ks.length := hLm.head.2.1
    rw [Pd.lay_mk] at hLm
    obtain ⟨hz1, hz2, hz3, vs2, hR2, hLs2⟩ := hLm; clear hz1 hz2 hz3
    have HR2 : Hid (RdW 7 pc w3 u2.kids.1 u2.kids.2.2 vs2) := hR2
    have HLS2 : Hid (Pd.Lays (fun c => (Value.slice ka kn kc).ownBlock ≠ some c ∧ w.heap.size + 2 ≤ c) w3 vs2 (Pd.nrm k b).ks) := (hLs2.mono fun c hc => ⟨fun e => by have h1 := HOB.out c e; have h2 := HS1.out; omega, by have h1 := HSr.out; have h2 := HS1.out; omega⟩ : Pd.Lays _ w3 vs2 _)
    have HO4 : Hid (Pd.OwnQ (fun b => w.heap.size + 2 ≤ b) w3 (w.heap.size + 2) (.slice ka kn kc) Li) := hO3
    have HP4 : Hid (PAt w3 (w.heap.size + 1) ⟨kind, [], 0, 0, [], (none, 0, 0), ka, kn, kc⟩) := hPv3
    have HZ4 : Hid (PAt w3 w.heap.size PV.zero) := hZ3
    have HX4 : Hid (Ex w w3) := hX3
    have HS4 : Hid (w.heap.size + 2 ≤ w3.heap.size) := hS3
    clear hR2 hLs2
    have HKL : Hid (u2.kids.2.1 = (Pd.nrm k b).ks.length) := hkl
    clear hkl
    have hstep : ∀ v9 w9, Pd.OwnQ (fun b => w.heap.size + 2 ≤ b) w9 (w.heap.size + 2) v9 (Li ++ (Pd.nrm k b).ks) → w3.grownBy w9 (Value.slice ka kn kc).ownBlock → ∃ a9 c9 w10, v9 = .slice a9 M c9 ∧ w9.setCell ⟨w.heap.size + 1, 6, none⟩ (.slice a9 M c9) = w10 ∧ Hid (KidsAt (w.heap.size + 1) (fun b => w.heap.size + 2 ≤ b) ⟨kind, [], 0, 0, [], (none, 0, 0), none, 0, 0⟩ (w.heap.size + 2) w10 (((l.take (i + 1)).flatMap fun x => Pd.put kind (Pd.nrm x b)).length) ((l.take (i + 1)).flatMap fun x => Pd.put kind (Pd.nrm x b))) ∧ Hid (PAt w10 w.heap.size PV.zero) ∧ Hid (w.heap.size + 2 ≤ w10.heap.size) ∧ Hid (Ex w w10) ∧ w9.cell? ⟨w.heap.size + 1, 6, none⟩ = some (.slice ka kn kc) ∧ w9.frozen? ⟨w.heap.size + 1, 6, none⟩ = false := by
     intro v9 w9 ho9 hg9
     obtain ⟨hP9, a9, c9, rfl, hK9⟩ := kids_push (kd := (ka, kn, kc)) (X := ⟨kind, [], 0, 0, [], (none, 0, 0), none, 0, 0⟩) HP4.out HO4.out ho9 hg9 (by omega) (by omega)
     rw [HNX.out]
     rw [HM.out] at hK9 ⊢
     have hne : ∀ g, g < w.heap.size + 2 → (Value.slice ka kn kc).ownBlock ≠ some g := fun g hg e => by have := (HOB.out g e).1; omega
     refine ⟨a9, c9, _, rfl, rfl, hK9, (HZ4.out.far hg9 (hne _ (by omega))).other (by omega), ?_, ?_, hP9.all.2.2.2.2.2.2, hP9.fro.2.2.2.2.2.2⟩
     ·have h1 := HS4.out; have h2 := hg9.size; show w.heap.size + 2 ≤ _; simp; omega
     ·exact Below.setCell (Below.grown HX4.out hg9 (by have h1 := HS4.out; omega) (fun g hg => by have := (HOB.out g hg).1; omega)) (Nat.le_succ _) _
    have m6 := HP4.out.all.2.2.2.2.2.2
    simp only at m6
    clear hM hput hL3 hPv3 hZ3 hX3 hO3 hP3 hS3 hk3 hL2 hx2 hgk hg3 hw12
    go_wp2_with (at_builtin; refine Pd.wpList_append_Q rfl (.tmp 26) (.tmp 28) rfl (w.heap.size + 2) (.slice ka kn kc) Li rfl HO4.out u2.kids.1 u2.kids.2.1 u2.kids.2.2 vs2 (Pd.nrm k b).ks rfl HKL.out HR2.out HLS2.out (by omega) HS4.out ?_; intro v9 w9 ho9 hg9 hat9; obtain ⟨a9, c9, w10, rfl, hw10, HK10, HZ10, HS10, HX10, n6, n7⟩ := hstep v9 w9 ho9 hg9; clear ho9 hg9 hat9)
    go_roundw
    case rel => exact ⟨i + 1, by omega, by go_num, HK10, HZ10, HS10, HX10⟩
    case measure => simp [intOf]; omega
   | false =>
    have hput : Pd.put kind (Pd.nrm k b) = [Pd.nrm k b] := by
     unfold Pd.put
     rw [if_neg (by rw [← hk3]; simpa using hx)]
    rw [hput] at HNX HLEN
    obtain ⟨M, hM⟩ : ∃ M, (Li ++ [Pd.nrm k b]).length = M := ⟨_, rfl⟩
    rw [hM] at HLEN
    have HM : Hid ((Li ++ [Pd.nrm k b]).length = M) := hM
    have hlen2 : Li.length + ([Pd.nrm k b]).length ≤ 80 := by have h := HLEN.out; rw [← hM, List.length_append] at h; exact h
    obtain ⟨w4, hw4⟩ : ∃ w4, w3.alloc (pb u2) = w4 := ⟨_, rfl⟩
    have hX34 : Ex w3 w4 := by rw [← hw4]; exact (Below.refl _ _).alloc (Nat.le_refl _) _
    have HR2 : Hid (RdW 7 pc w4 (some ⟨w2.heap.size, 0, none⟩) 1 [u2]) := (by rw [← hw4, ← hsz3]; exact RdW.laid pc_len w3 [u2] (by simp) : RdW 7 pc w4 (some ⟨w2.heap.size, 0, none⟩) 1 [u2])
    have HLS2 : Hid (Pd.Lays (fun c => (Value.slice ka kn kc).ownBlock ≠ some c ∧ w.heap.size + 2 ≤ c) w4 [u2] [Pd.nrm k b]) := ((Pd.Lays.one (Pd.Lay.below _ hL3 hX34)).mono fun c hc => ⟨fun e => by have h1 := HOB.out c e; have h2 := HS1.out; omega, by have h1 := HSr.out; have h2 := HS1.out; omega⟩ : Pd.Lays _ w4 [u2] _)
    have HO4 : Hid (Pd.OwnQ (fun b => w.heap.size + 2 ≤ b) w4 (w.heap.size + 2) (.slice ka kn kc) Li) := (hO3.later hX34 : Pd.OwnQ _ w4 _ _ _)
    have HP4 : Hid (PAt w4 (w.heap.size + 1) ⟨kind, [], 0, 0, [], (none, 0, 0), ka, kn, kc⟩) := (hPv3.below hX34 : PAt w4 _ _)
    have HZ4 : Hid (PAt w4 w.heap.size PV.zero) := (hZ3.below hX34 : PAt w4 _ _)
    have HX4 : Hid (Ex w w4) := (hX3.trans hX34 : Ex w w4)
    have HS4 : Hid (w.heap.size + 2 ≤ w4.heap.size) := (Nat.le_trans hS3 hX34.size : w.heap.size + 2 ≤ w4.heap.size)
    clear hX34
    have hstep : ∀ v9 w9, Pd.OwnQ (fun b => w.heap.size + 2 ≤ b) w9 (w.heap.size + 2) v9 (Li ++ [Pd.nrm k b]) → w4.grownBy w9 (Value.slice ka kn kc).ownBlock → ∃ a9 c9 w10, v9 = .slice a9 M c9 ∧ w9.setCell ⟨w.heap.size + 1, 6, none⟩ (.slice a9 M c9) = w10 ∧ Hid (KidsAt (w.heap.size + 1) (fun b => w.heap.size + 2 ≤ b) ⟨kind, [], 0, 0, [], (none, 0, 0), none, 0, 0⟩ (w.heap.size + 2) w10 (((l.take (i + 1)).flatMap fun x => Pd.put kind (Pd.nrm x b)).length) ((l.take (i + 1)).flatMap fun x => Pd.put kind (Pd.nrm x b))) ∧ Hid (PAt w10 w.heap.size PV.zero) ∧ Hid (w.heap.size + 2 ≤ w10.heap.size) ∧ Hid (Ex w w10) ∧ w9.cell? ⟨w.heap.size + 1, 6, none⟩ = some (.slice ka kn kc) ∧ w9.frozen? ⟨w.heap.size + 1, 6, none⟩ = false := by
     intro v9 w9 ho9 hg9
     obtain ⟨hP9, a9, c9, rfl, hK9⟩ := kids_push (kd := (ka, kn, kc)) (X := ⟨kind, [], 0, 0, [], (none, 0, 0), none, 0, 0⟩) HP4.out HO4.out ho9 hg9 (by omega) (by omega)
     rw [HNX.out]
     rw [HM.out] at hK9 ⊢
     have hne : ∀ g, g < w.heap.size + 2 → (Value.slice ka kn kc).ownBlock ≠ some g := fun g hg e => by have := (HOB.out g e).1; omega
     refine ⟨a9, c9, _, rfl, rfl, hK9, (HZ4.out.far hg9 (hne _ (by omega))).other (by omega), ?_, ?_, hP9.all.2.2.2.2.2.2, hP9.fro.2.2.2.2.2.2⟩
     ·have h1 := HS4.out; have h2 := hg9.size; show w.heap.size + 2 ≤ _; simp; omega
     ·exact Below.setCell (Below.grown HX4.out hg9 (by have h1 := HS4.out; omega) (fun g hg => by have := (HOB.out g hg).1; omega)) (Nat.le_succ _) _
    have m6 := hPv3.all.2.2.2.2.2.2
    simp only at m6
    clear hM hput hL3 hPv3 hZ3 hX3 hO3 hP3 hS3 hk3 hL2 hx2 hgk hg3 hw12
    go_wp2_with (at_builtin; refine Pd.wpList_append_Q rfl (.tmp 32) (.tmp 34) rfl (w.heap.size + 2) (.slice ka kn kc) Li rfl HO4.out (some ⟨w2.heap.size, 0, none⟩) 1 1 [u2] [Pd.nrm k b] rfl rfl HR2.out HLS2.out (by omega) HS4.out ?_; intro v9 w9 ho9 hg9 hat9; obtain ⟨a9, c9, w10, rfl, hw10, HK10, HZ10, HS10, HX10, n6, n7⟩ := hstep v9 w9 ho9 hg9; clear ho9 hg9 hat9)
    go_roundw
    case rel => exact ⟨i + 1, by omega, by go_num, HK10, HZ10, HS10, HX10⟩
    case measure => simp [intOf]; omega
  ·have hti : ¬ (i : Int) < (l.length : Int) := by omega
   have hil : l.take i = l := List.take_of_length_le (by omega)
   have HLI2 : Hid ((l.flatMap fun x => Pd.put kind (Pd.nrm x b)) = Li) := (by have h := HLI.out; rwa [hil] at h : (l.flatMap fun x => Pd.put kind (Pd.nrm x b)) = Li)
   have hlen : kn ≤ 80 := by
    have h1 := Pd.len_join kind b HF.out
    rw [HLI2.out] at h1
    have := HSUM.out
    omega
   have hob := hOr.lt
   obtain ⟨a3, c3, vs3, e, hR3, hL3⟩ := hOr.rd
   simp only [sv, Value.slice.injEq] at e
   obtain ⟨rfl, he2, rfl⟩ := e
   clear he2 hkn
   have HR3 : Hid (RdW 7 pc wr ka kc vs3) := hR3
   have HL3 : Hid (Pd.Lays (fun b => w.heap.size + 2 ≤ b) wr vs3 Li) := hL3
   have HKB : Hid (∀ g off, ka = some ⟨g, off, none⟩ → w.heap.size + 2 ≤ g) := (fun g off e => (hob g (by rw [e]; rfl)).1 : ∀ g off, ka = some ⟨g, off, none⟩ → w.heap.size + 2 ≤ g)
   have HPr : Hid (PAt wr (w.heap.size + 1) ⟨kind, [], 0, 0, [], (none, 0, 0), ka, kn, kc⟩) := hPr
   obtain ⟨c0, c1, c2, c3', c4, c5, c6⟩ := hPr.all
   obtain ⟨z0, z1, z2, z3, z4, z5, z6⟩ := HZr.out.fro
   obtain ⟨y0, y1, y2, y3, y4, y5, y6⟩ := HZr.out.all
   simp only at c0 c1 c2 c3' c4 c5 c6
   by_cases hone : kn = 1
   ·have t1 : ((kn : Int) == 1) = true := beq_iff_eq.2 (by omega)
    have HONE : Hid (kn = 1) := hone
    have hLl : Li.length = 1 := by rw [← HKN.out]; exact hone
    obtain ⟨q, hq⟩ := Pd.one_of hLl
    have HQ : Hid (Li = [q]) := hq
    have hv3 : vs3.length = 1 := by rw [hL3.1]; exact hLl
    obtain ⟨bb, off, hpp, hc⟩ := hR3.at (i := 0) (by omega)
    obtain ⟨u, hu⟩ : ∃ u, vs3[0] = u := ⟨_, rfl⟩
    rw [hu] at hc
    have hLq : Pd.Lay (fun b => w.heap.size + 2 ≤ b) q wr u := by
     refine hL3.2 0 u q ?_ ?_
     ·rw [List.getElem?_eq_getElem (by omega), hu]
     ·rw [hq]; rfl
    have HLQ : Hid (Pd.Lay (fun b => w.heap.size + 2 ≤ b) q wr u) := hLq
    have e0 := hc 0 _ rfl
    have e1 := hc 1 _ rfl
    have e2 := hc 2 _ rfl
    have e3 := hc 3 _ rfl
    have e4 := hc 4 _ rfl
    have e5 := hc 5 _ rfl
    have e6 := hc 6 _ rfl
    simp only [Nat.zero_mul, Nat.add_zero, sv] at e0 e1 e2 e3 e4 e5 e6
    have hk1 : (0 : Int) < (kn : Int) := by omega
    have hk0 : 0 < kn := by omega
    subst hpp
    clear hone hLl hq hv3 hc hu hLq hL3 hR3 hob hPr hOr HKr hil
    go_wp2_with fail
    have hP9 := HZr.out.store u
    have hX9 := Below.pset HXr.out (Nat.le_refl _) u
    refine bodyPost_ret (v := pvv u) (res_pred Try.results74 rfl hP9) rfl ⟨_, rfl, ?_, hX9⟩
    rw [HLI2.out, HQ.out]
    show Pd.Lay _ q _ u
    exact Pd.Lay.mono (fun b hb => by omega) _ (Pd.Lay.far (row := some w.heap.size) (fun b hb e => by simp at e; omega) _ HLQ.out (grown_pset _ _ _))
   ·have t1 : ((kn : Int) == 1) = false := beq_eq_false_iff_ne.2 (by omega)
    have HONE : Hid (¬ kn = 1) := hone
    clear hone hL3 hR3 hob hPr hOr HKr hil
    go_wp2_with fail
    have hP9 := HZr.out.store ⟨kind, [], 0, 0, [], (none, 0, 0), ka, kn, kc⟩
    have hX9 := Below.pset HXr.out (Nat.le_refl _) ⟨kind, [], 0, 0, [], (none, 0, 0), ka, kn, kc⟩
    refine bodyPost_ret (v := pvv ⟨kind, [], 0, 0, [], (none, 0, 0), ka, kn, kc⟩) (res_pred Try.results74 rfl hP9) rfl ⟨_, rfl, ?_, hX9⟩
    rw [HLI2.out]
    unfold Pd.one
    rw [if_neg (by rw [← HKN.out]; exact HONE.out), Pd.lay_mk]
    have hgr := grown_pset wr w.heap.size ⟨kind, [], 0, 0, [], (none, 0, 0), ka, kn, kc⟩
    refine ⟨⟨⟨rfl, rfl, rfl, rfl, rfl⟩, rfl, Rd.nil _, fun h0 => by simp at h0⟩, HKN.out, fun _ c off e => by have := HKB.out c off e; omega, vs3, ?_, ?_⟩
    ·exact HR3.out.far hgr (fun _ c off e => by have := HKB.out c off e; simp; omega)
    ·exact (HL3.out.far (row := some w.heap.size) (fun c hc e => by simp at e; omega) hgr).mono fun c hc => by omega
end Go.Proofs.Ytibnhjfeepdddaa
