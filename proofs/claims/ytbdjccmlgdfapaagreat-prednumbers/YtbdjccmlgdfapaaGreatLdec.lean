/-
  The landed reader: kids, part. The landed part, of some kinds. The landed part, of some kinds. The landed part, of some kinds. The landed part, of some kinds. The landed part, of some kinds. The landed part. Plain: what is read is of a bounded size, refused or not. The landed Decode.
-/
import Derived.Test.YtbdjccmlgdfapaaGreatLread
namespace Go.Proofs.YtbdjccmlgdfapaaGreat
open Go.RowKit
set_option linter.unusedVariables false
set_option linter.unusedSimpArgs false
namespace Pd
/-- How many parts a part may begin, so much depth left. -/
def mx : Nat → Nat
 | 0 => 1
 | f + 1 => 1 + 40 * mx f
theorem mx_pos : ∀ f, 1 ≤ mx f
 | 0 => Nat.le_refl 1
 | f + 1 => by rw [mx]; omega
theorem refu_c (e : Nat) (s : RS) : (refu e s).c = s.c := by unfold refu; split <;> rfl
theorem lnum_c (b : List UInt8) (s : RS) : (lnum b s).2.c = s.c := by unfold lnum; split <;> rfl
theorem ltxt_c (b : List UInt8) (m : Int) (s : RS) : (ltxt b m s).2.c = s.c := by unfold ltxt; split <;> rfl
theorem lcnt_c (b : List UInt8) (m : Nat) (s : RS) : (lcnt b m s).2.c = s.c := by
 unfold lcnt
 split
 ·rw [refu_c, lnum_c]
 ·rw [lnum_c]
theorem lcnt_le (b : List UInt8) (m : Nat) (s : RS) : (lcnt b m s).1 ≤ m := by
 unfold lcnt
 split
 ·exact Nat.zero_le _
 ·omega
theorem ltxts_c (b : List UInt8) (s : RS) : ∀ n, (ltxts b n s).2.c = s.c
 | 0 => rfl
 | n + 1 => by rw [ltxts, ltxt_c, ltxts_c b s n]
theorem lbeg_c (f : Nat) (s : RS) : (lbeg f s).c = s.c + 1 := by
 unfold lbeg
 split
 ·rw [refu_c]
 split
 ·rw [refu_c]
 ·rfl
theorem lbody_c {b : List UInt8} {R : RS → Pr × RS} {M : Nat} (hR : ∀ s, (R s).2.c ≤ s.c + M) (K : Nat) (s : RS) : (lbody b R K s).2.c ≤ s.c + 40 * M := by
 unfold lbody
 split
 ·have h1 := lkids_c hR (lcnt b 40 s).1 (lcnt b 40 s).2
  have h2 := lcnt_le b 40 s
  have h3 : (lcnt b 40 s).1 * M ≤ 40 * M := Nat.mul_le_mul_right M h2
  rw [lcnt_c] at h1
  simp only
  omega
 split
 ·have h1 := lkids_c hR 1 s
  have h3 : 1 * M ≤ 40 * M := Nat.mul_le_mul_right M (by omega)
  simp only
  omega
 split
 ·simp only [lnum_c, ltxt_c]; omega
 split
 ·simp only [ltxt_c]; omega
 split
 ·simp only [ltxts_c, lcnt_c, ltxt_c]; omega
 split
 ·simp only [ltxt_c]; omega
 split
 ·simp only [lnum_c]; omega
 ·simp only [refu_c]; omega
theorem lpart_c {b : List UInt8} : ∀ f (s : RS), (lpart b f s).2.c ≤ s.c + mx f
 | 0, s => by
  have h := lbody_c (b := b) (R := fun s => (zero, s)) (M := 0) (fun _ => Nat.le_refl _) (lnum b (lbeg 0 s)).1 (lnum b (lbeg 0 s)).2
  rw [lnum_c, lbeg_c] at h
  rw [lpart, mx]
  omega
 | f + 1, s => by
  have h := lbody_c (b := b) (R := lpart b f) (fun s => lpart_c f s) (lnum b (lbeg (f + 1) s)).1 (lnum b (lbeg (f + 1) s)).2
  rw [lnum_c, lbeg_c] at h
  rw [lpart, mx]
  omega
theorem lkids_len (R : RS → Pr × RS) (s : RS) : ∀ n, (lkids R n s).1.length = n
 | 0 => rfl
 | n + 1 => by rw [lkids, List.length_append, lkids_len R s n]; rfl
end Pd
/-- What part does, so much depth left. -/
def PartC (b : List UInt8) (f : Nat) : Prop := ∀ (g : Nat) (a : Option Addr) (cap : Nat) (s : RS) (D : Int) (w : World), Rdr w g a cap b s → D + f = 7 → s.c + Pd.mx f ≤ 1000000000000 →
  Calls Tryz.prog 50 #[.pointer (some ⟨g, 0, none⟩), .int .i64 D] w fun x w' => ∃ u, x = .returned (pvv u) ∧ Pd.Lay (fun q => w.heap.size ≤ q) (Pd.lpart b f s).1 w' u ∧ Rdr w' g a cap b (Pd.lpart b f s).2 ∧ w.grownBy w' (some g)
set_option maxHeartbeats 4000000 in
set_option maxRecDepth 100000 in
theorem kids_is {b : List UInt8} {f : Nat} (hP : PartC b f) (g : Nat) (a : Option Addr) (cap : Nat) (s : RS) (n : Nat) (D : Int) (w : World) (h : Rdr w g a cap b s) (hD : D + 1 + f = 7) (hf : f ≤ 6) (hn : n ≤ 40) (hc : s.c + 40 * Pd.mx f ≤ 1000000000000) :
  Calls Tryz.prog 74 #[.pointer (some ⟨g, 0, none⟩), .int .i64 (n : Int), .int .i64 D] w fun x w' => ∃ ka kc, x = .returned (.slice ka n kc) ∧ (∃ vs, RdW 7 pc w' ka kc vs ∧ Pd.Lays (fun q => w.heap.size ≤ q) w' vs (Pd.lkids (Pd.lpart b f) n s).1) ∧ (∀ q off, ka = some ⟨q, off, none⟩ → w.heap.size ≤ q) ∧ Rdr w' g a cap b (Pd.lkids (Pd.lpart b f) n s).2 ∧ w.grownBy w' (some g) := by
 have H : Hid (Rdr w g a cap b s) := h
 have HLT : Hid (g < w.heap.size) := h.1.lt
 have HPC : Hid (PartC b f) := hP
 have HC : Hid (s.c + 40 * Pd.mx f ≤ 1000000000000) := hc
 have HCK : Hid (∀ i, (Pd.lkids (Pd.lpart b f) i s).2.c ≤ s.c + i * Pd.mx f) := (fun i => Pd.lkids_c (fun s => Pd.lpart_c f s) i s : ∀ i, (Pd.lkids (Pd.lpart b f) i s).2.c ≤ s.c + i * Pd.mx f)
 have HD : Hid (D + 1 + f = 7) := hD
 have hD1 : -10 ≤ D ∧ D ≤ 10 := by omega
 clear h hP hc hD
 go_enter Tryz.func74, Tryz.ntmps74
 go_wp2_with fail
 go_loopw [9, 7] (fun iv ov wr => ∃ i : Nat, i ≤ n ∧ iv = .int .i64 i ∧ Hid (Pd.OwnQ (fun q => w.heap.size ≤ q) wr w.heap.size ov (Pd.lkids (Pd.lpart b f) i s).1) ∧ Hid (Rdr wr g a cap b (Pd.lkids (Pd.lpart b f) i s).2) ∧ Hid (w.grownBy wr (some g))) (fun iv ov wr => n - (intOf iv).toNat)
 case atStart => exact ⟨0, by omega, rfl, (Pd.OwnQ.nil _ w w.heap.size : Pd.OwnQ _ w w.heap.size (.slice none 0 0) []), H, World.grownBy.refl _ _⟩
 case round =>
  obtain ⟨i, hi, rfl, HO, HR, HG⟩ := hrel
  by_cases hlt : i < n
  ·have hti : (i : Int) < (n : Int) := by omega
   have ht := HPC.out g a cap (Pd.lkids (Pd.lpart b f) i s).2 (D + 1) wr HR.out HD.out (by
    have h1 := HC.out
    have h2 := HCK.out i
    have h3 : (i + 1) * Pd.mx f ≤ 40 * Pd.mx f := Nat.mul_le_mul_right _ (by omega)
    rw [Nat.succ_mul] at h3
    omega)
   obtain ⟨⟨k, s2⟩, hV⟩ : ∃ x, Pd.lpart b f (Pd.lkids (Pd.lpart b f) i s).2 = x := ⟨_, rfl⟩
   rw [hV] at ht
   simp only at ht
   have HNX : Hid (Pd.lkids (Pd.lpart b f) (i + 1) s = ((Pd.lkids (Pd.lpart b f) i s).1 ++ [k], s2)) := (by rw [Pd.lkids, hV] : Pd.lkids (Pd.lpart b f) (i + 1) s = ((Pd.lkids (Pd.lpart b f) i s).1 ++ [k], s2))
   have HT : Hid _ := ht
   have HLL : Hid ((Pd.lkids (Pd.lpart b f) i s).1.length = i) := Pd.lkids_len _ s i
   clear ht hV
   go_wp2_with fail
   go_at_call 50
   refine Calls.mono HT.out ?_
   rintro e w1 ⟨x, rfl, hL1, hR1, hg1⟩
   have HOB : Hid (∀ q, u7.ownBlock = some q → w.heap.size ≤ q ∧ q < wr.heap.size) := (HO.out.lt : ∀ q, u7.ownBlock = some q → w.heap.size ≤ q ∧ q < wr.heap.size)
   have HO1 : Hid (Pd.OwnQ (fun q => w.heap.size ≤ q) w1 w.heap.size u7 (Pd.lkids (Pd.lpart b f) i s).1) := (HO.out.grown hg1 (fun e => by have h1 := (HOB.out g e).1; have h2 := HLT.out; omega) (by have h2 := HLT.out; omega) : Pd.OwnQ _ w1 w.heap.size u7 _)
   have HR1 : Hid (Rdr w1 g a cap b s2) := hR1
   have HG1 : Hid (w.grownBy w1 (some g)) := (grown_tr HG.out hg1 : World.grownBy _ _ _)
   have HX2 : Hid (Ex w1 (w1.alloc (pb x))) := ((Below.refl _ _).alloc (Nat.le_refl _) _ : Ex w1 _)
   have HO2 : Hid (Pd.OwnQ (fun q => w.heap.size ≤ q) (w1.alloc (pb x)) w.heap.size u7 (Pd.lkids (Pd.lpart b f) i s).1) := (HO1.out.later HX2.out : Pd.OwnQ _ _ _ _ _)
   have HT2 : Hid (RdW 7 pc (w1.alloc (pb x)) (some ⟨w1.heap.size, 0, none⟩) 1 [x]) := (RdW.laid pc_len w1 [x] (by simp) : RdW 7 pc _ _ _ _)
   have HL2 : Hid (Pd.Lays (fun q => u7.ownBlock ≠ some q ∧ w.heap.size ≤ q) (w1.alloc (pb x)) [x] [k]) := (Pd.Lays.one (Pd.Lay.mono (fun q hq => ⟨fun e => by have h1 := (HOB.out q e).2; omega, Nat.le_trans HG.out.size hq⟩) _ (Pd.Lay.below _ hL1 HX2.out)) : Pd.Lays _ _ _ _)
   have HSZ : Hid (w.heap.size ≤ (w1.alloc (pb x)).heap.size) := (Nat.le_trans HG1.out.size HX2.out.size : w.heap.size ≤ _)
   have hstep : ∀ v9 w9, Pd.OwnQ (fun q => w.heap.size ≤ q) w9 w.heap.size v9 ((Pd.lkids (Pd.lpart b f) i s).1 ++ [k]) → World.grownBy (w1.alloc (pb x)) w9 u7.ownBlock → Hid (Pd.OwnQ (fun q => w.heap.size ≤ q) w9 w.heap.size v9 (Pd.lkids (Pd.lpart b f) (i + 1) s).1) ∧ Hid (Rdr w9 g a cap b (Pd.lkids (Pd.lpart b f) (i + 1) s).2) ∧ Hid (w.grownBy w9 (some g)) := by
    intro v9 w9 ho9 hg9
    refine ⟨by rw [HNX.out]; exact ho9, ?_, ?_⟩
    ·rw [HNX.out]
     exact Rdr.new H.out (HR1.out.below HX2.out) hg9 (fun j hj => (HOB.out j hj).1)
    ·exact grown_trN (grown_tr HG1.out (HX2.out.grownBy _)) hg9 (fun j hj => .inr (HOB.out j hj).1)
   clear hR1 hg1 HT hL1
   simp only [pvv, sv]
   go_wp2_with (at_builtin; refine Pd.wpList_append_Q (B := fun q => w.heap.size ≤ q) rfl (.tmp 11) (.tmp 16) rfl w.heap.size u7 (Pd.lkids (Pd.lpart b f) i s).1 rfl HO2.out (some ⟨w1.heap.size, 0, none⟩) _ _ [x] [k] rfl rfl HT2.out HL2.out (by have := HLL.out; simp; omega) HSZ.out ?_; intro v9 w9 ho9 hg9 hat9; obtain ⟨HO9, HR9, HG9⟩ := hstep v9 w9 ho9 hg9; clear ho9 hg9 hat9)
   go_roundw
   case rel => exact ⟨i + 1, by omega, by go_num, HO9, HR9, HG9⟩
   case measure => simp [intOf]; omega
  ·have hti : ¬ (i : Int) < (n : Int) := by omega
   have hin : i = n := by omega
   subst hin
   obtain ⟨a9, c9, vs9, hv9, hr9, hl9⟩ := HO.out.rd
   rw [Pd.lkids_len] at hv9
   have HB9 : Hid (∀ q off, a9 = some ⟨q, off, none⟩ → w.heap.size ≤ q) := (fun q off e => (HO.out.lt q (by rw [hv9, e]; rfl)).1 : ∀ q off, a9 = some ⟨q, off, none⟩ → w.heap.size ≤ q)
   subst hv9
   have HR9 : Hid (∃ vs, RdW 7 pc wr a9 c9 vs ∧ Pd.Lays (fun q => w.heap.size ≤ q) wr vs (Pd.lkids (Pd.lpart b f) i s).1) := (⟨vs9, hr9, hl9⟩ : ∃ vs, RdW 7 pc wr a9 c9 vs ∧ Pd.Lays (fun q => w.heap.size ≤ q) wr vs (Pd.lkids (Pd.lpart b f) i s).1)
   clear hr9 hl9 HO
   go_wp2_with fail
   go_ret
   exact ⟨_, _, rfl, HR9.out, HB9.out, HR.out, HG.out⟩
end Go.Proofs.YtbdjccmlgdfapaaGreat
namespace Go.Proofs.YtbdjccmlgdfapaaGreat
open Go.RowKit
set_option linter.unusedVariables false
set_option linter.unusedSimpArgs false
set_option maxHeartbeats 16000000 in
set_option maxRecDepth 100000 in
theorem part_zero {b : List UInt8} {f : Nat} (g : Nat) (a : Option Addr) (cap : Nat) (s : RS) (D : Int) (w : World) (h : Rdr w g a cap b s) (hD : D + 0 = 7) (hf : 0 ≤ 6) (hc : s.c + Pd.mx 0 ≤ 1000000000000)
  (K : Nat) (s2 : RS) (hK : Pd.lnum b (Pd.lbeg 0 s) = (K, s2)) (hk0 : K < 1 ∨ 10 < K) (hKl : K < 18446744073709551616) :
  Calls Tryz.prog 50 #[.pointer (some ⟨g, 0, none⟩), .int .i64 D] w fun x w' => ∃ u, x = .returned (pvv u) ∧ Pd.Lay (fun q => w.heap.size ≤ q) (Pd.lpart b 0 s).1 w' u ∧ Rdr w' g a cap b (Pd.lpart b 0 s).2 ∧ w.grownBy w' (some g) := by
 have H : Hid (Rdr w g a cap b s) := h
 have hglt : g < w.heap.size := h.1.lt
 have hsc : s2.c = s.c + 1 := by have h1 := Pd.lnum_c b (Pd.lbeg 0 s); rw [hK, Pd.lbeg_c] at h1; exact h1
 have hmx := Pd.mx_pos 0
 have HB0 : Hid (Pd.lpart b 0 s = Pd.lbody b (fun s => (Pd.zero, s)) K s2) := (by rw [Pd.lpart, hK] : Pd.lpart b 0 s = Pd.lbody b (fun s => (Pd.zero, s)) K s2)
 have HC : Hid (s2.c + 40 * 0 ≤ 1000000000000) := (by omega : s2.c + 40 * 0 ≤ 1000000000000)
 have hc1 : s.c ≤ 1000000000000 := by omega
 obtain ⟨W, hW⟩ : ∃ W, w.alloc pb0 = W := ⟨_, rfl⟩
 have hXW : Ex w W := by rw [← hW]; exact (Below.refl _ _).alloc (Nat.le_refl _) _
 have HRW : Hid (Rdr W g a cap b s) := h.below hXW
 have HPr : Hid (PAt W w.heap.size PV.zero) := (by rw [← hW]; exact PAt.new w PV.zero : PAt _ _ _)
 have hszW : w.heap.size < W.heap.size := by rw [← hW]; simp
 have HGW : Hid (w.grownBy W (some g)) := (hXW.grownBy _ : World.grownBy _ _ _)
 have HKK : Hid (Pd.lnum b (Pd.lbeg 0 s) = (K, s2)) := hK
 have HD : Hid (D + 0 = 7) := hD
 clear h hXW hmx hsc hK hD
 go_enter Tryz.func50, Tryz.ntmps50
 go_wp2_with fail
 go_at_call 72
 refine (begin_is g a cap b s D 0 W HRW.out HD.out hf hc1).mono ?_
 rintro e w1 ⟨rfl, hR, hg⟩
 have HRd1 : Hid (Rdr w1 g a cap b (Pd.lbeg 0 s)) := hR
 have HG1 : Hid (w.grownBy w1 (some g)) := (grown_tr HGW.out hg : World.grownBy _ _ _)
 have HPr1 : Hid (PAt w1 w.heap.size PV.zero) := (HPr.out.far hg (by simp; omega) : PAt _ _ _)
 have hsz1 : w.heap.size < w1.heap.size := Nat.lt_of_lt_of_le hszW hg.size
 clear hR hg
 go_wp2_with fail
 go_at_call 73
 refine (number_is g a cap b (Pd.lbeg 0 s) w1 HRd1.out).mono ?_
 rintro e w2 ⟨rfl, hR, hg⟩
 rw [HKK.out] at hR ⊢
 simp only at hR ⊢
 have HG2 : Hid (w.grownBy w2 (some g)) := (grown_tr HG1.out hg : World.grownBy _ _ _)
 have hsz2 : w.heap.size < w2.heap.size := Nat.lt_of_lt_of_le hsz1 hg.size
 obtain ⟨w3, hw3⟩ : ∃ w3, w2.alloc pb0 = w3 := ⟨_, rfl⟩
 have hX3 : Ex w2 w3 := by rw [← hw3]; exact (Below.refl _ _).alloc (Nat.le_refl _) _
 have HRd3 : Hid (Rdr w3 g a cap b s2) := (hR.below hX3 : Rdr _ _ _ _ _ _)
 have HG3 : Hid (w.grownBy w3 (some g)) := (grown_tr HG2.out (hX3.grownBy _) : World.grownBy _ _ _)
 have HPr3 : Hid (PAt w3 w.heap.size PV.zero) := ((HPr1.out.far hg (by simp; omega)).below hX3 : PAt _ _ _)
 have HPp3 : Hid (PAt w3 w2.heap.size ⟨0, [], 0, 0, [], (none, 0, 0), none, 0, 0⟩) := (by rw [← hw3]; exact PAt.new w2 PV.zero : PAt _ _ _)
 have hsz3 : w2.heap.size < w3.heap.size := by rw [← hw3]; simp
 obtain ⟨c0, c1, c2, c3, c4, c5, c6⟩ := HPp3.out.all
 obtain ⟨f0, f1, f2, f3, f4, f5, f6⟩ := HPp3.out.fro
 simp only at c0 c1 c2 c3 c4 c5 c6
 clear hR hg hX3 HKK HRd1 HPr1 HRW HPr
 have HB : Hid (Pd.lpart b 0 s = (Pr.mk' (Pd.hk (IntKind.i64.wrap (K : Int))) [], Pd.refu 12 s2)) := (by rw [HB0.out]; unfold Pd.lbody; rw [if_neg (by omega), if_neg (by omega), if_neg (by omega), if_neg (by omega), if_neg (by omega), if_neg (by omega), if_neg (by omega)] : Pd.lpart b 0 s = _)
 have k1 : ((K : Int) == 1) = false := beq_eq_false_iff_ne.2 (by omega)
 have k2 : ((K : Int) == 2) = false := beq_eq_false_iff_ne.2 (by omega)
 have k3 : ((K : Int) == 3) = false := beq_eq_false_iff_ne.2 (by omega)
 have k4 : ((K : Int) == 4) = false := beq_eq_false_iff_ne.2 (by omega)
 have k5 : ((K : Int) == 5) = false := beq_eq_false_iff_ne.2 (by omega)
 have k6 : ((K : Int) == 6) = false := beq_eq_false_iff_ne.2 (by omega)
 have k7 : ((K : Int) == 7) = false := beq_eq_false_iff_ne.2 (by omega)
 have k8 : ((K : Int) == 8) = false := beq_eq_false_iff_ne.2 (by omega)
 have k9 : ((K : Int) == 9) = false := beq_eq_false_iff_ne.2 (by omega)
 have k10 : ((K : Int) == 10) = false := beq_eq_false_iff_ne.2 (by omega)
 obtain ⟨Z, hZ⟩ : ∃ Z, IntKind.i64.wrap (K : Int) = Z := ⟨_, rfl⟩
 rw [hZ] at HB
 have HC4 : Hid _ := refuse_is g a cap b s2 12 12 w3 HRd3.out rfl
 go_wp2_with fail
 go_at_call 79
 refine Calls.mono HC4.out ?_
 rintro e w4 ⟨rfl, hR, hg⟩
 have HRd4 : Hid (Rdr w4 g a cap b (Pd.refu 12 s2)) := hR
 have HG4 : Hid (w.grownBy w4 (some g)) := (grown_tr HG3.out hg : World.grownBy _ _ _)
 have HPp4 : Hid (PAt w4 w2.heap.size ⟨0, [], 0, 0, [], (none, 0, 0), none, 0, 0⟩) := (HPp3.out.far hg (by simp; omega) : PAt _ _ _)
 have HPr4 : Hid (PAt w4 w.heap.size PV.zero) := (HPr3.out.far hg (by simp; omega) : PAt _ _ _)
 have hsz4 : w2.heap.size < w4.heap.size := Nat.lt_of_lt_of_le hsz3 hg.size
 clear hR hg HC4
 clear c0 c1 c2 c3 c4 c5 c6 f0 f1 f2 f3 f4 f5 f6
 obtain ⟨c0, c1, c2, c3, c4, c5, c6⟩ := HPp4.out.all
 obtain ⟨f0, f1, f2, f3, f4, f5, f6⟩ := HPp4.out.fro
 simp only at c0 c1 c2 c3 c4 c5 c6
 obtain ⟨w5, hw5⟩ : ∃ w', w4.setCell ⟨w2.heap.size, 0, none⟩ (.int .i64 (Z : Int)) = w' := ⟨_, rfl⟩
 have hgg : w4.grownBy w5 (some w2.heap.size) := by rw [← hw5]; exact grown_set1 _ _ _ _
 have HPp5 : Hid (PAt w5 w2.heap.size ⟨Z, [], 0, 0, [], (none, 0, 0), none, 0, 0⟩) := (by rw [← hw5]; exact HPp4.out.set rfl : PAt _ _ _)
 have HPr5 : Hid (PAt w5 w.heap.size PV.zero) := (HPr4.out.far hgg (by simp; omega) : PAt _ _ _)
 have HRd5 : Hid (Rdr w5 g a cap b (Pd.refu 12 s2)) := (Rdr.new H.out HRd4.out hgg (fun j hj => by simp at hj; omega) : Rdr _ _ _ _ _ _)
 have HG5 : Hid (w.grownBy w5 (some g)) := (grown_trN HG4.out hgg (fun j hj => .inr (by simp at hj; omega)) : World.grownBy _ _ _)
 have hsz5 : w2.heap.size < w5.heap.size := Nat.lt_of_lt_of_le hsz4 hgg.size
 clear hgg
 obtain ⟨c0', c1', c2', c3', c4', c5', c6'⟩ := HPp5.out.all
 obtain ⟨f0', f1', f2', f3', f4', f5', f6'⟩ := HPp5.out.fro
 simp only at c0' c1' c2' c3' c4' c5' c6'
 obtain ⟨z0, z1, z2, z3, z4, z5, z6⟩ := HPr5.out.all
 obtain ⟨y0, y1, y2, y3, y4, y5, y6⟩ := HPr5.out.fro
 simp only [PV.zero] at z0 z1 z2 z3 z4 z5 z6
 go_wp2_with fail
 have hP9 := HPr5.out.store ⟨Z, [], 0, 0, [], (none, 0, 0), none, 0, 0⟩
 have hgr := grown_pset w5 w.heap.size ⟨Z, [], 0, 0, [], (none, 0, 0), none, 0, 0⟩
 refine bodyPost_ret (v := pvv ⟨Z, [], 0, 0, [], (none, 0, 0), none, 0, 0⟩) (res_pred Tryz.results50 rfl hP9) rfl ⟨_, rfl, ?_, ?_, ?_⟩
 ·rw [HB.out]
  simp only
  rw [Pd.lay_mk]
  exact ⟨⟨⟨rfl, rfl, rfl, rfl, rfl⟩, rfl, Rd.nil _, fun h0 => by simp at h0⟩, rfl, fun h0 => by simp at h0, [], RdW.nil _, Pd.Lays.nil _ _⟩
 ·rw [HB.out]
  exact Rdr.new H.out HRd5.out hgr (fun j hj => by simp at hj; omega)
 ·exact grown_trN HG5.out hgr (fun j hj => .inr (by simp at hj; omega))
end Go.Proofs.YtbdjccmlgdfapaaGreat
namespace Go.Proofs.YtbdjccmlgdfapaaGreat
open Go.RowKit
set_option linter.unusedVariables false
set_option linter.unusedSimpArgs false
set_option maxHeartbeats 16000000 in
set_option maxRecDepth 100000 in
theorem part_none {b : List UInt8} {f : Nat} (hP : PartC b f) (g : Nat) (a : Option Addr) (cap : Nat) (s : RS) (D : Int) (w : World) (h : Rdr w g a cap b s) (hD : D + (f + 1) = 7) (hf : (f + 1) ≤ 6) (hc : s.c + Pd.mx (f + 1) ≤ 1000000000000)
  (K : Nat) (s2 : RS) (hK : Pd.lnum b (Pd.lbeg (f + 1) s) = (K, s2)) (hk0 : K < 1 ∨ 10 < K) (hKl : K < 18446744073709551616) :
  Calls Tryz.prog 50 #[.pointer (some ⟨g, 0, none⟩), .int .i64 D] w fun x w' => ∃ u, x = .returned (pvv u) ∧ Pd.Lay (fun q => w.heap.size ≤ q) (Pd.lpart b (f + 1) s).1 w' u ∧ Rdr w' g a cap b (Pd.lpart b (f + 1) s).2 ∧ w.grownBy w' (some g) := by
 have H : Hid (Rdr w g a cap b s) := h
 have hglt : g < w.heap.size := h.1.lt
 have hsc : s2.c = s.c + 1 := by have h1 := Pd.lnum_c b (Pd.lbeg (f + 1) s); rw [hK, Pd.lbeg_c] at h1; exact h1
 have hmx := Pd.mx_pos (f + 1)
 have HB0 : Hid (Pd.lpart b (f + 1) s = Pd.lbody b (Pd.lpart b f) K s2) := (by rw [Pd.lpart, hK] : Pd.lpart b (f + 1) s = Pd.lbody b (Pd.lpart b f) K s2)
 have HC : Hid (s2.c + 40 * Pd.mx f ≤ 1000000000000) := (by rw [Pd.mx] at hc; omega : s2.c + 40 * Pd.mx f ≤ 1000000000000)
 have hc1 : s.c ≤ 1000000000000 := by omega
 obtain ⟨W, hW⟩ : ∃ W, w.alloc pb0 = W := ⟨_, rfl⟩
 have hXW : Ex w W := by rw [← hW]; exact (Below.refl _ _).alloc (Nat.le_refl _) _
 have HRW : Hid (Rdr W g a cap b s) := h.below hXW
 have HPr : Hid (PAt W w.heap.size PV.zero) := (by rw [← hW]; exact PAt.new w PV.zero : PAt _ _ _)
 have hszW : w.heap.size < W.heap.size := by rw [← hW]; simp
 have HGW : Hid (w.grownBy W (some g)) := (hXW.grownBy _ : World.grownBy _ _ _)
 have HKK : Hid (Pd.lnum b (Pd.lbeg (f + 1) s) = (K, s2)) := hK
 have HD : Hid (D + (f + 1) = 7) := hD
 clear h hXW hmx hsc hK hD
 go_enter Tryz.func50, Tryz.ntmps50
 go_wp2_with fail
 go_at_call 72
 refine (begin_is g a cap b s D (f + 1) W HRW.out HD.out hf hc1).mono ?_
 rintro e w1 ⟨rfl, hR, hg⟩
 have HRd1 : Hid (Rdr w1 g a cap b (Pd.lbeg (f + 1) s)) := hR
 have HG1 : Hid (w.grownBy w1 (some g)) := (grown_tr HGW.out hg : World.grownBy _ _ _)
 have HPr1 : Hid (PAt w1 w.heap.size PV.zero) := (HPr.out.far hg (by simp; omega) : PAt _ _ _)
 have hsz1 : w.heap.size < w1.heap.size := Nat.lt_of_lt_of_le hszW hg.size
 clear hR hg
 go_wp2_with fail
 go_at_call 73
 refine (number_is g a cap b (Pd.lbeg (f + 1) s) w1 HRd1.out).mono ?_
 rintro e w2 ⟨rfl, hR, hg⟩
 rw [HKK.out] at hR ⊢
 simp only at hR ⊢
 have HG2 : Hid (w.grownBy w2 (some g)) := (grown_tr HG1.out hg : World.grownBy _ _ _)
 have hsz2 : w.heap.size < w2.heap.size := Nat.lt_of_lt_of_le hsz1 hg.size
 obtain ⟨w3, hw3⟩ : ∃ w3, w2.alloc pb0 = w3 := ⟨_, rfl⟩
 have hX3 : Ex w2 w3 := by rw [← hw3]; exact (Below.refl _ _).alloc (Nat.le_refl _) _
 have HRd3 : Hid (Rdr w3 g a cap b s2) := (hR.below hX3 : Rdr _ _ _ _ _ _)
 have HG3 : Hid (w.grownBy w3 (some g)) := (grown_tr HG2.out (hX3.grownBy _) : World.grownBy _ _ _)
 have HPr3 : Hid (PAt w3 w.heap.size PV.zero) := ((HPr1.out.far hg (by simp; omega)).below hX3 : PAt _ _ _)
 have HPp3 : Hid (PAt w3 w2.heap.size ⟨0, [], 0, 0, [], (none, 0, 0), none, 0, 0⟩) := (by rw [← hw3]; exact PAt.new w2 PV.zero : PAt _ _ _)
 have hsz3 : w2.heap.size < w3.heap.size := by rw [← hw3]; simp
 obtain ⟨c0, c1, c2, c3, c4, c5, c6⟩ := HPp3.out.all
 obtain ⟨f0, f1, f2, f3, f4, f5, f6⟩ := HPp3.out.fro
 simp only at c0 c1 c2 c3 c4 c5 c6
 clear hR hg hX3 HKK HRd1 HPr1 HRW HPr
 have HB : Hid (Pd.lpart b (f + 1) s = (Pr.mk' (Pd.hk (IntKind.i64.wrap (K : Int))) [], Pd.refu 12 s2)) := (by rw [HB0.out]; unfold Pd.lbody; rw [if_neg (by omega), if_neg (by omega), if_neg (by omega), if_neg (by omega), if_neg (by omega), if_neg (by omega), if_neg (by omega)] : Pd.lpart b (f + 1) s = _)
 have k1 : ((K : Int) == 1) = false := beq_eq_false_iff_ne.2 (by omega)
 have k2 : ((K : Int) == 2) = false := beq_eq_false_iff_ne.2 (by omega)
 have k3 : ((K : Int) == 3) = false := beq_eq_false_iff_ne.2 (by omega)
 have k4 : ((K : Int) == 4) = false := beq_eq_false_iff_ne.2 (by omega)
 have k5 : ((K : Int) == 5) = false := beq_eq_false_iff_ne.2 (by omega)
 have k6 : ((K : Int) == 6) = false := beq_eq_false_iff_ne.2 (by omega)
 have k7 : ((K : Int) == 7) = false := beq_eq_false_iff_ne.2 (by omega)
 have k8 : ((K : Int) == 8) = false := beq_eq_false_iff_ne.2 (by omega)
 have k9 : ((K : Int) == 9) = false := beq_eq_false_iff_ne.2 (by omega)
 have k10 : ((K : Int) == 10) = false := beq_eq_false_iff_ne.2 (by omega)
 obtain ⟨Z, hZ⟩ : ∃ Z, IntKind.i64.wrap (K : Int) = Z := ⟨_, rfl⟩
 rw [hZ] at HB
 have HC4 : Hid _ := refuse_is g a cap b s2 12 12 w3 HRd3.out rfl
 go_wp2_with fail
 go_at_call 79
 refine Calls.mono HC4.out ?_
 rintro e w4 ⟨rfl, hR, hg⟩
 have HRd4 : Hid (Rdr w4 g a cap b (Pd.refu 12 s2)) := hR
 have HG4 : Hid (w.grownBy w4 (some g)) := (grown_tr HG3.out hg : World.grownBy _ _ _)
 have HPp4 : Hid (PAt w4 w2.heap.size ⟨0, [], 0, 0, [], (none, 0, 0), none, 0, 0⟩) := (HPp3.out.far hg (by simp; omega) : PAt _ _ _)
 have HPr4 : Hid (PAt w4 w.heap.size PV.zero) := (HPr3.out.far hg (by simp; omega) : PAt _ _ _)
 have hsz4 : w2.heap.size < w4.heap.size := Nat.lt_of_lt_of_le hsz3 hg.size
 clear hR hg HC4
 clear c0 c1 c2 c3 c4 c5 c6 f0 f1 f2 f3 f4 f5 f6
 obtain ⟨c0, c1, c2, c3, c4, c5, c6⟩ := HPp4.out.all
 obtain ⟨f0, f1, f2, f3, f4, f5, f6⟩ := HPp4.out.fro
 simp only at c0 c1 c2 c3 c4 c5 c6
 obtain ⟨w5, hw5⟩ : ∃ w', w4.setCell ⟨w2.heap.size, 0, none⟩ (.int .i64 (Z : Int)) = w' := ⟨_, rfl⟩
 have hgg : w4.grownBy w5 (some w2.heap.size) := by rw [← hw5]; exact grown_set1 _ _ _ _
 have HPp5 : Hid (PAt w5 w2.heap.size ⟨Z, [], 0, 0, [], (none, 0, 0), none, 0, 0⟩) := (by rw [← hw5]; exact HPp4.out.set rfl : PAt _ _ _)
 have HPr5 : Hid (PAt w5 w.heap.size PV.zero) := (HPr4.out.far hgg (by simp; omega) : PAt _ _ _)
 have HRd5 : Hid (Rdr w5 g a cap b (Pd.refu 12 s2)) := (Rdr.new H.out HRd4.out hgg (fun j hj => by simp at hj; omega) : Rdr _ _ _ _ _ _)
 have HG5 : Hid (w.grownBy w5 (some g)) := (grown_trN HG4.out hgg (fun j hj => .inr (by simp at hj; omega)) : World.grownBy _ _ _)
 have hsz5 : w2.heap.size < w5.heap.size := Nat.lt_of_lt_of_le hsz4 hgg.size
 clear hgg
 obtain ⟨c0', c1', c2', c3', c4', c5', c6'⟩ := HPp5.out.all
 obtain ⟨f0', f1', f2', f3', f4', f5', f6'⟩ := HPp5.out.fro
 simp only at c0' c1' c2' c3' c4' c5' c6'
 obtain ⟨z0, z1, z2, z3, z4, z5, z6⟩ := HPr5.out.all
 obtain ⟨y0, y1, y2, y3, y4, y5, y6⟩ := HPr5.out.fro
 simp only [PV.zero] at z0 z1 z2 z3 z4 z5 z6
 go_wp2_with fail
 have hP9 := HPr5.out.store ⟨Z, [], 0, 0, [], (none, 0, 0), none, 0, 0⟩
 have hgr := grown_pset w5 w.heap.size ⟨Z, [], 0, 0, [], (none, 0, 0), none, 0, 0⟩
 refine bodyPost_ret (v := pvv ⟨Z, [], 0, 0, [], (none, 0, 0), none, 0, 0⟩) (res_pred Tryz.results50 rfl hP9) rfl ⟨_, rfl, ?_, ?_, ?_⟩
 ·rw [HB.out]
  simp only
  rw [Pd.lay_mk]
  exact ⟨⟨⟨rfl, rfl, rfl, rfl, rfl⟩, rfl, Rd.nil _, fun h0 => by simp at h0⟩, rfl, fun h0 => by simp at h0, [], RdW.nil _, Pd.Lays.nil _ _⟩
 ·rw [HB.out]
  exact Rdr.new H.out HRd5.out hgr (fun j hj => by simp at hj; omega)
 ·exact grown_trN HG5.out hgr (fun j hj => .inr (by simp at hj; omega))
end Go.Proofs.YtbdjccmlgdfapaaGreat
namespace Go.Proofs.YtbdjccmlgdfapaaGreat
open Go.RowKit
set_option linter.unusedVariables false
set_option linter.unusedSimpArgs false
set_option maxHeartbeats 16000000 in
set_option maxRecDepth 100000 in
theorem part_kids {b : List UInt8} {f : Nat} (hP : PartC b f) (g : Nat) (a : Option Addr) (cap : Nat) (s : RS) (D : Int) (w : World) (h : Rdr w g a cap b s) (hD : D + (f + 1) = 7) (hf : (f + 1) ≤ 6) (hc : s.c + Pd.mx (f + 1) ≤ 1000000000000)
  (K : Nat) (s2 : RS) (hK : Pd.lnum b (Pd.lbeg (f + 1) s) = (K, s2)) (hk0 : K = 1 ∨ K = 2 ∨ K = 3) :
  Calls Tryz.prog 50 #[.pointer (some ⟨g, 0, none⟩), .int .i64 D] w fun x w' => ∃ u, x = .returned (pvv u) ∧ Pd.Lay (fun q => w.heap.size ≤ q) (Pd.lpart b (f + 1) s).1 w' u ∧ Rdr w' g a cap b (Pd.lpart b (f + 1) s).2 ∧ w.grownBy w' (some g) := by
 have H : Hid (Rdr w g a cap b s) := h
 have hglt : g < w.heap.size := h.1.lt
 have hsc : s2.c = s.c + 1 := by have h1 := Pd.lnum_c b (Pd.lbeg (f + 1) s); rw [hK, Pd.lbeg_c] at h1; exact h1
 have hmx := Pd.mx_pos (f + 1)
 have HB0 : Hid (Pd.lpart b (f + 1) s = Pd.lbody b (Pd.lpart b f) K s2) := (by rw [Pd.lpart, hK] : Pd.lpart b (f + 1) s = Pd.lbody b (Pd.lpart b f) K s2)
 have HC : Hid (s2.c + 40 * Pd.mx f ≤ 1000000000000) := (by rw [Pd.mx] at hc; omega : s2.c + 40 * Pd.mx f ≤ 1000000000000)
 have hc1 : s.c ≤ 1000000000000 := by omega
 obtain ⟨W, hW⟩ : ∃ W, w.alloc pb0 = W := ⟨_, rfl⟩
 have hXW : Ex w W := by rw [← hW]; exact (Below.refl _ _).alloc (Nat.le_refl _) _
 have HRW : Hid (Rdr W g a cap b s) := h.below hXW
 have HPr : Hid (PAt W w.heap.size PV.zero) := (by rw [← hW]; exact PAt.new w PV.zero : PAt _ _ _)
 have hszW : w.heap.size < W.heap.size := by rw [← hW]; simp
 have HGW : Hid (w.grownBy W (some g)) := (hXW.grownBy _ : World.grownBy _ _ _)
 have HKK : Hid (Pd.lnum b (Pd.lbeg (f + 1) s) = (K, s2)) := hK
 have HD : Hid (D + (f + 1) = 7) := hD
 clear h hXW hmx hsc hK hD
 go_enter Tryz.func50, Tryz.ntmps50
 go_wp2_with fail
 go_at_call 72
 refine (begin_is g a cap b s D (f + 1) W HRW.out HD.out hf hc1).mono ?_
 rintro e w1 ⟨rfl, hR, hg⟩
 have HRd1 : Hid (Rdr w1 g a cap b (Pd.lbeg (f + 1) s)) := hR
 have HG1 : Hid (w.grownBy w1 (some g)) := (grown_tr HGW.out hg : World.grownBy _ _ _)
 have HPr1 : Hid (PAt w1 w.heap.size PV.zero) := (HPr.out.far hg (by simp; omega) : PAt _ _ _)
 have hsz1 : w.heap.size < w1.heap.size := Nat.lt_of_lt_of_le hszW hg.size
 clear hR hg
 go_wp2_with fail
 go_at_call 73
 refine (number_is g a cap b (Pd.lbeg (f + 1) s) w1 HRd1.out).mono ?_
 rintro e w2 ⟨rfl, hR, hg⟩
 rw [HKK.out] at hR ⊢
 simp only at hR ⊢
 have HG2 : Hid (w.grownBy w2 (some g)) := (grown_tr HG1.out hg : World.grownBy _ _ _)
 have hsz2 : w.heap.size < w2.heap.size := Nat.lt_of_lt_of_le hsz1 hg.size
 obtain ⟨w3, hw3⟩ : ∃ w3, w2.alloc pb0 = w3 := ⟨_, rfl⟩
 have hX3 : Ex w2 w3 := by rw [← hw3]; exact (Below.refl _ _).alloc (Nat.le_refl _) _
 have HRd3 : Hid (Rdr w3 g a cap b s2) := (hR.below hX3 : Rdr _ _ _ _ _ _)
 have HG3 : Hid (w.grownBy w3 (some g)) := (grown_tr HG2.out (hX3.grownBy _) : World.grownBy _ _ _)
 have HPr3 : Hid (PAt w3 w.heap.size PV.zero) := ((HPr1.out.far hg (by simp; omega)).below hX3 : PAt _ _ _)
 have HPp3 : Hid (PAt w3 w2.heap.size ⟨0, [], 0, 0, [], (none, 0, 0), none, 0, 0⟩) := (by rw [← hw3]; exact PAt.new w2 PV.zero : PAt _ _ _)
 have hsz3 : w2.heap.size < w3.heap.size := by rw [← hw3]; simp
 obtain ⟨c0, c1, c2, c3, c4, c5, c6⟩ := HPp3.out.all
 obtain ⟨f0, f1, f2, f3, f4, f5, f6⟩ := HPp3.out.fro
 simp only at c0 c1 c2 c3 c4 c5 c6
 clear hR hg hX3 HKK HRd1 HPr1 HRW HPr
 rcases hk0 with rfl | rfl | rfl
 ·skip
  obtain ⟨⟨n, s4⟩, hn⟩ : ∃ x, Pd.lcnt b 40 s2 = x := ⟨_, rfl⟩
  have hn40 : n ≤ 40 := by have := Pd.lcnt_le b 40 s2; rw [hn] at this; exact this
  have hs4 : s4.c = s2.c := by have := Pd.lcnt_c b 40 s2; rw [hn] at this; exact this
  have HCn : Hid (Pd.lcnt b 40 s2 = (n, s4)) := hn
  clear hn
  obtain ⟨⟨LL, s5⟩, hl⟩ : ∃ x, Pd.lkids (Pd.lpart b f) n s4 = x := ⟨_, rfl⟩
  have HLL : Hid (Pd.lkids (Pd.lpart b f) n s4 = (LL, s5)) := hl
  have HLN : Hid (LL.length = n) := (by have := Pd.lkids_len (Pd.lpart b f) s4 n; rw [hl] at this; exact this : LL.length = n)
  have HB : Hid (Pd.lpart b (f + 1) s = (Pr.mk' (Pd.hk 1) LL, s5)) := (by rw [HB0.out]; unfold Pd.lbody; rw [if_pos (by omega), HCn.out]; simp only; rw [hl]; rfl : Pd.lpart b (f + 1) s = _)
  clear hl
  have HC4 : Hid _ := count_is g a cap b s2 40 40 w3 HRd3.out rfl (by omega)
  go_wp2_with fail
  go_at_call 75
  refine Calls.mono HC4.out ?_
  rintro e w4 ⟨rfl, hR, hg⟩
  rw [HCn.out] at hR ⊢
  simp only at hR ⊢
  have HRd4 : Hid (Rdr w4 g a cap b s4) := hR
  have HG4 : Hid (w.grownBy w4 (some g)) := (grown_tr HG3.out hg : World.grownBy _ _ _)
  have HPp4 : Hid (PAt w4 w2.heap.size ⟨0, [], 0, 0, [], (none, 0, 0), none, 0, 0⟩) := (HPp3.out.far hg (by simp; omega) : PAt _ _ _)
  have HPr4 : Hid (PAt w4 w.heap.size PV.zero) := (HPr3.out.far hg (by simp; omega) : PAt _ _ _)
  have hsz4 : w2.heap.size < w4.heap.size := Nat.lt_of_lt_of_le hsz3 hg.size
  clear hR hg HC4
  clear c0 c1 c2 c3 c4 c5 c6 f0 f1 f2 f3 f4 f5 f6
  obtain ⟨c0, c1, c2, c3, c4, c5, c6⟩ := HPp4.out.all
  obtain ⟨f0, f1, f2, f3, f4, f5, f6⟩ := HPp4.out.fro
  simp only at c0 c1 c2 c3 c4 c5 c6
  obtain ⟨wk, hwk⟩ : ∃ wk, wk = w4 := ⟨_, rfl⟩
  have hszk : w2.heap.size < wk.heap.size := by rw [hwk]; exact hsz4
  have HC5 : Hid _ := kids_is hP g a cap s4 n D w4 HRd4.out (by have h1 := HD.out; omega) (by omega) (by omega) (by have h1 := HC.out; rw [hs4]; exact h1)
  go_wp2_with fail
  go_at_call 74
  refine Calls.mono HC5.out ?_
  rintro e w5 ⟨ka, kc, rfl, hV, hKB, hR, hg⟩
  rw [HLL.out] at hV hR
  simp only at hV hR
  have HRd5 : Hid (Rdr w5 g a cap b s5) := hR
  have HKs5 : Hid (∃ vs, RdW 7 pc w5 ka kc vs ∧ Pd.Lays (fun q => wk.heap.size ≤ q) w5 vs LL) := (by rw [hwk]; exact hV : ∃ vs, RdW 7 pc w5 ka kc vs ∧ Pd.Lays (fun q => wk.heap.size ≤ q) w5 vs LL)
  have HKB : Hid (∀ q off, ka = some ⟨q, off, none⟩ → wk.heap.size ≤ q) := (by rw [hwk]; exact hKB : ∀ q off, ka = some ⟨q, off, none⟩ → wk.heap.size ≤ q)
  clear hV hKB hwk
  have HG5 : Hid (w.grownBy w5 (some g)) := (grown_tr HG4.out hg : World.grownBy _ _ _)
  have HPp5 : Hid (PAt w5 w2.heap.size ⟨0, [], 0, 0, [], (none, 0, 0), none, 0, 0⟩) := (HPp4.out.far hg (by simp; omega) : PAt _ _ _)
  have HPr5 : Hid (PAt w5 w.heap.size PV.zero) := (HPr4.out.far hg (by simp; omega) : PAt _ _ _)
  have hsz5 : w2.heap.size < w5.heap.size := Nat.lt_of_lt_of_le hsz4 hg.size
  clear hR hg HC5
  clear c0 c1 c2 c3 c4 c5 c6 f0 f1 f2 f3 f4 f5 f6
  obtain ⟨c0, c1, c2, c3, c4, c5, c6⟩ := HPp5.out.all
  obtain ⟨f0, f1, f2, f3, f4, f5, f6⟩ := HPp5.out.fro
  simp only at c0 c1 c2 c3 c4 c5 c6
  obtain ⟨w6, hw6⟩ : ∃ w', w5.setCell ⟨w2.heap.size, 6, none⟩ (.slice ka n kc) = w' := ⟨_, rfl⟩
  have hgg : w5.grownBy w6 (some w2.heap.size) := by rw [← hw6]; exact grown_set1 _ _ _ _
  have HPp6 : Hid (PAt w6 w2.heap.size ⟨0, [], 0, 0, [], (none, 0, 0), ka, n, kc⟩) := (by rw [← hw6]; exact HPp5.out.set rfl : PAt _ _ _)
  have HPr6 : Hid (PAt w6 w.heap.size PV.zero) := (HPr5.out.far hgg (by simp; omega) : PAt _ _ _)
  have HRd6 : Hid (Rdr w6 g a cap b s5) := (Rdr.new H.out HRd5.out hgg (fun j hj => by simp at hj; omega) : Rdr _ _ _ _ _ _)
  have HG6 : Hid (w.grownBy w6 (some g)) := (grown_trN HG5.out hgg (fun j hj => .inr (by simp at hj; omega)) : World.grownBy _ _ _)
  have hsz6 : w2.heap.size < w6.heap.size := Nat.lt_of_lt_of_le hsz5 hgg.size
  have HKs6 : Hid (∃ vs, RdW 7 pc w6 ka kc vs ∧ Pd.Lays (fun q => wk.heap.size ≤ q) w6 vs LL) := (by obtain ⟨vs, h1, h2⟩ := HKs5.out; exact ⟨vs, h1.far hgg (fun _ q off e => by have := HKB.out q off e; simp; omega), h2.far (fun q hq e => by simp at e; omega) hgg⟩ : ∃ vs, RdW 7 pc w6 ka kc vs ∧ Pd.Lays (fun q => wk.heap.size ≤ q) w6 vs LL)
  clear hgg
  obtain ⟨c0', c1', c2', c3', c4', c5', c6'⟩ := HPp6.out.all
  obtain ⟨f0', f1', f2', f3', f4', f5', f6'⟩ := HPp6.out.fro
  simp only at c0' c1' c2' c3' c4' c5' c6'
  obtain ⟨w7, hw7⟩ : ∃ w', w6.setCell ⟨w2.heap.size, 0, none⟩ (.int .i64 (1 : Int)) = w' := ⟨_, rfl⟩
  have hgg : w6.grownBy w7 (some w2.heap.size) := by rw [← hw7]; exact grown_set1 _ _ _ _
  have HPp7 : Hid (PAt w7 w2.heap.size ⟨1, [], 0, 0, [], (none, 0, 0), ka, n, kc⟩) := (by rw [← hw7]; exact HPp6.out.set rfl : PAt _ _ _)
  have HPr7 : Hid (PAt w7 w.heap.size PV.zero) := (HPr6.out.far hgg (by simp; omega) : PAt _ _ _)
  have HRd7 : Hid (Rdr w7 g a cap b s5) := (Rdr.new H.out HRd6.out hgg (fun j hj => by simp at hj; omega) : Rdr _ _ _ _ _ _)
  have HG7 : Hid (w.grownBy w7 (some g)) := (grown_trN HG6.out hgg (fun j hj => .inr (by simp at hj; omega)) : World.grownBy _ _ _)
  have hsz7 : w2.heap.size < w7.heap.size := Nat.lt_of_lt_of_le hsz6 hgg.size
  have HKs7 : Hid (∃ vs, RdW 7 pc w7 ka kc vs ∧ Pd.Lays (fun q => wk.heap.size ≤ q) w7 vs LL) := (by obtain ⟨vs, h1, h2⟩ := HKs6.out; exact ⟨vs, h1.far hgg (fun _ q off e => by have := HKB.out q off e; simp; omega), h2.far (fun q hq e => by simp at e; omega) hgg⟩ : ∃ vs, RdW 7 pc w7 ka kc vs ∧ Pd.Lays (fun q => wk.heap.size ≤ q) w7 vs LL)
  clear hgg
  obtain ⟨d0, d1, d2, d3, d4, d5, d6⟩ := HPp7.out.all
  simp only at d0 d1 d2 d3 d4 d5 d6
  obtain ⟨z0, z1, z2, z3, z4, z5, z6⟩ := HPr7.out.all
  obtain ⟨y0, y1, y2, y3, y4, y5, y6⟩ := HPr7.out.fro
  simp only [PV.zero] at z0 z1 z2 z3 z4 z5 z6
  go_wp2_with fail
  have hP9 := HPr7.out.store ⟨1, [], 0, 0, [], (none, 0, 0), ka, n, kc⟩
  have hgr := grown_pset w7 w.heap.size ⟨1, [], 0, 0, [], (none, 0, 0), ka, n, kc⟩
  refine bodyPost_ret (v := pvv ⟨1, [], 0, 0, [], (none, 0, 0), ka, n, kc⟩) (res_pred Tryz.results50 rfl hP9) rfl ⟨_, rfl, ?_, ?_, ?_⟩
  ·rw [HB.out]
   simp only
   rw [Pd.lay_mk]
   exact ⟨⟨⟨rfl, rfl, rfl, rfl, rfl⟩, rfl, Rd.nil _, fun h0 => by simp at h0⟩, HLN.out.symm, fun _ q off e => by have := HKB.out q off e; omega, (by obtain ⟨vs, h1, h2⟩ := HKs7.out; exact ⟨vs, h1.far hgr (fun _ q off e => by have := HKB.out q off e; simp; omega), (h2.far (fun q hq e => by simp at e; omega) hgr).mono (fun q hq => by omega)⟩)⟩
  ·rw [HB.out]
   exact Rdr.new H.out HRd7.out hgr (fun j hj => by simp at hj; omega)
  ·exact grown_trN HG7.out hgr (fun j hj => .inr (by simp at hj; omega))
 ·skip
  obtain ⟨⟨n, s4⟩, hn⟩ : ∃ x, Pd.lcnt b 40 s2 = x := ⟨_, rfl⟩
  have hn40 : n ≤ 40 := by have := Pd.lcnt_le b 40 s2; rw [hn] at this; exact this
  have hs4 : s4.c = s2.c := by have := Pd.lcnt_c b 40 s2; rw [hn] at this; exact this
  have HCn : Hid (Pd.lcnt b 40 s2 = (n, s4)) := hn
  clear hn
  obtain ⟨⟨LL, s5⟩, hl⟩ : ∃ x, Pd.lkids (Pd.lpart b f) n s4 = x := ⟨_, rfl⟩
  have HLL : Hid (Pd.lkids (Pd.lpart b f) n s4 = (LL, s5)) := hl
  have HLN : Hid (LL.length = n) := (by have := Pd.lkids_len (Pd.lpart b f) s4 n; rw [hl] at this; exact this : LL.length = n)
  have HB : Hid (Pd.lpart b (f + 1) s = (Pr.mk' (Pd.hk 2) LL, s5)) := (by rw [HB0.out]; unfold Pd.lbody; rw [if_pos (by omega), HCn.out]; simp only; rw [hl]; rfl : Pd.lpart b (f + 1) s = _)
  clear hl
  have HC4 : Hid _ := count_is g a cap b s2 40 40 w3 HRd3.out rfl (by omega)
  go_wp2_with fail
  go_at_call 75
  refine Calls.mono HC4.out ?_
  rintro e w4 ⟨rfl, hR, hg⟩
  rw [HCn.out] at hR ⊢
  simp only at hR ⊢
  have HRd4 : Hid (Rdr w4 g a cap b s4) := hR
  have HG4 : Hid (w.grownBy w4 (some g)) := (grown_tr HG3.out hg : World.grownBy _ _ _)
  have HPp4 : Hid (PAt w4 w2.heap.size ⟨0, [], 0, 0, [], (none, 0, 0), none, 0, 0⟩) := (HPp3.out.far hg (by simp; omega) : PAt _ _ _)
  have HPr4 : Hid (PAt w4 w.heap.size PV.zero) := (HPr3.out.far hg (by simp; omega) : PAt _ _ _)
  have hsz4 : w2.heap.size < w4.heap.size := Nat.lt_of_lt_of_le hsz3 hg.size
  clear hR hg HC4
  clear c0 c1 c2 c3 c4 c5 c6 f0 f1 f2 f3 f4 f5 f6
  obtain ⟨c0, c1, c2, c3, c4, c5, c6⟩ := HPp4.out.all
  obtain ⟨f0, f1, f2, f3, f4, f5, f6⟩ := HPp4.out.fro
  simp only at c0 c1 c2 c3 c4 c5 c6
  obtain ⟨wk, hwk⟩ : ∃ wk, wk = w4 := ⟨_, rfl⟩
  have hszk : w2.heap.size < wk.heap.size := by rw [hwk]; exact hsz4
  have HC5 : Hid _ := kids_is hP g a cap s4 n D w4 HRd4.out (by have h1 := HD.out; omega) (by omega) (by omega) (by have h1 := HC.out; rw [hs4]; exact h1)
  go_wp2_with fail
  go_at_call 74
  refine Calls.mono HC5.out ?_
  rintro e w5 ⟨ka, kc, rfl, hV, hKB, hR, hg⟩
  rw [HLL.out] at hV hR
  simp only at hV hR
  have HRd5 : Hid (Rdr w5 g a cap b s5) := hR
  have HKs5 : Hid (∃ vs, RdW 7 pc w5 ka kc vs ∧ Pd.Lays (fun q => wk.heap.size ≤ q) w5 vs LL) := (by rw [hwk]; exact hV : ∃ vs, RdW 7 pc w5 ka kc vs ∧ Pd.Lays (fun q => wk.heap.size ≤ q) w5 vs LL)
  have HKB : Hid (∀ q off, ka = some ⟨q, off, none⟩ → wk.heap.size ≤ q) := (by rw [hwk]; exact hKB : ∀ q off, ka = some ⟨q, off, none⟩ → wk.heap.size ≤ q)
  clear hV hKB hwk
  have HG5 : Hid (w.grownBy w5 (some g)) := (grown_tr HG4.out hg : World.grownBy _ _ _)
  have HPp5 : Hid (PAt w5 w2.heap.size ⟨0, [], 0, 0, [], (none, 0, 0), none, 0, 0⟩) := (HPp4.out.far hg (by simp; omega) : PAt _ _ _)
  have HPr5 : Hid (PAt w5 w.heap.size PV.zero) := (HPr4.out.far hg (by simp; omega) : PAt _ _ _)
  have hsz5 : w2.heap.size < w5.heap.size := Nat.lt_of_lt_of_le hsz4 hg.size
  clear hR hg HC5
  clear c0 c1 c2 c3 c4 c5 c6 f0 f1 f2 f3 f4 f5 f6
  obtain ⟨c0, c1, c2, c3, c4, c5, c6⟩ := HPp5.out.all
  obtain ⟨f0, f1, f2, f3, f4, f5, f6⟩ := HPp5.out.fro
  simp only at c0 c1 c2 c3 c4 c5 c6
  obtain ⟨w6, hw6⟩ : ∃ w', w5.setCell ⟨w2.heap.size, 6, none⟩ (.slice ka n kc) = w' := ⟨_, rfl⟩
  have hgg : w5.grownBy w6 (some w2.heap.size) := by rw [← hw6]; exact grown_set1 _ _ _ _
  have HPp6 : Hid (PAt w6 w2.heap.size ⟨0, [], 0, 0, [], (none, 0, 0), ka, n, kc⟩) := (by rw [← hw6]; exact HPp5.out.set rfl : PAt _ _ _)
  have HPr6 : Hid (PAt w6 w.heap.size PV.zero) := (HPr5.out.far hgg (by simp; omega) : PAt _ _ _)
  have HRd6 : Hid (Rdr w6 g a cap b s5) := (Rdr.new H.out HRd5.out hgg (fun j hj => by simp at hj; omega) : Rdr _ _ _ _ _ _)
  have HG6 : Hid (w.grownBy w6 (some g)) := (grown_trN HG5.out hgg (fun j hj => .inr (by simp at hj; omega)) : World.grownBy _ _ _)
  have hsz6 : w2.heap.size < w6.heap.size := Nat.lt_of_lt_of_le hsz5 hgg.size
  have HKs6 : Hid (∃ vs, RdW 7 pc w6 ka kc vs ∧ Pd.Lays (fun q => wk.heap.size ≤ q) w6 vs LL) := (by obtain ⟨vs, h1, h2⟩ := HKs5.out; exact ⟨vs, h1.far hgg (fun _ q off e => by have := HKB.out q off e; simp; omega), h2.far (fun q hq e => by simp at e; omega) hgg⟩ : ∃ vs, RdW 7 pc w6 ka kc vs ∧ Pd.Lays (fun q => wk.heap.size ≤ q) w6 vs LL)
  clear hgg
  obtain ⟨c0', c1', c2', c3', c4', c5', c6'⟩ := HPp6.out.all
  obtain ⟨f0', f1', f2', f3', f4', f5', f6'⟩ := HPp6.out.fro
  simp only at c0' c1' c2' c3' c4' c5' c6'
  obtain ⟨w7, hw7⟩ : ∃ w', w6.setCell ⟨w2.heap.size, 0, none⟩ (.int .i64 (2 : Int)) = w' := ⟨_, rfl⟩
  have hgg : w6.grownBy w7 (some w2.heap.size) := by rw [← hw7]; exact grown_set1 _ _ _ _
  have HPp7 : Hid (PAt w7 w2.heap.size ⟨2, [], 0, 0, [], (none, 0, 0), ka, n, kc⟩) := (by rw [← hw7]; exact HPp6.out.set rfl : PAt _ _ _)
  have HPr7 : Hid (PAt w7 w.heap.size PV.zero) := (HPr6.out.far hgg (by simp; omega) : PAt _ _ _)
  have HRd7 : Hid (Rdr w7 g a cap b s5) := (Rdr.new H.out HRd6.out hgg (fun j hj => by simp at hj; omega) : Rdr _ _ _ _ _ _)
  have HG7 : Hid (w.grownBy w7 (some g)) := (grown_trN HG6.out hgg (fun j hj => .inr (by simp at hj; omega)) : World.grownBy _ _ _)
  have hsz7 : w2.heap.size < w7.heap.size := Nat.lt_of_lt_of_le hsz6 hgg.size
  have HKs7 : Hid (∃ vs, RdW 7 pc w7 ka kc vs ∧ Pd.Lays (fun q => wk.heap.size ≤ q) w7 vs LL) := (by obtain ⟨vs, h1, h2⟩ := HKs6.out; exact ⟨vs, h1.far hgg (fun _ q off e => by have := HKB.out q off e; simp; omega), h2.far (fun q hq e => by simp at e; omega) hgg⟩ : ∃ vs, RdW 7 pc w7 ka kc vs ∧ Pd.Lays (fun q => wk.heap.size ≤ q) w7 vs LL)
  clear hgg
  obtain ⟨d0, d1, d2, d3, d4, d5, d6⟩ := HPp7.out.all
  simp only at d0 d1 d2 d3 d4 d5 d6
  obtain ⟨z0, z1, z2, z3, z4, z5, z6⟩ := HPr7.out.all
  obtain ⟨y0, y1, y2, y3, y4, y5, y6⟩ := HPr7.out.fro
  simp only [PV.zero] at z0 z1 z2 z3 z4 z5 z6
  go_wp2_with fail
  have hP9 := HPr7.out.store ⟨2, [], 0, 0, [], (none, 0, 0), ka, n, kc⟩
  have hgr := grown_pset w7 w.heap.size ⟨2, [], 0, 0, [], (none, 0, 0), ka, n, kc⟩
  refine bodyPost_ret (v := pvv ⟨2, [], 0, 0, [], (none, 0, 0), ka, n, kc⟩) (res_pred Tryz.results50 rfl hP9) rfl ⟨_, rfl, ?_, ?_, ?_⟩
  ·rw [HB.out]
   simp only
   rw [Pd.lay_mk]
   exact ⟨⟨⟨rfl, rfl, rfl, rfl, rfl⟩, rfl, Rd.nil _, fun h0 => by simp at h0⟩, HLN.out.symm, fun _ q off e => by have := HKB.out q off e; omega, (by obtain ⟨vs, h1, h2⟩ := HKs7.out; exact ⟨vs, h1.far hgr (fun _ q off e => by have := HKB.out q off e; simp; omega), (h2.far (fun q hq e => by simp at e; omega) hgr).mono (fun q hq => by omega)⟩)⟩
  ·rw [HB.out]
   exact Rdr.new H.out HRd7.out hgr (fun j hj => by simp at hj; omega)
  ·exact grown_trN HG7.out hgr (fun j hj => .inr (by simp at hj; omega))
 ·skip
  obtain ⟨⟨LL, s5⟩, hl⟩ : ∃ x, Pd.lkids (Pd.lpart b f) 1 s2 = x := ⟨_, rfl⟩
  have HLL : Hid (Pd.lkids (Pd.lpart b f) 1 s2 = (LL, s5)) := hl
  have HLN : Hid (LL.length = 1) := (by have := Pd.lkids_len (Pd.lpart b f) s2 1; rw [hl] at this; exact this : LL.length = 1)
  have HB : Hid (Pd.lpart b (f + 1) s = (Pr.mk' (Pd.hk 3) LL, s5)) := (by rw [HB0.out]; unfold Pd.lbody; rw [if_neg (by omega), if_pos rfl, hl] : Pd.lpart b (f + 1) s = _)
  clear hl
  obtain ⟨wk, hwk⟩ : ∃ wk, wk = w3 := ⟨_, rfl⟩
  have hszk : w2.heap.size < wk.heap.size := by rw [hwk]; exact hsz3
  have HC4 : Hid _ := kids_is hP g a cap s2 1 D w3 HRd3.out (by have h1 := HD.out; omega) (by omega) (by omega) (by have h1 := HC.out; exact h1)
  go_wp2_with fail
  go_at_call 74
  refine Calls.mono HC4.out ?_
  rintro e w4 ⟨ka, kc, rfl, hV, hKB, hR, hg⟩
  rw [HLL.out] at hV hR
  simp only at hV hR
  have HRd4 : Hid (Rdr w4 g a cap b s5) := hR
  have HKs4 : Hid (∃ vs, RdW 7 pc w4 ka kc vs ∧ Pd.Lays (fun q => wk.heap.size ≤ q) w4 vs LL) := (by rw [hwk]; exact hV : ∃ vs, RdW 7 pc w4 ka kc vs ∧ Pd.Lays (fun q => wk.heap.size ≤ q) w4 vs LL)
  have HKB : Hid (∀ q off, ka = some ⟨q, off, none⟩ → wk.heap.size ≤ q) := (by rw [hwk]; exact hKB : ∀ q off, ka = some ⟨q, off, none⟩ → wk.heap.size ≤ q)
  clear hV hKB hwk
  have HG4 : Hid (w.grownBy w4 (some g)) := (grown_tr HG3.out hg : World.grownBy _ _ _)
  have HPp4 : Hid (PAt w4 w2.heap.size ⟨0, [], 0, 0, [], (none, 0, 0), none, 0, 0⟩) := (HPp3.out.far hg (by simp; omega) : PAt _ _ _)
  have HPr4 : Hid (PAt w4 w.heap.size PV.zero) := (HPr3.out.far hg (by simp; omega) : PAt _ _ _)
  have hsz4 : w2.heap.size < w4.heap.size := Nat.lt_of_lt_of_le hsz3 hg.size
  clear hR hg HC4
  clear c0 c1 c2 c3 c4 c5 c6 f0 f1 f2 f3 f4 f5 f6
  obtain ⟨c0, c1, c2, c3, c4, c5, c6⟩ := HPp4.out.all
  obtain ⟨f0, f1, f2, f3, f4, f5, f6⟩ := HPp4.out.fro
  simp only at c0 c1 c2 c3 c4 c5 c6
  obtain ⟨w5, hw5⟩ : ∃ w', w4.setCell ⟨w2.heap.size, 6, none⟩ (.slice ka 1 kc) = w' := ⟨_, rfl⟩
  have hgg : w4.grownBy w5 (some w2.heap.size) := by rw [← hw5]; exact grown_set1 _ _ _ _
  have HPp5 : Hid (PAt w5 w2.heap.size ⟨0, [], 0, 0, [], (none, 0, 0), ka, 1, kc⟩) := (by rw [← hw5]; exact HPp4.out.set rfl : PAt _ _ _)
  have HPr5 : Hid (PAt w5 w.heap.size PV.zero) := (HPr4.out.far hgg (by simp; omega) : PAt _ _ _)
  have HRd5 : Hid (Rdr w5 g a cap b s5) := (Rdr.new H.out HRd4.out hgg (fun j hj => by simp at hj; omega) : Rdr _ _ _ _ _ _)
  have HG5 : Hid (w.grownBy w5 (some g)) := (grown_trN HG4.out hgg (fun j hj => .inr (by simp at hj; omega)) : World.grownBy _ _ _)
  have hsz5 : w2.heap.size < w5.heap.size := Nat.lt_of_lt_of_le hsz4 hgg.size
  have HKs5 : Hid (∃ vs, RdW 7 pc w5 ka kc vs ∧ Pd.Lays (fun q => wk.heap.size ≤ q) w5 vs LL) := (by obtain ⟨vs, h1, h2⟩ := HKs4.out; exact ⟨vs, h1.far hgg (fun _ q off e => by have := HKB.out q off e; simp; omega), h2.far (fun q hq e => by simp at e; omega) hgg⟩ : ∃ vs, RdW 7 pc w5 ka kc vs ∧ Pd.Lays (fun q => wk.heap.size ≤ q) w5 vs LL)
  clear hgg
  obtain ⟨c0', c1', c2', c3', c4', c5', c6'⟩ := HPp5.out.all
  obtain ⟨f0', f1', f2', f3', f4', f5', f6'⟩ := HPp5.out.fro
  simp only at c0' c1' c2' c3' c4' c5' c6'
  obtain ⟨w6, hw6⟩ : ∃ w', w5.setCell ⟨w2.heap.size, 0, none⟩ (.int .i64 (3 : Int)) = w' := ⟨_, rfl⟩
  have hgg : w5.grownBy w6 (some w2.heap.size) := by rw [← hw6]; exact grown_set1 _ _ _ _
  have HPp6 : Hid (PAt w6 w2.heap.size ⟨3, [], 0, 0, [], (none, 0, 0), ka, 1, kc⟩) := (by rw [← hw6]; exact HPp5.out.set rfl : PAt _ _ _)
  have HPr6 : Hid (PAt w6 w.heap.size PV.zero) := (HPr5.out.far hgg (by simp; omega) : PAt _ _ _)
  have HRd6 : Hid (Rdr w6 g a cap b s5) := (Rdr.new H.out HRd5.out hgg (fun j hj => by simp at hj; omega) : Rdr _ _ _ _ _ _)
  have HG6 : Hid (w.grownBy w6 (some g)) := (grown_trN HG5.out hgg (fun j hj => .inr (by simp at hj; omega)) : World.grownBy _ _ _)
  have hsz6 : w2.heap.size < w6.heap.size := Nat.lt_of_lt_of_le hsz5 hgg.size
  have HKs6 : Hid (∃ vs, RdW 7 pc w6 ka kc vs ∧ Pd.Lays (fun q => wk.heap.size ≤ q) w6 vs LL) := (by obtain ⟨vs, h1, h2⟩ := HKs5.out; exact ⟨vs, h1.far hgg (fun _ q off e => by have := HKB.out q off e; simp; omega), h2.far (fun q hq e => by simp at e; omega) hgg⟩ : ∃ vs, RdW 7 pc w6 ka kc vs ∧ Pd.Lays (fun q => wk.heap.size ≤ q) w6 vs LL)
  clear hgg
  obtain ⟨d0, d1, d2, d3, d4, d5, d6⟩ := HPp6.out.all
  simp only at d0 d1 d2 d3 d4 d5 d6
  obtain ⟨z0, z1, z2, z3, z4, z5, z6⟩ := HPr6.out.all
  obtain ⟨y0, y1, y2, y3, y4, y5, y6⟩ := HPr6.out.fro
  simp only [PV.zero] at z0 z1 z2 z3 z4 z5 z6
  go_wp2_with fail
  have hP9 := HPr6.out.store ⟨3, [], 0, 0, [], (none, 0, 0), ka, 1, kc⟩
  have hgr := grown_pset w6 w.heap.size ⟨3, [], 0, 0, [], (none, 0, 0), ka, 1, kc⟩
  refine bodyPost_ret (v := pvv ⟨3, [], 0, 0, [], (none, 0, 0), ka, 1, kc⟩) (res_pred Tryz.results50 rfl hP9) rfl ⟨_, rfl, ?_, ?_, ?_⟩
  ·rw [HB.out]
   simp only
   rw [Pd.lay_mk]
   exact ⟨⟨⟨rfl, rfl, rfl, rfl, rfl⟩, rfl, Rd.nil _, fun h0 => by simp at h0⟩, HLN.out.symm, fun _ q off e => by have := HKB.out q off e; omega, (by obtain ⟨vs, h1, h2⟩ := HKs6.out; exact ⟨vs, h1.far hgr (fun _ q off e => by have := HKB.out q off e; simp; omega), (h2.far (fun q hq e => by simp at e; omega) hgr).mono (fun q hq => by omega)⟩)⟩
  ·rw [HB.out]
   exact Rdr.new H.out HRd6.out hgr (fun j hj => by simp at hj; omega)
  ·exact grown_trN HG6.out hgr (fun j hj => .inr (by simp at hj; omega))
end Go.Proofs.YtbdjccmlgdfapaaGreat
namespace Go.Proofs.YtbdjccmlgdfapaaGreat
open Go.RowKit
set_option linter.unusedVariables false
set_option linter.unusedSimpArgs false
set_option maxHeartbeats 16000000 in
set_option maxRecDepth 100000 in
theorem part_leaf {b : List UInt8} {f : Nat} (hP : PartC b f) (g : Nat) (a : Option Addr) (cap : Nat) (s : RS) (D : Int) (w : World) (h : Rdr w g a cap b s) (hD : D + (f + 1) = 7) (hf : (f + 1) ≤ 6) (hc : s.c + Pd.mx (f + 1) ≤ 1000000000000)
  (K : Nat) (s2 : RS) (hK : Pd.lnum b (Pd.lbeg (f + 1) s) = (K, s2)) (hk0 : K = 4 ∨ K = 5 ∨ K = 6 ∨ K = 8 ∨ K = 9 ∨ K = 10) :
  Calls Tryz.prog 50 #[.pointer (some ⟨g, 0, none⟩), .int .i64 D] w fun x w' => ∃ u, x = .returned (pvv u) ∧ Pd.Lay (fun q => w.heap.size ≤ q) (Pd.lpart b (f + 1) s).1 w' u ∧ Rdr w' g a cap b (Pd.lpart b (f + 1) s).2 ∧ w.grownBy w' (some g) := by
 have H : Hid (Rdr w g a cap b s) := h
 have hglt : g < w.heap.size := h.1.lt
 have hsc : s2.c = s.c + 1 := by have h1 := Pd.lnum_c b (Pd.lbeg (f + 1) s); rw [hK, Pd.lbeg_c] at h1; exact h1
 have hmx := Pd.mx_pos (f + 1)
 have HB0 : Hid (Pd.lpart b (f + 1) s = Pd.lbody b (Pd.lpart b f) K s2) := (by rw [Pd.lpart, hK] : Pd.lpart b (f + 1) s = Pd.lbody b (Pd.lpart b f) K s2)
 have HC : Hid (s2.c + 40 * Pd.mx f ≤ 1000000000000) := (by rw [Pd.mx] at hc; omega : s2.c + 40 * Pd.mx f ≤ 1000000000000)
 have hc1 : s.c ≤ 1000000000000 := by omega
 obtain ⟨W, hW⟩ : ∃ W, w.alloc pb0 = W := ⟨_, rfl⟩
 have hXW : Ex w W := by rw [← hW]; exact (Below.refl _ _).alloc (Nat.le_refl _) _
 have HRW : Hid (Rdr W g a cap b s) := h.below hXW
 have HPr : Hid (PAt W w.heap.size PV.zero) := (by rw [← hW]; exact PAt.new w PV.zero : PAt _ _ _)
 have hszW : w.heap.size < W.heap.size := by rw [← hW]; simp
 have HGW : Hid (w.grownBy W (some g)) := (hXW.grownBy _ : World.grownBy _ _ _)
 have HKK : Hid (Pd.lnum b (Pd.lbeg (f + 1) s) = (K, s2)) := hK
 have HD : Hid (D + (f + 1) = 7) := hD
 clear h hXW hmx hsc hK hD
 go_enter Tryz.func50, Tryz.ntmps50
 go_wp2_with fail
 go_at_call 72
 refine (begin_is g a cap b s D (f + 1) W HRW.out HD.out hf hc1).mono ?_
 rintro e w1 ⟨rfl, hR, hg⟩
 have HRd1 : Hid (Rdr w1 g a cap b (Pd.lbeg (f + 1) s)) := hR
 have HG1 : Hid (w.grownBy w1 (some g)) := (grown_tr HGW.out hg : World.grownBy _ _ _)
 have HPr1 : Hid (PAt w1 w.heap.size PV.zero) := (HPr.out.far hg (by simp; omega) : PAt _ _ _)
 have hsz1 : w.heap.size < w1.heap.size := Nat.lt_of_lt_of_le hszW hg.size
 clear hR hg
 go_wp2_with fail
 go_at_call 73
 refine (number_is g a cap b (Pd.lbeg (f + 1) s) w1 HRd1.out).mono ?_
 rintro e w2 ⟨rfl, hR, hg⟩
 rw [HKK.out] at hR ⊢
 simp only at hR ⊢
 have HG2 : Hid (w.grownBy w2 (some g)) := (grown_tr HG1.out hg : World.grownBy _ _ _)
 have hsz2 : w.heap.size < w2.heap.size := Nat.lt_of_lt_of_le hsz1 hg.size
 obtain ⟨w3, hw3⟩ : ∃ w3, w2.alloc pb0 = w3 := ⟨_, rfl⟩
 have hX3 : Ex w2 w3 := by rw [← hw3]; exact (Below.refl _ _).alloc (Nat.le_refl _) _
 have HRd3 : Hid (Rdr w3 g a cap b s2) := (hR.below hX3 : Rdr _ _ _ _ _ _)
 have HG3 : Hid (w.grownBy w3 (some g)) := (grown_tr HG2.out (hX3.grownBy _) : World.grownBy _ _ _)
 have HPr3 : Hid (PAt w3 w.heap.size PV.zero) := ((HPr1.out.far hg (by simp; omega)).below hX3 : PAt _ _ _)
 have HPp3 : Hid (PAt w3 w2.heap.size ⟨0, [], 0, 0, [], (none, 0, 0), none, 0, 0⟩) := (by rw [← hw3]; exact PAt.new w2 PV.zero : PAt _ _ _)
 have hsz3 : w2.heap.size < w3.heap.size := by rw [← hw3]; simp
 obtain ⟨c0, c1, c2, c3, c4, c5, c6⟩ := HPp3.out.all
 obtain ⟨f0, f1, f2, f3, f4, f5, f6⟩ := HPp3.out.fro
 simp only at c0 c1 c2 c3 c4 c5 c6
 clear hR hg hX3 HKK HRd1 HPr1 HRW HPr
 rcases hk0 with rfl | rfl | rfl | rfl | rfl | rfl
 ·skip
  obtain ⟨⟨cl, s4⟩, hcl⟩ : ∃ x, Pd.ltxt b 12 s2 = x := ⟨_, rfl⟩
  have Hcl : Hid (Pd.ltxt b 12 s2 = (cl, s4)) := hcl
  clear hcl
  obtain ⟨⟨V, s5⟩, hV⟩ : ∃ x, Pd.lnum b s4 = x := ⟨_, rfl⟩
  have HV : Hid (Pd.lnum b s4 = (V, s5)) := hV
  clear hV
  obtain ⟨zz, hzz⟩ : ∃ z, M.zag (V : Int) = z := ⟨_, rfl⟩
  have Hzz : Hid (M.zag (V : Int) = zz) := hzz
  clear hzz
  have HB : Hid (Pd.lpart b (f + 1) s = (Pr.mk' ⟨4, cl, zz, 0, [], []⟩ [], s5)) := (by rw [HB0.out]; unfold Pd.lbody; rw [if_neg (by omega), if_neg (by omega), if_pos (by omega)];  rw [Hcl.out]; simp only; rw [HV.out]; simp only; rw [Hzz.out]; rfl : Pd.lpart b (f + 1) s = _)
  have HC4 : Hid _ := text_is g a cap b s2 12 w3 HRd3.out (by omega)
  go_wp2_with fail
  go_at_call 76
  refine Calls.mono HC4.out ?_
  rintro e w4 ⟨rfl, hR, hg⟩
  rw [Hcl.out] at hR ⊢
  simp only at hR ⊢
  have HRd4 : Hid (Rdr w4 g a cap b s4) := hR
  have HG4 : Hid (w.grownBy w4 (some g)) := (grown_tr HG3.out hg : World.grownBy _ _ _)
  have HPp4 : Hid (PAt w4 w2.heap.size ⟨0, [], 0, 0, [], (none, 0, 0), none, 0, 0⟩) := (HPp3.out.far hg (by simp; omega) : PAt _ _ _)
  have HPr4 : Hid (PAt w4 w.heap.size PV.zero) := (HPr3.out.far hg (by simp; omega) : PAt _ _ _)
  have hsz4 : w2.heap.size < w4.heap.size := Nat.lt_of_lt_of_le hsz3 hg.size
  clear hR hg HC4
  clear c0 c1 c2 c3 c4 c5 c6 f0 f1 f2 f3 f4 f5 f6
  obtain ⟨c0, c1, c2, c3, c4, c5, c6⟩ := HPp4.out.all
  obtain ⟨f0, f1, f2, f3, f4, f5, f6⟩ := HPp4.out.fro
  simp only at c0 c1 c2 c3 c4 c5 c6
  obtain ⟨w5, hw5⟩ : ∃ w', w4.setCell ⟨w2.heap.size, 1, none⟩ (.string (str cl)) = w' := ⟨_, rfl⟩
  have hgg : w4.grownBy w5 (some w2.heap.size) := by rw [← hw5]; exact grown_set1 _ _ _ _
  have HPp5 : Hid (PAt w5 w2.heap.size ⟨0, cl, 0, 0, [], (none, 0, 0), none, 0, 0⟩) := (by rw [← hw5]; exact HPp4.out.set rfl : PAt _ _ _)
  have HPr5 : Hid (PAt w5 w.heap.size PV.zero) := (HPr4.out.far hgg (by simp; omega) : PAt _ _ _)
  have HRd5 : Hid (Rdr w5 g a cap b s4) := (Rdr.new H.out HRd4.out hgg (fun j hj => by simp at hj; omega) : Rdr _ _ _ _ _ _)
  have HG5 : Hid (w.grownBy w5 (some g)) := (grown_trN HG4.out hgg (fun j hj => .inr (by simp at hj; omega)) : World.grownBy _ _ _)
  have hsz5 : w2.heap.size < w5.heap.size := Nat.lt_of_lt_of_le hsz4 hgg.size
  clear hgg
  obtain ⟨c0', c1', c2', c3', c4', c5', c6'⟩ := HPp5.out.all
  obtain ⟨f0', f1', f2', f3', f4', f5', f6'⟩ := HPp5.out.fro
  simp only at c0' c1' c2' c3' c4' c5' c6'
  have HC6 : Hid _ := signed_is g a cap b s4 w5 HRd5.out
  go_wp2_with fail
  go_at_call 77
  refine Calls.mono HC6.out ?_
  rintro e w6 ⟨rfl, hR, hg⟩
  rw [HV.out] at hR ⊢
  simp only at hR ⊢
  rw [Hzz.out]
  have HRd6 : Hid (Rdr w6 g a cap b s5) := hR
  have HG6 : Hid (w.grownBy w6 (some g)) := (grown_tr HG5.out hg : World.grownBy _ _ _)
  have HPp6 : Hid (PAt w6 w2.heap.size ⟨0, cl, 0, 0, [], (none, 0, 0), none, 0, 0⟩) := (HPp5.out.far hg (by simp; omega) : PAt _ _ _)
  have HPr6 : Hid (PAt w6 w.heap.size PV.zero) := (HPr5.out.far hg (by simp; omega) : PAt _ _ _)
  have hsz6 : w2.heap.size < w6.heap.size := Nat.lt_of_lt_of_le hsz5 hg.size
  clear hR hg HC6
  clear c0 c1 c2 c3 c4 c5 c6 f0 f1 f2 f3 f4 f5 f6
  obtain ⟨c0, c1, c2, c3, c4, c5, c6⟩ := HPp6.out.all
  obtain ⟨f0, f1, f2, f3, f4, f5, f6⟩ := HPp6.out.fro
  simp only at c0 c1 c2 c3 c4 c5 c6
  obtain ⟨w7, hw7⟩ : ∃ w', w6.setCell ⟨w2.heap.size, 2, none⟩ (.int .i64 zz) = w' := ⟨_, rfl⟩
  have hgg : w6.grownBy w7 (some w2.heap.size) := by rw [← hw7]; exact grown_set1 _ _ _ _
  have HPp7 : Hid (PAt w7 w2.heap.size ⟨0, cl, zz, 0, [], (none, 0, 0), none, 0, 0⟩) := (by rw [← hw7]; exact HPp6.out.set rfl : PAt _ _ _)
  have HPr7 : Hid (PAt w7 w.heap.size PV.zero) := (HPr6.out.far hgg (by simp; omega) : PAt _ _ _)
  have HRd7 : Hid (Rdr w7 g a cap b s5) := (Rdr.new H.out HRd6.out hgg (fun j hj => by simp at hj; omega) : Rdr _ _ _ _ _ _)
  have HG7 : Hid (w.grownBy w7 (some g)) := (grown_trN HG6.out hgg (fun j hj => .inr (by simp at hj; omega)) : World.grownBy _ _ _)
  have hsz7 : w2.heap.size < w7.heap.size := Nat.lt_of_lt_of_le hsz6 hgg.size
  clear hgg
  obtain ⟨c0', c1', c2', c3', c4', c5', c6'⟩ := HPp7.out.all
  obtain ⟨f0', f1', f2', f3', f4', f5', f6'⟩ := HPp7.out.fro
  simp only at c0' c1' c2' c3' c4' c5' c6'
  obtain ⟨w8, hw8⟩ : ∃ w', w7.setCell ⟨w2.heap.size, 0, none⟩ (.int .i64 (4 : Int)) = w' := ⟨_, rfl⟩
  have hgg : w7.grownBy w8 (some w2.heap.size) := by rw [← hw8]; exact grown_set1 _ _ _ _
  have HPp8 : Hid (PAt w8 w2.heap.size ⟨4, cl, zz, 0, [], (none, 0, 0), none, 0, 0⟩) := (by rw [← hw8]; exact HPp7.out.set rfl : PAt _ _ _)
  have HPr8 : Hid (PAt w8 w.heap.size PV.zero) := (HPr7.out.far hgg (by simp; omega) : PAt _ _ _)
  have HRd8 : Hid (Rdr w8 g a cap b s5) := (Rdr.new H.out HRd7.out hgg (fun j hj => by simp at hj; omega) : Rdr _ _ _ _ _ _)
  have HG8 : Hid (w.grownBy w8 (some g)) := (grown_trN HG7.out hgg (fun j hj => .inr (by simp at hj; omega)) : World.grownBy _ _ _)
  have hsz8 : w2.heap.size < w8.heap.size := Nat.lt_of_lt_of_le hsz7 hgg.size
  clear hgg
  obtain ⟨d0, d1, d2, d3, d4, d5, d6⟩ := HPp8.out.all
  simp only at d0 d1 d2 d3 d4 d5 d6
  obtain ⟨z0, z1, z2, z3, z4, z5, z6⟩ := HPr8.out.all
  obtain ⟨y0, y1, y2, y3, y4, y5, y6⟩ := HPr8.out.fro
  simp only [PV.zero] at z0 z1 z2 z3 z4 z5 z6
  go_wp2_with fail
  have hP9 := HPr8.out.store ⟨4, cl, zz, 0, [], (none, 0, 0), none, 0, 0⟩
  have hgr := grown_pset w8 w.heap.size ⟨4, cl, zz, 0, [], (none, 0, 0), none, 0, 0⟩
  refine bodyPost_ret (v := pvv ⟨4, cl, zz, 0, [], (none, 0, 0), none, 0, 0⟩) (res_pred Tryz.results50 rfl hP9) rfl ⟨_, rfl, ?_, ?_, ?_⟩
  ·rw [HB.out]
   simp only
   rw [Pd.lay_mk]
   exact ⟨⟨⟨rfl, rfl, rfl, rfl, rfl⟩, rfl, Rd.nil _, fun h0 => by simp at h0⟩, rfl, fun h0 => by simp at h0, [], RdW.nil _, Pd.Lays.nil _ _⟩
  ·rw [HB.out]
   exact Rdr.new H.out HRd8.out hgr (fun j hj => by simp at hj; omega)
  ·exact grown_trN HG8.out hgr (fun j hj => .inr (by simp at hj; omega))
 ·skip
  obtain ⟨⟨cl, s4⟩, hcl⟩ : ∃ x, Pd.ltxt b 12 s2 = x := ⟨_, rfl⟩
  have Hcl : Hid (Pd.ltxt b 12 s2 = (cl, s4)) := hcl
  clear hcl
  obtain ⟨⟨V, s5⟩, hV⟩ : ∃ x, Pd.lnum b s4 = x := ⟨_, rfl⟩
  have HV : Hid (Pd.lnum b s4 = (V, s5)) := hV
  clear hV
  obtain ⟨zz, hzz⟩ : ∃ z, M.zag (V : Int) = z := ⟨_, rfl⟩
  have Hzz : Hid (M.zag (V : Int) = zz) := hzz
  clear hzz
  have HB : Hid (Pd.lpart b (f + 1) s = (Pr.mk' ⟨5, cl, zz, 0, [], []⟩ [], s5)) := (by rw [HB0.out]; unfold Pd.lbody; rw [if_neg (by omega), if_neg (by omega), if_pos (by omega)];  rw [Hcl.out]; simp only; rw [HV.out]; simp only; rw [Hzz.out]; rfl : Pd.lpart b (f + 1) s = _)
  have HC4 : Hid _ := text_is g a cap b s2 12 w3 HRd3.out (by omega)
  go_wp2_with fail
  go_at_call 76
  refine Calls.mono HC4.out ?_
  rintro e w4 ⟨rfl, hR, hg⟩
  rw [Hcl.out] at hR ⊢
  simp only at hR ⊢
  have HRd4 : Hid (Rdr w4 g a cap b s4) := hR
  have HG4 : Hid (w.grownBy w4 (some g)) := (grown_tr HG3.out hg : World.grownBy _ _ _)
  have HPp4 : Hid (PAt w4 w2.heap.size ⟨0, [], 0, 0, [], (none, 0, 0), none, 0, 0⟩) := (HPp3.out.far hg (by simp; omega) : PAt _ _ _)
  have HPr4 : Hid (PAt w4 w.heap.size PV.zero) := (HPr3.out.far hg (by simp; omega) : PAt _ _ _)
  have hsz4 : w2.heap.size < w4.heap.size := Nat.lt_of_lt_of_le hsz3 hg.size
  clear hR hg HC4
  clear c0 c1 c2 c3 c4 c5 c6 f0 f1 f2 f3 f4 f5 f6
  obtain ⟨c0, c1, c2, c3, c4, c5, c6⟩ := HPp4.out.all
  obtain ⟨f0, f1, f2, f3, f4, f5, f6⟩ := HPp4.out.fro
  simp only at c0 c1 c2 c3 c4 c5 c6
  obtain ⟨w5, hw5⟩ : ∃ w', w4.setCell ⟨w2.heap.size, 1, none⟩ (.string (str cl)) = w' := ⟨_, rfl⟩
  have hgg : w4.grownBy w5 (some w2.heap.size) := by rw [← hw5]; exact grown_set1 _ _ _ _
  have HPp5 : Hid (PAt w5 w2.heap.size ⟨0, cl, 0, 0, [], (none, 0, 0), none, 0, 0⟩) := (by rw [← hw5]; exact HPp4.out.set rfl : PAt _ _ _)
  have HPr5 : Hid (PAt w5 w.heap.size PV.zero) := (HPr4.out.far hgg (by simp; omega) : PAt _ _ _)
  have HRd5 : Hid (Rdr w5 g a cap b s4) := (Rdr.new H.out HRd4.out hgg (fun j hj => by simp at hj; omega) : Rdr _ _ _ _ _ _)
  have HG5 : Hid (w.grownBy w5 (some g)) := (grown_trN HG4.out hgg (fun j hj => .inr (by simp at hj; omega)) : World.grownBy _ _ _)
  have hsz5 : w2.heap.size < w5.heap.size := Nat.lt_of_lt_of_le hsz4 hgg.size
  clear hgg
  obtain ⟨c0', c1', c2', c3', c4', c5', c6'⟩ := HPp5.out.all
  obtain ⟨f0', f1', f2', f3', f4', f5', f6'⟩ := HPp5.out.fro
  simp only at c0' c1' c2' c3' c4' c5' c6'
  have HC6 : Hid _ := signed_is g a cap b s4 w5 HRd5.out
  go_wp2_with fail
  go_at_call 77
  refine Calls.mono HC6.out ?_
  rintro e w6 ⟨rfl, hR, hg⟩
  rw [HV.out] at hR ⊢
  simp only at hR ⊢
  rw [Hzz.out]
  have HRd6 : Hid (Rdr w6 g a cap b s5) := hR
  have HG6 : Hid (w.grownBy w6 (some g)) := (grown_tr HG5.out hg : World.grownBy _ _ _)
  have HPp6 : Hid (PAt w6 w2.heap.size ⟨0, cl, 0, 0, [], (none, 0, 0), none, 0, 0⟩) := (HPp5.out.far hg (by simp; omega) : PAt _ _ _)
  have HPr6 : Hid (PAt w6 w.heap.size PV.zero) := (HPr5.out.far hg (by simp; omega) : PAt _ _ _)
  have hsz6 : w2.heap.size < w6.heap.size := Nat.lt_of_lt_of_le hsz5 hg.size
  clear hR hg HC6
  clear c0 c1 c2 c3 c4 c5 c6 f0 f1 f2 f3 f4 f5 f6
  obtain ⟨c0, c1, c2, c3, c4, c5, c6⟩ := HPp6.out.all
  obtain ⟨f0, f1, f2, f3, f4, f5, f6⟩ := HPp6.out.fro
  simp only at c0 c1 c2 c3 c4 c5 c6
  obtain ⟨w7, hw7⟩ : ∃ w', w6.setCell ⟨w2.heap.size, 2, none⟩ (.int .i64 zz) = w' := ⟨_, rfl⟩
  have hgg : w6.grownBy w7 (some w2.heap.size) := by rw [← hw7]; exact grown_set1 _ _ _ _
  have HPp7 : Hid (PAt w7 w2.heap.size ⟨0, cl, zz, 0, [], (none, 0, 0), none, 0, 0⟩) := (by rw [← hw7]; exact HPp6.out.set rfl : PAt _ _ _)
  have HPr7 : Hid (PAt w7 w.heap.size PV.zero) := (HPr6.out.far hgg (by simp; omega) : PAt _ _ _)
  have HRd7 : Hid (Rdr w7 g a cap b s5) := (Rdr.new H.out HRd6.out hgg (fun j hj => by simp at hj; omega) : Rdr _ _ _ _ _ _)
  have HG7 : Hid (w.grownBy w7 (some g)) := (grown_trN HG6.out hgg (fun j hj => .inr (by simp at hj; omega)) : World.grownBy _ _ _)
  have hsz7 : w2.heap.size < w7.heap.size := Nat.lt_of_lt_of_le hsz6 hgg.size
  clear hgg
  obtain ⟨c0', c1', c2', c3', c4', c5', c6'⟩ := HPp7.out.all
  obtain ⟨f0', f1', f2', f3', f4', f5', f6'⟩ := HPp7.out.fro
  simp only at c0' c1' c2' c3' c4' c5' c6'
  obtain ⟨w8, hw8⟩ : ∃ w', w7.setCell ⟨w2.heap.size, 0, none⟩ (.int .i64 (5 : Int)) = w' := ⟨_, rfl⟩
  have hgg : w7.grownBy w8 (some w2.heap.size) := by rw [← hw8]; exact grown_set1 _ _ _ _
  have HPp8 : Hid (PAt w8 w2.heap.size ⟨5, cl, zz, 0, [], (none, 0, 0), none, 0, 0⟩) := (by rw [← hw8]; exact HPp7.out.set rfl : PAt _ _ _)
  have HPr8 : Hid (PAt w8 w.heap.size PV.zero) := (HPr7.out.far hgg (by simp; omega) : PAt _ _ _)
  have HRd8 : Hid (Rdr w8 g a cap b s5) := (Rdr.new H.out HRd7.out hgg (fun j hj => by simp at hj; omega) : Rdr _ _ _ _ _ _)
  have HG8 : Hid (w.grownBy w8 (some g)) := (grown_trN HG7.out hgg (fun j hj => .inr (by simp at hj; omega)) : World.grownBy _ _ _)
  have hsz8 : w2.heap.size < w8.heap.size := Nat.lt_of_lt_of_le hsz7 hgg.size
  clear hgg
  obtain ⟨d0, d1, d2, d3, d4, d5, d6⟩ := HPp8.out.all
  simp only at d0 d1 d2 d3 d4 d5 d6
  obtain ⟨z0, z1, z2, z3, z4, z5, z6⟩ := HPr8.out.all
  obtain ⟨y0, y1, y2, y3, y4, y5, y6⟩ := HPr8.out.fro
  simp only [PV.zero] at z0 z1 z2 z3 z4 z5 z6
  go_wp2_with fail
  have hP9 := HPr8.out.store ⟨5, cl, zz, 0, [], (none, 0, 0), none, 0, 0⟩
  have hgr := grown_pset w8 w.heap.size ⟨5, cl, zz, 0, [], (none, 0, 0), none, 0, 0⟩
  refine bodyPost_ret (v := pvv ⟨5, cl, zz, 0, [], (none, 0, 0), none, 0, 0⟩) (res_pred Tryz.results50 rfl hP9) rfl ⟨_, rfl, ?_, ?_, ?_⟩
  ·rw [HB.out]
   simp only
   rw [Pd.lay_mk]
   exact ⟨⟨⟨rfl, rfl, rfl, rfl, rfl⟩, rfl, Rd.nil _, fun h0 => by simp at h0⟩, rfl, fun h0 => by simp at h0, [], RdW.nil _, Pd.Lays.nil _ _⟩
  ·rw [HB.out]
   exact Rdr.new H.out HRd8.out hgr (fun j hj => by simp at hj; omega)
  ·exact grown_trN HG8.out hgr (fun j hj => .inr (by simp at hj; omega))
 ·skip
  obtain ⟨⟨cl, s4⟩, hcl⟩ : ∃ x, Pd.ltxt b 12 s2 = x := ⟨_, rfl⟩
  have Hcl : Hid (Pd.ltxt b 12 s2 = (cl, s4)) := hcl
  clear hcl
  obtain ⟨⟨tx, s5⟩, htx⟩ : ∃ x, Pd.ltxt b 40 s4 = x := ⟨_, rfl⟩
  have Htx : Hid (Pd.ltxt b 40 s4 = (tx, s5)) := htx
  clear htx
  have HB : Hid (Pd.lpart b (f + 1) s = (Pr.mk' ⟨6, cl, 0, 0, tx, []⟩ [], s5)) := (by rw [HB0.out]; unfold Pd.lbody; rw [if_neg (by omega), if_neg (by omega), if_neg (by omega), if_pos (by omega)];  rw [Hcl.out]; simp only; rw [Htx.out]; rfl : Pd.lpart b (f + 1) s = _)
  have HC4 : Hid _ := text_is g a cap b s2 12 w3 HRd3.out (by omega)
  go_wp2_with fail
  go_at_call 76
  refine Calls.mono HC4.out ?_
  rintro e w4 ⟨rfl, hR, hg⟩
  rw [Hcl.out] at hR ⊢
  simp only at hR ⊢
  have HRd4 : Hid (Rdr w4 g a cap b s4) := hR
  have HG4 : Hid (w.grownBy w4 (some g)) := (grown_tr HG3.out hg : World.grownBy _ _ _)
  have HPp4 : Hid (PAt w4 w2.heap.size ⟨0, [], 0, 0, [], (none, 0, 0), none, 0, 0⟩) := (HPp3.out.far hg (by simp; omega) : PAt _ _ _)
  have HPr4 : Hid (PAt w4 w.heap.size PV.zero) := (HPr3.out.far hg (by simp; omega) : PAt _ _ _)
  have hsz4 : w2.heap.size < w4.heap.size := Nat.lt_of_lt_of_le hsz3 hg.size
  clear hR hg HC4
  clear c0 c1 c2 c3 c4 c5 c6 f0 f1 f2 f3 f4 f5 f6
  obtain ⟨c0, c1, c2, c3, c4, c5, c6⟩ := HPp4.out.all
  obtain ⟨f0, f1, f2, f3, f4, f5, f6⟩ := HPp4.out.fro
  simp only at c0 c1 c2 c3 c4 c5 c6
  obtain ⟨w5, hw5⟩ : ∃ w', w4.setCell ⟨w2.heap.size, 1, none⟩ (.string (str cl)) = w' := ⟨_, rfl⟩
  have hgg : w4.grownBy w5 (some w2.heap.size) := by rw [← hw5]; exact grown_set1 _ _ _ _
  have HPp5 : Hid (PAt w5 w2.heap.size ⟨0, cl, 0, 0, [], (none, 0, 0), none, 0, 0⟩) := (by rw [← hw5]; exact HPp4.out.set rfl : PAt _ _ _)
  have HPr5 : Hid (PAt w5 w.heap.size PV.zero) := (HPr4.out.far hgg (by simp; omega) : PAt _ _ _)
  have HRd5 : Hid (Rdr w5 g a cap b s4) := (Rdr.new H.out HRd4.out hgg (fun j hj => by simp at hj; omega) : Rdr _ _ _ _ _ _)
  have HG5 : Hid (w.grownBy w5 (some g)) := (grown_trN HG4.out hgg (fun j hj => .inr (by simp at hj; omega)) : World.grownBy _ _ _)
  have hsz5 : w2.heap.size < w5.heap.size := Nat.lt_of_lt_of_le hsz4 hgg.size
  clear hgg
  obtain ⟨c0', c1', c2', c3', c4', c5', c6'⟩ := HPp5.out.all
  obtain ⟨f0', f1', f2', f3', f4', f5', f6'⟩ := HPp5.out.fro
  simp only at c0' c1' c2' c3' c4' c5' c6'
  have HC6 : Hid _ := text_is g a cap b s4 40 w5 HRd5.out (by omega)
  go_wp2_with fail
  go_at_call 76
  refine Calls.mono HC6.out ?_
  rintro e w6 ⟨rfl, hR, hg⟩
  rw [Htx.out] at hR ⊢
  simp only at hR ⊢
  have HRd6 : Hid (Rdr w6 g a cap b s5) := hR
  have HG6 : Hid (w.grownBy w6 (some g)) := (grown_tr HG5.out hg : World.grownBy _ _ _)
  have HPp6 : Hid (PAt w6 w2.heap.size ⟨0, cl, 0, 0, [], (none, 0, 0), none, 0, 0⟩) := (HPp5.out.far hg (by simp; omega) : PAt _ _ _)
  have HPr6 : Hid (PAt w6 w.heap.size PV.zero) := (HPr5.out.far hg (by simp; omega) : PAt _ _ _)
  have hsz6 : w2.heap.size < w6.heap.size := Nat.lt_of_lt_of_le hsz5 hg.size
  clear hR hg HC6
  clear c0 c1 c2 c3 c4 c5 c6 f0 f1 f2 f3 f4 f5 f6
  obtain ⟨c0, c1, c2, c3, c4, c5, c6⟩ := HPp6.out.all
  obtain ⟨f0, f1, f2, f3, f4, f5, f6⟩ := HPp6.out.fro
  simp only at c0 c1 c2 c3 c4 c5 c6
  obtain ⟨w7, hw7⟩ : ∃ w', w6.setCell ⟨w2.heap.size, 4, none⟩ (.string (str tx)) = w' := ⟨_, rfl⟩
  have hgg : w6.grownBy w7 (some w2.heap.size) := by rw [← hw7]; exact grown_set1 _ _ _ _
  have HPp7 : Hid (PAt w7 w2.heap.size ⟨0, cl, 0, 0, tx, (none, 0, 0), none, 0, 0⟩) := (by rw [← hw7]; exact HPp6.out.set rfl : PAt _ _ _)
  have HPr7 : Hid (PAt w7 w.heap.size PV.zero) := (HPr6.out.far hgg (by simp; omega) : PAt _ _ _)
  have HRd7 : Hid (Rdr w7 g a cap b s5) := (Rdr.new H.out HRd6.out hgg (fun j hj => by simp at hj; omega) : Rdr _ _ _ _ _ _)
  have HG7 : Hid (w.grownBy w7 (some g)) := (grown_trN HG6.out hgg (fun j hj => .inr (by simp at hj; omega)) : World.grownBy _ _ _)
  have hsz7 : w2.heap.size < w7.heap.size := Nat.lt_of_lt_of_le hsz6 hgg.size
  clear hgg
  obtain ⟨c0', c1', c2', c3', c4', c5', c6'⟩ := HPp7.out.all
  obtain ⟨f0', f1', f2', f3', f4', f5', f6'⟩ := HPp7.out.fro
  simp only at c0' c1' c2' c3' c4' c5' c6'
  obtain ⟨w8, hw8⟩ : ∃ w', w7.setCell ⟨w2.heap.size, 0, none⟩ (.int .i64 (6 : Int)) = w' := ⟨_, rfl⟩
  have hgg : w7.grownBy w8 (some w2.heap.size) := by rw [← hw8]; exact grown_set1 _ _ _ _
  have HPp8 : Hid (PAt w8 w2.heap.size ⟨6, cl, 0, 0, tx, (none, 0, 0), none, 0, 0⟩) := (by rw [← hw8]; exact HPp7.out.set rfl : PAt _ _ _)
  have HPr8 : Hid (PAt w8 w.heap.size PV.zero) := (HPr7.out.far hgg (by simp; omega) : PAt _ _ _)
  have HRd8 : Hid (Rdr w8 g a cap b s5) := (Rdr.new H.out HRd7.out hgg (fun j hj => by simp at hj; omega) : Rdr _ _ _ _ _ _)
  have HG8 : Hid (w.grownBy w8 (some g)) := (grown_trN HG7.out hgg (fun j hj => .inr (by simp at hj; omega)) : World.grownBy _ _ _)
  have hsz8 : w2.heap.size < w8.heap.size := Nat.lt_of_lt_of_le hsz7 hgg.size
  clear hgg
  obtain ⟨d0, d1, d2, d3, d4, d5, d6⟩ := HPp8.out.all
  simp only at d0 d1 d2 d3 d4 d5 d6
  obtain ⟨z0, z1, z2, z3, z4, z5, z6⟩ := HPr8.out.all
  obtain ⟨y0, y1, y2, y3, y4, y5, y6⟩ := HPr8.out.fro
  simp only [PV.zero] at z0 z1 z2 z3 z4 z5 z6
  go_wp2_with fail
  have hP9 := HPr8.out.store ⟨6, cl, 0, 0, tx, (none, 0, 0), none, 0, 0⟩
  have hgr := grown_pset w8 w.heap.size ⟨6, cl, 0, 0, tx, (none, 0, 0), none, 0, 0⟩
  refine bodyPost_ret (v := pvv ⟨6, cl, 0, 0, tx, (none, 0, 0), none, 0, 0⟩) (res_pred Tryz.results50 rfl hP9) rfl ⟨_, rfl, ?_, ?_, ?_⟩
  ·rw [HB.out]
   simp only
   rw [Pd.lay_mk]
   exact ⟨⟨⟨rfl, rfl, rfl, rfl, rfl⟩, rfl, Rd.nil _, fun h0 => by simp at h0⟩, rfl, fun h0 => by simp at h0, [], RdW.nil _, Pd.Lays.nil _ _⟩
  ·rw [HB.out]
   exact Rdr.new H.out HRd8.out hgr (fun j hj => by simp at hj; omega)
  ·exact grown_trN HG8.out hgr (fun j hj => .inr (by simp at hj; omega))
 ·skip
  obtain ⟨⟨cl, s4⟩, hcl⟩ : ∃ x, Pd.ltxt b 12 s2 = x := ⟨_, rfl⟩
  have Hcl : Hid (Pd.ltxt b 12 s2 = (cl, s4)) := hcl
  clear hcl
  obtain ⟨⟨tx, s5⟩, htx⟩ : ∃ x, Pd.ltxt b 40 s4 = x := ⟨_, rfl⟩
  have Htx : Hid (Pd.ltxt b 40 s4 = (tx, s5)) := htx
  clear htx
  have HB : Hid (Pd.lpart b (f + 1) s = (Pr.mk' ⟨8, cl, 0, 0, tx, []⟩ [], s5)) := (by rw [HB0.out]; unfold Pd.lbody; rw [if_neg (by omega), if_neg (by omega), if_neg (by omega), if_pos (by omega)];  rw [Hcl.out]; simp only; rw [Htx.out]; rfl : Pd.lpart b (f + 1) s = _)
  have HC4 : Hid _ := text_is g a cap b s2 12 w3 HRd3.out (by omega)
  go_wp2_with fail
  go_at_call 76
  refine Calls.mono HC4.out ?_
  rintro e w4 ⟨rfl, hR, hg⟩
  rw [Hcl.out] at hR ⊢
  simp only at hR ⊢
  have HRd4 : Hid (Rdr w4 g a cap b s4) := hR
  have HG4 : Hid (w.grownBy w4 (some g)) := (grown_tr HG3.out hg : World.grownBy _ _ _)
  have HPp4 : Hid (PAt w4 w2.heap.size ⟨0, [], 0, 0, [], (none, 0, 0), none, 0, 0⟩) := (HPp3.out.far hg (by simp; omega) : PAt _ _ _)
  have HPr4 : Hid (PAt w4 w.heap.size PV.zero) := (HPr3.out.far hg (by simp; omega) : PAt _ _ _)
  have hsz4 : w2.heap.size < w4.heap.size := Nat.lt_of_lt_of_le hsz3 hg.size
  clear hR hg HC4
  clear c0 c1 c2 c3 c4 c5 c6 f0 f1 f2 f3 f4 f5 f6
  obtain ⟨c0, c1, c2, c3, c4, c5, c6⟩ := HPp4.out.all
  obtain ⟨f0, f1, f2, f3, f4, f5, f6⟩ := HPp4.out.fro
  simp only at c0 c1 c2 c3 c4 c5 c6
  obtain ⟨w5, hw5⟩ : ∃ w', w4.setCell ⟨w2.heap.size, 1, none⟩ (.string (str cl)) = w' := ⟨_, rfl⟩
  have hgg : w4.grownBy w5 (some w2.heap.size) := by rw [← hw5]; exact grown_set1 _ _ _ _
  have HPp5 : Hid (PAt w5 w2.heap.size ⟨0, cl, 0, 0, [], (none, 0, 0), none, 0, 0⟩) := (by rw [← hw5]; exact HPp4.out.set rfl : PAt _ _ _)
  have HPr5 : Hid (PAt w5 w.heap.size PV.zero) := (HPr4.out.far hgg (by simp; omega) : PAt _ _ _)
  have HRd5 : Hid (Rdr w5 g a cap b s4) := (Rdr.new H.out HRd4.out hgg (fun j hj => by simp at hj; omega) : Rdr _ _ _ _ _ _)
  have HG5 : Hid (w.grownBy w5 (some g)) := (grown_trN HG4.out hgg (fun j hj => .inr (by simp at hj; omega)) : World.grownBy _ _ _)
  have hsz5 : w2.heap.size < w5.heap.size := Nat.lt_of_lt_of_le hsz4 hgg.size
  clear hgg
  obtain ⟨c0', c1', c2', c3', c4', c5', c6'⟩ := HPp5.out.all
  obtain ⟨f0', f1', f2', f3', f4', f5', f6'⟩ := HPp5.out.fro
  simp only at c0' c1' c2' c3' c4' c5' c6'
  have HC6 : Hid _ := text_is g a cap b s4 40 w5 HRd5.out (by omega)
  go_wp2_with fail
  go_at_call 76
  refine Calls.mono HC6.out ?_
  rintro e w6 ⟨rfl, hR, hg⟩
  rw [Htx.out] at hR ⊢
  simp only at hR ⊢
  have HRd6 : Hid (Rdr w6 g a cap b s5) := hR
  have HG6 : Hid (w.grownBy w6 (some g)) := (grown_tr HG5.out hg : World.grownBy _ _ _)
  have HPp6 : Hid (PAt w6 w2.heap.size ⟨0, cl, 0, 0, [], (none, 0, 0), none, 0, 0⟩) := (HPp5.out.far hg (by simp; omega) : PAt _ _ _)
  have HPr6 : Hid (PAt w6 w.heap.size PV.zero) := (HPr5.out.far hg (by simp; omega) : PAt _ _ _)
  have hsz6 : w2.heap.size < w6.heap.size := Nat.lt_of_lt_of_le hsz5 hg.size
  clear hR hg HC6
  clear c0 c1 c2 c3 c4 c5 c6 f0 f1 f2 f3 f4 f5 f6
  obtain ⟨c0, c1, c2, c3, c4, c5, c6⟩ := HPp6.out.all
  obtain ⟨f0, f1, f2, f3, f4, f5, f6⟩ := HPp6.out.fro
  simp only at c0 c1 c2 c3 c4 c5 c6
  obtain ⟨w7, hw7⟩ : ∃ w', w6.setCell ⟨w2.heap.size, 4, none⟩ (.string (str tx)) = w' := ⟨_, rfl⟩
  have hgg : w6.grownBy w7 (some w2.heap.size) := by rw [← hw7]; exact grown_set1 _ _ _ _
  have HPp7 : Hid (PAt w7 w2.heap.size ⟨0, cl, 0, 0, tx, (none, 0, 0), none, 0, 0⟩) := (by rw [← hw7]; exact HPp6.out.set rfl : PAt _ _ _)
  have HPr7 : Hid (PAt w7 w.heap.size PV.zero) := (HPr6.out.far hgg (by simp; omega) : PAt _ _ _)
  have HRd7 : Hid (Rdr w7 g a cap b s5) := (Rdr.new H.out HRd6.out hgg (fun j hj => by simp at hj; omega) : Rdr _ _ _ _ _ _)
  have HG7 : Hid (w.grownBy w7 (some g)) := (grown_trN HG6.out hgg (fun j hj => .inr (by simp at hj; omega)) : World.grownBy _ _ _)
  have hsz7 : w2.heap.size < w7.heap.size := Nat.lt_of_lt_of_le hsz6 hgg.size
  clear hgg
  obtain ⟨c0', c1', c2', c3', c4', c5', c6'⟩ := HPp7.out.all
  obtain ⟨f0', f1', f2', f3', f4', f5', f6'⟩ := HPp7.out.fro
  simp only at c0' c1' c2' c3' c4' c5' c6'
  obtain ⟨w8, hw8⟩ : ∃ w', w7.setCell ⟨w2.heap.size, 0, none⟩ (.int .i64 (8 : Int)) = w' := ⟨_, rfl⟩
  have hgg : w7.grownBy w8 (some w2.heap.size) := by rw [← hw8]; exact grown_set1 _ _ _ _
  have HPp8 : Hid (PAt w8 w2.heap.size ⟨8, cl, 0, 0, tx, (none, 0, 0), none, 0, 0⟩) := (by rw [← hw8]; exact HPp7.out.set rfl : PAt _ _ _)
  have HPr8 : Hid (PAt w8 w.heap.size PV.zero) := (HPr7.out.far hgg (by simp; omega) : PAt _ _ _)
  have HRd8 : Hid (Rdr w8 g a cap b s5) := (Rdr.new H.out HRd7.out hgg (fun j hj => by simp at hj; omega) : Rdr _ _ _ _ _ _)
  have HG8 : Hid (w.grownBy w8 (some g)) := (grown_trN HG7.out hgg (fun j hj => .inr (by simp at hj; omega)) : World.grownBy _ _ _)
  have hsz8 : w2.heap.size < w8.heap.size := Nat.lt_of_lt_of_le hsz7 hgg.size
  clear hgg
  obtain ⟨d0, d1, d2, d3, d4, d5, d6⟩ := HPp8.out.all
  simp only at d0 d1 d2 d3 d4 d5 d6
  obtain ⟨z0, z1, z2, z3, z4, z5, z6⟩ := HPr8.out.all
  obtain ⟨y0, y1, y2, y3, y4, y5, y6⟩ := HPr8.out.fro
  simp only [PV.zero] at z0 z1 z2 z3 z4 z5 z6
  go_wp2_with fail
  have hP9 := HPr8.out.store ⟨8, cl, 0, 0, tx, (none, 0, 0), none, 0, 0⟩
  have hgr := grown_pset w8 w.heap.size ⟨8, cl, 0, 0, tx, (none, 0, 0), none, 0, 0⟩
  refine bodyPost_ret (v := pvv ⟨8, cl, 0, 0, tx, (none, 0, 0), none, 0, 0⟩) (res_pred Tryz.results50 rfl hP9) rfl ⟨_, rfl, ?_, ?_, ?_⟩
  ·rw [HB.out]
   simp only
   rw [Pd.lay_mk]
   exact ⟨⟨⟨rfl, rfl, rfl, rfl, rfl⟩, rfl, Rd.nil _, fun h0 => by simp at h0⟩, rfl, fun h0 => by simp at h0, [], RdW.nil _, Pd.Lays.nil _ _⟩
  ·rw [HB.out]
   exact Rdr.new H.out HRd8.out hgr (fun j hj => by simp at hj; omega)
  ·exact grown_trN HG8.out hgr (fun j hj => .inr (by simp at hj; omega))
 ·skip
  obtain ⟨⟨cl, s5⟩, hcl⟩ : ∃ x, Pd.ltxt b 12 s2 = x := ⟨_, rfl⟩
  have Hcl : Hid (Pd.ltxt b 12 s2 = (cl, s5)) := hcl
  clear hcl
  have HB : Hid (Pd.lpart b (f + 1) s = (Pr.mk' ⟨9, cl, 0, 0, [], []⟩ [], s5)) := (by rw [HB0.out]; unfold Pd.lbody; rw [if_neg (by omega), if_neg (by omega), if_neg (by omega), if_neg (by omega), if_neg (by omega), if_pos rfl];  rw [Hcl.out] : Pd.lpart b (f + 1) s = _)
  have HC4 : Hid _ := text_is g a cap b s2 12 w3 HRd3.out (by omega)
  go_wp2_with fail
  go_at_call 76
  refine Calls.mono HC4.out ?_
  rintro e w4 ⟨rfl, hR, hg⟩
  rw [Hcl.out] at hR ⊢
  simp only at hR ⊢
  have HRd4 : Hid (Rdr w4 g a cap b s5) := hR
  have HG4 : Hid (w.grownBy w4 (some g)) := (grown_tr HG3.out hg : World.grownBy _ _ _)
  have HPp4 : Hid (PAt w4 w2.heap.size ⟨0, [], 0, 0, [], (none, 0, 0), none, 0, 0⟩) := (HPp3.out.far hg (by simp; omega) : PAt _ _ _)
  have HPr4 : Hid (PAt w4 w.heap.size PV.zero) := (HPr3.out.far hg (by simp; omega) : PAt _ _ _)
  have hsz4 : w2.heap.size < w4.heap.size := Nat.lt_of_lt_of_le hsz3 hg.size
  clear hR hg HC4
  clear c0 c1 c2 c3 c4 c5 c6 f0 f1 f2 f3 f4 f5 f6
  obtain ⟨c0, c1, c2, c3, c4, c5, c6⟩ := HPp4.out.all
  obtain ⟨f0, f1, f2, f3, f4, f5, f6⟩ := HPp4.out.fro
  simp only at c0 c1 c2 c3 c4 c5 c6
  obtain ⟨w5, hw5⟩ : ∃ w', w4.setCell ⟨w2.heap.size, 1, none⟩ (.string (str cl)) = w' := ⟨_, rfl⟩
  have hgg : w4.grownBy w5 (some w2.heap.size) := by rw [← hw5]; exact grown_set1 _ _ _ _
  have HPp5 : Hid (PAt w5 w2.heap.size ⟨0, cl, 0, 0, [], (none, 0, 0), none, 0, 0⟩) := (by rw [← hw5]; exact HPp4.out.set rfl : PAt _ _ _)
  have HPr5 : Hid (PAt w5 w.heap.size PV.zero) := (HPr4.out.far hgg (by simp; omega) : PAt _ _ _)
  have HRd5 : Hid (Rdr w5 g a cap b s5) := (Rdr.new H.out HRd4.out hgg (fun j hj => by simp at hj; omega) : Rdr _ _ _ _ _ _)
  have HG5 : Hid (w.grownBy w5 (some g)) := (grown_trN HG4.out hgg (fun j hj => .inr (by simp at hj; omega)) : World.grownBy _ _ _)
  have hsz5 : w2.heap.size < w5.heap.size := Nat.lt_of_lt_of_le hsz4 hgg.size
  clear hgg
  obtain ⟨c0', c1', c2', c3', c4', c5', c6'⟩ := HPp5.out.all
  obtain ⟨f0', f1', f2', f3', f4', f5', f6'⟩ := HPp5.out.fro
  simp only at c0' c1' c2' c3' c4' c5' c6'
  obtain ⟨w6, hw6⟩ : ∃ w', w5.setCell ⟨w2.heap.size, 0, none⟩ (.int .i64 (9 : Int)) = w' := ⟨_, rfl⟩
  have hgg : w5.grownBy w6 (some w2.heap.size) := by rw [← hw6]; exact grown_set1 _ _ _ _
  have HPp6 : Hid (PAt w6 w2.heap.size ⟨9, cl, 0, 0, [], (none, 0, 0), none, 0, 0⟩) := (by rw [← hw6]; exact HPp5.out.set rfl : PAt _ _ _)
  have HPr6 : Hid (PAt w6 w.heap.size PV.zero) := (HPr5.out.far hgg (by simp; omega) : PAt _ _ _)
  have HRd6 : Hid (Rdr w6 g a cap b s5) := (Rdr.new H.out HRd5.out hgg (fun j hj => by simp at hj; omega) : Rdr _ _ _ _ _ _)
  have HG6 : Hid (w.grownBy w6 (some g)) := (grown_trN HG5.out hgg (fun j hj => .inr (by simp at hj; omega)) : World.grownBy _ _ _)
  have hsz6 : w2.heap.size < w6.heap.size := Nat.lt_of_lt_of_le hsz5 hgg.size
  clear hgg
  obtain ⟨d0, d1, d2, d3, d4, d5, d6⟩ := HPp6.out.all
  simp only at d0 d1 d2 d3 d4 d5 d6
  obtain ⟨z0, z1, z2, z3, z4, z5, z6⟩ := HPr6.out.all
  obtain ⟨y0, y1, y2, y3, y4, y5, y6⟩ := HPr6.out.fro
  simp only [PV.zero] at z0 z1 z2 z3 z4 z5 z6
  go_wp2_with fail
  have hP9 := HPr6.out.store ⟨9, cl, 0, 0, [], (none, 0, 0), none, 0, 0⟩
  have hgr := grown_pset w6 w.heap.size ⟨9, cl, 0, 0, [], (none, 0, 0), none, 0, 0⟩
  refine bodyPost_ret (v := pvv ⟨9, cl, 0, 0, [], (none, 0, 0), none, 0, 0⟩) (res_pred Tryz.results50 rfl hP9) rfl ⟨_, rfl, ?_, ?_, ?_⟩
  ·rw [HB.out]
   simp only
   rw [Pd.lay_mk]
   exact ⟨⟨⟨rfl, rfl, rfl, rfl, rfl⟩, rfl, Rd.nil _, fun h0 => by simp at h0⟩, rfl, fun h0 => by simp at h0, [], RdW.nil _, Pd.Lays.nil _ _⟩
  ·rw [HB.out]
   exact Rdr.new H.out HRd6.out hgr (fun j hj => by simp at hj; omega)
  ·exact grown_trN HG6.out hgr (fun j hj => .inr (by simp at hj; omega))
 ·skip
  obtain ⟨⟨V, s4⟩, hV⟩ : ∃ x, Pd.lnum b s2 = x := ⟨_, rfl⟩
  have HV : Hid (Pd.lnum b s2 = (V, s4)) := hV
  clear hV
  obtain ⟨zz, hzz⟩ : ∃ z, M.zag (V : Int) = z := ⟨_, rfl⟩
  have Hzz : Hid (M.zag (V : Int) = zz) := hzz
  clear hzz
  obtain ⟨⟨V2, s5⟩, hV2⟩ : ∃ x, Pd.lnum b s4 = x := ⟨_, rfl⟩
  have HV2 : Hid (Pd.lnum b s4 = (V2, s5)) := hV2
  clear hV2
  obtain ⟨yy, hyy⟩ : ∃ z, M.zag (V2 : Int) = z := ⟨_, rfl⟩
  have Hyy : Hid (M.zag (V2 : Int) = yy) := hyy
  clear hyy
  have HB : Hid (Pd.lpart b (f + 1) s = (Pr.mk' ⟨10, [], zz, yy, [], []⟩ [], s5)) := (by rw [HB0.out]; unfold Pd.lbody; rw [if_neg (by omega), if_neg (by omega), if_neg (by omega), if_neg (by omega), if_neg (by omega), if_neg (by omega), if_pos rfl];  rw [HV.out]; simp only; rw [HV2.out]; simp only; rw [Hzz.out, Hyy.out] : Pd.lpart b (f + 1) s = _)
  have HC4 : Hid _ := signed_is g a cap b s2 w3 HRd3.out
  go_wp2_with fail
  go_at_call 77
  refine Calls.mono HC4.out ?_
  rintro e w4 ⟨rfl, hR, hg⟩
  rw [HV.out] at hR ⊢
  simp only at hR ⊢
  rw [Hzz.out]
  have HRd4 : Hid (Rdr w4 g a cap b s4) := hR
  have HG4 : Hid (w.grownBy w4 (some g)) := (grown_tr HG3.out hg : World.grownBy _ _ _)
  have HPp4 : Hid (PAt w4 w2.heap.size ⟨0, [], 0, 0, [], (none, 0, 0), none, 0, 0⟩) := (HPp3.out.far hg (by simp; omega) : PAt _ _ _)
  have HPr4 : Hid (PAt w4 w.heap.size PV.zero) := (HPr3.out.far hg (by simp; omega) : PAt _ _ _)
  have hsz4 : w2.heap.size < w4.heap.size := Nat.lt_of_lt_of_le hsz3 hg.size
  clear hR hg HC4
  clear c0 c1 c2 c3 c4 c5 c6 f0 f1 f2 f3 f4 f5 f6
  obtain ⟨c0, c1, c2, c3, c4, c5, c6⟩ := HPp4.out.all
  obtain ⟨f0, f1, f2, f3, f4, f5, f6⟩ := HPp4.out.fro
  simp only at c0 c1 c2 c3 c4 c5 c6
  obtain ⟨w5, hw5⟩ : ∃ w', w4.setCell ⟨w2.heap.size, 2, none⟩ (.int .i64 zz) = w' := ⟨_, rfl⟩
  have hgg : w4.grownBy w5 (some w2.heap.size) := by rw [← hw5]; exact grown_set1 _ _ _ _
  have HPp5 : Hid (PAt w5 w2.heap.size ⟨0, [], zz, 0, [], (none, 0, 0), none, 0, 0⟩) := (by rw [← hw5]; exact HPp4.out.set rfl : PAt _ _ _)
  have HPr5 : Hid (PAt w5 w.heap.size PV.zero) := (HPr4.out.far hgg (by simp; omega) : PAt _ _ _)
  have HRd5 : Hid (Rdr w5 g a cap b s4) := (Rdr.new H.out HRd4.out hgg (fun j hj => by simp at hj; omega) : Rdr _ _ _ _ _ _)
  have HG5 : Hid (w.grownBy w5 (some g)) := (grown_trN HG4.out hgg (fun j hj => .inr (by simp at hj; omega)) : World.grownBy _ _ _)
  have hsz5 : w2.heap.size < w5.heap.size := Nat.lt_of_lt_of_le hsz4 hgg.size
  clear hgg
  obtain ⟨c0', c1', c2', c3', c4', c5', c6'⟩ := HPp5.out.all
  obtain ⟨f0', f1', f2', f3', f4', f5', f6'⟩ := HPp5.out.fro
  simp only at c0' c1' c2' c3' c4' c5' c6'
  have HC6 : Hid _ := signed_is g a cap b s4 w5 HRd5.out
  go_wp2_with fail
  go_at_call 77
  refine Calls.mono HC6.out ?_
  rintro e w6 ⟨rfl, hR, hg⟩
  rw [HV2.out] at hR ⊢
  simp only at hR ⊢
  rw [Hyy.out]
  have HRd6 : Hid (Rdr w6 g a cap b s5) := hR
  have HG6 : Hid (w.grownBy w6 (some g)) := (grown_tr HG5.out hg : World.grownBy _ _ _)
  have HPp6 : Hid (PAt w6 w2.heap.size ⟨0, [], zz, 0, [], (none, 0, 0), none, 0, 0⟩) := (HPp5.out.far hg (by simp; omega) : PAt _ _ _)
  have HPr6 : Hid (PAt w6 w.heap.size PV.zero) := (HPr5.out.far hg (by simp; omega) : PAt _ _ _)
  have hsz6 : w2.heap.size < w6.heap.size := Nat.lt_of_lt_of_le hsz5 hg.size
  clear hR hg HC6
  clear c0 c1 c2 c3 c4 c5 c6 f0 f1 f2 f3 f4 f5 f6
  obtain ⟨c0, c1, c2, c3, c4, c5, c6⟩ := HPp6.out.all
  obtain ⟨f0, f1, f2, f3, f4, f5, f6⟩ := HPp6.out.fro
  simp only at c0 c1 c2 c3 c4 c5 c6
  obtain ⟨w7, hw7⟩ : ∃ w', w6.setCell ⟨w2.heap.size, 3, none⟩ (.int .i64 yy) = w' := ⟨_, rfl⟩
  have hgg : w6.grownBy w7 (some w2.heap.size) := by rw [← hw7]; exact grown_set1 _ _ _ _
  have HPp7 : Hid (PAt w7 w2.heap.size ⟨0, [], zz, yy, [], (none, 0, 0), none, 0, 0⟩) := (by rw [← hw7]; exact HPp6.out.set rfl : PAt _ _ _)
  have HPr7 : Hid (PAt w7 w.heap.size PV.zero) := (HPr6.out.far hgg (by simp; omega) : PAt _ _ _)
  have HRd7 : Hid (Rdr w7 g a cap b s5) := (Rdr.new H.out HRd6.out hgg (fun j hj => by simp at hj; omega) : Rdr _ _ _ _ _ _)
  have HG7 : Hid (w.grownBy w7 (some g)) := (grown_trN HG6.out hgg (fun j hj => .inr (by simp at hj; omega)) : World.grownBy _ _ _)
  have hsz7 : w2.heap.size < w7.heap.size := Nat.lt_of_lt_of_le hsz6 hgg.size
  clear hgg
  obtain ⟨c0', c1', c2', c3', c4', c5', c6'⟩ := HPp7.out.all
  obtain ⟨f0', f1', f2', f3', f4', f5', f6'⟩ := HPp7.out.fro
  simp only at c0' c1' c2' c3' c4' c5' c6'
  obtain ⟨w8, hw8⟩ : ∃ w', w7.setCell ⟨w2.heap.size, 0, none⟩ (.int .i64 (10 : Int)) = w' := ⟨_, rfl⟩
  have hgg : w7.grownBy w8 (some w2.heap.size) := by rw [← hw8]; exact grown_set1 _ _ _ _
  have HPp8 : Hid (PAt w8 w2.heap.size ⟨10, [], zz, yy, [], (none, 0, 0), none, 0, 0⟩) := (by rw [← hw8]; exact HPp7.out.set rfl : PAt _ _ _)
  have HPr8 : Hid (PAt w8 w.heap.size PV.zero) := (HPr7.out.far hgg (by simp; omega) : PAt _ _ _)
  have HRd8 : Hid (Rdr w8 g a cap b s5) := (Rdr.new H.out HRd7.out hgg (fun j hj => by simp at hj; omega) : Rdr _ _ _ _ _ _)
  have HG8 : Hid (w.grownBy w8 (some g)) := (grown_trN HG7.out hgg (fun j hj => .inr (by simp at hj; omega)) : World.grownBy _ _ _)
  have hsz8 : w2.heap.size < w8.heap.size := Nat.lt_of_lt_of_le hsz7 hgg.size
  clear hgg
  obtain ⟨d0, d1, d2, d3, d4, d5, d6⟩ := HPp8.out.all
  simp only at d0 d1 d2 d3 d4 d5 d6
  obtain ⟨z0, z1, z2, z3, z4, z5, z6⟩ := HPr8.out.all
  obtain ⟨y0, y1, y2, y3, y4, y5, y6⟩ := HPr8.out.fro
  simp only [PV.zero] at z0 z1 z2 z3 z4 z5 z6
  go_wp2_with fail
  have hP9 := HPr8.out.store ⟨10, [], zz, yy, [], (none, 0, 0), none, 0, 0⟩
  have hgr := grown_pset w8 w.heap.size ⟨10, [], zz, yy, [], (none, 0, 0), none, 0, 0⟩
  refine bodyPost_ret (v := pvv ⟨10, [], zz, yy, [], (none, 0, 0), none, 0, 0⟩) (res_pred Tryz.results50 rfl hP9) rfl ⟨_, rfl, ?_, ?_, ?_⟩
  ·rw [HB.out]
   simp only
   rw [Pd.lay_mk]
   exact ⟨⟨⟨rfl, rfl, rfl, rfl, rfl⟩, rfl, Rd.nil _, fun h0 => by simp at h0⟩, rfl, fun h0 => by simp at h0, [], RdW.nil _, Pd.Lays.nil _ _⟩
  ·rw [HB.out]
   exact Rdr.new H.out HRd8.out hgr (fun j hj => by simp at hj; omega)
  ·exact grown_trN HG8.out hgr (fun j hj => .inr (by simp at hj; omega))
end Go.Proofs.YtbdjccmlgdfapaaGreat
namespace Go.Proofs.YtbdjccmlgdfapaaGreat
open Go.RowKit
set_option linter.unusedVariables false
set_option linter.unusedSimpArgs false
set_option maxHeartbeats 16000000 in
set_option maxRecDepth 100000 in
theorem part_set {b : List UInt8} {f : Nat} (hP : PartC b f) (g : Nat) (a : Option Addr) (cap : Nat) (s : RS) (D : Int) (w : World) (h : Rdr w g a cap b s) (hD : D + (f + 1) = 7) (hf : (f + 1) ≤ 6) (hc : s.c + Pd.mx (f + 1) ≤ 1000000000000)
  (K : Nat) (s2 : RS) (hK : Pd.lnum b (Pd.lbeg (f + 1) s) = (K, s2)) (hk0 : K = 7) :
  Calls Tryz.prog 50 #[.pointer (some ⟨g, 0, none⟩), .int .i64 D] w fun x w' => ∃ u, x = .returned (pvv u) ∧ Pd.Lay (fun q => w.heap.size ≤ q) (Pd.lpart b (f + 1) s).1 w' u ∧ Rdr w' g a cap b (Pd.lpart b (f + 1) s).2 ∧ w.grownBy w' (some g) := by
 have H : Hid (Rdr w g a cap b s) := h
 have hglt : g < w.heap.size := h.1.lt
 have hsc : s2.c = s.c + 1 := by have h1 := Pd.lnum_c b (Pd.lbeg (f + 1) s); rw [hK, Pd.lbeg_c] at h1; exact h1
 have hmx := Pd.mx_pos (f + 1)
 have HB0 : Hid (Pd.lpart b (f + 1) s = Pd.lbody b (Pd.lpart b f) K s2) := (by rw [Pd.lpart, hK] : Pd.lpart b (f + 1) s = Pd.lbody b (Pd.lpart b f) K s2)
 have HC : Hid (s2.c + 40 * Pd.mx f ≤ 1000000000000) := (by rw [Pd.mx] at hc; omega : s2.c + 40 * Pd.mx f ≤ 1000000000000)
 have hc1 : s.c ≤ 1000000000000 := by omega
 obtain ⟨W, hW⟩ : ∃ W, w.alloc pb0 = W := ⟨_, rfl⟩
 have hXW : Ex w W := by rw [← hW]; exact (Below.refl _ _).alloc (Nat.le_refl _) _
 have HRW : Hid (Rdr W g a cap b s) := h.below hXW
 have HPr : Hid (PAt W w.heap.size PV.zero) := (by rw [← hW]; exact PAt.new w PV.zero : PAt _ _ _)
 have hszW : w.heap.size < W.heap.size := by rw [← hW]; simp
 have HGW : Hid (w.grownBy W (some g)) := (hXW.grownBy _ : World.grownBy _ _ _)
 have HKK : Hid (Pd.lnum b (Pd.lbeg (f + 1) s) = (K, s2)) := hK
 have HD : Hid (D + (f + 1) = 7) := hD
 clear h hXW hmx hsc hK hD
 go_enter Tryz.func50, Tryz.ntmps50
 go_wp2_with fail
 go_at_call 72
 refine (begin_is g a cap b s D (f + 1) W HRW.out HD.out hf hc1).mono ?_
 rintro e w1 ⟨rfl, hR, hg⟩
 have HRd1 : Hid (Rdr w1 g a cap b (Pd.lbeg (f + 1) s)) := hR
 have HG1 : Hid (w.grownBy w1 (some g)) := (grown_tr HGW.out hg : World.grownBy _ _ _)
 have HPr1 : Hid (PAt w1 w.heap.size PV.zero) := (HPr.out.far hg (by simp; omega) : PAt _ _ _)
 have hsz1 : w.heap.size < w1.heap.size := Nat.lt_of_lt_of_le hszW hg.size
 clear hR hg
 go_wp2_with fail
 go_at_call 73
 refine (number_is g a cap b (Pd.lbeg (f + 1) s) w1 HRd1.out).mono ?_
 rintro e w2 ⟨rfl, hR, hg⟩
 rw [HKK.out] at hR ⊢
 simp only at hR ⊢
 have HG2 : Hid (w.grownBy w2 (some g)) := (grown_tr HG1.out hg : World.grownBy _ _ _)
 have hsz2 : w.heap.size < w2.heap.size := Nat.lt_of_lt_of_le hsz1 hg.size
 obtain ⟨w3, hw3⟩ : ∃ w3, w2.alloc pb0 = w3 := ⟨_, rfl⟩
 have hX3 : Ex w2 w3 := by rw [← hw3]; exact (Below.refl _ _).alloc (Nat.le_refl _) _
 have HRd3 : Hid (Rdr w3 g a cap b s2) := (hR.below hX3 : Rdr _ _ _ _ _ _)
 have HG3 : Hid (w.grownBy w3 (some g)) := (grown_tr HG2.out (hX3.grownBy _) : World.grownBy _ _ _)
 have HPr3 : Hid (PAt w3 w.heap.size PV.zero) := ((HPr1.out.far hg (by simp; omega)).below hX3 : PAt _ _ _)
 have HPp3 : Hid (PAt w3 w2.heap.size ⟨0, [], 0, 0, [], (none, 0, 0), none, 0, 0⟩) := (by rw [← hw3]; exact PAt.new w2 PV.zero : PAt _ _ _)
 have hsz3 : w2.heap.size < w3.heap.size := by rw [← hw3]; simp
 obtain ⟨c0, c1, c2, c3, c4, c5, c6⟩ := HPp3.out.all
 obtain ⟨f0, f1, f2, f3, f4, f5, f6⟩ := HPp3.out.fro
 simp only at c0 c1 c2 c3 c4 c5 c6
 clear hR hg hX3 HKK HRd1 HPr1 HRW HPr
 subst hk0
 obtain ⟨⟨cl, s4⟩, hcl⟩ : ∃ x, Pd.ltxt b 12 s2 = x := ⟨_, rfl⟩
 have Hcl : Hid (Pd.ltxt b 12 s2 = (cl, s4)) := hcl
 clear hcl
 obtain ⟨⟨n, s5⟩, hn⟩ : ∃ x, Pd.lcnt b 8 s4 = x := ⟨_, rfl⟩
 have hn8 : n ≤ 8 := by have := Pd.lcnt_le b 8 s4; rw [hn] at this; exact this
 have HCn : Hid (Pd.lcnt b 8 s4 = (n, s5)) := hn
 obtain ⟨⟨LL, s6⟩, hl⟩ : ∃ x, Pd.ltxts b n s5 = x := ⟨_, rfl⟩
 have HLL : Hid (Pd.ltxts b n s5 = (LL, s6)) := hl
 have HLN : Hid (LL.length = n) := (by have := Pd.ltxts_len b s5 n; rw [hl] at this; exact this : LL.length = n)
 have HB : Hid (Pd.lpart b (f + 1) s = (Pr.mk' ⟨7, cl, 0, 0, [], LL⟩ [], s6)) := (by rw [HB0.out]; unfold Pd.lbody; rw [if_neg (by omega), if_neg (by omega), if_neg (by omega), if_neg (by omega), if_pos rfl];  rw [Hcl.out]; simp only; rw [HCn.out]; simp only; rw [HLL.out] : Pd.lpart b (f + 1) s = _)
 clear hn hl
 have HC4 : Hid _ := text_is g a cap b s2 12 w3 HRd3.out (by omega)
 go_wp2_with fail
 go_at_call 76
 refine Calls.mono HC4.out ?_
 rintro e w4 ⟨rfl, hR, hg⟩
 rw [Hcl.out] at hR ⊢
 simp only at hR ⊢
 have HRd4 : Hid (Rdr w4 g a cap b s4) := hR
 have HG4 : Hid (w.grownBy w4 (some g)) := (grown_tr HG3.out hg : World.grownBy _ _ _)
 have HPp4 : Hid (PAt w4 w2.heap.size ⟨0, [], 0, 0, [], (none, 0, 0), none, 0, 0⟩) := (HPp3.out.far hg (by simp; omega) : PAt _ _ _)
 have HPr4 : Hid (PAt w4 w.heap.size PV.zero) := (HPr3.out.far hg (by simp; omega) : PAt _ _ _)
 have hsz4 : w2.heap.size < w4.heap.size := Nat.lt_of_lt_of_le hsz3 hg.size
 clear hR hg HC4
 clear c0 c1 c2 c3 c4 c5 c6 f0 f1 f2 f3 f4 f5 f6
 obtain ⟨c0, c1, c2, c3, c4, c5, c6⟩ := HPp4.out.all
 obtain ⟨f0, f1, f2, f3, f4, f5, f6⟩ := HPp4.out.fro
 simp only at c0 c1 c2 c3 c4 c5 c6
 obtain ⟨w5, hw5⟩ : ∃ w', w4.setCell ⟨w2.heap.size, 1, none⟩ (.string (str cl)) = w' := ⟨_, rfl⟩
 have hgg : w4.grownBy w5 (some w2.heap.size) := by rw [← hw5]; exact grown_set1 _ _ _ _
 have HPp5 : Hid (PAt w5 w2.heap.size ⟨0, cl, 0, 0, [], (none, 0, 0), none, 0, 0⟩) := (by rw [← hw5]; exact HPp4.out.set rfl : PAt _ _ _)
 have HPr5 : Hid (PAt w5 w.heap.size PV.zero) := (HPr4.out.far hgg (by simp; omega) : PAt _ _ _)
 have HRd5 : Hid (Rdr w5 g a cap b s4) := (Rdr.new H.out HRd4.out hgg (fun j hj => by simp at hj; omega) : Rdr _ _ _ _ _ _)
 have HG5 : Hid (w.grownBy w5 (some g)) := (grown_trN HG4.out hgg (fun j hj => .inr (by simp at hj; omega)) : World.grownBy _ _ _)
 have hsz5 : w2.heap.size < w5.heap.size := Nat.lt_of_lt_of_le hsz4 hgg.size
 clear hgg
 obtain ⟨c0', c1', c2', c3', c4', c5', c6'⟩ := HPp5.out.all
 obtain ⟨f0', f1', f2', f3', f4', f5', f6'⟩ := HPp5.out.fro
 simp only at c0' c1' c2' c3' c4' c5' c6'
 have HC6 : Hid _ := count_is g a cap b s4 8 8 w5 HRd5.out rfl (by omega)
 go_wp2_with fail
 go_at_call 75
 refine Calls.mono HC6.out ?_
 rintro e w6 ⟨rfl, hR, hg⟩
 rw [HCn.out] at hR ⊢
 simp only at hR ⊢
 have HRd6 : Hid (Rdr w6 g a cap b s5) := hR
 have HG6 : Hid (w.grownBy w6 (some g)) := (grown_tr HG5.out hg : World.grownBy _ _ _)
 have HPp6 : Hid (PAt w6 w2.heap.size ⟨0, cl, 0, 0, [], (none, 0, 0), none, 0, 0⟩) := (HPp5.out.far hg (by simp; omega) : PAt _ _ _)
 have HPr6 : Hid (PAt w6 w.heap.size PV.zero) := (HPr5.out.far hg (by simp; omega) : PAt _ _ _)
 have hsz6 : w2.heap.size < w6.heap.size := Nat.lt_of_lt_of_le hsz5 hg.size
 clear hR hg HC6
 clear c0 c1 c2 c3 c4 c5 c6 f0 f1 f2 f3 f4 f5 f6
 obtain ⟨c0, c1, c2, c3, c4, c5, c6⟩ := HPp6.out.all
 obtain ⟨f0, f1, f2, f3, f4, f5, f6⟩ := HPp6.out.fro
 simp only at c0 c1 c2 c3 c4 c5 c6
 obtain ⟨wk, hwk⟩ : ∃ wk, wk = w6 := ⟨_, rfl⟩
 have hszk : w2.heap.size < wk.heap.size := by rw [hwk]; exact hsz6
 have HC7 : Hid _ := texts_is g a cap b s5 n w6 HRd6.out (by omega)
 go_wp2_with fail
 go_at_call 78
 refine Calls.mono HC7.out ?_
 rintro e w7 ⟨ka, kc, rfl, hV, hKB, hR, hg⟩
 rw [HLL.out] at hV hR
 simp only at hV hR
 have HRd7 : Hid (Rdr w7 g a cap b s6) := hR
 have HKs7 : Hid (Rd st w7 ka kc LL) := hV
 have HKB : Hid (∀ q off, ka = some ⟨q, off, none⟩ → wk.heap.size ≤ q ∧ q < w7.heap.size) := (by rw [hwk]; exact hKB : ∀ q off, ka = some ⟨q, off, none⟩ → wk.heap.size ≤ q ∧ q < w7.heap.size)
 clear hV hKB hwk
 have HG7 : Hid (w.grownBy w7 (some g)) := (grown_tr HG6.out hg : World.grownBy _ _ _)
 have HPp7 : Hid (PAt w7 w2.heap.size ⟨0, cl, 0, 0, [], (none, 0, 0), none, 0, 0⟩) := (HPp6.out.far hg (by simp; omega) : PAt _ _ _)
 have HPr7 : Hid (PAt w7 w.heap.size PV.zero) := (HPr6.out.far hg (by simp; omega) : PAt _ _ _)
 have hsz7 : w2.heap.size < w7.heap.size := Nat.lt_of_lt_of_le hsz6 hg.size
 clear hR hg HC7
 clear c0 c1 c2 c3 c4 c5 c6 f0 f1 f2 f3 f4 f5 f6
 obtain ⟨c0, c1, c2, c3, c4, c5, c6⟩ := HPp7.out.all
 obtain ⟨f0, f1, f2, f3, f4, f5, f6⟩ := HPp7.out.fro
 simp only at c0 c1 c2 c3 c4 c5 c6
 obtain ⟨w8, hw8⟩ : ∃ w', w7.setCell ⟨w2.heap.size, 5, none⟩ (.slice ka n kc) = w' := ⟨_, rfl⟩
 have hgg : w7.grownBy w8 (some w2.heap.size) := by rw [← hw8]; exact grown_set1 _ _ _ _
 have HPp8 : Hid (PAt w8 w2.heap.size ⟨0, cl, 0, 0, [], (ka, n, kc), none, 0, 0⟩) := (by rw [← hw8]; exact HPp7.out.set rfl : PAt _ _ _)
 have HPr8 : Hid (PAt w8 w.heap.size PV.zero) := (HPr7.out.far hgg (by simp; omega) : PAt _ _ _)
 have HRd8 : Hid (Rdr w8 g a cap b s6) := (Rdr.new H.out HRd7.out hgg (fun j hj => by simp at hj; omega) : Rdr _ _ _ _ _ _)
 have HG8 : Hid (w.grownBy w8 (some g)) := (grown_trN HG7.out hgg (fun j hj => .inr (by simp at hj; omega)) : World.grownBy _ _ _)
 have hsz8 : w2.heap.size < w8.heap.size := Nat.lt_of_lt_of_le hsz7 hgg.size
 have HKs8 : Hid (Rd st w8 ka kc LL) := (rd_far HKs7.out hgg (fun _ q off e => by have := (HKB.out q off e).1; simp; omega) : Rd st _ _ _ _)
 clear hgg
 obtain ⟨c0', c1', c2', c3', c4', c5', c6'⟩ := HPp8.out.all
 obtain ⟨f0', f1', f2', f3', f4', f5', f6'⟩ := HPp8.out.fro
 simp only at c0' c1' c2' c3' c4' c5' c6'
 obtain ⟨w9, hw9⟩ : ∃ w', w8.setCell ⟨w2.heap.size, 0, none⟩ (.int .i64 (7 : Int)) = w' := ⟨_, rfl⟩
 have hgg : w8.grownBy w9 (some w2.heap.size) := by rw [← hw9]; exact grown_set1 _ _ _ _
 have HPp9 : Hid (PAt w9 w2.heap.size ⟨7, cl, 0, 0, [], (ka, n, kc), none, 0, 0⟩) := (by rw [← hw9]; exact HPp8.out.set rfl : PAt _ _ _)
 have HPr9 : Hid (PAt w9 w.heap.size PV.zero) := (HPr8.out.far hgg (by simp; omega) : PAt _ _ _)
 have HRd9 : Hid (Rdr w9 g a cap b s6) := (Rdr.new H.out HRd8.out hgg (fun j hj => by simp at hj; omega) : Rdr _ _ _ _ _ _)
 have HG9 : Hid (w.grownBy w9 (some g)) := (grown_trN HG8.out hgg (fun j hj => .inr (by simp at hj; omega)) : World.grownBy _ _ _)
 have hsz9 : w2.heap.size < w9.heap.size := Nat.lt_of_lt_of_le hsz8 hgg.size
 have HKs9 : Hid (Rd st w9 ka kc LL) := (rd_far HKs8.out hgg (fun _ q off e => by have := (HKB.out q off e).1; simp; omega) : Rd st _ _ _ _)
 clear hgg
 obtain ⟨d0, d1, d2, d3, d4, d5, d6⟩ := HPp9.out.all
 simp only at d0 d1 d2 d3 d4 d5 d6
 obtain ⟨z0, z1, z2, z3, z4, z5, z6⟩ := HPr9.out.all
 obtain ⟨y0, y1, y2, y3, y4, y5, y6⟩ := HPr9.out.fro
 simp only [PV.zero] at z0 z1 z2 z3 z4 z5 z6
 go_wp2_with fail
 have hP9 := HPr9.out.store ⟨7, cl, 0, 0, [], (ka, n, kc), none, 0, 0⟩
 have hgr := grown_pset w9 w.heap.size ⟨7, cl, 0, 0, [], (ka, n, kc), none, 0, 0⟩
 refine bodyPost_ret (v := pvv ⟨7, cl, 0, 0, [], (ka, n, kc), none, 0, 0⟩) (res_pred Tryz.results50 rfl hP9) rfl ⟨_, rfl, ?_, ?_, ?_⟩
 ·rw [HB.out]
  simp only
  rw [Pd.lay_mk]
  exact ⟨⟨⟨rfl, rfl, rfl, rfl, rfl⟩, HLN.out.symm, rd_far HKs9.out hgr (fun _ q off e => by have := (HKB.out q off e).1; simp; omega), fun _ q off e => by have := (HKB.out q off e).1; omega⟩, rfl, fun h0 => by simp at h0, [], RdW.nil _, Pd.Lays.nil _ _⟩
 ·rw [HB.out]
  exact Rdr.new H.out HRd9.out hgr (fun j hj => by simp at hj; omega)
 ·exact grown_trN HG9.out hgr (fun j hj => .inr (by simp at hj; omega))
end Go.Proofs.YtbdjccmlgdfapaaGreat
namespace Go.Proofs.YtbdjccmlgdfapaaGreat
open Go.RowKit
set_option linter.unusedVariables false
set_option linter.unusedSimpArgs false
theorem part_is (b : List UInt8) : ∀ f, f ≤ 6 → PartC b f
 | 0, _ => by
  intro g a cap s D w h hD hc
  obtain ⟨⟨K, s2⟩, hK⟩ : ∃ x, Pd.lnum b (Pd.lbeg 0 s) = x := ⟨_, rfl⟩
  have hy : (Pd.lbeg 0 s).y ≠ 0 := by
   unfold Pd.lbeg Pd.refu
   rw [if_pos rfl]
   split
   ·simp
   ·rename_i hh; exact hh
  have hK0 : K = 0 := by rw [Pd.lnum_y hy] at hK; simp only [Prod.mk.injEq] at hK; exact hK.1.symm
  exact part_zero (f := 0) g a cap s D w h hD (by omega) hc K s2 hK (by omega) (by omega)
 | f + 1, hf => by
  have ih := part_is b f (by omega)
  intro g a cap s D w h hD hc
  obtain ⟨⟨K, s2⟩, hK⟩ : ∃ x, Pd.lnum b (Pd.lbeg (f + 1) s) = x := ⟨_, rfl⟩
  have hKl : K < 18446744073709551616 := by have := Pd.lnum_lt b (Pd.lbeg (f + 1) s); rw [hK] at this; exact this
  by_cases h1 : K < 1 ∨ 10 < K
  ·exact part_none ih g a cap s D w h hD hf hc K s2 hK h1 hKl
  by_cases h3 : K = 1 ∨ K = 2 ∨ K = 3
  ·exact part_kids ih g a cap s D w h hD hf hc K s2 hK h3
  by_cases h7 : K = 7
  ·exact part_set ih g a cap s D w h hD hf hc K s2 hK h7
  ·exact part_leaf ih g a cap s D w h hD hf hc K s2 hK (by omega)
end Go.Proofs.YtbdjccmlgdfapaaGreat
namespace Go.Proofs.YtbdjccmlgdfapaaGreat
set_option linter.unusedVariables false
set_option linter.unusedSimpArgs false
namespace Pd
theorem ltxt_len (b : List UInt8) (m : Nat) (s : RS) : (ltxt b (m : Int) s).1.length ≤ m := by
 unfold ltxt
 split
 ·unfold M.getText
  split
  ·simp
  split
  ·simp
  split
  ·simp
  ·rename_i h _
   simp only [List.length_take]
   omega
 ·simp
theorem ltxts_each (b : List UInt8) (s : RS) : ∀ n, ∀ t ∈ (ltxts b n s).1, t.length ≤ 40
 | 0 => by simp [ltxts]
 | n + 1 => by
  intro t ht
  rw [ltxts] at ht
  rcases List.mem_append.1 ht with ht | ht
  ·exact ltxts_each b s n t ht
  ·rw [List.mem_singleton] at ht
   subst ht
   exact ltxt_len b 40 _
theorem lcnt_le' (b : List UInt8) (m : Nat) (s : RS) : (lcnt b m s).1 ≤ m := by
 unfold lcnt
 split
 ·exact Nat.zero_le _
 ·omega
theorem lkids_fine {R : RS → Pr × RS} (hR : ∀ s, Fine (R s).1) (s : RS) : ∀ n, (lkids R n s).1.length = n ∧ ∀ x ∈ (lkids R n s).1, Fine x
 | 0 => by simp [lkids]
 | n + 1 => by
  obtain ⟨h1, h2⟩ := lkids_fine hR s n
  rw [lkids]
  refine ⟨by simp [h1], fun x hx => ?_⟩
  rcases List.mem_append.1 hx with hx | hx
  ·exact h2 x hx
  ·rw [List.mem_singleton] at hx
   subst hx
   exact hR _
theorem in_small {k : Nat} (h : k ≤ 10) : In64 (k : Int) := by unfold In64; omega
theorem wrap_in (n : Int) : In64 (IntKind.i64.wrap n) := by
 unfold In64
 simp only [IntKind.wrap, IntKind.bits, IntKind.signed]
 simp
 omega
theorem fit_hk {k : Int} (h : In64 k) : HdFit (hk k) := ⟨h, in0, in0, by simp [hk], by simp [hk], by simp [hk], by simp [hk]⟩
theorem lbody_fine {b : List UInt8} {R : RS → Pr × RS} (hR : ∀ s, Fine (R s).1) (K : Nat) (s : RS) : Fine (lbody b R K s).1 := by
 unfold lbody
 split
 ·rw [fine_mk]
  obtain ⟨h1, h2⟩ := lkids_fine hR (lcnt b 40 s).2 (lcnt b 40 s).1
  have h3 := lcnt_le' b 40 s
  exact ⟨fit_hk (in_small (by omega)), by omega, h2⟩
 split
 ·rw [fine_mk]
  obtain ⟨h1, h2⟩ := lkids_fine hR s 1
  exact ⟨fit_hk (by unfold In64; omega), by omega, h2⟩
 have hc : (ltxt b 12 s).1.length ≤ 12 := ltxt_len b 12 s
 split
 ·rw [fine_mk]
  exact ⟨⟨in_small (by omega), Rw.zag_in (lnum_lt b _), in0, by simp only; omega, by simp, by simp, by simp⟩, by simp, by simp⟩
 split
 ·rw [fine_mk]
  have h2 : (ltxt b 40 (ltxt b 12 s).2).1.length ≤ 40 := ltxt_len b 40 _
  exact ⟨⟨in_small (by omega), in0, in0, by simp only; omega, by simp only; omega, by simp, by simp⟩, by simp, by simp⟩
 split
 ·rw [fine_mk]
  have h3 := lcnt_le' b 8 (ltxt b 12 s).2
  refine ⟨⟨by unfold In64; simp, in0, in0, by simp only; omega, by simp, ?_, ?_⟩, by simp, by simp⟩
  ·simp only
   rw [ltxts_len]
   omega
  ·intro t ht
   have := ltxts_each b (lcnt b 8 (ltxt b 12 s).2).2 _ t ht
   omega
 split
 ·rw [fine_mk]
  exact ⟨⟨by unfold In64; simp, in0, in0, by simp only; omega, by simp, by simp, by simp⟩, by simp, by simp⟩
 split
 ·rw [fine_mk]
  exact ⟨⟨by unfold In64; simp, Rw.zag_in (lnum_lt b _), Rw.zag_in (lnum_lt b _), by simp, by simp, by simp, by simp⟩, by simp, by simp⟩
 ·rw [fine_mk]
  exact ⟨fit_hk (wrap_in _), by simp, by simp⟩
theorem fine_zero : Fine zero := by
 unfold zero
 rw [fine_mk]
 exact ⟨fit_hk in0, by simp, by simp⟩
theorem lpart_fine {b : List UInt8} : ∀ f (s : RS), Fine (lpart b f s).1
 | 0, s => lbody_fine (fun _ => fine_zero) _ _
 | f + 1, s => lbody_fine (fun s => lpart_fine f s) _ _
end Pd
end Go.Proofs.YtbdjccmlgdfapaaGreat
namespace Go.Proofs.YtbdjccmlgdfapaaGreat
open Go.RowKit
set_option linter.unusedVariables false
set_option linter.unusedSimpArgs false
set_option maxHeartbeats 1000000 in
theorem run_build0 {o : Oper} (ρ : Operand → Value) (w : World) (ho : o.op = .build 32 #[]) : (execOp ρ o).run Tryz.prog w = .ok (.value (pvv PV.zero)) w := by
 simp [execOp, ho, go_sem, pvv, sv, PV.zero]
 rfl
theorem Rg.good_build0 {ops : Array Oper} {specs : List Rg.Spec} {a0 : Act} {C : World → Prop} {o : Oper} (ho : o.op = .build 32 #[]) (hg : Rg.guardV ops specs a0 o = some true) : Rg.GoodOp Tryz.prog ops specs a0 C (fun w w' => w' = w) o (.inl (pvv PV.zero)) :=
 Rg.good_val (fun _ => rfl) hg fun a w hC hh => ⟨_, run_build0 _ w ho, rfl⟩
set_option maxHeartbeats 4000000 in
theorem run_store25 {o : Oper} (ρ : Operand → Value) (w : World) (x y : Operand) (g : Nat) (v0 v : PV) (ho : o.op = .store 32 x y) (h1 : ρ x = .pointer (some ⟨g, 0, none⟩)) (h2 : ρ y = pvv v) (h : PAt w g v0) : (execOp ρ o).run Tryz.prog w = .ok .skip (pset w g v) := by
 obtain ⟨p0, p1, p2, p3, p4, p5, p6⟩ := h.all
 obtain ⟨f0, f1, f2, f3, f4, f5, f6⟩ := h.fro
 simp [execOp, ho, h1, h2, go_sem, pvv, sv, p0, p1, p2, p3, p4, p5, p6, f0, f1, f2, f3, f4, f5, f6]
theorem lay_zeroD (B : Nat → Prop) (w : World) : Pd.Lay B Pd.zero w PV.zero := by
 unfold Pd.zero
 rw [Pd.lay_mk]
 exact ⟨⟨⟨rfl, rfl, rfl, rfl, rfl⟩, rfl, Rd.nil _, fun h0 => by simp [PV.zero] at h0⟩, rfl, fun h0 => by simp [PV.zero] at h0, [], RdW.nil _, Pd.Lays.nil _ _⟩
set_option maxHeartbeats 16000000 in
set_option maxRecDepth 100000 in
theorem decode_is (a : Option Addr) (n cap : Nat) (b : List UInt8) (p : Int) (w : World) (hB : Byt w a cap b) (hn : n = b.length) (q : Pr) (k e0 : Nat) (hr : Pd.dec b p = (q, k, e0)) :
  Calls Tryz.prog 21 #[.slice a n cap, .int .i64 p] w fun x w' => ∃ u, x = .returned (.tuple #[pvv u, .int .i64 (k : Int), .int .i64 (e0 : Int)]) ∧ Pd.Lay (fun g => w.heap.size ≤ g) q w' u ∧ Ex w w' := by
 subst hn
 have hld := Pd.ldec_is b p
 rw [hr] at hld
 simp only at hld
 obtain ⟨W, hW⟩ : ∃ W, (w.alloc pb0).alloc (.cells #[.slice a b.length cap, .int .i64 p, .int .i64 0, .int .i64 0] 74) = W := ⟨_, rfl⟩
 have hX1 : Ex w (w.alloc pb0) := (Below.refl _ _).alloc (Nat.le_refl _) _
 have hXW : Ex w W := by rw [← hW]; exact Below.alloc hX1 (by simp) _
 have hszW : W.heap.size = w.heap.size + 2 := by rw [← hW]; simp
 have hRA : RAt W (w.heap.size + 1) a b.length cap ⟨p, 0, 0⟩ := by
  rw [← hW]
  have h := heap_alloc_new (w.alloc pb0) (.cells #[.slice a b.length cap, .int .i64 p, .int .i64 0, .int .i64 0] 74)
  rw [show (w.alloc pb0).heap.size = w.heap.size + 1 by simp] at h
  exact h
 have HR : Hid (Rdr W (w.heap.size + 1) a cap b ⟨p, 0, 0⟩) := (⟨hRA, hB.below hXW, fun h0 q off e => by
  obtain ⟨q', off', e', hc⟩ := hB.2.2.2 0 h0
  rw [e] at e'
  cases e'
  have := World.block_lt_of_cell? w _ hc
  simp at this
  omega⟩ : Rdr W (w.heap.size + 1) a cap b ⟨p, 0, 0⟩)
 have HPr : Hid (PAt W w.heap.size PV.zero) := (by rw [← hW]; exact (PAt.new w PV.zero).alloc _ : PAt _ _ _)
 have hF := Pd.lpart_fine (b := b) 6 ⟨p, 0, 0⟩
 have HC : Hid _ := part_is b 6 (Nat.le_refl _) (w.heap.size + 1) a cap ⟨p, 0, 0⟩ 1 W HR.out (by decide) (show 0 + Pd.mx 6 ≤ 1000000000000 by decide)
 obtain ⟨⟨P, at9, c9, y9⟩, hP⟩ : ∃ x, Pd.lpart b 6 ⟨p, 0, 0⟩ = x := ⟨_, rfl⟩
 rw [hP] at HC hF
 simp only at HC hF
 have HF : Hid (Pd.Fine P) := hF
 have HL : Hid ((if (if y9 = 0 ∧ ¬ Pd.right P = true then 12 else y9) ≠ 0 then (Pd.zero, (0 : Int), (if y9 = 0 ∧ ¬ Pd.right P = true then 12 else y9)) else (P, at9, 0)) = (q, (k : Int), e0)) := (by
  have h := hld
  unfold Pd.ldec at h
  rw [hP] at h
  exact h : _ = (q, (k : Int), e0))
 have HXW : Hid (Ex w W) := hXW
 have HW : Hid ((w.alloc pb0).alloc (.cells #[.slice a b.length cap, .int .i64 p, .int .i64 0, .int .i64 0] 74) = W) := hW
 clear hB hr hld hX1 hXW hRA hF hP hW
 go_enter Tryz.func21, Tryz.ntmps21
 go_wp2_with fail
 go_at_call 50
 rw [HW.out]
 refine Calls.mono HC.out ?_
 rintro e w1 ⟨u, rfl, hL1, hR1, hg1⟩
 have hsz1 : w.heap.size + 2 ≤ w1.heap.size := by rw [← hszW]; exact hg1.size
 obtain ⟨w2, hw2⟩ : ∃ w2, w1.alloc (pb u) = w2 := ⟨_, rfl⟩
 have hX2 : Ex w1 w2 := by rw [← hw2]; exact (Below.refl _ _).alloc (Nat.le_refl _) _
 have hX1 : Ex w w1 := Below.grown HXW.out hg1 HXW.out.size (fun j hj => by simp at hj; omega)
 have HX2 : Hid (Ex w w2) := (hX1.trans hX2 : Ex w w2)
 have HPr2 : Hid (PAt w2 w.heap.size PV.zero) := ((HPr.out.far hg1 (by simp)).below hX2 : PAt _ _ _)
 have HPu2 : Hid (PAt w2 w1.heap.size u) := (by rw [← hw2]; exact PAt.new w1 u : PAt _ _ _)
 have HR2 : Hid (RAt w2 (w.heap.size + 1) a b.length cap ⟨at9, c9, y9⟩) := (hR1.1.below hX2 : RAt _ _ _ _ _ _)
 have HL2 : Hid (Pd.Lay (fun g => W.heap.size ≤ g) P w2 u) := (Pd.Lay.below _ hL1 hX2 : Pd.Lay _ _ _ _)
 have hsz2 : w.heap.size + 2 ≤ w2.heap.size := Nat.le_trans hsz1 hX2.size
 obtain ⟨r0, r1, r2, r3⟩ := HR2.out.all
 obtain ⟨s1, s2, s3⟩ := HR2.out.fro
 simp only at r1 r2 r3
 obtain ⟨g0, g1, g2, g3, g4, g5, g6⟩ := HPu2.out.all
 clear hL1 hR1 hg1 hX1 hX2 HC HR HPr
 simp only [pvv, sv]
 by_cases hy : y9 = 0
 ·subst hy
  obtain ⟨o, ho⟩ : ∃ o, Pd.right P = o := ⟨_, rfl⟩
  have HCR : Hid (Calls Tryz.prog 9 #[pvv u] w2 fun e w' => e = .returned (.bool o) ∧ Ex w2 w') := right_is P u w2 (Pd.Lay.mono (fun _ _ => trivial) _ HL2.out) HF.out o ho
  have HQ0 := HL.out
  rw [ho] at HQ0
  go_wp2_with fail
  go_at_call 9
  refine Calls.mono HCR.out ?_
  rintro e w3 ⟨rfl, hx3⟩
  have HX3 : Hid (Ex w w3) := (HX2.out.trans hx3 : Ex w w3)
  have HPr3 : Hid (PAt w3 w.heap.size PV.zero) := (HPr2.out.below hx3 : PAt _ _ _)
  have HPu3 : Hid (PAt w3 w1.heap.size u) := (HPu2.out.below hx3 : PAt _ _ _)
  have HR3 : Hid (RAt w3 (w.heap.size + 1) a b.length cap ⟨at9, c9, 0⟩) := (HR2.out.below hx3 : RAt _ _ _ _ _ _)
  have HL3 : Hid (Pd.Lay (fun g => W.heap.size ≤ g) P w3 u) := (Pd.Lay.below _ HL2.out hx3 : Pd.Lay _ _ _ _)
  have hsz3 : w.heap.size + 2 ≤ w3.heap.size := Nat.le_trans hsz2 hx3.size
  obtain ⟨r0', r1', r2', r3'⟩ := HR3.out.all
  obtain ⟨s1', s2', s3'⟩ := HR3.out.fro
  simp only at r1' r2' r3'
  clear hx3 HCR r0 r1 r2 r3 s1 s2 s3 g0 g1 g2 g3 g4 g5 g6
  cases o with
  | true =>
   have HQ : Hid (P = q ∧ at9 = (k : Int) ∧ 0 = e0) := (by
    have h := HQ0
    rw [if_neg (by simp)] at h
    simp only [Prod.mk.injEq] at h
    exact h : P = q ∧ at9 = (k : Int) ∧ 0 = e0)
   clear HQ0 HL
   go_wp2_with fail
   obtain ⟨w4, hw4⟩ : ∃ w4, pset w3.drew w.heap.size u = w4 := ⟨_, rfl⟩
   have hD : Ex w3 w3.drew := Ex.drew w3
   have HP4 : Hid (PAt w4 w.heap.size u) := (by rw [← hw4]; exact (HPr3.out.below hD).store u : PAt _ _ _)
   have hg4 : w3.drew.grownBy w4 (some w.heap.size) := by rw [← hw4]; exact grown_pset _ _ _
   have HX4 : Hid (Ex w w4) := (Below.grown (HX3.out.trans hD) hg4 (HX3.out.trans hD).size (fun j hj => by simp at hj; omega) : Ex w w4)
   have HL4 : Hid (Pd.Lay (fun g => w.heap.size ≤ g) P w4 u) := (Pd.Lay.mono (fun g hg => by omega) _ (Pd.Lay.far (fun g hg e => by simp at e; omega) _ (Pd.Lay.below _ HL3.out hD) hg4) : Pd.Lay _ _ _ _)
   have HRD : Hid (RAt w3.drew (w.heap.size + 1) a b.length cap ⟨at9, c9, 0⟩ ∧ PAt w3.drew w1.heap.size u) := (⟨HR3.out.below hD, HPu3.out.below hD⟩ : _ ∧ _)
   have HR4 : Hid (RAt w4 (w.heap.size + 1) a b.length cap ⟨at9, c9, 0⟩ ∧ PAt w4 w1.heap.size u) := (⟨HRD.out.1.far hg4 (by simp), HRD.out.2.far hg4 (by simp; omega)⟩ : _ ∧ _)
   have HPD : Hid (PAt w3.drew w.heap.size PV.zero) := (HPr3.out.below hD : PAt _ _ _)
   have hre : ∀ u : World, u = u := fun _ => rfl
   refine Rg.Fr.wp_one 3 w4 (fun wx => RAt wx (w.heap.size + 1) a b.length cap ⟨at9, c9, 0⟩ ∧ PAt wx w1.heap.size u) [.inl (pvv u), .inl (Value.pointer (some ⟨w.heap.size + 1, 1, none⟩)), .inl (Value.int .i64 at9), .inl undef, .inl (Value.int .i64 at9), .inl (Value.int .i64 0)] 31 (by kernel_rfl) rfl (by kernel_rfl) (by kernel_rfl) trivial _ rfl rfl HRD.out HR4.out ?rx ?hG ?hF
   case rx =>
    intro ρ ha
    have h1 : ρ (.tmp 4) = .pointer (some ⟨w.heap.size, 0, none⟩) := ha (.tmp 4) (by simp [Op.operands])
    have h2 : ρ (.tmp 28) = pvv u := ha (.tmp 28) (by simp [Op.operands])
    rw [← hw4]
    exact run_store25 ρ _ _ _ _ PV.zero _ rfl h1 h2 HPD.out
   case hG =>
    refine ⟨fun _ => Rg.good_load hre rfl rfl rfl (fun wx hC => hC.2.loadI), ?_⟩
    refine ⟨fun _ => Rg.good_field hre rfl rfl rfl (fun wx hC => by go_simp), ?_⟩
    refine ⟨fun _ => Rg.good_load hre rfl rfl rfl (fun wx hC => by have hz := hC.1.all.2.1; simp only at hz; go_simp), ?_⟩
    refine ⟨fun h => absurd rfl h, ?_⟩
    refine ⟨fun _ => Rg.good_assign hre rfl rfl rfl, ?_⟩
    refine ⟨fun _ => Rg.good_assign hre rfl rfl rfl, ?_⟩
    exact trivial
   case hF =>
    simp only [Rg.later, Act.put, List.setIfInBounds_toArray, List.set_cons_succ, List.set_cons_zero]
    clear hw4 hg4 hD
    go_wp2_with fail
    refine bodyPost_ret (v := .tuple #[pvv u, .int .i64 at9, .int .i64 0]) (res_pred3 Tryz.results21 rfl rfl rfl HP4.out) rfl ⟨u, ?_, ?_, HX4.out⟩
    ·rw [← HQ.out.2.1, ← HQ.out.2.2]; rfl
    ·rw [← HQ.out.1]; exact HL4.out
  | false =>
   have HQ : Hid (Pd.zero = q ∧ (0 : Int) = (k : Int) ∧ 12 = e0) := (by
    have h := HQ0
    rw [if_pos (by simp)] at h
    simp only [Prod.mk.injEq] at h
    refine ⟨h.1, h.2.1, ?_⟩
    rw [← h.2.2]; simp : Pd.zero = q ∧ (0 : Int) = (k : Int) ∧ 12 = e0)
   clear HQ0 HL
   obtain ⟨w5, hw5⟩ : ∃ w5, w3.setCell ⟨w.heap.size + 1, 3, none⟩ (.int .i64 12) = w5 := ⟨_, rfl⟩
   have hg5 : w3.grownBy w5 (some (w.heap.size + 1)) := by rw [← hw5]; exact grown_set1 _ _ _ _
   have HR5 : Hid (RAt w5 (w.heap.size + 1) a b.length cap ⟨at9, c9, 12⟩) := (by rw [← hw5]; exact HR3.out.set3 12 : RAt _ _ _ _ _ _)
   have HPr5 : Hid (PAt w5 w.heap.size PV.zero) := (HPr3.out.far hg5 (by simp) : PAt _ _ _)
   have HX5 : Hid (Ex w w5) := (Below.grown HX3.out hg5 HX3.out.size (fun j hj => by simp at hj; omega) : Ex w w5)
   obtain ⟨q0, q1, q2, q3⟩ := HR5.out.all
   simp only at q1 q2 q3
   clear hg5
   go_wp2_with fail
   obtain ⟨w4, hw4⟩ : ∃ w4, pset w5.drew w.heap.size PV.zero = w4 := ⟨_, rfl⟩
   have hD : Ex w5 w5.drew := Ex.drew w5
   have HP4 : Hid (PAt w4 w.heap.size PV.zero) := (by rw [← hw4]; exact (HPr5.out.below hD).store PV.zero : PAt _ _ _)
   have hg4 : w5.drew.grownBy w4 (some w.heap.size) := by rw [← hw4]; exact grown_pset _ _ _
   have HX4 : Hid (Ex w w4) := (Below.grown (HX5.out.trans hD) hg4 (HX5.out.trans hD).size (fun j hj => by simp at hj; omega) : Ex w w4)
   have HR4 : Hid (RAt w4 (w.heap.size + 1) a b.length cap ⟨at9, c9, 12⟩) := ((HR5.out.below hD).far hg4 (by simp) : RAt _ _ _ _ _ _)
   have HRD : Hid (RAt w5.drew (w.heap.size + 1) a b.length cap ⟨at9, c9, 12⟩) := (HR5.out.below hD : RAt _ _ _ _ _ _)
   have HPD : Hid (PAt w5.drew w.heap.size PV.zero) := (HPr5.out.below hD : PAt _ _ _)
   have hre : ∀ u : World, u = u := fun _ => rfl
   refine Rg.Fr.wp_one 3 w4 (fun wx => RAt wx (w.heap.size + 1) a b.length cap ⟨at9, c9, 12⟩) [.inl (pvv PV.zero), .inl (Value.pointer (some ⟨w.heap.size + 1, 3, none⟩)), .inl (Value.int .i64 (12 : Int)), .inl undef, .inl (Value.int .i64 0), .inl (Value.int .i64 (12 : Int))] 31 (by kernel_rfl) rfl (by kernel_rfl) (by kernel_rfl) trivial _ rfl rfl HRD.out HR4.out ?rx ?hG ?hF
   case rx =>
    intro ρ ha
    have h1 : ρ (.tmp 4) = .pointer (some ⟨w.heap.size, 0, none⟩) := ha (.tmp 4) (by simp [Op.operands])
    have h2 : ρ (.tmp 25) = pvv PV.zero := ha (.tmp 25) (by simp [Op.operands])
    rw [← hw4]
    exact run_store25 ρ _ _ _ _ PV.zero _ rfl h1 h2 HPD.out
   case hG =>
    refine ⟨fun _ => Rg.good_build0 rfl rfl, ?_⟩
    refine ⟨fun _ => Rg.good_field hre rfl rfl rfl (fun wx hC => by go_simp), ?_⟩
    refine ⟨fun _ => Rg.good_load hre rfl rfl rfl (fun wx hC => by have hz := (show RAt wx (w.heap.size + 1) a b.length cap ⟨at9, c9, 12⟩ from hC).all.2.2.2; simp only at hz; go_simp), ?_⟩
    refine ⟨fun h => absurd rfl h, ?_⟩
    refine ⟨fun _ => Rg.good_assign hre rfl rfl rfl, ?_⟩
    refine ⟨fun _ => Rg.good_assign hre rfl rfl rfl, ?_⟩
    exact trivial
   case hF =>
    simp only [Rg.later, Act.put, List.setIfInBounds_toArray, List.set_cons_succ, List.set_cons_zero]
    clear hw4 hg4 hD
    go_wp2_with fail
    refine bodyPost_ret (v := .tuple #[pvv PV.zero, .int .i64 0, .int .i64 (12 : Int)]) (res_pred3 Tryz.results21 rfl rfl rfl HP4.out) rfl ⟨PV.zero, ?_, ?_, HX4.out⟩
    ·rw [← HQ.out.2.1, ← HQ.out.2.2]; rfl
    ·rw [← HQ.out.1]; exact lay_zeroD _ _
 ·have t1 : ((y9 : Int) == 0) = false := beq_eq_false_iff_ne.2 (by omega)
  have t2 : ((y9 : Int) != 0) = true := by simp [bne, t1]
  have HQ : Hid (Pd.zero = q ∧ (0 : Int) = (k : Int) ∧ y9 = e0) := (by
   have h := HL.out
   rw [if_neg (show ¬ (y9 = 0 ∧ ¬ Pd.right P = true) from fun h => hy h.1), if_pos hy] at h
   simp only [Prod.mk.injEq] at h
   exact h : Pd.zero = q ∧ (0 : Int) = (k : Int) ∧ y9 = e0)
  clear HL
  go_wp2_with fail
  obtain ⟨w4, hw4⟩ : ∃ w4, pset w2.drew w.heap.size PV.zero = w4 := ⟨_, rfl⟩
  have hD : Ex w2 w2.drew := Ex.drew w2
  have HP4 : Hid (PAt w4 w.heap.size PV.zero) := (by rw [← hw4]; exact (HPr2.out.below hD).store PV.zero : PAt _ _ _)
  have hg4 : w2.drew.grownBy w4 (some w.heap.size) := by rw [← hw4]; exact grown_pset _ _ _
  have HX4 : Hid (Ex w w4) := (Below.grown (HX2.out.trans hD) hg4 (HX2.out.trans hD).size (fun j hj => by simp at hj; omega) : Ex w w4)
  have HR4 : Hid (RAt w4 (w.heap.size + 1) a b.length cap ⟨at9, c9, y9⟩) := ((HR2.out.below hD).far hg4 (by simp) : RAt _ _ _ _ _ _)
  have HRD : Hid (RAt w2.drew (w.heap.size + 1) a b.length cap ⟨at9, c9, y9⟩) := (HR2.out.below hD : RAt _ _ _ _ _ _)
  have HPD : Hid (PAt w2.drew w.heap.size PV.zero) := (HPr2.out.below hD : PAt _ _ _)
  have hre : ∀ u : World, u = u := fun _ => rfl
  refine Rg.Fr.wp_one 3 w4 (fun wx => RAt wx (w.heap.size + 1) a b.length cap ⟨at9, c9, y9⟩) [.inl (pvv PV.zero), .inl (Value.pointer (some ⟨w.heap.size + 1, 3, none⟩)), .inl (Value.int .i64 (y9 : Int)), .inl undef, .inl (Value.int .i64 0), .inl (Value.int .i64 (y9 : Int))] 31 (by kernel_rfl) rfl (by kernel_rfl) (by kernel_rfl) trivial _ rfl rfl HRD.out HR4.out ?rx ?hG ?hF
  case rx =>
   intro ρ ha
   have h1 : ρ (.tmp 4) = .pointer (some ⟨w.heap.size, 0, none⟩) := ha (.tmp 4) (by simp [Op.operands])
   have h2 : ρ (.tmp 25) = pvv PV.zero := ha (.tmp 25) (by simp [Op.operands])
   rw [← hw4]
   exact run_store25 ρ _ _ _ _ PV.zero _ rfl h1 h2 HPD.out
  case hG =>
   refine ⟨fun _ => Rg.good_build0 rfl rfl, ?_⟩
   refine ⟨fun _ => Rg.good_field hre rfl rfl rfl (fun wx hC => by go_simp), ?_⟩
   refine ⟨fun _ => Rg.good_load hre rfl rfl rfl (fun wx hC => by have hz := (show RAt wx (w.heap.size + 1) a b.length cap ⟨at9, c9, y9⟩ from hC).all.2.2.2; simp only at hz; go_simp), ?_⟩
   refine ⟨fun h => absurd rfl h, ?_⟩
   refine ⟨fun _ => Rg.good_assign hre rfl rfl rfl, ?_⟩
   refine ⟨fun _ => Rg.good_assign hre rfl rfl rfl, ?_⟩
   exact trivial
  case hF =>
   simp only [Rg.later, Act.put, List.setIfInBounds_toArray, List.set_cons_succ, List.set_cons_zero]
   clear hw4 hg4 hD
   go_wp2_with fail
   refine bodyPost_ret (v := .tuple #[pvv PV.zero, .int .i64 0, .int .i64 (y9 : Int)]) (res_pred3 Tryz.results21 rfl rfl rfl HP4.out) rfl ⟨PV.zero, ?_, ?_, HX4.out⟩
   ·rw [← HQ.out.2.1, ← HQ.out.2.2]
   ·rw [← HQ.out.1]; exact lay_zeroD _ _
end Go.Proofs.YtbdjccmlgdfapaaGreat
