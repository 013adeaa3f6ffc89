/-
  Decode of indexes over the program.
-/
import Derived.Test.YtaehchaimlklnaaRte
import Derived.Test.YtaehchaimlklnaaRtb
namespace Go.Proofs.Ytaehchaimlklnaa
open Go.RowKit
set_option linter.unusedVariables false
set_option linter.unusedSimpArgs false
theorem ownI_mono {w : World} {b b' : Nat} {v : Value} {l : List Int} (hb : b ≤ b') (h : OwnI w b' v l) : OwnI w b v l := by
  obtain ⟨h1, h2⟩ := h
  refine ⟨h1, ?_⟩
  rcases h2 with h2 | ⟨g, cap, cur, hv, hg, r⟩
  · exact .inl h2
  · exact .inr ⟨g, cap, cur, hv, Nat.le_trans hb hg, r⟩
/-- An index out of bytes. -/
def Tk.dec (b : List UInt8) (p : Int) : Tk.Ix × Nat × Nat :=
  if (M.get b p).2.2 ≠ 0 then (Tk.zero, 0, (M.get b p).2.2)
  else if (M.get b (M.get b p).2.1).2.2 ≠ 0 then (Tk.zero, 0, (M.get b (M.get b p).2.1).2.2)
  else if (D.dec b (M.get b (M.get b p).2.1).2.1 262144).2.2 ≠ 0 then (Tk.zero, 0, (D.dec b (M.get b (M.get b p).2.1).2.1 262144).2.2)
  else if 1048576 < (M.get b p).1 ∨ Tk.right ⟨(M.get b p).1, M.zag (M.get b (M.get b p).2.1).1, (D.dec b (M.get b (M.get b p).2.1).2.1 262144).1⟩ = false then (Tk.zero, 0, 12)
  else (⟨(M.get b p).1, M.zag (M.get b (M.get b p).2.1).1, (D.dec b (M.get b (M.get b p).2.1).2.1 262144).1⟩, (D.dec b (M.get b (M.get b p).2.1).2.1 262144).2.1, 0)
set_option maxHeartbeats 8000000 in
set_option maxRecDepth 100000 in
theorem rtd_is (a : Option Addr) (len cap : Nat) (b : List UInt8) (p : Int) (w : World) (hlen : len = b.length) (hB : Byt w a cap b) (hbl : b.length ≤ 140737488355328) (X : Tk.Ix) (k0 e0 : Nat) (hr : Tk.dec b p = (X, k0, e0)) :
    Calls Try.prog 20 #[.slice a len cap, .int .i64 p] w fun e w' => ∃ v, e = .returned (.tuple #[xv X.r X.m v, .int .i64 k0, .int .i64 e0]) ∧ OwnI w' w.heap.size v X.a ∧ Ex w w' := by
  subst hlen
  have hcl := hB.1
  have hcm := hB.2.1
  unfold maxLen at hcm
  have HB : Hid (Byt w a cap b) := hB
  have hxa : Ex w (w.alloc (xb 0 0 (.slice none 0 0) 28)) := (Below.refl _ _).alloc (Nat.le_refl _) _
  have hF := XAt.new w 0 0 (.slice none 0 0) 28
  obtain ⟨wa, hwa⟩ : ∃ wa, w.alloc (Obj.cells #[Value.int IntKind.i64 0, Value.int IntKind.i64 0, Value.slice none 0 0] 28) = wa := ⟨_, rfl⟩
  have HXa : Hid (Ex w wa) := (by rw [← hwa]; exact hxa : Ex w wa)
  have HF : Hid (XAt wa w.heap.size 0 0 (.slice none 0 0) 28) := (by rw [← hwa]; exact hF : XAt wa w.heap.size 0 0 (.slice none 0 0) 28)
  obtain ⟨f0, f1, f2⟩ := HF.out.all
  obtain ⟨z0, z1, z2⟩ := HF.out.fro
  unfold Tk.dec at hr
  have hall1 := M.get_all b p
  have hall2 := M.get_all b (M.get b p).2.1
  obtain ⟨N1, k1, e1, hG1⟩ : ∃ N1 k1 e1, M.get b p = (N1, k1, e1) := ⟨_, _, _, rfl⟩
  rw [hG1] at hr hall1 hall2
  simp only at hr hall1 hall2
  obtain ⟨N2, k2, e2, hG2⟩ : ∃ N2 k2 e2, M.get b k1 = (N2, k2, e2) := ⟨_, _, _, rfl⟩
  rw [hG2] at hr hall2
  simp only at hr hall2
  obtain ⟨A, k3, e3, hD⟩ : ∃ A k3 e3, D.dec b k2 262144 = (A, k3, e3) := ⟨_, _, _, rfl⟩
  rw [hD] at hr
  obtain ⟨Z, hZ⟩ : ∃ Z, M.zag (N2 : Int) = Z := ⟨_, rfl⟩
  rw [hZ] at hr
  simp only at hr
  have HG1 : Hid (M.get b p = (N1, k1, e1)) := hG1
  have HG2 : Hid (M.get b k1 = (N2, k2, e2)) := hG2
  have HD : Hid (D.dec b k2 262144 = (A, k3, e3)) := hD
  have HZ : Hid (M.zag (N2 : Int) = Z) := hZ
  obtain ⟨hN1, hk1, he1⟩ := hall1
  obtain ⟨hN2, hk2, he2⟩ := hall2
  clear hB hxa hF hG1 hG2 hD hZ
  by_cases c1 : e1 = 0
  · subst c1
    rw [if_neg (by simp)] at hr
    by_cases c2 : e2 = 0
    · subst c2
      rw [if_neg (by simp)] at hr
      by_cases c3 : e3 = 0
      · subst c3
        rw [if_neg (by simp)] at hr
        by_cases c4 : 1048576 < N1
        · rw [if_pos (.inl c4)] at hr
          simp only [Prod.mk.injEq] at hr
          obtain ⟨rfl, rfl, rfl⟩ := hr
          have t1 : decide ((1048576 : Int) < (N1 : Int)) = true := by simp; omega
          have t2 : decide (1048576 < N1) = true := by simp; omega
          go_enter Try.func20, Try.ntmps20
          go_wp2_with fail
          refine (rget_is a _ cap b p _ N1 k1 0 HG1.out (HB.out.below HXa.out) rfl).mono ?_
          rintro e wq ⟨rfl, hw⟩
          have hw' := hw.symm; clear hw; subst hw'
          go_wp2_with fail
          refine (rget_is a _ cap b k1 _ N2 k2 0 HG2.out (HB.out.below HXa.out) rfl).mono ?_
          rintro e wq ⟨rfl, hw⟩
          have hw' := hw.symm; clear hw; subst hw'
          go_wp2_with fail
          refine (rdec_any a _ cap b k2 262144 _ rfl (HB.out.below HXa.out) hbl (by omega) (by omega) (.inl (by omega)) A k3 0 HD.out).mono ?_
          rintro e w3 ⟨v3, rfl, ho3, hx3⟩
          obtain ⟨a3, c3, hv3, hr3⟩ := ho3.rd
          subst hv3
          have HO3 : Hid (OwnI w3 w.heap.size (.slice a3 A.length c3) A) := ownI_mono HXa.out.size ho3
          have HX3 : Hid (Ex w w3) := HXa.out.trans hx3
          have HF3 : Hid (XAt w3 w.heap.size 0 0 (.slice none 0 0) 28) := HF.out.below hx3
          have HR3 : Hid (Rd z64 w3 a3 c3 A) := hr3
          clear f0 f1 f2 z0 z1 z2 hx3 hr3 ho3
          obtain ⟨f0, f1, f2⟩ := HF3.out.all
          obtain ⟨z0, z1, z2⟩ := HF3.out.fro
          go_wp2_with fail
          refine bodyPost_ret (res_ix3 (g := w.heap.size) (r := 0) (m := 0) (a := none) (n := 0) (cap := 0) (.inr rfl) rfl rfl rfl rfl (HF3.out.put3 0 0 (.slice none 0 0))) rfl ⟨_, rfl, ownI_nil _ _, Below.xset HX3.out (Nat.le_refl _) _ _ _⟩
        · have t1 : decide ((1048576 : Int) < (N1 : Int)) = false := by simp; omega
          have t2 : decide (1048576 < N1) = false := by simp; omega
          have hw64 : (N1 : Int) ≤ 1048576 := by omega
          obtain ⟨rb, hrb⟩ : ∃ rb, Tk.right ⟨N1, Z, A⟩ = rb := ⟨_, rfl⟩
          have HRb : Hid (Tk.right ⟨N1, Z, A⟩ = rb) := hrb
          rw [hrb] at hr
          clear hrb
          cases rb with
          | false =>
            rw [if_pos (.inr rfl)] at hr
            simp only [Prod.mk.injEq] at hr
            obtain ⟨rfl, rfl, rfl⟩ := hr
            go_enter Try.func20, Try.ntmps20
            go_wp2_with fail
            refine (rget_is a _ cap b p _ N1 k1 0 HG1.out (HB.out.below HXa.out) rfl).mono ?_
            rintro e wq ⟨rfl, hw⟩
            have hw' := hw.symm; clear hw; subst hw'
            go_wp2_with fail
            refine (rget_is a _ cap b k1 _ N2 k2 0 HG2.out (HB.out.below HXa.out) rfl).mono ?_
            rintro e wq ⟨rfl, hw⟩
            have hw' := hw.symm; clear hw; subst hw'
            go_wp2_with fail
            refine (rdec_any a _ cap b k2 262144 _ rfl (HB.out.below HXa.out) hbl (by omega) (by omega) (.inl (by omega)) A k3 0 HD.out).mono ?_
            rintro e w3 ⟨v3, rfl, ho3, hx3⟩
            obtain ⟨a3, c3, hv3, hr3⟩ := ho3.rd
            subst hv3
            have HO3 : Hid (OwnI w3 w.heap.size (.slice a3 A.length c3) A) := ownI_mono HXa.out.size ho3
            have HX3 : Hid (Ex w w3) := HXa.out.trans hx3
            have HF3 : Hid (XAt w3 w.heap.size 0 0 (.slice none 0 0) 28) := HF.out.below hx3
            have HR3 : Hid (Rd z64 w3 a3 c3 A) := hr3
            clear f0 f1 f2 z0 z1 z2 hx3 hr3 ho3
            obtain ⟨f0, f1, f2⟩ := HF3.out.all
            obtain ⟨z0, z1, z2⟩ := HF3.out.fro
            go_wp2_with fail
            refine (rzag_any N2 _ _ (by omega) (by omega) HZ.out).mono ?_
            rintro e wq ⟨rfl, hw⟩
            have hw' := hw.symm; clear hw; subst hw'
            have HX4 : Hid (XAt (w3.alloc (xb N1 Z (.slice a3 A.length c3) 28)) w3.heap.size N1 Z (.slice a3 A.length c3) 28) := XAt.new w3 N1 Z (.slice a3 A.length c3) 28
            have hx4 : Ex w3 (w3.alloc (xb N1 Z (.slice a3 A.length c3) 28)) := (Below.refl _ _).alloc (Nat.le_refl _) _
            obtain ⟨w4, hw4⟩ : ∃ w4, w3.alloc (Obj.cells #[Value.int IntKind.i64 N1, Value.int IntKind.i64 Z, Value.slice a3 A.length c3] 28) = w4 := ⟨_, rfl⟩
            have HX4 : Hid (XAt w4 w3.heap.size N1 Z (.slice a3 A.length c3) 28) := (by rw [← hw4]; exact HX4.out : XAt w4 w3.heap.size N1 Z (.slice a3 A.length c3) 28)
            have HE4 : Hid (Ex w3 w4) := (by rw [← hw4]; exact hx4 : Ex w3 w4)
            clear hx4
            obtain ⟨g0, g1, g2⟩ := HX4.out.all
            go_wp2_with fail
            refine (rtr_is N1 Z _ A.length c3 A _ rfl (HR3.out.below HE4.out) (by omega) (by omega) false HRb.out).mono ?_
            rintro e w5 ⟨rfl, hx5⟩
            have HF5 : Hid (XAt w5 w.heap.size 0 0 (.slice none 0 0) 28) := HF3.out.below (HE4.out.trans hx5)
            have HX5 : Hid (XAt w5 w3.heap.size N1 Z (.slice a3 A.length c3) 28) := HX4.out.below hx5
            have HE5 : Hid (Ex w w5) := HX3.out.trans (HE4.out.trans hx5)
            have HO5 : Hid (OwnI w5 w.heap.size (.slice a3 A.length c3) A) := HO3.out.later (HE4.out.trans hx5)
            clear hx5 f0 f1 f2 z0 z1 z2 g0 g1 g2
            obtain ⟨f0, f1, f2⟩ := HF5.out.all
            obtain ⟨z0, z1, z2⟩ := HF5.out.fro
            obtain ⟨g0, g1, g2⟩ := HX5.out.all
            go_wp2_with fail
            refine bodyPost_ret (res_ix3 (g := w.heap.size) (r := 0) (m := 0) (a := none) (n := 0) (cap := 0) (.inr rfl) rfl rfl rfl rfl (HF5.out.put3 0 0 (.slice none 0 0))) rfl ⟨_, rfl, ownI_nil _ _, Below.xset HE5.out (Nat.le_refl _) _ _ _⟩
          | true =>
            rw [if_neg (by rintro (h | h); omega; cases h)] at hr
            simp only [Prod.mk.injEq] at hr
            obtain ⟨rfl, rfl, rfl⟩ := hr
            go_enter Try.func20, Try.ntmps20
            go_wp2_with fail
            refine (rget_is a _ cap b p _ N1 k1 0 HG1.out (HB.out.below HXa.out) rfl).mono ?_
            rintro e wq ⟨rfl, hw⟩
            have hw' := hw.symm; clear hw; subst hw'
            go_wp2_with fail
            refine (rget_is a _ cap b k1 _ N2 k2 0 HG2.out (HB.out.below HXa.out) rfl).mono ?_
            rintro e wq ⟨rfl, hw⟩
            have hw' := hw.symm; clear hw; subst hw'
            go_wp2_with fail
            refine (rdec_any a _ cap b k2 262144 _ rfl (HB.out.below HXa.out) hbl (by omega) (by omega) (.inl (by omega)) A k3 0 HD.out).mono ?_
            rintro e w3 ⟨v3, rfl, ho3, hx3⟩
            obtain ⟨a3, c3, hv3, hr3⟩ := ho3.rd
            subst hv3
            have HO3 : Hid (OwnI w3 w.heap.size (.slice a3 A.length c3) A) := ownI_mono HXa.out.size ho3
            have HX3 : Hid (Ex w w3) := HXa.out.trans hx3
            have HF3 : Hid (XAt w3 w.heap.size 0 0 (.slice none 0 0) 28) := HF.out.below hx3
            have HR3 : Hid (Rd z64 w3 a3 c3 A) := hr3
            clear f0 f1 f2 z0 z1 z2 hx3 hr3 ho3
            obtain ⟨f0, f1, f2⟩ := HF3.out.all
            obtain ⟨z0, z1, z2⟩ := HF3.out.fro
            go_wp2_with fail
            refine (rzag_any N2 _ _ (by omega) (by omega) HZ.out).mono ?_
            rintro e wq ⟨rfl, hw⟩
            have hw' := hw.symm; clear hw; subst hw'
            have HX4 : Hid (XAt (w3.alloc (xb N1 Z (.slice a3 A.length c3) 28)) w3.heap.size N1 Z (.slice a3 A.length c3) 28) := XAt.new w3 N1 Z (.slice a3 A.length c3) 28
            have hx4 : Ex w3 (w3.alloc (xb N1 Z (.slice a3 A.length c3) 28)) := (Below.refl _ _).alloc (Nat.le_refl _) _
            obtain ⟨w4, hw4⟩ : ∃ w4, w3.alloc (Obj.cells #[Value.int IntKind.i64 N1, Value.int IntKind.i64 Z, Value.slice a3 A.length c3] 28) = w4 := ⟨_, rfl⟩
            have HX4 : Hid (XAt w4 w3.heap.size N1 Z (.slice a3 A.length c3) 28) := (by rw [← hw4]; exact HX4.out : XAt w4 w3.heap.size N1 Z (.slice a3 A.length c3) 28)
            have HE4 : Hid (Ex w3 w4) := (by rw [← hw4]; exact hx4 : Ex w3 w4)
            clear hx4
            obtain ⟨g0, g1, g2⟩ := HX4.out.all
            go_wp2_with fail
            refine (rtr_is N1 Z _ A.length c3 A _ rfl (HR3.out.below HE4.out) (by omega) (by omega) true HRb.out).mono ?_
            rintro e w5 ⟨rfl, hx5⟩
            have HF5 : Hid (XAt w5 w.heap.size 0 0 (.slice none 0 0) 28) := HF3.out.below (HE4.out.trans hx5)
            have HX5 : Hid (XAt w5 w3.heap.size N1 Z (.slice a3 A.length c3) 28) := HX4.out.below hx5
            have HE5 : Hid (Ex w w5) := HX3.out.trans (HE4.out.trans hx5)
            have HO5 : Hid (OwnI w5 w.heap.size (.slice a3 A.length c3) A) := HO3.out.later (HE4.out.trans hx5)
            clear hx5 f0 f1 f2 z0 z1 z2 g0 g1 g2
            obtain ⟨f0, f1, f2⟩ := HF5.out.all
            obtain ⟨z0, z1, z2⟩ := HF5.out.fro
            obtain ⟨g0, g1, g2⟩ := HX5.out.all
            go_wp2_with fail
            refine bodyPost_ret (res_ix3 (g := w.heap.size) (r := N1) (m := Z) (a := a3) (n := A.length) (cap := c3) (.inr rfl) rfl rfl rfl rfl (HF5.out.put3 N1 Z (.slice a3 A.length c3))) rfl ⟨.slice a3 A.length c3, rfl, ?_, Below.xset HE5.out (Nat.le_refl _) _ _ _⟩
            exact ownI_other (by decide) (ownI_other (by decide) (ownI_other (by decide) HO5.out HF5.out) (HF5.out.set0 N1)) ((HF5.out.set0 N1).set1 Z)
      · rw [if_pos c3] at hr
        simp only [Prod.mk.injEq] at hr
        obtain ⟨rfl, rfl, rfl⟩ := hr
        have t3 : ((e3 : Int) != 0) = true := by simp; omega
        go_enter Try.func20, Try.ntmps20
        go_wp2_with fail
        refine (rget_is a _ cap b p _ N1 k1 0 HG1.out (HB.out.below HXa.out) rfl).mono ?_
        rintro e wq ⟨rfl, hw⟩
        have hw' := hw.symm; clear hw; subst hw'
        go_wp2_with fail
        refine (rget_is a _ cap b k1 _ N2 k2 0 HG2.out (HB.out.below HXa.out) rfl).mono ?_
        rintro e wq ⟨rfl, hw⟩
        have hw' := hw.symm; clear hw; subst hw'
        go_wp2_with fail
        refine (rdec_any a _ cap b k2 262144 _ rfl (HB.out.below HXa.out) hbl (by omega) (by omega) (.inl (by omega)) A k3 e3 HD.out).mono ?_
        rintro e w3 ⟨v3, rfl, ho3, hx3⟩
        obtain ⟨a3, c3, hv3, hr3⟩ := ho3.rd
        subst hv3
        have HO3 : Hid (OwnI w3 w.heap.size (.slice a3 A.length c3) A) := ownI_mono HXa.out.size ho3
        have HX3 : Hid (Ex w w3) := HXa.out.trans hx3
        have HF3 : Hid (XAt w3 w.heap.size 0 0 (.slice none 0 0) 28) := HF.out.below hx3
        have HR3 : Hid (Rd z64 w3 a3 c3 A) := hr3
        clear f0 f1 f2 z0 z1 z2 hx3 hr3 ho3
        obtain ⟨f0, f1, f2⟩ := HF3.out.all
        obtain ⟨z0, z1, z2⟩ := HF3.out.fro
        go_wp2_with fail
        refine bodyPost_ret (res_ix3 (g := w.heap.size) (r := 0) (m := 0) (a := none) (n := 0) (cap := 0) (.inr rfl) rfl rfl rfl rfl (HF3.out.put3 0 0 (.slice none 0 0))) rfl ⟨_, rfl, ownI_nil _ _, Below.xset HX3.out (Nat.le_refl _) _ _ _⟩
    · rw [if_pos c2] at hr
      simp only [Prod.mk.injEq] at hr
      obtain ⟨rfl, rfl, rfl⟩ := hr
      have t3 : ((e2 : Int) != 0) = true := by simp; omega
      go_enter Try.func20, Try.ntmps20
      go_wp2_with fail
      refine (rget_is a _ cap b p _ N1 k1 0 HG1.out (HB.out.below HXa.out) rfl).mono ?_
      rintro e wq ⟨rfl, hw⟩
      have hw' := hw.symm; clear hw; subst hw'
      go_wp2_with fail
      refine (rget_is a _ cap b k1 _ N2 k2 e2 HG2.out (HB.out.below HXa.out) rfl).mono ?_
      rintro e wq ⟨rfl, hw⟩
      have hw' := hw.symm; clear hw; subst hw'
      go_wp2_with fail
      refine bodyPost_ret (res_ix3 (g := w.heap.size) (r := 0) (m := 0) (a := none) (n := 0) (cap := 0) (.inr rfl) rfl rfl rfl rfl (HF.out.put3 0 0 (.slice none 0 0))) rfl ⟨_, rfl, ownI_nil _ _, Below.xset HXa.out (Nat.le_refl _) _ _ _⟩
  · rw [if_pos c1] at hr
    simp only [Prod.mk.injEq] at hr
    obtain ⟨rfl, rfl, rfl⟩ := hr
    have t3 : ((e1 : Int) != 0) = true := by simp; omega
    go_enter Try.func20, Try.ntmps20
    go_wp2_with fail
    refine (rget_is a _ cap b p _ N1 k1 e1 HG1.out (HB.out.below HXa.out) rfl).mono ?_
    rintro e wq ⟨rfl, hw⟩
    have hw' := hw.symm; clear hw; subst hw'
    go_wp2_with fail
    refine bodyPost_ret (res_ix3 (g := w.heap.size) (r := 0) (m := 0) (a := none) (n := 0) (cap := 0) (.inr rfl) rfl rfl rfl rfl (HF.out.put3 0 0 (.slice none 0 0))) rfl ⟨_, rfl, ownI_nil _ _, Below.xset HXa.out (Nat.le_refl _) _ _ _⟩
end Go.Proofs.Ytaehchaimlklnaa
