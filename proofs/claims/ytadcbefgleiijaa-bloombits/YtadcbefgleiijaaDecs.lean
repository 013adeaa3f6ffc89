/-
  slices.Clone of bytes, and package bloom's Decode, over the program.
-/
import Derived.Test.YtadcbefgleiijaaSizes
import Derived.Test.YtadcbefgleiijaaRdec
import Derived.Lib.SliceRun
import Derived.Lib.Walk
namespace Go.Proofs.Ytadcbefgleiijaa
open Go.RowKit
set_option linter.unusedVariables false
set_option linter.unusedSimpArgs false
theorem Fl.right_self (N : Nat) : Fl.rightB (N : Int) (N / 8) = Fl.sizeB N := by
  rw [Fl.right_form]; simp
theorem FAt.zero3 {w : World} {g : Nat} {k : Int} {v : Value} (h : FAt w g k v 25) (k' : Int) (v' : Value) : FAt ((w.setCell ⟨g, 0, none⟩ (.int .i64 k')).setCell ⟨g, 1, none⟩ v') g k' v' 25 := (h.set0 k').set1 v'
set_option maxRecDepth 100000 in
set_option maxHeartbeats 2000000 in
theorem cloneb_is (a : Addr) (n cap : Nat) (l : List UInt8) (w : World) (hn : n = l.length) (hB : Byt w (some a) cap l) (hl : l.length ≤ 8192) :
    Calls Try.prog 33 #[.slice (some a) n cap] w fun e w' => ∃ v, e = .returned v ∧ Own w' w.heap.size v l ∧ Ex w w' := by
  have HB : Hid (Byt w (some a) cap l) := hB
  have HN : Hid (n = l.length) := hn
  have hq : ∀ wx, (binOp .eql 23 (.slice (some a) n cap) (.slice none 0 0)).run Try.prog wx = .ok (.bool false) wx := fun wx => Lib.run_eql_slice_nil wx _ _ (some a) n cap 0 0 Try.underlying23
  clear hB hn
  go_enter Try.func33, Try.ntmps33
  go_wp2_with (first
    | (refine wpList_build_own rfl 5 rfl 0 [] rfl (by decide) (fun _ => by kernel_rfl) w.heap.size (Nat.le_refl _) ?_; intro g5 w5 ho5 hx5)
    | (at_builtin; refine wpList_append_byt rfl (.tmp 5) (.tmp 6) rfl w.heap.size _ [] rfl ho5 _ _ _ l rfl HN.out (HB.out.below hx5) (by simp; omega) (Ex.size hx5) ?_; intro v7 w7 ho7 hg7; have X7 : Ex w w7 := step_below0 hx5 (Ex.size hx5) ho5 hg7; clear hg7; rw [List.nil_append] at ho7))
  go_ret
  exact ⟨_, rfl, ho7, X7⟩
set_option maxRecDepth 100000 in
set_option maxHeartbeats 4000000 in
theorem dec_is (a : Option Addr) (len cap : Nat) (b : List UInt8) (p : Int) (w : World) (hlen : len = b.length) (hB : Byt w a cap b) (hbl : b.length ≤ 281474976710656) (N0 : Nat) (x : List UInt8) (k0 e0 : Nat) (hr : Fl.decE b p = (N0, x, k0, e0)) :
    Calls Try.prog 18 #[.slice a len cap, .int .i64 p] w fun e w' => ∃ v, e = .returned (.tuple #[fv N0 v, .int .i64 k0, .int .i64 e0]) ∧ Own w' w.heap.size v x ∧ Ex w w' := by
  subst hlen
  obtain ⟨N, hN⟩ : ∃ N, (M.get b p).1 = N := ⟨_, rfl⟩
  obtain ⟨k, hk⟩ : ∃ k, (M.get b p).2.1 = k := ⟨_, rfl⟩
  obtain ⟨e1, he1⟩ : ∃ e1, (M.get b p).2.2 = e1 := ⟨_, rfl⟩
  have hall := M.get_all b p
  unfold Fl.decE at hr
  rw [hN, hk, he1] at hr hall
  rw [Fl.right_self] at hr
  have HG : Hid (M.get b p = (N, k, e1)) := (by rw [← hN, ← hk, ← he1] : M.get b p = (N, k, e1))
  have HB : Hid (Byt w a cap b) := hB
  have hcl := hB.1
  have hcm := hB.2.1
  unfold maxLen at hcm
  obtain ⟨hN64, hkl, hel⟩ := hall
  have hxa : Ex w (w.alloc (fb 0 (.slice none 0 0) 25)) := (Below.refl _ _).alloc (Nat.le_refl _) _
  have hF := FAt.new w 0 (.slice none 0 0) 25
  obtain ⟨wa, hwa⟩ : ∃ wa, w.alloc (Obj.cells #[Value.int IntKind.i64 0, Value.slice none 0 0] 25) = wa := ⟨_, rfl⟩
  have hF' : FAt wa w.heap.size 0 (.slice none 0 0) 25 := by rw [← hwa]; exact hF
  have HF : Hid (FAt wa w.heap.size 0 (.slice none 0 0) 25) := hF'
  have hxa' : Ex w wa := by rw [← hwa]; exact hxa
  have HXa : Hid (Ex w wa) := hxa'
  have HWa : Hid (w.alloc (Obj.cells #[Value.int IntKind.i64 0, Value.slice none 0 0] 25) = wa) := hwa
  obtain ⟨d0, d1⟩ := HF.out.all
  obtain ⟨f0, f1⟩ := HF.out.fro
  clear hB hxa hN hk he1 hF hF' hwa hxa'
  by_cases he : e1 = 0
  · subst he
    rw [if_neg (by simp)] at hr
    cases hR : Fl.sizeB N with
    | false =>
      rw [if_pos hR] at hr
      simp only [Prod.mk.injEq] at hr
      obtain ⟨rfl, rfl, rfl, rfl⟩ := hr
      have HR : Hid (Fl.sizeB N = false) := hR
      clear hR
      go_enter Try.func18, Try.ntmps18
      go_wp2_with fail
      have hwz := HWa.out
      rw [hwz]
      clear hwz
      refine (get_is a _ cap b p _ N k 0 HG.out (HB.out.below HXa.out) rfl).mono ?_
      rintro e wq ⟨rfl, hw⟩
      have hw' := hw.symm; clear hw; subst hw'
      go_wp2_with fail
      refine (rsize_is N _ (by omega) false HR.out).mono ?_
      rintro e wq ⟨rfl, hw⟩
      have hw' := hw.symm; clear hw; subst hw'
      go_wp2_with fail
      refine bodyPost_ret (res_fil3 (g := w.heap.size) (k := 0) (a := none) (n := 0) (cap := 0) (.inl rfl) rfl rfl rfl rfl (HF.out.zero3 0 (.slice none 0 0))) rfl ⟨_, rfl, own_nil _ _, Below.fset HXa.out (Nat.le_refl _) _ _⟩
    | true =>
      rw [if_neg (by rw [hR]; simp)] at hr
      have HR : Hid (Fl.sizeB N = true) := hR
      have hNb := (Fl.sizeB_iff.1 hR).bounds
      have hN1 : 64 ≤ N := hNb.1
      have hN2 : N ≤ 65536 := hNb.2.1
      obtain ⟨n8, hn8⟩ : ∃ n8, N / 8 = n8 := ⟨_, rfl⟩
      rw [hn8] at hr
      have hn8i : (N : Int) / 8 = (n8 : Int) := by omega
      have hn8b : n8 ≤ 8192 := by omega
      have hn8p : 8 ≤ n8 := by omega
      clear hR hn8 hNb
      by_cases hen : b.length - k < n8
      · rw [if_pos hen] at hr
        simp only [Prod.mk.injEq] at hr
        obtain ⟨rfl, rfl, rfl, rfl⟩ := hr
        have t5 : decide ((b.length : Int) < (k : Int) + (n8 : Int)) = true := by simp; omega
        have t6 : decide (b.length < k + n8) = true := by simp; omega
        go_enter Try.func18, Try.ntmps18
        go_wp2_with fail
        have hwz := HWa.out
        rw [hwz]
        clear hwz
        refine (get_is a _ cap b p _ N k 0 HG.out (HB.out.below HXa.out) rfl).mono ?_
        rintro e wq ⟨rfl, hw⟩
        have hw' := hw.symm; clear hw; subst hw'
        go_wp2_with fail
        refine (rsize_is N _ (by omega) true HR.out).mono ?_
        rintro e wq ⟨rfl, hw⟩
        have hw' := hw.symm; clear hw; subst hw'
        go_wp2_with fail
        refine bodyPost_ret (res_fil3 (g := w.heap.size) (k := 0) (a := none) (n := 0) (cap := 0) (.inl rfl) rfl rfl rfl rfl (HF.out.zero3 0 (.slice none 0 0))) rfl ⟨_, rfl, own_nil _ _, Below.fset HXa.out (Nat.le_refl _) _ _⟩
      · rw [if_neg hen] at hr
        simp only [Prod.mk.injEq] at hr
        obtain ⟨rfl, rfl, rfl, rfl⟩ := hr
        have t5 : decide ((b.length : Int) < (k : Int) + (n8 : Int)) = false := by simp; omega
        have t6 : decide (b.length < k + n8) = false := by simp; omega
        obtain ⟨X, hX⟩ : ∃ X, (b.drop k).take n8 = X := ⟨_, rfl⟩
        have hXl : X.length = n8 := by rw [← hX]; simp; omega
        obtain ⟨bb, off, rfl, _⟩ := HB.out.2.2.2 k (by omega)
        have hBX := HB.out.sub k n8 (by omega)
        rw [hX, Option.map_some, add_none] at hBX
        have HBX : Hid (Byt w (some ⟨bb, off + k, none⟩) (cap - k) X) := hBX
        have HXl : Hid (X.length = n8) := hXl
        rw [hX]
        have hne : ¬ cap - k = 0 := by omega
        have hkn : (k : Int) ≤ (k : Int) + (n8 : Int) := by omega
        have hkn2 : (k : Int) + (n8 : Int) ≤ (cap : Int) := by omega
        clear hX hXl hBX
        go_enter Try.func18, Try.ntmps18
        go_wp2_with fail
        have hwz := HWa.out
        rw [hwz]
        clear hwz
        refine (get_is _ _ cap b p _ N k 0 HG.out (HB.out.below HXa.out) rfl).mono ?_
        rintro e wq ⟨rfl, hw⟩
        have hw' := hw.symm; clear hw; subst hw'
        go_wp2_with fail
        refine (rsize_is N _ (by omega) true HR.out).mono ?_
        rintro e wq ⟨rfl, hw⟩
        have hw' := hw.symm; clear hw; subst hw'
        go_wp2_with fail
        refine (cloneb_is _ _ _ X _ (by have := HXl.out; omega) (HBX.out.below HXa.out) (by have := HXl.out; omega)).mono ?_
        rintro e w3 ⟨v, rfl, ho, hx3⟩
        have HX3 : Hid (Ex w w3) := HXa.out.trans hx3
        have HF3 : Hid (FAt w3 w.heap.size 0 (.slice none 0 0) 25) := HF.out.below hx3
        obtain ⟨a54, c54, hv54, hb54⟩ := ho.byt
        subst hv54
        have HO : Hid (Own w3 wa.heap.size (.slice a54 X.length c54) X) := ho
        clear hx3 d0 d1 f0 f1 ho hb54
        obtain ⟨d0, d1⟩ := HF3.out.all
        obtain ⟨f0, f1⟩ := HF3.out.fro
        go_wp2_with fail
        have hlt : w.heap.size < wa.heap.size := HF.out.lt
        have hO := ((HO.out.other (g := w.heap.size) (k := 0) (u := .int .i64 N) hlt).other (g := w.heap.size) (k := 1) (u := .slice a54 X.length c54) hlt).mono (Nat.le_of_lt hlt)
        refine bodyPost_ret (res_fil3 (g := w.heap.size) (k := N) (.inl rfl) rfl rfl rfl rfl (HF3.out.zero3 N _)) rfl ⟨_, ret3 rfl (I.int_num (by omega)) rfl, ?_, Below.fset HX3.out (Nat.le_refl _) _ _⟩
        exact hO
  · rw [if_pos he] at hr
    simp only [Prod.mk.injEq] at hr
    obtain ⟨rfl, rfl, rfl, rfl⟩ := hr
    have tne : ((e1 : Int) != 0) = true := by simp; omega
    go_enter Try.func18, Try.ntmps18
    go_wp2_with fail
    have hwz := HWa.out
    rw [hwz]
    clear hwz
    refine (get_is a _ cap b p _ N k e1 HG.out (HB.out.below HXa.out) rfl).mono ?_
    rintro e wq ⟨rfl, hw⟩
    have hw' := hw.symm; clear hw; subst hw'
    go_wp2_with fail
    refine bodyPost_ret (res_fil3 (g := w.heap.size) (k := 0) (a := none) (n := 0) (cap := 0) (.inl rfl) rfl rfl rfl rfl (HF.out.zero3 0 (.slice none 0 0))) rfl ⟨_, rfl, own_nil _ _, Below.fset HXa.out (Nat.le_refl _) _ _⟩
end Go.Proofs.Ytadcbefgleiijaa
