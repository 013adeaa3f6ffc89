/-
  The document's own Decode (layer 9), over the program.
-/
import Derived.Test.YtadcbefgleiijaaRenc
namespace Go.Proofs.Ytadcbefgleiijaa
open Go.RowKit
set_option linter.unusedVariables false
set_option linter.unusedSimpArgs false
theorem wpList_unguard {P : Program} {ops : Array Oper} {Q : Exit → Act → World → Prop} {a : Act} {w : World} {rest : List Oper} {o : Oper} (hw : Region.wanted o (yielded ops a.tmps) = true)
    (h : wpList P ops Q ({ o with guard := none } :: rest) a w) : wpList P ops Q (o :: rest) a w := by
  unfold wpList at h ⊢
  rw [if_pos hw]
  rw [if_pos (by simp [Region.wanted])] at h
  exact h

theorem wpList_make_zeroK {w : World} {ops : Array Oper} {rest : List Oper} {o : Oper} {a : Act} {Q : Exit → Act → World → Prop} (k : IntKind)
    (hg : o.guard = none) (l c : Operand) (hop : o.op = Op.makeSlice 23 l c) (L C : Int) (m : Nat) (hl : a.eval l = .int k L) (hc : a.eval c = .int k C) (hL : L = (m : Int)) (hC : C = (m : Int)) (b2 : m ≤ 281474976710656)
    (hK : ∀ (w' : World), w'.heap[w.heap.size]? = some (.cells (cs (List.replicate m 0)).toArray 5 (0, 0)) → Below w.heap.size w w' → wpList Try.prog ops Q rest (a.put o.dst (.slice (some ⟨w.heap.size, 0, none⟩) m m)) w') :
    wpList Try.prog ops Q (o :: rest) a w := by
  obtain ⟨i0, hi, hz0, hz1, hz2⟩ := info_parts Try.info5
  refine wpList_plain hg fun K hK' => ?_
  subst hL
  subst hC
  have hrun := run_make (P := Try.prog) w 23 5 i0 (.int .u8 0) Try.underlying23 hi hz0 k k (m : Int) (m : Int) (by omega) (by omega) (by rw [hz2]; omega) (by omega)
  simp only [Int.toNat_natCast] at hrun
  unfold Oper.wp
  simp [execOp, hop, hl, hc, hrun, Result.andThen]
  refine hK' _ _ (hK _ ?_ ((Below.refl _ _).alloc (Nat.le_refl _) _))
  rw [hz1, heap_alloc_new, Nat.mul_one]
  have e : (madeCells (Value.int .u8 0).cells m).toList = cs (List.replicate m 0) := by rw [cs_zero]; exact made_zero m
  rw [← e]
theorem Own.other {w : World} {base g k : Nat} {v u : Value} {l : List UInt8} (h : Own w base v l) (hg : g < base) : Own (w.setCell ⟨g, k, none⟩ u) base v l := by
  obtain ⟨h1, h2⟩ := h
  refine ⟨h1, ?_⟩
  rcases h2 with h2 | ⟨b, cap, cur, hv, hb, hr, r⟩
  · exact .inl h2
  · exact .inr ⟨b, cap, cur, hv, hb, by rw [heap_setCell_other w _ b u (by simp; omega)]; exact hr, r⟩
theorem own_nil (w : World) (base : Nat) : Own w base (.slice none 0 0) [] := ⟨by simp [cs], .inl ⟨rfl, rfl⟩⟩
/-- What is read: the bits, the bytes, where it ends, why not. -/
def Fl.decE (b : List UInt8) (p : Int) : Nat × List UInt8 × Nat × Nat :=
  if (M.get b p).2.2 ≠ 0 then (0, [], 0, (M.get b p).2.2) else if Fl.rightB (M.get b p).1 ((M.get b p).1 / 8) = false then (0, [], 0, 12)
  else if b.length - (M.get b p).2.1 < (M.get b p).1 / 8 then (0, [], 0, 10) else ((M.get b p).1, (b.drop (M.get b p).2.1).take ((M.get b p).1 / 8), (M.get b p).2.1 + (M.get b p).1 / 8, 0)
theorem FAt.zero2 {w : World} {g : Nat} {k : Int} {v : Value} (h : FAt w g k v 27) (k' : Int) (v' : Value) : FAt ((w.setCell ⟨g, 0, none⟩ (.int .i64 k')).setCell ⟨g, 1, none⟩ v') g k' v' 27 := (h.set0 k').set1 v'
theorem Below.fset {B : Nat} {a w : World} (h : Below B a w) {g : Nat} (hg : B ≤ g) (x y : Value) : Below B a ((w.setCell ⟨g, 0, none⟩ x).setCell ⟨g, 1, none⟩ y) :=
  Below.setCell (Below.setCell h (p := ⟨g, 0, none⟩) hg _) (p := ⟨g, 1, none⟩) hg _
set_option maxRecDepth 100000 in
set_option maxHeartbeats 4000000 in
theorem rdec_is (a : Option Addr) (len cap : Nat) (b : List UInt8) (p : Int) (w : World) (hlen : len = b.length) (hB : Byt w a cap b) (hbl : b.length ≤ 281474976710656) (N0 : Nat) (x : List UInt8) (k0 e0 : Nat) (hr : Fl.decE b p = (N0, x, k0, e0)) :
    Calls Try.prog 19 #[.slice a len cap, .int .i64 p] w fun e w' => ∃ v, e = .returned (.tuple #[fv N0 v, .int .i64 k0, .int .i64 e0]) ∧ Own w' w.heap.size v x ∧ Ex w w' := by
  subst hlen
  obtain ⟨N, hN⟩ : ∃ N, (M.get b p).1 = N := ⟨_, rfl⟩
  obtain ⟨k, hk⟩ : ∃ k, (M.get b p).2.1 = k := ⟨_, rfl⟩
  obtain ⟨e1, he1⟩ : ∃ e1, (M.get b p).2.2 = e1 := ⟨_, rfl⟩
  have hall := M.get_all b p
  unfold Fl.decE at hr
  rw [hN, hk, he1] at hr hall
  have HG : Hid (M.get b p = (N, k, e1)) := (by rw [← hN, ← hk, ← he1] : M.get b p = (N, k, e1))
  have HB : Hid (Byt w a cap b) := hB
  have hcl := hB.1
  have hcm := hB.2.1
  unfold maxLen at hcm
  obtain ⟨hN64, hkl, hel⟩ := hall
  have hxa : Ex w (w.alloc (fb 0 (.slice none 0 0) 27)) := (Below.refl _ _).alloc (Nat.le_refl _) _
  have hF := FAt.new w 0 (.slice none 0 0) 27
  obtain ⟨wa, hwa⟩ : ∃ wa, w.alloc (Obj.cells #[Value.int IntKind.i64 0, Value.slice none 0 0] 27) = wa := ⟨_, rfl⟩
  have hF' : FAt wa w.heap.size 0 (.slice none 0 0) 27 := by rw [← hwa]; exact hF
  have HF : Hid (FAt wa w.heap.size 0 (.slice none 0 0) 27) := hF'
  have hxa' : Ex w wa := by rw [← hwa]; exact hxa
  have HXa : Hid (Ex w wa) := hxa'
  have HWa : Hid (w.alloc (Obj.cells #[Value.int IntKind.i64 0, Value.slice none 0 0] 27) = wa) := hwa
  obtain ⟨d0, d1⟩ := HF.out.all
  obtain ⟨f0, f1⟩ := HF.out.fro
  clear hB hxa hN hk he1 hF hF' hwa hxa'
  by_cases he : e1 = 0
  · subst he
    rw [if_neg (by simp)] at hr
    obtain ⟨n8, hn8⟩ : ∃ n8, N / 8 = n8 := ⟨_, rfl⟩
    rw [hn8] at hr
    have hn8i : (N : Int) / 8 = (n8 : Int) := by omega
    by_cases hbig : 65536 < N
    · have hnr : Fl.rightB N n8 = false := by
        cases h : Fl.rightB N n8 with
        | false => rfl
        | true =>
          obtain ⟨m, hm, h1, _⟩ := Fl.right_iff.1 h
          have := hm.bounds
          omega
      rw [if_pos hnr] at hr
      simp only [Prod.mk.injEq] at hr
      obtain ⟨rfl, rfl, rfl, rfl⟩ := hr
      have t1 : decide (65536 < (N : Int)) = true := by simp; omega
      have t2 : decide (65536 < N) = true := by simp; omega
      clear hn8 hn8i hnr
      go_enter Try.func19, Try.ntmps19
      go_wp2_with fail
      have hwz := HWa.out
      rw [hwz]
      clear hwz
      refine (rget_is a _ cap b p _ N k 0 HG.out (HB.out.below HXa.out) rfl).mono ?_
      rintro e wq ⟨rfl, hw⟩
      have hw' := hw.symm; clear hw; subst hw'
      go_wp2_with fail
      refine bodyPost_ret (res_fil3 (g := w.heap.size) (k := 0) (a := none) (n := 0) (cap := 0) (.inr rfl) rfl rfl rfl rfl (HF.out.zero2 0 (.slice none 0 0))) rfl ⟨_, rfl, own_nil _ _, Below.fset HXa.out (Nat.le_refl _) _ _⟩
    · have t1 : decide (65536 < (N : Int)) = false := by simp; omega
      have t2 : decide (65536 < N) = false := by simp; omega
      have hn8b : n8 ≤ 8192 := by omega
      cases hR : Fl.rightB N n8 with
      | false =>
        rw [if_pos hR] at hr
        simp only [Prod.mk.injEq] at hr
        obtain ⟨rfl, rfl, rfl, rfl⟩ := hr
        have HR : Hid (Fl.rightB N n8 = false) := hR
        clear hR hn8
        go_enter Try.func19, Try.ntmps19
        go_wp2_with fail
        have hwz := HWa.out
        rw [hwz]
        clear hwz
        refine (rget_is a _ cap b p _ N k 0 HG.out (HB.out.below HXa.out) rfl).mono ?_
        rintro e wq ⟨rfl, hw⟩
        have hw' := hw.symm; clear hw; subst hw'
        go_wp2_with (at_make; refine wpList_unguard rfl ?_; refine wpList_make_zeroK .u64 rfl _ _ rfl _ _ n8 rfl rfl (by omega) (by omega) (by omega) ?_; intro w2 hg2 hb2)
        have hX2 : Ex wa w2 := hb2
        refine (rright_is N _ n8 n8 _ (by omega) false HR.out).mono ?_
        rintro e w3 ⟨rfl, hx3⟩
        have HX3a : Hid (Ex wa w3) := hX2.trans hx3
        have HX3 : Hid (Ex w w3) := HXa.out.trans HX3a.out
        have HF3 : Hid (FAt w3 w.heap.size 0 (.slice none 0 0) 27) := HF.out.below HX3a.out
        clear hX2 hx3 hg2 hb2 d0 d1 f0 f1
        obtain ⟨d0, d1⟩ := HF3.out.all
        obtain ⟨f0, f1⟩ := HF3.out.fro
        go_wp2_with fail
        refine bodyPost_ret (res_fil3 (g := w.heap.size) (k := 0) (a := none) (n := 0) (cap := 0) (.inr rfl) rfl rfl rfl rfl (HF3.out.zero2 0 (.slice none 0 0))) rfl ⟨_, rfl, own_nil _ _, Below.fset HX3.out (Nat.le_refl _) _ _⟩
      | true =>
        rw [if_neg (by rw [hR]; simp)] at hr
        have HR : Hid (Fl.rightB N n8 = true) := hR
        have hn8p : 8 ≤ n8 := by
          obtain ⟨m, hm, h1, h2⟩ := Fl.right_iff.1 hR
          have := hm.bounds
          omega
        clear hR hn8
        by_cases hen : b.length - k < n8
        · rw [if_pos hen] at hr
          simp only [Prod.mk.injEq] at hr
          obtain ⟨rfl, rfl, rfl, rfl⟩ := hr
          have t5 : decide ((b.length : Int) - (k : Int) < (n8 : Int)) = true := by simp; omega
          go_enter Try.func19, Try.ntmps19
          go_wp2_with fail
          have hwz := HWa.out
          rw [hwz]
          clear hwz
          refine (rget_is a _ cap b p _ N k 0 HG.out (HB.out.below HXa.out) rfl).mono ?_
          rintro e wq ⟨rfl, hw⟩
          have hw' := hw.symm; clear hw; subst hw'
          go_wp2_with (at_make; refine wpList_unguard rfl ?_; refine wpList_make_zeroK .u64 rfl _ _ rfl _ _ n8 rfl rfl (by omega) (by omega) (by omega) ?_; intro w2 hg2 hb2)
          have hX2 : Ex wa w2 := hb2
          refine (rright_is N _ n8 n8 _ (by omega) true HR.out).mono ?_
          rintro e w3 ⟨rfl, hx3⟩
          have HX3a : Hid (Ex wa w3) := hX2.trans hx3
          have HX3 : Hid (Ex w w3) := HXa.out.trans HX3a.out
          have HF3 : Hid (FAt w3 w.heap.size 0 (.slice none 0 0) 27) := HF.out.below HX3a.out
          clear hX2 hx3 hg2 hb2 d0 d1 f0 f1
          obtain ⟨d0, d1⟩ := HF3.out.all
          obtain ⟨f0, f1⟩ := HF3.out.fro
          go_wp2_with fail
          refine bodyPost_ret (res_fil3 (g := w.heap.size) (k := 0) (a := none) (n := 0) (cap := 0) (.inr rfl) rfl rfl rfl rfl (HF3.out.zero2 0 (.slice none 0 0))) rfl ⟨_, rfl, own_nil _ _, Below.fset HX3.out (Nat.le_refl _) _ _⟩
        · rw [if_neg hen] at hr
          simp only [Prod.mk.injEq] at hr
          obtain ⟨rfl, rfl, rfl, rfl⟩ := hr
          have t5 : decide ((b.length : Int) - (k : Int) < (n8 : Int)) = false := by simp; omega
          obtain ⟨X, hX⟩ : ∃ X, (b.drop k).take n8 = X := ⟨_, rfl⟩
          have hXl : X.length = n8 := by rw [← hX]; simp; omega
          obtain ⟨bb, off, rfl, _⟩ := HB.out.2.2.2 k (by omega)
          have hBX := HB.out.sub k n8 (by omega)
          rw [hX, Option.map_some, add_none] at hBX
          have HBX : Hid (Byt w (some ⟨bb, off + k, none⟩) (cap - k) X) := hBX
          have HXl : Hid (X.length = n8) := hXl
          rw [hX]
          have hne : ¬ cap - k = 0 := by omega
          have hkn : (k : Int) ≤ (k : Int) + (n8 : Int) := by omega
          have hkn2 : (k : Int) + (n8 : Int) ≤ (cap : Int) := by omega
          clear hX hXl hBX
          go_enter Try.func19, Try.ntmps19
          go_wp2_with fail
          have hwz := HWa.out
          rw [hwz]
          clear hwz
          refine (rget_is _ _ cap b p _ N k 0 HG.out (HB.out.below HXa.out) rfl).mono ?_
          rintro e wq ⟨rfl, hw⟩
          have hw' := hw.symm; clear hw; subst hw'
          go_wp2_with (at_make; refine wpList_unguard rfl ?_; refine wpList_make_zeroK .u64 rfl _ _ rfl _ _ n8 rfl rfl (by omega) (by omega) (by omega) ?_; intro w2 hg2 hb2)
          have hX2 : Ex wa w2 := hb2
          refine (rright_is N _ n8 n8 _ (by omega) true HR.out).mono ?_
          rintro e w3 ⟨rfl, hx3⟩
          have HX3a : Hid (Ex wa w3) := hX2.trans hx3
          have HX3 : Hid (Ex w w3) := HXa.out.trans HX3a.out
          have HF3 : Hid (FAt w3 w.heap.size 0 (.slice none 0 0) 27) := HF.out.below HX3a.out
          clear hX2 hx3 hg2 hb2 d0 d1 f0 f1
          obtain ⟨d0, d1⟩ := HF3.out.all
          obtain ⟨f0, f1⟩ := HF3.out.fro
          have HBX3 : Hid (Byt w3 (some ⟨bb, off + k, none⟩) (cap - k) X) := HBX.out.below HX3.out
          go_wp2_with (first
            | (refine wpList_build_own rfl 45 rfl 0 [] rfl (by decide) (fun _ => by kernel_rfl) w3.heap.size (Nat.le_refl _) ?_; intro g45 w45 ho45 hx45)
            | (at_builtin; refine wpList_append_byt rfl (.tmp 45) (.tmp 53) rfl w3.heap.size _ [] rfl ho45 _ _ _ X rfl (by have := HXl.out; omega) (HBX3.out.below hx45) (by have := HXl.out; simp; omega) (Ex.size hx45) ?_; intro v54 w54 ho54 hg54; have X54 : Ex w3 w54 := step_below0 hx45 (Ex.size hx45) ho45 hg54; clear hg54; rw [List.nil_append] at ho54; obtain ⟨a54, c54, hv54, hb54⟩ := ho54.byt; subst hv54; have HF54 := HF3.out.below X54; have fc0 := HF54.all.1; have fc1 := HF54.all.2; have fz0 := HF54.fro.1; have fz1 := HF54.fro.2))
          have hO := ((ho54.other (g := w.heap.size) (k := 0) (u := .int .i64 N) HF3.out.lt).other (g := w.heap.size) (k := 1) (u := .slice a54 X.length c54) HF3.out.lt).mono (Ex.size HX3.out)
          refine bodyPost_ret (res_fil3 (g := w.heap.size) (k := N) (.inr rfl) rfl rfl rfl rfl (HF54.zero2 N _)) rfl ⟨_, ret3 rfl (I.int_num (by omega)) rfl, ?_, Below.fset (HX3.out.trans X54) (Nat.le_refl _) _ _⟩
          exact hO
  · rw [if_pos he] at hr
    simp only [Prod.mk.injEq] at hr
    obtain ⟨rfl, rfl, rfl, rfl⟩ := hr
    have tne : ((e1 : Int) != 0) = true := by simp; omega
    go_enter Try.func19, Try.ntmps19
    go_wp2_with fail
    have hwz := HWa.out
    rw [hwz]
    clear hwz
    refine (rget_is a _ cap b p _ N k e1 HG.out (HB.out.below HXa.out) rfl).mono ?_
    rintro e wq ⟨rfl, hw⟩
    have hw' := hw.symm; clear hw; subst hw'
    go_wp2_with fail
    refine bodyPost_ret (res_fil3 (g := w.heap.size) (k := 0) (a := none) (n := 0) (cap := 0) (.inr rfl) rfl rfl rfl rfl (HF.out.zero2 0 (.slice none 0 0))) rfl ⟨_, rfl, own_nil _ _, Below.fset HXa.out (Nat.le_refl _) _ _⟩
end Go.Proofs.Ytadcbefgleiijaa
