/-
  in, few and known of the statements of layer 9.
-/
import Derived.Test.YtadcbefgleiijaaFace
namespace Go.Proofs.Ytadcbefgleiijaa
open Go.RowKit
set_option linter.unusedVariables false
set_option linter.unusedSimpArgs false
set_option maxRecDepth 100000 in
set_option maxHeartbeats 2000000 in
theorem in_is (k : Int) (a : Option Addr) (n cap : Nat) (w : World) : Calls Try.prog 13 #[fv k (.slice a n cap)] w fun e w' => e = .returned (fv k (.slice a n cap)) ∧ Ex w w' := by
  unfold fv
  go_enter Try.func13, Try.ntmps13
  go_wp2_with fail
  exact bodyPost_ret (v := fv k (.slice a n cap)) (by simp [results, Try.results13, go_sem, fv]) rfl ⟨rfl, ((Below.refl _ _).alloc (Nat.le_refl _) _).alloc (by simp) _⟩
set_option maxRecDepth 100000 in
theorem few_is (a : Option Addr) (n cap : Nat) (l : List (List UInt8)) (w : World) (hn : n = l.length) (hB : Rd st w a cap l) :
    Calls Try.prog 21 #[.slice a n cap] w fun e w' => e = .returned (.slice a (l.take 40).length cap) ∧ w' = w := by
  subst hn
  have hcl := hB.1
  have hcm := hB.2.1
  unfold maxLen at hcm
  clear hB
  by_cases h : 40 < l.length
  · have t : decide (40 < (l.length : Int)) = true := by simp; omega
    have e : (l.take 40).length = 40 := by simp; omega
    rw [e]
    clear e
    go_enter Try.func21, Try.ntmps21
    go_wp2_with fail
    go_ret
    exact ⟨rfl, rfl⟩
  · have t : decide (40 < (l.length : Int)) = false := by simp; omega
    have e : (l.take 40).length = l.length := by simp; omega
    rw [e]
    clear e
    go_enter Try.func21, Try.ntmps21
    go_wp2_with fail
    go_ret
    exact ⟨rfl, rfl⟩
namespace Fl
theorem bits_nil : bits [] = 64 := rfl
theorem bytes_nil : bytes [] = [0, 0, 0, 0, 0, 0, 0, 0] := by
  unfold bytes; rw [bits_nil, has_nil, fil_none]; rfl
theorem may_nil (s : List UInt8) : may 64 [0, 0, 0, 0, 0, 0, 0, 0] s = false := by
  have h := may_built [] s
  rw [bytes_nil, bits_nil, has_nil] at h
  exact h
end Fl
set_option maxRecDepth 100000 in
set_option maxHeartbeats 4000000 in
theorem known_any (w : World) : Calls Try.prog 20 #[] w fun e w' => e = .returned (.bool true) ∧ Ex w w' := by
  obtain ⟨s, hs⟩ : ∃ s : List UInt8, s = [97] := ⟨_, rfl⟩
  have hsl : s.length = 1 := by rw [hs]; rfl
  have hstr : (⟨#[97]⟩ : ByteArray) = str s := by rw [hs]; rfl
  obtain ⟨k, hk⟩ : ∃ k, Fl.bits [s] = k := ⟨_, rfl⟩
  obtain ⟨B, hB⟩ : ∃ B, Fl.bytes [s] = B := ⟨_, rfl⟩
  have e2 : Fl.bits [s, s] = k := by rw [← hk]; exact (Fl.same (by simp)).1
  have e3 : Fl.bytes [s, s] = B := by rw [← hB]; exact (Fl.same (by simp)).2
  have hm : Fl.may (k : Int) B s = true := by rw [← hk, ← hB]; exact Fl.may_in (by simp)
  have hBl : B.length ≤ 8192 := by
    have h1 := Fl.bytes_len [s]
    have h2 := (Fl.bits_is [s]).bounds
    rw [hB] at h1
    omega
  have HK : Hid (Fl.bits [s] = k) := hk
  have HBB : Hid (Fl.bytes [s] = B) := hB
  have HE2 : Hid (Fl.bits [s, s] = k) := e2
  have HE3 : Hid (Fl.bytes [s, s] = B) := e3
  have HM : Hid (Fl.may (k : Int) B s = true) := hm
  have HL : Hid (s.length = 1) := hsl
  clear hs hk hB e2 e3 hm hsl
  go_enter Try.func20, Try.ntmps20
  go_wp2_with fail
  refine (b_build none 0 0 [] _ rfl (Rd.nil _) (by simp) (by simp)).mono ?_
  rintro e w1 ⟨a1, c1, rfl, hb1, hx1⟩
  rw [Fl.bytes_nil] at hb1
  rw [Fl.bits_nil, Fl.bytes_nil]
  obtain ⟨wf, hwf⟩ : ∃ wf, w1.alloc (Obj.cells #[Value.int IntKind.i64 64, Value.slice a1 8 c1] 25) = wf := ⟨_, rfl⟩
  have hxf : Ex w1 wf := by rw [← hwf]; exact (Below.refl _ _).alloc (Nat.le_refl _) _
  have HFf : Hid (FAt wf w1.heap.size 64 (.slice a1 8 c1) 25) := (by rw [← hwf]; exact FAt.new w1 64 _ 25 : FAt wf w1.heap.size 64 (.slice a1 8 c1) 25)
  have HBf : Hid (Byt wf a1 c1 [0, 0, 0, 0, 0, 0, 0, 0]) := hb1.below hxf
  have HXf : Hid (Ex w wf) := hx1.trans hxf
  have HWf : Hid (w1.alloc (Obj.cells #[Value.int IntKind.i64 64, Value.slice a1 8 c1] 25) = wf) := hwf
  have hL2 := Rd.laid (enc := st) wf 9 [s, s] (by simp)
  have HL2 : Hid (Rd st (wf.alloc (Obj.cells #[Value.string (str s), Value.string (str s)] 9)) (some ⟨wf.heap.size, 0, none⟩) 2 [s, s]) := hL2
  have HX2 : Hid (Ex w (wf.alloc (Obj.cells #[Value.string (str s), Value.string (str s)] 9))) := HXf.out.trans ((Below.refl _ _).alloc (Nat.le_refl _) _)
  have HXf2 : Hid (Ex wf (wf.alloc (Obj.cells #[Value.string (str s), Value.string (str s)] 9))) := (Below.refl _ _).alloc (Nat.le_refl _) _
  clear hb1 hx1 hwf hxf hL2
  simp only [fv]
  have e4 := HWf.out
  go_wp2_with fail
  refine (b_build _ 2 2 [s, s] _ rfl HL2.out (by simp) (by have := HL.out; simp; omega)).mono ?_
  rintro e w2 ⟨a2, c2, rfl, hb2, hx2⟩
  rw [HE3.out] at hb2
  rw [HE2.out, HE3.out]
  obtain ⟨wg, hwg⟩ : ∃ wg, w2.alloc (Obj.cells #[Value.int IntKind.i64 (k : Int), Value.slice a2 B.length c2] 25) = wg := ⟨_, rfl⟩
  have hxg : Ex w2 wg := by rw [← hwg]; exact (Below.refl _ _).alloc (Nat.le_refl _) _
  have HXfg : Hid (Ex wf wg) := HXf2.out.trans (hx2.trans hxg)
  have HFg : Hid (FAt wg w2.heap.size k (.slice a2 B.length c2) 25) := (by rw [← hwg]; exact FAt.new w2 k _ 25 : FAt wg w2.heap.size k (.slice a2 B.length c2) 25)
  have HBg : Hid (Byt wg a2 c2 B) := hb2.below hxg
  have HXg : Hid (Ex w wg) := HXf.out.trans HXfg.out
  have hL1 := Rd.laid (enc := st) wg 9 [s] (by simp)
  have HL1 : Hid (Rd st (wg.alloc (Obj.cells #[Value.string (str s)] 9)) (some ⟨wg.heap.size, 0, none⟩) 1 [s]) := hL1
  have HXg2 : Hid (Ex wg (wg.alloc (Obj.cells #[Value.string (str s)] 9))) := (Below.refl _ _).alloc (Nat.le_refl _) _
  have e5 := hwg
  clear hb2 hx2 hwg hxg hL1 HX2 HXf2 e4
  simp only [fv]
  go_wp2_with fail
  refine (b_build _ 1 1 [s] _ rfl HL1.out (by simp) (by have := HL.out; simp; omega)).mono ?_
  rintro e w3 ⟨a3, c3, rfl, hb3, hx3⟩
  rw [HBB.out] at hb3
  rw [HK.out, HBB.out]
  obtain ⟨wh, hwh⟩ : ∃ wh, w3.alloc (Obj.cells #[Value.int IntKind.i64 (k : Int), Value.slice a3 B.length c3] 25) = wh := ⟨_, rfl⟩
  have hxh : Ex w3 wh := by rw [← hwh]; exact (Below.refl _ _).alloc (Nat.le_refl _) _
  have HXgh : Hid (Ex wg wh) := HXg2.out.trans (hx3.trans hxh)
  have HFh : Hid (FAt wh w3.heap.size k (.slice a3 B.length c3) 25) := (by rw [← hwh]; exact FAt.new w3 k _ 25 : FAt wh w3.heap.size k (.slice a3 B.length c3) 25)
  have HBh : Hid (Byt wh a3 c3 B) := hb3.below hxh
  have HXh : Hid (Ex w wh) := HXg.out.trans HXgh.out
  have HFgh : Hid (FAt wh w2.heap.size k (.slice a2 B.length c2) 25) := HFg.out.below HXgh.out
  have HBgh : Hid (Byt wh a2 c2 B) := HBg.out.below HXgh.out
  have HFfh : Hid (FAt wh w1.heap.size 64 (.slice a1 8 c1) 25) := HFf.out.below (HXfg.out.trans HXgh.out)
  have HBfh : Hid (Byt wh a1 c1 [0, 0, 0, 0, 0, 0, 0, 0]) := HBf.out.below (HXfg.out.trans HXgh.out)
  have e6 := hwh
  obtain ⟨f0, f1⟩ := HFfh.out.all
  obtain ⟨g0, g1⟩ := HFgh.out.all
  obtain ⟨h0, h1⟩ := HFh.out.all
  have hs1 := run_str (n := 8) HBfh.out rfl
  have hst8 := str_toList [0, 0, 0, 0, 0, 0, 0, 0]
  clear hb3 hx3 hwh hxh e5
  simp only [fv]
  go_wp2_with fail
  refine (b_may 64 a1 8 c1 [0, 0, 0, 0, 0, 0, 0, 0] s _ rfl HBfh.out (by simp) (by have := HL.out; omega) ⟨by omega, by omega⟩ false (Fl.may_nil s)).mono ?_
  rintro e wm ⟨rfl, hxm⟩
  have HXm : Hid (Ex wh wm) := hxm
  obtain ⟨g0', g1'⟩ := (HFgh.out.below hxm).all
  clear hxm e6
  go_wp2_with fail
  refine (b_may k a2 B.length c2 B s _ rfl (HBgh.out.below HXm.out) (by omega) (by have := HL.out; omega) (by rw [← HK.out]; exact Fl.bits_i6 _) true HM.out).mono ?_
  rintro e wn ⟨rfl, hxn⟩
  have HXn : Hid (Ex wh wn) := HXm.out.trans hxn
  obtain ⟨g0'', g1''⟩ := (HFgh.out.below HXn.out).all
  obtain ⟨h0'', h1''⟩ := (HFh.out.below HXn.out).all
  have hs2 := run_str (n := B.length) (HBgh.out.below HXn.out) rfl
  have hs3 := run_str (n := B.length) (HBh.out.below HXn.out) rfl
  clear hxn
  go_wp2_with fail
  go_ret
  exact ⟨rfl, HXh.out.trans HXn.out⟩
end Go.Proofs.Ytadcbefgleiijaa
