/-
  The walk of BloomBits.
-/
import Derived.Test.YtadcbefgleiijaaFback
namespace Go.Proofs.Ytadcbefgleiijaa
open Go.RowKit
set_option linter.unusedVariables false
namespace Fl
theorem num8_or (P Q : Nat → Bool) (j : Nat) : num8 P j ||| num8 Q j = num8 (fun m => P m || Q m) j := by
  refine Nat.eq_of_testBit_eq fun m => ?_
  rw [Nat.testBit_or]
  by_cases hm : m < 8
  · rw [num8_bit _ _ _ hm, num8_bit _ _ _ hm, num8_bit _ _ _ hm]
  · have hz : ∀ P : Nat → Bool, (num8 P j).testBit m = false := fun P => Nat.testBit_lt_two_pow (Nat.lt_of_lt_of_le (num8_lt P j) (by have : 2 ^ 8 ≤ 2 ^ m := Nat.pow_le_pow_right (by omega) (by omega); omega))
    rw [hz, hz, hz]; rfl
/-- How many are set. -/
def cntB (P : Nat → Bool) : Nat → Nat
  | 0 => 0
  | m + 1 => cntB P m + (P m).toNat
theorem cntB_eq (a : Nat) : ∀ n, cntB (fun m => m == a) n = if a < n then 1 else 0
  | 0 => by simp [cntB]
  | n + 1 => by
    show cntB _ n + (n == a).toNat = _
    rw [cntB_eq a n]
    by_cases h : a < n
    · rw [if_pos h, if_pos (by omega), beq_eq_false_iff_ne.2 (by omega)]; rfl
    · rw [if_neg h]
      by_cases h2 : a = n
      · rw [if_pos (by omega), beq_iff_eq.2 h2.symm]; rfl
      · rw [if_neg (by omega), beq_eq_false_iff_ne.2 (by omega)]; rfl
theorem cntB_or (P Q : Nat → Bool) : ∀ n, cntB (fun m => P m || Q m) n ≤ cntB P n + cntB Q n
  | 0 => by simp [cntB]
  | n + 1 => by
    have ih := cntB_or P Q n
    show cntB _ n + (P n || Q n).toNat ≤ cntB P n + (P n).toNat + (cntB Q n + (Q n).toNat)
    have : (P n || Q n).toNat ≤ (P n).toNat + (Q n).toNat := by cases P n <;> cases Q n <;> decide
    omega
theorem cntB_list (l : List Nat) (n : Nat) : cntB (fun m => l.contains m) n ≤ l.length := by
  induction l with
  | nil =>
    have : ∀ n, cntB (fun m => ([] : List Nat).contains m) n = 0 := fun n => by
      induction n with
      | zero => rfl
      | succ n ih => show cntB _ n + _ = 0; rw [ih]; rfl
    rw [this]; simp
  | cons a l ih =>
    have h := cntB_or (fun m => m == a) (fun m => l.contains m) n
    have e : (fun m => (a :: l).contains m) = fun m => (m == a) || l.contains m := by
      funext m; exact List.contains_cons
    rw [e]
    have h1 := cntB_eq a n
    have h2 : cntB (fun m => m == a) n ≤ 1 := by rw [h1]; split <;> omega
    simp only [List.length_cons]
    omega
theorem cntB_mono (P : Nat → Bool) {m n : Nat} (h : m ≤ n) : cntB P m ≤ cntB P n := by
  induction n with
  | zero => have : m = 0 := by omega
            subst this; exact Nat.le_refl _
  | succ n ih =>
    by_cases e : m = n + 1
    · subst e; exact Nat.le_refl _
    · have := ih (by omega)
      show _ ≤ cntB P n + _
      omega
theorem cntB_pos {P : Nat → Bool} {k n : Nat} (hk : k < n) (h : P k = true) : 1 ≤ cntB P n := by
  have h1 : cntB P (k + 1) ≤ cntB P n := cntB_mono P (by omega)
  have h2 : cntB P (k + 1) = cntB P k + 1 := by show cntB P k + (P k).toNat = _; rw [h]; rfl
  omega
theorem has_one (s : List UInt8) (n : Nat) : has [s] n = fun m => (four s n).contains m := by funext m; simp [has]
theorem has_two (s t : List UInt8) (n : Nat) : has [s, t] n = fun m => has [s] n m || has [t] n m := by funext m; simp [has]
theorem bits_few {l : List (List UInt8)} (h : l.length ≤ 8) : bits l = 64 := width_small (Nat.le_trans (T.bld_len l) h)
theorem bytes_few {l : List (List UInt8)} (h : l.length ≤ 8) : bytes l = fil 64 (has l 64) := by unfold bytes; rw [bits_few h]
theorem cnt_text (s : List UInt8) : 1 ≤ cntB (has [s] 64) 64 ∧ cntB (has [s] 64) 64 ≤ 4 := by
  rw [has_one]
  refine ⟨cntB_pos (k := pos s 64 0) (pos_lt s (by omega) 0) (by simp [four]), ?_⟩
  exact cntB_list (four s 64) 64
theorem fil_bAt {n : Nat} {P : Nat → Bool} {j : Nat} (h : j < n / 8) : M.bAt (fil n P) j = num8 P j := by
  unfold M.bAt
  rw [List.getD_eq_getElem?_getD, fil_at h, Option.getD_some, byteOf_toNat]
end Fl
end Go.Proofs.Ytadcbefgleiijaa
namespace Go.Proofs.Ytadcbefgleiijaa.bloomBits
open Go.RowKit Go.Proofs.Ytadcbefgleiijaa
set_option linter.unusedVariables false
set_option linter.unusedSimpArgs false
set_option maxRecDepth 100000 in
set_option maxHeartbeats 8000000 in
theorem walk (s0 : List UInt8) (s1 : List UInt8) (w : World) (w0 : s0.length ≤ 140737488351232) (w1 : s1.length ≤ 140737488351232) :
    Calls Try.prog 8 #[.string (str s0), .string (str s1)] w fun e w' => e = .returned (.bool true) ∧ Below w.heap.size w w' := by
  obtain ⟨P, hP⟩ : ∃ P, Fl.has [s0] 64 = P := ⟨_, rfl⟩
  obtain ⟨Q, hQ⟩ : ∃ Q, Fl.has [s1] 64 = Q := ⟨_, rfl⟩
  obtain ⟨R, hR⟩ : ∃ R, Fl.has [s0, s1] 64 = R := ⟨_, rfl⟩
  have hPQ : R = fun m => P m || Q m := by rw [← hR, Fl.has_two, hP, hQ]
  have hcnt := Fl.cnt_text s0
  rw [hP] at hcnt
  obtain ⟨B0, hB0⟩ : ∃ B, Fl.bytes [s0] = B := ⟨_, rfl⟩
  obtain ⟨B1, hB1⟩ : ∃ B, Fl.bytes [s1] = B := ⟨_, rfl⟩
  obtain ⟨B2, hB2⟩ : ∃ B, Fl.bytes [s0, s1] = B := ⟨_, rfl⟩
  have hF0 : B0 = Fl.fil 64 P := by rw [← hB0, Fl.bytes_few (by simp), hP]
  have hF1 : B1 = Fl.fil 64 Q := by rw [← hB1, Fl.bytes_few (by simp), hQ]
  have hF2 : B2 = Fl.fil 64 R := by rw [← hB2, Fl.bytes_few (by simp), hR]
  have hl0 : B0.length = 8 := by rw [hF0, Fl.fil_len]
  have hl1 : B1.length = 8 := by rw [hF1, Fl.fil_len]
  have hl2 : B2.length = 8 := by rw [hF2, Fl.fil_len]
  have HA0 : Hid (∀ j, j < 8 → M.bAt B0 j = Fl.num8 P j) := (fun j h => by rw [hF0]; exact Fl.fil_bAt (by omega) : ∀ j, j < 8 → M.bAt B0 j = Fl.num8 P j)
  have HA1 : Hid (∀ j, j < 8 → M.bAt B1 j = Fl.num8 Q j) := (fun j h => by rw [hF1]; exact Fl.fil_bAt (by omega) : ∀ j, j < 8 → M.bAt B1 j = Fl.num8 Q j)
  have HA2 : Hid (∀ j, j < 8 → M.bAt B2 j = Fl.num8 P j ||| Fl.num8 Q j) := (fun j h => by rw [hF2, Fl.fil_bAt (by omega), Fl.num8_or, hPQ] : ∀ j, j < 8 → M.bAt B2 j = Fl.num8 P j ||| Fl.num8 Q j)
  have HE0 : Hid (Fl.bits [s0] = 64 ∧ Fl.bytes [s0] = B0) := ⟨Fl.bits_few (by simp), hB0⟩
  have HE1 : Hid (Fl.bits [s1] = 64 ∧ Fl.bytes [s1] = B1) := ⟨Fl.bits_few (by simp), hB1⟩
  have HE2 : Hid (Fl.bits [s0, s1] = 64 ∧ Fl.bytes [s0, s1] = B2) := ⟨Fl.bits_few (by simp), hB2⟩
  have HL0 : Hid (B0.length = 8) := hl0
  have HL1 : Hid (B1.length = 8) := hl1
  have HL2 : Hid (B2.length = 8) := hl2
  have HCnt : Hid (1 ≤ Fl.cntB P 64 ∧ Fl.cntB P 64 ≤ 4) := hcnt
  have HD0 : Hid (Rd st (w.alloc (Obj.cells #[Value.string (str s0)] 9)) (some ⟨w.heap.size, 0, none⟩) 1 [s0]) := Rd.laid (enc := st) w 9 [s0] (by simp)
  have HXd0 : Hid (Ex w (w.alloc (Obj.cells #[Value.string (str s0)] 9))) := (Below.refl _ _).alloc (Nat.le_refl _) _
  clear hP hQ hR hPQ hcnt hB0 hB1 hB2 hF0 hF1 hF2 hl0 hl1 hl2
  go_enter Try.func8, Try.ntmps8
  go_wp2_with fail
  refine (b_build _ 1 1 [s0] _ rfl HD0.out (by simp) (by simp; omega)).mono ?_
  rintro e wa ⟨a0, c0, rfl, hb0, hx0⟩
  rw [HE0.out.2] at hb0
  rw [HE0.out.1, HE0.out.2, HL0.out]
  obtain ⟨ba, oa, rfl⟩ : ∃ b o, a0 = some ⟨b, o, none⟩ := by obtain ⟨b, o, h, _⟩ := hb0.2.2.2 0 (by rw [HL0.out]; omega); exact ⟨b, o, h⟩
  obtain ⟨wf, hwwf⟩ : ∃ wf, wa.alloc (Obj.cells #[Value.int IntKind.i64 64, Value.slice (some ⟨ba, oa, none⟩) 8 c0] 25) = wf := ⟨_, rfl⟩
  have hxwf : Ex wa wf := by rw [← hwwf]; exact (Below.refl _ _).alloc (Nat.le_refl _) _
  have HFwf : Hid (FAt wf wa.heap.size 64 (.slice (some ⟨ba, oa, none⟩) 8 c0) 25) := (by rw [← hwwf]; exact FAt.new wa 64 _ 25 : FAt wf wa.heap.size 64 (.slice (some ⟨ba, oa, none⟩) 8 c0) 25)
  have HBa : Hid (Byt wf (some ⟨ba, oa, none⟩) c0 B0) := hb0.below hxwf
  have HXf : Hid (Ex w wf) := HXd0.out.trans (hx0.trans hxwf)
  have HD1 : Hid (Rd st (wf.alloc (Obj.cells #[Value.string (str s1)] 9)) (some ⟨wf.heap.size, 0, none⟩) 1 [s1]) := Rd.laid (enc := st) wf 9 [s1] (by simp)
  have HXd1 : Hid (Ex wf (wf.alloc (Obj.cells #[Value.string (str s1)] 9))) := (Below.refl _ _).alloc (Nat.le_refl _) _
  clear hb0 hx0 hxwf
  simp only [fv]
  go_wp2_with fail
  refine (b_build _ 1 1 [s1] _ rfl HD1.out (by simp) (by simp; omega)).mono ?_
  rintro e wb ⟨a1, c1, rfl, hb1, hx1⟩
  rw [HE1.out.2] at hb1
  rw [HE1.out.1, HE1.out.2, HL1.out]
  obtain ⟨bb, ob, rfl⟩ : ∃ b o, a1 = some ⟨b, o, none⟩ := by obtain ⟨b, o, h, _⟩ := hb1.2.2.2 0 (by rw [HL1.out]; omega); exact ⟨b, o, h⟩
  obtain ⟨wg, hwwg⟩ : ∃ wg, wb.alloc (Obj.cells #[Value.int IntKind.i64 64, Value.slice (some ⟨bb, ob, none⟩) 8 c1] 25) = wg := ⟨_, rfl⟩
  have hxwg : Ex wb wg := by rw [← hwwg]; exact (Below.refl _ _).alloc (Nat.le_refl _) _
  have HFwg : Hid (FAt wg wb.heap.size 64 (.slice (some ⟨bb, ob, none⟩) 8 c1) 25) := (by rw [← hwwg]; exact FAt.new wb 64 _ 25 : FAt wg wb.heap.size 64 (.slice (some ⟨bb, ob, none⟩) 8 c1) 25)
  have HBb : Hid (Byt wg (some ⟨bb, ob, none⟩) c1 B1) := hb1.below hxwg
  have HXfg : Hid (Ex wf wg) := HXd1.out.trans (hx1.trans hxwg)
  have HD2 : Hid (Rd st (wg.alloc (Obj.cells #[Value.string (str s0), Value.string (str s1)] 9)) (some ⟨wg.heap.size, 0, none⟩) 2 [s0, s1]) := Rd.laid (enc := st) wg 9 [s0, s1] (by simp)
  have HXd2 : Hid (Ex wg (wg.alloc (Obj.cells #[Value.string (str s0), Value.string (str s1)] 9))) := (Below.refl _ _).alloc (Nat.le_refl _) _
  clear hb1 hx1 hxwg hwwf
  simp only [fv]
  go_wp2_with fail
  refine (b_build _ 2 2 [s0, s1] _ rfl HD2.out (by simp) (by simp; omega)).mono ?_
  rintro e wc ⟨a2, c2, rfl, hb2, hx2⟩
  rw [HE2.out.2] at hb2
  rw [HE2.out.1, HE2.out.2, HL2.out]
  obtain ⟨bc, oc, rfl⟩ : ∃ b o, a2 = some ⟨b, o, none⟩ := by obtain ⟨b, o, h, _⟩ := hb2.2.2.2 0 (by rw [HL2.out]; omega); exact ⟨b, o, h⟩
  obtain ⟨wh, hwwh⟩ : ∃ wh, wc.alloc (Obj.cells #[Value.int IntKind.i64 64, Value.slice (some ⟨bc, oc, none⟩) 8 c2] 25) = wh := ⟨_, rfl⟩
  have hxwh : Ex wc wh := by rw [← hwwh]; exact (Below.refl _ _).alloc (Nat.le_refl _) _
  have HFwh : Hid (FAt wh wc.heap.size 64 (.slice (some ⟨bc, oc, none⟩) 8 c2) 25) := (by rw [← hwwh]; exact FAt.new wc 64 _ 25 : FAt wh wc.heap.size 64 (.slice (some ⟨bc, oc, none⟩) 8 c2) 25)
  have HBc : Hid (Byt wh (some ⟨bc, oc, none⟩) c2 B2) := hb2.below hxwh
  have HXgh : Hid (Ex wg wh) := HXd2.out.trans (hx2.trans hxwh)
  have HXh : Hid (Ex w wh) := HXf.out.trans (HXfg.out.trans HXgh.out)
  have HBah : Hid (Byt wh (some ⟨ba, oa, none⟩) c0 B0) := HBa.out.below (HXfg.out.trans HXgh.out)
  have HBbh : Hid (Byt wh (some ⟨bb, ob, none⟩) c1 B1) := HBb.out.below HXgh.out
  have HFah : Hid (FAt wh wa.heap.size 64 (.slice (some ⟨ba, oa, none⟩) 8 c0) 25) := HFwf.out.below (HXfg.out.trans HXgh.out)
  have HFbh : Hid (FAt wh wb.heap.size 64 (.slice (some ⟨bb, ob, none⟩) 8 c1) 25) := HFwg.out.below HXgh.out
  obtain ⟨i0, i1⟩ := HFah.out.all
  obtain ⟨j0, j1⟩ := HFbh.out.all
  obtain ⟨k0, k1⟩ := HFwh.out.all
  clear hb2 hx2 hxwh hwwg
  simp only [fv]
  go_wp2_with fail
  clear i0 i1 j0 j1 k0 k1 hwwh
  go_loopw [8, 9] (fun n i wr => ∃ j : Nat, j ≤ 8 ∧ i = .int .i64 j ∧ n = .int .i64 (Fl.cntB P (8 * j) : Int) ∧ Hid (Ex wh wr)) (fun _ i _ => 8 - (intOf i).toNat)
  case atStart => exact ⟨0, by omega, rfl, rfl, Ex.refl _⟩
  case round =>
    obtain ⟨j, hj, rfl, rfl, HXr⟩ := hrel
    by_cases hlt : j < 8
    · obtain ⟨x, hx⟩ : ∃ x, Fl.num8 P j = x := ⟨_, rfl⟩
      obtain ⟨y, hy⟩ : ∃ y, Fl.num8 Q j = y := ⟨_, rfl⟩
      have hx8 : x < 256 := by rw [← hx]; exact Fl.num8_lt P j
      have hy8 : y < 256 := by rw [← hy]; exact Fl.num8_lt Q j
      obtain ⟨z, hz⟩ : ∃ z, x ||| y = z := ⟨_, rfl⟩
      have hor : bits .or .u8 (x : Int) (y : Int) = (z : Int) := by rw [← hz]; exact I.or8 x y hx8 hy8
      obtain ⟨_, _, e1, hc1⟩ := (HBah.out.below HXr.out).2.2.2 j (by have := HL0.out; omega)
      simp only [Option.some.injEq, Addr.mk.injEq, and_true] at e1
      obtain ⟨rfl, rfl⟩ := e1
      obtain ⟨_, _, e2, hc2⟩ := (HBbh.out.below HXr.out).2.2.2 j (by have := HL1.out; omega)
      simp only [Option.some.injEq, Addr.mk.injEq, and_true] at e2
      obtain ⟨rfl, rfl⟩ := e2
      obtain ⟨_, _, e3, hc3⟩ := (HBc.out.below HXr.out).2.2.2 j (by have := HL2.out; omega)
      simp only [Option.some.injEq, Addr.mk.injEq, and_true] at e3
      obtain ⟨rfl, rfl⟩ := e3
      rw [HA0.out j hlt, hx] at hc1
      rw [HA1.out j hlt, hy] at hc2
      rw [HA2.out j hlt, hx, hy, hz] at hc3
      obtain ⟨i0, i1⟩ := (HFah.out.below HXr.out).all
      obtain ⟨j0, j1⟩ := (HFbh.out.below HXr.out).all
      obtain ⟨k0, k1⟩ := (HFwh.out.below HXr.out).all
      have tj : decide ((j : Int) < 8) = true := by simp; omega
      have tj2 : decide (j < 8) = true := by simp; omega
      have HX : Hid (Fl.num8 P j = x) := hx
      obtain ⟨n0, hn0⟩ : ∃ n0, Fl.cntB P (8 * j) = n0 := ⟨_, rfl⟩
      rw [hn0]
      have HN0 : Hid (Fl.cntB P (8 * j) = n0) := hn0
      have HC1 : Hid (wr.cell? ⟨ba, oa + j, none⟩ = some (.int .u8 (x : Int))) := hc1
      clear hx hy hz hn0
      go_wp2_with fail
      go_quiet (fail)
      go_wp2_with fail
      obtain ⟨w5, hw5⟩ : ∃ w5, w5 = wr.drewN nq := ⟨_, rfl⟩
      have HX5 : Hid (Ex wh w5) := (by rw [hw5]; exact HXr.out.trans (Ex.drewN _ _) : Ex wh w5)
      have HC5 : Hid (w5.cell? ⟨ba, oa + j, none⟩ = some (.int .u8 (x : Int))) := (by rw [hw5]; exact cell_ex HC1.out (Ex.drewN _ _) : w5.cell? ⟨ba, oa + j, none⟩ = some (.int .u8 (x : Int)))
      rw [← hw5]
      clear hw5 hc1 hc2 hc3 i0 i1 j0 j1 k0 k1 HC1 HXr
      go_loopw [8, 10] (fun n i wr => ∃ k : Nat, k ≤ 8 ∧ i = .int .u64 k ∧ n = .int .i64 (Fl.cntB P (8 * j + k) : Int) ∧ Hid (Ex w5 wr)) (fun _ i _ => 8 - (intOf i).toNat)
      case atStart => exact ⟨0, by omega, rfl, by rw [Nat.add_zero, HN0.out], Ex.refl _⟩
      case round =>
        obtain ⟨k, hk, rfl, rfl, HX6⟩ := hrel
        by_cases hk8 : k < 8
        · obtain ⟨q, hq⟩ : ∃ q, x / 2 ^ k = q := ⟨_, rfl⟩
          have hq8 : q < 256 := by rw [← hq]; exact Nat.lt_of_le_of_lt (Nat.div_le_self _ _) hx8
          have hqi : (x : Int) / 2 ^ k = (q : Int) := by rw [← hq]; simp
          have hand := I.and1b (q : Int) (by omega) (by omega)
          obtain ⟨u, hu⟩ : ∃ u, q % 2 = u := ⟨_, rfl⟩
          have hui : (q : Int) % 2 = (u : Int) := by omega
          rw [hui] at hand
          have hu2 : u ≤ 1 := by omega
          have hdiv := Fl.num8_div P j k hk8
          rw [HX.out, hq, hu] at hdiv
          have HNext : Hid (Fl.cntB P (8 * j + (k + 1)) = Fl.cntB P (8 * j + k) + u) := (by rw [hdiv]; rfl : Fl.cntB P (8 * j + (k + 1)) = Fl.cntB P (8 * j + k) + u)
          obtain ⟨n1, hn1⟩ : ∃ n1, Fl.cntB P (8 * j + k) = n1 := ⟨_, rfl⟩
          have hn1b : n1 ≤ 4 := by rw [← hn1]; exact Nat.le_trans (Fl.cntB_mono P (by omega)) HCnt.out.2
          rw [hn1]
          have HN1 : Hid (Fl.cntB P (8 * j + (k + 1)) = n1 + u) := (by rw [HNext.out, hn1] : Fl.cntB P (8 * j + (k + 1)) = n1 + u)
          have hc6 : wr.cell? ⟨ba, oa + j, none⟩ = some (.int .u8 (x : Int)) := cell_ex HC5.out HX6.out
          obtain ⟨i0, i1⟩ := (HFah.out.below (HX5.out.trans HX6.out)).all
          have tk : decide ((k : Int) < 8) = true := by simp; omega
          have tk2 : decide (k < 8) = true := by simp; omega
          clear hq hu hdiv HNext hn1
          go_wp2_with fail
          go_roundw
          case rel => exact ⟨k + 1, by omega, by go_num, by rw [HN1.out]; go_num, HX6⟩
          case measure => simp [intOf]; omega
        · obtain rfl : k = 8 := by omega
          have HX7 : Hid (Ex wh wr) := HX5.out.trans HX6.out
          have HN8 : Hid (Fl.cntB P (8 * j + 8) = Fl.cntB P (8 * (j + 1))) := (by rw [show 8 * (j + 1) = 8 * j + 8 from by omega] : Fl.cntB P (8 * j + 8) = Fl.cntB P (8 * (j + 1)))
          rw [HN8.out]
          go_wp2_with fail
          go_roundw
          case rel => exact ⟨j + 1, by omega, by go_num, rfl, HX7⟩
          case measure => simp [intOf]; omega
    · obtain rfl : j = 8 := by omega
      obtain ⟨n2, hn2⟩ : ∃ n2, Fl.cntB P (8 * 8) = n2 := ⟨_, rfl⟩
      obtain ⟨hn2a, hn2b⟩ := HCnt.out
      rw [show (64 : Nat) = 8 * 8 from rfl, hn2] at hn2a hn2b
      rw [hn2]
      have t1 : decide (1 ≤ (n2 : Int)) = true := by simp; omega
      have t2 : decide ((n2 : Int) ≤ 4) = true := by simp; omega
      have t3 : decide (1 ≤ n2) = true := by simp; omega
      have t4 : decide (n2 ≤ 4) = true := by simp; omega
      have t5 : decide ((n2 : Int) < 1) = false := by simp; omega
      have t6 : decide (4 < (n2 : Int)) = false := by simp; omega
      clear hn2
      go_wp2_with fail
      refine (known_any _).mono ?_
      rintro e wk ⟨rfl, hxk⟩
      go_wp2_with fail
      go_ret
      exact ⟨rfl, (HXh.out.trans HXr.out).trans hxk⟩
end Go.Proofs.Ytadcbefgleiijaa.bloomBits
