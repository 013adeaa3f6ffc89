/-
  The walk of TicksNarrow.
-/
import Derived.Test.YtaehchaimlklnaaTrise
namespace Go.Proofs.Ytaehchaimlklnaa
open Go.RowKit
set_option linter.unusedVariables false
set_option linter.unusedSimpArgs false
theorem Tk.span_le (l : List Int) (lo hi : Int) : (Tk.span (Tk.ix l) lo hi).1 ≤ l.length + 3 ∧ (Tk.span (Tk.ix l) lo hi).2 ≤ l.length + 3 := by
  have h1 := Tk.below_le (Tk.ix l).a lo
  have h2 : (Tk.ix l).a.length = (l.length + 3) / 4 := Tk.evs_len l
  have h3 : (Tk.ix l).r.toNat = l.length := Int.toNat_natCast _
  unfold Tk.span
  split
  · simp
  · simp only
    refine ⟨by omega, ?_⟩
    split
    · omega
    · omega
theorem Tk.build_ix {l : List Int} (hl : l.length ≤ 1048576) (h : Tk.Rise l) : Tk.build l = (Tk.ix l, 0) := by
  unfold Tk.build
  rw [if_pos ⟨hl, h⟩]
theorem Tk.evs_mem {l : List Int} {x : Int} (h : x ∈ Tk.evs l) : x ∈ l := by
  unfold Tk.evs at h
  rw [List.mem_map] at h
  obtain ⟨i, hi, rfl⟩ := h
  rw [List.mem_range] at hi
  rw [Tk.at0_eq (show 4 * i < l.length by omega)]
  exact List.getElem_mem _
theorem Tk.lst_mem {l : List Int} (h : 0 < l.length) : Tk.lst l ∈ l := by
  unfold Tk.lst
  rw [Tk.at0_eq (show l.length - 1 < l.length by omega)]
  exact List.getElem_mem _
theorem Tk.lst_ok {l : List Int} (h : ∀ x ∈ l, D.ok x) : D.ok (Tk.lst l) := by
  cases l with
  | nil => rw [Tk.lst_nil]; exact ⟨by omega, by omega⟩
  | cons a t => exact h _ (Tk.lst_mem (by simp))
namespace ticksNarrow
set_option maxRecDepth 100000 in
set_option maxHeartbeats 8000000 in
theorem walk (a0 : Int) (p1 : Option Addr) (c1 : Nat) (l1 : List Int) (a2 : Int) (a3 : Int) (a4 : Int) (a5 : Int) (w : World) (w0 : -9223372036854775808 ≤ a0 ∧ a0 ≤ 9223372036854775807) (b1 : Rd z64 w p1 c1 l1) (m1 : ∀ x ∈ l1, In64 x) (w1 : l1.length ≤ 17592186043904) (w2 : -9223372036854775808 ≤ a2 ∧ a2 ≤ 9223372036854775807) (w3 : -9223372036854775808 ≤ a3 ∧ a3 ≤ 9223372036854775807) (w4 : -9223372036854775808 ≤ a4 ∧ a4 ≤ 9223372036854775807) (w5 : -9223372036854775808 ≤ a5 ∧ a5 ≤ 9223372036854775807) :
    Calls Try.prog 7 #[.int .i64 a0, .slice p1 l1.length c1, .int .i64 a2, .int .i64 a3, .int .i64 a4, .int .i64 a5] w fun e w' => e = .returned (.bool true) ∧ Below w.heap.size w w' := by
  obtain ⟨w01, w02⟩ := w0
  obtain ⟨w21, w22⟩ := w2
  obtain ⟨w31, w32⟩ := w3
  obtain ⟨w41, w42⟩ := w4
  obtain ⟨w51, w52⟩ := w5
  have HB1 : Hid (Rd z64 w p1 c1 l1) := b1
  have HM1 : Hid (∀ x ∈ l1, D.ok x) := (fun x hx => m1 x hx : ∀ x ∈ l1, D.ok x)
  obtain ⟨B, hb⟩ : ∃ B, a0.tmod 1099511627776 = B := ⟨_, rfl⟩
  have hb1 : -1099511627776 < B := by rw [← hb]; exact Int.lt_tmod_of_pos a0 (by omega)
  have hb2 : B < 1099511627776 := by rw [← hb]; exact Int.tmod_lt_of_pos a0 (by omega)
  clear b1 m1
  go_enter Try.func7, Try.ntmps7
  go_wp2_with fail
  refine (rising_is a0 p1 _ c1 l1 _ rfl HB1.out HM1.out ⟨w01, w02⟩ B hb).mono ?_
  rintro e wa ⟨pl, cl, l, rfl, hrl, hRi, hll, hrange, hxa⟩
  have hcl := hrl.1
  have hcm := hrl.2.1
  unfold maxLen at hcm
  have HRl : Hid (Rd z64 wa pl cl l) := hrl
  have hlok : ∀ x ∈ l, D.ok x := fun x hx => by have := hrange x hx; exact ⟨by omega, by omega⟩
  have HLok : Hid (∀ x ∈ l, D.ok x) := hlok
  have HXa : Hid (Ex w wa) := hxa
  have HEok : Hid (∀ x ∈ Tk.evs l, D.ok x) := (fun x hx => hlok x (Tk.evs_mem hx) : ∀ x ∈ Tk.evs l, D.ok x)
  obtain ⟨M, hM⟩ : ∃ M, Tk.lst l = M := ⟨_, rfl⟩
  have HMok : Hid (D.ok M) := (by rw [← hM]; exact Tk.lst_ok hlok : D.ok M)
  obtain ⟨A, hA⟩ : ∃ A, Tk.evs l = A := ⟨_, rfl⟩
  have hAl : A.length = (l.length + 3) / 4 := by rw [← hA]; exact Tk.evs_len l
  have hix : Tk.ix l = ⟨l.length, M, A⟩ := by unfold Tk.ix; rw [hM, hA]
  have hbuild := Tk.build_ix (show l.length ≤ 1048576 by omega) hRi
  rw [hix] at hbuild
  have HBu : Hid (Tk.build l = (⟨l.length, M, A⟩, 0)) := hbuild
  rw [hA] at HEok
  have hall := Tk.span_all (l := l) (lo := -9223372036854775808) (hi := 9223372036854775807) (by omega) hRi (fun t ht => (hlok t ht).1) (fun t ht => (hlok t ht).2) (by omega)
  have hpl := Tk.span_places l
  have hle := Tk.span_le l
  rw [hix] at hall
  rw [hix] at hpl hle
  have HAll : Hid (Tk.span ⟨l.length, M, A⟩ (-9223372036854775808) 9223372036854775807 = (0, l.length)) := hall
  have HPl : Hid (∀ lo hi, (Tk.span ⟨l.length, M, A⟩ lo hi).1 % 4 = 0 ∧ ((Tk.span ⟨l.length, M, A⟩ lo hi).2 % 4 = 0 ∨ (Tk.span ⟨l.length, M, A⟩ lo hi).2 = l.length)) := hpl
  have HLe : Hid (∀ lo hi, (Tk.span ⟨l.length, M, A⟩ lo hi).1 ≤ l.length + 3 ∧ (Tk.span ⟨l.length, M, A⟩ lo hi).2 ≤ l.length + 3) := hle
  have hA60 : A.length ≤ 15 := by omega
  have HNr : Hid (∀ p q r s : Int, p ≤ r → s ≤ q → ((Tk.span ⟨l.length, M, A⟩ r s).1 = (Tk.span ⟨l.length, M, A⟩ r s).2 ∨ ((Tk.span ⟨l.length, M, A⟩ p q).1 ≤ (Tk.span ⟨l.length, M, A⟩ r s).1 ∧ (Tk.span ⟨l.length, M, A⟩ r s).2 ≤ (Tk.span ⟨l.length, M, A⟩ p q).2))) :=
    (fun p q r s h1 h2 => Tk.span_narrow ⟨l.length, M, A⟩ h1 h2 (by simp only; omega) : ∀ p q r s : Int, p ≤ r → s ≤ q → ((Tk.span ⟨l.length, M, A⟩ r s).1 = (Tk.span ⟨l.length, M, A⟩ r s).2 ∨ ((Tk.span ⟨l.length, M, A⟩ p q).1 ≤ (Tk.span ⟨l.length, M, A⟩ r s).1 ∧ (Tk.span ⟨l.length, M, A⟩ r s).2 ≤ (Tk.span ⟨l.length, M, A⟩ p q).2)))
  have HLm : Hid (D.ok (l.length : Int)) := (⟨by omega, by omega⟩ : D.ok (l.length : Int))
  clear hrl hlok hxa hM hA hAl hix hbuild hall hpl hle hRi hrange
  go_wp2_with fail
  refine (t_build pl l.length cl l _ rfl HRl.out HLok.out (by omega) ⟨l.length, M, A⟩ 0 HBu.out).mono ?_
  rintro e wb ⟨p2, c2, rfl, hr2, hx2⟩
  have hcl2 := hr2.1
  have hcm2 := hr2.2.1
  unfold maxLen at hcm2
  simp only at hr2 hcl2
  obtain ⟨wc, hwc⟩ : ∃ wc, wb.alloc (Obj.cells #[Value.int IntKind.i64 l.length, Value.int IntKind.i64 M, Value.slice p2 A.length c2] 24) = wc := ⟨_, rfl⟩
  have hxc : Ex wb wc := by rw [← hwc]; exact (Below.refl _ _).alloc (Nat.le_refl _) _
  have HFc : Hid (XAt wc wb.heap.size l.length M (.slice p2 A.length c2) 24) := (by rw [← hwc]; exact XAt.new wb l.length M _ 24 : XAt wc wb.heap.size l.length M (.slice p2 A.length c2) 24)
  have HRc : Hid (Rd z64 wc p2 c2 A) := hr2.below hxc
  have HXc : Hid (Ex w wc) := (HXa.out.trans hx2).trans hxc
  obtain ⟨g0, g1, g2⟩ := HFc.out.all
  clear hr2 hx2 hxc
  simp only [xv]
  go_wp2_with fail
  refine (within_any a2 300 _ w21 w22 (by omega) (by omega)).mono ?_
  rintro e wq ⟨r1, hr1, rfl, hw⟩
  have hw' := hw.symm; clear hw; subst hw'
  obtain ⟨P, hP⟩ : ∃ P, B + (r1 : Int) - 10 = P := ⟨_, rfl⟩
  have hP1 : -1099511627786 ≤ P := by omega
  have hP2 : P ≤ 1099511628076 := by omega
  go_wp2_with fail
  refine (within_any a3 300 _ w31 w32 (by omega) (by omega)).mono ?_
  rintro e wq ⟨r2, hr2, rfl, hw⟩
  have hw' := hw.symm; clear hw; subst hw'
  obtain ⟨Q, hQ⟩ : ∃ Q, P + (r2 : Int) = Q := ⟨_, rfl⟩
  have hQ1 : -1099511627786 ≤ Q := by omega
  have hQ2 : Q ≤ 1099511628376 := by omega
  go_wp2_with fail
  refine (within_any a4 50 _ w41 w42 (by omega) (by omega)).mono ?_
  rintro e wq ⟨r3, hr3, rfl, hw⟩
  have hw' := hw.symm; clear hw; subst hw'
  obtain ⟨R, hR⟩ : ∃ R, P + (r3 : Int) = R := ⟨_, rfl⟩
  have hR1 : -1099511627786 ≤ R := by omega
  have hR2 : R ≤ 1099511628376 := by omega
  have hPR : P ≤ R := by omega
  go_wp2_with fail
  refine (within_any a5 50 _ w51 w52 (by omega) (by omega)).mono ?_
  rintro e wq ⟨r4, hr4, rfl, hw⟩
  have hw' := hw.symm; clear hw; subst hw'
  obtain ⟨S, hS⟩ : ∃ S, Q - (r4 : Int) = S := ⟨_, rfl⟩
  have hS1 : -1099511627886 ≤ S := by omega
  have hS2 : S ≤ 1099511628376 := by omega
  have hSQ : S ≤ Q := by omega
  have hn := HNr.out P Q R S hPR hSQ
  have hpl := HPl.out P Q
  have hle1 := HLe.out P Q
  have hle2 := HLe.out R S
  obtain ⟨i, j, hs1⟩ : ∃ i j, Tk.span ⟨l.length, M, A⟩ P Q = (i, j) := ⟨_, _, rfl⟩
  obtain ⟨k, m, hs2⟩ : ∃ k m, Tk.span ⟨l.length, M, A⟩ R S = (k, m) := ⟨_, _, rfl⟩
  rw [hs1, hs2] at hn
  rw [hs1] at hpl hle1
  rw [hs2] at hle2
  simp only at hn hpl hle1 hle2
  obtain ⟨hle11, hle12⟩ := hle1
  obtain ⟨hle21, hle22⟩ := hle2
  have HS1 : Hid (Tk.span ⟨l.length, M, A⟩ P Q = (i, j)) := hs1
  have HS2 : Hid (Tk.span ⟨l.length, M, A⟩ R S = (k, m)) := hs2
  have HN : Hid (k = m ∨ (i ≤ k ∧ m ≤ j)) := hn
  have hi4 : (i : Int) % 4 = 0 := by omega
  have hi4' : (i : Int).tmod 4 = 0 := by rw [Int.tmod_eq_emod_of_nonneg (by omega)]; exact hi4
  have HJ : Hid (j % 4 = 0 ∨ j = l.length) := hpl.2
  clear hn hpl hs1 hs2 HPl HLe HNr
  go_wp2_with fail
  refine (t_span l.length M _ _ c2 A P Q _ rfl HRc.out HEok.out (by omega) HLm.out HMok.out ⟨by omega, by omega⟩ ⟨by omega, by omega⟩ i j HS1.out).mono ?_
  rintro e wd ⟨rfl, hxd⟩
  have HRd : Hid (Rd z64 wd p2 c2 A) := HRc.out.below hxd
  have HFd : Hid (XAt wd wb.heap.size l.length M (.slice p2 A.length c2) 24) := HFc.out.below hxd
  have HXd : Hid (Ex w wd) := HXc.out.trans hxd
  clear hxd g0 g1 g2
  obtain ⟨g0, g1, g2⟩ := HFd.out.all
  go_wp2_with fail
  refine (t_span l.length M _ _ c2 A R S _ rfl HRd.out HEok.out (by omega) HLm.out HMok.out ⟨by omega, by omega⟩ ⟨by omega, by omega⟩ k m HS2.out).mono ?_
  rintro e we ⟨rfl, hxe⟩
  have HRe : Hid (Rd z64 we p2 c2 A) := HRd.out.below hxe
  have HFe : Hid (XAt we wb.heap.size l.length M (.slice p2 A.length c2) 24) := HFd.out.below hxe
  have HXe : Hid (Ex w we) := HXd.out.trans hxe
  clear hxe g0 g1 g2
  obtain ⟨g0, g1, g2⟩ := HFe.out.all
  go_wp2_with fail
  refine (t_span l.length M _ _ c2 A _ _ _ rfl HRe.out HEok.out (by omega) HLm.out HMok.out ⟨by omega, by omega⟩ ⟨by omega, by omega⟩ 0 l.length HAll.out).mono ?_
  rintro e wf ⟨rfl, hxf⟩
  have HXf : Hid (Ex w wf) := HXe.out.trans hxf
  clear hxf g0 g1 g2 hP hQ hR hS
  obtain ⟨q, hq⟩ : ∃ q : Nat, j % 4 = q := ⟨_, rfl⟩
  have hq1 : (j : Int) % 4 = (q : Int) := by omega
  have hq2 : (j : Int).tmod 4 = (q : Int) := by rw [Int.tmod_eq_emod_of_nonneg (by omega)]; exact hq1
  have hjl : q = 0 ∨ j = l.length := by have := HJ.out; omega
  have HJl : Hid (q = 0 ∨ j = l.length) := hjl
  clear hq hjl
  by_cases hq0 : q = 0
  · have tq : ((q : Int) != 0) = false := by simpa using hq0
    clear hq0
    by_cases hkm : k = m
    · have tk : ((k : Int) == (m : Int)) = true := by simp; omega
      clear hkm
      go_wp2_with fail
      refine (known_any _).mono ?_
      rintro e wg ⟨rfl, hxg⟩
      go_wp2_with fail
      go_ret
      exact ⟨rfl, HXf.out.trans hxg⟩
    · have tk : ((k : Int) == (m : Int)) = false := by simp; omega
      have hik : i ≤ k := by have := HN.out; omega
      have hmj : m ≤ j := by have := HN.out; omega
      have t1 : decide ((i : Int) ≤ (k : Int)) = true := by simp; omega
      have t2 : decide ((m : Int) ≤ (j : Int)) = true := by simp; omega
      clear hkm
      go_wp2_with fail
      refine (known_any _).mono ?_
      rintro e wg ⟨rfl, hxg⟩
      go_wp2_with fail
      go_ret
      exact ⟨rfl, HXf.out.trans hxg⟩
  · have tq : ((q : Int) != 0) = true := by simpa using hq0
    have hjl : j = l.length := by have := HJl.out; omega
    have tj : ((j : Int) != (l.length : Int)) = false := by simp; omega
    clear hq0 hjl
    by_cases hkm : k = m
    · have tk : ((k : Int) == (m : Int)) = true := by simp; omega
      clear hkm
      go_wp2_with fail
      refine (known_any _).mono ?_
      rintro e wg ⟨rfl, hxg⟩
      go_wp2_with fail
      go_ret
      exact ⟨rfl, HXf.out.trans hxg⟩
    · have tk : ((k : Int) == (m : Int)) = false := by simp; omega
      have hik : i ≤ k := by have := HN.out; omega
      have hmj : m ≤ j := by have := HN.out; omega
      have t1 : decide ((i : Int) ≤ (k : Int)) = true := by simp; omega
      have t2 : decide ((m : Int) ≤ (j : Int)) = true := by simp; omega
      clear hkm
      go_wp2_with fail
      refine (known_any _).mono ?_
      rintro e wg ⟨rfl, hxg⟩
      go_wp2_with fail
      go_ret
      exact ⟨rfl, HXf.out.trans hxg⟩
end ticksNarrow
end Go.Proofs.Ytaehchaimlklnaa
