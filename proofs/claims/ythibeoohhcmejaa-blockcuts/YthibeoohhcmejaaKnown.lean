/-
  The statements' own small functions: few, written, alike, known.
-/
import Derived.Test.YthibeoohhcmejaaFace
import Derived.Test.YthibeoohhcmejaaStrs
import Derived.Lib.SlBytesConst
namespace Go.Proofs.Ythibeoohhcmejaa
open Go.RowKit
set_option linter.unusedVariables false

theorem few_is (s r : List UInt8) (w : World) (hs : s.length ≤ maxLen) (hr : s.take 200 = r) :
    Calls Try.prog 16 #[.string (str s)] w fun e w' => e = .returned (.string (str r)) ∧ w' = w := by
  have hss : (str s).size = s.length := str_size s
  unfold maxLen at hs
  by_cases h : 200 < s.length
  · have t1 : decide (200 < (s.length : Int)) = true := by simp; omega
    have hcut : (str s).extract 0 200 = str r := by rw [str_cut, hr]
    go_enter Try.func16, Try.ntmps16
    go_wp2
    go_ret
    exact ⟨by rw [← hcut]; rfl, rfl⟩
  · have t1 : decide (200 < (s.length : Int)) = false := by simp; omega
    have e : r = s := by rw [← hr]; exact List.take_of_length_le (by omega)
    subst e
    go_enter Try.func16, Try.ntmps16
    go_wp2
    go_ret
    exact ⟨rfl, rfl⟩
/-- The texts of which the statements speak: ten at most, each of 200 bytes at most. -/
def cutTexts (l : List (List UInt8)) : List (List UInt8) := (l.take 10).map (·.take 200)
theorem cutTexts_short (l : List (List UInt8)) : ∀ x ∈ cutTexts l, x.length ≤ 200 := by
  intro x hx
  simp only [cutTexts, List.mem_map] at hx
  obtain ⟨y, _, rfl⟩ := hx
  simp; omega
theorem cutTexts_len (l : List (List UInt8)) : (cutTexts l).length = min 10 l.length := by simp [cutTexts]
theorem written_short (L : List (List UInt8)) (h : ∀ x ∈ L, x.length ≤ 200) : (K.written L).length ≤ 212 * L.length := by
  induction L with
  | nil => simp [K.written]
  | cons x r ih =>
    have h1 := h x (by simp)
    have h2 := ih (fun y hy => h y (by simp [hy]))
    rw [K.written_cons]
    simp only [List.length_append, K.frm_len, List.length_cons]
    omega
theorem cutTexts_at {l : List (List UInt8)} {k : Nat} (hk : k < l.length) (h10 : k < 10) : (cutTexts l).take (k + 1) = (cutTexts l).take k ++ [(l[k]).take 200] := by
  have hc : k < (cutTexts l).length := by rw [cutTexts_len]; omega
  rw [List.take_succ_eq_append_getElem hc]
  congr 2
  simp [cutTexts]

set_option maxRecDepth 100000 in
theorem written_is (a : Option Addr) (n cap : Nat) (l : List (List UInt8)) (w : World) (hn : n = l.length) (hB : Rd st w a cap l) (hs : ∀ s ∈ l, s.length ≤ maxLen) (r : List UInt8) (hr : K.written (cutTexts l) = r) :
    Calls Try.prog 13 #[.slice a n cap] w fun e w' => ∃ v, e = .returned v ∧ Own w' w.heap.size v r ∧ Ex w w' := by
  subst hn
  obtain ⟨base, hbase⟩ : ∃ base, base = w.heap.size := ⟨_, rfl⟩
  rw [← hbase]
  have HBa : Hid (base = w.heap.size) := hbase
  have HB : Hid (Rd st w a cap l) := hB
  have HS : Hid (∀ s ∈ l, s.length ≤ maxLen) := hs
  have HR : Hid (K.written (cutTexts l) = r) := hr
  have hcl := hB.1
  have hcm := hB.2.1
  unfold maxLen at hcm
  have hO0 : Hid (Own w base (.slice none 0 0) (K.written ((cutTexts l).take 0))) := own_none w base
  have hB0 : Hid (Below base w w) := Below.refl _ _
  clear hB hs hr hbase
  go_enter Try.func13, Try.ntmps13
  go_wp2_with fail
  go_loopw [3, 4] (fun v i wr => ∃ k : Nat, k ≤ l.length ∧ k ≤ 10 ∧ i = .int .i64 k ∧ Hid (Own wr base v (K.written ((cutTexts l).take k))) ∧ Hid (Below base w wr)) (fun _ i _ => l.length - (intOf i).toNat)
  case atStart => exact ⟨0, by omega, by omega, rfl, hO0, hB0⟩
  case round =>
    obtain ⟨k, hk, hk10, rfl, HO, HBl⟩ := hrel
    clear hO0 hB0
    have hEx : Ex w wr := by have := HBl.out; rw [HBa.out] at this; exact this
    have hsz : base ≤ wr.heap.size := by rw [HBa.out]; exact hEx.size
    have HEx : Hid (Ex w wr) := hEx
    clear hEx
    by_cases hlt : k < l.length ∧ k < 10
    · have hk1 := hlt.1
      have hk2 := hlt.2
      have t1 : decide ((k : Int) < (l.length : Int)) = true := by simp; omega
      have t2 : decide ((k : Int) < 10) = true := by simp; omega
      obtain ⟨b, off, rfl, hc⟩ := (HB.out.below HEx.out).at hk1
      obtain ⟨s, hs⟩ : ∃ s, s = l[k] := ⟨_, rfl⟩
      rw [← hs] at hc
      have hc' : wr.cell? ⟨b, off + k, none⟩ = some (.string (str s)) := hc
      have hsl : s.length ≤ maxLen := by rw [hs]; exact HS.out _ (List.getElem_mem hk1)
      obtain ⟨x, hx⟩ : ∃ x, s.take 200 = x := ⟨_, rfl⟩
      have hxl : x.length ≤ 200 := by rw [← hx]; simp; omega
      have HX : Hid (s.take 200 = x) := hx
      have hnext : K.written ((cutTexts l).take (k + 1)) = K.written ((cutTexts l).take k) ++ K.frm x := by
        rw [cutTexts_at hk1 hk2, K.written_snoc, ← hs, hx]
      have HN : Hid (K.written ((cutTexts l).take (k + 1)) = K.written ((cutTexts l).take k) ++ K.frm x) := hnext
      have hwl : (K.written ((cutTexts l).take k)).length ≤ 2120 := by
        have h1 := written_short ((cutTexts l).take k) (fun y hy => cutTexts_short l y (List.mem_of_mem_take hy))
        have h2 : ((cutTexts l).take k).length ≤ k := by simp; omega
        omega
      have hki : (k : Int) < (l.length : Int) := by omega
      clear hc hs hx hnext hlt
      go_wp2_with fail
      refine (few_is s x _ hsl HX.out).mono ?_
      rintro e wq ⟨rfl, hw⟩
      have hw' := hw.symm; clear hw; subst hw'
      go_wp2_with (refine wpList_bytes_of rfl (.tmp 22) rfl x rfl (by unfold maxLen; omega) ?_; intro g c w1 hb1 hg1 hx1)
      have HX1 : Hid (Ex w w1) := HEx.out.trans hx1
      have HO1 := HO.out.later hx1
      refine (rseal_any _ c x _ hb1 (by omega)).mono ?_
      rintro e w2 ⟨v2, rfl, ho2, hx2⟩
      obtain ⟨p2, c2, hv2, hb2⟩ := ho2.byt
      subst hv2
      have HO2 := HO1.later hx2
      have hs2 : base ≤ w2.heap.size := by rw [HBa.out]; exact (HX1.out.trans hx2).size
      have hb02 : Below base w w2 := by rw [HBa.out]; exact HX1.out.trans hx2
      have hfl : (K.frm x).length ≤ 212 := by rw [K.frm_len]; omega
      clear ho2 hb1 hg1 hx1 HO1 hx2
      go_wp2_with (at_builtin; refine wpList_append_byt rfl (.tmp 27) (.tmp 28) rfl base _ (K.written ((cutTexts l).take k)) rfl HO2 p2 _ c2 (K.frm x) rfl rfl hb2 (by omega) hs2 ?_; intro v3 w3 ho3 hg3; have HB3 : Hid (Below base w w3) := step_below0 hb02 hs2 HO2 hg3; clear hg3)
      have HO3 : Hid (Own w3 base v3 (K.written ((cutTexts l).take (k + 1)))) := (by rw [HN.out]; exact ho3 : Own w3 base v3 (K.written ((cutTexts l).take (k + 1))))
      clear ho3 HO2 hb2 hb02
      go_wp2
      go_roundw
      case rel => exact ⟨k + 1, by omega, by omega, by go_num, HO3, HB3⟩
      case measure => simp [intOf]; omega
    · have hfin := HO.out
      rw [List.take_of_length_le (by rw [cutTexts_len]; omega), HR.out] at hfin
      have HF : Hid (Own wr base u3 r) := hfin
      clear hfin HO
      by_cases h1 : k < l.length
      · have t1 : decide ((k : Int) < (l.length : Int)) = true := by simp; omega
        have t2 : decide ((k : Int) < 10) = false := by simp; omega
        have hki : (k : Int) < (l.length : Int) := by omega
        go_wp2
        go_ret
        exact ⟨_, rfl, HF.out, HEx.out⟩
      · have t1 : decide ((k : Int) < (l.length : Int)) = false := by simp; omega
        go_wp2
        go_ret
        exact ⟨_, rfl, HF.out, HEx.out⟩
end Go.Proofs.Ythibeoohhcmejaa
