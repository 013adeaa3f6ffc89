/-
  The document's own Cols, and the package's. The document's own Encode of rows.
-/
import Derived.Test.YtibnhjfeepdddaaK03
import Derived.Test.YtibnhjfeepdddaaM09
import Derived.Test.YtibnhjfeepdddaaM04
import Derived.Test.YtibnhjfeepdddaaM01
import Derived.Test.YtibnhjfeepdddaaM19
namespace Go.Proofs.Ytibnhjfeepdddaa
open Go.RowKit
set_option linter.unusedVariables false
set_option linter.unusedSimpArgs false
theorem Rw.cols_bad {l : List Co} {c : Co} (h : c ∈ l) (hc : Rw.colOk c = false) : Rw.colsOk l = false := by
 cases hr : Rw.colsOk l with
 | false => rfl
 | true => have := ((Rw.colsOk_iff l).1 hr).1 c h; rw [hc] at this; cases this
theorem Rw.cols_down {l : List Co} {i : Nat} {c d : Co} (h : l[i]? = some c) (h' : l[i + 1]? = some d) (hc : T.lt c.nm d.nm = false) : Rw.colsOk l = false := by
 cases hr : Rw.colsOk l with
 | false => rfl
 | true =>
  have := T.rise_at ((Rw.colsOk_iff l).1 hr).2.1 (i := i) (j := i + 1) (x := c.nm) (y := d.nm) (by simp [h]) (by simp [h']) (by omega)
  rw [hc] at this; cases this
set_option maxHeartbeats 8000000 in
set_option maxRecDepth 100000 in
theorem rcols_is (a : Option Addr) (n cap : Nat) (l : List Co) (w : World) (hn : n = l.length) (hB : RdK w a cap l) (hl : ∀ c ∈ l, c.nm.length ≤ maxLen) (o : Bool) (ho : Rw.colsOk l = o) : Calls Try.prog 59 #[.slice a n cap] w fun e w' => e = .returned (.bool o) ∧ Ex w w' := by
 subst hn
 have h1 := hB.1
 have h2 := hB.2.1
 unfold maxLen at h2
 have HO : Hid (Rw.colsOk l = o) := ho
 have HLl : Hid (∀ c ∈ l, c.nm.length ≤ maxLen) := hl
 have HB : Hid (RdK w a cap l) := hB
 clear hB ho hl
 go_enter Try.func59, Try.ntmps59
 go_wp2_with fail
 go_loopw [3] (fun iv wr => ∃ i : Nat, i ≤ l.length ∧ iv = .int .i64 i ∧ Hid (∀ c ∈ l.take i, Rw.colOk c = true) ∧ Hid (T.Rise ((l.take i).map Co.nm)) ∧ Hid (Ex w wr)) (fun iv wr => l.length - (intOf iv).toNat)
 case atStart => exact ⟨0, by omega, rfl, (by simp : ∀ c ∈ l.take 0, Rw.colOk c = true), (T.Rise.nil : T.Rise ((l.take 0).map Co.nm)), Ex.refl w⟩
 case round =>
  obtain ⟨i, hi, rfl, HA, HRi, HXr⟩ := hrel
  by_cases hlt : i < l.length
  ·have hti : (i : Int) < (l.length : Int) := by omega
   obtain ⟨b, off, hpp, e0, e1⟩ := RdK.two (HB.out.below HXr.out) hlt
   obtain ⟨d, hd⟩ : ∃ d, l[i] = d := ⟨_, rfl⟩
   rw [hd] at e0 e1
   have hmem : d ∈ l := by rw [← hd]; exact List.getElem_mem hlt
   have HD1 : Hid (d.nm.length ≤ maxLen) := HLl.out d hmem
   have HM : Hid (d ∈ l) := hmem
   have hnx : l.take (i + 1) = l.take i ++ [d] := by rw [List.take_add_one, List.getElem?_eq_getElem hlt, hd]; rfl
   have HNX : Hid (l.take (i + 1) = l.take i ++ [d]) := hnx
   have HDI : Hid (l[i]? = some d) := (by rw [List.getElem?_eq_getElem hlt, hd] : l[i]? = some d)
   obtain ⟨nb, hnb⟩ : ∃ x, Rw.name d.nm = x := ⟨_, rfl⟩
   have HNB : Hid (Rw.name d.nm = nb) := hnb
   subst hpp
   clear hd hmem hnx hnb
   cases nb with
   | false =>
    have HF : Hid (o = false) := (by rw [← HO.out]; exact Rw.cols_bad HM.out (by unfold Rw.colOk; rw [HNB.out]; simp) : o = false)
    go_wp2_with fail
    go_quiet ((go_at_call 76; refine Calls.quiet_of_same (rname_is d.nm _ HD1.out false HNB.out)))
    go_wp2_with fail
    go_ret
    exact ⟨by rw [HF.out]; rfl, HXr.out.trans (Ex.drewN _ _)⟩
   | true =>
    by_cases hk1 : d.k = 1
    ·have u1 : (d.k != 1) = false := by simp [hk1]
     have HK : Hid (d.k = 1 ∨ d.k = 2) := Or.inl hk1
     have HA2 : Hid (∀ c ∈ l.take (i + 1), Rw.colOk c = true) := (by
      intro c hc
      rw [HNX.out] at hc
      rcases List.mem_append.1 hc with h | h
      ·exact HA.out c h
      ·rw [List.mem_singleton] at h
       subst h
       unfold Rw.colOk
       rw [HNB.out]
       simp
       exact HK.out : ∀ c ∈ l.take (i + 1), Rw.colOk c = true)
     clear hk1
     by_cases hi0 : i = 0
     ·have t0 : decide (0 < (i : Int)) = false := by simp; omega
      have t1 : decide (0 < i) = false := by simp; omega
      have HR2 : Hid (T.Rise ((l.take (i + 1)).map Co.nm)) := (by rw [HNX.out, hi0]; simp [T.Rise] : T.Rise ((l.take (i + 1)).map Co.nm))
      clear hi0
      go_wp2_with fail
      go_quiet ((go_at_call 76; refine Calls.quiet_of_same (rname_is d.nm _ HD1.out true HNB.out)))
      go_wp2_with fail
      go_roundw
      case rel => exact ⟨i + 1, by omega, by go_num, HA2, HR2, HXr.out.trans (Ex.drewN _ _)⟩
      case measure => simp [intOf]; omega
     ·obtain ⟨k, rfl⟩ : ∃ k, i = k + 1 := ⟨i - 1, by omega⟩
      obtain ⟨b', off', hpp', e0', e1'⟩ := RdK.two (HB.out.below HXr.out) (show k < l.length by omega)
      obtain ⟨c, hc⟩ : ∃ c, l[k] = c := ⟨_, rfl⟩
      rw [hc] at e0'
      have hck : l[k]? = some c := by rw [List.getElem?_eq_getElem (by omega), hc]
      have HCK : Hid (l[k]? = some c) := hck
      have zc := str_toList c.nm
      have zd := str_toList d.nm
      simp only [Option.some.injEq, Addr.mk.injEq, and_true] at hpp'
      obtain ⟨rfl, rfl⟩ := hpp'
      have hgg := rle_form d.nm c.nm
      have t0 : decide (0 < ((k : Int) + 1)) = true := decide_eq_true (by omega)
      have t1 : decide (0 < k + 1) = true := by simp
      clear hc hck e1' hi0
      cases hcd : T.lt c.nm d.nm with
      | true =>
       have hcd2 : Op.bytesLess c.nm d.nm = true := hcd
       rw [hcd] at hgg
       simp only [Bool.not_true] at hgg
       have HR2 : Hid (T.Rise ((l.take (k + 1 + 1)).map Co.nm)) := (by
        rw [HNX.out, List.map_append]
        refine T.rise_snoc HRi.out fun y hy => ?_
        have hlen : ((l.take (k + 1)).map Co.nm).length - 1 = k := by simp; omega
        rw [hlen, List.getElem?_map, List.getElem?_take, if_pos (by omega), HCK.out] at hy
        simp at hy
        rw [← hy]; exact hcd : T.Rise ((l.take (k + 1 + 1)).map Co.nm))
       clear hcd
       go_wp2_with fail
       go_quiet ((go_at_call 76; refine Calls.quiet_of_same (rname_is d.nm _ HD1.out true HNB.out)))
       go_wp2_with fail
       go_roundw
       case rel => exact ⟨k + 1 + 1, by omega, by go_num, HA2, HR2, HXr.out.trans (Ex.drewN _ _)⟩
       case measure => simp [intOf]; omega
      | false =>
       have hcd2 : Op.bytesLess c.nm d.nm = false := hcd
       rw [hcd] at hgg
       simp only [Bool.not_false] at hgg
       have HF : Hid (o = false) := (by rw [← HO.out]; exact Rw.cols_down HCK.out HDI.out hcd : o = false)
       clear hcd
       go_wp2_with fail
       go_quiet ((go_at_call 76; refine Calls.quiet_of_same (rname_is d.nm _ HD1.out true HNB.out)))
       go_wp2_with fail
       go_ret
       exact ⟨by rw [HF.out]; rfl, HXr.out.trans (Ex.drewN _ _)⟩
    ·have u1 : (d.k != 1) = true := by simp [hk1]
     by_cases hk2 : d.k = 2
     ·have u2 : (d.k != 2) = false := by simp [hk2]
      have HK : Hid (d.k = 1 ∨ d.k = 2) := Or.inr hk2
      have HA2 : Hid (∀ c ∈ l.take (i + 1), Rw.colOk c = true) := (by
       intro c hc
       rw [HNX.out] at hc
       rcases List.mem_append.1 hc with h | h
       ·exact HA.out c h
       ·rw [List.mem_singleton] at h
        subst h
        unfold Rw.colOk
        rw [HNB.out]
        simp
        exact HK.out : ∀ c ∈ l.take (i + 1), Rw.colOk c = true)
      clear hk1 hk2
      by_cases hi0 : i = 0
      ·have t0 : decide (0 < (i : Int)) = false := by simp; omega
       have t1 : decide (0 < i) = false := by simp; omega
       have HR2 : Hid (T.Rise ((l.take (i + 1)).map Co.nm)) := (by rw [HNX.out, hi0]; simp [T.Rise] : T.Rise ((l.take (i + 1)).map Co.nm))
       clear hi0
       go_wp2_with fail
       go_quiet ((go_at_call 76; refine Calls.quiet_of_same (rname_is d.nm _ HD1.out true HNB.out)))
       go_wp2_with fail
       go_roundw
       case rel => exact ⟨i + 1, by omega, by go_num, HA2, HR2, HXr.out.trans (Ex.drewN _ _)⟩
       case measure => simp [intOf]; omega
      ·obtain ⟨k, rfl⟩ : ∃ k, i = k + 1 := ⟨i - 1, by omega⟩
       obtain ⟨b', off', hpp', e0', e1'⟩ := RdK.two (HB.out.below HXr.out) (show k < l.length by omega)
       obtain ⟨c, hc⟩ : ∃ c, l[k] = c := ⟨_, rfl⟩
       rw [hc] at e0'
       have hck : l[k]? = some c := by rw [List.getElem?_eq_getElem (by omega), hc]
       have HCK : Hid (l[k]? = some c) := hck
       have zc := str_toList c.nm
       have zd := str_toList d.nm
       simp only [Option.some.injEq, Addr.mk.injEq, and_true] at hpp'
       obtain ⟨rfl, rfl⟩ := hpp'
       have hgg := rle_form d.nm c.nm
       have t0 : decide (0 < ((k : Int) + 1)) = true := decide_eq_true (by omega)
       have t1 : decide (0 < k + 1) = true := by simp
       clear hc hck e1' hi0
       cases hcd : T.lt c.nm d.nm with
       | true =>
        have hcd2 : Op.bytesLess c.nm d.nm = true := hcd
        rw [hcd] at hgg
        simp only [Bool.not_true] at hgg
        have HR2 : Hid (T.Rise ((l.take (k + 1 + 1)).map Co.nm)) := (by
         rw [HNX.out, List.map_append]
         refine T.rise_snoc HRi.out fun y hy => ?_
         have hlen : ((l.take (k + 1)).map Co.nm).length - 1 = k := by simp; omega
         rw [hlen, List.getElem?_map, List.getElem?_take, if_pos (by omega), HCK.out] at hy
         simp at hy
         rw [← hy]; exact hcd : T.Rise ((l.take (k + 1 + 1)).map Co.nm))
        clear hcd
        go_wp2_with fail
        go_quiet ((go_at_call 76; refine Calls.quiet_of_same (rname_is d.nm _ HD1.out true HNB.out)))
        go_wp2_with fail
        go_roundw
        case rel => exact ⟨k + 1 + 1, by omega, by go_num, HA2, HR2, HXr.out.trans (Ex.drewN _ _)⟩
        case measure => simp [intOf]; omega
       | false =>
        have hcd2 : Op.bytesLess c.nm d.nm = false := hcd
        rw [hcd] at hgg
        simp only [Bool.not_false] at hgg
        have HF : Hid (o = false) := (by rw [← HO.out]; exact Rw.cols_down HCK.out HDI.out hcd : o = false)
        clear hcd
        go_wp2_with fail
        go_quiet ((go_at_call 76; refine Calls.quiet_of_same (rname_is d.nm _ HD1.out true HNB.out)))
        go_wp2_with fail
        go_ret
        exact ⟨by rw [HF.out]; rfl, HXr.out.trans (Ex.drewN _ _)⟩
     ·have u2 : (d.k != 2) = true := by simp [hk2]
      have HF : Hid (o = false) := (by rw [← HO.out]; exact Rw.cols_bad HM.out (by unfold Rw.colOk; simp [hk1, hk2]) : o = false)
      clear hk1 hk2
      go_wp2_with fail
      go_quiet ((go_at_call 76; refine Calls.quiet_of_same (rname_is d.nm _ HD1.out true HNB.out)))
      go_wp2_with fail
      go_ret
      exact ⟨by rw [HF.out]; rfl, HXr.out.trans (Ex.drewN _ _)⟩
  ·have hti : ¬ (i : Int) < (l.length : Int) := by omega
   have HF : Hid (o = decide (l.length ≤ 12)) := (by
    rw [← HO.out]
    have h1 := HA.out
    have h2 := HRi.out
    rw [List.take_of_length_le (by omega)] at h1 h2
    unfold Rw.colsOk
    rw [show l.all Rw.colOk = true from List.all_eq_true.2 h1, (T.adj_iff _).2 h2]; rfl : o = decide (l.length ≤ 12))
   by_cases h12 : l.length ≤ 12
   ·have t2 : decide ((l.length : Int) ≤ 12) = true := by simp; omega
    go_wp2_with fail
    go_ret
    exact ⟨by rw [HF.out]; simp [h12], HXr.out⟩
   ·have t2 : decide ((l.length : Int) ≤ 12) = false := by simp; omega
    go_wp2_with fail
    go_ret
    exact ⟨by rw [HF.out]; simp [h12], HXr.out⟩
end Go.Proofs.Ytibnhjfeepdddaa
namespace Go.Proofs.Ytibnhjfeepdddaa
open Go.RowKit
set_option linter.unusedVariables false
set_option linter.unusedSimpArgs false
/-- What a call may take of a row: numbers of 64 bits, lengths. -/
def RwOk3 (r : Rw) : Prop := In64 r.t ∧ In64 r.q ∧ ∀ c ∈ r.c, c.col.length ≤ maxLen ∧ c.s.length ≤ maxLen ∧ In64 c.k ∧ In64 c.n
end Go.Proofs.Ytibnhjfeepdddaa
