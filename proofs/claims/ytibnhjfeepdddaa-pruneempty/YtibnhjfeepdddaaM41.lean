/-
  Taken out of another text of mine: Rname.
-/
import Derived.Test.YtibnhjfeepdddaaM17
namespace Go.Proofs.Ytibnhjfeepdddaa
open Go.RowKit
set_option linter.unusedVariables false
set_option linter.unusedSimpArgs false
set_option maxHeartbeats 4000000 in
set_option maxRecDepth 100000 in
theorem rname_is (s : List UInt8) (w : World) (hs : s.length ≤ maxLen) (r : Bool) (hr : Rw.name s = r) : Calls Try.prog 76 #[.string (str s)] w fun e w' => e = .returned (.bool r) ∧ w' = w := by
 have HR : Hid (Rw.name s = r) := hr
 have hss : (str s).size = s.length := str_size s
 unfold maxLen at hs
 clear hr
 go_enter Try.func76, Try.ntmps76
 go_wp2_with fail
 go_loopw [3] (fun iv wr => ∃ i : Nat, i ≤ s.length ∧ iv = .int .i64 i ∧ Hid ((s.take i).all Rw.small = true) ∧ wr = w) (fun iv wr => s.length - (intOf iv).toNat)
 case atStart => exact ⟨0, by omega, rfl, (by simp : (s.take 0).all Rw.small = true), rfl⟩
 case round =>
  obtain ⟨i, hi, rfl, HA, hwr⟩ := hrel
  have hwr := hwr.symm
  subst hwr
  by_cases hlt : i < s.length
  ·have hti : (i : Int) < (s.length : Int) := by omega
   have hti2 : i < (str s).size := by omega
   obtain ⟨x, hx⟩ : ∃ x, s[i]'hlt = x := ⟨_, rfl⟩
   have hb : ((str s)[i]'hti2).toNat = x.toNat := by rw [← hx]; exact str_at hti2 hlt
   have hx256 := x.toNat_lt
   have hnx : s.take (i + 1) = s.take i ++ [x] := by rw [List.take_add_one, List.getElem?_eq_getElem hlt, hx]; rfl
   have HNX : Hid (s.take (i + 1) = s.take i ++ [x]) := hnx
   have HM : Hid (x ∈ s) := (by rw [← hx]; exact List.getElem_mem hlt : x ∈ s)
   clear hx hnx
   by_cases h1 : x.toNat < 97
   ·have t1 : decide ((x.toNat : Int) < 97) = true := by simp; omega
    have t2 : decide (x.toNat < 97) = true := by simp; omega
    go_wp2_with fail
    go_ret
    refine ⟨?_, rfl⟩
    rw [← HR.out, Rw.name_no HM.out (by unfold Rw.small; simp; omega)]; rfl
   ·by_cases h2 : 122 < x.toNat
    ·have t1 : decide ((x.toNat : Int) < 97) = false := by simp; omega
     have t2 : decide (x.toNat < 97) = false := by simp; omega
     have t3 : decide (122 < (x.toNat : Int)) = true := by simp; omega
     have t4 : decide (122 < x.toNat) = true := by simp; omega
     go_wp2_with fail
     go_ret
     refine ⟨?_, rfl⟩
     rw [← HR.out, Rw.name_no HM.out (by unfold Rw.small; simp; omega)]; rfl
    ·have t1 : decide ((x.toNat : Int) < 97) = false := by simp; omega
     have t2 : decide (x.toNat < 97) = false := by simp; omega
     have t3 : decide (122 < (x.toNat : Int)) = false := by simp; omega
     have t4 : decide (122 < x.toNat) = false := by simp; omega
     have HA2 : Hid ((s.take (i + 1)).all Rw.small = true) := (by rw [HNX.out, List.all_append, HA.out]; simp [Rw.small]; omega : (s.take (i + 1)).all Rw.small = true)
     go_wp2_with fail
     go_roundw
     case rel => exact ⟨i + 1, by omega, by go_num, HA2, by simp⟩
     case measure => simp [intOf]; omega
  ·have hti : ¬ (i : Int) < (s.length : Int) := by omega
   obtain rfl : i = s.length := by omega
   have hA := HA.out
   rw [List.take_length] at hA
   have HN : Hid (r = (decide (1 ≤ s.length) && decide (s.length ≤ 12))) := (by rw [← HR.out]; unfold Rw.name; rw [show (fun b : UInt8 => decide (97 ≤ b.toNat) && decide (b.toNat ≤ 122)) = Rw.small from rfl, hA, Bool.true_and] : r = (decide (1 ≤ s.length) && decide (s.length ≤ 12)))
   clear hA HA
   by_cases h1 : 1 ≤ s.length
   ·have t1 : decide (1 ≤ (s.length : Int)) = true := by simp; omega
    by_cases h2 : s.length ≤ 12
    ·have t2 : decide ((s.length : Int) ≤ 12) = true := by simp; omega
     go_wp2_with fail
     go_ret
     refine ⟨?_, rfl⟩
     rw [HN.out]; simp [h1, h2]
    ·have t2 : decide ((s.length : Int) ≤ 12) = false := by simp; omega
     go_wp2_with fail
     go_ret
     refine ⟨?_, rfl⟩
     rw [HN.out]; simp [h1, h2]
   ·have t1 : decide (1 ≤ (s.length : Int)) = false := by simp; omega
    go_wp2_with fail
    go_ret
    refine ⟨?_, rfl⟩
    rw [HN.out]; simp [h1]
end Go.Proofs.Ytibnhjfeepdddaa
