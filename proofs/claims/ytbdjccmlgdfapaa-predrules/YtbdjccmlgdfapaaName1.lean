/-
  Taken out of another text of mine: Lrow.
-/
import Derived.Test.YtbdjccmlgdfapaaName0
import Derived.Test.YtbdjccmlgdfapaaEcell
namespace Go.Proofs.Ytbdjccmlgdfapaa
open Go.RowKit
set_option linter.unusedVariables false
set_option linter.unusedSimpArgs false
set_option maxHeartbeats 4000000 in
set_option maxRecDepth 100000 in
theorem sname_is (s : List UInt8) (w : World) (hs : s.length ≤ maxLen) (r : Bool) (hr : Rw.name s = r) : Calls Try.prog 59 #[.string (str s)] w fun e w' => e = .returned (.bool r) ∧ w' = w := by
  have HR : Hid (Rw.name s = r) := hr
  have hss : (str s).size = s.length := str_size s
  unfold maxLen at hs
  clear hr
  go_enter Try.func59, Try.ntmps59
  by_cases h1 : 1 ≤ s.length
  · by_cases h2 : s.length ≤ 12
    · have t1 : ((s.length : Int) == 0) = false := beq_eq_false_iff_ne.2 (by omega)
      have t2 : decide (12 < (s.length : Int)) = false := by simp; omega
      have t3 : decide (12 < s.length) = false := by simp; omega
      go_wp2_with fail
      go_loopw [14] (fun iv wr => ∃ i : Nat, i ≤ s.length ∧ iv = .int .i64 i ∧ Hid ((s.take i).all Rw.small = true) ∧ wr = w) (fun iv wr => s.length - (intOf iv).toNat)
      case atStart => exact ⟨0, by omega, rfl, (by simp : (s.take 0).all Rw.small = true), rfl⟩
      case round =>
        obtain ⟨i, hi, rfl, HA, hwr⟩ := hrel
        have hwr := hwr.symm
        subst hwr
        by_cases hlt : i < s.length
        · have hti : (i : Int) < (s.length : Int) := by omega
          have hti2 : i < (str s).size := by omega
          obtain ⟨x, hx⟩ : ∃ x, s[i]'hlt = x := ⟨_, rfl⟩
          have hb : ((str s)[i]'hti2).toNat = x.toNat := by rw [← hx]; exact str_at hti2 hlt
          have hx256 := x.toNat_lt
          have hnx : s.take (i + 1) = s.take i ++ [x] := by rw [List.take_add_one, List.getElem?_eq_getElem hlt, hx]; rfl
          have HNX : Hid (s.take (i + 1) = s.take i ++ [x]) := hnx
          have HM : Hid (x ∈ s) := (by rw [← hx]; exact List.getElem_mem hlt : x ∈ s)
          clear hx hnx
          by_cases h3 : x.toNat < 97
          · have t4 : decide ((x.toNat : Int) < 97) = true := by simp; omega
            have t5 : decide (x.toNat < 97) = true := by simp; omega
            go_wp2_with fail
            go_ret
            refine ⟨?_, rfl⟩
            rw [← HR.out, Rw.name_no HM.out (by unfold Rw.small; simp; omega)]; rfl
          · by_cases h4 : 122 < x.toNat
            · have t4 : decide ((x.toNat : Int) < 97) = false := by simp; omega
              have t5 : decide (x.toNat < 97) = false := by simp; omega
              have t6 : decide (122 < (x.toNat : Int)) = true := by simp; omega
              have t7 : decide (122 < x.toNat) = true := by simp; omega
              go_wp2_with fail
              go_ret
              refine ⟨?_, rfl⟩
              rw [← HR.out, Rw.name_no HM.out (by unfold Rw.small; simp; omega)]; rfl
            · have t4 : decide ((x.toNat : Int) < 97) = false := by simp; omega
              have t5 : decide (x.toNat < 97) = false := by simp; omega
              have t6 : decide (122 < (x.toNat : Int)) = false := by simp; omega
              have t7 : decide (122 < x.toNat) = false := by simp; omega
              have HA2 : Hid ((s.take (i + 1)).all Rw.small = true) := (by rw [HNX.out, List.all_append, HA.out]; simp [Rw.small]; omega : (s.take (i + 1)).all Rw.small = true)
              go_wp2_with fail
              go_roundw
              case rel => exact ⟨i + 1, by omega, by go_num, HA2, by simp⟩
              case measure => simp [intOf]; omega
        · have hti : ¬ (i : Int) < (s.length : Int) := by omega
          have HN : Hid (r = true) := (by
            rw [← HR.out, Rw.name_iff]
            have hA := HA.out
            rw [List.take_of_length_le (by omega), List.all_eq_true] at hA
            refine ⟨fun b hb => ?_, h1, h2⟩
            have := hA b hb
            unfold Rw.small at this
            simpa using this : r = true)
          go_wp2_with fail
          go_ret
          exact ⟨by rw [HN.out]; rfl, rfl⟩
    · have t1 : ((s.length : Int) == 0) = false := beq_eq_false_iff_ne.2 (by omega)
      have t2 : decide (12 < (s.length : Int)) = true := by simp; omega
      have t3 : decide (12 < s.length) = true := by simp; omega
      have HN : Hid (r = false) := (by rw [← HR.out]; unfold Rw.name; rw [show decide (s.length ≤ 12) = false by simp [h2], Bool.and_false] : r = false)
      go_wp2_with fail
      go_ret
      exact ⟨by rw [HN.out]; rfl, rfl⟩
  · have t1 : ((s.length : Int) == 0) = true := beq_iff_eq.2 (by omega)
    have HN : Hid (r = false) := (by rw [← HR.out]; unfold Rw.name; rw [show decide (1 ≤ s.length) = false by simp [h1], Bool.and_false, Bool.false_and] : r = false)
    go_wp2_with fail
    go_ret
    exact ⟨by rw [HN.out]; rfl, rfl⟩
set_option maxHeartbeats 4000000 in
set_option maxRecDepth 100000 in
theorem scell_is (v : RV) (r : Rw) (s : List UInt8) (w : World) (h : RvOk w v r) (c : Ce) (hc : Rw.cell r.c s = c) : Calls Try.prog 44 #[rvv v, .string (str s)] w fun e w' => e = .returned (cv c) ∧ Ex w w' := by
  obtain ⟨vt, vq, p, n, cap⟩ := v
  obtain ⟨rfl, rfl, hn, hB⟩ := h
  simp only at hn hB
  subst hn
  have h1 := hB.1
  have h2 := hB.2.1
  unfold maxLen at h2
  obtain ⟨W, hW⟩ : ∃ W, W = (w.alloc (rb ⟨r.t, r.q, p, r.c.length, cap⟩)).alloc ecb0 := ⟨_, rfl⟩
  have HX : Hid (Ex w W) := (by rw [hW]; exact ((Below.refl _ _).alloc (Nat.le_refl _) _).alloc (by simp) _ : Ex w W)
  have HB : Hid (RdC W p cap r.c) := hB.below HX.out
  have HL : Hid (LAt W w.heap.size ⟨r.t, r.q, p, r.c.length, cap⟩) := (by rw [hW]; exact (LAt.new w _).alloc _ : LAt W w.heap.size ⟨r.t, r.q, p, r.c.length, cap⟩)
  have HZ : Hid (EAt W (w.heap.size + 1) Rw.none_) := (by rw [hW]; exact EAt.newat (w.alloc (rb ⟨r.t, r.q, p, r.c.length, cap⟩)) (w.heap.size + 1) Rw.none_ (by simp) : EAt W (w.heap.size + 1) Rw.none_)
  have HW : Hid (W = (w.alloc (rb ⟨r.t, r.q, p, r.c.length, cap⟩)).alloc ecb0) := hW
  have HC : Hid (Rw.cell r.c s = c) := hc
  have zs := str_toList s
  clear hB hW hc
  unfold rvv
  simp only [sv]
  go_enter Try.func44, Try.ntmps44
  go_wp2_with fail
  rw [← HW.out]
  obtain ⟨n0, n1, n2⟩ := HL.out.all
  obtain ⟨z0, z1, z2, z3⟩ := HZ.out.all
  obtain ⟨f0, f1, f2, f3⟩ := HZ.out.fro
  go_loopw [10] (fun iv wr => ∃ i : Nat, i ≤ r.c.length ∧ iv = .int .i64 i ∧ Hid (∀ d ∈ r.c.take i, d.col ≠ s) ∧ Hid (Ex W wr)) (fun iv wr => r.c.length - (intOf iv).toNat)
  case atStart => exact ⟨0, by omega, rfl, (by simp : ∀ d ∈ r.c.take 0, d.col ≠ s), Ex.refl W⟩
  case round =>
    obtain ⟨i, hi, rfl, HN, HXr⟩ := hrel
    have HB2 : Hid (RdC wr p cap r.c) := HB.out.below HXr.out
    have HZ2 : Hid (EAt wr (w.heap.size + 1) Rw.none_) := HZ.out.below HXr.out
    clear n0 n1 n2 z0 z1 z2 z3 f0 f1 f2 f3
    by_cases hlt : i < r.c.length
    · have hti : (i : Int) < (r.c.length : Int) := by omega
      obtain ⟨b, off, rfl, e0, e1, e2, e3⟩ := RdC.four HB2.out hlt
      obtain ⟨d, hd⟩ : ∃ d, r.c[i] = d := ⟨_, rfl⟩
      rw [hd] at e0 e1 e2 e3
      have hsp : r.c = r.c.take i ++ d :: r.c.drop (i + 1) := by rw [← hd, ← List.drop_eq_getElem_cons hlt, List.take_append_drop]
      have HSP : Hid (r.c = r.c.take i ++ d :: r.c.drop (i + 1)) := hsp
      have hnx : r.c.take (i + 1) = r.c.take i ++ [d] := by rw [List.take_add_one, List.getElem?_eq_getElem hlt, hd]; rfl
      have HNX : Hid (r.c.take (i + 1) = r.c.take i ++ [d]) := hnx
      have zd := str_toList d.col
      obtain ⟨w1, hw1⟩ : ∃ w1, wr.alloc (cb d) = w1 := ⟨_, rfl⟩
      have HX1 : Hid (Ex W w1) := (by rw [← hw1]; exact HXr.out.trans ((Below.refl _ _).alloc (Nat.le_refl _) _) : Ex W w1)
      have HE1 : Hid (EAt w1 wr.heap.size d) := (by rw [← hw1]; exact EAt.new wr d : EAt w1 wr.heap.size d)
      have HZ1 : Hid (EAt w1 (w.heap.size + 1) Rw.none_) := HZ.out.below HX1.out
      obtain ⟨g0, g1, g2, g3⟩ := HE1.out.all
      obtain ⟨z0, z1, z2, z3⟩ := HZ1.out.all
      obtain ⟨f0, f1, f2, f3⟩ := HZ1.out.fro
      clear hd hsp hnx
      by_cases hds : d.col = s
      · have td : (d.col == s) = true := by simp [hds]
        have HF : Hid (c = d) := (by rw [← HC.out, HSP.out]; exact Rw.cell_skip HN.out hds : c = d)
        clear hds
        go_wp2_with fail
        have hL9 := EAt.store HZ1.out d
        have hX9 := Below.eset (HX.out.trans HX1.out) (Nat.le_succ _) d
        refine bodyPost_ret (v := cv d) (res_cell Try.results44 rfl hL9) rfl ⟨by rw [HF.out], hX9⟩
      · have td : (d.col == s) = false := by simp [hds]
        have HN2 : Hid (∀ e ∈ r.c.take (i + 1), e.col ≠ s) := (by
          intro e he
          rw [HNX.out] at he
          rcases List.mem_append.1 he with h | h
          · exact HN.out e h
          · rw [List.mem_singleton] at h; subst h; exact hds : ∀ e ∈ r.c.take (i + 1), e.col ≠ s)
        go_wp2_with fail
        go_roundw
        case rel => exact ⟨i + 1, by omega, by go_num, HN2, HX1⟩
        case measure => simp [intOf]; omega
    · have hti : ¬ (i : Int) < (r.c.length : Int) := by omega
      have HF : Hid (c = Rw.none_) := (by rw [← HC.out]; have h := HN.out; rw [List.take_of_length_le (by omega)] at h; exact Rw.cell_out h : c = Rw.none_)
      obtain ⟨z0, z1, z2, z3⟩ := HZ2.out.all
      obtain ⟨f0, f1, f2, f3⟩ := HZ2.out.fro
      go_wp2_with fail
      have hL9 := EAt.store HZ2.out Rw.none_
      have hX9 := Below.eset (HX.out.trans HXr.out) (Nat.le_succ _) Rw.none_
      refine bodyPost_ret (v := cv Rw.none_) (res_cell Try.results44 rfl hL9) rfl ⟨by rw [HF.out], hX9⟩
end Go.Proofs.Ytbdjccmlgdfapaa
namespace Go.Proofs.Ytbdjccmlgdfapaa
open Go.RowKit
set_option linter.unusedVariables false
set_option linter.unusedSimpArgs false
end Go.Proofs.Ytbdjccmlgdfapaa
namespace Go.Proofs.Ytbdjccmlgdfapaa
open Go.RowKit
set_option linter.unusedVariables false
set_option linter.unusedSimpArgs false
end Go.Proofs.Ytbdjccmlgdfapaa
namespace Go.Proofs.Ytbdjccmlgdfapaa
open Go.RowKit
set_option linter.unusedVariables false
set_option linter.unusedSimpArgs false
end Go.Proofs.Ytbdjccmlgdfapaa
namespace Go.Proofs.Ytbdjccmlgdfapaa
open Go.RowKit
set_option linter.unusedVariables false
set_option linter.unusedSimpArgs false
namespace Rw
end Rw
end Go.Proofs.Ytbdjccmlgdfapaa
namespace Go.Proofs.Ytbdjccmlgdfapaa
open Go.RowKit
set_option linter.unusedVariables false
set_option linter.unusedSimpArgs false
end Go.Proofs.Ytbdjccmlgdfapaa
