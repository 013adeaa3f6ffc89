/-
  Of the landed zone: ofCell.
-/
import Derived.Test.YtnfbmffafclaaaaHeads
import Derived.Test.YtnfbmffafclaaaaZres
import Derived.Test.YtnfbmffafclaaaaCells
namespace Go.Proofs.Ytnfbmffafclaaaa
open Go.RowKit
set_option linter.unusedVariables false
set_option linter.unusedSimpArgs false
set_option maxHeartbeats 2000000 in
set_option maxRecDepth 100000 in
theorem one_is (k : Int) (c : Cel) (w : World) (r : Zn) (ho : Z.one k c = r) : Calls Try.prog 38 #[.int .i64 k, cv c] w fun e w' => e = .returned (zv r) ∧ Ex w w' := by
  have HO : Hid (Z.one k c = r) := ho
  clear ho
  obtain ⟨b1, hb1⟩ : ∃ x, (c.k == 0) = x := ⟨_, rfl⟩
  obtain ⟨b2, hb2⟩ : ∃ x, (c.k != k) = x := ⟨_, rfl⟩
  obtain ⟨b3, hb3⟩ : ∃ x, (k == 1) = x := ⟨_, rfl⟩
  obtain ⟨b4, hb4⟩ : ∃ x, (k == 2) = x := ⟨_, rfl⟩
  have K1 : Hid ((c.k == 0) = b1) := hb1
  have K2 : Hid ((c.k != k) = b2) := hb2
  have K3 : Hid ((k == 1) = b3) := hb3
  have K4 : Hid ((k == 2) = b4) := hb4
  unfold cv
  go_enter Try.func38, Try.ntmps38
  cases b1 with
  | true =>
    have ho := HO.out
    have h1 : c.k = 0 := by simpa using K1.out
    simp only [Z.one, h1, true_or, if_true] at ho
    subst ho
    clear h1
    go_wp2_with fail
    refine bodyPost_ret (v := zv _) ?_ rfl ⟨rfl, by (repeat' (first | exact Below.refl _ _ | refine Below.drew ?_ | refine Below.alloc ?_ (by simp <;> omega) _))⟩
    simp [results, Try.results38, go_sem, zv, str]
  | false =>
    cases b2 with
    | true =>
      have ho := HO.out
      have h1 : c.k ≠ k := by simpa using K2.out
      rw [Z.one, if_pos (Or.inr h1)] at ho
      subst ho
      clear h1
      go_wp2_with fail
      refine bodyPost_ret (v := zv _) ?_ rfl ⟨rfl, by (repeat' (first | exact Below.refl _ _ | refine Below.drew ?_ | refine Below.alloc ?_ (by simp <;> omega) _))⟩
      simp [results, Try.results38, go_sem, zv, str]
    | false =>
      have ho := HO.out
      have h0 : ¬ (c.k = 0 ∨ c.k ≠ k) := by
        have e1 := K1.out
        have e2 := K2.out
        simp at e1 e2
        simp [e1, e2]
        intro h
        exact e1 (e2.trans h)
      rw [Z.one, if_neg h0] at ho
      have HO : Hid (_ = r) := ho
      clear ho h0
      cases b3 with
      | true =>
        have ho := HO.out
        have h1 : k = 1 := by simpa using K3.out
        rw [if_pos h1] at ho
        subst ho
        clear h1
        go_wp2_with fail
        go_region
        go_wp2_with fail
        refine bodyPost_ret (v := zv _) ?_ rfl ⟨rfl, by (repeat' (first | exact Below.refl _ _ | refine Below.drew ?_ | refine Below.alloc ?_ (by simp <;> omega) _))⟩
        simp [results, Try.results38, go_sem, zv, str]
      | false =>
        cases b4 with
        | true =>
          have ho := HO.out
          have h1 : ¬ k = 1 := by simpa using K3.out
          have h2 : k = 2 := by simpa using K4.out
          rw [if_neg h1, if_pos h2] at ho
          subst ho
          clear h1 h2
          go_wp2_with fail
          go_region
          go_wp2_with fail
          refine bodyPost_ret (v := zv _) ?_ rfl ⟨rfl, by (repeat' (first | exact Below.refl _ _ | refine Below.drew ?_ | refine Below.alloc ?_ (by simp <;> omega) _))⟩
          simp [results, Try.results38, go_sem, zv, str]
        | false =>
          have ho := HO.out
          have h1 : ¬ k = 1 := by simpa using K3.out
          have h2 : ¬ k = 2 := by simpa using K4.out
          rw [if_neg h1, if_neg h2] at ho
          subst ho
          clear h1 h2
          go_wp2_with fail
          refine bodyPost_ret (v := zv _) ?_ rfl ⟨rfl, by (repeat' (first | exact Below.refl _ _ | refine Below.drew ?_ | refine Below.alloc ?_ (by simp <;> omega) _))⟩
          simp [results, Try.results38, go_sem, zv, str]
end Go.Proofs.Ytnfbmffafclaaaa
