/-
  Package runs: what reads a run or groups (readPart), over the program; what it answers, beside the document's own reading.
-/
import Derived.Test.YtnmonoafjijfhaaGreatM26
namespace Go.Proofs.YtnmonoafjijfhaaGreat
open Go.RowKit
set_option linter.unusedVariables false

/-- What readPart answers. -/
def partR (b : List UInt8) (k left D : Nat) : List Nat × Nat × Nat :=
  if (M.get b k).2.2 ≠ 0 then ([], 0, (M.get b k).2.2) else
  if (M.get b k).1 % 2 = 0 then runR b (M.get b k).2.1 ((M.get b k).1 / 2) left D else groupsR b (M.get b k).2.1 ((M.get b k).1 / 2) left D
/-- The document's reading, out of it. -/
theorem item_bad {b : List UInt8} {k left D : Nat} (h : (partR b k left D).2.2 ≠ 0) : R.item D b k left = ([], 0, (partR b k left D).2.2) := by
  unfold partR at h ⊢
  unfold R.item
  split at h
  · rename_i h0; rw [if_pos h0, if_pos h0]
  · rename_i h0
    rw [if_neg h0, if_neg h0]
    split at h
    · rename_i h1
      rw [if_pos h1]; try rw [if_pos h1]
      unfold runR at h ⊢
      split at h
      · rename_i h2; rw [if_pos h2]; try rw [if_pos h2]
      · rename_i h2
        rw [if_neg h2]; try rw [if_neg h2]
        split at h
        · rename_i h3; rw [if_pos h3]; try rw [if_pos h3]
        · exact absurd rfl h
    · rename_i h1
      rw [if_neg h1]; try rw [if_neg h1]
      unfold groupsR at h ⊢
      split at h
      · rename_i h2; rw [if_pos h2]; try rw [if_pos h2]
      · rename_i h2
        rw [if_neg h2]; try rw [if_neg h2]
        split at h
        · rename_i h3; rw [if_pos h3]; try rw [if_pos h3]
        · exact absurd rfl h
theorem item_good {b : List UInt8} {k left D : Nat} {y : List Nat} {k2 : Nat} (h : partR b k left D = (y, k2, 0)) :
    R.item D b k left = if (y.drop left).any (fun x => x != 0) then ([], 0, 12) else (y.take left, k2, 0) := by
  unfold partR at h
  unfold R.item
  split at h
  · rename_i h0; simp only [Prod.mk.injEq] at h; exact absurd h.2.2 h0
  · rename_i h0
    rw [if_neg h0]
    split at h
    · rename_i h1
      rw [if_pos h1]
      unfold runR at h
      split at h
      · simp at h
      · rename_i h2
        rw [if_neg h2]
        split at h
        · simp at h
        · rename_i h3
          rw [if_neg h3]
          simp only [Prod.mk.injEq] at h
          obtain ⟨rfl, rfl, _⟩ := h
          have hle : (M.get b k).1 / 2 ≤ left := by omega
          have hd : (List.replicate ((M.get b k).1 / 2) (R.le ((b.drop (M.get b k).2.1).take ((D + 7) / 8)))).drop left = [] := List.drop_of_length_le (by simpa using hle)
          have ht : (List.replicate ((M.get b k).1 / 2) (R.le ((b.drop (M.get b k).2.1).take ((D + 7) / 8)))).take left = List.replicate ((M.get b k).1 / 2) (R.le ((b.drop (M.get b k).2.1).take ((D + 7) / 8))) := List.take_of_length_le (by simpa using hle)
          rw [hd, ht]
          simp
    · rename_i h1
      rw [if_neg h1]
      unfold groupsR at h
      split at h
      · simp at h
      · rename_i h2
        rw [if_neg h2]
        split at h
        · simp at h
        · rename_i h3
          rw [if_neg h3]
          simp only [Prod.mk.injEq] at h
          obtain ⟨rfl, rfl, _⟩ := h
          rfl
/-- What is read: some numbers, of few bits, no more than a group too many. -/
theorem partR_ok {b : List UInt8} {k left D : Nat} {y : List Nat} {k2 : Nat} (hD : D ≤ 32) (hk : k ≤ b.length) (h : partR b k left D = (y, k2, 0)) : k ≤ k2 ∧ k2 ≤ b.length ∧ 1 ≤ y.length ∧ y.length ≤ left + 7 ∧ ∀ x ∈ y, x < 18446744073709551616 := by
  unfold partR at h
  split at h
  · rename_i h0; simp only [Prod.mk.injEq] at h; exact absurd h.2.2 h0
  · rename_i h0
    have h0 := Decidable.not_not.1 h0
    obtain ⟨hf1, hf2⟩ := R.get_fwd hk h0
    generalize M.get b k = r at *
    obtain ⟨v, m, e⟩ := r
    simp only at *
    split at h
    · rename_i h1
      unfold runR at h
      split at h
      · simp at h
      · rename_i h2
        split at h
        · simp at h
        · rename_i h3
          simp only [Prod.mk.injEq] at h
          obtain ⟨rfl, rfl, _⟩ := h
          refine ⟨by omega, by omega, by simp; omega, by simp; omega, fun x hx => ?_⟩
          rw [List.eq_of_mem_replicate hx]
          have h5 := R.le_lt ((b.drop m).take ((D + 7) / 8))
          have h6 : 256 ^ ((b.drop m).take ((D + 7) / 8)).length ≤ 256 ^ 4 := Nat.pow_le_pow_right (by decide) (by simp; omega)
          omega
    · rename_i h1
      unfold groupsR at h
      split at h
      · simp at h
      · rename_i h2
        split at h
        · simp at h
        · rename_i h3
          simp only [Prod.mk.injEq] at h
          obtain ⟨rfl, rfl, _⟩ := h
          have hcw : v / 2 * D ≤ b.length - m := by
            by_cases hw : 0 < D
            · have h5 : ¬ (b.length - m) / D < v / 2 := fun h6 => h2 ⟨hw, h6⟩
              exact (Nat.le_div_iff_mul_le hw).1 (by omega)
            · have : D = 0 := by omega
              rw [this]; omega
          refine ⟨by omega, by omega, by rw [B.unpack_len]; omega, by rw [B.unpack_len]; omega, fun x hx => ?_⟩
          unfold B.unpack at hx
          obtain ⟨i, _, rfl⟩ := List.mem_map.1 hx
          have h5 := B.num_lt (fun t => B.bit8 ((b.drop m).take (v / 2 * D)) (i * D + t)) D
          have h6 : 2 ^ D ≤ 2 ^ 32 := Nat.pow_le_pow_right (by decide) hD
          omega
set_option maxRecDepth 100000 in
set_option maxHeartbeats 1000000 in
theorem readPart_is (a : Option Addr) (len cap : Nat) (b : List UInt8) (ki li : Int) (k left D : Nat) (w : World) (hlen : len = b.length) (hB : Byt w a cap b) (hk : k ≤ b.length) (hbl : b.length ≤ 140737488355328) (h1 : ki = k) (h3 : li = left) (hle : left ≤ 1048576) (hD : D ≤ 32) (y : List Nat) (k2 e0 : Nat) (hr : partR b k left D = (y, k2, e0)) :
    Calls Tryz.prog 124 #[.slice a len cap, .int .i64 ki, .int .i64 li, .int .i64 D] w fun e w' => ∃ v, e = .returned (.tuple #[v, .int .i64 k2, .int .i64 e0]) ∧ IsRd n64 y v w' ∧ Ex w w' := by
  subst hlen
  subst h1
  subst h3
  unfold partR at hr
  have hall := M.get_all b k
  obtain ⟨⟨v, m, e⟩, hg⟩ : ∃ r, r = M.get b k := ⟨_, rfl⟩
  rw [← hg] at hr hall
  simp only at hr hall
  have HG : Hid (M.get b k = (v, m, e)) := hg.symm
  have HB : Hid (Byt w a cap b) := hB
  clear hg hB
  by_cases he : e = 0
  · subst he
    rw [if_neg (by simp)] at hr
    have hv64 : v < 18446744073709551616 := by omega
    have hand := I.and1 (v : Int) (by omega) (by omega)
    have hmb : m ≤ b.length := by omega
    have hv2 : v / 2 < 18446744073709551616 := by omega
    obtain ⟨c, hc⟩ : ∃ c, c = v / 2 := ⟨_, rfl⟩
    have hci : (v : Int) / 2 = (c : Int) := by omega
    rw [← hc] at hr
    by_cases hp : v % 2 = 0
    · rw [if_pos hp] at hr
      have tp : ((v : Int) % 2 == 1) = false := by simp; omega
      have HR : Hid (runR b m c left D = (y, k2, e0)) := hr
      clear hr hc
      go_enter Tryz.func124, Tryz.ntmps124
      go_wp2_with fail
      refine (get_is _ _ cap b _ _ v m 0 HG.out HB.out rfl).mono ?_
      rintro e wq ⟨rfl, hw'⟩
      have hw'' := hw'.symm
      clear hw'
      subst hw''
      go_wp2_with fail
      refine (readRun_is _ _ cap b _ _ _ m c left D _ rfl HB.out hmb hbl rfl (by omega) rfl (by omega) hle hD y k2 e0 HR.out).mono ?_
      rintro e w2 ⟨v2, rfl, hv2, hx2⟩
      have HV2 : Hid (IsRd n64 y v2 w2) := hv2
      have HX2 : Hid (Ex w w2) := hx2
      clear hv2 hx2
      go_wp2
      go_ret3
      exact ⟨_, rfl, HV2.out, HX2.out⟩
    · rw [if_neg hp] at hr
      have tp : ((v : Int) % 2 == 1) = true := by simp; omega
      have HR : Hid (groupsR b m c left D = (y, k2, e0)) := hr
      clear hr hc
      go_enter Tryz.func124, Tryz.ntmps124
      go_wp2_with fail
      refine (get_is _ _ cap b _ _ v m 0 HG.out HB.out rfl).mono ?_
      rintro e wq ⟨rfl, hw'⟩
      have hw'' := hw'.symm
      clear hw'
      subst hw''
      go_wp2_with fail
      refine (readGroups_is _ _ cap b _ _ _ m c left D _ rfl HB.out hmb hbl rfl (by omega) rfl (by omega) hle hD y k2 e0 HR.out).mono ?_
      rintro e w2 ⟨v2, rfl, hv2, hx2⟩
      have HV2 : Hid (IsRd n64 y v2 w2) := hv2
      have HX2 : Hid (Ex w w2) := hx2
      clear hv2 hx2
      go_wp2
      go_ret3
      exact ⟨_, rfl, HV2.out, HX2.out⟩
  · rw [if_pos he] at hr
    simp only [Prod.mk.injEq] at hr
    obtain ⟨rfl, rfl, rfl⟩ := hr
    have te : ((e : Int) == 0) = false := by simp; omega
    have te2 : decide (e = 0) = false := by simp; omega
    go_enter Tryz.func124, Tryz.ntmps124
    go_wp2_with fail
    refine (get_is _ _ cap b _ _ v m e HG.out HB.out rfl).mono ?_
    rintro e' wq ⟨rfl, hw'⟩
    have hw'' := hw'.symm
    clear hw'
    subst hw''
    go_wp2
    go_ret3
    exact ⟨_, rfl, IsRd.nil _, Ex.refl _⟩
set_option maxRecDepth 100000 in
theorem equal_is (a1 a2 : Option Addr) (n1 n2 c1 c2 : Nat) (l1 l2 : List UInt8) (w : World) (h1 : Byt w a1 c1 l1) (h2 : Byt w a2 c2 l2) (e1 : n1 = l1.length) (e2 : n2 = l2.length) (r : Bool) (hr : decide (l1 = l2) = r) :
    Calls Tryz.prog 47 #[.slice a1 n1 c1, .slice a2 n2 c2] w fun e w' => e = .returned (.bool r) ∧ w' = w := by
  have hc1 := run_str h1 e1
  have hc2 := run_str h2 e2
  have hst := str_toList l1
  have hsu := str_toList l2
  clear h1 h2 e1 e2
  go_enter Tryz.func47, Tryz.ntmps47
  go_wp2
  go_ret
  exact ⟨I.ret_bool (by rw [← hr]; first | rfl | (apply Bool.eq_iff_iff.2; simp)), rfl⟩
end Go.Proofs.YtnmonoafjijfhaaGreat
