/-
  Package block: Seal, and what a Seal's head tells (readHead), over the program.
-/
import Derived.Test.YthibeoohhcmejaaNums
namespace Go.Proofs.Ythibeoohhcmejaa
open Go.RowKit
set_option linter.unusedVariables false

theorem crc_is (a : Option Addr) (n cap : Nat) (l : List UInt8) (w : World) (r : Nat) (hr : S.crc l = r) (hB : Byt w a cap l) (hn : n = l.length) :
    Calls Try.prog 23 #[.slice a n cap] w fun e w' => e = .returned (.int .u32 r) ∧ w' = w := by
  subst hr; subst hn; exact crc_any a cap l w hB
/-- A row of m cells that was made with none of them taken. -/
theorem own_made {w w' : World} {m : Nat} {cur : List Value} (hm : m ≤ 281474976710656) (hc : cur.length = m) (h : w'.heap[w.heap.size]? = some (.cells cur.toArray 5 (0, 0))) : Own w' w.heap.size (.slice (some ⟨w.heap.size, 0, none⟩) 0 m) [] := by
  refine ⟨by simp [cs], .inr ⟨w.heap.size, m, _, rfl, Nat.le_refl _, h, by simp, by unfold maxLen; omega, by simp [hc], by simp [cs]⟩⟩

set_option maxRecDepth 100000 in
set_option maxHeartbeats 2000000 in
theorem seal_any (a : Option Addr) (cap : Nat) (l : List UInt8) (w : World) (hB : Byt w a cap l) (hl : l.length ≤ 1048576) :
    Calls Try.prog 9 #[.slice a l.length cap] w fun e w' => ∃ v, e = .returned (.tuple #[v, .int .i64 0]) ∧ Own w' w.heap.size v (K.frm l) ∧ Ex w w' := by
  obtain ⟨i0, hi, hz0, hz1, hz2⟩ := info_parts Try.info5
  obtain ⟨base, hbase⟩ : ∃ base, base = w.heap.size := ⟨_, rfl⟩
  have HBa : Hid (base = w.heap.size) := hbase
  have HB : Hid (Byt w a cap l) := hB
  have hcm := hB.2.1
  have hcl := hB.1
  unfold maxLen at hcm
  have t1 : decide (1048576 < (l.length : Int)) = false := by simp; omega
  have hx := I.xor32m (l.length : Int) (by omega) (by omega)
  have hcr := S.crc_lt l
  clear hB hbase
  go_enter Try.func9, Try.ntmps9
  go_wp2_with (at_make; refine wpList_make_some _ rfl _ _ 22 rfl 5 i0 (.int .u8 0) Try.underlying22 hi hz0 hz1 hz2 .i64 .i64 _ _ 0 (l.length + 12) rfl rfl (by omega) (by omega) (by omega) (by omega) ?_; intro w1 cur hcur hg1 hb1; have ho1 := own_made (by omega) hcur hg1; clear hg1 hcur cur)
  replace ho1 := ho1.mono (Nat.le_of_eq HBa.out)
  rw [← HBa.out] at hb1
  have hs1 : base ≤ w1.heap.size := by have := hb1.size; have := HBa.out; omega
  refine (addNumber_is base _ [] _ l.length _ (by first | rfl | omega) ho1 (by omega) (by simp) hs1).mono ?_
  rintro e w2 ⟨v2, rfl, ho2, hx2⟩
  rw [List.nil_append] at ho2
  have hb2 : Below base w w2 := hb1.trans hx2
  have hs2 : base ≤ w2.heap.size := Nat.le_trans hs1 hx2.size
  clear ho1 hb1 hx2 hs1
  go_wp2_with fail
  refine (addNumber_is base _ (K.four l.length) _ (4294967295 - l.length) _ (by first | omega | (rw [hx]; omega)) ho2 (by omega) (by simp [K.four_len]) hs2).mono ?_
  rintro e w3 ⟨v3, rfl, ho3, hx3⟩
  have hb3 : Below base w w3 := hb2.trans hx3
  have hs3 : base ≤ w3.heap.size := Nat.le_trans hs2 hx3.size
  have hX3 : Ex w w3 := by have h := hb3; rw [HBa.out] at h; exact h
  clear ho2 hb2 hx3 hs2
  go_wp2_with (at_builtin; refine wpList_append_byt rfl (.tmp 24) (.tmp 25) rfl base _ (K.four l.length ++ K.four (4294967295 - l.length)) rfl ho3 a _ cap l rfl rfl (HB.out.below hX3) (by simp [K.four_len]; omega) hs3 ?_; intro v4 w4 ho4 hg4; have hb4 : Below base w w4 := step_below0 hb3 hs3 ho3 hg4; clear hg4; have hX4 : Ex w w4 := (by have h := hb4; rw [HBa.out] at h; exact h))
  have hs4 : base ≤ w4.heap.size := by rw [HBa.out]; exact hX4.size
  clear ho3 hb3 hX3 hs3
  refine (crc_is a _ cap l _ (S.crc l) rfl (HB.out.below hX4) rfl).mono ?_
  rintro e wq ⟨rfl, hw⟩
  have hw' := hw.symm; clear hw; subst hw'
  go_wp2_with fail
  refine (addNumber_is base _ _ _ (S.crc l) _ rfl ho4 hcr (by simp [K.four_len]; omega) hs4).mono ?_
  rintro e w5 ⟨v5, rfl, ho5, hx5⟩
  have hb5 : Below base w w5 := hb4.trans hx5
  clear ho4 hb4 hX4 hs4 hx5
  go_wp2
  go_ret2
  refine ⟨_, rfl, ?_, by rw [HBa.out] at hb5; exact hb5⟩
  rw [← HBa.out]
  have e : K.frm l = K.four l.length ++ K.four (4294967295 - l.length) ++ l ++ K.four (S.crc l) := by simp [K.frm]
  rw [e]
  exact ho5
theorem seal_over (a : Option Addr) (cap : Nat) (l : List UInt8) (w : World) (hB : Byt w a cap l) (hl : 1048576 < l.length) :
    Calls Try.prog 9 #[.slice a l.length cap] w fun e w' => e = .returned (.tuple #[.slice none 0 0, .int .i64 3]) ∧ Ex w w' := by
  have hcm := hB.2.1
  have hcl := hB.1
  unfold maxLen at hcm
  have t1 : decide (1048576 < (l.length : Int)) = true := by simp; omega
  clear hB
  go_enter Try.func9, Try.ntmps9
  go_wp2
  go_ret2
  exact ⟨rfl, Ex.refl _⟩

/-- What readHead answers. -/
def headR (l : List UInt8) : Nat × Nat :=
  if l.length < 8 then (0, 10) else if K.num (l.drop 4) ≠ 4294967295 - K.num l then (0, 14) else if 1048576 < K.num l then (0, 3) else (K.num l, 0)
set_option maxRecDepth 100000 in
set_option maxHeartbeats 2000000 in
theorem head_short (a : Option Addr) (n cap : Nat) (w : World) (hn : n < 8) :
    Calls Try.prog 24 #[.slice a n cap] w fun e w' => e = .returned (.tuple #[.int .i64 0, .int .i64 10]) ∧ w' = w := by
  have q3 : decide ((n : Int) < 8) = true := by simp; omega
  go_enter Try.func24, Try.ntmps24
  go_wp2
  go_ret2
  exact ⟨rfl, rfl⟩
set_option maxRecDepth 100000 in
set_option maxHeartbeats 2000000 in
theorem head_any (a : Option Addr) (cap : Nat) (l : List UInt8) (w : World) (hB : Byt w a cap l) (r e0 : Nat) (hr : headR l = (r, e0)) :
    Calls Try.prog 24 #[.slice a l.length cap] w fun e w' => e = .returned (.tuple #[.int .i64 r, .int .i64 e0]) ∧ w' = w := by
  unfold headR at hr
  by_cases c8 : l.length < 8
  · rw [if_pos c8] at hr
    simp only [Prod.mk.injEq] at hr
    obtain ⟨rfl, rfl⟩ := hr
    exact head_short a _ cap w c8
  · rw [if_neg c8] at hr
    have hcl := hB.1
    have hcm := hB.2.1
    unfold maxLen at hcm
    have q3 : decide ((l.length : Int) < 8) = false := by simp; omega
    obtain ⟨b, off, rfl⟩ := hB.some_ (by omega)
    obtain ⟨n, hn⟩ : ∃ n, K.num l = n := ⟨_, rfl⟩
    obtain ⟨m, hm⟩ : ∃ m, K.num (l.drop 4) = m := ⟨_, rfl⟩
    have hnl := K.num_lt l
    have hml := K.num_lt (l.drop 4)
    rw [hm, hn] at hr
    rw [hn] at hnl
    rw [hm] at hml
    have HB : Hid (Byt w (some ⟨b, off, none⟩) cap l) := hB
    have HN : Hid (K.num l = n) := hn
    have HM : Hid (K.num (l.drop 4) = m) := hm
    have hx := I.xor32m (n : Int) (by omega) (by omega)
    have hne2 : ¬ cap - 4 = 0 := by omega
    clear hB hn hm
    have main : ∀ (g1 g2 : Bool), ((m : Int) != bits .xor .u32 (if IntKind.u32.signed = true then -1 else IntKind.u32.max) (n : Int)) = g1 → decide (1048576 < (n : Int)) = g2 → decide (1048576 < n) = g2 → (r, e0) = (if g1 then (0, 14) else if g2 then (0, 3) else (n, 0)) →
        Calls Try.prog 24 #[.slice (some ⟨b, off, none⟩) l.length cap] w fun e w' => e = .returned (.tuple #[.int .i64 r, .int .i64 e0]) ∧ w' = w := by
      intro g1 g2 q4 q5 q5' hre
      cases g1 <;> cases g2 <;> simp only [Bool.false_eq_true, if_true, if_false, Prod.mk.injEq] at hre <;> obtain ⟨rfl, rfl⟩ := hre
      all_goals
        go_enter Try.func24, Try.ntmps24
        go_wp2_with fail
        refine (number_is _ _ _ l _ _ HN.out HB.out rfl (by omega)).mono ?_
        rintro e wq ⟨rfl, hw⟩
        have hw' := hw.symm; clear hw; subst hw'
        go_wp2_with fail
        refine (number_is _ _ _ (l.drop 4) _ m HM.out (HB.out.from 4 (by omega)) (by simp) (by simp; omega)).mono ?_
        rintro e wq ⟨rfl, hw⟩
        have hw' := hw.symm; clear hw; subst hw'
        go_wp2
        go_ret2
        exact ⟨rfl, rfl⟩
    have hsg : IntKind.u32.signed = false := rfl
    refine main (decide (m ≠ 4294967295 - n)) (decide (1048576 < n)) ?_ ?_ rfl ?_
    · rw [show (if IntKind.u32.signed = true then -1 else IntKind.u32.max) = IntKind.u32.max from rfl, hx]
      by_cases c4 : m = 4294967295 - n
      · simp [c4]; omega
      · simp [c4]; omega
    · by_cases c5 : 1048576 < n
      · simp; omega
      · simp; omega
    · rw [← hr]
      by_cases c4 : m = 4294967295 - n
      · by_cases c5 : 1048576 < n
        · simp [c4, c5]
        · simp [c4, c5]
      · simp [c4]
theorem head_is (a : Option Addr) (n cap : Nat) (l : List UInt8) (w : World) (hn : n = l.length) (hB : Byt w a cap l) (r e0 : Nat) (hr : headR l = (r, e0)) :
    Calls Try.prog 24 #[.slice a n cap] w fun e w' => e = .returned (.tuple #[.int .i64 r, .int .i64 e0]) ∧ w' = w := by
  subst hn; exact head_any a cap l w hB r e0 hr
end Go.Proofs.Ythibeoohhcmejaa
