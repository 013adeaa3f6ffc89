/-
  The walk of the law DeltaEven: whatever numbers it is given, it returns true.
-/
import Derived.Test.YthpnjcakfigicaaKnown
import Derived.Test.YthpnjcakfigicaaEven
namespace Go.Proofs.Ythpnjcakfigicaa.deltaEven
open Go.RowKit
set_option linter.unusedVariables false

set_option maxRecDepth 100000 in
set_option maxHeartbeats 1000000 in
theorem walk (a0 : Int) (a1 : Int) (a2 : Int) (w : World) (w0 : -9223372036854775808 ≤ a0 ∧ a0 ≤ 9223372036854775807) (w1 : -9223372036854775808 ≤ a1 ∧ a1 ≤ 9223372036854775807) (w2 : -9223372036854775808 ≤ a2 ∧ a2 ≤ 9223372036854775807) :
    Calls Try.prog 6 #[.int .i64 a0, .int .i64 a1, .int .i64 a2] w fun e w' => e = .returned (.bool true) ∧ Below w.heap.size w w' := by
  obtain ⟨v2, u2⟩ := w2
  have HA : Hid (D.ok a0) := w0
  have HS : Hid (D.ok a1) := w1
  clear w0 w1
  go_enter Try.func6, Try.ntmps6
  go_wp2_with fail
  refine (within_any a2 _ _ v2 u2 (by omega) (by omega)).mono ?_
  rintro e wq ⟨N, hN, rfl, hw⟩
  have hw' := hw.symm; clear hw; subst hw'
  have hN' : N ≤ 100 := by omega
  clear hN
  go_wp2_with fail
  go_loopw [7, 8, 9] (fun v x i wr => ∃ k : Nat, k ≤ N ∧ i = .int .i64 k ∧ x = .int .i64 (D.xs a0 a1 k) ∧ Hid (OwnR 2 z64 wr w.heap.size v (D.ev a0 a1 k)) ∧ Hid (Below w.heap.size w wr)) (fun _ _ i _ => N - (intOf i).toNat)
  case atStart =>
    have h0 : OwnR 2 z64 w w.heap.size (.slice none 0 0) (D.ev a0 a1 0) := OwnR.nil w _
    exact ⟨0, by omega, rfl, rfl, h0, Below.refl _ _⟩
  case round =>
    obtain ⟨k, hk, rfl, rfl, HO, HX⟩ := hrel
    by_cases hlt : k < N
    · have hl := D.ev_len a0 a1 k
      obtain ⟨X, hX⟩ : ∃ X, D.xs a0 a1 k = X := ⟨_, rfl⟩
      have hX2 : D.xs a0 a1 (k + 1) = wrap64 (X + a1) := by rw [← wr64, ← hX]; rfl
      have HX2 : Hid (D.xs a0 a1 (k + 1) = wrap64 (X + a1)) := hX2
      have hev : D.ev a0 a1 (k + 1) = D.ev a0 a1 k ++ [X] := by rw [D.ev_succ, hX]
      have HEv : Hid (D.ev a0 a1 (k + 1) = D.ev a0 a1 k ++ [X]) := hev
      have hki : (k : Int) < (N : Int) := by omega
      have HLn : Hid ((D.ev a0 a1 k).length = k) := hl
      rw [hX]
      clear hX hX2 hev hl
      go_wp2_with (at_builtin; refine wpList_append_rd (e := 2) (enc := z64) rfl (.tmp 20) (.tmp 22) 22 rfl 0 8 Try.underlying22 Try.info2 rfl (fun _ => rfl) w.heap.size _ (D.ev a0 a1 k) rfl (HO.out.alloc _) _ _ _ [X] rfl rfl (Rd.laid wr 2 [X] (by simp)) (by have := HLn.out; simp [maxLen]; omega) (by have := HLn.out; simp; omega) (by have := HX.out.size; simp; omega) ?_; intro v9 w9 ho9 hg9; have X9 : Below w.heap.size w w9 := step_belowR (Below.alloc HX.out HX.out.size _) (by have := HX.out.size; simp; omega) (HO.out.alloc _) hg9; clear hg9)
      have HO9 : Hid (OwnR 2 z64 w9 w.heap.size v9 (D.ev a0 a1 (k + 1))) := (by rw [HEv.out]; exact ho9 : OwnR 2 z64 w9 w.heap.size v9 (D.ev a0 a1 (k + 1)))
      have HX9 : Hid (Below w.heap.size w w9) := X9
      clear ho9 X9
      go_wp2
      go_roundw
      case rel => exact ⟨k + 1, by omega, by go_num, by rw [HX2.out], HO9, HX9⟩
      case measure => simp [intOf]; omega
    · obtain rfl : k = N := by omega
      obtain ⟨L, hL⟩ : ∃ L, L = D.ev a0 a1 k := ⟨_, rfl⟩
      have hO := HO.out
      rw [← hL] at hO
      obtain ⟨aL, cL, rfl, hRL⟩ := hO.rd
      have HRL : Hid (Rd z64 wr aL cL L) := hRL
      have hLn : L.length = k := by rw [hL, D.ev_len]
      have HLo : Hid (∀ x ∈ L, D.ok x) := (by rw [hL]; exact D.ev_ok HA.out k : ∀ x ∈ L, D.ok x)
      obtain ⟨E, hE⟩ : ∃ E, D.enc L = E := ⟨_, rfl⟩
      have HE : Hid (D.enc L = E) := hE
      have hEp : 1 ≤ E.length := by rw [← hE]; exact (D.enc_len L).1
      have hEm : E.length ≤ 10 * L.length + 10 := by rw [← hE]; exact (D.enc_len L).2
      obtain ⟨E2, hE2⟩ : ∃ E, D.enc (L.take 2) = E := ⟨_, rfl⟩
      have HE2 : Hid (D.enc (L.take 2) = E2) := hE2
      have hE2m : E2.length ≤ 10 * (L.take 2).length + 10 := by rw [← hE2]; exact (D.enc_len _).2
      have hlen : 3 ≤ k → E.length + 2 = E2.length + k := fun h3 => by
        have := D.even_len HA.out HS.out h3 hN'
        rw [← hL, hE, hE2] at this
        omega
      have HLen : Hid (3 ≤ k → E.length + 2 = E2.length + k) := hlen
      have hLk1 : L.length ≤ k := by omega
      have hLk2 : k ≤ L.length := by omega
      have HLk : Hid (L.length = k) := hLn
      have hT2 : (L.take 2).length ≤ 2 := by simp; omega
      have hcL := hRL.1
      have hcLm := hRL.2.1
      clear hL hO HO hRL hE hE2 hlen hLn
      go_wp2_with fail
      refine (enc_is aL _ cL L _ rfl HRL.out HLo.out (by omega) _ HE.out).mono ?_
      rintro e w5 ⟨v5, rfl, hv5, hx5⟩
      obtain ⟨a5, c5, rfl, hB5⟩ := hv5
      by_cases h3 : k < 3
      · have t3 : decide ((k : Int) < 3) = true := by simp; omega
        have tE : decide ((1 : Int) ≤ (E.length : Int)) = true := by simp; omega
        go_wp2_with fail
        refine (known_any _).mono ?_
        rintro e w6 ⟨rfl, hx6⟩
        go_wp2
        go_ret
        exact ⟨rfl, (Ex.trans HX.out hx5).trans hx6⟩
      · have t3 : decide ((k : Int) < 3) = false := by simp; omega
        have hc2 : (2 : Int) ≤ (cL : Int) := by omega
        have hcLi : cL ≤ 9223372036854775807 := by unfold maxLen at hcLm; omega
        have HT2 : Hid (2 = (L.take 2).length) := (by simp; omega : 2 = (L.take 2).length)
        have hEE := HLen.out (by omega)
        have teq : ((E.length : Int) == (E2.length : Int) + (k : Int) - 2) = true := by simp only [beq_iff_eq]; omega
        have hE2n : E2.length ≤ 30 := by omega
        clear hEE
        go_wp2_with fail
        refine (enc_is aL _ cL (L.take 2) _ HT2.out ((HRL.out.below hx5).take 2) (fun x hx => HLo.out x (List.mem_of_mem_take hx)) (by omega) _ HE2.out).mono ?_
        rintro e w6 ⟨v6, rfl, hv6, hx6⟩
        obtain ⟨a6, c6, rfl, hB6⟩ := hv6
        go_wp2_with fail
        refine (known_any _).mono ?_
        rintro e w7 ⟨rfl, hx7⟩
        go_wp2
        go_ret
        exact ⟨rfl, ((Ex.trans HX.out hx5).trans hx6).trans hx7⟩
end Go.Proofs.Ythpnjcakfigicaa.deltaEven
