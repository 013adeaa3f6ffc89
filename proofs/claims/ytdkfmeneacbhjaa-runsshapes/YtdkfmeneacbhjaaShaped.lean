/-
  The contract of the statements' own 'shaped' (layer 5).
-/
import Derived.Test.YtdkfmeneacbhjaaPairs
import Derived.Test.YtdkfmeneacbhjaaBook
namespace Go.Proofs.Ytdkfmeneacbhjaa
open Go.RowKit
set_option linter.unusedVariables false

set_option maxRecDepth 100000 in
set_option maxHeartbeats 1000000 in
theorem shaped_any (a : Option Addr) (cap : Nat) (l : List (Int × Int)) (D : Nat) (w : World) (hB : P2 w a cap l) (h64 : ∀ p ∈ l, In64 p.1 ∧ In64 p.2) (hD : D ≤ 32) :
    Calls Try.prog 16 #[.slice a l.length cap, .int .i64 D] w fun e w' => ∃ v X, e = .returned v ∧ X.length ≤ 240 ∧ (∀ x ∈ X, x < 2 ^ D) ∧ IsRd n64 X v w' ∧ Ex w w' := by
  obtain ⟨base, hbase⟩ : ∃ base, base = w.heap.size := ⟨_, rfl⟩
  have HBa : Hid (base = w.heap.size) := hbase
  have hcl := hB.1
  have hcm := hB.2.1
  unfold maxLen at hcm
  have HB : Hid (P2 w a cap l) := hB
  have H64 : Hid (∀ p ∈ l, In64 p.1 ∧ In64 p.2) := h64
  have HO0 : Hid (OwnR 24 n64 w base (.slice none 0 0) []) := World.ownsRow_nil w base 24 1
  have HB0 : Hid (Below base w w) := Below.refl _ _
  clear hB h64 hbase
  go_enter Try.func16, Try.ntmps16
  go_wp2
  go_loopw [5, 6] (fun v i wr => ∃ (k : Nat) (X : List Nat), k ≤ 12 ∧ k ≤ l.length ∧ i = .int .i64 k ∧ X.length ≤ 20 * k ∧ Hid (∀ x ∈ X, x < 2 ^ D) ∧ Hid (OwnR 24 n64 wr base v X) ∧ Hid (Below base w wr)) (fun _ i _ => 12 - (intOf i).toNat)
  case atStart => exact ⟨0, [], by omega, by omega, rfl, by simp, (by intro x hx; simp at hx : ∀ x ∈ ([] : List Nat), x < 2 ^ D), HO0, HB0⟩
  case round =>
    obtain ⟨k, X, hk, hkl, rfl, hXl, HXD, HO, HBl⟩ := hrel
    clear HO0 HB0
    by_cases hlt : k < l.length
    · have tl : decide ((k : Int) < (l.length : Int)) = true := by simp; omega
      by_cases h12 : k < 12
      · have t12 : decide ((k : Int) < 12) = true := by simp; omega
        have hp := H64.out l[k] (List.getElem_mem hlt)
        have hrd : P2 wr a cap l := HB.out.below (by have := HBl.out; rw [HBa.out] at this; exact this)
        obtain ⟨b1, o1, rfl, hc1, hc2⟩ := hrd.at hlt
        obtain ⟨y, z, hyz⟩ : ∃ y z, l[k] = (y, z) := ⟨_, _, rfl⟩
        rw [hyz] at hp hc1 hc2
        simp only [In64] at hp hc1 hc2
        obtain ⟨⟨hy1, hy2⟩, hz1, hz2⟩ := hp
        have hki : (k : Int) < (l.length : Int) := by omega
        clear hyz hrd
        go_wp2_with fail
        refine (within_any y 20 _ hy1 hy2 (by omega) (by omega)).mono ?_
        rintro e wq ⟨r, hr, rfl, hw'⟩
        have hw'' := hw'.symm
        clear hw'
        subst hw''
        by_cases hD0 : 0 < D
        · have tD : decide (0 < (D : Int)) = true := by simp; omega
          go_wp2_with fail
          refine (within_any z 1048576 _ hz1 hz2 (by omega) (by omega)).mono ?_
          rintro e wq ⟨r2, hr2, rfl, hw'⟩
          have hw'' := hw'.symm
          clear hw'
          subst hw''
          obtain ⟨V, hV⟩ : ∃ V, V = r2 % 2 ^ D := ⟨_, rfl⟩
          have h2D : 2 ^ D ≤ 2 ^ 32 := Nat.pow_le_pow_right (by decide) hD
          have h2D1 : 1 ≤ 2 ^ D := Nat.two_pow_pos D
          obtain ⟨m, hm⟩ : ∃ m, m = 2 ^ D := ⟨_, rfl⟩
          have hmi : (2 : Int) ^ D % 18446744073709551616 = (m : Int) := by
            have e : (2 : Int) ^ D = ((2 ^ D : Nat) : Int) := by simp
            rw [e, ← hm]; rw [← hm] at h2D; omega
          have hand : bits .and .u64 (r2 : Int) ((m : Int) - 1) = (V : Int) := by
            have h1 := (bits_nat .u64 64 (by decide) I.wraps64 r2 (m - 1) (by omega) (by rw [← hm] at h2D; omega)).1
            rw [show (m : Int) - 1 = ((m - 1 : Nat) : Int) by rw [← hm] at h2D1; omega, h1, hV, hm, Nat.and_two_pow_sub_one_eq_mod]
          have HVD : Hid (V < 2 ^ D) := (by rw [hV]; exact Nat.mod_lt _ (Nat.two_pow_pos D) : V < 2 ^ D)
          rw [← hm] at h2D h2D1
          have HAnd : Hid (bits BinOp.and IntKind.u64 (r2 : Int) (IntKind.u64.wrap (IntKind.u64.wrap (2 ^ D) - 1)) = (V : Int)) := (by
            rw [I.w64 (2 ^ D), hmi, I.wraps64 _ (by omega) (by omega), hand] : bits BinOp.and IntKind.u64 (r2 : Int) (IntKind.u64.wrap (IntKind.u64.wrap (2 ^ D) - 1)) = (V : Int))
          clear hV hm hmi hand
          have HO1 : Hid (OwnR 24 n64 wr base u5 (X ++ List.replicate 0 V)) := (by simpa using HO.out : OwnR 24 n64 wr base u5 (X ++ List.replicate 0 V))
          go_wp2
          rw [HAnd.out]
          go_loopw [5, 9] (fun v i wr => ∃ t : Nat, t ≤ r ∧ i = .int .i64 t ∧ Hid (OwnR 24 n64 wr base v (X ++ List.replicate t V)) ∧ Hid (Below base w wr)) (fun _ i _ => r - (intOf i).toNat)
          case atStart => exact ⟨0, by omega, rfl, HO1, HBl⟩
          case round =>
            obtain ⟨t, ht, rfl, HOt, HBt⟩ := hrel
            clear HO1
            have hbt : base ≤ wr.heap.size := by rw [HBa.out]; exact HBt.out.size
            by_cases htr : t < r
            · have tt : decide ((t : Int) < (r : Int)) = true := by simp; omega
              have HRL : Hid (Rd n64 (wr.alloc (.cells #[.int .u64 (V : Int)] 24)) (some ⟨wr.heap.size, 0, none⟩) 1 [V]) := Rd.laid (enc := n64) wr 24 [V] (by simp)
              go_wp2_with (at_builtin; refine wpList_append_rd (enc := n64) (e := 24) rfl (.tmp 45) (.tmp 47) 23 rfl 0 8 Try.underlying23 Try.info24 rfl (fun _ => rfl) base _ _ rfl (HOt.out.alloc _) _ _ _ [V] rfl rfl HRL.out ?y2 ?y3 ?y4 ?_)
              case y2 => simp [maxLen]; omega
              case y3 => simp; omega
              case y4 => simp; omega
              intro v4 w4 ho4 hg4
              have HB4 : Hid (Below base w w4) := step_belowR (HBt.out.alloc hbt _) (by simp; omega) (HOt.out.alloc _) hg4
              have HO4 : Hid (OwnR 24 n64 w4 base v4 (X ++ List.replicate (t + 1) V)) := (by
                rw [List.replicate_succ']; simpa using ho4 : OwnR 24 n64 w4 base v4 (X ++ List.replicate (t + 1) V))
              clear ho4 hg4
              go_wp2
              go_roundw
              case rel => exact ⟨t + 1, by omega, by go_num, HO4, HB4⟩
              case measure => simp [intOf]; omega
            · have tt : decide ((t : Int) < (r : Int)) = false := by simp; omega
              have HXD2 : Hid (∀ x ∈ X ++ List.replicate t V, x < 2 ^ D) := (by
                intro x hx
                rcases List.mem_append.1 hx with h | h
                · exact HXD.out x h
                · rw [List.eq_of_mem_replicate h]; exact HVD.out : ∀ x ∈ X ++ List.replicate t V, x < 2 ^ D)
              have hlx : (X ++ List.replicate t V).length ≤ 20 * (k + 1) := by simp; omega
              go_wp2
              go_roundw
              case rel => exact ⟨k + 1, _, by omega, by omega, by go_num, hlx, HXD2, HOt, HBt⟩
              case measure => simp [intOf]; omega
        · have tD : decide (0 < (D : Int)) = false := by simp; omega
          have HVD : Hid (0 < 2 ^ D) := Nat.two_pow_pos D
          have HO1 : Hid (OwnR 24 n64 wr base u5 (X ++ List.replicate 0 0)) := (by simpa using HO.out : OwnR 24 n64 wr base u5 (X ++ List.replicate 0 0))
          go_wp2
          go_loopw [5, 9] (fun v i wr => ∃ t : Nat, t ≤ r ∧ i = .int .i64 t ∧ Hid (OwnR 24 n64 wr base v (X ++ List.replicate t 0)) ∧ Hid (Below base w wr)) (fun _ i _ => r - (intOf i).toNat)
          case atStart => exact ⟨0, by omega, rfl, HO1, HBl⟩
          case round =>
            obtain ⟨t, ht, rfl, HOt, HBt⟩ := hrel
            clear HO1
            have hbt : base ≤ wr.heap.size := by rw [HBa.out]; exact HBt.out.size
            by_cases htr : t < r
            · have tt : decide ((t : Int) < (r : Int)) = true := by simp; omega
              have HRL : Hid (Rd n64 (wr.alloc (.cells #[.int .u64 0] 24)) (some ⟨wr.heap.size, 0, none⟩) 1 [0]) := Rd.laid (enc := n64) wr 24 [0] (by simp)
              go_wp2_with (at_builtin; refine wpList_append_rd (enc := n64) (e := 24) rfl (.tmp 45) (.tmp 47) 23 rfl 0 8 Try.underlying23 Try.info24 rfl (fun _ => rfl) base _ _ rfl (HOt.out.alloc _) _ _ _ [0] rfl rfl HRL.out ?y2 ?y3 ?y4 ?_)
              case y2 => simp [maxLen]; omega
              case y3 => simp; omega
              case y4 => simp; omega
              intro v4 w4 ho4 hg4
              have HB4 : Hid (Below base w w4) := step_belowR (HBt.out.alloc hbt _) (by simp; omega) (HOt.out.alloc _) hg4
              have HO4 : Hid (OwnR 24 n64 w4 base v4 (X ++ List.replicate (t + 1) 0)) := (by
                rw [List.replicate_succ']; simpa using ho4 : OwnR 24 n64 w4 base v4 (X ++ List.replicate (t + 1) 0))
              clear ho4 hg4
              go_wp2
              go_roundw
              case rel => exact ⟨t + 1, by omega, by go_num, HO4, HB4⟩
              case measure => simp [intOf]; omega
            · have tt : decide ((t : Int) < (r : Int)) = false := by simp; omega
              have HXD2 : Hid (∀ x ∈ X ++ List.replicate t 0, x < 2 ^ D) := (by
                intro x hx
                rcases List.mem_append.1 hx with h | h
                · exact HXD.out x h
                · rw [List.eq_of_mem_replicate h]; exact HVD.out : ∀ x ∈ X ++ List.replicate t 0, x < 2 ^ D)
              have hlx : (X ++ List.replicate t 0).length ≤ 20 * (k + 1) := by simp; omega
              go_wp2
              go_roundw
              case rel => exact ⟨k + 1, _, by omega, by omega, by go_num, hlx, HXD2, HOt, HBt⟩
              case measure => simp [intOf]; omega
      · have t12 : decide ((k : Int) < 12) = false := by simp; omega
        go_wp2
        go_ret
        obtain ⟨af, cf, hvf, hrf⟩ := HO.out.rd
        exact ⟨_, X, rfl, by omega, HXD.out, ⟨af, cf, hvf, hrf⟩, by have := HBl.out; rw [HBa.out] at this; exact this⟩
    · have tl : decide ((k : Int) < (l.length : Int)) = false := by simp; omega
      go_wp2
      go_ret
      obtain ⟨af, cf, hvf, hrf⟩ := HO.out.rd
      exact ⟨_, X, rfl, by omega, HXD.out, ⟨af, cf, hvf, hrf⟩, by have := HBl.out; rw [HBa.out] at this; exact this⟩
end Go.Proofs.Ytdkfmeneacbhjaa
