/-
  The walk of the law RunsShort: whatever it is given, it returns true.
-/
import Derived.Test.YtdkfmeneacbhjaaKnown
import Derived.Test.YtdkfmeneacbhjaaShaped
namespace Go.Proofs.Ytdkfmeneacbhjaa.runsShort
open Go.RowKit
set_option linter.unusedVariables false

theorem P2.laid (w : World) (e : TypeId) (x y : Int) : P2 (w.alloc (.cells #[.int .i64 x, .int .i64 y] e)) (some ⟨w.heap.size, 0, none⟩) 1 [(x, y)] := by
  have h := heap_alloc_new w (.cells #[.int .i64 x, .int .i64 y] e)
  refine ⟨by simp, by simp [maxLen], by simp, fun i p hp => ⟨w.heap.size, 0, rfl, ?_⟩⟩
  match i, hp with
  | 0, hp =>
    simp at hp
    subst hp
    constructor
    · rw [cell_of_row _ _ _ _ e (0, 0) h]; rfl
    · rw [cell_of_row _ _ _ _ e (0, 0) h]; rfl
theorem digs_short {n : Nat} (h : n ≤ 2008) : (M.digs (2 * n)).length ≤ 3 := by
  have h1 := M.digs_mono (n := 2 * n) (m := 4016) (by omega)
  have h2 : (M.digs 4016).length = 2 := by decide +kernel
  omega

set_option maxRecDepth 100000 in
set_option maxHeartbeats 2000000 in
theorem walk (a0 : Int) (a1 : Int) (a2 : Int) (w : World) (w0 : -9223372036854775808 ≤ a0 ∧ a0 ≤ 9223372036854775807) (w1 : -9223372036854775808 ≤ a1 ∧ a1 ≤ 9223372036854775807) (w2 : -9223372036854775808 ≤ a2 ∧ a2 ≤ 9223372036854775807) :
    Calls Try.prog 7 #[.int .i64 a0, .int .i64 a1, .int .i64 a2] w fun e w' => e = .returned (.bool true) ∧ Below w.heap.size w w' := by
  obtain ⟨w01, w02⟩ := w0
  obtain ⟨w21, w22⟩ := w2
  go_enter Try.func7, Try.ntmps7
  go_wp2_with fail
  refine (within_any a0 2000 _ w01 w02 (by omega) (by omega)).mono ?_
  rintro e wq ⟨r0, hr0, rfl, hw'⟩
  have hw'' := hw'.symm
  clear hw'
  subst hw''
  obtain ⟨n, hn⟩ : ∃ n, n = 8 + r0 := ⟨_, rfl⟩
  have hni : (8 : Int) + (r0 : Int) = (n : Int) := by omega
  have hn1 : 8 ≤ n := by omega
  have hn2 : n ≤ 2008 := by omega
  clear hn
  go_wp2_with fail
  refine (within_any a2 32 _ w21 w22 (by omega) (by omega)).mono ?_
  rintro e wq ⟨D, hD, rfl, hw'⟩
  have hw'' := hw'.symm
  clear hw'
  subst hw''
  go_wp2_with fail
  refine (shaped_any _ 1 [(1, a1)] D _ (P2.laid w _ 1 a1) (by intro q hq; simp at hq; subst hq; exact ⟨⟨by simp, by simp⟩, w1⟩) (by omega)).mono ?_
  rintro e w4 ⟨vx, X, rfl, hXl, hXD, ⟨ax, cx, rfl, hrx⟩, hx4⟩
  have HX4 : Hid (Ex w w4) := Ex.trans ((Below.refl _ _).alloc (Nat.le_refl _) _) hx4
  have HXD : Hid (∀ x ∈ X, x < 2 ^ D) := hXD
  have HRX : Hid (Rd n64 w4 ax cx X) := hrx
  clear hXD hrx hx4
  obtain ⟨base, hbase⟩ : ∃ base, base = w4.heap.size := ⟨_, rfl⟩
  have HBa : Hid (base = w4.heap.size) := hbase
  clear hbase
  by_cases hX1 : X.length = 1
  · obtain ⟨x, rfl⟩ := List.length_eq_one_iff.1 hX1
    have hx2 := HXD.out x (by simp)
    have h2D : 2 ^ D ≤ 2 ^ 32 := Nat.pow_le_pow_right (by decide) (by omega)
    have hx64 : x < 18446744073709551616 := by omega
    have HX2 : Hid (x < 2 ^ D) := hx2
    have HO0 : Hid (OwnR 24 n64 w4 base (.slice none 0 0) (List.replicate 0 x)) := World.ownsRow_nil w4 base 24 1
    have HB0 : Hid (Below base w4 w4) := Below.refl _ _
    clear hX1 h2D hx2 hXl
    go_wp2
    go_loopw [8, 9] (fun v i wr => ∃ t : Nat, t ≤ n ∧ i = .int .i64 t ∧ Hid (OwnR 24 n64 wr base v (List.replicate t x)) ∧ Hid (Below base w4 wr)) (fun _ i _ => n - (intOf i).toNat)
    case atStart => exact ⟨0, by omega, rfl, HO0, HB0⟩
    case round =>
      obtain ⟨t, ht, rfl, HOt, HBt⟩ := hrel
      clear HO0 HB0
      have hbt : base ≤ wr.heap.size := by rw [HBa.out]; exact HBt.out.size
      by_cases htn : t < n
      · have tt : decide ((t : Int) < (n : Int)) = true := by simp; omega
        obtain ⟨b1, o1, rfl, hc⟩ := (HRX.out.below (by have := HBt.out; rw [HBa.out] at this; exact this)).at (k := 0) (by simp)
        have hcx : wr.cell? ⟨b1, o1, none⟩ = some (.int .u64 (x : Int)) := by simpa using hc
        have HRL : Hid (Rd n64 (wr.alloc (.cells #[.int .u64 (x : Int)] 24)) (some ⟨wr.heap.size, 0, none⟩) 1 [x]) := Rd.laid (enc := n64) wr 24 [x] (by simp)
        clear hc
        go_wp2_with (at_builtin; refine wpList_append_rd (enc := n64) (e := 24) rfl (.tmp 32) (.tmp 36) 23 rfl 0 8 Try.underlying23 Try.info24 rfl (fun _ => rfl) base _ _ rfl (HOt.out.alloc _) _ _ _ [x] rfl rfl HRL.out ?y2 ?y3 ?y4 ?_)
        case y2 => simp [maxLen]; omega
        case y3 => simp; omega
        case y4 => simp; omega
        intro v4 w5 ho4 hg4
        have HB4 : Hid (Below base w4 w5) := step_belowR (HBt.out.alloc hbt _) (by simp; omega) (HOt.out.alloc _) hg4
        have HO4 : Hid (OwnR 24 n64 w5 base v4 (List.replicate (t + 1) x)) := (by
          rw [List.replicate_succ']; exact ho4 : OwnR 24 n64 w5 base v4 (List.replicate (t + 1) x))
        clear ho4 hg4
        go_wp2
        go_roundw
        case rel => exact ⟨t + 1, by omega, by go_num, HO4, HB4⟩
        case measure => simp [intOf]; omega
      · have tt : decide ((t : Int) < (n : Int)) = false := by simp; omega
        obtain rfl : t = n := by omega
        obtain ⟨al, cl, hv, hrl⟩ := HOt.out.rd
        rw [List.length_replicate] at hv
        subst hv
        have hw64 : ∀ y ∈ List.replicate t x, y < 18446744073709551616 := fun y hy => by rw [List.eq_of_mem_replicate hy]; exact hx64
        have hwd : B.width (List.replicate t x) ≤ D := (B.width_le D _).2 fun y hy => by rw [List.eq_of_mem_replicate hy]; exact HX2.out
        obtain ⟨EN, hEN⟩ : ∃ EN, EN = R.enc D (List.replicate t x) := ⟨_, rfl⟩
        have HEE : Hid (R.encE (List.replicate t x) (D : Int) = (EN, 0)) := (by unfold R.encE; rw [if_neg (by simp; omega), hEN]; simp : R.encE (List.replicate t x) (D : Int) = (EN, 0))
        obtain ⟨z, hz⟩ : ∃ z, z = (D + 7) / 8 := ⟨_, rfl⟩
        have hzi : ((D : Int) + 7) / 8 = (z : Int) := by omega
        have hENl : EN.length ≤ 3 + z := by
          rw [hEN, R.enc_rep hn1, List.length_append, R.few_len, ← hz]
          have := digs_short hn2
          omega
        have te : decide ((EN.length : Int) ≤ 3 + (z : Int)) = true := by simp; omega
        have te2 : decide (EN.length ≤ 3 + z) = true := by simp; omega
        have HRL : Hid (Rd n64 wr al cl (List.replicate t x)) := hrl
        have H64 : Hid (∀ y ∈ List.replicate t x, y < 18446744073709551616) := hw64
        have tne : ((t : Int) != (t : Int)) = false := by simp
        have hz4 : z ≤ 4 := by omega
        clear hrl hw64 hwd hEN hz
        go_wp2_with fail
        refine (enc_is al _ cl (List.replicate t x) _ _ (by simp) HRL.out H64.out (by simp; omega) EN 0 HEE.out).mono ?_
        rintro e w6 ⟨vb, rfl, ⟨ab, cb, rfl, hbb⟩, hx6⟩
        have HX6 : Hid (Ex w w6) := (HX4.out.trans (by have := HBt.out; rw [HBa.out] at this; exact this)).trans hx6
        clear hbb hx6
        go_wp2_with fail
        refine (known_any _).mono ?_
        rintro e w7 ⟨rfl, hx7⟩
        go_wp2
        go_ret
        exact ⟨rfl, HX6.out.trans hx7⟩
  · have tX : ((X.length : Int) == 1) = false := by simp; omega
    have tX2 : decide (X.length = 1) = false := by simp; omega
    have hne0 : ((0 : Int) != (n : Int)) = true := by simp; omega
    go_wp2
    go_loopw [8, 9] (fun v i wr => v = .slice none 0 0 ∧ i = .int .i64 0 ∧ wr = w4) (fun _ i _ => 0)
    case atStart => exact ⟨rfl, rfl, rfl⟩
    case round =>
      obtain ⟨rfl, rfl, rfl⟩ := hrel
      have tt : decide ((0 : Int) < (n : Int)) = true := by simp; omega
      go_wp2_with fail
      refine (known_any _).mono ?_
      rintro e w7 ⟨rfl, hx7⟩
      go_wp2
      go_ret
      exact ⟨rfl, HX4.out.trans hx7⟩
end Go.Proofs.Ytdkfmeneacbhjaa.runsShort
