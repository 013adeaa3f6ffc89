/-
  The law's own 'few': so many cells, texts not too long.
-/
import Derived.Test.YtnfbmffafclaaaaCelo
namespace Go.Proofs.Ytnfbmffafclaaaa
open Go.RowKit
set_option linter.unusedVariables false
set_option linter.unusedSimpArgs false
/-- A cell with its text cut. -/
def Z.cut (c : Cel) : Cel := { c with s := c.s.take 41 }
def Z.few (l : List Cel) : List Cel := (l.take 40).map Z.cut
theorem Z.few_len (l : List Cel) : (Z.few l).length ≤ 40 := by simp [Z.few]; omega
theorem Z.few_text {l : List Cel} : ∀ c ∈ Z.few l, c.s.length ≤ 41 := by
  intro c hc
  obtain ⟨d, _, rfl⟩ := List.mem_map.1 hc
  simp [Z.cut]; omega
theorem Z.few_snoc {l : List Cel} {j : Nat} (h : j < l.length) (h4 : j < 40) : Z.few (l.take (j + 1)) = Z.few (l.take j) ++ [Z.cut l[j]] := by
  unfold Z.few
  rw [List.take_take, List.take_take, Nat.min_eq_right (by omega), Nat.min_eq_right (by omega), List.take_add_one, List.getElem?_eq_getElem h, Option.toList_some, List.map_append]
  rfl
theorem cell_laid (w : World) (c : Cel) : RdC (w.alloc (.cells #[.string (str c.col), .int .i64 c.k, .int .i64 c.n, .string (str c.s)] 52)) (some ⟨w.heap.size, 0, none⟩) 1 [c] := RdC.laid w [c] (by simp)
set_option maxHeartbeats 4000000 in
set_option maxRecDepth 100000 in
theorem few_is (a : Option Addr) (n cap : Nat) (l : List Cel) (w : World) (hn : n = l.length) (hB : RdC w a cap l) :
    Calls Try.prog 20 #[.slice a n cap] w fun e w' => ∃ v, e = .returned v ∧ OwnC w' w.heap.size v (Z.few l) ∧ Ex w w' := by
  subst hn
  have HB : Hid (RdC w a cap l) := hB
  have hcl := hB.1
  have hcm := hB.2.1
  unfold maxLen at hcm
  obtain ⟨base, hbase⟩ : ∃ base, base = w.heap.size := ⟨_, rfl⟩
  have HBa : Hid (base = w.heap.size) := hbase
  have HO0 : Hid (OwnC w base (.slice none 0 0) (Z.few (l.take 0))) := ownC_none w base
  have HB0 : Hid (Below base w w) := Below.refl _ _
  clear hB hbase
  go_enter Try.func20, Try.ntmps20
  go_wp2_with fail
  go_loopw [3, 4, 5] (fun v i c wr => ∃ j : Nat, j ≤ l.length ∧ j ≤ 40 ∧ i = .int .i64 j ∧ Hid (OwnC wr base v (Z.few (l.take j))) ∧ Hid (Below base w wr)) (fun v i c wr => 41 - (intOf i).toNat)
  case atStart => exact ⟨0, by omega, by omega, rfl, HO0, HB0⟩
  case round =>
    obtain ⟨j, hj, hj4, rfl, HO, HBl⟩ := hrel
    clear HO0 HB0
    have hsz : base ≤ wr.heap.size := by rw [HBa.out]; exact HBl.out.size
    by_cases hlt : j < l.length
    · have t1 : decide ((j : Int) < (l.length : Int)) = true := by simp; omega
      have hji : (j : Int) < (l.length : Int) := by omega
      by_cases h40 : j < 40
      · have t2 : decide ((j : Int) < 40) = true := by simp; omega
        have hxw : Ex w wr := by have := HBl.out; rw [HBa.out] at this; exact this
        obtain ⟨b, off, rfl, e0, e1, e2, e3⟩ := (HB.out.below hxw).at hlt
        have hsn := Z.few_snoc hlt h40
        obtain ⟨c, hc⟩ : ∃ c, l[j] = c := ⟨_, rfl⟩
        rw [hc] at e0 e1 e2 e3 hsn
        have HSn : Hid (Z.few (l.take (j + 1)) = Z.few (l.take j) ++ [Z.cut c]) := hsn
        have hfl : (Z.few (l.take j)).length ≤ 40 := Z.few_len _
        have hss := str_size c.s
        clear hsn hc
        by_cases h41 : 41 < c.s.length
        · have t3 : decide (41 < (c.s.length : Int)) = true := by simp; omega
          have hcut := str_cut c.s 41
          have HC : Hid (Z.cut c = ⟨c.col, c.k, c.n, c.s.take 41⟩) := (rfl : Z.cut c = ⟨c.col, c.k, c.n, c.s.take 41⟩)
          have HL : Hid (RdC ((wr.alloc (.cells #[.string (str c.col), .int .i64 c.k, .int .i64 c.n, .string (str (c.s.take 41))] 52)).alloc (.cells #[.string (str c.col), .int .i64 c.k, .int .i64 c.n, .string (str (c.s.take 41))] 52)) (some ⟨wr.heap.size + 1, 0, none⟩) 1 [⟨c.col, c.k, c.n, c.s.take 41⟩]) := (by
            have h := cell_laid ((wr.alloc (.cells #[.string (str c.col), .int .i64 c.k, .int .i64 c.n, .string (str (c.s.take 41))] 52))) ⟨c.col, c.k, c.n, c.s.take 41⟩
            have hs : (wr.alloc (.cells #[.string (str c.col), .int .i64 c.k, .int .i64 c.n, .string (str (c.s.take 41))] 52)).heap.size = wr.heap.size + 1 := by simp
            rw [hs] at h
            exact h : RdC ((wr.alloc (.cells #[.string (str c.col), .int .i64 c.k, .int .i64 c.n, .string (str (c.s.take 41))] 52)).alloc (.cells #[.string (str c.col), .int .i64 c.k, .int .i64 c.n, .string (str (c.s.take 41))] 52)) (some ⟨wr.heap.size + 1, 0, none⟩) 1 [⟨c.col, c.k, c.n, c.s.take 41⟩])
          go_wp2_with (at_builtin; refine wpList_append_cells rfl (.tmp 28) (.tmp 30) rfl base _ _ rfl ((HO.out.alloc _).alloc _) _ 1 1 [⟨c.col, c.k, c.n, c.s.take 41⟩] rfl rfl HL.out ?x1 ?x2 ?_)
          case x1 => simp; omega
          case x2 => simp; omega
          intro v2 w2 ho2 hg2
          have HB2 : Hid (Below base w w2) := step_belowC ((HBl.out.alloc hsz _).alloc (by simp; omega) _) (by simp; omega) ((HO.out.alloc _).alloc _) hg2
          have HO2 : Hid (OwnC w2 base v2 (Z.few (l.take (j + 1)))) := (by rw [HSn.out, HC.out]; exact ho2 : OwnC w2 base v2 (Z.few (l.take (j + 1))))
          clear ho2 hg2
          go_wp2_with fail
          go_roundw
          case rel => exact ⟨j + 1, by omega, by omega, by go_num, HO2, HB2⟩
          case measure => simp [intOf]; omega
        · have t3 : decide (41 < (c.s.length : Int)) = false := by simp; omega
          have HC : Hid (Z.cut c = ⟨c.col, c.k, c.n, c.s⟩) := (by unfold Z.cut; rw [List.take_of_length_le (by omega)] : Z.cut c = ⟨c.col, c.k, c.n, c.s⟩)
          have HL : Hid (RdC ((wr.alloc (.cells #[.string (str c.col), .int .i64 c.k, .int .i64 c.n, .string (str (c.s))] 52)).alloc (.cells #[.string (str c.col), .int .i64 c.k, .int .i64 c.n, .string (str (c.s))] 52)) (some ⟨wr.heap.size + 1, 0, none⟩) 1 [⟨c.col, c.k, c.n, c.s⟩]) := (by
            have h := cell_laid ((wr.alloc (.cells #[.string (str c.col), .int .i64 c.k, .int .i64 c.n, .string (str (c.s))] 52))) ⟨c.col, c.k, c.n, c.s⟩
            have hs : (wr.alloc (.cells #[.string (str c.col), .int .i64 c.k, .int .i64 c.n, .string (str (c.s))] 52)).heap.size = wr.heap.size + 1 := by simp
            rw [hs] at h
            exact h : RdC ((wr.alloc (.cells #[.string (str c.col), .int .i64 c.k, .int .i64 c.n, .string (str (c.s))] 52)).alloc (.cells #[.string (str c.col), .int .i64 c.k, .int .i64 c.n, .string (str (c.s))] 52)) (some ⟨wr.heap.size + 1, 0, none⟩) 1 [⟨c.col, c.k, c.n, c.s⟩])
          go_wp2_with (at_builtin; refine wpList_append_cells rfl (.tmp 28) (.tmp 30) rfl base _ _ rfl ((HO.out.alloc _).alloc _) _ 1 1 [⟨c.col, c.k, c.n, c.s⟩] rfl rfl HL.out ?x1 ?x2 ?_)
          case x1 => simp; omega
          case x2 => simp; omega
          intro v2 w2 ho2 hg2
          have HB2 : Hid (Below base w w2) := step_belowC ((HBl.out.alloc hsz _).alloc (by simp; omega) _) (by simp; omega) ((HO.out.alloc _).alloc _) hg2
          have HO2 : Hid (OwnC w2 base v2 (Z.few (l.take (j + 1)))) := (by rw [HSn.out, HC.out]; exact ho2 : OwnC w2 base v2 (Z.few (l.take (j + 1))))
          clear ho2 hg2
          go_wp2_with fail
          go_roundw
          case rel => exact ⟨j + 1, by omega, by omega, by go_num, HO2, HB2⟩
          case measure => simp [intOf]; omega
      · have t2 : decide ((j : Int) < 40) = false := by simp; omega
        have hfe : Z.few (l.take j) = Z.few l := by
          unfold Z.few
          rw [List.take_take]
          congr 1
          rw [List.take_eq_take_iff]
          omega
        have HF : Hid (OwnC wr w.heap.size u3 (Z.few l)) := (by rw [← hfe, ← HBa.out]; exact HO.out : OwnC wr w.heap.size u3 (Z.few l))
        clear hfe
        go_wp2_with fail
        go_ret
        exact ⟨_, rfl, HF.out, by have := HBl.out; rw [HBa.out] at this; exact this⟩
    · have t1 : decide ((j : Int) < (l.length : Int)) = false := by simp; omega
      have hfe : Z.few (l.take j) = Z.few l := by
        unfold Z.few
        rw [List.take_take]
        congr 1
        rw [List.take_eq_take_iff]
        omega
      have HF : Hid (OwnC wr w.heap.size u3 (Z.few l)) := (by rw [← hfe, ← HBa.out]; exact HO.out : OwnC wr w.heap.size u3 (Z.few l))
      clear hfe
      go_wp2_with fail
      go_ret
      exact ⟨_, rfl, HF.out, by have := HBl.out; rw [HBa.out] at this; exact this⟩
end Go.Proofs.Ytnfbmffafclaaaa
