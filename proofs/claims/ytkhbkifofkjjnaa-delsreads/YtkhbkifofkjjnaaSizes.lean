/-
  Package runs: its small functions (isWidth, numberSize, groupsOf, runSize, beginsRun, groupsSize) over the program.
-/
import Derived.Test.YtkhbkifofkjjnaaRencs
namespace Go.Proofs.Ytkhbkifofkjjnaa
open Go.RowKit
set_option linter.unusedVariables false

theorem isW_is (d : Int) (w : World) (r : Bool) (hr : decide (0 ≤ d ∧ d ≤ 32) = r) :
    Calls Try.prog 37 #[.int .i64 d] w fun e w' => e = .returned (.bool r) ∧ w' = w := by
  subst hr
  by_cases a1 : 0 ≤ d
  · have t1 : decide (0 ≤ d) = true := by simp; omega
    have hr : decide (0 ≤ d ∧ d ≤ 32) = decide (d ≤ 32) := by simp; omega
    rw [hr]
    clear hr
    go_enter Try.func37, Try.ntmps37
    go_wp2
    go_ret
    exact ⟨rfl, rfl⟩
  · have t1 : decide (0 ≤ d) = false := by simp; omega
    have hr : decide (0 ≤ d ∧ d ≤ 32) = false := by simp; omega
    rw [hr]
    clear hr
    go_enter Try.func37, Try.ntmps37
    go_wp2
    go_ret
    exact ⟨rfl, rfl⟩
set_option maxRecDepth 100000 in
theorem numSize_is (b : Int) (S : Nat) (w : World) (hb : b = (S : Int)) (hS : S ≤ 4294967296) (r : Nat) (hr : (S + 7) / 8 = r) :
    Calls Try.prog 55 #[.int .i64 b] w fun e w' => e = .returned (.int .i64 r) ∧ w' = w := by
  subst hr
  subst hb
  go_enter Try.func55, Try.ntmps55
  go_wp2
  go_ret
  exact ⟨I.ret_int (by omega), rfl⟩
set_option maxRecDepth 100000 in
theorem groupsOf_is (b : Int) (S : Nat) (w : World) (hb : b = (S : Int)) (hS : S ≤ 4294967296) (r : Nat) (hr : (S + 7) / 8 = r) :
    Calls Try.prog 56 #[.int .i64 b] w fun e w' => e = .returned (.int .i64 r) ∧ w' = w := by
  subst hr
  subst hb
  go_enter Try.func56, Try.ntmps56
  go_wp2
  go_ret
  exact ⟨I.ret_int (by omega), rfl⟩

theorem tw_cut (x : Nat) : ∀ (k : Nat) (l : List Nat), R.tw x (l.take k) = min k (R.tw x l)
  | 0, l => by simp [R.tw]
  | k + 1, [] => by simp [R.tw]
  | k + 1, y :: r => by
    rw [List.take_succ_cons]
    simp only [R.tw]
    split
    · rw [tw_cut x k r]; omega
    · omega
theorem runLen_cut {l : List Nat} {k : Nat} (hk : 0 < k) : R.runLen (l.take k) = min k (R.runLen l) := by
  unfold R.runLen
  cases l with
  | nil => simp [R.tw]
  | cons x r =>
    obtain ⟨j, rfl⟩ : ∃ j, k = j + 1 := ⟨k - 1, by omega⟩
    rw [List.take_succ_cons]
    show R.tw x (x :: r.take j) = min (j + 1) (R.tw x (x :: r))
    rw [← List.take_succ_cons, tw_cut]

set_option maxRecDepth 100000 in
theorem runSize_is (a : Option Addr) (len cap : Nat) (l : List Nat) (w : World) (hlen : len = l.length) (hp : 0 < l.length) (hB : Rd n64 w a cap l) (R' : Nat) (hR : R.runLen l = R') :
    Calls Try.prog 42 #[.slice a len cap] w fun e w' => e = .returned (.int .i64 R') ∧ Ex w w' := by
  subst hlen
  have g1 := hB.1
  have g2 := hB.2.1
  unfold maxLen at g2
  have hR0 := runLen_at hp
  rw [List.drop_zero, hR] at hR0
  have hR := hR0.symm
  clear hR0
  obtain ⟨b1, o1, rfl, hc1⟩ := hB.at hp
  obtain ⟨x, hx⟩ : ∃ x, x = l[0] := ⟨_, rfl⟩
  rw [← hx] at hc1 hR
  have hcx : w.cell? ⟨b1, o1, none⟩ = some (.int .u64 (x : Int)) := hc1
  have hip : (0 : Int) < (l.length : Int) := by omega
  have HB : Hid (Rd n64 w (some ⟨b1, o1, none⟩) cap l) := hB
  have HR : Hid (R.tw x l = R') := hR
  clear hB hR hc1 hx
  go_enter Try.func42, Try.ntmps42
  go_wp2
  go_loopw [3] (fun v wr => ∃ n : Nat, n ≤ l.length ∧ v = .int .i64 n ∧ Hid (R.tw x (l.drop n) + n = R') ∧ ∃ q, wr = w.drewN q) (fun v _ => l.length - (intOf v).toNat)
  case atStart => exact ⟨0, by omega, rfl, (by have := HR.out; simpa using this : R.tw x (l.drop 0) + 0 = R'), 0, rfl⟩
  case round =>
    obtain ⟨n, hn2, rfl, HT, q, rfl⟩ := hrel
    by_cases hlt : n < l.length
    · obtain ⟨b2, o2, he, hc2⟩ := HB.out.at hlt
      simp only [Option.some.injEq, Addr.mk.injEq] at he
      obtain ⟨rfl, rfl, _⟩ := he
      have hst := @tw_step l x n hlt
      have hsp := @tw_stop l x n hlt
      obtain ⟨y, hy⟩ : ∃ y, y = l[n] := ⟨_, rfl⟩
      rw [← hy] at hc2 hst hsp
      have hcy : w.cell? ⟨b1, o1 + n, none⟩ = some (.int .u64 (y : Int)) := hc2
      have hin : (n : Int) < (l.length : Int) := by omega
      have hd : decide ((n : Int) < (l.length : Int)) = true := by simp; omega
      by_cases he : y = x
      · have hxy : ((y : Int) == (x : Int)) = true := by simp; omega
        have HT2 : Hid (R.tw x (l.drop (n + 1)) + (n + 1) = R') := (by have := HT.out; have := hst he; omega : R.tw x (l.drop (n + 1)) + (n + 1) = R')
        have hle1 : x ≤ y := by omega
        have hle2 : y ≤ x := by omega
        clear hc2 hy hst hsp he
        go_wp2
        go_quiet (fail)
        go_wp2
        go_roundw
        case rel => exact ⟨n + 1, by omega, by go_num, HT2, q + nq, rfl⟩
        case measure => simp [intOf]; omega
      · have hxy : ((y : Int) == (x : Int)) = false := by simp; omega
        have HT2 : Hid (n = R') := (by have := HT.out; have := hsp he; omega : n = R')
        clear hc2 hy hst hsp
        go_wp2
        go_quiet (fail)
        go_wp2
        go_ret
        exact ⟨I.ret_int (by have := HT2.out; omega), by first | exact Ex.drewN w _ | exact (Ex.drewN w q).trans (Ex.drewN _ _)⟩
    · obtain rfl : n = l.length := by omega
      have hd : decide ((l.length : Int) < (l.length : Int)) = false := by simp
      have HT2 : Hid (l.length = R') := (by have := HT.out; rw [List.drop_length] at this; simp [R.tw] at this; omega : l.length = R')
      go_wp2
      go_quiet (fail)
      go_wp2
      go_ret
      exact ⟨I.ret_int (by have := HT2.out; omega), by first | exact Ex.drewN w _ | exact (Ex.drewN w q).trans (Ex.drewN _ _)⟩

set_option maxRecDepth 100000 in
theorem beginsRun_is (a : Option Addr) (len cap : Nat) (l : List Nat) (w : World) (hlen : len = l.length) (hB : Rd n64 w a cap l) (r : Bool) (hr : decide (8 ≤ R.runLen l) = r) :
    Calls Try.prog 41 #[.slice a len cap] w fun e w' => e = .returned (.bool r) ∧ Ex w w' := by
  subst hlen
  subst hr
  have g1 := hB.1
  have g2 := hB.2.1
  unfold maxLen at g2
  have hle := R.runLen_le l
  by_cases h8 : 8 ≤ l.length
  · have t8 : decide (8 ≤ (l.length : Int)) = true := by simp; omega
    have hcut := @runLen_cut l 8 (by decide)
    have hlen8 : (l.take 8).length = 8 := by simp; omega
    have hB8 := hB.take 8
    obtain ⟨m, hm⟩ : ∃ m, m = R.runLen (l.take 8) := ⟨_, rfl⟩
    have HM : Hid (R.runLen (l.take 8) = m) := hm.symm
    have hd : decide (8 ≤ R.runLen l) = ((m : Int) == 8) := by
      rw [← hm] at hcut
      by_cases h : 8 ≤ R.runLen l
      · rw [decide_eq_true h]; symm; simp; omega
      · rw [decide_eq_false h]; symm; simp; omega
    have hc8 : (8 : Int) ≤ (cap : Int) := by omega
    rw [hd]
    have HB8 : Hid (Rd n64 w a cap (l.take 8)) := hB8
    have HL8 : Hid ((l.take 8).length = 8) := hlen8
    clear hB hB8 hlen8 hd hm hcut
    go_enter Try.func41, Try.ntmps41
    go_wp2_with fail
    refine (runSize_is a _ cap (l.take 8) _ HL8.out.symm (by rw [HL8.out]; decide) HB8.out m HM.out).mono ?_
    rintro e w' ⟨rfl, hx⟩
    go_wp2
    go_ret
    exact ⟨rfl, hx⟩
  · have t8 : decide (8 ≤ (l.length : Int)) = false := by simp; omega
    have hd : decide (8 ≤ R.runLen l) = false := by simp; omega
    rw [hd]
    clear hd
    go_enter Try.func41, Try.ntmps41
    go_wp2
    go_ret
    exact ⟨rfl, Ex.refl _⟩

/-- How many numbers stand ahead of the next run. -/
theorem groups_size {l : List Nat} (h : l ≠ []) : R.groups l = 1 + R.more (l.drop 8) := by unfold R.groups; rw [if_neg h]
set_option maxRecDepth 100000 in
set_option maxHeartbeats 1000000 in
theorem groupsSize_is (a : Option Addr) (len cap : Nat) (l : List Nat) (w : World) (hlen : len = l.length) (hp : 0 < l.length) (hl2 : l.length ≤ 2000000) (hB : Rd n64 w a cap l) (r : Nat) (hr : min (8 * R.groups l) l.length = r) :
    Calls Try.prog 44 #[.slice a len cap] w fun e w' => e = .returned (.int .i64 r) ∧ Ex w w' := by
  subst hlen
  subst hr
  have g1 := hB.1
  have g2 := hB.2.1
  unfold maxLen at g2
  have hne : l ≠ [] := List.length_pos_iff.1 hp
  obtain ⟨G, hG⟩ : ∃ G, G = R.groups l := ⟨_, rfl⟩
  have hG1 := groups_size hne
  have hGl := R.groups_le l
  rw [← hG] at hG1 hGl ⊢
  have HG : Hid (G = 1 + R.more (l.drop 8)) := hG1
  obtain ⟨b1, o1, rfl, _⟩ := hB.at hp
  have HB : Hid (Rd n64 w (some ⟨b1, o1, none⟩) cap l) := hB
  have HN : Hid (l ≠ []) := hne
  clear hB hG1 hne hG
  by_cases hl8 : 8 ≤ l.length
  · have hl8i : (8 : Int) ≤ (l.length : Int) := by omega
    have hl8d : decide ((l.length : Int) < 8) = false := by simp; omega
    have hl8e : decide ((8 : Int) ≤ (l.length : Int)) = true := by simp; omega
    go_enter Try.func44, Try.ntmps44
    go_wp2
    go_loopw [3] (fun v wr => ∃ g q : Nat, 1 ≤ g ∧ g ≤ G ∧ q ≤ l.length ∧ v = .int .i64 q ∧ Hid (q = min (8 * g) l.length) ∧ Hid (g + R.more (l.drop (8 * g)) = G) ∧ Hid (Ex w wr)) (fun v _ => l.length - (intOf v).toNat)
    case atStart => exact ⟨1, 8, by omega, by have := HG.out; omega, by omega, rfl, (by omega : 8 = min (8 * 1) l.length), (HG.out.symm : 1 + R.more (l.drop (8 * 1)) = G), Ex.refl w⟩
    case round =>
      obtain ⟨g, q, hg1, hgG, hql, rfl, HQ, HMo, HX⟩ := hrel
      by_cases hlt : q < l.length
      · have tq : decide ((q : Int) < (l.length : Int)) = true := by simp; omega
        have hq8 : q = 8 * g := by have := HQ.out; omega
        have hme := R.more_eq (l.drop q)
        have hqne : l.drop q ≠ [] := by intro e; have := congrArg List.length e; simp at this; omega
        have hmo := HMo.out
        rw [← hq8] at hmo
        rw [List.drop_drop] at hme
        have hrd0 := (HB.out.below HX.out).sub q (l.length - q) (by omega)
        have htk : (l.drop q).take (l.length - q) = l.drop q := List.take_of_length_le (by simp)
        rw [htk, Option.map_some, add_none] at hrd0
        have HRd : Hid (Rd n64 wr (some ⟨b1, o1 + q, none⟩) (cap - q) (l.drop q)) := hrd0
        have HL : Hid (l.length - q = (l.drop q).length) := (by simp : l.length - q = (l.drop q).length)
        have hcq : ¬ cap - q = 0 := by omega
        by_cases h8 : 8 ≤ R.runLen (l.drop q)
        · have hfin : g = G := by rw [if_pos (.inr h8)] at hme; omega
          subst hfin
          have T8 : Hid (decide (8 ≤ R.runLen (l.drop q)) = true) := (by simpa using h8 : decide (8 ≤ R.runLen (l.drop q)) = true)
          have HQ2 : Hid (q = min (8 * g) l.length) := HQ
          clear hme hmo hqne hrd0 htk h8 hq8
          go_wp2_with fail
          refine (beginsRun_is _ _ _ (l.drop q) _ HL.out HRd.out true T8.out).mono ?_
          rintro e w1 ⟨rfl, hx1⟩
          go_wp2
          go_ret
          exact ⟨I.ret_int (by have := HQ2.out; omega), HX.out.trans hx1⟩
        · have hstep : g + 1 + R.more (l.drop (8 * (g + 1))) = G := by
            rw [if_neg (by rintro (h | h); exact hqne h; exact h8 h)] at hme
            have e : 8 * (g + 1) = q + 8 := by omega
            rw [e]; omega
          have T8 : Hid (decide (8 ≤ R.runLen (l.drop q)) = false) := (by simpa using h8 : decide (8 ≤ R.runLen (l.drop q)) = false)
          have HM2 : Hid (g + 1 + R.more (l.drop (8 * (g + 1))) = G) := hstep
          have hg2 : g + 1 ≤ G := by omega
          have HQ2 : Hid (min (q + 8) l.length = min (8 * (g + 1)) l.length) := (by omega : min (q + 8) l.length = min (8 * (g + 1)) l.length)
          clear hme hmo hqne hrd0 htk h8 hq8 hstep
          by_cases hq9 : q + 8 ≤ l.length
          · have hq9i : (q : Int) + 8 ≤ (l.length : Int) := by omega
            have hq9d : decide ((l.length : Int) < (q : Int) + 8) = false := by simp; omega
            have hq9e : decide ((q : Int) + 8 ≤ (l.length : Int)) = true := by simp; omega
            go_wp2_with fail
            refine (beginsRun_is _ _ _ (l.drop q) _ HL.out HRd.out false T8.out).mono ?_
            rintro e w1 ⟨rfl, hx1⟩
            have HX1 : Hid (Ex w w1) := HX.out.trans hx1
            clear hx1
            go_wp2
            go_roundw
            case rel => exact ⟨g + 1, q + 8, by omega, hg2, by omega, by go_num, (by have := HQ2.out; omega : q + 8 = min (8 * (g + 1)) l.length), HM2, HX1⟩
            case measure => simp [intOf]; omega
          · have hq9i : ¬ (q : Int) + 8 ≤ (l.length : Int) := by omega
            have hq9d : decide ((l.length : Int) < (q : Int) + 8) = true := by simp; omega
            have hq9e : decide ((q : Int) + 8 ≤ (l.length : Int)) = false := by simp; omega
            go_wp2_with fail
            refine (beginsRun_is _ _ _ (l.drop q) _ HL.out HRd.out false T8.out).mono ?_
            rintro e w1 ⟨rfl, hx1⟩
            have HX1 : Hid (Ex w w1) := HX.out.trans hx1
            clear hx1
            go_wp2
            go_roundw
            case rel => exact ⟨g + 1, l.length, by omega, hg2, by omega, by go_num, (by have := HQ2.out; omega : l.length = min (8 * (g + 1)) l.length), HM2, HX1⟩
            case measure => simp [intOf]; omega
      · have tq : decide ((q : Int) < (l.length : Int)) = false := by simp; omega
        have HF : Hid (q = min (8 * G) l.length) := (by have := HQ.out; omega : q = min (8 * G) l.length)
        go_wp2
        go_ret
        exact ⟨I.ret_int (by have := HF.out; omega), HX.out⟩
  · have hl8i : ¬ (8 : Int) ≤ (l.length : Int) := by omega
    have hl8d : decide ((l.length : Int) < 8) = true := by simp; omega
    have hl8e : decide ((8 : Int) ≤ (l.length : Int)) = false := by simp; omega
    have hGp : 1 ≤ G := by have := HG.out; omega
    have tll : decide ((l.length : Int) < (l.length : Int)) = false := by simp
    go_enter Try.func44, Try.ntmps44
    go_wp2
    go_loopw [3] (fun v wr => v = .int .i64 l.length ∧ wr = w) (fun v _ => 0)
    case atStart => exact ⟨rfl, rfl⟩
    case round =>
      obtain ⟨rfl, hwr⟩ := hrel
      subst hwr
      go_wp2
      go_ret
      exact ⟨I.ret_int (by omega), Ex.refl _⟩
end Go.Proofs.Ytkhbkifofkjjnaa
