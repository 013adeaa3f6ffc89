/-
  Package runs: its small functions (isWidth, numberSize, groupsOf, runSize, beginsRun, groupsSize) over the program. Package runs: what writes a run, and what writes groups (addRun, addGroups), over the program. A list that is appended to, beside another: the other is as it was, if it lies in a block of its own.
-/
import Derived.Test.YtnmonoafjijfhaaGreatM21
import Derived.Laws.CopyOwn
import Derived.Test.YtnmonoafjijfhaaGreatM09
import Derived.Maps.AppendAt
import Derived.Deep.AppendLies
namespace Go.Proofs.YtnmonoafjijfhaaGreat
open Go.RowKit
set_option linter.unusedVariables false

theorem isW_is (d : Int) (w : World) (r : Bool) (hr : decide (0 ≤ d ∧ d ≤ 32) = r) :
    Calls Tryz.prog 99 #[.int .i64 d] w fun e w' => e = .returned (.bool r) ∧ w' = w := by
  subst hr
  by_cases a1 : 0 ≤ d
  · have t1 : decide (0 ≤ d) = true := by simp; omega
    have hr : decide (0 ≤ d ∧ d ≤ 32) = decide (d ≤ 32) := by simp; omega
    rw [hr]
    clear hr
    go_enter Tryz.func99, Tryz.ntmps99
    go_wp2
    go_ret
    exact ⟨rfl, rfl⟩
  · have t1 : decide (0 ≤ d) = false := by simp; omega
    have hr : decide (0 ≤ d ∧ d ≤ 32) = false := by simp; omega
    rw [hr]
    clear hr
    go_enter Tryz.func99, Tryz.ntmps99
    go_wp2
    go_ret
    exact ⟨rfl, rfl⟩
set_option maxRecDepth 100000 in
theorem numSize_is (b : Int) (S : Nat) (w : World) (hb : b = (S : Int)) (hS : S ≤ 4294967296) (r : Nat) (hr : (S + 7) / 8 = r) :
    Calls Tryz.prog 120 #[.int .i64 b] w fun e w' => e = .returned (.int .i64 r) ∧ w' = w := by
  subst hr
  subst hb
  go_enter Tryz.func120, Tryz.ntmps120
  go_wp2
  go_ret
  exact ⟨I.ret_int (by omega), rfl⟩
set_option maxRecDepth 100000 in
theorem groupsOf_is (b : Int) (S : Nat) (w : World) (hb : b = (S : Int)) (hS : S ≤ 4294967296) (r : Nat) (hr : (S + 7) / 8 = r) :
    Calls Tryz.prog 121 #[.int .i64 b] w fun e w' => e = .returned (.int .i64 r) ∧ w' = w := by
  subst hr
  subst hb
  go_enter Tryz.func121, Tryz.ntmps121
  go_wp2
  go_ret
  exact ⟨I.ret_int (by omega), rfl⟩

theorem tw_cut (x : Nat) : ∀ (k : Nat) (l : List Nat), R.tw x (l.take k) = min k (R.tw x l)
  | 0, l => by simp [R.tw]
  | k + 1, [] => by simp [R.tw]
  | k + 1, y :: r => by
    rw [List.take_succ_cons]
    simp only [R.tw]
    split
    · rw [tw_cut x k r]; omega
    · omega
theorem runLen_cut {l : List Nat} {k : Nat} (hk : 0 < k) : R.runLen (l.take k) = min k (R.runLen l) := by
  unfold R.runLen
  cases l with
  | nil => simp [R.tw]
  | cons x r =>
    obtain ⟨j, rfl⟩ : ∃ j, k = j + 1 := ⟨k - 1, by omega⟩
    rw [List.take_succ_cons]
    show R.tw x (x :: r.take j) = min (j + 1) (R.tw x (x :: r))
    rw [← List.take_succ_cons, tw_cut]

set_option maxRecDepth 100000 in
theorem runSize_is (a : Option Addr) (len cap : Nat) (l : List Nat) (w : World) (hlen : len = l.length) (hp : 0 < l.length) (hB : Rd n64 w a cap l) (R' : Nat) (hR : R.runLen l = R') :
    Calls Tryz.prog 101 #[.slice a len cap] w fun e w' => e = .returned (.int .i64 R') ∧ Ex w w' := by
  subst hlen
  have g1 := hB.1
  have g2 := hB.2.1
  unfold maxLen at g2
  have hR0 := runLen_at hp
  rw [List.drop_zero, hR] at hR0
  have hR := hR0.symm
  clear hR0
  obtain ⟨b1, o1, rfl, hc1⟩ := hB.at hp
  obtain ⟨x, hx⟩ : ∃ x, x = l[0] := ⟨_, rfl⟩
  rw [← hx] at hc1 hR
  have hcx : w.cell? ⟨b1, o1, none⟩ = some (.int .u64 (x : Int)) := hc1
  have hip : (0 : Int) < (l.length : Int) := by omega
  have HB : Hid (Rd n64 w (some ⟨b1, o1, none⟩) cap l) := hB
  have HR : Hid (R.tw x l = R') := hR
  clear hB hR hc1 hx
  go_enter Tryz.func101, Tryz.ntmps101
  go_wp2
  go_loopw [3] (fun v wr => ∃ n : Nat, n ≤ l.length ∧ v = .int .i64 n ∧ Hid (R.tw x (l.drop n) + n = R') ∧ ∃ q, wr = w.drewN q) (fun v _ => l.length - (intOf v).toNat)
  case atStart => exact ⟨0, by omega, rfl, (by have := HR.out; simpa using this : R.tw x (l.drop 0) + 0 = R'), 0, rfl⟩
  case round =>
    obtain ⟨n, hn2, rfl, HT, q, rfl⟩ := hrel
    by_cases hlt : n < l.length
    · obtain ⟨b2, o2, he, hc2⟩ := HB.out.at hlt
      simp only [Option.some.injEq, Addr.mk.injEq] at he
      obtain ⟨rfl, rfl, _⟩ := he
      have hst := @tw_step l x n hlt
      have hsp := @tw_stop l x n hlt
      obtain ⟨y, hy⟩ : ∃ y, y = l[n] := ⟨_, rfl⟩
      rw [← hy] at hc2 hst hsp
      have hcy : w.cell? ⟨b1, o1 + n, none⟩ = some (.int .u64 (y : Int)) := hc2
      have hin : (n : Int) < (l.length : Int) := by omega
      have hd : decide ((n : Int) < (l.length : Int)) = true := by simp; omega
      by_cases he : y = x
      · have hxy : ((y : Int) == (x : Int)) = true := by simp; omega
        have HT2 : Hid (R.tw x (l.drop (n + 1)) + (n + 1) = R') := (by have := HT.out; have := hst he; omega : R.tw x (l.drop (n + 1)) + (n + 1) = R')
        have hle1 : x ≤ y := by omega
        have hle2 : y ≤ x := by omega
        clear hc2 hy hst hsp he
        go_wp2
        go_quiet (fail)
        go_wp2
        go_roundw
        case rel => exact ⟨n + 1, by omega, by go_num, HT2, q + nq, rfl⟩
        case measure => simp [intOf]; omega
      · have hxy : ((y : Int) == (x : Int)) = false := by simp; omega
        have HT2 : Hid (n = R') := (by have := HT.out; have := hsp he; omega : n = R')
        clear hc2 hy hst hsp
        go_wp2
        go_quiet (fail)
        go_wp2
        go_ret
        exact ⟨I.ret_int (by have := HT2.out; omega), by first | exact Ex.drewN w _ | exact (Ex.drewN w q).trans (Ex.drewN _ _)⟩
    · obtain rfl : n = l.length := by omega
      have hd : decide ((l.length : Int) < (l.length : Int)) = false := by simp
      have HT2 : Hid (l.length = R') := (by have := HT.out; rw [List.drop_length] at this; simp [R.tw] at this; omega : l.length = R')
      go_wp2
      go_quiet (fail)
      go_wp2
      go_ret
      exact ⟨I.ret_int (by have := HT2.out; omega), by first | exact Ex.drewN w _ | exact (Ex.drewN w q).trans (Ex.drewN _ _)⟩

set_option maxRecDepth 100000 in
theorem beginsRun_is (a : Option Addr) (len cap : Nat) (l : List Nat) (w : World) (hlen : len = l.length) (hB : Rd n64 w a cap l) (r : Bool) (hr : decide (8 ≤ R.runLen l) = r) :
    Calls Tryz.prog 100 #[.slice a len cap] w fun e w' => e = .returned (.bool r) ∧ Ex w w' := by
  subst hlen
  subst hr
  have g1 := hB.1
  have g2 := hB.2.1
  unfold maxLen at g2
  have hle := R.runLen_le l
  by_cases h8 : 8 ≤ l.length
  · have t8 : decide (8 ≤ (l.length : Int)) = true := by simp; omega
    have hcut := @runLen_cut l 8 (by decide)
    have hlen8 : (l.take 8).length = 8 := by simp; omega
    have hB8 := hB.take 8
    obtain ⟨m, hm⟩ : ∃ m, m = R.runLen (l.take 8) := ⟨_, rfl⟩
    have HM : Hid (R.runLen (l.take 8) = m) := hm.symm
    have hd : decide (8 ≤ R.runLen l) = ((m : Int) == 8) := by
      rw [← hm] at hcut
      by_cases h : 8 ≤ R.runLen l
      · rw [decide_eq_true h]; symm; simp; omega
      · rw [decide_eq_false h]; symm; simp; omega
    have hc8 : (8 : Int) ≤ (cap : Int) := by omega
    rw [hd]
    have HB8 : Hid (Rd n64 w a cap (l.take 8)) := hB8
    have HL8 : Hid ((l.take 8).length = 8) := hlen8
    clear hB hB8 hlen8 hd hm hcut
    go_enter Tryz.func100, Tryz.ntmps100
    go_wp2_with fail
    refine (runSize_is a _ cap (l.take 8) _ HL8.out.symm (by rw [HL8.out]; decide) HB8.out m HM.out).mono ?_
    rintro e w' ⟨rfl, hx⟩
    go_wp2
    go_ret
    exact ⟨rfl, hx⟩
  · have t8 : decide (8 ≤ (l.length : Int)) = false := by simp; omega
    have hd : decide (8 ≤ R.runLen l) = false := by simp; omega
    rw [hd]
    clear hd
    go_enter Tryz.func100, Tryz.ntmps100
    go_wp2
    go_ret
    exact ⟨rfl, Ex.refl _⟩

/-- How many numbers stand ahead of the next run. -/
theorem groups_size {l : List Nat} (h : l ≠ []) : R.groups l = 1 + R.more (l.drop 8) := by unfold R.groups; rw [if_neg h]
set_option maxRecDepth 100000 in
set_option maxHeartbeats 1000000 in
theorem groupsSize_is (a : Option Addr) (len cap : Nat) (l : List Nat) (w : World) (hlen : len = l.length) (hp : 0 < l.length) (hl2 : l.length ≤ 2000000) (hB : Rd n64 w a cap l) (r : Nat) (hr : min (8 * R.groups l) l.length = r) :
    Calls Tryz.prog 103 #[.slice a len cap] w fun e w' => e = .returned (.int .i64 r) ∧ Ex w w' := by
  subst hlen
  subst hr
  have g1 := hB.1
  have g2 := hB.2.1
  unfold maxLen at g2
  have hne : l ≠ [] := List.length_pos_iff.1 hp
  obtain ⟨G, hG⟩ : ∃ G, G = R.groups l := ⟨_, rfl⟩
  have hG1 := groups_size hne
  have hGl := R.groups_le l
  rw [← hG] at hG1 hGl ⊢
  have HG : Hid (G = 1 + R.more (l.drop 8)) := hG1
  obtain ⟨b1, o1, rfl, _⟩ := hB.at hp
  have HB : Hid (Rd n64 w (some ⟨b1, o1, none⟩) cap l) := hB
  have HN : Hid (l ≠ []) := hne
  clear hB hG1 hne hG
  by_cases hl8 : 8 ≤ l.length
  · have hl8i : (8 : Int) ≤ (l.length : Int) := by omega
    have hl8d : decide ((l.length : Int) < 8) = false := by simp; omega
    have hl8e : decide ((8 : Int) ≤ (l.length : Int)) = true := by simp; omega
    go_enter Tryz.func103, Tryz.ntmps103
    go_wp2
    go_loopw [3] (fun v wr => ∃ g q : Nat, 1 ≤ g ∧ g ≤ G ∧ q ≤ l.length ∧ v = .int .i64 q ∧ Hid (q = min (8 * g) l.length) ∧ Hid (g + R.more (l.drop (8 * g)) = G) ∧ Hid (Ex w wr)) (fun v _ => l.length - (intOf v).toNat)
    case atStart => exact ⟨1, 8, by omega, by have := HG.out; omega, by omega, rfl, (by omega : 8 = min (8 * 1) l.length), (HG.out.symm : 1 + R.more (l.drop (8 * 1)) = G), Ex.refl w⟩
    case round =>
      obtain ⟨g, q, hg1, hgG, hql, rfl, HQ, HMo, HX⟩ := hrel
      by_cases hlt : q < l.length
      · have tq : decide ((q : Int) < (l.length : Int)) = true := by simp; omega
        have hq8 : q = 8 * g := by have := HQ.out; omega
        have hme := R.more_eq (l.drop q)
        have hqne : l.drop q ≠ [] := by intro e; have := congrArg List.length e; simp at this; omega
        have hmo := HMo.out
        rw [← hq8] at hmo
        rw [List.drop_drop] at hme
        have hrd0 := (HB.out.below HX.out).sub q (l.length - q) (by omega)
        have htk : (l.drop q).take (l.length - q) = l.drop q := List.take_of_length_le (by simp)
        rw [htk, Option.map_some, add_none] at hrd0
        have HRd : Hid (Rd n64 wr (some ⟨b1, o1 + q, none⟩) (cap - q) (l.drop q)) := hrd0
        have HL : Hid (l.length - q = (l.drop q).length) := (by simp : l.length - q = (l.drop q).length)
        have hcq : ¬ cap - q = 0 := by omega
        by_cases h8 : 8 ≤ R.runLen (l.drop q)
        · have hfin : g = G := by rw [if_pos (.inr h8)] at hme; omega
          subst hfin
          have T8 : Hid (decide (8 ≤ R.runLen (l.drop q)) = true) := (by simpa using h8 : decide (8 ≤ R.runLen (l.drop q)) = true)
          have HQ2 : Hid (q = min (8 * g) l.length) := HQ
          clear hme hmo hqne hrd0 htk h8 hq8
          go_wp2_with fail
          refine (beginsRun_is _ _ _ (l.drop q) _ HL.out HRd.out true T8.out).mono ?_
          rintro e w1 ⟨rfl, hx1⟩
          go_wp2
          go_ret
          exact ⟨I.ret_int (by have := HQ2.out; omega), HX.out.trans hx1⟩
        · have hstep : g + 1 + R.more (l.drop (8 * (g + 1))) = G := by
            rw [if_neg (by rintro (h | h); exact hqne h; exact h8 h)] at hme
            have e : 8 * (g + 1) = q + 8 := by omega
            rw [e]; omega
          have T8 : Hid (decide (8 ≤ R.runLen (l.drop q)) = false) := (by simpa using h8 : decide (8 ≤ R.runLen (l.drop q)) = false)
          have HM2 : Hid (g + 1 + R.more (l.drop (8 * (g + 1))) = G) := hstep
          have hg2 : g + 1 ≤ G := by omega
          have HQ2 : Hid (min (q + 8) l.length = min (8 * (g + 1)) l.length) := (by omega : min (q + 8) l.length = min (8 * (g + 1)) l.length)
          clear hme hmo hqne hrd0 htk h8 hq8 hstep
          by_cases hq9 : q + 8 ≤ l.length
          · have hq9i : (q : Int) + 8 ≤ (l.length : Int) := by omega
            have hq9d : decide ((l.length : Int) < (q : Int) + 8) = false := by simp; omega
            have hq9e : decide ((q : Int) + 8 ≤ (l.length : Int)) = true := by simp; omega
            go_wp2_with fail
            refine (beginsRun_is _ _ _ (l.drop q) _ HL.out HRd.out false T8.out).mono ?_
            rintro e w1 ⟨rfl, hx1⟩
            have HX1 : Hid (Ex w w1) := HX.out.trans hx1
            clear hx1
            go_wp2
            go_roundw
            case rel => exact ⟨g + 1, q + 8, by omega, hg2, by omega, by go_num, (by have := HQ2.out; omega : q + 8 = min (8 * (g + 1)) l.length), HM2, HX1⟩
            case measure => simp [intOf]; omega
          · have hq9i : ¬ (q : Int) + 8 ≤ (l.length : Int) := by omega
            have hq9d : decide ((l.length : Int) < (q : Int) + 8) = true := by simp; omega
            have hq9e : decide ((q : Int) + 8 ≤ (l.length : Int)) = false := by simp; omega
            go_wp2_with fail
            refine (beginsRun_is _ _ _ (l.drop q) _ HL.out HRd.out false T8.out).mono ?_
            rintro e w1 ⟨rfl, hx1⟩
            have HX1 : Hid (Ex w w1) := HX.out.trans hx1
            clear hx1
            go_wp2
            go_roundw
            case rel => exact ⟨g + 1, l.length, by omega, hg2, by omega, by go_num, (by have := HQ2.out; omega : l.length = min (8 * (g + 1)) l.length), HM2, HX1⟩
            case measure => simp [intOf]; omega
      · have tq : decide ((q : Int) < (l.length : Int)) = false := by simp; omega
        have HF : Hid (q = min (8 * G) l.length) := (by have := HQ.out; omega : q = min (8 * G) l.length)
        go_wp2
        go_ret
        exact ⟨I.ret_int (by have := HF.out; omega), HX.out⟩
  · have hl8i : ¬ (8 : Int) ≤ (l.length : Int) := by omega
    have hl8d : decide ((l.length : Int) < 8) = true := by simp; omega
    have hl8e : decide ((8 : Int) ≤ (l.length : Int)) = false := by simp; omega
    have hGp : 1 ≤ G := by have := HG.out; omega
    have tll : decide ((l.length : Int) < (l.length : Int)) = false := by simp
    go_enter Tryz.func103, Tryz.ntmps103
    go_wp2
    go_loopw [3] (fun v wr => v = .int .i64 l.length ∧ wr = w) (fun v _ => 0)
    case atStart => exact ⟨rfl, rfl⟩
    case round =>
      obtain ⟨rfl, hwr⟩ := hrel
      subst hwr
      go_wp2
      go_ret
      exact ⟨I.ret_int (by omega), Ex.refl _⟩
end Go.Proofs.YtnmonoafjijfhaaGreat
namespace Go.Proofs.YtnmonoafjijfhaaGreat
open Go.RowKit
set_option linter.unusedVariables false

theorem shift_step (x j : Nat) : x / 2 ^ (8 * j) / 256 = x / 2 ^ (8 * (j + 1)) := by
  rw [Nat.div_div_eq_div_mul, show 8 * (j + 1) = 8 * j + 8 by omega, Nat.pow_add]
set_option maxRecDepth 100000 in
set_option maxHeartbeats 1000000 in
theorem addRun_any (base : Nat) (v : Value) (pre pd : List UInt8) (x n D : Nat) (w : World) (hown : Own w base v pre) (hb : base ≤ w.heap.size) (hx : x < 18446744073709551616) (hn : n ≤ 2000000) (hD : D ≤ 32) (hpl : pre.length ≤ 200000000) (hpd : pre ++ M.digs (2 * n) = pd) :
    Calls Tryz.prog 102 #[v, .int .u64 x, .int .i64 n, .int .i64 D] w fun e w' => ∃ v', e = .returned v' ∧ Own w' base v' (pd ++ R.few D x) ∧ Below base w w' := by
  obtain ⟨i0, hi, hz0, hz1, hz2⟩ := info_parts Tryz.info5
  obtain ⟨N2, hN2⟩ : ∃ N2, N2 = 2 * n := ⟨_, rfl⟩
  rw [← hN2] at hpd
  have HPD : Hid (pre ++ M.digs N2 = pd) := hpd
  have hN2b : N2 ≤ 4000000 := by omega
  have HN2 : Hid (N2 = 2 * n) := hN2
  have HO : Hid (Own w base v pre) := hown
  have HB0 : Hid (base ≤ w.heap.size) := hb
  have hdl := M.digs_len N2
  have hpdl : pd.length ≤ 200000010 := by rw [← hpd]; simp; omega
  clear hN2 hown hb hpd
  go_enter Tryz.func102, Tryz.ntmps102
  go_wp2_with fail
  refine (put_is none 0 0 [] (M.digs N2) _ N2 _ (by have := HN2.out; omega) rfl (Byt.nil _) rfl (by omega) (by simp)).mono ?_
  rintro e w1 ⟨v1, rfl, ho1, hb1⟩
  obtain ⟨a1, c1, rfl, hby1⟩ := ho1.byt
  have hx1 : Ex w w1 := hb1
  have HX1 : Hid (Ex w w1) := hx1
  have HO1 : Hid (Own w1 base v pre) := HO.out.later hx1
  have HBy : Hid (Byt w1 a1 c1 (M.digs N2)) := hby1
  have hbs1 : base ≤ w1.heap.size := Nat.le_trans HB0.out hx1.size
  clear ho1 hb1 hby1 hx1
  go_wp2_with (at_builtin; refine wpList_append_byt rfl (.tmp 9) (.tmp 13) rfl base _ pre rfl HO1.out a1 _ c1 (M.digs N2) rfl rfl HBy.out ?x1 hbs1 ?_)
  case x1 => omega
  intro v2 w2 ho2 hg2
  have hbw2 : Below base w w2 := step_below0 (HX1.out.mono HB0.out) hbs1 HO1.out hg2
  have HO2 : Hid (Own w2 base v2 (pd ++ fewK x 0)) := (by rw [HPD.out] at ho2; simpa [fewK] using ho2 : Own w2 base v2 (pd ++ fewK x 0))
  have HB2 : Hid (Below base w w2) := hbw2
  clear ho2 hg2 hbw2
  go_wp2_with fail
  refine (numSize_is _ D _ rfl (by omega) _ rfl).mono ?_
  rintro e wq ⟨rfl, hw'⟩
  have hw'' := hw'.symm
  clear hw'
  subst hw''
  go_wp2
  go_loopw [0, 1, 17] (fun v i k wr => ∃ j : Nat, j ≤ (D + 7) / 8 ∧ i = .int .u64 ((x / 2 ^ (8 * j) : Nat) : Int) ∧ k = .int .i64 j ∧ Hid (Own wr base v (pd ++ fewK x j)) ∧ Hid (Below base w wr)) (fun _ _ k _ => 72 - (intOf k).toNat)
  case atStart => exact ⟨0, by omega, by simp, rfl, HO2, HB2⟩
  case round =>
    obtain ⟨j, hj, rfl, rfl, HOj, HBj⟩ := hrel
    clear HO2 HB2
    have hbs : base ≤ wr.heap.size := Nat.le_trans HB0.out HBj.out.size
    by_cases hlt : j < (D + 7) / 8
    · have hd : decide ((j : Int) < (((D + 7) / 8 : Nat) : Int)) = true := by simp; omega
      have hfl := fewK_len x j
      obtain ⟨y, hy⟩ : ∃ y, y = x / 2 ^ (8 * j) := ⟨_, rfl⟩
      have hyx : y ≤ x := by rw [hy]; exact Nat.div_le_self _ _
      have HV : Hid ((y : Int) % 256 = ((UInt8.ofNat (x / 2 ^ (8 * j))).toNat : Int)) := (by rw [← hy, UInt8.toNat_ofNat']; omega : (y : Int) % 256 = ((UInt8.ofNat (x / 2 ^ (8 * j))).toNat : Int))
      have HS : Hid (y / 256 = x / 2 ^ (8 * (j + 1))) := (by rw [hy]; exact shift_step x j : y / 256 = x / 2 ^ (8 * (j + 1)))
      rw [← hy]
      clear hy
      go_wp2_with (at_builtin; refine wpList_append_own _ rfl (.tmp 19) (.tmp 22) 22 rfl base 5 i0 (.int .u8 0) 1 1 Tryz.underlying22 hi hz0 hz1 hz2 rfl (by decide) _ _ _ rfl (HOj.out.alloc _) ⟨wr.heap.size, 0, none⟩ 1 1 [.int .u8 ((y : Int) % 256)] rfl rfl ?c1 ?c2 ?c3 ?c4 ?c5 ?_)
      case c1 => exact one_cell wr _
      case c2 => intro u hu; simp at hu; subst hu; rfl
      case c3 => simp [maxLen]; omega
      case c4 => simp; omega
      case c5 => simp; omega
      intro v' w3 hown' hgrow _
      have HB' : Hid (Below base w w3) := step_below HBj.out hbs HOj.out hgrow
      have HO' : Hid (Own w3 base v' (pd ++ fewK x (j + 1))) := (by
        rw [fewK_succ, ← List.append_assoc]
        exact own_push hown' (by simp [hfl]) HV.out : Own w3 base v' (pd ++ fewK x (j + 1)))
      clear hown' hgrow
      go_wp2
      go_roundw
      case rel => exact ⟨j + 1, by omega, I.int_num (by rw [← HS.out]; omega), by go_num, HO', HB'⟩
      case measure => simp [intOf]; omega
    · have hd : decide ((j : Int) < (((D + 7) / 8 : Nat) : Int)) = false := by simp; omega
      have hje : j = (D + 7) / 8 := by omega
      have HO' : Hid (Own wr base u0 (pd ++ R.few D x)) := (by have := HOj.out; rw [hje] at this; exact this : Own wr base u0 (pd ++ R.few D x))
      clear hje
      go_wp2
      go_ret
      exact ⟨_, rfl, HO'.out, HBj.out⟩
end Go.Proofs.YtnmonoafjijfhaaGreat
namespace Go.Proofs.YtnmonoafjijfhaaGreat
open Go.RowKit
set_option linter.unusedVariables false

section
variable {α : Type} {enc : α → Value} {e : TypeId}
theorem Rd.far {w w' : World} {g off cap : Nat} {l : List α} {row : Option Nat} (h : Rd enc w (some ⟨g, off, none⟩) cap l) (hg : w.grownBy w' row) (hlt : g < w.heap.size) (hne : row ≠ some g) : Rd enc w' (some ⟨g, off, none⟩) cap l := by
  obtain ⟨h1, h2, h3, h4⟩ := h
  refine ⟨h1, h2, h3, fun i x hi => ?_⟩
  obtain ⟨b, o, hbo, hc⟩ := h4 i x hi
  simp only [Option.some.injEq, Addr.mk.injEq] at hbo
  obtain ⟨rfl, rfl, _⟩ := hbo
  exact ⟨g, off, rfl, by rw [hg.cell_far ⟨g, off + i, none⟩ hlt (Ne.symm hne)]; exact hc⟩
/-- 'append(out, l...)', as wpList_append_rd; and where the new slice lies. -/
theorem wpList_append_rd_at {w : World} {ops : Array Oper} {rest : List Oper} {o : Oper} {a : Act} {Q : Exit → Act → World → Prop} (hgd : o.guard = none) (s x : Operand) (t : TypeId)
    (ho : o.op = .call { callee := .builtin .append, args := #[s, x], argTypes := #[t, t] }) (z : α) (by_ : Nat) (ht : Tryz.prog.underlying t = some (.slice e)) (hinfo : (Tryz.prog.info? e).map (fun i => (i.zero, i.size, i.bytes)) = some (some (enc z), 1, by_)) (hz : (enc z).cells.size = 1) (hone : ∀ x : α, (enc x).oneCell' = true) (base : Nat)
    (v : Value) (xs : List α) (hs : a.eval s = v) (hown : OwnR e enc w base v xs) (p : Option Addr) (n c : Nat) (l : List α) (hx : a.eval x = .slice p n c) (hn : n = l.length) (hB : Rd enc w p c l)
    (h63 : xs.length + l.length ≤ maxLen) (hby : (xs.length + l.length) * by_ ≤ 140737488355328) (hbase : base ≤ w.heap.size)
    (h : ∀ v' w', OwnR e enc w' base v' (xs ++ l) → w.grownBy w' v.ownBlock → (v'.ownBlock = v.ownBlock ∨ v'.ownBlock = some w.heap.size) → wpList Tryz.prog ops Q rest (a.put o.dst v') w') : wpList Tryz.prog ops Q (o :: rest) a w := by
  subst hn
  obtain ⟨i0, hi, hz0, hz1, hz2⟩ := info_parts hinfo
  cases p with
  | none =>
    have hc := hB.2.2.1 rfl
    have hl : l = [] := List.eq_nil_of_length_eq_zero (by have := hB.1; omega)
    subst hl
    subst hc
    refine wpList_append_own_none hgd s x t ho base e i0 1 ht hi v xs.length (xs.map enc) hs hown hx ?_
    exact h v w (by simpa using hown) (World.grownBy.refl w _) (.inl rfl)
  | some ad =>
    refine wpList_append_own_at _ hgd s x t ho base e i0 (enc z) 1 by_ ht hi hz0 hz1 hz2 hz (by decide) v xs.length (xs.map enc) hs hown ad l.length c (l.map enc) hx (by simp) ?_ ?_ h63 hby hbase ?_
    · intro j u hu
      rw [List.getElem?_map] at hu
      obtain ⟨y, hy, rfl⟩ := Option.map_eq_some_iff.1 hu
      obtain ⟨b, off, hbo, hc⟩ := hB.2.2.2 j y hy
      simp at hbo
      subst hbo
      rw [add_none]
      exact hc
    · intro u hu
      obtain ⟨y, _, rfl⟩ := List.mem_map.1 hu
      exact hone y
    · intro v' w' ho' hg' _ hat
      refine h v' w' ?_ hg' hat
      show World.ownsRow _ _ _ _ _ _ _
      rw [List.map_append, List.length_append]
      exact ho'
end
end Go.Proofs.YtnmonoafjijfhaaGreat
