/-
  The landed chunk's nought, upTo, spread. The landed reader of a column: places.
-/
import Derived.Test.YtnmonoafjijfhaaGreatM39
namespace Go.Proofs.YtnmonoafjijfhaaGreat
open Go.RowKit
set_option linter.unusedVariables false
set_option linter.unusedSimpArgs false
/-- A number as an int. -/
abbrev zn : Nat → Value := fun n => .int .i64 (n : Int)
theorem fillz_set {α : Type} (A : List α) (m k : Nat) (z x : α) (hk : k = A.length) : (A ++ List.replicate (m + 1) z).set k x = A ++ [x] ++ List.replicate m z := by
  subst hk
  rw [List.set_append_right _ _ (Nat.le_refl _)]
  simp [List.replicate_succ]
theorem fillz_set2 {α : Type} (A : List α) (m k : Nat) (z y x : α) (hk : k = A.length) : (A ++ [y] ++ List.replicate m z).set k x = A ++ [x] ++ List.replicate m z := by
  subst hk
  rw [List.append_assoc, List.set_append_right _ _ (Nat.le_refl _)]
  simp
theorem nought_take {l : List Nat} {k : Nat} (h : k < l.length) : Ck.nought (l.take (k + 1)) = Ck.nought (l.take k) + (if l[k] = 0 then 1 else 0) := by
  rw [take_snoc h]
  unfold Ck.nought
  rw [List.countP_append]
  by_cases h0 : l[k] = 0 <;> simp [h0]
set_option maxHeartbeats 1000000 in
set_option maxRecDepth 100000 in
theorem nought_is (a : Option Addr) (n cap : Nat) (l : List Nat) (w : World) (hn : n = l.length) (hB : Rd n64 w a cap l) :
    Calls Tryz.prog 83 #[.slice a n cap] w fun e w' => e = .returned (.int .i64 (Ck.nought l : Int)) ∧ w' = w := by
  have HN : Hid (n = l.length) := hn
  have HB : Hid (Rd n64 w a cap l) := hB
  have hcl : n ≤ cap := by have := hB.1; omega
  have hcm := hB.2.1
  unfold maxLen at hcm
  obtain ⟨R, hR⟩ : ∃ R, Ck.nought l = R := ⟨_, rfl⟩
  have HR : Hid (Ck.nought l = R) := hR
  rw [hR]
  clear hB hn hR
  go_enter Tryz.func83, Tryz.ntmps83
  go_wp2_with fail
  go_loopw [3, 5, 8] (fun cv v iv wr => ∃ (i c : Nat), i ≤ n ∧ c ≤ i ∧ iv = .int .i64 (i : Int) ∧ cv = .int .i64 (c : Int) ∧ Hid (Ck.nought (l.take i) = c) ∧ Hid (wr = w)) (fun cv v iv wr => n - (intOf iv).toNat)
  case atStart => exact ⟨0, 0, by omega, by omega, rfl, rfl, (rfl : Ck.nought (l.take 0) = 0), rfl⟩
  case round =>
    obtain ⟨i, c, hi, hc, rfl, rfl, HC, HW⟩ := hrel
    have hw := HW.out
    subst hw
    by_cases hlt : i < n
    · have ti : (i : Int) < (n : Int) := by omega
      have hlt2 : i < l.length := by rw [← HN.out]; exact hlt
      obtain ⟨bq, off, rfl, hcell⟩ := HB.out.at hlt2
      obtain ⟨V, hV⟩ : ∃ V, V = l[i] := ⟨_, rfl⟩
      rw [← hV] at hcell
      have hc' : wr.cell? ⟨bq, off + i, none⟩ = some (.int .u64 (V : Int)) := hcell
      have hst := nought_take hlt2
      rw [← hV, HC.out] at hst
      clear hcell hV
      by_cases hV0 : V = 0
      · have t1 : ((V : Int) == 0) = true := by simp; omega
        rw [if_pos hV0] at hst
        have HC1 : Hid (Ck.nought (l.take (i + 1)) = c + 1) := hst
        clear hst HC
        go_wp2_with fail
        go_roundw
        case rel => exact ⟨i + 1, c + 1, by omega, by omega, by go_num, by go_num, HC1, trivial⟩
        case measure => simp [intOf]; omega
      · have t1 : ((V : Int) == 0) = false := beq_eq_false_iff_ne.2 (by omega)
        rw [if_neg hV0] at hst
        have HC1 : Hid (Ck.nought (l.take (i + 1)) = c) := hst
        clear hst HC
        go_wp2_with fail
        go_roundw
        case rel => exact ⟨i + 1, c, by omega, by omega, by go_num, by go_num, HC1, trivial⟩
        case measure => simp [intOf]; omega
    · have ti : ¬ (i : Int) < (n : Int) := by omega
      have hcR : c = R := by
        have h := HC.out
        rw [List.take_of_length_le (by rw [← HN.out]; omega), HR.out] at h
        exact h.symm
      subst hcR
      go_wp2_with fail
      go_ret
      exact ⟨rfl, rfl⟩
set_option maxHeartbeats 1000000 in
set_option maxRecDepth 100000 in
theorem upTo_is (n : Int) (m : Nat) (w : World) (hn : n = m) (hm : m ≤ 70000) :
    Calls Tryz.prog 85 #[.int .i64 n] w fun e w' => ∃ v, e = .returned v ∧ IsRd zn (List.range m) v w' ∧ Ex w w' := by
  subst hn
  go_enter Tryz.func85, Tryz.ntmps85
  go_wp2_with (at_make; refine wpList_make_row (enc := zn) rfl _ _ 62 3 rfl 0 8 Tryz.underlying62 rfl Tryz.info3 _ _ m rfl rfl rfl rfl (by omega) (by omega) ?_; intro w3 hr3 hb3)
  obtain ⟨g, hg⟩ : ∃ g, g = w.heap.size := ⟨_, rfl⟩
  rw [← hg]
  have h0R : Hid (RowAt zn 3 w3 g (List.range 0 ++ List.replicate (m - 0) 0)) := (by rw [hg]; simpa using hr3 : RowAt zn 3 w3 g (List.range 0 ++ List.replicate (m - 0) 0))
  have h0B : Hid (Below g w w3) := (by rw [hg]; exact hb3 : Below g w w3)
  have HGb : Hid (g = w.heap.size) := hg
  clear hr3 hb3 hg
  go_loopw [4, 9] (fun v iv wr => ∃ i : Nat, i ≤ m ∧ iv = .int .i64 (i : Int) ∧ Hid (RowAt zn 3 wr g (List.range i ++ List.replicate (m - i) 0)) ∧ Hid (Below g w wr)) (fun v iv wr => m - (intOf iv).toNat)
  case atStart => exact ⟨0, by omega, rfl, h0R, h0B⟩
  case round =>
    obtain ⟨i, hi, rfl, HRo, HBl⟩ := hrel
    clear h0R h0B
    by_cases hlt : i < m
    · have ti : (i : Int) < (m : Int) := by omega
      obtain ⟨m1, hm1⟩ : ∃ m1, m - i = m1 + 1 := ⟨m - i - 1, by omega⟩
      have hll : i < (List.range i ++ List.replicate (m - i) 0).length := by simp; omega
      obtain ⟨old, hco⟩ : ∃ old, wr.cell? ⟨g, i, none⟩ = some old := ⟨_, HRo.out.cell hll⟩
      have hfr : wr.frozen? ⟨g, i, none⟩ = false := HRo.out.frozen i
      have hset : RowAt zn 3 (wr.setCell ⟨g, i, none⟩ (.int .i64 (i : Int))) g (List.range (i + 1) ++ List.replicate (m - (i + 1)) 0) := by
        have h := HRo.out.set (k := i) i (v := .int .i64 (i : Int)) rfl
        rw [hm1, fillz_set (List.range i) m1 i 0 i (by simp)] at h
        rw [List.range_succ, show m - (i + 1) = m1 by omega]
        exact h
      have HRn : Hid (RowAt zn 3 (wr.setCell ⟨g, i, none⟩ (.int .i64 (i : Int))) g (List.range (i + 1) ++ List.replicate (m - (i + 1)) 0)) := hset
      have HBn : Hid (Below g w (wr.setCell ⟨g, i, none⟩ (.int .i64 (i : Int)))) := HBl.out.setCell (p := ⟨g, i, none⟩) (Nat.le_refl _) _
      clear hset hm1 hll HRo HBl
      go_wp2_with fail
      go_roundw
      case rel => exact ⟨i + 1, by omega, by go_num, HRn, HBn⟩
      case measure => simp [intOf]; omega
    · have ti : ¬ (i : Int) < (m : Int) := by omega
      have him : i = m := by omega
      have hro := HRo.out
      rw [him, Nat.sub_self, List.replicate_zero, List.append_nil] at hro
      have HR6 : Hid (Rd zn wr (some ⟨g, 0, none⟩) m (List.range m)) := hro.rd (by simp) (by omega)
      clear HRo hro him
      go_wp2_with fail
      go_ret
      exact ⟨_, rfl, ⟨some ⟨g, 0, none⟩, m, by simp, HR6.out⟩, by have h := HBl.out; rw [HGb.out] at h; exact h⟩
set_option maxHeartbeats 4000000 in
set_option maxRecDepth 100000 in
theorem spread_is (a : Option Addr) (n cap : Nat) (l : List Nat) (a2 : Option Addr) (n2 c2 : Nat) (ps : List Nat) (Q : Int) (q : Nat) (w : World) (hn : n = l.length) (hn2 : n2 = ps.length) (hB : Rd n64 w a cap l) (hB2 : Rd zn w a2 c2 ps) (hQ : Q = q) (hl : l.length ≤ 70000) (hno : Ck.nought l ≤ ps.length) :
    Calls Tryz.prog 90 #[.slice a n cap, .slice a2 n2 c2, .int .i64 Q] w fun e w' => ∃ v, e = .returned v ∧ IsRd zn (Ck.sprd l ps q) v w' ∧ Fresh w.heap.size v ∧ Ex w w' := by
  subst hQ
  have HN : Hid (n = l.length) := hn
  have HN2 : Hid (n2 = ps.length) := hn2
  have HB : Hid (Rd n64 w a cap l) := hB
  have HB2 : Hid (Rd zn w a2 c2 ps) := hB2
  have HNo : Hid (Ck.nought l ≤ ps.length) := hno
  have hn7 : n ≤ 70000 := by omega
  have HBk : Hid (0 < ps.length → ∀ bq off, a2 = some ⟨bq, off, none⟩ → bq < w.heap.size) := rd_blk hB2
  obtain ⟨R, hR⟩ : ∃ R, Ck.sprd l ps q = R := ⟨_, rfl⟩
  have HR : Hid (Ck.sprd l ps q = R) := hR
  have HRl : Hid (R.length = n) := (by rw [← hR, Ck.sprd_len, hn] : R.length = n)
  rw [hR]
  clear hB hB2 hn hn2 hno hR hl
  go_enter Tryz.func90, Tryz.ntmps90
  go_wp2_with (at_make; refine wpList_make_row (enc := zn) rfl _ _ 62 3 rfl 0 8 Tryz.underlying62 rfl Tryz.info3 _ _ n rfl rfl rfl rfl (by omega) (by omega) ?_; intro w3 hr3 hb3)
  obtain ⟨g, hg⟩ : ∃ g, g = w.heap.size := ⟨_, rfl⟩
  rw [← hg]
  rw [← hg] at HBk
  have h0R : Hid (RowAt zn 3 w3 g ([] ++ List.replicate (n - 0) 0)) := (by rw [hg]; simpa using hr3 : RowAt zn 3 w3 g ([] ++ List.replicate (n - 0) 0))
  have h0B : Hid (Below g w w3) := (by rw [hg]; exact hb3 : Below g w w3)
  have h0P : Hid (Rd zn w3 a2 c2 ps) := HB2.out.below hb3
  have HGb : Hid (g = w.heap.size) := hg
  have hgsz : w.heap.size ≤ g := by omega
  clear hr3 hb3 hg
  go_loopw [1, 8, 9, 15] (fun pv iv2 mv iv wr => ∃ (i n3 c3 : Nat) (a3 : Option Addr) (p3 A : List Nat), i ≤ n ∧ iv = .int .i64 (i : Int) ∧ pv = .slice a3 n3 c3 ∧ Hid (n3 = p3.length) ∧ Hid (A.length = i) ∧ Hid (A ++ Ck.sprd (l.drop i) p3 q = R) ∧ Hid (Ck.nought (l.drop i) ≤ p3.length) ∧ Hid (Rd zn wr a3 c3 p3) ∧ Hid (0 < p3.length → ∀ bq off, a3 = some ⟨bq, off, none⟩ → bq < g) ∧ Hid (RowAt zn 3 wr g (A ++ List.replicate (n - i) 0)) ∧ Hid (Below g w wr)) (fun pv iv2 mv iv wr => n - (intOf iv).toNat)
  case atStart => exact ⟨0, n2, c2, a2, ps, [], by omega, rfl, rfl, HN2, rfl, HR, HNo, h0P, HBk, h0R, h0B⟩
  case round =>
    obtain ⟨i, n3, c3, a3, p3, A, hi, rfl, rfl, HN3, HA, HS, HNo3, HP, HPb, HRo, HBl⟩ := hrel
    clear h0R h0B h0P HBk HB2 HN2 HNo HR
    by_cases hlt : i < n
    · have ti : (i : Int) < (n : Int) := by omega
      have hlt2 : i < l.length := by rw [← HN.out]; exact hlt
      have hEw : Ex w wr := by have := HBl.out; rw [HGb.out] at this; exact this
      obtain ⟨bq, off, rfl, hcell⟩ := (HB.out.below hEw).at hlt2
      obtain ⟨V, hV⟩ : ∃ V, V = l[i] := ⟨_, rfl⟩
      rw [← hV] at hcell
      have hc' : wr.cell? ⟨bq, off + i, none⟩ = some (.int .u64 (V : Int)) := hcell
      have hdrop : l.drop i = V :: l.drop (i + 1) := by rw [hV]; exact List.drop_eq_getElem_cons hlt2
      have hsv := HS.out
      have hnv := HNo3.out
      rw [hdrop] at hsv hnv
      rw [Ck.sprd] at hsv
      obtain ⟨m1, hm1⟩ : ∃ m1, n - i = m1 + 1 := ⟨n - i - 1, by omega⟩
      have hm2 : n - (i + 1) = m1 := by omega
      have hll : i < (A ++ List.replicate (n - i) 0).length := by have := HA.out; simp; omega
      obtain ⟨old, hco⟩ : ∃ old, wr.cell? ⟨g, i, none⟩ = some old := ⟨_, HRo.out.cell hll⟩
      have hfr : wr.frozen? ⟨g, i, none⟩ = false := HRo.out.frozen i
      obtain ⟨w0, hw0⟩ : ∃ w0, wr.setCell ⟨g, i, none⟩ (.int .i64 (q : Int)) = w0 := ⟨_, rfl⟩
      have hr0 : RowAt zn 3 w0 g (A ++ [q] ++ List.replicate m1 0) := by
        have h := HRo.out.set (k := i) q (v := .int .i64 (q : Int)) rfl
        rw [hm1, fillz_set A m1 i 0 q HA.out.symm, hw0] at h
        exact h
      have HR0 : Hid (RowAt zn 3 w0 g (A ++ [q] ++ List.replicate m1 0)) := hr0
      have HB0 : Hid (Below g w w0) := (by rw [← hw0]; exact HBl.out.setCell (p := ⟨g, i, none⟩) (Nat.le_refl _) _ : Below g w w0)
      have hg0 : wr.grownBy w0 (some g) := by rw [← hw0]; exact grown_set1 _ _ _ _
      have HP0 : Hid (Rd zn w0 a3 c3 p3) := rd_far HP.out hg0 (fun h0 b2 o2 e2 e3 => by have := HPb.out h0 b2 o2 e2; simp at e3; omega)
      have hA1 : (A ++ [q]).length = i + 1 := by have := HA.out; simp; omega
      have hll0 : i < (A ++ [q] ++ List.replicate m1 0).length := by have := HA.out; simp; omega
      obtain ⟨old0, hco0⟩ : ∃ old0, w0.cell? ⟨g, i, none⟩ = some old0 := ⟨_, hr0.cell hll0⟩
      have hfr0 : w0.frozen? ⟨g, i, none⟩ = false := hr0.frozen i
      clear hcell hV hdrop hm1 hr0 hll hll0 HRo HBl HP HS HNo3 hEw hg0
      by_cases hV0 : V = 0
      · have t1 : ((V : Int) == 0) = true := by simp; omega
        rw [if_pos hV0] at hsv
        have hn1 : Ck.nought (V :: l.drop (i + 1)) = Ck.nought (l.drop (i + 1)) + 1 := by simp [Ck.nought, hV0]
        rw [hn1] at hnv
        cases p3 with
        | nil => simp at hnv
        | cons p p3 =>
          simp only [List.headD_cons, List.tail_cons] at hsv
          simp only [List.length_cons, Nat.add_le_add_iff_right] at hnv
          have HS1 : Hid (A ++ [p] ++ Ck.sprd (l.drop (i + 1)) p3 q = R) := (by rw [List.append_assoc]; exact hsv : A ++ [p] ++ Ck.sprd (l.drop (i + 1)) p3 q = R)
          have HNo1 : Hid (Ck.nought (l.drop (i + 1)) ≤ p3.length) := hnv
          obtain ⟨bp, op, rfl, hcp⟩ := HP0.out.at (k := 0) (by simp)
          have hcp0 : w0.cell? ⟨bp, op, none⟩ = some (.int .i64 (p : Int)) := hcp
          have hk3 := HP0.out.1
          have hm3 := HP0.out.2.1
          unfold maxLen at hm3
          have hn31 : 1 ≤ n3 := by rw [HN3.out]; simp
          have hn3c : n3 ≤ c3 := by rw [HN3.out]; exact hk3
          have hnn : n3 - 1 = p3.length := by rw [HN3.out]; simp
          have HNN : Hid (n3 - 1 = p3.length) := hnn
          obtain ⟨a4, ha4⟩ : ∃ u : Option Addr, (if c3 = 1 then some (⟨bp, op, none⟩ : Addr) else some ⟨bp, op + 1, none⟩) = u := ⟨_, rfl⟩
          have HA4 : Hid ((if c3 = 1 then some (⟨bp, op, none⟩ : Addr) else some ⟨bp, op + 1, none⟩) = a4) := ha4
          have hR4 : Rd zn w0 a4 (c3 - 1) p3 := by
            rw [← ha4]
            split
            · rename_i h1
              have hX0 : p3 = [] := List.eq_nil_of_length_eq_zero (by simp at hk3; omega)
              rw [hX0, h1]; exact Rd.none_d _ _
            · exact HP0.out.from 1 (by simp)
          have HR4 : Hid (Rd zn w0 a4 (c3 - 1) p3) := hR4
          have hbp : bp < g := HPb.out (by simp) bp op rfl
          have HPb4 : Hid (0 < p3.length → ∀ bq off, a4 = some ⟨bq, off, none⟩ → bq < g) := (by
            intro _ b2 o2 e2
            rw [← ha4] at e2
            split at e2 <;> (simp only [Option.some.injEq, Addr.mk.injEq, and_true] at e2; omega) : 0 < p3.length → ∀ bq off, a4 = some ⟨bq, off, none⟩ → bq < g)
          have hne : ¬ bp = g := by omega
          clear hcp hnv hsv hn1 hk3 ha4 hR4 hnn HPb
          go_wp2_with fail
          go_region
          rw [HA4.out]
          go_wp2
          go_roundw
          case rel =>
            have hg8 : w0.grownBy (w0.setCell ⟨g, i, none⟩ (.int .i64 (p : Int))).drew (some g) := grown_tr (grown_set1 _ _ _ _) ((Ex.drew _).grownBy _)
            refine ⟨i + 1, n3 - 1, c3 - 1, a4, p3, A ++ [p], by omega, by go_num, rfl, HNN, ?r1, HS1, HNo1, ?r2, HPb4, ?r3, ?r4⟩
            case r1 => exact (by have := HA.out; simp; omega : (A ++ [p]).length = i + 1)
            case r2 => exact rd_far HR4.out hg8 (fun h0 b2 o2 e2 e3 => by have := HPb4.out h0 b2 o2 e2; simp at e3; omega)
            case r3 =>
              have h := HR0.out.set (k := i) p (v := .int .i64 (p : Int)) rfl
              rw [fillz_set2 A m1 i 0 q p HA.out.symm] at h
              rw [hm2]
              exact (h : RowAt zn 3 (w0.setCell ⟨g, i, none⟩ (.int .i64 (p : Int))) g (A ++ [p] ++ List.replicate m1 0))
            case r4 => exact (HB0.out.setCell (p := ⟨g, i, none⟩) (Nat.le_refl _) _).drew
          case measure => simp [intOf]; omega
      · have t1 : ((V : Int) == 0) = false := beq_eq_false_iff_ne.2 (by omega)
        rw [if_neg hV0] at hsv
        have hn1 : Ck.nought (V :: l.drop (i + 1)) = Ck.nought (l.drop (i + 1)) := by simp [Ck.nought, hV0]
        rw [hn1] at hnv
        have HS1 : Hid (A ++ [q] ++ Ck.sprd (l.drop (i + 1)) p3 q = R) := (by rw [List.append_assoc]; exact hsv : A ++ [q] ++ Ck.sprd (l.drop (i + 1)) p3 q = R)
        have HNo1 : Hid (Ck.nought (l.drop (i + 1)) ≤ p3.length) := hnv
        have HA1 : Hid ((A ++ [q]).length = i + 1) := hA1
        have HR1 : Hid (RowAt zn 3 w0 g (A ++ [q] ++ List.replicate (n - (i + 1)) 0)) := (by rw [hm2]; exact HR0.out : RowAt zn 3 w0 g (A ++ [q] ++ List.replicate (n - (i + 1)) 0))
        clear hnv hsv hn1 hm2 hA1 HR0
        go_wp2_with fail
        go_roundw
        case rel => exact ⟨i + 1, n3, c3, a3, p3, A ++ [q], by omega, by go_num, rfl, HN3, HA1, HS1, HNo1, HP0, HPb, HR1, HB0⟩
        case measure => simp [intOf]; omega
    · have ti : ¬ (i : Int) < (n : Int) := by omega
      have him : i = n := by omega
      have hro := HRo.out
      have hs := HS.out
      rw [him, Nat.sub_self, List.replicate_zero, List.append_nil] at hro
      rw [List.drop_eq_nil_of_le (by rw [← HN.out]; omega)] at hs
      simp only [Ck.sprd, List.append_nil] at hs
      subst hs
      have HR6 : Hid (Rd zn wr (some ⟨g, 0, none⟩) n A) := hro.rd HRl.out.symm (by omega)
      clear HRo hro him HS
      go_wp2_with fail
      go_ret
      exact ⟨_, rfl, ⟨some ⟨g, 0, none⟩, n, congrArg (fun z => Value.slice (some ⟨g, 0, none⟩) z n) HRl.out.symm, HR6.out⟩, by rw [← HGb.out]; exact Fresh.at _ _ _, by have h := HBl.out; rw [HGb.out] at h; exact h⟩
end Go.Proofs.YtnmonoafjijfhaaGreat
namespace Go.Proofs.YtnmonoafjijfhaaGreat
open Go.RowKit
set_option linter.unusedVariables false
set_option linter.unusedSimpArgs false
theorem lruns_len {b : List UInt8} {n : Nat} {wd : Int} {s : CS} : (Ck.lruns b n wd s).1.length ≤ n := by
  unfold Ck.lruns
  split
  · obtain ⟨⟨z, k, e⟩, h⟩ : ∃ x, R.dec b s.at' n wd = x := ⟨_, rfl⟩
    rw [h]
    by_cases he : e = 0
    · subst he
      have := (R.dec_ok h).2.2.2.2.2.2.1
      simp at this
      simp; omega
    · rw [(R.dec_bad h he).1]; simp
  · simp
theorem lruns_lt {b : List UInt8} {n : Nat} {wd : Int} {s : CS} : ∀ x ∈ (Ck.lruns b n wd s).1, x < 4294967296 := by
  intro x hx
  unfold Ck.lruns at hx
  split at hx
  · obtain ⟨⟨z, k, e⟩, h⟩ : ∃ x, R.dec b s.at' n wd = x := ⟨_, rfl⟩
    rw [h] at hx
    by_cases he : e = 0
    · subst he
      have h2 := (R.dec_ok h).2.1
      have h1 := (R.dec_ok h).2.2.2.2.2.2.2.2.2.1
      have h3 := B.fits h1 x hx
      have h4 : (2 : Nat) ^ wd.toNat ≤ 2 ^ 32 := Nat.pow_le_pow_right (by decide) (by omega)
      omega
    · rw [(R.dec_bad h he).1] at hx; simp at hx
  · simp at hx
theorem zn_take {l : List Nat} {k : Nat} (h : k < l.length) (m1 : Nat) : (l.take k ++ List.replicate (m1 + 1) 0).set k l[k] = l.take (k + 1) ++ List.replicate m1 0 := by
  rw [fillz_set (l.take k) m1 k 0 l[k] (by simp; omega), take_snoc h]
set_option maxHeartbeats 4000000 in
set_option maxRecDepth 100000 in
theorem rplaces_is (g : Nat) (a : Option Addr) (cap : Nat) (b : List UInt8) (s : CS) (N M' : Int) (n m : Nat) (w : World) (h : Rdr w g a cap b s) (hN : N = n) (hM : M' = m) (hn : n ≤ 70000) (hm : m ≤ 70000) (hbl : b.length ≤ 140737488355328) :
    Calls Tryz.prog 87 #[.pointer (some ⟨g, 0, none⟩), .int .i64 N, .int .i64 M'] w fun x w' => ∃ u, x = .returned u ∧ IsRd zn (Ck.lplaces b n m s).1 u w' ∧ Rdr w' g a cap b (Ck.lplaces b n m s).2 ∧ w.grownBy w' (some g) := by
  subst hN
  subst hM
  have H : Hid (Rdr w g a cap b s) := h
  have HBL : Hid (b.length ≤ 140737488355328) := hbl
  obtain ⟨x, hx⟩ : ∃ x, m - 1 = x := ⟨_, rfl⟩
  have hif : (if (0 : Int) > (m : Int) - 1 then (0 : Int) else (m : Int) - 1) = (x : Int) := by split <;> omega
  have hmax : ∀ (ts : Array TypeId) (t : TypeId) (W : World), (Builtin.max_ ts t #[.int .i64 ((m : Int) - 1), .int .i64 0]).run Tryz.prog W = .ok (.int .i64 (x : Int)) W := fun ts t W => by rw [run_max_int2, hif]
  have hxw : IntKind.u64.wrap (x : Int) = (x : Int) := by rw [IntKind.wrap_u64]; omega
  have hdw : B.width [x] = Ck.dw m := by simp [B.width, Ck.dw, hx]
  have HDW : Hid (B.width [x] = Ck.dw m) := hdw
  have hdw2 : Ck.dw m ≤ 64 := by rw [← hdw]; exact B.width64 (by simp; omega)
  obtain ⟨D, hD⟩ : ∃ D, Ck.dw m = D := ⟨_, rfl⟩
  obtain ⟨⟨r, s2⟩, hr⟩ : ∃ z, Ck.lruns b n (Ck.dw m : Nat) s = z := ⟨_, rfl⟩
  have hrl : r.length ≤ n := by have := lruns_len (b := b) (n := n) (wd := (Ck.dw m : Nat)) (s := s); rw [hr] at this; exact this
  have hr32 : ∀ y ∈ r, y < 4294967296 := by have := lruns_lt (b := b) (n := n) (wd := (Ck.dw m : Nat)) (s := s); rw [hr] at this; exact this
  have HR32 : Hid (∀ y ∈ r, y < 4294967296) := hr32
  have hlp : Ck.lplaces b n m s = if r.all (fun p => decide (p < m)) = true then (r, s2) else ([], Ck.refu 12 s2) := by unfold Ck.lplaces; rw [hr]
  obtain ⟨⟨P1, P2⟩, hP⟩ : ∃ z, Ck.lplaces b n m s = z := ⟨_, rfl⟩
  rw [hP] at hlp ⊢
  have HLP : Hid ((P1, P2) = if r.all (fun p => decide (p < m)) = true then (r, s2) else ([], Ck.refu 12 s2)) := hlp
  have hx7 : x ≤ 70000 := by omega
  rw [hD] at hr
  have HR : Hid (Ck.lruns b n (D : Nat) s = (r, s2)) := hr
  have HD : Hid (B.width [x] = D) := (by rw [hdw, hD] : B.width [x] = D)
  rw [hD] at hdw2
  clear h hx hif hdw hD hr hr32 hlp hP HDW
  go_enter Tryz.func87, Tryz.ntmps87
  go_wp2_with fail
  refine (width_any (some ⟨w.heap.size, 0, none⟩) 1 [x] _ (Rd.laid (enc := n64) w 69 [x] (by simp)) (by simp; omega)).mono ?_
  rintro e1 w1 ⟨rfl, hw1⟩
  have hw1' := hw1.symm; clear hw1; subst hw1'
  rw [HD.out]
  go_wp2_with fail
  have hx0 : Ex w (w.alloc (.cells #[.int .u64 (x : Int)] 69)) := (Below.refl _ _).alloc (Nat.le_refl _) _
  go_at_call 81
  refine (rruns_is g a cap b s (n : Int) n (D : Int) _ (H.out.below hx0) rfl HBL.out).mono ?_
  rintro e2 w2 ⟨u, rfl, hu, hR2, hg2⟩
  rw [HR.out] at hu hR2
  obtain ⟨a4, c4, rfl, hr4, _⟩ := hu
  have HR2 : Hid (Rdr w2 g a cap b s2) := hR2
  have HG2 : Hid (w.grownBy w2 (some g)) := grown_tr (hx0.grownBy _) hg2
  have HV : Hid (Rd n64 w2 a4 c4 r) := hr4
  obtain ⟨rl, hrl2⟩ : ∃ rl, r.length = rl := ⟨_, rfl⟩
  have HRL : Hid (r.length = rl) := hrl2
  have hcl := hr4.1
  have hcm := hr4.2.1
  unfold maxLen at hcm
  simp only at hcl
  rw [hrl2] at hrl hcl ⊢
  have hglt : g < w2.heap.size := hR2.1.lt
  clear hR2 hg2 hr4 hrl2 hx0
  go_wp2_with (at_make; refine wpList_make_row (enc := zn) rfl _ _ 62 3 rfl 0 8 Tryz.underlying62 rfl Tryz.info3 _ _ rl rfl rfl rfl rfl (by omega) (by omega) ?_; intro w3 hr3 hb3)
  obtain ⟨q, hq⟩ : ∃ q, q = w2.heap.size := ⟨_, rfl⟩
  rw [← hq]
  have h0R : Hid (RowAt zn 3 w3 q (r.take 0 ++ List.replicate (rl - 0) 0)) := (by rw [hq]; simpa using hr3 : RowAt zn 3 w3 q (r.take 0 ++ List.replicate (rl - 0) 0))
  have h0B : Hid (Below q w2 w3) := (by rw [hq]; exact hb3 : Below q w2 w3)
  have HQb : Hid (q = w2.heap.size) := hq
  clear hr3 hb3 hq
  go_loopw [10, 11, 27] (fun iv2 pv iv wr => ∃ i : Nat, i ≤ rl ∧ iv = .int .i64 (i : Int) ∧ Hid (RowAt zn 3 wr q (r.take i ++ List.replicate (rl - i) 0)) ∧ Hid (Below q w2 wr) ∧ Hid (∀ j, j < i → ∀ y, r[j]? = some y → y < m)) (fun iv2 pv iv wr => rl - (intOf iv).toNat)
  case atStart => exact ⟨0, by omega, rfl, h0R, h0B, fun j hj => absurd hj (by omega)⟩
  case round =>
    obtain ⟨i, hi, rfl, HRo, HBl, HAll⟩ := hrel
    clear h0R h0B
    have hE2 : Ex w2 wr := by have := HBl.out; rw [HQb.out] at this; exact this
    have HE2 : Hid (Ex w2 wr) := hE2
    clear hE2
    by_cases hlt : i < rl
    · have ti : (i : Int) < (rl : Int) := by omega
      have hlt2 : i < r.length := by rw [HRL.out]; exact hlt
      obtain ⟨bq, off, rfl, hcell⟩ := (HV.out.below HE2.out).at hlt2
      obtain ⟨V, hV⟩ : ∃ V, V = r[i] := ⟨_, rfl⟩
      rw [← hV] at hcell
      have hc' : wr.cell? ⟨bq, off + i, none⟩ = some (.int .u64 (V : Int)) := hcell
      have hV32 : V < 4294967296 := by rw [hV]; exact HR32.out _ (List.getElem_mem hlt2)
      have hmw : IntKind.u64.wrap (m : Int) = (m : Int) := by rw [IntKind.wrap_u64]; omega
      have hVw : IntKind.i64.wrap (V : Int) = (V : Int) := by rw [IntKind.wrap_i64]; omega
      have hat : r[i]? = some V := by rw [hV]; exact List.getElem?_eq_getElem hlt2
      by_cases hVm : V < m
      · have t1 : ¬ (m : Int) ≤ (V : Int) := by omega
        have t2 : decide ((V : Int) ≥ (m : Int)) = false := by simp; omega
        have t3 : decide ((m : Int) ≤ (V : Int)) = false := by simp; omega
        obtain ⟨m1, hm1⟩ : ∃ m1, rl - i = m1 + 1 := ⟨rl - i - 1, by omega⟩
        have hll : i < (r.take i ++ List.replicate (rl - i) 0).length := by simp; omega
        obtain ⟨old, hco⟩ : ∃ old, wr.cell? ⟨q, i, none⟩ = some old := ⟨_, HRo.out.cell hll⟩
        have hfr : wr.frozen? ⟨q, i, none⟩ = false := HRo.out.frozen i
        have hset : RowAt zn 3 (wr.setCell ⟨q, i, none⟩ (.int .i64 (V : Int))) q (r.take (i + 1) ++ List.replicate (rl - (i + 1)) 0) := by
          have h := HRo.out.set (k := i) V (v := .int .i64 (V : Int)) rfl
          rw [hm1, hV, zn_take hlt2] at h
          rw [show rl - (i + 1) = m1 by omega, hV]
          exact h
        have HRn : Hid (RowAt zn 3 (wr.setCell ⟨q, i, none⟩ (.int .i64 (V : Int))) q (r.take (i + 1) ++ List.replicate (rl - (i + 1)) 0)) := hset
        have HBn : Hid (Below q w2 (wr.setCell ⟨q, i, none⟩ (.int .i64 (V : Int)))) := HBl.out.setCell (p := ⟨q, i, none⟩) (Nat.le_refl _) _
        have HAn : Hid (∀ j, j < i + 1 → ∀ y, r[j]? = some y → y < m) := fun j hj y hy => by
          by_cases hji : j = i
          · subst hji; rw [hat] at hy; simp at hy; omega
          · exact HAll.out j (by omega) y hy
        clear hset hm1 hll HRo HBl hcell hV hat HAll
        go_wp2_with fail
        go_roundw
        case rel => exact ⟨i + 1, by omega, by go_num, HRn, HBn, HAn⟩
        case measure => simp [intOf]; omega
      · have t1 : (m : Int) ≤ (V : Int) := by omega
        have t3 : decide ((m : Int) ≤ (V : Int)) = true := by simp; omega
        have hno : ¬ r.all (fun p => decide (p < m)) = true := by
          intro hall
          have := List.all_eq_true.1 hall V (List.mem_of_getElem? hat)
          simp at this
          exact hVm this
        have hlp := HLP.out
        rw [if_neg hno] at hlp
        simp only [Prod.mk.injEq] at hlp
        obtain ⟨rfl, rfl⟩ := hlp
        have HRw : Hid (Rdr wr g a cap b s2) := HR2.out.below HE2.out
        have HGw : Hid (w.grownBy wr (some g)) := grown_tr HG2.out (HE2.out.grownBy _)
        clear hcell hV hat hno HRo HBl HAll
        go_wp2_with fail
        go_at_call 89
        refine (refuse_is g a cap b s2 _ 12 wr HRw.out rfl).mono ?_
        rintro e4 w4 ⟨rfl, hR4, hg4⟩
        have HR4 : Hid (Rdr w4 g a cap b (Ck.refu 12 s2)) := hR4
        have HG4 : Hid (w.grownBy w4 (some g)) := grown_tr HGw.out hg4
        clear hR4 hg4
        go_wp2_with fail
        go_ret
        exact ⟨_, rfl, IsRd.nil _, HR4.out, HG4.out⟩
    · have ti : ¬ (i : Int) < (rl : Int) := by omega
      have him : i = rl := by omega
      have hro := HRo.out
      rw [him, Nat.sub_self, List.replicate_zero, List.append_nil, List.take_of_length_le (by rw [HRL.out]; omega)] at hro
      have hall : r.all (fun p => decide (p < m)) = true := by
        rw [List.all_eq_true]
        intro y hy
        obtain ⟨j, hj⟩ := List.getElem?_of_mem hy
        have hjl := (List.getElem?_eq_some_iff.1 hj).1
        rw [HRL.out] at hjl
        simpa using HAll.out j (by omega) y hj
      have hlp := HLP.out
      rw [if_pos hall] at hlp
      simp only [Prod.mk.injEq] at hlp
      obtain ⟨rfl, rfl⟩ := hlp
      have HR6 : Hid (Rd zn wr (some ⟨q, 0, none⟩) rl P1) := hro.rd HRL.out.symm (by omega)
      clear HRo hro him hall HAll
      go_wp2_with fail
      go_ret
      exact ⟨_, rfl, ⟨some ⟨q, 0, none⟩, rl, congrArg (fun z => Value.slice (some ⟨q, 0, none⟩) z rl) HRL.out.symm, HR6.out⟩, HR2.out.below HE2.out, grown_tr HG2.out (HE2.out.grownBy _)⟩
end Go.Proofs.YtnmonoafjijfhaaGreat
