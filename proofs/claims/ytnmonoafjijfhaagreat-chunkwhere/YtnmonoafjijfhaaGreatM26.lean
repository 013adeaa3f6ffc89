/-
  Package runs: what reads a run (readRun), over the program. Package runs: what reads groups (readGroups), over the program.
-/
import Derived.Test.YtnmonoafjijfhaaGreatM23
import Derived.Test.YtnmonoafjijfhaaGreatM25
namespace Go.Proofs.YtnmonoafjijfhaaGreat
open Go.RowKit
set_option linter.unusedVariables false

theorem or256 (x d : Int) (hx : 0 ≤ x) (hx2 : x < 18446744073709551616) (hm : x % 256 = 0) (hd : 0 ≤ d) (hd2 : d < 256) : bits .or .u64 x d = x + d :=
  bits_join .u64 64 (by decide) I.wraps64 8 x d hx (by simpa using hm) (by simpa using hx2) hd (by simpa using hd2) (by omega)
/-- 'make([]T, m)', m of whatever kind of numbers. -/
theorem wpList_make_rowK {α : Type} {enc : α → Value} {w : World} {ops : Array Oper} {rest : List Oper} {o : Oper} {a : Act} {Q : Exit → Act → World → Prop}
    (hg : o.guard = none) (l c : Operand) (t e : TypeId) (hop : o.op = Op.makeSlice t l c) (kl kc : IntKind) (z : α) (B : Nat) (ht : Tryz.prog.underlying t = some (.slice e)) (hz : (enc z).cells = #[enc z]) (hinfo : (Tryz.prog.info? e).map (fun i => (i.zero, i.size, i.bytes)) = some (some (enc z), 1, B))
    (L C : Int) (m : Nat) (hl : a.eval l = .int kl L) (hc : a.eval c = .int kc C) (hL : L = (m : Int)) (hC : C = (m : Int)) (b2 : B * m ≤ 281474976710656) (b3 : m ≤ 281474976710656)
    (hK : ∀ (w' : World), RowAt enc e w' w.heap.size (List.replicate m z) → Below w.heap.size w w' → wpList Tryz.prog ops Q rest (a.put o.dst (.slice (some ⟨w.heap.size, 0, none⟩) m m)) w') :
    wpList Tryz.prog ops Q (o :: rest) a w := by
  obtain ⟨i0, hi, hz0, hz1, hz2⟩ := info_parts hinfo
  have hbm : (B : Int) * (m : Int) ≤ 281474976710656 := by
    have h : ((B * m : Nat) : Int) ≤ 281474976710656 := by omega
    rwa [Int.natCast_mul] at h
  refine wpList_plain hg fun K hK' => ?_
  subst hL
  subst hC
  have hrun := run_make (P := Tryz.prog) w t e i0 (enc z) ht hi hz0 kl kc (m : Int) (m : Int) (by omega) (by omega) (by rw [hz2]; exact hbm) (by omega)
  simp only [Int.toNat_natCast] at hrun
  unfold Oper.wp
  simp [execOp, hop, hl, hc, hrun, Result.andThen]
  refine hK' _ _ (hK _ ?_ ((Below.refl _ _).alloc (Nat.le_refl _) _))
  unfold RowAt
  rw [hz1, heap_alloc_new, Nat.mul_one, List.map_replicate, ← made_row _ hz m]
/-- One byte ahead of others. -/
theorem le_ahead {b : List UInt8} {m j s : Nat} (hj : j < s) (h : m + s ≤ b.length) : R.le ((b.drop (m + j)).take (s - j)) = M.bAt b (m + j) + 256 * R.le ((b.drop (m + (j + 1))).take (s - (j + 1))) := by
  rw [List.drop_eq_getElem_cons (show m + j < b.length by omega), show s - j = (s - (j + 1)) + 1 by omega, List.take_succ_cons]
  simp only [R.le]
  simp [M.bAt, show m + j < b.length by omega, Nat.add_assoc]
/-- A row that is filled from its beginning on. -/
theorem fill_set (x : Nat) {j c : Nat} (h : j < c) : (List.replicate j x ++ List.replicate (c - j) 0).set j x = List.replicate (j + 1) x ++ List.replicate (c - (j + 1)) 0 := by
  rw [show c - j = (c - (j + 1)) + 1 by omega, List.replicate_succ, List.set_append_right _ _ (by simp)]
  simp [List.replicate_succ', List.append_assoc]
/-- What readRun answers. -/
def runR (b : List UInt8) (m c left D : Nat) : List Nat × Nat × Nat :=
  if b.length - m < (D + 7) / 8 then ([], 0, 10) else if c = 0 ∨ left < c then ([], 0, 12) else (List.replicate c (R.le ((b.drop m).take ((D + 7) / 8))), m + (D + 7) / 8, 0)
set_option maxRecDepth 100000 in
set_option maxHeartbeats 2000000 in
theorem readRun_is (a : Option Addr) (len cap : Nat) (b : List UInt8) (mi ci li : Int) (m c left D : Nat) (w : World) (hlen : len = b.length) (hB : Byt w a cap b) (hm : m ≤ b.length) (hbl : b.length ≤ 140737488355328) (h1 : mi = m) (h2 : ci = c) (h3 : li = left) (hc : c < 18446744073709551616) (hle : left ≤ 1048576) (hD : D ≤ 32) (y : List Nat) (k e0 : Nat) (hr : runR b m c left D = (y, k, e0)) :
    Calls Tryz.prog 134 #[.slice a len cap, .int .i64 mi, .int .u64 ci, .int .i64 li, .int .i64 D] w fun e w' => ∃ v, e = .returned (.tuple #[v, .int .i64 k, .int .i64 e0]) ∧ IsRd n64 y v w' ∧ Ex w w' := by
  subst hlen
  subst h1
  subst h2
  subst h3
  have hcl := hB.1
  have hcm := hB.2.1
  unfold maxLen at hcm
  obtain ⟨s, hs⟩ : ∃ s, s = (D + 7) / 8 := ⟨_, rfl⟩
  have hs4 : s ≤ 4 := by omega
  have HS : Hid ((D + 7) / 8 = s) := hs.symm
  unfold runR at hr
  rw [← hs] at hr
  clear hs
  by_cases q1 : b.length - m < s
  · rw [if_pos q1] at hr
    simp only [Prod.mk.injEq] at hr
    obtain ⟨rfl, rfl, rfl⟩ := hr
    have t1 : decide ((b.length : Int) < (m : Int) + (s : Int)) = true := by simp; omega
    have t2 : decide (b.length < m + s) = true := by simp; omega
    clear hB
    go_enter Tryz.func134, Tryz.ntmps134
    go_wp2_with fail
    refine (numSize_is _ D _ rfl (by omega) s HS.out).mono ?_
    rintro e wq ⟨rfl, hw'⟩
    have hw'' := hw'.symm
    clear hw'
    subst hw''
    go_wp2
    go_ret3
    exact ⟨_, rfl, IsRd.nil _, Ex.refl _⟩
  · rw [if_neg q1] at hr
    have t1 : decide ((b.length : Int) < (m : Int) + (s : Int)) = false := by simp; omega
    have t2 : decide (b.length < m + s) = false := by simp; omega
    by_cases q2 : c = 0
    · rw [if_pos (.inl q2)] at hr
      simp only [Prod.mk.injEq] at hr
      obtain ⟨rfl, rfl, rfl⟩ := hr
      subst q2
      clear hB
      go_enter Tryz.func134, Tryz.ntmps134
      go_wp2_with fail
      refine (numSize_is _ D _ rfl (by omega) s HS.out).mono ?_
      rintro e wq ⟨rfl, hw'⟩
      have hw'' := hw'.symm
      clear hw'
      subst hw''
      go_wp2
      go_ret3
      exact ⟨_, rfl, IsRd.nil _, Ex.refl _⟩
    · have t3 : ((c : Int) == 0) = false := by simp; omega
      have t4 : decide (c = 0) = false := by simp; omega
      by_cases q3 : left < c
      · rw [if_pos (.inr q3)] at hr
        simp only [Prod.mk.injEq] at hr
        obtain ⟨rfl, rfl, rfl⟩ := hr
        have t5 : decide ((left : Int) < (c : Int)) = true := by simp; omega
        have t6 : decide (left < c) = true := by simp; omega
        clear hB
        go_enter Tryz.func134, Tryz.ntmps134
        go_wp2_with fail
        refine (numSize_is _ D _ rfl (by omega) s HS.out).mono ?_
        rintro e wq ⟨rfl, hw'⟩
        have hw'' := hw'.symm
        clear hw'
        subst hw''
        go_wp2
        go_ret3
        exact ⟨_, rfl, IsRd.nil _, Ex.refl _⟩
      · rw [if_neg (by omega)] at hr
        simp only [Prod.mk.injEq] at hr
        obtain ⟨rfl, rfl, rfl⟩ := hr
        have t5 : decide ((left : Int) < (c : Int)) = false := by simp; omega
        have t6 : decide (left < c) = false := by simp; omega
        have HB : Hid (Byt w a cap b) := hB
        have hms : m + s ≤ b.length := by omega
        obtain ⟨X, hX⟩ : ∃ X, X = R.le ((b.drop m).take s) := ⟨_, rfl⟩
        rw [← hX]
        have HX0 : Hid (R.le ((b.drop (m + 0)).take (s - 0)) = X) := (by rw [hX]; rfl : R.le ((b.drop (m + 0)).take (s - 0)) = X)
        clear hB hX
        go_enter Tryz.func134, Tryz.ntmps134
        go_wp2_with fail
        refine (numSize_is _ D _ rfl (by omega) s HS.out).mono ?_
        rintro e wq ⟨rfl, hw'⟩
        have hw'' := hw'.symm
        clear hw'
        subst hw''
        go_wp2
        go_loopw [14, 15] (fun v i wr => ∃ (j y : Nat), j ≤ s ∧ y < 4294967296 ∧ i = .int .i64 ((m : Int) + (j : Int) - 1) ∧ v = .int .u64 y ∧ Hid (R.le ((b.drop (m + j)).take (s - j)) = y) ∧ wr = w) (fun _ i _ => ((intOf i) + 1).toNat)
        case atStart => exact ⟨s, 0, Nat.le_refl _, by omega, by go_num, rfl, (by simp [R.le] : R.le ((b.drop (m + s)).take (s - s)) = 0), rfl⟩
        case round =>
          obtain ⟨j, y, hj, hy, rfl, rfl, HL, hwr⟩ := hrel
          have hwr2 := hwr.symm
          clear hwr
          subst hwr2
          by_cases hj0 : 0 < j
          · obtain ⟨i, rfl⟩ : ∃ i, j = i + 1 := ⟨j - 1, by omega⟩
            have hi : ((m : Int) + ((i + 1 : Nat) : Int) - 1) = ((m + i : Nat) : Int) := by omega
            have hy24 : y < 16777216 := by
              have h1 := R.le_lt ((b.drop (m + (i + 1))).take (s - (i + 1)))
              rw [HL.out] at h1
              have h2 : 256 ^ ((b.drop (m + (i + 1))).take (s - (i + 1))).length ≤ 256 ^ 3 := Nat.pow_le_pow_right (by decide) (by simp; omega)
              omega
            have hst := @le_ahead b m i s (by omega) hms
            rw [HL.out] at hst
            obtain ⟨bb, off, rfl, hc⟩ := HB.out.2.2.2 (m + i) (by omega)
            have hb256 : M.bAt b (m + i) < 256 := M.bAt_lt _ _
            obtain ⟨z, hz⟩ : ∃ z, z = M.bAt b (m + i) := ⟨_, rfl⟩
            rw [← hz] at hc hb256 hst
            obtain ⟨Y, hY⟩ : ∃ Y, Y = z + 256 * y := ⟨_, rfl⟩
            have HL2 : Hid (R.le ((b.drop (m + i)).take (s - i)) = Y) := (by rw [hst, hY] : R.le ((b.drop (m + i)).take (s - i)) = Y)
            have hY32 : Y < 4294967296 := by omega
            have hor : bits .or .u64 ((y : Int) * 256) (z : Int) = (Y : Int) := by rw [or256 _ _ (by omega) (by omega) (by omega) (by omega) (by omega)]; omega
            have hcx : w.cell? ⟨bb, off + (m + i), none⟩ = some (.int .u8 (z : Int)) := hc
            have tge : decide ((m : Int) ≤ ((m + i : Nat) : Int)) = true := by simp; omega
            have hin : ((m + i : Nat) : Int) < (b.length : Int) := by omega
            obtain ⟨q, hq⟩ : ∃ q, q = m + i := ⟨_, rfl⟩
            rw [← hq] at hi hcx tge hin HL2
            have hqm : m ≤ q := by omega
            have HQ : Hid (q = m + i) := hq
            rw [hi]
            clear hst hc hz hY hq
            go_wp2
            go_roundw
            case rel => exact ⟨i, Y, by omega, hY32, I.int_num (by have := HQ.out; omega), by go_num, (by rw [← HQ.out]; exact HL2.out : R.le ((b.drop (m + i)).take (s - i)) = Y), by simp⟩
            case measure => simp [intOf] <;> omega
          · obtain rfl : j = 0 := by omega
            have tge : decide ((m : Int) ≤ (m : Int) + ((0 : Nat) : Int) - 1) = false := by simp; omega
            have hyX : y = X := by rw [← HL.out, ← HX0.out]
            have hXy : X ≤ y ∧ y ≤ X := by omega
            have HyX : Hid (y = X) := hyX
            clear hyX
            go_wp2_with (at_make; refine wpList_make_rowK (enc := n64) rfl _ _ 77 69 rfl .u64 .u64 0 8 Tryz.underlying77 rfl Tryz.info69 _ _ c rfl rfl (by omega) (by omega) (by omega) (by omega) ?_; intro w1 hr1 hb1)
            have HR1 : Hid (RowAt n64 69 w1 w.heap.size (List.replicate 0 y ++ List.replicate (c - 0) 0)) := (by simpa using hr1 : RowAt n64 69 w1 w.heap.size (List.replicate 0 y ++ List.replicate (c - 0) 0))
            have HB1 : Hid (Below w.heap.size w w1) := hb1
            clear hr1 hb1
            go_loopw [53] (fun i wr => ∃ j : Nat, j ≤ c ∧ i = .int .i64 j ∧ Hid (RowAt n64 69 wr w.heap.size (List.replicate j y ++ List.replicate (c - j) 0)) ∧ Hid (Below w.heap.size w wr)) (fun i _ => c - (intOf i).toNat)
            case atStart => exact ⟨0, by omega, rfl, HR1, HB1⟩
            case round =>
              obtain ⟨j, hjc, rfl, HRj, HBj⟩ := hrel
              clear HR1 HB1
              by_cases hlt : j < c
              · have tj : decide ((j : Int) < (c : Int)) = true := by simp; omega
                have hji : (j : Int) < (c : Int) := by omega
                have hrow := HRj.out
                have hlr : (List.replicate j y ++ List.replicate (c - j) 0).length = c := by simp; omega
                have hcell := hrow.cell (k := j) (by omega)
                have hfro := hrow.frozen j
                have HRS : Hid (RowAt n64 69 (wr.setCell ⟨w.heap.size, j, none⟩ (.int .u64 (y : Int))) w.heap.size (List.replicate (j + 1) y ++ List.replicate (c - (j + 1)) 0)) := (by have h := hrow.set (k := j) y rfl; rw [fill_set y hlt] at h; exact h : RowAt n64 69 (wr.setCell ⟨w.heap.size, j, none⟩ (.int .u64 (y : Int))) w.heap.size (List.replicate (j + 1) y ++ List.replicate (c - (j + 1)) 0))
                obtain ⟨o9, ho9⟩ : ∃ o9, wr.cell? ⟨w.heap.size, j, none⟩ = some o9 := ⟨_, hcell⟩
                clear hrow hcell hlr
                go_wp2
                go_roundw
                case rel => exact ⟨j + 1, by omega, by go_num, HRS, HBj.out.setCell (p := ⟨w.heap.size, j, none⟩) (Nat.le_refl _) _⟩
                case measure => simp [intOf]; omega
              · obtain rfl : j = c := by omega
                have tj : decide ((j : Int) < (j : Int)) = false := by simp
                have hrow := HRj.out
                rw [Nat.sub_self, List.replicate_zero, List.append_nil] at hrow
                have HRd : Hid (Rd n64 wr (some ⟨w.heap.size, 0, none⟩) j (List.replicate j X)) := (by rw [← HyX.out]; exact hrow.rd (by simp) (by omega) : Rd n64 wr (some ⟨w.heap.size, 0, none⟩) j (List.replicate j X))
                clear hrow
                go_wp2
                go_ret3
                exact ⟨_, ret3 rfl (I.int_num (by omega)) rfl, ⟨some ⟨w.heap.size, 0, none⟩, j, by simp, HRd.out⟩, HBj.out⟩
end Go.Proofs.YtnmonoafjijfhaaGreat
namespace Go.Proofs.YtnmonoafjijfhaaGreat
open Go.RowKit
set_option linter.unusedVariables false

/-- What readGroups answers. -/
def groupsR (b : List UInt8) (m c left D : Nat) : List Nat × Nat × Nat :=
  if 0 < D ∧ (b.length - m) / D < c then ([], 0, 10) else if c = 0 ∨ (left + 7) / 8 < c then ([], 0, 12) else (B.unpack D (8 * c) ((b.drop m).take (c * D)), m + c * D, 0)
set_option maxRecDepth 100000 in
set_option maxHeartbeats 2000000 in
theorem readGroups_is (a : Option Addr) (len cap : Nat) (b : List UInt8) (mi ci li : Int) (m c left D : Nat) (w : World) (hlen : len = b.length) (hB : Byt w a cap b) (hm : m ≤ b.length) (hbl : b.length ≤ 140737488355328) (h1 : mi = m) (h2 : ci = c) (h3 : li = left) (hc : c < 18446744073709551616) (hle : left ≤ 1048576) (hD : D ≤ 32) (y : List Nat) (k e0 : Nat) (hr : groupsR b m c left D = (y, k, e0)) :
    Calls Tryz.prog 133 #[.slice a len cap, .int .i64 mi, .int .u64 ci, .int .i64 li, .int .i64 D] w fun e w' => ∃ v, e = .returned (.tuple #[v, .int .i64 k, .int .i64 e0]) ∧ IsRd n64 y v w' ∧ Ex w w' := by
  subst hlen
  subst h1
  subst h2
  subst h3
  have hcl := hB.1
  have hcm := hB.2.1
  unfold maxLen at hcm
  obtain ⟨rr, hrr⟩ : ∃ rr, rr = b.length - m := ⟨_, rfl⟩
  obtain ⟨q, hq⟩ : ∃ q, q = rr / D := ⟨_, rfl⟩
  have hrri : (b.length : Int) - (m : Int) = (rr : Int) := by omega
  have hqi : (rr : Int) / (D : Int) = (q : Int) := by rw [hq]; simp
  have hqt : Int.tdiv (rr : Int) (D : Int) = (q : Int) := by rw [Int.tdiv_eq_ediv_of_nonneg (by omega), hqi]
  have hqr : q ≤ rr := by rw [hq]; exact Nat.div_le_self _ _
  have hrb : rr ≤ 140737488355328 := by omega
  obtain ⟨L8, hL8⟩ : ∃ L8, L8 = (left + 7) / 8 := ⟨_, rfl⟩
  have HL8 : Hid ((left + 7) / 8 = L8) := hL8.symm
  have hL8b : L8 ≤ 131073 := by omega
  unfold groupsR at hr
  rw [← hrr, ← hq, ← hL8] at hr
  have HB : Hid (Byt w a cap b) := hB
  have Hq : Hid (q = rr / D) := hq
  have Hrr : Hid (rr = b.length - m) := hrr
  clear hq hrr hL8 hB
  by_cases hD0 : 0 < D
  · have tD : decide (0 < (D : Int)) = true := by simp; omega
    have tD2 : decide (0 < D) = true := by simp; omega
    have hDi : ((D : Int) == 0) = false := by simp; omega
    by_cases q1 : q < c
    · rw [if_pos ⟨hD0, q1⟩] at hr
      simp only [Prod.mk.injEq] at hr
      obtain ⟨rfl, rfl, rfl⟩ := hr
      have t1 : decide ((q : Int) < (c : Int)) = true := by simp; omega
      have t2 : decide (q < c) = true := by simp; omega
      go_enter Tryz.func133, Tryz.ntmps133
      go_wp2
      go_ret3
      exact ⟨_, rfl, IsRd.nil _, Ex.refl _⟩
    · rw [if_neg (by omega)] at hr
      have t1 : decide ((q : Int) < (c : Int)) = false := by simp; omega
      have t2 : decide (q < c) = false := by simp; omega
      by_cases q2 : c = 0
      · rw [if_pos (.inl q2)] at hr
        simp only [Prod.mk.injEq] at hr
        obtain ⟨rfl, rfl, rfl⟩ := hr
        subst q2
        go_enter Tryz.func133, Tryz.ntmps133
        go_wp2
        go_ret3
        exact ⟨_, rfl, IsRd.nil _, Ex.refl _⟩
      · have tc : ((c : Int) == 0) = false := by simp; omega
        have tc0 : decide (c = 0) = false := by simp; omega
        by_cases q3 : L8 < c
        · rw [if_pos (.inr q3)] at hr
          simp only [Prod.mk.injEq] at hr
          obtain ⟨rfl, rfl, rfl⟩ := hr
          have tc2 : decide (L8 < c) = true := by simp; omega
          have tc3 : decide ((L8 : Int) < (c : Int)) = true := by simp; omega
          go_enter Tryz.func133, Tryz.ntmps133
          go_wp2_with fail
          refine (groupsOf_is _ left _ rfl (by omega) L8 HL8.out).mono ?_
          rintro e wq ⟨rfl, hw'⟩
          have hw'' := hw'.symm
          clear hw'
          subst hw''
          go_wp2
          go_ret3
          exact ⟨_, rfl, IsRd.nil _, Ex.refl _⟩
        · rw [if_neg (by omega)] at hr
          simp only [Prod.mk.injEq] at hr
          obtain ⟨rfl, rfl, rfl⟩ := hr
          have tc2 : decide (L8 < c) = false := by simp; omega
          have tc3 : decide ((L8 : Int) < (c : Int)) = false := by simp; omega
          have hcb : c ≤ 131073 := by omega
          obtain ⟨part, hpart⟩ : ∃ part, part = (b.drop m).take (c * D) := ⟨_, rfl⟩
          obtain ⟨S, hS⟩ : ∃ S, S = c * D := ⟨_, rfl⟩
          have hSi : (c : Int) * (D : Int) = (S : Int) := by rw [hS]; simp
          have hcw : c * D ≤ b.length - m := by have h7 : c ≤ rr / D := (by have := Hq.out; omega); have := (Nat.le_div_iff_mul_le hD0).1 h7; have := Hrr.out; omega
          have hSb : S ≤ b.length - m := by rw [hS]; exact hcw
          have hSm : S ≤ 200000 * 32 := by rw [hS]; exact Nat.mul_le_mul (by omega) hD
          have hpl : part.length = S := by rw [hpart, ← hS]; simp; omega
          obtain ⟨X, hX⟩ : ∃ X, X = B.unpack D (8 * c) part := ⟨_, rfl⟩
          have hun := unp_whole (D := D) (c := c) (p := part) (by omega) (by omega) (by rw [hpl, hS])
          rw [← hX] at hun
          rw [← hpart, ← hX, ← hS]
          obtain ⟨c8, hc8⟩ : ∃ c8, c8 = 8 * c := ⟨_, rfl⟩
          have hc8i : (c : Int) * 8 = (c8 : Int) := by omega
          rw [← hc8] at hun
          have hmi : (m : Int) ≤ (m : Int) + (S : Int) := by omega
          have hmi2 : (m : Int) + (S : Int) ≤ (cap : Int) := by omega
          have hc8b : c8 ≤ 1048584 := by omega
          have HUn : Hid (B.unp part ((c8 : Nat) : Int) (D : Int) = (X, 0)) := hun
          have HPl : Hid (S = part.length) := hpl.symm
          have hsub := HB.out.sub m S (by omega)
          have hS1 : 1 ≤ S := by rw [hS]; exact Nat.mul_pos (by omega) hD0
          obtain ⟨bb, off, rfl, _⟩ := HB.out.2.2.2 m (by omega)
          rw [Option.map_some, add_none, hS, ← hpart] at hsub
          have HSub : Hid (Byt w (some ⟨bb, off + m, none⟩) (cap - m) part) := hsub
          have hcq : ¬ cap - m = 0 := by omega
          clear hpart hS hpl hX hun hc8 hsub hcw
          go_enter Tryz.func133, Tryz.ntmps133
          go_wp2_with fail
          refine (groupsOf_is _ left _ rfl (by omega) L8 HL8.out).mono ?_
          rintro e wq ⟨rfl, hw'⟩
          have hw'' := hw'.symm
          clear hw'
          subst hw''
          go_wp2_with fail
          refine (unpack_is _ _ _ part _ _ _ HPl.out HSub.out (by have := HPl.out; omega) (by omega) (by omega) (by omega) (by omega) X 0 HUn.out).mono ?_
          rintro e w2 ⟨v2, rfl, hv2, _, hx2⟩
          have HV2 : Hid (IsRd n64 X v2 w2) := hv2
          have HX2 : Hid (Ex w w2) := hx2
          clear hv2 hx2
          go_wp2
          go_ret3
          exact ⟨_, ret3 rfl (I.int_num (by omega)) rfl, HV2.out, HX2.out⟩
  · obtain rfl : D = 0 := by omega
    have tD : decide (0 < ((0 : Nat) : Int)) = false := by simp
    rw [if_neg (by omega)] at hr
    by_cases q2 : c = 0
    · rw [if_pos (.inl q2)] at hr
      simp only [Prod.mk.injEq] at hr
      obtain ⟨rfl, rfl, rfl⟩ := hr
      subst q2
      go_enter Tryz.func133, Tryz.ntmps133
      go_wp2
      go_ret3
      exact ⟨_, rfl, IsRd.nil _, Ex.refl _⟩
    · have tc : ((c : Int) == 0) = false := by simp; omega
      have tc0 : decide (c = 0) = false := by simp; omega
      by_cases q3 : L8 < c
      · rw [if_pos (.inr q3)] at hr
        simp only [Prod.mk.injEq] at hr
        obtain ⟨rfl, rfl, rfl⟩ := hr
        have tc2 : decide (L8 < c) = true := by simp; omega
        have tc3 : decide ((L8 : Int) < (c : Int)) = true := by simp; omega
        go_enter Tryz.func133, Tryz.ntmps133
        go_wp2_with fail
        refine (groupsOf_is _ left _ rfl (by omega) L8 HL8.out).mono ?_
        rintro e wq ⟨rfl, hw'⟩
        have hw'' := hw'.symm
        clear hw'
        subst hw''
        go_wp2
        go_ret3
        exact ⟨_, rfl, IsRd.nil _, Ex.refl _⟩
      · rw [if_neg (by omega)] at hr
        simp only [Prod.mk.injEq] at hr
        obtain ⟨rfl, rfl, rfl⟩ := hr
        have tc2 : decide (L8 < c) = false := by simp; omega
        have tc3 : decide ((L8 : Int) < (c : Int)) = false := by simp; omega
        have hcb : c ≤ 131073 := by omega
        obtain ⟨part, hpart⟩ : ∃ part, part = (b.drop m).take (c * 0) := ⟨_, rfl⟩
        obtain ⟨S, hS⟩ : ∃ S, S = c * 0 := ⟨_, rfl⟩
        have hSi : (c : Int) * ((0 : Nat) : Int) = (S : Int) := by rw [hS]; simp
        have hcw : c * 0 ≤ b.length - m := by omega
        have hSb : S ≤ b.length - m := by rw [hS]; exact hcw
        have hSm : S ≤ 200000 * 32 := by rw [hS]; exact Nat.mul_le_mul (by omega) hD
        have hpl : part.length = S := by rw [hpart, ← hS]; simp; omega
        obtain ⟨X, hX⟩ : ∃ X, X = B.unpack 0 (8 * c) part := ⟨_, rfl⟩
        have hun := unp_whole (D := 0) (c := c) (p := part) (by omega) (by omega) (by rw [hpl, hS])
        rw [← hX] at hun
        rw [← hpart, ← hX, ← hS]
        obtain ⟨c8, hc8⟩ : ∃ c8, c8 = 8 * c := ⟨_, rfl⟩
        have hc8i : (c : Int) * 8 = (c8 : Int) := by omega
        rw [← hc8] at hun
        have hmi : (m : Int) ≤ (m : Int) + (S : Int) := by omega
        have hmi2 : (m : Int) + (S : Int) ≤ (cap : Int) := by omega
        have hc8b : c8 ≤ 1048584 := by omega
        have HUn : Hid (B.unp part ((c8 : Nat) : Int) ((0 : Nat) : Int) = (X, 0)) := hun
        have HPl : Hid (S = part.length) := hpl.symm
        have hS0 : S = 0 := by omega
        have hp0 : part = [] := List.eq_nil_of_length_eq_zero (by omega)
        subst hS0
        have HP0 : Hid (part = []) := hp0
        clear hpart hS hpl hX hun hc8 hcw hp0
        by_cases hck : cap = m
        · have hck3 : cap - m = 0 := by omega
          have hck1 : cap ≤ m := by omega
          have HSub : Hid (Byt w a 0 part) := (by rw [HP0.out]; exact Byt.none_ a : Byt w a 0 part)
          clear hck
          go_enter Tryz.func133, Tryz.ntmps133
          go_wp2_with fail
          refine (groupsOf_is _ left _ rfl (by omega) L8 HL8.out).mono ?_
          rintro e wq ⟨rfl, hw'⟩
          have hw'' := hw'.symm
          clear hw'
          subst hw''
          go_wp2_with fail
          refine (unpack_is _ _ _ part _ _ _ HPl.out HSub.out (by have := HPl.out; omega) (by omega) (by omega) (by omega) (by omega) X 0 HUn.out).mono ?_
          rintro e w2 ⟨v2, rfl, hv2, _, hx2⟩
          have HV2 : Hid (IsRd n64 X v2 w2) := hv2
          have HX2 : Hid (Ex w w2) := hx2
          clear hv2 hx2
          go_wp2
          go_ret3
          exact ⟨_, ret3 rfl (I.int_num (by omega)) rfl, HV2.out, HX2.out⟩
        · have hck3 : ¬ cap - m = 0 := by omega
          have hsub := HB.out.sub m 0 (by omega)
          rw [List.take_zero] at hsub
          have HSub : Hid (Byt w (Option.map (fun x => x.add m) a) (cap - m) part) := (by rw [HP0.out]; exact hsub : Byt w (Option.map (fun x => x.add m) a) (cap - m) part)
          clear hsub
          go_enter Tryz.func133, Tryz.ntmps133
          go_wp2_with fail
          refine (groupsOf_is _ left _ rfl (by omega) L8 HL8.out).mono ?_
          rintro e wq ⟨rfl, hw'⟩
          have hw'' := hw'.symm
          clear hw'
          subst hw''
          go_wp2_with fail
          refine (unpack_is _ _ _ part _ _ _ HPl.out HSub.out (by have := HPl.out; omega) (by omega) (by omega) (by omega) (by omega) X 0 HUn.out).mono ?_
          rintro e w2 ⟨v2, rfl, hv2, _, hx2⟩
          have HV2 : Hid (IsRd n64 X v2 w2) := hv2
          have HX2 : Hid (Ex w w2) := hx2
          clear hv2 hx2
          go_wp2
          go_ret3
          exact ⟨_, ret3 rfl (I.int_num (by omega)) rfl, HV2.out, HX2.out⟩
end Go.Proofs.YtnmonoafjijfhaaGreat
