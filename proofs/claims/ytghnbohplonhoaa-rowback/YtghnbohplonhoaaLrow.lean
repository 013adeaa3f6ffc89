/-
  Package row: Name, Cell, the parts of Right. Package row: Right. Package row: Encode. Package row: Cols. Package row: Decode. Package row: Decode (the cells, and all).
-/
import Derived.Test.YtghnbohplonhoaaRright
import Derived.Test.YtghnbohplonhoaaRrenc
import Derived.Test.YtghnbohplonhoaaRcols
import Derived.Test.YtghnbohplonhoaaLone
import Derived.Test.YtghnbohplonhoaaRrdec
import Derived.Test.YtghnbohplonhoaaRstore
namespace Go.Proofs.Ytghnbohplonhoaa
open Go.RowKit
set_option linter.unusedVariables false
set_option linter.unusedSimpArgs false
set_option maxHeartbeats 4000000 in
set_option maxRecDepth 100000 in
theorem sname_is (s : List UInt8) (w : World) (hs : s.length ≤ maxLen) (r : Bool) (hr : Rw.name s = r) : Calls Try.prog 30 #[.string (str s)] w fun e w' => e = .returned (.bool r) ∧ w' = w := by
  have HR : Hid (Rw.name s = r) := hr
  have hss : (str s).size = s.length := str_size s
  unfold maxLen at hs
  clear hr
  go_enter Try.func30, Try.ntmps30
  by_cases h1 : 1 ≤ s.length
  · by_cases h2 : s.length ≤ 12
    · have t1 : ((s.length : Int) == 0) = false := beq_eq_false_iff_ne.2 (by omega)
      have t2 : decide (12 < (s.length : Int)) = false := by simp; omega
      have t3 : decide (12 < s.length) = false := by simp; omega
      go_wp2_with fail
      go_loopw [14] (fun iv wr => ∃ i : Nat, i ≤ s.length ∧ iv = .int .i64 i ∧ Hid ((s.take i).all Rw.small = true) ∧ wr = w) (fun iv wr => s.length - (intOf iv).toNat)
      case atStart => exact ⟨0, by omega, rfl, (by simp : (s.take 0).all Rw.small = true), rfl⟩
      case round =>
        obtain ⟨i, hi, rfl, HA, hwr⟩ := hrel
        have hwr := hwr.symm
        subst hwr
        by_cases hlt : i < s.length
        · have hti : (i : Int) < (s.length : Int) := by omega
          have hti2 : i < (str s).size := by omega
          obtain ⟨x, hx⟩ : ∃ x, s[i]'hlt = x := ⟨_, rfl⟩
          have hb : ((str s)[i]'hti2).toNat = x.toNat := by rw [← hx]; exact str_at hti2 hlt
          have hx256 := x.toNat_lt
          have hnx : s.take (i + 1) = s.take i ++ [x] := by rw [List.take_add_one, List.getElem?_eq_getElem hlt, hx]; rfl
          have HNX : Hid (s.take (i + 1) = s.take i ++ [x]) := hnx
          have HM : Hid (x ∈ s) := (by rw [← hx]; exact List.getElem_mem hlt : x ∈ s)
          clear hx hnx
          by_cases h3 : x.toNat < 97
          · have t4 : decide ((x.toNat : Int) < 97) = true := by simp; omega
            have t5 : decide (x.toNat < 97) = true := by simp; omega
            go_wp2_with fail
            go_ret
            refine ⟨?_, rfl⟩
            rw [← HR.out, Rw.name_no HM.out (by unfold Rw.small; simp; omega)]; rfl
          · by_cases h4 : 122 < x.toNat
            · have t4 : decide ((x.toNat : Int) < 97) = false := by simp; omega
              have t5 : decide (x.toNat < 97) = false := by simp; omega
              have t6 : decide (122 < (x.toNat : Int)) = true := by simp; omega
              have t7 : decide (122 < x.toNat) = true := by simp; omega
              go_wp2_with fail
              go_ret
              refine ⟨?_, rfl⟩
              rw [← HR.out, Rw.name_no HM.out (by unfold Rw.small; simp; omega)]; rfl
            · have t4 : decide ((x.toNat : Int) < 97) = false := by simp; omega
              have t5 : decide (x.toNat < 97) = false := by simp; omega
              have t6 : decide (122 < (x.toNat : Int)) = false := by simp; omega
              have t7 : decide (122 < x.toNat) = false := by simp; omega
              have HA2 : Hid ((s.take (i + 1)).all Rw.small = true) := (by rw [HNX.out, List.all_append, HA.out]; simp [Rw.small]; omega : (s.take (i + 1)).all Rw.small = true)
              go_wp2_with fail
              go_roundw
              case rel => exact ⟨i + 1, by omega, by go_num, HA2, by simp⟩
              case measure => simp [intOf]; omega
        · have hti : ¬ (i : Int) < (s.length : Int) := by omega
          have HN : Hid (r = true) := (by
            rw [← HR.out, Rw.name_iff]
            have hA := HA.out
            rw [List.take_of_length_le (by omega), List.all_eq_true] at hA
            refine ⟨fun b hb => ?_, h1, h2⟩
            have := hA b hb
            unfold Rw.small at this
            simpa using this : r = true)
          go_wp2_with fail
          go_ret
          exact ⟨by rw [HN.out]; rfl, rfl⟩
    · have t1 : ((s.length : Int) == 0) = false := beq_eq_false_iff_ne.2 (by omega)
      have t2 : decide (12 < (s.length : Int)) = true := by simp; omega
      have t3 : decide (12 < s.length) = true := by simp; omega
      have HN : Hid (r = false) := (by rw [← HR.out]; unfold Rw.name; rw [show decide (s.length ≤ 12) = false by simp [h2], Bool.and_false] : r = false)
      go_wp2_with fail
      go_ret
      exact ⟨by rw [HN.out]; rfl, rfl⟩
  · have t1 : ((s.length : Int) == 0) = true := beq_iff_eq.2 (by omega)
    have HN : Hid (r = false) := (by rw [← HR.out]; unfold Rw.name; rw [show decide (1 ≤ s.length) = false by simp [h1], Bool.and_false, Bool.false_and] : r = false)
    go_wp2_with fail
    go_ret
    exact ⟨by rw [HN.out]; rfl, rfl⟩
set_option maxHeartbeats 4000000 in
set_option maxRecDepth 100000 in
theorem scell_is (v : RV) (r : Rw) (s : List UInt8) (w : World) (h : RvOk w v r) (c : Ce) (hc : Rw.cell r.c s = c) : Calls Try.prog 22 #[rvv v, .string (str s)] w fun e w' => e = .returned (cv c) ∧ Ex w w' := by
  obtain ⟨vt, vq, p, n, cap⟩ := v
  obtain ⟨rfl, rfl, hn, hB⟩ := h
  simp only at hn hB
  subst hn
  have h1 := hB.1
  have h2 := hB.2.1
  unfold maxLen at h2
  obtain ⟨W, hW⟩ : ∃ W, W = (w.alloc (rb ⟨r.t, r.q, p, r.c.length, cap⟩)).alloc ecb0 := ⟨_, rfl⟩
  have HX : Hid (Ex w W) := (by rw [hW]; exact ((Below.refl _ _).alloc (Nat.le_refl _) _).alloc (by simp) _ : Ex w W)
  have HB : Hid (RdC W p cap r.c) := hB.below HX.out
  have HL : Hid (LAt W w.heap.size ⟨r.t, r.q, p, r.c.length, cap⟩) := (by rw [hW]; exact (LAt.new w _).alloc _ : LAt W w.heap.size ⟨r.t, r.q, p, r.c.length, cap⟩)
  have HZ : Hid (EAt W (w.heap.size + 1) Rw.none_) := (by rw [hW]; exact EAt.newat (w.alloc (rb ⟨r.t, r.q, p, r.c.length, cap⟩)) (w.heap.size + 1) Rw.none_ (by simp) : EAt W (w.heap.size + 1) Rw.none_)
  have HW : Hid (W = (w.alloc (rb ⟨r.t, r.q, p, r.c.length, cap⟩)).alloc ecb0) := hW
  have HC : Hid (Rw.cell r.c s = c) := hc
  have zs := str_toList s
  clear hB hW hc
  unfold rvv
  simp only [sv]
  go_enter Try.func22, Try.ntmps22
  go_wp2_with fail
  rw [← HW.out]
  obtain ⟨n0, n1, n2⟩ := HL.out.all
  obtain ⟨z0, z1, z2, z3⟩ := HZ.out.all
  obtain ⟨f0, f1, f2, f3⟩ := HZ.out.fro
  go_loopw [10] (fun iv wr => ∃ i : Nat, i ≤ r.c.length ∧ iv = .int .i64 i ∧ Hid (∀ d ∈ r.c.take i, d.col ≠ s) ∧ Hid (Ex W wr)) (fun iv wr => r.c.length - (intOf iv).toNat)
  case atStart => exact ⟨0, by omega, rfl, (by simp : ∀ d ∈ r.c.take 0, d.col ≠ s), Ex.refl W⟩
  case round =>
    obtain ⟨i, hi, rfl, HN, HXr⟩ := hrel
    have HB2 : Hid (RdC wr p cap r.c) := HB.out.below HXr.out
    have HZ2 : Hid (EAt wr (w.heap.size + 1) Rw.none_) := HZ.out.below HXr.out
    clear n0 n1 n2 z0 z1 z2 z3 f0 f1 f2 f3
    by_cases hlt : i < r.c.length
    · have hti : (i : Int) < (r.c.length : Int) := by omega
      obtain ⟨b, off, rfl, e0, e1, e2, e3⟩ := RdC.four HB2.out hlt
      obtain ⟨d, hd⟩ : ∃ d, r.c[i] = d := ⟨_, rfl⟩
      rw [hd] at e0 e1 e2 e3
      have hsp : r.c = r.c.take i ++ d :: r.c.drop (i + 1) := by rw [← hd, ← List.drop_eq_getElem_cons hlt, List.take_append_drop]
      have HSP : Hid (r.c = r.c.take i ++ d :: r.c.drop (i + 1)) := hsp
      have hnx : r.c.take (i + 1) = r.c.take i ++ [d] := by rw [List.take_add_one, List.getElem?_eq_getElem hlt, hd]; rfl
      have HNX : Hid (r.c.take (i + 1) = r.c.take i ++ [d]) := hnx
      have zd := str_toList d.col
      obtain ⟨w1, hw1⟩ : ∃ w1, wr.alloc (cb d) = w1 := ⟨_, rfl⟩
      have HX1 : Hid (Ex W w1) := (by rw [← hw1]; exact HXr.out.trans ((Below.refl _ _).alloc (Nat.le_refl _) _) : Ex W w1)
      have HE1 : Hid (EAt w1 wr.heap.size d) := (by rw [← hw1]; exact EAt.new wr d : EAt w1 wr.heap.size d)
      have HZ1 : Hid (EAt w1 (w.heap.size + 1) Rw.none_) := HZ.out.below HX1.out
      obtain ⟨g0, g1, g2, g3⟩ := HE1.out.all
      obtain ⟨z0, z1, z2, z3⟩ := HZ1.out.all
      obtain ⟨f0, f1, f2, f3⟩ := HZ1.out.fro
      clear hd hsp hnx
      by_cases hds : d.col = s
      · have td : (d.col == s) = true := by simp [hds]
        have HF : Hid (c = d) := (by rw [← HC.out, HSP.out]; exact Rw.cell_skip HN.out hds : c = d)
        clear hds
        go_wp2_with fail
        have hL9 := EAt.store HZ1.out d
        have hX9 := Below.eset (HX.out.trans HX1.out) (Nat.le_succ _) d
        refine bodyPost_ret (v := cv d) (res_cell Try.results22 rfl hL9) rfl ⟨by rw [HF.out], hX9⟩
      · have td : (d.col == s) = false := by simp [hds]
        have HN2 : Hid (∀ e ∈ r.c.take (i + 1), e.col ≠ s) := (by
          intro e he
          rw [HNX.out] at he
          rcases List.mem_append.1 he with h | h
          · exact HN.out e h
          · rw [List.mem_singleton] at h; subst h; exact hds : ∀ e ∈ r.c.take (i + 1), e.col ≠ s)
        go_wp2_with fail
        go_roundw
        case rel => exact ⟨i + 1, by omega, by go_num, HN2, HX1⟩
        case measure => simp [intOf]; omega
    · have hti : ¬ (i : Int) < (r.c.length : Int) := by omega
      have HF : Hid (c = Rw.none_) := (by rw [← HC.out]; have h := HN.out; rw [List.take_of_length_le (by omega)] at h; exact Rw.cell_out h : c = Rw.none_)
      obtain ⟨z0, z1, z2, z3⟩ := HZ2.out.all
      obtain ⟨f0, f1, f2, f3⟩ := HZ2.out.fro
      go_wp2_with fail
      have hL9 := EAt.store HZ2.out Rw.none_
      have hX9 := Below.eset (HX.out.trans HXr.out) (Nat.le_succ _) Rw.none_
      refine bodyPost_ret (v := cv Rw.none_) (res_cell Try.results22 rfl hL9) rfl ⟨by rw [HF.out], hX9⟩
theorem rhead_is (q n : Int) (w : World) (r : Bool) (hr : (decide (q ≤ 1073741824) && decide (n ≤ 8)) = r) : Calls Try.prog 42 #[.int .u64 q, .int .u64 n] w fun e w' => e = .returned (.bool r) ∧ w' = w := by
  obtain ⟨x, hx⟩ : ∃ x, decide (q ≤ 1073741824) = x := ⟨_, rfl⟩
  obtain ⟨y, hy⟩ : ∃ y, decide (n ≤ 8) = y := ⟨_, rfl⟩
  have HR : Hid ((x && y) = r) := (by rw [← hr, hx, hy] : (x && y) = r)
  clear hr
  go_enter Try.func42, Try.ntmps42
  cases x <;> cases y
  all_goals (go_wp2_with fail)
  all_goals (go_ret; exact ⟨by rw [← HR.out]; rfl, rfl⟩)
theorem rkind_is (k : Int) (w : World) (r : Bool) (hr : (decide (k = 1) || decide (k = 2)) = r) : Calls Try.prog 51 #[.int .u64 k] w fun e w' => e = .returned (.bool r) ∧ w' = w := by
  obtain ⟨x, hx⟩ : ∃ x, (k == 1) = x := ⟨_, rfl⟩
  obtain ⟨y, hy⟩ : ∃ y, (k == 2) = y := ⟨_, rfl⟩
  have HR : Hid ((x || y) = r) := (by rw [← hr, ← hx, ← hy]; rfl : (x || y) = r)
  clear hr
  go_enter Try.func51, Try.ntmps51
  cases x <;> cases y
  all_goals (go_wp2_with fail)
  all_goals (go_ret; exact ⟨by rw [← HR.out]; rfl, rfl⟩)
set_option maxHeartbeats 4000000 in
set_option maxRecDepth 100000 in
theorem rcel_is (c : Ce) (w : World) (h1 : c.col.length ≤ maxLen) (h2 : c.s.length ≤ maxLen) (r : Bool) (hr : Rw.celOk c = r) : Calls Try.prog 43 #[cv c] w fun e w' => e = .returned (.bool r) ∧ w' = w.alloc (cb c) := by
  have HR : Hid (Rw.celOk c = r) := hr
  have H1 : Hid (c.col.length ≤ maxLen) := h1
  have hsS := str_size c.s
  have zS := str_toList c.s
  unfold maxLen at h2
  clear hr h1
  have hE := EAt.new w c
  obtain ⟨g0, g1, g2, g3⟩ := hE.all
  clear hE
  obtain ⟨nb, hnb⟩ : ∃ x, Rw.name c.col = x := ⟨_, rfl⟩
  have HNB : Hid (Rw.name c.col = nb) := hnb
  obtain ⟨k1, hk1⟩ : ∃ x, (c.k == 1) = x := ⟨_, rfl⟩
  obtain ⟨k2, hk2⟩ : ∃ x, (c.k == 2) = x := ⟨_, rfl⟩
  obtain ⟨k3, hk3⟩ : ∃ x, (c.n == 0) = x := ⟨_, rfl⟩
  obtain ⟨k4, hk4⟩ : ∃ x, (c.s == []) = x := ⟨_, rfl⟩
  have HK1 : Hid ((c.k == 1) = k1) := hk1
  have HK2 : Hid ((c.k == 2) = k2) := hk2
  have HK3 : Hid ((c.n == 0) = k3) := hk3
  have HK4 : Hid ((c.s == []) = k4) := hk4
  clear hnb
  unfold cv
  go_enter Try.func43, Try.ntmps43
  go_wp2_with (fail)
  go_at_call 30
  refine Calls.mono (sname_is c.col _ H1.out nb HNB.out) ?_
  rintro e wx ⟨rfl, rfl⟩
  cases nb with
  | false =>
    have HF : Hid (r = false) := (by rw [← HR.out]; unfold Rw.celOk; rw [HNB.out]; rfl : r = false)
    go_wp2_with fail
    go_ret
    exact ⟨by rw [HF.out]; rfl, rfl⟩
  | true =>
    have HF : Hid (r = Rw.form c) := (by rw [← HR.out]; unfold Rw.celOk; rw [HNB.out, Bool.true_and] : r = Rw.form c)
    cases k1 <;> cases k2 <;> cases k3 <;> cases k4
    all_goals (go_wp2_with fail)
    all_goals (go_ret; refine ⟨?_, rfl⟩; rw [HF.out]; have q1 := HK1.out; have q2 := HK2.out; have q3 := HK3.out; have q4 := HK4.out; simp at q1 q2 q3 q4; simp [Rw.form, q1, q2, q3, q4] at *; try omega)
end Go.Proofs.Ytghnbohplonhoaa
namespace Go.Proofs.Ytghnbohplonhoaa
open Go.RowKit
set_option linter.unusedVariables false
set_option linter.unusedSimpArgs false
theorem rcel_ex (c : Ce) (w : World) (h1 : c.col.length ≤ maxLen) (h2 : c.s.length ≤ maxLen) (r : Bool) (hr : Rw.celOk c = r) : Calls Try.prog 43 #[cv c] w fun e w' => e = .returned (.bool r) ∧ Ex w w' :=
  (rcel_is c w h1 h2 r hr).mono fun e w' ⟨h, h'⟩ => ⟨h, by rw [h']; exact (Below.refl _ _).alloc (Nat.le_refl _) _⟩
theorem I.wi64 (n : Int) (h1 : -9223372036854775808 ≤ n) (h2 : n ≤ 9223372036854775807) : IntKind.i64.wrap n = n := by
  simp [IntKind.wrap, IntKind.bits, IntKind.signed]; omega
set_option maxHeartbeats 8000000 in
set_option maxRecDepth 100000 in
theorem sright_is (v : RV) (r : Rw) (w : World) (h : RvOk w v r) (hl : RwOk r) (o : Bool) (ho : Rw.right r = o) : Calls Try.prog 14 #[rvv v] w fun e w' => e = .returned (.bool o) ∧ Ex w w' := by
  obtain ⟨vt, vq, p, n, cap⟩ := v
  obtain ⟨rfl, rfl, hn, hB⟩ := h
  simp only at hn hB
  subst hn
  have h1 := hB.1
  have h2 := hB.2.1
  unfold maxLen at h2
  obtain ⟨hT, hQ, hl⟩ := hl
  unfold In64 at hT hQ
  have HO : Hid (Rw.right r = o) := ho
  have HLl : Hid (∀ c ∈ r.c, c.col.length ≤ maxLen ∧ c.s.length ≤ maxLen ∧ In64 c.k ∧ In64 c.n) := hl
  have HX : Hid (Ex w (w.alloc (rb ⟨r.t, r.q, p, r.c.length, cap⟩))) := ((Below.refl _ _).alloc (Nat.le_refl _) _ : Ex w _)
  have HB : Hid (RdC w p cap r.c) := hB
  have HL : Hid (LAt (w.alloc (rb ⟨r.t, r.q, p, r.c.length, cap⟩)) w.heap.size ⟨r.t, r.q, p, r.c.length, cap⟩) := LAt.new w _
  clear hB ho hl
  obtain ⟨qn, hqn⟩ : ∃ qn, IntKind.u64.wrap r.q = qn := ⟨_, rfl⟩
  have HQN : Hid (qn = r.q % 18446744073709551616) := (by rw [← hqn]; exact I.w64 _ : qn = r.q % 18446744073709551616)
  have hln : IntKind.u64.wrap (r.c.length : Int) = (r.c.length : Int) := I.wraps64 _ (by omega) (by omega)
  obtain ⟨hb, hhb⟩ : ∃ hb, (decide (qn ≤ 1073741824) && decide ((r.c.length : Int) ≤ 8)) = hb := ⟨_, rfl⟩
  have HHB : Hid ((decide (qn ≤ 1073741824) && decide ((r.c.length : Int) ≤ 8)) = hb) := hhb
  clear hhb
  unfold rvv
  simp only [sv]
  go_enter Try.func14, Try.ntmps14
  by_cases hta : r.t < -1099511627776
  · have t1 : decide (r.t < -1099511627776) = true := by simp; omega
    have HF : Hid (o = false) := (by rw [← HO.out]; unfold Rw.right Rw.head; simp; omega : o = false)
    go_wp2_with fail
    go_ret
    exact ⟨by rw [HF.out]; rfl, HX.out⟩
  have t1 : decide (r.t < -1099511627776) = false := by simp; omega
  by_cases htb : 1099511627776 < r.t
  · have t2 : decide (1099511627776 < r.t) = true := by simp; omega
    have HF : Hid (o = false) := (by rw [← HO.out]; unfold Rw.right Rw.head; simp; omega : o = false)
    go_wp2_with fail
    go_ret
    exact ⟨by rw [HF.out]; rfl, HX.out⟩
  have t2 : decide (1099511627776 < r.t) = false := by simp; omega
  go_wp2_with fail
  go_at_call 42
  refine Calls.mono (rhead_is qn r.c.length _ hb HHB.out) ?_
  rintro e wx ⟨rfl, rfl⟩
  cases hb with
  | false =>
    have HF : Hid (o = false) := (by
      rw [← HO.out]
      cases hr : Rw.right r with
      | false => rfl
      | true =>
        have h := (Rw.right_iff r).1 hr
        have h3 := HHB.out
        rw [HQN.out] at h3
        simp at h3
        omega : o = false)
    go_wp2_with fail
    go_ret
    exact ⟨by rw [HF.out]; rfl, HX.out⟩
  | true =>
    have HH : Hid (0 ≤ r.q ∧ r.q ≤ 1073741824 ∧ r.c.length ≤ 8) := (by
      have h3 := HHB.out
      rw [HQN.out] at h3
      simp at h3
      omega : 0 ≤ r.q ∧ r.q ≤ 1073741824 ∧ r.c.length ≤ 8)
    go_wp2_with fail
    go_loopw [25, 3, 4] (fun iv jv cv wr => ∃ i : Nat, i ≤ r.c.length ∧ iv = .int .i64 i ∧ Hid (∀ c ∈ r.c.take i, Rw.celOk c = true) ∧ Hid (T.Rise ((r.c.take i).map Ce.col)) ∧ Hid (LAt wr w.heap.size ⟨r.t, r.q, p, r.c.length, cap⟩) ∧ Hid (Ex w wr)) (fun iv jv cv wr => r.c.length - (intOf iv).toNat)
    case atStart => exact ⟨0, by omega, rfl, (by simp : ∀ c ∈ r.c.take 0, Rw.celOk c = true), (T.Rise.nil : T.Rise ((r.c.take 0).map Ce.col)), HL, HX⟩
    case round =>
      obtain ⟨i, hi, rfl, HA, HRi, HLr, HXr⟩ := hrel
      by_cases hlt : i < r.c.length
      · have hti : (i : Int) < (r.c.length : Int) := by omega
        obtain ⟨b, off, hpp, e0, e1, e2, e3⟩ := RdC.four (HB.out.below HXr.out) hlt
        obtain ⟨d, hd⟩ : ∃ d, r.c[i] = d := ⟨_, rfl⟩
        rw [hd] at e0 e1 e2 e3
        have hmem : d ∈ r.c := by rw [← hd]; exact List.getElem_mem hlt
        obtain ⟨hdl1, hdl2, _, _⟩ := HLl.out d hmem
        have HM : Hid (d ∈ r.c) := hmem
        have HNX : Hid (r.c.take (i + 1) = r.c.take i ++ [d]) := (by rw [List.take_add_one, List.getElem?_eq_getElem hlt, hd]; rfl : r.c.take (i + 1) = r.c.take i ++ [d])
        have HDI : Hid (r.c[i]? = some d) := (by rw [List.getElem?_eq_getElem hlt, hd] : r.c[i]? = some d)
        have HD1 : Hid (d.col.length ≤ maxLen) := hdl1
        have HD2 : Hid (d.s.length ≤ maxLen) := hdl2
        obtain ⟨nb, hnb⟩ : ∃ x, Rw.celOk d = x := ⟨_, rfl⟩
        have HCB : Hid (Rw.celOk d = nb) := hnb
        have hszlt : w.heap.size < wr.heap.size := HLr.out.lt
        subst hpp
        clear hd hmem hdl1 hdl2 hnb
        obtain ⟨w1, hw1⟩ : ∃ w1, wr.alloc (cb d) = w1 := ⟨_, rfl⟩
        have HL1 : Hid (LAt w1 w.heap.size ⟨r.t, r.q, some ⟨b, off, none⟩, r.c.length, cap⟩) := (by rw [← hw1]; exact HLr.out.alloc _ : LAt w1 w.heap.size ⟨r.t, r.q, some ⟨b, off, none⟩, r.c.length, cap⟩)
        have hX01 : Ex wr w1 := by rw [← hw1]; exact (Below.refl _ _).alloc (Nat.le_refl _) _
        have HX01 : Hid (Ex wr w1) := hX01
        have HX1 : Hid (Ex w w1) := HXr.out.trans hX01
        obtain ⟨m0, m1, m2⟩ := HL1.out.all
        have hE1 : EAt w1 wr.heap.size d := by rw [← hw1]; exact EAt.new wr d
        obtain ⟨x0, x1, x2, x3⟩ := hE1.all
        clear hE1 hX01
        cases nb with
        | false =>
          have HF : Hid (o = false) := (by rw [← HO.out]; exact Rw.right_bad HM.out HCB.out : o = false)
          go_upto_region 8 with fail
          have hre := Ex.refl
          refine Rg.wp_rows [.inl (cv d), .inl (.bool false), .inl (.bool true), .inl (.bool true), .inl undef, .inl undef, .inl undef, .inl undef, .inl undef, .inl undef, .inl undef, .inl undef, .inl undef, .inl undef, .inl undef, .inl undef, .inl undef, .inl undef, .inl (.bool true)] (Ex w1) Ex 50 (by kernel_rfl) rfl (by kernel_rfl) ?st hre (Ex.drew _) ?goods ?fin
          case st => exact trivial
          case goods =>
            refine Rg.goods_cons (Rg.good_load hre rfl rfl rfl (fun wx hC => by exact loadI_cell (cell_ex x0 hC) (cell_ex x1 hC) (cell_ex x2 hC) (cell_ex x3 hC))) ?_
            refine Rg.goods_cons (Rg.good_call1 Try.func43 (by kernel_rfl) rfl rfl rfl (by rintro u wx hC rfl; exact ex_row (rcel_ex d wx HD1.out HD2.out false HCB.out) hC)) ?_
            refine Rg.goods_cons (Rg.good_un hre rfl rfl rfl (fun w => by go_simp)) ?_
            refine Rg.goods_cons (Rg.good_move hre rfl rfl rfl) ?_
            refine Rg.goods_cons (Rg.good_skip rfl) ?_
            refine Rg.goods_cons (Rg.good_skip rfl) ?_
            refine Rg.goods_cons (Rg.good_skip rfl) ?_
            refine Rg.goods_cons (Rg.good_skip rfl) ?_
            refine Rg.goods_cons (Rg.good_skip rfl) ?_
            refine Rg.goods_cons (Rg.good_skip rfl) ?_
            refine Rg.goods_cons (Rg.good_skip rfl) ?_
            refine Rg.goods_cons (Rg.good_skip rfl) ?_
            refine Rg.goods_cons (Rg.good_skip rfl) ?_
            refine Rg.goods_cons (Rg.good_skip rfl) ?_
            refine Rg.goods_cons (Rg.good_skip rfl) ?_
            refine Rg.goods_cons (Rg.good_skip rfl) ?_
            refine Rg.goods_cons (Rg.good_skip rfl) ?_
            refine Rg.goods_cons (Rg.good_skip rfl) ?_
            refine Rg.goods_cons (Rg.good_pick true hre rfl rfl rfl rfl) ?_
            exact Rg.goods_nil
          case fin =>
            intro wx hx
            simp only [Rg.later, Act.put, List.setIfInBounds_toArray, List.set_cons_succ, List.set_cons_zero]
            go_wp2_with fail
            go_ret
            exact ⟨by rw [HF.out]; rfl, HX1.out.trans hx⟩
        | true =>
          by_cases hi0 : i = 0
          · have HR2 : Hid (T.Rise ((r.c.take (i + 1)).map Ce.col)) := (by rw [HNX.out, hi0]; simp [T.Rise] : T.Rise ((r.c.take (i + 1)).map Ce.col))
            have HA2 : Hid (∀ c ∈ r.c.take (i + 1), Rw.celOk c = true) := (by
              intro c hc
              rw [HNX.out] at hc
              rcases List.mem_append.1 hc with h | h
              · exact HA.out c h
              · rw [List.mem_singleton] at h
                subst h
                exact HCB.out : ∀ c ∈ r.c.take (i + 1), Rw.celOk c = true)
            have hi1 : i ≤ 0 := by omega
            clear hi0
            go_upto_region 8 with fail
            have hre := Ex.refl
            refine Rg.wp_rows [.inl (cv d), .inl (.bool true), .inl (.bool false), .inl (.bool false), .inl (.int .i64 i), .inl (.bool false), .inl (.bool false), .inl undef, .inl undef, .inl undef, .inl undef, .inl undef, .inl undef, .inl undef, .inl undef, .inl undef, .inl undef, .inl (.bool false), .inl (.bool false)] (Ex w1) Ex 50 (by kernel_rfl) rfl (by kernel_rfl) ?st hre (Ex.drew _) ?goods ?fin
            case st => exact trivial
            case goods =>
              refine Rg.goods_cons (Rg.good_load hre rfl rfl rfl (fun wx hC => by exact loadI_cell (cell_ex x0 hC) (cell_ex x1 hC) (cell_ex x2 hC) (cell_ex x3 hC))) ?_
              refine Rg.goods_cons (Rg.good_call1 Try.func43 (by kernel_rfl) rfl rfl rfl (by rintro u wx hC rfl; exact ex_row (rcel_ex d wx HD1.out HD2.out true HCB.out) hC)) ?_
              refine Rg.goods_cons (Rg.good_un hre rfl rfl rfl (fun w => by go_simp)) ?_
              refine Rg.goods_cons (Rg.good_move hre rfl rfl rfl) ?_
              refine Rg.goods_cons (Rg.good_move hre rfl rfl rfl) ?_
              refine Rg.goods_cons (Rg.good_bin hre rfl rfl rfl rfl (fun _ => rfl) (fun w => by simp [go_sem]; omega)) ?_
              refine Rg.goods_cons (Rg.good_move hre rfl rfl rfl) ?_
              refine Rg.goods_cons (Rg.good_skip rfl) ?_
              refine Rg.goods_cons (Rg.good_skip rfl) ?_
              refine Rg.goods_cons (Rg.good_skip rfl) ?_
              refine Rg.goods_cons (Rg.good_skip rfl) ?_
              refine Rg.goods_cons (Rg.good_skip rfl) ?_
              refine Rg.goods_cons (Rg.good_skip rfl) ?_
              refine Rg.goods_cons (Rg.good_skip rfl) ?_
              refine Rg.goods_cons (Rg.good_skip rfl) ?_
              refine Rg.goods_cons (Rg.good_skip rfl) ?_
              refine Rg.goods_cons (Rg.good_skip rfl) ?_
              refine Rg.goods_cons (Rg.good_pick false hre rfl rfl rfl rfl) ?_
              refine Rg.goods_cons (Rg.good_pick false hre rfl rfl rfl rfl) ?_
              exact Rg.goods_nil
            case fin =>
              intro wx hx
              simp only [Rg.later, Act.put, List.setIfInBounds_toArray, List.set_cons_succ, List.set_cons_zero]
              have HL9 : Hid (LAt wx w.heap.size ⟨r.t, r.q, some ⟨b, off, none⟩, r.c.length, cap⟩) := HL1.out.below hx
              have HX9 : Hid (Ex w wx) := HX1.out.trans hx
              go_wp2_with fail
              go_roundw
              case rel => exact ⟨i + 1, by omega, by go_num, HA2, HR2, HL9, HX9⟩
              case measure => simp [intOf]; omega
          · obtain ⟨k, rfl⟩ : ∃ k, i = k + 1 := ⟨i - 1, by omega⟩
            obtain ⟨b', off', hpp', e0', e1', e2', e3'⟩ := RdC.four (HB.out.below HX1.out) (show k < r.c.length by omega)
            obtain ⟨c, hc⟩ : ∃ c, r.c[k] = c := ⟨_, rfl⟩
            rw [hc] at e0'
            have HCK : Hid (r.c[k]? = some c) := (by rw [List.getElem?_eq_getElem (by omega), hc] : r.c[k]? = some c)
            have zc := str_toList c.col
            have zd := str_toList d.col
            simp only [Option.some.injEq, Addr.mk.injEq, and_true] at hpp'
            obtain ⟨rfl, rfl⟩ := hpp'
            have ew0 : w1.cell? ⟨b, off + k * 4, none⟩ = some (.string (str c.col)) := e0'
            have hgg := le_form d.col c.col
            have hck0 : (k : Int) < r.c.length := by omega
            have HA2 : Hid (∀ c ∈ r.c.take (k + 1 + 1), Rw.celOk c = true) := (by
              intro c hc
              rw [HNX.out] at hc
              rcases List.mem_append.1 hc with h | h
              · exact HA.out c h
              · rw [List.mem_singleton] at h
                subst h
                exact HCB.out : ∀ c ∈ r.c.take (k + 1 + 1), Rw.celOk c = true)
            clear hc e0' e1' e2' e3' hi0
            cases hcd : T.lt c.col d.col with
            | true =>
              rw [hcd] at hgg
              simp only [Bool.not_true] at hgg
              have HR2 : Hid (T.Rise ((r.c.take (k + 1 + 1)).map Ce.col)) := (by
                rw [HNX.out, List.map_append]
                refine T.rise_snoc HRi.out fun y hy => ?_
                have hlen : ((r.c.take (k + 1)).map Ce.col).length - 1 = k := by simp; omega
                rw [hlen, List.getElem?_map, List.getElem?_take, if_pos (by omega), HCK.out] at hy
                simp at hy
                rw [← hy]; exact hcd : T.Rise ((r.c.take (k + 1 + 1)).map Ce.col))
              clear hcd
              go_upto_region 8 with fail
              have hre := Ex.refl
              refine Rg.wp_rows [.inl (cv d), .inl (.bool true), .inl (.bool false), .inl (.bool false), .inl (.int .i64 (k + 1 : Nat)), .inl (.bool true), .inl (.bool true), .inl (.pointer (some ⟨wr.heap.size, 0, none⟩)), .inl (.string (str d.col)), .inl (.pointer (some ⟨w.heap.size, 2, none⟩)), .inl (.slice (some ⟨b, off, none⟩) r.c.length cap), .inl (.int .i64 (k + 1 : Nat)), .inl (.int .i64 k), .inl (.pointer (some ⟨b, off + k * 4, none⟩)), .inl (.pointer (some ⟨b, off + k * 4, none⟩)), .inl (.string (str c.col)), .inl (.bool false), .inl (.bool false), .inl (.bool false)] (Ex w1) Ex 50 (by kernel_rfl) rfl (by kernel_rfl) ?st hre (Ex.drew _) ?goods ?fin
              case st => exact trivial
              case goods =>
                refine Rg.goods_cons (Rg.good_load hre rfl rfl rfl (fun wx hC => by exact loadI_cell (cell_ex x0 hC) (cell_ex x1 hC) (cell_ex x2 hC) (cell_ex x3 hC))) ?_
                refine Rg.goods_cons (Rg.good_call1 Try.func43 (by kernel_rfl) rfl rfl rfl (by rintro u wx hC rfl; exact ex_row (rcel_ex d wx HD1.out HD2.out true HCB.out) hC)) ?_
                refine Rg.goods_cons (Rg.good_un hre rfl rfl rfl (fun w => by go_simp)) ?_
                refine Rg.goods_cons (Rg.good_move hre rfl rfl rfl) ?_
                refine Rg.goods_cons (Rg.good_move hre rfl rfl rfl) ?_
                refine Rg.goods_cons (Rg.good_bin hre rfl rfl rfl rfl (fun _ => rfl) (fun w => by first | (go_simp; done) | (simp [go_sem]; omega))) ?_
                refine Rg.goods_cons (Rg.good_move hre rfl rfl rfl) ?_
                refine Rg.goods_cons (Rg.good_field hre rfl rfl rfl (fun wx hC => by go_simp)) ?_
                refine Rg.goods_cons (Rg.good_load hre rfl rfl rfl (fun wx hC => by have hz := cell_ex x0 hC; go_simp)) ?_
                refine Rg.goods_cons (Rg.good_field hre rfl rfl rfl (fun wx hC => by go_simp)) ?_
                refine Rg.goods_cons (Rg.good_load hre rfl rfl rfl (fun wx hC => by have hz := cell_ex m2 hC; go_simp)) ?_
                refine Rg.goods_cons (Rg.good_move hre rfl rfl rfl) ?_
                refine Rg.goods_cons (Rg.good_bin hre rfl rfl rfl rfl (fun _ => rfl) (fun w => by first | (go_simp; done) | (go_simp; rw [I.wi64 _ (by omega) (by omega)]; done) | (go_simp; rw [I.wi64 _ (by omega) (by omega)]; omega))) ?_
                refine Rg.goods_cons (Rg.good_index hre rfl rfl rfl rfl (fun wx hC => by first | (go_simp; done) | (go_simp; omega))) ?_
                refine Rg.goods_cons (Rg.good_field hre rfl rfl rfl (fun wx hC => by go_simp)) ?_
                refine Rg.goods_cons (Rg.good_load hre rfl rfl rfl (fun wx hC => by have hz := cell_ex ew0 hC; go_simp)) ?_
                refine Rg.goods_cons (Rg.good_bin hre rfl rfl rfl rfl (fun _ => rfl) (fun w => by first | (go_simp; done) | (go_simp; exact hgg))) ?_
                refine Rg.goods_cons (Rg.good_pick true hre rfl rfl rfl rfl) ?_
                refine Rg.goods_cons (Rg.good_pick false hre rfl rfl rfl rfl) ?_
                exact Rg.goods_nil
              case fin =>
                intro wx hx
                simp only [Rg.later, Act.put, List.setIfInBounds_toArray, List.set_cons_succ, List.set_cons_zero]
                have HL9 : Hid (LAt wx w.heap.size ⟨r.t, r.q, some ⟨b, off, none⟩, r.c.length, cap⟩) := HL1.out.below hx
                have HX9 : Hid (Ex w wx) := HX1.out.trans hx
                go_wp2_with fail
                go_roundw
                case rel => exact ⟨k + 1 + 1, by omega, by go_num, HA2, HR2, HL9, HX9⟩
                case measure => simp [intOf]; omega
            | false =>
              rw [hcd] at hgg
              simp only [Bool.not_false] at hgg
              have HF : Hid (o = false) := (by rw [← HO.out]; exact Rw.right_down HCK.out HDI.out hcd : o = false)
              clear hcd
              go_upto_region 8 with fail
              have hre := Ex.refl
              refine Rg.wp_rows [.inl (cv d), .inl (.bool true), .inl (.bool false), .inl (.bool false), .inl (.int .i64 (k + 1 : Nat)), .inl (.bool true), .inl (.bool true), .inl (.pointer (some ⟨wr.heap.size, 0, none⟩)), .inl (.string (str d.col)), .inl (.pointer (some ⟨w.heap.size, 2, none⟩)), .inl (.slice (some ⟨b, off, none⟩) r.c.length cap), .inl (.int .i64 (k + 1 : Nat)), .inl (.int .i64 k), .inl (.pointer (some ⟨b, off + k * 4, none⟩)), .inl (.pointer (some ⟨b, off + k * 4, none⟩)), .inl (.string (str c.col)), .inl (.bool true), .inl (.bool true), .inl (.bool true)] (Ex w1) Ex 50 (by kernel_rfl) rfl (by kernel_rfl) ?st hre (Ex.drew _) ?goods ?fin
              case st => exact trivial
              case goods =>
                refine Rg.goods_cons (Rg.good_load hre rfl rfl rfl (fun wx hC => by exact loadI_cell (cell_ex x0 hC) (cell_ex x1 hC) (cell_ex x2 hC) (cell_ex x3 hC))) ?_
                refine Rg.goods_cons (Rg.good_call1 Try.func43 (by kernel_rfl) rfl rfl rfl (by rintro u wx hC rfl; exact ex_row (rcel_ex d wx HD1.out HD2.out true HCB.out) hC)) ?_
                refine Rg.goods_cons (Rg.good_un hre rfl rfl rfl (fun w => by go_simp)) ?_
                refine Rg.goods_cons (Rg.good_move hre rfl rfl rfl) ?_
                refine Rg.goods_cons (Rg.good_move hre rfl rfl rfl) ?_
                refine Rg.goods_cons (Rg.good_bin hre rfl rfl rfl rfl (fun _ => rfl) (fun w => by first | (go_simp; done) | (simp [go_sem]; omega))) ?_
                refine Rg.goods_cons (Rg.good_move hre rfl rfl rfl) ?_
                refine Rg.goods_cons (Rg.good_field hre rfl rfl rfl (fun wx hC => by go_simp)) ?_
                refine Rg.goods_cons (Rg.good_load hre rfl rfl rfl (fun wx hC => by have hz := cell_ex x0 hC; go_simp)) ?_
                refine Rg.goods_cons (Rg.good_field hre rfl rfl rfl (fun wx hC => by go_simp)) ?_
                refine Rg.goods_cons (Rg.good_load hre rfl rfl rfl (fun wx hC => by have hz := cell_ex m2 hC; go_simp)) ?_
                refine Rg.goods_cons (Rg.good_move hre rfl rfl rfl) ?_
                refine Rg.goods_cons (Rg.good_bin hre rfl rfl rfl rfl (fun _ => rfl) (fun w => by first | (go_simp; done) | (go_simp; rw [I.wi64 _ (by omega) (by omega)]; done) | (go_simp; rw [I.wi64 _ (by omega) (by omega)]; omega))) ?_
                refine Rg.goods_cons (Rg.good_index hre rfl rfl rfl rfl (fun wx hC => by first | (go_simp; done) | (go_simp; omega))) ?_
                refine Rg.goods_cons (Rg.good_field hre rfl rfl rfl (fun wx hC => by go_simp)) ?_
                refine Rg.goods_cons (Rg.good_load hre rfl rfl rfl (fun wx hC => by have hz := cell_ex ew0 hC; go_simp)) ?_
                refine Rg.goods_cons (Rg.good_bin hre rfl rfl rfl rfl (fun _ => rfl) (fun w => by first | (go_simp; done) | (go_simp; exact hgg))) ?_
                refine Rg.goods_cons (Rg.good_pick true hre rfl rfl rfl rfl) ?_
                refine Rg.goods_cons (Rg.good_pick false hre rfl rfl rfl rfl) ?_
                exact Rg.goods_nil
              case fin =>
                intro wx hx
                simp only [Rg.later, Act.put, List.setIfInBounds_toArray, List.set_cons_succ, List.set_cons_zero]
                go_wp2_with fail
                go_ret
                exact ⟨by rw [HF.out]; rfl, HX1.out.trans hx⟩
      · have hti : ¬ (i : Int) < (r.c.length : Int) := by omega
        have HF : Hid (o = true) := (by rw [← HO.out, Rw.right_iff]; have h1 := HA.out; have h2 := HRi.out; rw [List.take_of_length_le (by omega)] at h1 h2; have h3 := HH.out; exact ⟨by omega, h1, h2⟩ : o = true)
        go_wp2_with fail
        go_ret
        exact ⟨by rw [HF.out]; rfl, HXr.out⟩
end Go.Proofs.Ytghnbohplonhoaa
namespace Go.Proofs.Ytghnbohplonhoaa
open Go.RowKit
set_option linter.unusedVariables false
set_option linter.unusedSimpArgs false
set_option maxHeartbeats 4000000 in
set_option maxRecDepth 100000 in
theorem putc_is (a : Option Addr) (n cap : Nat) (l : List UInt8) (c : Ce) (w : World) (hB : Byt w a cap l) (hn : n = l.length) (hlen : l.length ≤ 1000000) (hk : c.k = 1 ∨ c.k = 2) (hN : In64 c.n) (hcol : c.col.length ≤ 1000) (hs : c.s.length ≤ 1000) (r : List UInt8) (hr : l ++ Rw.encC c = r) :
    Calls Try.prog 38 #[.slice a n cap, cv c] w fun e w' => ∃ v', e = .returned v' ∧ Own w' w.heap.size v' r ∧ Ex w w' := by
  subst hn
  have hG := zig_nat hN.1 hN.2
  obtain ⟨G, hG1, hG2⟩ := hG
  unfold In64 at hN
  obtain ⟨K, hK⟩ : ∃ K : Nat, c.k = (K : Int) := ⟨c.k.toNat, by omega⟩
  obtain ⟨w0, hw0⟩ : ∃ w0, w.alloc (cb c) = w0 := ⟨_, rfl⟩
  have HX0 : Hid (Ex w w0) := (by rw [← hw0]; exact (Below.refl _ _).alloc (Nat.le_refl _) _ : Ex w w0)
  have HE0 : Hid (EAt w0 w.heap.size c) := (by rw [← hw0]; exact EAt.new w c : EAt w0 w.heap.size c)
  have HB0 : Hid (Byt w0 a cap l) := hB.below HX0.out
  obtain ⟨l1, hl1⟩ : ∃ l1, l ++ M.digs c.col.length ++ c.col = l1 := ⟨_, rfl⟩
  obtain ⟨l2, hl2⟩ : ∃ l2, l1 ++ M.digs K = l2 := ⟨_, rfl⟩
  have d1 := M.digs_len c.col.length
  have d2 := M.digs_len K
  have HL1 : Hid (l ++ M.digs c.col.length ++ c.col = l1) := hl1
  have HL2 : Hid (l1 ++ M.digs K = l2) := hl2
  have hn1 : l1.length ≤ 1002000 := by rw [← hl1]; simp; omega
  have hn2 : l2.length ≤ 1003000 := by rw [← hl2]; simp; omega
  have HR : Hid (l2 ++ (if c.k = 1 then M.digs (M.zig c.n).toNat else M.digs c.s.length ++ c.s) = r) := (by rw [← hr, ← hl2, ← hl1, show K = c.k.toNat by omega]; unfold Rw.encC T.ptext; simp only [List.append_assoc] : l2 ++ (if c.k = 1 then M.digs (M.zig c.n).toNat else M.digs c.s.length ++ c.s) = r)
  have HK : Hid (c.k = (K : Int)) := hK
  have HK12 : Hid (c.k = 1 ∨ c.k = 2) := hk
  have hKw : IntKind.u64.wrap c.k = (K : Int) := by rw [hK]; exact I.wraps64 _ (by omega) (by omega)
  have HKK : Hid (K ≤ 2) := (by omega : K ≤ 2)
  obtain ⟨g0, g1, g2, g3⟩ := HE0.out.all
  clear hB hl1 hl2 hr hk hK d1 d2
  unfold cv
  go_enter Try.func38, Try.ntmps38
  go_wp2_with fail
  go_at_call 56
  refine (putText_any a cap l c.col l1 _ HB0.out HL1.out (by omega)).mono ?_
  rintro e w1 ⟨v1, rfl, ho1, hx1⟩
  obtain ⟨a1, c1, rfl, hb1⟩ := ho1.byt
  have HE1 : Hid (EAt w1 w.heap.size c) := HE0.out.below hx1
  have HX1 : Hid (Ex w w1) := HX0.out.trans hx1
  have HB1 : Hid (Byt w1 a1 c1 l1) := hb1
  clear ho1 hb1 hx1 g0 g1 g2 g3
  obtain ⟨g0, g1, g2, g3⟩ := HE1.out.all
  go_wp2_with fail
  go_at_call 36
  refine (put_is a1 _ c1 l1 l2 _ K _ rfl HL2.out HB1.out rfl (by have := HKK.out; omega) (by omega)).mono ?_
  rintro e w2 ⟨v2, rfl, ho2, hx2⟩
  obtain ⟨a2, c2, rfl, hb2⟩ := ho2.byt
  have HE2 : Hid (EAt w2 w.heap.size c) := HE1.out.below hx2
  have HX2 : Hid (Ex w w2) := HX1.out.trans hx2
  have HB2 : Hid (Byt w2 a2 c2 l2) := hb2
  clear ho2 hb2 hx2 g0 g1 g2 g3
  obtain ⟨g0, g1, g2, g3⟩ := HE2.out.all
  rcases HK12.out with h1 | h1
  · have t1 : (c.k == 2) = false := beq_eq_false_iff_ne.2 (by omega)
    have HR' : Hid (l2 ++ M.digs G = r) := (by rw [← HR.out, if_pos h1, hG1]; rfl : l2 ++ M.digs G = r)
    have HG : Hid (M.zig c.n = (G : Int)) := hG1
    clear h1 hG1
    go_wp2_with fail
    go_at_call 37
    refine (zig_is c.n G _ hN.1 hN.2 HG.out).mono ?_
    rintro e w3 ⟨rfl, rfl⟩
    go_wp2_with fail
    go_at_call 36
    refine (put_is a2 _ c2 l2 r _ G _ rfl HR'.out HB2.out rfl hG2 (by omega)).mono ?_
    rintro e w4 ⟨v4, rfl, ho4, hx4⟩
    go_wp2_with fail
    go_ret
    exact ⟨_, rfl, ho4.mono HX2.out.size, HX2.out.trans hx4⟩
  · have t1 : (c.k == 2) = true := beq_iff_eq.2 (by omega)
    have HR' : Hid (l2 ++ M.digs c.s.length ++ c.s = r) := (by rw [← HR.out, if_neg (by omega), List.append_assoc] : l2 ++ M.digs c.s.length ++ c.s = r)
    clear h1 hG1
    go_wp2_with fail
    go_at_call 56
    refine (putText_any a2 c2 l2 c.s r _ HB2.out HR'.out (by omega)).mono ?_
    rintro e w4 ⟨v4, rfl, ho4, hx4⟩
    go_wp2_with fail
    go_ret
    exact ⟨_, rfl, ho4.mono HX2.out.size, HX2.out.trans hx4⟩
set_option maxHeartbeats 8000000 in
set_option maxRecDepth 100000 in
theorem senc_is (v : RV) (r : Rw) (w : World) (h : RvOk w v r) (hl : RwOk r) (R : List UInt8) (e0 : Nat) (hr : Rw.encE r = (R, e0)) :
    Calls Try.prog 12 #[rvv v] w fun e w' => ∃ p c, e = .returned (.tuple #[.slice p R.length c, .int .i64 e0]) ∧ Byt w' p c R ∧ Ex w w' := by
  obtain ⟨vt, vq, p, n, cap⟩ := v
  have h0 := h
  obtain ⟨rfl, rfl, hn, hB⟩ := h
  simp only at hn hB
  subst hn
  have h1 := hB.1
  have h2 := hB.2.1
  unfold maxLen at h2
  have HOK : Hid (RwOk r) := hl
  obtain ⟨w0, hw0⟩ : ∃ w0, w.alloc (rb ⟨r.t, r.q, p, r.c.length, cap⟩) = w0 := ⟨_, rfl⟩
  have HX0 : Hid (Ex w w0) := (by rw [← hw0]; exact (Below.refl _ _).alloc (Nat.le_refl _) _ : Ex w w0)
  have HZ0 : Hid (LAt w0 w.heap.size ⟨r.t, r.q, p, r.c.length, cap⟩) := (by rw [← hw0]; exact LAt.new w _ : LAt w0 w.heap.size ⟨r.t, r.q, p, r.c.length, cap⟩)
  have HV0 : Hid (RvOk w0 ⟨r.t, r.q, p, r.c.length, cap⟩ r) := h0.below HX0.out
  have HB : Hid (RdC w p cap r.c) := hB
  obtain ⟨o, ho⟩ : ∃ o, Rw.right r = o := ⟨_, rfl⟩
  have HO : Hid (Rw.right r = o) := ho
  have HE : Hid (Rw.encE r = (R, e0)) := hr
  obtain ⟨n0, n1, n2⟩ := HZ0.out.all
  clear hB h0 hl ho hr
  unfold rvv
  simp only [sv]
  go_enter Try.func12, Try.ntmps12
  go_wp2_with fail
  go_at_call 14
  refine (sright_is ⟨r.t, r.q, p, r.c.length, cap⟩ r _ HV0.out HOK.out o HO.out).mono ?_
  rintro e w1 ⟨rfl, hx1⟩
  have HX1 : Hid (Ex w w1) := HX0.out.trans hx1
  have HZ1 : Hid (LAt w1 w.heap.size ⟨r.t, r.q, p, r.c.length, cap⟩) := HZ0.out.below hx1
  clear hx1 n0 n1 n2
  obtain ⟨n0, n1, n2⟩ := HZ1.out.all
  cases o with
  | false =>
    have hE := HE.out
    unfold Rw.encE at hE
    rw [HO.out, if_neg (by simp)] at hE
    simp only [Prod.mk.injEq] at hE
    obtain ⟨rfl, rfl⟩ := hE
    go_wp2_with fail
    go_ret2
    exact ⟨none, 0, rfl, Byt.nil _, HX1.out⟩
  | true =>
    have hE := HE.out
    unfold Rw.encE at hE
    rw [HO.out, if_pos rfl] at hE
    simp only [Prod.mk.injEq] at hE
    obtain ⟨hE1, rfl⟩ := hE
    have HE1 : Hid (Rw.enc r = R) := hE1
    have hRt := (Rw.right_iff r).1 HO.out
    obtain ⟨⟨ht1, ht2, hq1, hq2, hc8⟩, hcs, _⟩ := hRt
    have HCS : Hid (∀ c ∈ r.c, Rw.celOk c = true) := hcs
    obtain ⟨G, hG1, hG2⟩ := zig_nat (n := r.t) (by omega) (by omega)
    obtain ⟨S, hS⟩ : ∃ S : Nat, r.q = (S : Int) := ⟨r.q.toNat, by omega⟩
    have hSw : IntKind.u64.wrap r.q = (S : Int) := by rw [hS]; exact I.wraps64 _ (by omega) (by omega)
    have hS2 : S ≤ 1073741824 := by omega
    have hLw : IntKind.u64.wrap (r.c.length : Int) = (r.c.length : Int) := I.wraps64 _ (by omega) (by omega)
    obtain ⟨H2, hH2⟩ : ∃ H2, M.digs G ++ M.digs S = H2 := ⟨_, rfl⟩
    obtain ⟨H3, hH3⟩ : ∃ H3, H2 ++ M.digs r.c.length = H3 := ⟨_, rfl⟩
    have HH1 : Hid (([] : List UInt8) ++ M.digs G = M.digs G) := (by simp : ([] : List UInt8) ++ M.digs G = M.digs G)
    have HH2 : Hid (M.digs G ++ M.digs S = H2) := hH2
    have HH3 : Hid (H2 ++ M.digs r.c.length = H3) := hH3
    have d1 := M.digs_len G
    have d2 := M.digs_len S
    have d3 := M.digs_len r.c.length
    have hn2' : H2.length ≤ 20 := by rw [← hH2]; simp; omega
    have hn3' : H3.length ≤ 30 := by rw [← hH3]; simp; omega
    have HR3 : Hid (H3 ++ Rw.encCs r.c = R) := (by rw [← hE1, ← hH3, ← hH2]; unfold Rw.enc; rw [hG1, hS]; simp : H3 ++ Rw.encCs r.c = R)
    have HG : Hid (M.zig r.t = (G : Int)) := hG1
    clear hE1 hcs hG1 hS hH2 hH3 d2 d3
    go_wp2_with fail
    go_at_call 37
    refine (zig_is r.t G _ (by omega) (by omega) HG.out).mono ?_
    rintro e wz ⟨rfl, rfl⟩
    go_wp2_with fail
    go_at_call 36
    refine (put_is none 0 0 [] (M.digs G) _ G _ rfl HH1.out (Byt.nil _) rfl hG2 (by simp)).mono ?_
    rintro e w2 ⟨v2, rfl, ho2, hx2⟩
    obtain ⟨a2, c2, rfl, hb2⟩ := ho2.byt
    have HX2 : Hid (Ex w w2) := HX1.out.trans hx2
    have HZ2 : Hid (LAt w2 w.heap.size ⟨r.t, r.q, p, r.c.length, cap⟩) := HZ1.out.below hx2
    have HB2 : Hid (Byt w2 a2 c2 (M.digs G)) := hb2
    clear hx2 ho2 hb2 n0 n1 n2
    obtain ⟨n0, n1, n2⟩ := HZ2.out.all
    go_wp2_with fail
    go_at_call 36
    refine (put_is a2 _ c2 (M.digs G) H2 _ S _ rfl HH2.out HB2.out rfl (by omega) (by omega)).mono ?_
    rintro e w3 ⟨v3, rfl, ho3, hx3⟩
    obtain ⟨a3, c3, rfl, hb3⟩ := ho3.byt
    have HX3 : Hid (Ex w w3) := HX2.out.trans hx3
    have HZ3 : Hid (LAt w3 w.heap.size ⟨r.t, r.q, p, r.c.length, cap⟩) := HZ2.out.below hx3
    have HB3 : Hid (Byt w3 a3 c3 H2) := hb3
    clear hx3 ho3 hb3 n0 n1 n2
    obtain ⟨n0, n1, n2⟩ := HZ3.out.all
    go_wp2_with fail
    go_at_call 36
    refine (put_is a3 _ c3 H2 H3 _ r.c.length _ rfl HH3.out HB3.out rfl (by omega) (by omega)).mono ?_
    rintro e w4 ⟨v4, rfl, ho4, hx4⟩
    obtain ⟨a4, c4, rfl, hb4⟩ := ho4.byt
    have HX4 : Hid (Ex w w4) := HX3.out.trans hx4
    have HZ4 : Hid (LAt w4 w.heap.size ⟨r.t, r.q, p, r.c.length, cap⟩) := HZ3.out.below hx4
    have HB4 : Hid (Byt w4 a4 c4 H3) := hb4
    clear hx4 ho4 hb4 n0 n1 n2
    obtain ⟨n0, n1, n2⟩ := HZ4.out.all
    go_wp2_with fail
    go_loopw [28, 4, 6] (fun iv bv cv wr => ∃ i : Nat, i ≤ r.c.length ∧ iv = .int .i64 i ∧ (∃ a c n, bv = .slice a n c ∧ Hid (∃ l, n = l.length ∧ l = H3 ++ Rw.encCs (r.c.take i) ∧ Byt wr a c l)) ∧ Hid (Ex w wr)) (fun iv bv cv wr => r.c.length - (intOf iv).toNat)
    case atStart => exact ⟨0, by omega, rfl, ⟨a4, c4, H3.length, rfl, (⟨H3, rfl, by simp [Rw.encCs], HB4.out⟩ : ∃ l, H3.length = l.length ∧ l = H3 ++ Rw.encCs (r.c.take 0) ∧ Byt w4 a4 c4 l)⟩, HX4⟩
    case round =>
      obtain ⟨i, hi, rfl, ⟨ab, cb', nb, rfl, HL⟩, HXr⟩ := hrel
      clear n0 n1 n2
      by_cases hlt : i < r.c.length
      · have hti : (i : Int) < (r.c.length : Int) := by omega
        obtain ⟨b, off, hpp, e0, e1, e2, e3⟩ := RdC.four (HB.out.below HXr.out) hlt
        obtain ⟨d, hd⟩ : ∃ d, r.c[i] = d := ⟨_, rfl⟩
        rw [hd] at e0 e1 e2 e3
        have hmem : d ∈ r.c := by rw [← hd]; exact List.getElem_mem hlt
        obtain ⟨_, _, _, hdn⟩ := HOK.out.2.2 d hmem
        have hdc := HCS.out d hmem
        have hnx : r.c.take (i + 1) = r.c.take i ++ [d] := by rw [List.take_add_one, List.getElem?_eq_getElem hlt, hd]; rfl
        obtain ⟨l, hnl, hl2, hlb⟩ := HL.out
        have hll : l.length ≤ 1000 := by
          rw [hl2, List.length_append]
          have := Rw.encCs_len (l := r.c.take i) (fun c hc => HCS.out c (List.mem_of_mem_take hc))
          have h3 : (r.c.take i).length ≤ 8 := by simp; omega
          omega
        unfold Rw.celOk at hdc
        rw [Bool.and_eq_true, Rw.name_iff, Rw.form_iff] at hdc
        have HNX : Hid (H3 ++ Rw.encCs (r.c.take (i + 1)) = l ++ Rw.encC d) := (by rw [hnx, Rw.encCs_snoc, hl2, List.append_assoc] : H3 ++ Rw.encCs (r.c.take (i + 1)) = l ++ Rw.encC d)
        have HDC : Hid ((d.k = 1 ∨ d.k = 2) ∧ d.col.length ≤ 1000 ∧ d.s.length ≤ 1000) := (by
          obtain ⟨⟨_, _, q1⟩, q2⟩ := hdc
          rcases q2 with ⟨q3, q4⟩ | ⟨q3, q4, q5⟩
          · exact ⟨.inl q3, by omega, by simp [q4]⟩
          · exact ⟨.inr q3, by omega, by omega⟩ : (d.k = 1 ∨ d.k = 2) ∧ d.col.length ≤ 1000 ∧ d.s.length ≤ 1000)
        have HDN : Hid (In64 d.n) := hdn
        obtain ⟨w5, hw5⟩ : ∃ w5, wr.alloc (cb d) = w5 := ⟨_, rfl⟩
        have hx5 : Ex wr w5 := by rw [← hw5]; exact (Below.refl _ _).alloc (Nat.le_refl _) _
        have HX5 : Hid (Ex w w5) := HXr.out.trans hx5
        have HE5 : Hid (EAt w5 wr.heap.size d) := (by rw [← hw5]; exact EAt.new wr d : EAt w5 wr.heap.size d)
        have HB5 : Hid (Byt w5 ab cb' l) := hlb.below hx5
        have HNL : Hid (nb = l.length) := hnl
        obtain ⟨g0, g1, g2, g3⟩ := HE5.out.all
        subst hpp
        clear hd hmem hdn hdc hnx hnl hl2 hlb hx5 HL
        go_wp2_with fail
        go_at_call 38
        refine (putc_is ab _ cb' l d _ HB5.out HNL.out (by omega) HDC.out.1 HDN.out HDC.out.2.1 HDC.out.2.2 _ rfl).mono ?_
        rintro e w6 ⟨v6, rfl, ho6, hx6⟩
        obtain ⟨a6, c6, rfl, hb6⟩ := ho6.byt
        have HX6 : Hid (Ex w w6) := HX5.out.trans hx6
        have HL6 : Hid (∃ l', (l ++ Rw.encC d).length = l'.length ∧ l' = H3 ++ Rw.encCs (r.c.take (i + 1)) ∧ Byt w6 a6 c6 l') := (⟨_, rfl, HNX.out.symm, hb6⟩ : ∃ l', (l ++ Rw.encC d).length = l'.length ∧ l' = H3 ++ Rw.encCs (r.c.take (i + 1)) ∧ Byt w6 a6 c6 l')
        generalize (l ++ Rw.encC d).length = n6 at HL6 ⊢
        clear ho6 hb6 hx6 g0 g1 g2 g3
        go_wp2_with fail
        go_roundw
        case rel => exact ⟨i + 1, by omega, by go_num, ⟨a6, c6, n6, rfl, HL6⟩, HX6⟩
        case measure => simp [intOf]; omega
      · have hti : ¬ (i : Int) < (r.c.length : Int) := by omega
        obtain ⟨l, hnl, hl2, hlb⟩ := HL.out
        rw [List.take_of_length_le (by omega), HR3.out] at hl2
        rw [hl2] at hnl hlb
        have HLB : Hid (Byt wr ab cb' R) := hlb
        have HNL : Hid (nb = R.length) := hnl
        clear hl2
        clear hnl hlb HL
        go_wp2_with fail
        go_ret2
        exact ⟨ab, cb', by rw [HNL.out]; rfl, HLB.out, HXr.out⟩
end Go.Proofs.Ytghnbohplonhoaa
namespace Go.Proofs.Ytghnbohplonhoaa
open Go.RowKit
set_option linter.unusedVariables false
set_option linter.unusedSimpArgs false
/-- A column in a block. -/
def KAt (w : World) (g : Nat) (c : Co) : Prop := w.heap[g]? = some (.cells (kc c).toArray 46 (0, 0))
theorem KAt.lt {w : World} {g : Nat} {c : Co} (h : KAt w g c) : g < w.heap.size := (Array.getElem?_eq_some_iff.1 h).1
theorem KAt.below {w w' : World} {g : Nat} {c : Co} (h : KAt w g c) (hb : Below w.heap.size w w') : KAt w' g c := by
  unfold KAt; rw [hb.block g h.lt]; exact h
theorem KAt.new (w : World) (c : Co) : KAt (w.alloc (kb c)) w.heap.size c := heap_alloc_new w _
theorem KAt.cell {w : World} {g : Nat} {c : Co} (h : KAt w g c) (k : Nat) : w.cell? ⟨g, k, none⟩ = (kc c)[k]? := by
  rw [cell_of_row w g k _ 46 (0, 0) h, List.getElem?_toArray]
theorem KAt.all {w : World} {g : Nat} {c : Co} (h : KAt w g c) : w.cell? ⟨g, 0, none⟩ = some (.string (str c.nm)) ∧ w.cell? ⟨g, 1, none⟩ = some (.int .i64 c.k) := ⟨h.cell 0, h.cell 1⟩
set_option maxHeartbeats 8000000 in
set_option maxRecDepth 100000 in
theorem scols_is (a : Option Addr) (n cap : Nat) (l : List Co) (w : World) (hn : n = l.length) (hB : RdK w a cap l) (hl : ∀ c ∈ l, c.nm.length ≤ maxLen ∧ In64 c.k) (o : Bool) (ho : Rw.colsOk l = o) : Calls Try.prog 21 #[.slice a n cap] w fun e w' => e = .returned (.bool o) ∧ Ex w w' := by
  subst hn
  have h1 := hB.1
  have h2 := hB.2.1
  unfold maxLen at h2
  have HO : Hid (Rw.colsOk l = o) := ho
  have HLl : Hid (∀ c ∈ l, c.nm.length ≤ maxLen ∧ In64 c.k) := hl
  have HB : Hid (RdK w a cap l) := hB
  clear hB ho hl
  go_enter Try.func21, Try.ntmps21
  by_cases h12 : 12 < l.length
  · have t1 : decide (12 < (l.length : Int)) = true := by simp; omega
    have t2 : decide (12 < l.length) = true := by simp; omega
    have HF : Hid (o = false) := (by rw [← HO.out]; unfold Rw.colsOk; rw [show decide (l.length ≤ 12) = false by simp; omega, Bool.and_false] : o = false)
    go_wp2_with fail
    go_ret
    exact ⟨by rw [HF.out]; rfl, Ex.refl w⟩
  have t1 : decide (12 < (l.length : Int)) = false := by simp; omega
  have t2 : decide (12 < l.length) = false := by simp; omega
  go_wp2_with fail
  go_loopw [10, 3, 4] (fun iv jv cv wr => ∃ i : Nat, i ≤ l.length ∧ iv = .int .i64 i ∧ Hid (∀ c ∈ l.take i, Rw.colOk c = true) ∧ Hid (T.Rise ((l.take i).map Co.nm)) ∧ Hid (Ex w wr)) (fun iv jv cv wr => l.length - (intOf iv).toNat)
  case atStart => exact ⟨0, by omega, rfl, (by simp : ∀ c ∈ l.take 0, Rw.colOk c = true), (T.Rise.nil : T.Rise ((l.take 0).map Co.nm)), Ex.refl w⟩
  case round =>
    obtain ⟨i, hi, rfl, HA, HRi, HXr⟩ := hrel
    by_cases hlt : i < l.length
    · have hti : (i : Int) < (l.length : Int) := by omega
      obtain ⟨b, off, hpp, e0, e1⟩ := RdK.two (HB.out.below HXr.out) hlt
      obtain ⟨d, hd⟩ : ∃ d, l[i] = d := ⟨_, rfl⟩
      rw [hd] at e0 e1
      have hmem : d ∈ l := by rw [← hd]; exact List.getElem_mem hlt
      have HD1 : Hid (d.nm.length ≤ maxLen) := (HLl.out d hmem).1
      have hdk := (HLl.out d hmem).2
      unfold In64 at hdk
      have HM : Hid (d ∈ l) := hmem
      have HNX : Hid (l.take (i + 1) = l.take i ++ [d]) := (by rw [List.take_add_one, List.getElem?_eq_getElem hlt, hd]; rfl : l.take (i + 1) = l.take i ++ [d])
      have HDI : Hid (l[i]? = some d) := (by rw [List.getElem?_eq_getElem hlt, hd] : l[i]? = some d)
      obtain ⟨nb, hnb⟩ : ∃ x, Rw.name d.nm = x := ⟨_, rfl⟩
      have HNB : Hid (Rw.name d.nm = nb) := hnb
      obtain ⟨kn, hkn⟩ : ∃ kn, IntKind.u64.wrap d.k = kn := ⟨_, rfl⟩
      obtain ⟨kb', hkb⟩ : ∃ x, (decide (kn = 1) || decide (kn = 2)) = x := ⟨_, rfl⟩
      have HKB : Hid ((decide (kn = 1) || decide (kn = 2)) = kb') := hkb
      have HCC : Hid (Rw.colOk d = (nb && kb')) := (by
        unfold Rw.colOk
        rw [hnb, ← hkb, ← hkn, I.w64]
        congr 2
        · exact decide_eq_decide.2 (by omega)
        · exact decide_eq_decide.2 (by omega) : Rw.colOk d = (nb && kb'))
      subst hpp
      obtain ⟨w1, hw1⟩ : ∃ w1, wr.alloc (kb d) = w1 := ⟨_, rfl⟩
      have hX01 : Ex wr w1 := by rw [← hw1]; exact (Below.refl _ _).alloc (Nat.le_refl _) _
      have HX1 : Hid (Ex w w1) := HXr.out.trans hX01
      have hE1 : KAt w1 wr.heap.size d := by rw [← hw1]; exact KAt.new wr d
      obtain ⟨x0, x1⟩ := hE1.all
      clear hd hmem hnb hkb hE1 hX01 hdk
      cases nb with
      | false =>
        have HF : Hid (o = false) := (by rw [← HO.out]; exact Rw.cols_bad HM.out HCC.out : o = false)
        go_upto_region 6 with fail
        have hre := Ex.refl
        refine Rg.wp_rows [.inl (.pointer (some ⟨wr.heap.size, 0, none⟩)), .inl (.string (str d.nm)), .inl (.bool false), .inl (.bool true), .inl (.bool true), .inl undef, .inl undef, .inl undef, .inl undef, .inl undef, .inl (.bool true), .inl (.bool true), .inl undef, .inl undef, .inl undef, .inl undef, .inl undef, .inl undef, .inl undef, .inl undef, .inl undef, .inl undef, .inl undef, .inl undef, .inl undef, .inl (.bool true)] (Ex w1) Ex 42 (by kernel_rfl) rfl (by kernel_rfl) ?st hre (Ex.drew _) ?goods ?fin
        case st => exact trivial
        case goods =>
          refine Rg.goods_cons (Rg.good_field hre rfl rfl rfl (fun wx hC => by go_simp)) ?_
          refine Rg.goods_cons (Rg.good_load hre rfl rfl rfl (fun wx hC => by have hz := cell_ex x0 hC; go_simp)) ?_
          refine Rg.goods_cons (Rg.good_call1 Try.func30 (by kernel_rfl) rfl rfl rfl (by rintro u wx hC rfl; exact val_row (sname_is d.nm wx HD1.out false HNB.out) hC)) ?_
          refine Rg.goods_cons (Rg.good_un hre rfl rfl rfl (fun w => by go_simp)) ?_
          refine Rg.goods_cons (Rg.good_move hre rfl rfl rfl) ?_
          refine Rg.goods_cons (Rg.good_skip rfl) ?_
          refine Rg.goods_cons (Rg.good_skip rfl) ?_
          refine Rg.goods_cons (Rg.good_skip rfl) ?_
          refine Rg.goods_cons (Rg.good_skip rfl) ?_
          refine Rg.goods_cons (Rg.good_skip rfl) ?_
          refine Rg.goods_cons (Rg.good_pick true hre rfl rfl rfl rfl) ?_
          refine Rg.goods_cons (Rg.good_move hre rfl rfl rfl) ?_
          refine Rg.goods_cons (Rg.good_skip rfl) ?_
          refine Rg.goods_cons (Rg.good_skip rfl) ?_
          refine Rg.goods_cons (Rg.good_skip rfl) ?_
          refine Rg.goods_cons (Rg.good_skip rfl) ?_
          refine Rg.goods_cons (Rg.good_skip rfl) ?_
          refine Rg.goods_cons (Rg.good_skip rfl) ?_
          refine Rg.goods_cons (Rg.good_skip rfl) ?_
          refine Rg.goods_cons (Rg.good_skip rfl) ?_
          refine Rg.goods_cons (Rg.good_skip rfl) ?_
          refine Rg.goods_cons (Rg.good_skip rfl) ?_
          refine Rg.goods_cons (Rg.good_skip rfl) ?_
          refine Rg.goods_cons (Rg.good_skip rfl) ?_
          refine Rg.goods_cons (Rg.good_skip rfl) ?_
          refine Rg.goods_cons (Rg.good_pick true hre rfl rfl rfl rfl) ?_
          exact Rg.goods_nil
        case fin =>
          intro wx hx
          simp only [Rg.later, Act.put, List.setIfInBounds_toArray, List.set_cons_succ, List.set_cons_zero]
          go_wp2_with fail
          go_ret
          exact ⟨by rw [HF.out]; rfl, HX1.out.trans hx⟩
      | true =>
        cases kb' with
        | false =>
          have HF : Hid (o = false) := (by rw [← HO.out]; exact Rw.cols_bad HM.out HCC.out : o = false)
          go_upto_region 6 with fail
          have hre := Ex.refl
          refine Rg.wp_rows [.inl (.pointer (some ⟨wr.heap.size, 0, none⟩)), .inl (.string (str d.nm)), .inl (.bool true), .inl (.bool false), .inl (.bool false), .inl (.pointer (some ⟨wr.heap.size, 1, none⟩)), .inl (.int .i64 d.k), .inl (.int .u64 kn), .inl (.bool false), .inl (.bool true), .inl (.bool true), .inl (.bool true), .inl undef, .inl undef, .inl undef, .inl undef, .inl undef, .inl undef, .inl undef, .inl undef, .inl undef, .inl undef, .inl undef, .inl undef, .inl undef, .inl (.bool true)] (Ex w1) Ex 42 (by kernel_rfl) rfl (by kernel_rfl) ?st hre (Ex.drew _) ?goods ?fin
          case st => exact trivial
          case goods =>
            refine Rg.goods_cons (Rg.good_field hre rfl rfl rfl (fun wx hC => by go_simp)) ?_
            refine Rg.goods_cons (Rg.good_load hre rfl rfl rfl (fun wx hC => by have hz := cell_ex x0 hC; go_simp)) ?_
            refine Rg.goods_cons (Rg.good_call1 Try.func30 (by kernel_rfl) rfl rfl rfl (by rintro u wx hC rfl; exact val_row (sname_is d.nm wx HD1.out true HNB.out) hC)) ?_
            refine Rg.goods_cons (Rg.good_un hre rfl rfl rfl (fun w => by go_simp)) ?_
            refine Rg.goods_cons (Rg.good_move hre rfl rfl rfl) ?_
            refine Rg.goods_cons (Rg.good_field hre rfl rfl rfl (fun wx hC => by go_simp)) ?_
            refine Rg.goods_cons (Rg.good_load hre rfl rfl rfl (fun wx hC => by have hz := cell_ex x1 hC; go_simp)) ?_
            refine Rg.goods_cons (Rg.good_conv hre rfl rfl (by rintro u wx hC rfl; go_simp)) ?_
            refine Rg.goods_cons (Rg.good_call1 Try.func51 (by kernel_rfl) rfl rfl rfl (by rintro u wx hC rfl; exact val_row (rkind_is kn wx false HKB.out) hC)) ?_
            refine Rg.goods_cons (Rg.good_un hre rfl rfl rfl (fun w => by go_simp)) ?_
            refine Rg.goods_cons (Rg.good_pick false hre rfl rfl rfl rfl) ?_
            refine Rg.goods_cons (Rg.good_move hre rfl rfl rfl) ?_
            refine Rg.goods_cons (Rg.good_skip rfl) ?_
            refine Rg.goods_cons (Rg.good_skip rfl) ?_
            refine Rg.goods_cons (Rg.good_skip rfl) ?_
            refine Rg.goods_cons (Rg.good_skip rfl) ?_
            refine Rg.goods_cons (Rg.good_skip rfl) ?_
            refine Rg.goods_cons (Rg.good_skip rfl) ?_
            refine Rg.goods_cons (Rg.good_skip rfl) ?_
            refine Rg.goods_cons (Rg.good_skip rfl) ?_
            refine Rg.goods_cons (Rg.good_skip rfl) ?_
            refine Rg.goods_cons (Rg.good_skip rfl) ?_
            refine Rg.goods_cons (Rg.good_skip rfl) ?_
            refine Rg.goods_cons (Rg.good_skip rfl) ?_
            refine Rg.goods_cons (Rg.good_skip rfl) ?_
            refine Rg.goods_cons (Rg.good_pick true hre rfl rfl rfl rfl) ?_
            exact Rg.goods_nil
          case fin =>
            intro wx hx
            simp only [Rg.later, Act.put, List.setIfInBounds_toArray, List.set_cons_succ, List.set_cons_zero]
            go_wp2_with fail
            go_ret
            exact ⟨by rw [HF.out]; rfl, HX1.out.trans hx⟩
        | true =>
          have HCB : Hid (Rw.colOk d = true) := HCC
          by_cases hi0 : i = 0
          · have HR2 : Hid (T.Rise ((l.take (i + 1)).map Co.nm)) := (by rw [HNX.out, hi0]; simp [T.Rise] : T.Rise ((l.take (i + 1)).map Co.nm))
            have HA2 : Hid (∀ c ∈ l.take (i + 1), Rw.colOk c = true) := (by
              intro c hc
              rw [HNX.out] at hc
              rcases List.mem_append.1 hc with h | h
              · exact HA.out c h
              · rw [List.mem_singleton] at h
                subst h
                exact HCB.out : ∀ c ∈ l.take (i + 1), Rw.colOk c = true)
            have hi1 : i ≤ 0 := by omega
            clear hi0
            go_upto_region 6 with fail
            have hre := Ex.refl
            refine Rg.wp_rows [.inl (.pointer (some ⟨wr.heap.size, 0, none⟩)), .inl (.string (str d.nm)), .inl (.bool true), .inl (.bool false), .inl (.bool false), .inl (.pointer (some ⟨wr.heap.size, 1, none⟩)), .inl (.int .i64 d.k), .inl (.int .u64 kn), .inl (.bool true), .inl (.bool false), .inl (.bool false), .inl (.bool false), .inl (.int .i64 i), .inl (.bool false), .inl (.bool false), .inl undef, .inl undef, .inl undef, .inl undef, .inl undef, .inl undef, .inl undef, .inl undef, .inl undef, .inl (.bool false), .inl (.bool false)] (Ex w1) Ex 42 (by kernel_rfl) rfl (by kernel_rfl) ?st hre (Ex.drew _) ?goods ?fin
            case st => exact trivial
            case goods =>
              refine Rg.goods_cons (Rg.good_field hre rfl rfl rfl (fun wx hC => by go_simp)) ?_
              refine Rg.goods_cons (Rg.good_load hre rfl rfl rfl (fun wx hC => by have hz := cell_ex x0 hC; go_simp)) ?_
              refine Rg.goods_cons (Rg.good_call1 Try.func30 (by kernel_rfl) rfl rfl rfl (by rintro u wx hC rfl; exact val_row (sname_is d.nm wx HD1.out true HNB.out) hC)) ?_
              refine Rg.goods_cons (Rg.good_un hre rfl rfl rfl (fun w => by go_simp)) ?_
              refine Rg.goods_cons (Rg.good_move hre rfl rfl rfl) ?_
              refine Rg.goods_cons (Rg.good_field hre rfl rfl rfl (fun wx hC => by go_simp)) ?_
              refine Rg.goods_cons (Rg.good_load hre rfl rfl rfl (fun wx hC => by have hz := cell_ex x1 hC; go_simp)) ?_
              refine Rg.goods_cons (Rg.good_conv hre rfl rfl (by rintro u wx hC rfl; go_simp)) ?_
              refine Rg.goods_cons (Rg.good_call1 Try.func51 (by kernel_rfl) rfl rfl rfl (by rintro u wx hC rfl; exact val_row (rkind_is kn wx true HKB.out) hC)) ?_
              refine Rg.goods_cons (Rg.good_un hre rfl rfl rfl (fun w => by go_simp)) ?_
              refine Rg.goods_cons (Rg.good_pick false hre rfl rfl rfl rfl) ?_
              refine Rg.goods_cons (Rg.good_move hre rfl rfl rfl) ?_
              refine Rg.goods_cons (Rg.good_move hre rfl rfl rfl) ?_
              refine Rg.goods_cons (Rg.good_bin hre rfl rfl rfl rfl (fun _ => rfl) (fun w => by simp [go_sem]; omega)) ?_
              refine Rg.goods_cons (Rg.good_move hre rfl rfl rfl) ?_
              refine Rg.goods_cons (Rg.good_skip rfl) ?_
              refine Rg.goods_cons (Rg.good_skip rfl) ?_
              refine Rg.goods_cons (Rg.good_skip rfl) ?_
              refine Rg.goods_cons (Rg.good_skip rfl) ?_
              refine Rg.goods_cons (Rg.good_skip rfl) ?_
              refine Rg.goods_cons (Rg.good_skip rfl) ?_
              refine Rg.goods_cons (Rg.good_skip rfl) ?_
              refine Rg.goods_cons (Rg.good_skip rfl) ?_
              refine Rg.goods_cons (Rg.good_skip rfl) ?_
              refine Rg.goods_cons (Rg.good_pick false hre rfl rfl rfl rfl) ?_
              refine Rg.goods_cons (Rg.good_pick false hre rfl rfl rfl rfl) ?_
              exact Rg.goods_nil
            case fin =>
              intro wx hx
              simp only [Rg.later, Act.put, List.setIfInBounds_toArray, List.set_cons_succ, List.set_cons_zero]
              have HX9 : Hid (Ex w wx) := HX1.out.trans hx
              go_wp2_with fail
              go_roundw
              case rel => exact ⟨i + 1, by omega, by go_num, HA2, HR2, HX9⟩
              case measure => simp [intOf]; omega
          · obtain ⟨k, rfl⟩ : ∃ k, i = k + 1 := ⟨i - 1, by omega⟩
            obtain ⟨b', off', hpp', e0', e1'⟩ := RdK.two (HB.out.below HX1.out) (show k < l.length by omega)
            obtain ⟨c, hc⟩ : ∃ c, l[k] = c := ⟨_, rfl⟩
            rw [hc] at e0'
            have HCK : Hid (l[k]? = some c) := (by rw [List.getElem?_eq_getElem (by omega), hc] : l[k]? = some c)
            have zc := str_toList c.nm
            have zd := str_toList d.nm
            simp only [Option.some.injEq, Addr.mk.injEq, and_true] at hpp'
            obtain ⟨rfl, rfl⟩ := hpp'
            have ew0 : w1.cell? ⟨b, off + k * 2, none⟩ = some (.string (str c.nm)) := e0'
            have hgg := le_form d.nm c.nm
            have hck0 : (k : Int) < l.length := by omega
            have HA2 : Hid (∀ c ∈ l.take (k + 1 + 1), Rw.colOk c = true) := (by
              intro c hc
              rw [HNX.out] at hc
              rcases List.mem_append.1 hc with h | h
              · exact HA.out c h
              · rw [List.mem_singleton] at h
                subst h
                exact HCB.out : ∀ c ∈ l.take (k + 1 + 1), Rw.colOk c = true)
            clear hc e0' e1' hi0
            cases hcd : T.lt c.nm d.nm with
            | true =>
              rw [hcd] at hgg
              simp only [Bool.not_true] at hgg
              have HR2 : Hid (T.Rise ((l.take (k + 1 + 1)).map Co.nm)) := (by
                rw [HNX.out, List.map_append]
                refine T.rise_snoc HRi.out fun y hy => ?_
                have hlen : ((l.take (k + 1)).map Co.nm).length - 1 = k := by simp; omega
                rw [hlen, List.getElem?_map, List.getElem?_take, if_pos (by omega), HCK.out] at hy
                simp at hy
                rw [← hy]; exact hcd : T.Rise ((l.take (k + 1 + 1)).map Co.nm))
              clear hcd
              go_upto_region 6 with fail
              have hre := Ex.refl
              refine Rg.wp_rows [.inl (.pointer (some ⟨wr.heap.size, 0, none⟩)), .inl (.string (str d.nm)), .inl (.bool true), .inl (.bool false), .inl (.bool false), .inl (.pointer (some ⟨wr.heap.size, 1, none⟩)), .inl (.int .i64 d.k), .inl (.int .u64 kn), .inl (.bool true), .inl (.bool false), .inl (.bool false), .inl (.bool false), .inl (.int .i64 (k + 1 : Nat)), .inl (.bool true), .inl (.bool true), .inl (.pointer (some ⟨wr.heap.size, 0, none⟩)), .inl (.string (str d.nm)), .inl (.slice (some ⟨b, off, none⟩) l.length cap), .inl (.int .i64 (k + 1 : Nat)), .inl (.int .i64 k), .inl (.pointer (some ⟨b, off + k * 2, none⟩)), .inl (.pointer (some ⟨b, off + k * 2, none⟩)), .inl (.string (str c.nm)), .inl (.bool false), .inl (.bool false), .inl (.bool false)] (Ex w1) Ex 42 (by kernel_rfl) rfl (by kernel_rfl) ?st hre (Ex.drew _) ?goods ?fin
              case st => exact trivial
              case goods =>
                refine Rg.goods_cons (Rg.good_field hre rfl rfl rfl (fun wx hC => by go_simp)) ?_
                refine Rg.goods_cons (Rg.good_load hre rfl rfl rfl (fun wx hC => by have hz := cell_ex x0 hC; go_simp)) ?_
                refine Rg.goods_cons (Rg.good_call1 Try.func30 (by kernel_rfl) rfl rfl rfl (by rintro u wx hC rfl; exact val_row (sname_is d.nm wx HD1.out true HNB.out) hC)) ?_
                refine Rg.goods_cons (Rg.good_un hre rfl rfl rfl (fun w => by go_simp)) ?_
                refine Rg.goods_cons (Rg.good_move hre rfl rfl rfl) ?_
                refine Rg.goods_cons (Rg.good_field hre rfl rfl rfl (fun wx hC => by go_simp)) ?_
                refine Rg.goods_cons (Rg.good_load hre rfl rfl rfl (fun wx hC => by have hz := cell_ex x1 hC; go_simp)) ?_
                refine Rg.goods_cons (Rg.good_conv hre rfl rfl (by rintro u wx hC rfl; go_simp)) ?_
                refine Rg.goods_cons (Rg.good_call1 Try.func51 (by kernel_rfl) rfl rfl rfl (by rintro u wx hC rfl; exact val_row (rkind_is kn wx true HKB.out) hC)) ?_
                refine Rg.goods_cons (Rg.good_un hre rfl rfl rfl (fun w => by go_simp)) ?_
                refine Rg.goods_cons (Rg.good_pick false hre rfl rfl rfl rfl) ?_
                refine Rg.goods_cons (Rg.good_move hre rfl rfl rfl) ?_
                refine Rg.goods_cons (Rg.good_move hre rfl rfl rfl) ?_
                refine Rg.goods_cons (Rg.good_bin hre rfl rfl rfl rfl (fun _ => rfl) (fun w => by first | (go_simp; done) | (simp [go_sem]; omega))) ?_
                refine Rg.goods_cons (Rg.good_move hre rfl rfl rfl) ?_
                refine Rg.goods_cons (Rg.good_field hre rfl rfl rfl (fun wx hC => by go_simp)) ?_
                refine Rg.goods_cons (Rg.good_load hre rfl rfl rfl (fun wx hC => by have hz := cell_ex x0 hC; go_simp)) ?_
                refine Rg.goods_cons (Rg.good_move hre rfl rfl rfl) ?_
                refine Rg.goods_cons (Rg.good_move hre rfl rfl rfl) ?_
                refine Rg.goods_cons (Rg.good_bin hre rfl rfl rfl rfl (fun _ => rfl) (fun w => by first | (go_simp; done) | (go_simp; rw [I.wi64 _ (by omega) (by omega)]; done) | (go_simp; rw [I.wi64 _ (by omega) (by omega)]; omega))) ?_
                refine Rg.goods_cons (Rg.good_index hre rfl rfl rfl rfl (fun wx hC => by first | (go_simp; done) | (go_simp; omega))) ?_
                refine Rg.goods_cons (Rg.good_field hre rfl rfl rfl (fun wx hC => by go_simp)) ?_
                refine Rg.goods_cons (Rg.good_load hre rfl rfl rfl (fun wx hC => by have hz := cell_ex ew0 hC; go_simp)) ?_
                refine Rg.goods_cons (Rg.good_bin hre rfl rfl rfl rfl (fun _ => rfl) (fun w => by first | (go_simp; done) | (go_simp; exact hgg))) ?_
                refine Rg.goods_cons (Rg.good_pick true hre rfl rfl rfl rfl) ?_
                refine Rg.goods_cons (Rg.good_pick false hre rfl rfl rfl rfl) ?_
                exact Rg.goods_nil
              case fin =>
                intro wx hx
                simp only [Rg.later, Act.put, List.setIfInBounds_toArray, List.set_cons_succ, List.set_cons_zero]
                have HX9 : Hid (Ex w wx) := HX1.out.trans hx
                go_wp2_with fail
                go_roundw
                case rel => exact ⟨k + 1 + 1, by omega, by go_num, HA2, HR2, HX9⟩
                case measure => simp [intOf]; omega
            | false =>
              rw [hcd] at hgg
              simp only [Bool.not_false] at hgg
              have HF : Hid (o = false) := (by rw [← HO.out]; exact Rw.cols_down HCK.out HDI.out hcd : o = false)
              clear hcd
              go_upto_region 6 with fail
              have hre := Ex.refl
              refine Rg.wp_rows [.inl (.pointer (some ⟨wr.heap.size, 0, none⟩)), .inl (.string (str d.nm)), .inl (.bool true), .inl (.bool false), .inl (.bool false), .inl (.pointer (some ⟨wr.heap.size, 1, none⟩)), .inl (.int .i64 d.k), .inl (.int .u64 kn), .inl (.bool true), .inl (.bool false), .inl (.bool false), .inl (.bool false), .inl (.int .i64 (k + 1 : Nat)), .inl (.bool true), .inl (.bool true), .inl (.pointer (some ⟨wr.heap.size, 0, none⟩)), .inl (.string (str d.nm)), .inl (.slice (some ⟨b, off, none⟩) l.length cap), .inl (.int .i64 (k + 1 : Nat)), .inl (.int .i64 k), .inl (.pointer (some ⟨b, off + k * 2, none⟩)), .inl (.pointer (some ⟨b, off + k * 2, none⟩)), .inl (.string (str c.nm)), .inl (.bool true), .inl (.bool true), .inl (.bool true)] (Ex w1) Ex 42 (by kernel_rfl) rfl (by kernel_rfl) ?st hre (Ex.drew _) ?goods ?fin
              case st => exact trivial
              case goods =>
                refine Rg.goods_cons (Rg.good_field hre rfl rfl rfl (fun wx hC => by go_simp)) ?_
                refine Rg.goods_cons (Rg.good_load hre rfl rfl rfl (fun wx hC => by have hz := cell_ex x0 hC; go_simp)) ?_
                refine Rg.goods_cons (Rg.good_call1 Try.func30 (by kernel_rfl) rfl rfl rfl (by rintro u wx hC rfl; exact val_row (sname_is d.nm wx HD1.out true HNB.out) hC)) ?_
                refine Rg.goods_cons (Rg.good_un hre rfl rfl rfl (fun w => by go_simp)) ?_
                refine Rg.goods_cons (Rg.good_move hre rfl rfl rfl) ?_
                refine Rg.goods_cons (Rg.good_field hre rfl rfl rfl (fun wx hC => by go_simp)) ?_
                refine Rg.goods_cons (Rg.good_load hre rfl rfl rfl (fun wx hC => by have hz := cell_ex x1 hC; go_simp)) ?_
                refine Rg.goods_cons (Rg.good_conv hre rfl rfl (by rintro u wx hC rfl; go_simp)) ?_
                refine Rg.goods_cons (Rg.good_call1 Try.func51 (by kernel_rfl) rfl rfl rfl (by rintro u wx hC rfl; exact val_row (rkind_is kn wx true HKB.out) hC)) ?_
                refine Rg.goods_cons (Rg.good_un hre rfl rfl rfl (fun w => by go_simp)) ?_
                refine Rg.goods_cons (Rg.good_pick false hre rfl rfl rfl rfl) ?_
                refine Rg.goods_cons (Rg.good_move hre rfl rfl rfl) ?_
                refine Rg.goods_cons (Rg.good_move hre rfl rfl rfl) ?_
                refine Rg.goods_cons (Rg.good_bin hre rfl rfl rfl rfl (fun _ => rfl) (fun w => by first | (go_simp; done) | (simp [go_sem]; omega))) ?_
                refine Rg.goods_cons (Rg.good_move hre rfl rfl rfl) ?_
                refine Rg.goods_cons (Rg.good_field hre rfl rfl rfl (fun wx hC => by go_simp)) ?_
                refine Rg.goods_cons (Rg.good_load hre rfl rfl rfl (fun wx hC => by have hz := cell_ex x0 hC; go_simp)) ?_
                refine Rg.goods_cons (Rg.good_move hre rfl rfl rfl) ?_
                refine Rg.goods_cons (Rg.good_move hre rfl rfl rfl) ?_
                refine Rg.goods_cons (Rg.good_bin hre rfl rfl rfl rfl (fun _ => rfl) (fun w => by first | (go_simp; done) | (go_simp; rw [I.wi64 _ (by omega) (by omega)]; done) | (go_simp; rw [I.wi64 _ (by omega) (by omega)]; omega))) ?_
                refine Rg.goods_cons (Rg.good_index hre rfl rfl rfl rfl (fun wx hC => by first | (go_simp; done) | (go_simp; omega))) ?_
                refine Rg.goods_cons (Rg.good_field hre rfl rfl rfl (fun wx hC => by go_simp)) ?_
                refine Rg.goods_cons (Rg.good_load hre rfl rfl rfl (fun wx hC => by have hz := cell_ex ew0 hC; go_simp)) ?_
                refine Rg.goods_cons (Rg.good_bin hre rfl rfl rfl rfl (fun _ => rfl) (fun w => by first | (go_simp; done) | (go_simp; exact hgg))) ?_
                refine Rg.goods_cons (Rg.good_pick true hre rfl rfl rfl rfl) ?_
                refine Rg.goods_cons (Rg.good_pick false hre rfl rfl rfl rfl) ?_
                exact Rg.goods_nil
              case fin =>
                intro wx hx
                simp only [Rg.later, Act.put, List.setIfInBounds_toArray, List.set_cons_succ, List.set_cons_zero]
                go_wp2_with fail
                go_ret
                exact ⟨by rw [HF.out]; rfl, HX1.out.trans hx⟩
    · have hti : ¬ (i : Int) < (l.length : Int) := by omega
      have HF : Hid (o = true) := (by rw [← HO.out, Rw.colsOk_iff]; have h1 := HA.out; have h2 := HRi.out; rw [List.take_of_length_le (by omega)] at h1 h2; exact ⟨h1, h2, by omega⟩ : o = true)
      go_wp2_with fail
      go_ret
      exact ⟨by rw [HF.out]; rfl, HXr.out⟩
end Go.Proofs.Ytghnbohplonhoaa
namespace Go.Proofs.Ytghnbohplonhoaa
open Go.RowKit
set_option linter.unusedVariables false
set_option linter.unusedSimpArgs false
namespace Rw
/-- The three numbers at a row's head, then what is asked of them. -/
def hd1 (b : List UInt8) : Nat → List Nat → Int → Rw × Nat × Nat × Nat
  | 0, L, k => if 1073741824 < L.getD 1 0 ∨ 8 < L.getD 2 0 then (zero, 0, 0, 12) else (⟨M.zag (L.getD 0 0 : Int), (L.getD 1 0 : Int), []⟩, L.getD 2 0, k.toNat, 0)
  | n + 1, L, k => if (M.get b k).2.2 ≠ 0 then (zero, 0, 0, (M.get b k).2.2) else hd1 b n (L ++ [(M.get b k).1]) (M.get b k).2.1
theorem hd1_bad {b : List UInt8} {n : Nat} {L : List Nat} {k : Int} (h : (M.get b k).2.2 ≠ 0) : hd1 b (n + 1) L k = (zero, 0, 0, (M.get b k).2.2) := by rw [hd1, if_pos h]
theorem hd1_step {b : List UInt8} {n : Nat} {L : List Nat} {k : Int} (h : (M.get b k).2.2 = 0) : hd1 b (n + 1) L k = hd1 b n (L ++ [(M.get b k).1]) (M.get b k).2.1 := by rw [hd1, if_neg (by simp [h])]
/-- What is left, with n cells to come and the cells o read. -/
def tlr (b : List UInt8) (t q : Int) (n k : Nat) (o : List Ce) : Rw × Nat × Nat :=
  if (rdCs b n k o).2.2 ≠ 0 then (zero, 0, (rdCs b n k o).2.2) else fin ⟨t, q, (rdCs b n k o).1⟩ (rdCs b n k o).2.1
theorem tlr_zero (b : List UInt8) (t q : Int) (k : Nat) (o : List Ce) : tlr b t q 0 k o = fin ⟨t, q, o⟩ k := by
  unfold tlr; rw [rdCs, if_neg (by simp)]
theorem tlr_step {b : List UInt8} {t q : Int} {n k : Nat} {o : List Ce} {c : Ce} {k' : Nat} (h : rdC b k = (c, k', 0)) : tlr b t q (n + 1) k o = tlr b t q n k' (o ++ [c]) := by
  unfold tlr; rw [rdCs, h]; simp
theorem tlr_bad {b : List UInt8} {t q : Int} {n k : Nat} {o : List Ce} {e : Nat} (h : (rdC b k).2.2 = e) (he : e ≠ 0) : tlr b t q (n + 1) k o = (zero, 0, e) := by
  unfold tlr
  rw [rdCs, h, if_pos he]
  simp [he]
theorem dec1_hd (b : List UInt8) : ∀ (n : Nat) (L : List Nat) (k : Int) (r : Rw) (m k' e : Nat), hd1 b n L k = (r, m, k', e) → dec1 b n L k = if e ≠ 0 then (zero, 0, e) else tlr b r.t r.q m k' []
  | 0, L, k, r, m, k', e, h => by
    unfold hd1 at h
    unfold dec1 dec3
    split at h
    · rename_i hb
      simp only [Prod.mk.injEq] at h
      obtain ⟨rfl, rfl, rfl, rfl⟩ := h
      rw [if_pos hb, if_pos (by simp)]
    · rename_i hb
      simp only [Prod.mk.injEq] at h
      obtain ⟨rfl, rfl, rfl, rfl⟩ := h
      rw [if_neg hb, if_neg (show ¬ (0 : Nat) ≠ 0 by simp)]
      rfl
  | n + 1, L, k, r, m, k', e, h => by
    by_cases he : (M.get b k).2.2 = 0
    · rw [hd1_step he] at h
      rw [dec1_step he]
      exact dec1_hd b n _ _ r m k' e h
    · rw [hd1_bad he] at h
      rw [dec1_bad he]
      simp only [Prod.mk.injEq] at h
      obtain ⟨rfl, rfl, rfl, rfl⟩ := h
      rw [if_pos he]
theorem hd1_in (b : List UInt8) : ∀ (n : Nat) (L : List Nat) (k : Int), (∀ x ∈ L, x < 18446744073709551616) → In64 (hd1 b n L k).1.t ∧ In64 (hd1 b n L k).1.q ∧ (hd1 b n L k).2.1 ≤ 8
  | 0, L, k, h => by
    have h0 : L.getD 0 0 < 18446744073709551616 := by
      cases L with
      | nil => simp
      | cons x _ => exact h x (by simp)
    unfold hd1
    split
    · exact ⟨⟨by simp [zero], by simp [zero]⟩, ⟨by simp [zero], by simp [zero]⟩, by simp⟩
    · rename_i hb
      refine ⟨zag_in h0, ?_, ?_⟩
      · show In64 _
        unfold In64
        simp only
        omega
      · simp only
        omega
  | n + 1, L, k, h => by
    unfold hd1
    split
    · exact ⟨⟨by simp [zero], by simp [zero]⟩, ⟨by simp [zero], by simp [zero]⟩, by simp⟩
    · refine hd1_in b n _ _ fun x hx => ?_
      rcases List.mem_append.1 hx with h1 | h1
      · exact h x h1
      · rw [List.mem_singleton] at h1; subst h1; exact (M.get_all b k).1
/-- Of a cell that is read. -/
def CeIn (c : Ce) : Prop := c.col.length ≤ maxLen ∧ c.s.length ≤ maxLen ∧ In64 c.k ∧ In64 c.n
theorem rdC_in (b : List UInt8) (k : Nat) : CeIn (rdC b k).1 := by
  have h0 : CeIn none_ := ⟨by simp [none_], by simp [none_], ⟨by simp [none_], by simp [none_]⟩, ⟨by simp [none_], by simp [none_]⟩⟩
  have h1 := getText_len b (k : Int) 12
  unfold rdC
  split
  · exact h0
  · split
    · exact h0
    · split
      · exact h0
      · split
        · split
          · exact h0
          · refine ⟨?_, by simp, ⟨by simp, by simp⟩, zag_in (M.get_all _ _).1⟩
            simp only [maxLen] at h1 ⊢; omega
        · split
          · exact h0
          · have h2 := getText_len b ((M.get b ((M.getText b k 12).2.1 : Int)).2.1 : Int) 40
            refine ⟨?_, ?_, ⟨by simp, by simp⟩, ⟨by simp, by simp⟩⟩
            · simp only [maxLen] at h1 ⊢; omega
            · simp only [maxLen] at h2 ⊢; omega
end Rw
theorem res_row4 {fn : Func} {tmps : Array Value} {w9 : World} {g i j k m : Nat} {v : RV} {d e f : Value} (hfn : fn.results = #[ResultVar.cell i 28, ResultVar.tmp j, ResultVar.tmp k, ResultVar.tmp m]) (ht : tmps.getD i undef = .pointer (some ⟨g, 0, none⟩)) (hj : tmps.getD j undef = d) (hk : tmps.getD k undef = e) (hm : tmps.getD m undef = f) (h : LAt w9 g v) : (results fn tmps).run Try.prog w9 = .ok (.tuple #[rvv v, d, e, f]) w9 := by
  have hl := load_row h
  have ht' : tmps[i]?.getD undef = .pointer (some ⟨g, 0, none⟩) := by simpa using ht
  have hj' : tmps[j]?.getD undef = d := by simpa using hj
  have hk' : tmps[k]?.getD undef = e := by simpa using hk
  have hm' : tmps[m]?.getD undef = f := by simpa using hm
  simp [results, hfn, ht', hj', hk', hm', asAddr, Sem.run_bind, Result.andThen, hl]
theorem res_cell3 {fn : Func} {tmps : Array Value} {w9 : World} {g i j k : Nat} {c : Ce} {d e : Value} (hfn : fn.results = #[ResultVar.cell i 25, ResultVar.tmp j, ResultVar.tmp k]) (ht : tmps.getD i undef = .pointer (some ⟨g, 0, none⟩)) (hj : tmps.getD j undef = d) (hk : tmps.getD k undef = e) (h : EAt w9 g c) : (results fn tmps).run Try.prog w9 = .ok (.tuple #[cv c, d, e]) w9 := by
  have hl := load_cell h
  have ht' : tmps[i]?.getD undef = .pointer (some ⟨g, 0, none⟩) := by simpa using ht
  have hj' : tmps[j]?.getD undef = d := by simpa using hj
  have hk' : tmps[k]?.getD undef = e := by simpa using hk
  simp [results, hfn, ht', hj', hk', asAddr, Sem.run_bind, Result.andThen, hl]
theorem Rg.Fr.good_brow {ops : Array Oper} {specs : List Rg.Spec} {a0 : Act} {C : World → Prop} {o : Oper} {x y : Operand} {t q : Int} (ho : o.op = .build 28 #[(0, x), (1, y)]) (hg : Rg.guardV ops specs a0 o = some true) (hx : Rg.argS ops specs a0 x = .inl (.int .i64 t)) (hy : Rg.argS ops specs a0 y = .inl (.int .i64 q)) :
    Rg.GoodOp Try.prog ops specs a0 C (fun w w' => w' = w) o (.inl (rvv ⟨t, q, none, 0, 0⟩)) :=
  Rg.good_val (fun _ => rfl) hg fun a w hC hh => by
    have h1 := hh x (by rw [ho]; simp [Op.operands])
    have h2 := hh y (by rw [ho]; simp [Op.operands])
    rw [hx] at h1
    rw [hy] at h2
    simp only [Rg.Spec.ok] at h1 h2
    refine ⟨_, ?_, rfl⟩
    generalize a.eval = ρ at h1 h2 ⊢
    unfold execOp
    rw [ho]
    simp [h1, h2, go_sem, rvv, sv]
set_option maxHeartbeats 8000000 in
set_option maxRecDepth 100000 in
theorem ghead_is (a : Option Addr) (len cap : Nat) (b : List UInt8) (p : Int) (w : World) (hlen : len = b.length) (hB : Byt w a cap b) (r : Rw) (m k0 e0 : Nat) (hr : Rw.hd1 b 3 [] p = (r, m, k0, e0)) :
    Calls Try.prog 44 #[.slice a len cap, .int .i64 p] w fun e w' => e = .returned (.tuple #[rvv ⟨r.t, r.q, none, 0, 0⟩, .int .i64 m, .int .i64 k0, .int .i64 e0]) ∧ Ex w w' := by
  subst hlen
  have HB : Hid (Byt w a cap b) := hB
  have hcl := hB.1
  have hcm := hB.2.1
  unfold maxLen at hcm
  have Hr : Hid (Rw.hd1 b 3 [] p = (r, m, k0, e0)) := hr
  clear hB hr
  go_enter Try.func44, Try.ntmps44
  go_wp2_with fail
  go_loopw [13, 9, 10, 11] (fun iv kv xv ev wr => ∃ (i : Nat) (L : List Nat) (k : Int), i ≤ 3 ∧ iv = .int .i64 i ∧ kv = .int .i64 k ∧ Hid (L.length = i) ∧ Hid (0 < i → 0 ≤ k) ∧ Hid (∀ x ∈ L, x < 18446744073709551616) ∧ Hid (Rw.hd1 b (3 - i) L k = (r, m, k0, e0)) ∧ Hid (RowAt n64 77 wr (w.heap.size + 1) (L ++ List.replicate (3 - i) 0)) ∧ Hid (LAt wr w.heap.size ⟨0, 0, none, 0, 0⟩) ∧ Hid (Ex w wr) ∧ wr.heap.size = w.heap.size + 2) (fun iv kv xv ev wr => 3 - (intOf iv).toNat)
  case atStart =>
    refine ⟨0, [], p, by omega, rfl, rfl, (rfl : ([] : List Nat).length = 0), (by omega : 0 < 0 → 0 ≤ p), (by simp : ∀ x ∈ ([] : List Nat), x < 18446744073709551616), Hr, ?_, ?_, ?_, ?_⟩
    · have h := heap_alloc_new (w.alloc (rb ⟨0, 0, none, 0, 0⟩)) (.cells #[.int .u64 0, .int .u64 0, .int .u64 0] 77)
      have hs : (w.alloc (rb ⟨0, 0, none, 0, 0⟩)).heap.size = w.heap.size + 1 := by simp
      rw [hs] at h
      exact h
    · exact (LAt.new w ⟨0, 0, none, 0, 0⟩).alloc _
    · show Ex _ _
      (repeat' (first | exact Below.refl _ _ | refine Below.alloc ?_ (by simp <;> omega) _))
    · simp
  case round =>
    obtain ⟨i, L, k, hi3, rfl, rfl, HL, HK0, HL64, HR, HA, HLr, HXr, hwsz⟩ := hrel
    clear Hr
    obtain ⟨p0, p1, p2⟩ := HLr.out.all
    obtain ⟨f0, f1, f2⟩ := HLr.out.fro
    by_cases hlt : i < 3
    · have hti : (i : Int) < 3 := by omega
      obtain ⟨⟨x, k2, e⟩, hg⟩ : ∃ p, p = M.get b k := ⟨_, rfl⟩
      have HGet : Hid (M.get b k = (x, k2, e)) := hg.symm
      have hx64 : x < 18446744073709551616 := by have := (M.get_all b k).1; rw [← hg] at this; exact this
      obtain ⟨n, hn⟩ : ∃ n, 3 - i = n + 1 := ⟨2 - i, by omega⟩
      have hR := HR.out
      rw [hn] at hR
      have hrow := HA.out
      have hlr : (L ++ List.replicate (3 - i) 0).length = 3 := by have := HL.out; simp; omega
      have hcell := hrow.cell (k := i) (by omega)
      have hfro := hrow.frozen i
      obtain ⟨o9, ho9⟩ : ∃ o9, wr.cell? ⟨w.heap.size + 1, i, none⟩ = some o9 := ⟨_, hcell⟩
      obtain ⟨w2, hw2⟩ : ∃ w2, wr.setCell ⟨w.heap.size + 1, i, none⟩ (.int .u64 (x : Int)) = w2 := ⟨_, rfl⟩
      have HLr2 : Hid (LAt w2 w.heap.size ⟨0, 0, none, 0, 0⟩) := (by rw [← hw2]; exact HLr.out.other (by omega) : LAt w2 w.heap.size ⟨0, 0, none, 0, 0⟩)
      have HX2 : Hid (Ex w w2) := (by rw [← hw2]; exact Below.setCell HXr.out (p := ⟨w.heap.size + 1, i, none⟩) (by simp) _ : Ex w w2)
      have HWS : Hid (w2.heap.size = w.heap.size + 2) := (by rw [← hw2]; simp; exact hwsz : w2.heap.size = w.heap.size + 2)
      by_cases he : e = 0
      · subst he
        rw [Rw.hd1_step (by rw [← hg]), ← hg] at hR
        have HR2 : Hid (Rw.hd1 b (3 - (i + 1)) (L ++ [x]) (k2 : Int) = (r, m, k0, e0)) := (by rw [show 3 - (i + 1) = n by omega]; exact hR : Rw.hd1 b (3 - (i + 1)) (L ++ [x]) (k2 : Int) = (r, m, k0, e0))
        have HRS : Hid (RowAt n64 77 w2 (w.heap.size + 1) ((L ++ [x]) ++ List.replicate (3 - (i + 1)) 0)) := (by have h := hrow.set (k := i) x rfl; rw [fill3 HL.out hlt x] at h; rw [← hw2]; exact h : RowAt n64 77 w2 (w.heap.size + 1) ((L ++ [x]) ++ List.replicate (3 - (i + 1)) 0))
        have HL2 : Hid ((L ++ [x]).length = i + 1) := (by have := HL.out; simp; omega : (L ++ [x]).length = i + 1)
        have HL642 : Hid (∀ y ∈ L ++ [x], y < 18446744073709551616) := (fun y hy => by
          rcases List.mem_append.1 hy with h | h
          · exact HL64.out y h
          · simp at h; subst h; exact hx64 : ∀ y ∈ L ++ [x], y < 18446744073709551616)
        clear hrow hcell hlr hR hg hn hwsz
        go_wp2_with fail
        go_at_call 57
        refine (get_is a _ cap b _ _ x k2 0 HGet.out (HB.out.below HXr.out) rfl).mono ?_
        rintro e wq ⟨rfl, hw'⟩
        have hw'' := hw'.symm
        clear hw'
        subst hw''
        go_wp2_with fail
        go_roundw
        case rel => exact ⟨i + 1, L ++ [x], k2, by omega, by go_num, rfl, HL2, (fun _ => by omega : 0 < i + 1 → 0 ≤ (k2 : Int)), HL642, HR2, HRS, HLr2, HX2, HWS.out⟩
        case measure => simp [intOf]; omega
      · rw [Rw.hd1_bad (by rw [← hg]; exact he), ← hg] at hR
        have HRES : Hid ((Rw.zero, 0, 0, e) = (r, m, k0, e0)) := hR
        have te : ((e : Int) == 0) = false := by simp; omega
        have te3 : ((e : Int) != 0) = true := by simp; omega
        clear hR hg hn hwsz p0 p1 p2 f0 f1 f2 hrow hcell hlr
        obtain ⟨p0, p1, p2⟩ := HLr2.out.all
        obtain ⟨f0, f1, f2⟩ := HLr2.out.fro
        go_wp2_with fail
        go_at_call 57
        refine (get_is a _ cap b _ _ x k2 e HGet.out (HB.out.below HXr.out) rfl).mono ?_
        rintro e wq ⟨rfl, hw'⟩
        have hw'' := hw'.symm
        clear hw'
        subst hw''
        go_wp2_with fail
        have hL9 := LAt.store HLr2.out ⟨0, 0, none, 0, 0⟩
        have hX9 := Below.lset HX2.out (Nat.le_refl _) ⟨0, 0, none, 0, 0⟩
        have hf := HRES.out
        simp only [Prod.mk.injEq] at hf
        obtain ⟨rfl, rfl, rfl, rfl⟩ := hf
        refine bodyPost_ret (v := .tuple #[rvv ⟨0, 0, none, 0, 0⟩, .int .i64 0, .int .i64 0, .int .i64 e]) (res_row4 Try.results44 rfl rfl rfl rfl hL9) rfl ?_
        exact ⟨rfl, hX9⟩
    · have hti : ¬ (i : Int) < 3 := by omega
      obtain rfl : i = 3 := by omega
      rename World => wo
      obtain ⟨t, q, n, rfl⟩ : ∃ t q n, L = [t, q, n] := by
        match L, HL.out with
        | [t, q, n], _ => exact ⟨t, q, n, rfl⟩
      have hA : RowAt n64 77 wo (w.heap.size + 1) [t, q, n] := by simpa using HA.out
      have a0 : wo.cell? ⟨w.heap.size + 1, 0, none⟩ = some (.int .u64 (t : Int)) := hA.cell (k := 0) (by simp)
      have a1 : wo.cell? ⟨w.heap.size + 1, 1, none⟩ = some (.int .u64 (q : Int)) := hA.cell (k := 1) (by simp)
      have a2 : wo.cell? ⟨w.heap.size + 1, 2, none⟩ = some (.int .u64 (n : Int)) := hA.cell (k := 2) (by simp)
      have ht64 := HL64.out t (by simp)
      have hR := HR.out
      obtain ⟨k, rfl⟩ := Int.eq_ofNat_of_zero_le (HK0.out (by omega))
      rw [Rw.hd1] at hR
      simp only [List.getD_cons_zero, List.getD_cons_succ, Int.toNat_natCast] at hR
      obtain ⟨T0, hT0⟩ : ∃ T0, M.zag (t : Int) = T0 := ⟨_, rfl⟩
      have HT0 : Hid (M.zag (t : Int) = T0) := hT0
      have HA0 : Hid (RowAt n64 77 wo (w.heap.size + 1) [t, q, n]) := hA
      obtain ⟨hb, hhb⟩ : ∃ hb, (decide ((q : Int) ≤ 1073741824) && decide ((n : Int) ≤ 8)) = hb := ⟨_, rfl⟩
      have HHB : Hid ((decide ((q : Int) ≤ 1073741824) && decide ((n : Int) ≤ 8)) = hb) := hhb
      clear hA hwsz hhb
      go_wp2_with fail
      go_at_call 42
      refine Calls.mono (rhead_is q n _ hb HHB.out) ?_
      rintro e wx ⟨rfl, hw⟩
      have hw' := hw.symm
      clear hw
      subst hw'
      cases hb with
      | false =>
        rw [if_pos (by have h := HHB.out; simp at h; omega)] at hR
        have HRES : Hid ((Rw.zero, 0, 0, 12) = (r, m, k0, e0)) := hR
        clear hR hT0
        go_wp2_with fail
        have hL9 := LAt.store HLr.out ⟨0, 0, none, 0, 0⟩
        have hX9 := Below.lset HXr.out (Nat.le_refl _) ⟨0, 0, none, 0, 0⟩
        have hf := HRES.out
        simp only [Prod.mk.injEq] at hf
        obtain ⟨rfl, rfl, rfl, rfl⟩ := hf
        refine bodyPost_ret (v := .tuple #[rvv ⟨0, 0, none, 0, 0⟩, .int .i64 0, .int .i64 0, .int .i64 12]) (res_row4 Try.results44 rfl rfl rfl rfl hL9) rfl ?_
        exact ⟨rfl, hX9⟩
      | true =>
        have hqn : q ≤ 1073741824 ∧ n ≤ 8 := by have h := HHB.out; simp at h; omega
        obtain ⟨hq30, hn8⟩ := hqn
        rw [if_neg (by omega), hT0] at hR
        have HRES : Hid ((⟨T0, (q : Int), []⟩, n, k, 0) = (r, m, k0, e0)) := hR
        clear hR hT0
        go_upto_region 13 with fail
        have hre : ∀ u : World, u = u := fun _ => rfl
        refine Rg.Fr.wp_one 11 (lset wo.drew w.heap.size ⟨T0, (q : Int), none, 0, 0⟩) (fun wx => RowAt n64 77 wx (w.heap.size + 1) [t, q, n]) [.inl (.pointer (some ⟨w.heap.size + 1, 0, none⟩)), .inl (.int .u64 (t : Int)), .inl (.int .i64 T0), .inl (.pointer (some ⟨w.heap.size + 1, 1, none⟩)), .inl (.int .u64 (q : Int)), .inl (.int .i64 (q : Int)), .inl (rvv ⟨T0, (q : Int), none, 0, 0⟩), .inl (.pointer (some ⟨w.heap.size + 1, 2, none⟩)), .inl (.int .u64 (n : Int)), .inl (.int .i64 (n : Int)), .inl (.int .i64 (k : Int)), .inl undef, .inl (.int .i64 (n : Int)), .inl (.int .i64 (k : Int)), .inl (.int .i64 0)] 48 (by kernel_rfl) rfl (by kernel_rfl) (by kernel_rfl) trivial _ rfl rfl HA0.out ?hC1 ?rx ?hG ?hF
        case hC1 => exact ((RowAt.other (w := wo.drew) HA0.out (by omega)).other (by omega)).other (by omega)
        case rx =>
          intro ρ ha
          have h1 : ρ (.tmp 4) = .pointer (some ⟨w.heap.size, 0, none⟩) := ha (.tmp 4) (by simp [Op.operands])
          have h2 : ρ (.tmp 43) = rvv ⟨T0, (q : Int), none, 0, 0⟩ := ha (.tmp 43) (by simp [Op.operands])
          simp [execOp, h1, h2, go_sem, rvv, sv, p0, p1, p2, f0, f1, f2]
          rfl
        case hG =>
          refine ⟨fun _ => Rg.good_index hre rfl rfl rfl rfl (fun wx hC => by go_simp), ?_⟩
          refine ⟨fun _ => Rg.good_load hre rfl rfl rfl (fun wx hC => by have hz := (show RowAt n64 77 wx (w.heap.size + 1) [t, q, n] from hC).cell (k := 0) (by simp); simp only [List.getElem_cons_succ, List.getElem_cons_zero, n64] at hz; go_simp), ?_⟩
          refine ⟨fun _ => Rg.good_call1 Try.func58 (by kernel_rfl) rfl rfl rfl (by rintro u wx hC rfl; exact (zag_is (t : Int) T0 wx (by omega) (by omega) HT0.out).mono fun e w' ⟨h1, h2⟩ => ⟨_, h1, rfl, h2, by rw [h2]; exact hC⟩), ?_⟩
          refine ⟨fun _ => Rg.good_index hre rfl rfl rfl rfl (fun wx hC => by go_simp), ?_⟩
          refine ⟨fun _ => Rg.good_load hre rfl rfl rfl (fun wx hC => by have hz := (show RowAt n64 77 wx (w.heap.size + 1) [t, q, n] from hC).cell (k := 1) (by simp); simp only [List.getElem_cons_succ, List.getElem_cons_zero, n64] at hz; go_simp), ?_⟩
          refine ⟨fun _ => Rg.good_conv hre rfl rfl (by rintro u wx _ rfl; go_simp; exact I.wi64 _ (by omega) (by omega)), ?_⟩
          refine ⟨fun _ => Rg.Fr.good_brow rfl rfl rfl rfl, ?_⟩
          refine ⟨fun _ => Rg.good_index hre rfl rfl rfl rfl (fun wx hC => by go_simp), ?_⟩
          refine ⟨fun _ => Rg.good_load hre rfl rfl rfl (fun wx hC => by have hz := (show RowAt n64 77 wx (w.heap.size + 1) [t, q, n] from hC).cell (k := 2) (by simp); simp only [List.getElem_cons_succ, List.getElem_cons_zero, n64] at hz; go_simp), ?_⟩
          refine ⟨fun _ => Rg.good_conv hre rfl rfl (by rintro u wx _ rfl; go_simp; exact I.wi64 _ (by omega) (by omega)), ?_⟩
          refine ⟨fun _ => Rg.good_move hre rfl rfl rfl, ?_⟩
          refine ⟨fun h => absurd rfl h, ?_⟩
          refine ⟨fun _ => Rg.good_assign hre rfl rfl rfl, ?_⟩
          refine ⟨fun _ => Rg.good_assign hre rfl rfl rfl, ?_⟩
          refine ⟨fun _ => Rg.good_assign hre rfl rfl rfl, ?_⟩
          exact trivial
        case hF =>
          simp only [Rg.later, Act.put, List.setIfInBounds_toArray, List.set_cons_succ, List.set_cons_zero]
          have HL9 : Hid (LAt (lset wo.drew w.heap.size ⟨T0, (q : Int), none, 0, 0⟩) w.heap.size ⟨T0, (q : Int), none, 0, 0⟩) := (LAt.store (w := wo.drew) HLr.out ⟨T0, (q : Int), none, 0, 0⟩ : LAt _ w.heap.size ⟨T0, (q : Int), none, 0, 0⟩)
          have HX9 : Hid (Ex w (lset wo.drew w.heap.size ⟨T0, (q : Int), none, 0, 0⟩)) := (Below.lset (HXr.out.trans (Ex.drew _)) (Nat.le_refl _) ⟨T0, (q : Int), none, 0, 0⟩ : Ex w _)
          go_wp2_with fail
          refine bodyPost_ret (v := .tuple #[rvv ⟨T0, (q : Int), none, 0, 0⟩, .int .i64 (n : Int), .int .i64 (k : Int), .int .i64 0]) (res_row4 Try.results44 rfl rfl rfl rfl HL9.out) rfl ?_
          have hf := HRES.out
          simp only [Prod.mk.injEq] at hf
          obtain ⟨rfl, rfl, rfl, rfl⟩ := hf
          exact ⟨rfl, HX9.out⟩
end Go.Proofs.Ytghnbohplonhoaa
namespace Go.Proofs.Ytghnbohplonhoaa
open Go.RowKit
set_option linter.unusedVariables false
set_option linter.unusedSimpArgs false
set_option maxHeartbeats 8000000 in
set_option maxRecDepth 100000 in
theorem gcell_is (a : Option Addr) (len cap : Nat) (b : List UInt8) (k : Nat) (w : World) (hlen : len = b.length) (hB : Byt w a cap b) (c : Ce) (k0 e0 : Nat) (hr : Rw.rdC b k = (c, k0, e0)) :
    Calls Try.prog 45 #[.slice a len cap, .int .i64 k] w fun e w' => e = .returned (.tuple #[cv c, .int .i64 k0, .int .i64 e0]) ∧ Ex w w' := by
  subst hlen
  have hcl := hB.1
  have hcm := hB.2.1
  unfold maxLen at hcm
  obtain ⟨w0, hw0⟩ : ∃ w0, w.alloc (.cells #[.string { data := #[] }, .int .i64 0, .int .i64 0, .string { data := #[] }] 25) = w0 := ⟨_, rfl⟩
  have HX : Hid (Ex w w0) := (by rw [← hw0]; exact (Below.refl _ _).alloc (Nat.le_refl _) _ : Ex w w0)
  have HZ : Hid (EAt w0 w.heap.size Rw.none_) := (by rw [← hw0]; exact EAt.new w Rw.none_ : EAt w0 w.heap.size Rw.none_)
  have HB0 : Hid (Byt w0 a cap b) := hB.below HX.out
  obtain ⟨⟨s1, k1, e1⟩, hg1⟩ : ∃ p, M.getText b (k : Int) 12 = p := ⟨_, rfl⟩
  obtain ⟨⟨x, k2, e2⟩, hg2⟩ : ∃ p, M.get b (k1 : Int) = p := ⟨_, rfl⟩
  obtain ⟨⟨y, k3, e3⟩, hg3⟩ : ∃ p, M.get b (k2 : Int) = p := ⟨_, rfl⟩
  obtain ⟨⟨s4, k4, e4⟩, hg4⟩ : ∃ p, M.getText b (k2 : Int) 40 = p := ⟨_, rfl⟩
  have hrd : Rw.rdC b k = (if e1 ≠ 0 then (Rw.none_, 0, e1) else if e2 ≠ 0 then (Rw.none_, 0, e2) else if x ≠ 1 ∧ x ≠ 2 then (Rw.none_, 0, 12) else if x = 1 then (if e3 ≠ 0 then (Rw.none_, 0, e3) else (⟨s1, 1, M.zag (y : Int), []⟩, k3, 0)) else (if e4 ≠ 0 then (Rw.none_, 0, e4) else (⟨s1, 2, 0, s4⟩, k4, 0))) := by
    unfold Rw.rdC
    simp only [hg1, hg2, hg3, hg4]
  rw [hr] at hrd
  have HRD : Hid ((c, k0, e0) = (if e1 ≠ 0 then (Rw.none_, 0, e1) else if e2 ≠ 0 then (Rw.none_, 0, e2) else if x ≠ 1 ∧ x ≠ 2 then (Rw.none_, 0, 12) else if x = 1 then (if e3 ≠ 0 then (Rw.none_, 0, e3) else (⟨s1, 1, M.zag (y : Int), []⟩, k3, 0)) else (if e4 ≠ 0 then (Rw.none_, 0, e4) else (⟨s1, 2, 0, s4⟩, k4, 0)))) := hrd
  have hx64 : x < 18446744073709551616 := by have h := (M.get_all b (k1 : Int)).1; rw [hg2] at h; exact h
  have hy64 : y < 18446744073709551616 := by have h := (M.get_all b (k2 : Int)).1; rw [hg3] at h; exact h
  have HG1 : Hid (M.getText b (k : Int) 12 = (s1, k1, e1)) := hg1
  have HG2 : Hid (M.get b (k1 : Int) = (x, k2, e2)) := hg2
  have HG3 : Hid (M.get b (k2 : Int) = (y, k3, e3)) := hg3
  have HG4 : Hid (M.getText b (k2 : Int) 40 = (s4, k4, e4)) := hg4
  clear hB hr hrd hg1 hg2 hg3 hg4
  obtain ⟨z0, z1, z2, z3⟩ := HZ.out.all
  obtain ⟨f0, f1, f2, f3⟩ := HZ.out.fro
  go_enter Try.func45, Try.ntmps45
  go_wp2_with fail
  go_at_call 59
  refine (getText_any a _ cap b _ 12 _ HB0.out rfl (by omega) (by omega) s1 k1 e1 HG1.out).mono ?_
  rintro e wq ⟨rfl, hw'⟩
  have hw'' := hw'.symm
  clear hw'
  subst hw''
  by_cases he1 : e1 = 0
  · subst he1
    go_wp2_with fail
    go_at_call 57
    refine (get_is a _ cap b _ _ x k2 e2 HG2.out HB0.out rfl).mono ?_
    rintro e wq ⟨rfl, hw'⟩
    have hw'' := hw'.symm
    clear hw'
    subst hw''
    by_cases he2 : e2 = 0
    · subst he2
      obtain ⟨kb', hkb⟩ : ∃ z, (decide ((x : Int) = 1) || decide ((x : Int) = 2)) = z := ⟨_, rfl⟩
      have HKB : Hid ((decide ((x : Int) = 1) || decide ((x : Int) = 2)) = kb') := hkb
      clear hkb
      go_wp2_with fail
      go_at_call 51
      refine (rkind_is (x : Int) _ kb' HKB.out).mono ?_
      rintro e wq ⟨rfl, hw'⟩
      have hw'' := hw'.symm
      clear hw'
      subst hw''
      cases kb' with
      | false =>
        have hx12 : x ≠ 1 ∧ x ≠ 2 := by have h := HKB.out; simp at h; omega
        have HRES : Hid ((c, k0, e0) = (Rw.none_, 0, 12)) := (by rw [HRD.out, if_neg (by simp), if_neg (by simp), if_pos hx12] : (c, k0, e0) = (Rw.none_, 0, 12))
        clear hx12
        go_wp2_with fail
        have hL9 := EAt.store HZ.out Rw.none_
        have hX9 := Below.eset HX.out (Nat.le_refl _) Rw.none_
        have hf := HRES.out.symm
        simp only [Prod.mk.injEq] at hf
        obtain ⟨rfl, rfl, rfl⟩ := hf
        refine bodyPost_ret (v := .tuple #[cv Rw.none_, .int .i64 0, .int .i64 12]) (res_cell3 Try.results45 rfl rfl rfl hL9) rfl ?_
        exact ⟨rfl, hX9⟩
      | true =>
        have hx12 : x = 1 ∨ x = 2 := by have h := HKB.out; simp at h; omega
        have hx2 : x ≤ 2 := by omega
        have hxw : IntKind.i64.wrap (x : Int) = (x : Int) := I.wi64 _ (by omega) (by omega)
        by_cases hx1 : x = 1
        · have tx1 : ((x : Int) == 2) = false := by simp; omega
          have HRD2 : Hid ((c, k0, e0) = (if e3 ≠ 0 then (Rw.none_, 0, e3) else (⟨s1, (x : Int), M.zag (y : Int), []⟩, k3, 0))) := (by rw [HRD.out, if_neg (by simp), if_neg (by simp), if_neg (by omega), if_pos hx1, hx1]; rfl : (c, k0, e0) = (if e3 ≠ 0 then (Rw.none_, 0, e3) else (⟨s1, (x : Int), M.zag (y : Int), []⟩, k3, 0)))
          obtain ⟨Y, hY⟩ : ∃ Y, M.zag (y : Int) = Y := ⟨_, rfl⟩
          have HY : Hid (M.zag (y : Int) = Y) := hY
          clear hY hx1 hx12
          obtain ⟨w1, hw1⟩ : ∃ w1, w0.alloc (.cells #[.string (str s1), .int .i64 (x : Int), .int .i64 0, .string { data := #[] }] 25) = w1 := ⟨_, rfl⟩
          have hx1 : Ex w0 w1 := by rw [← hw1]; exact (Below.refl _ _).alloc (Nat.le_refl _) _
          have HX1 : Hid (Ex w w1) := HX.out.trans hx1
          have HZ1 : Hid (EAt w1 w.heap.size Rw.none_) := HZ.out.below hx1
          have HE1 : Hid (EAt w1 w0.heap.size ⟨s1, (x : Int), 0, []⟩) := (by rw [← hw1]; exact EAt.new w0 ⟨s1, (x : Int), 0, []⟩ : EAt w1 w0.heap.size ⟨s1, (x : Int), 0, []⟩)
          have HB1 : Hid (Byt w1 a cap b) := HB0.out.below hx1
          obtain ⟨w2, hw2⟩ : ∃ w2, w1.setCell ⟨w0.heap.size, 2, none⟩ (.int .i64 Y) = w2 := ⟨_, rfl⟩
          have HE2 : Hid (EAt w2 w0.heap.size ⟨s1, (x : Int), Y, []⟩) := (by rw [← hw2]; exact HE1.out.set (k := 2) rfl : EAt w2 w0.heap.size ⟨s1, (x : Int), Y, []⟩)
          have HZ2 : Hid (EAt w2 w.heap.size Rw.none_) := (by rw [← hw2]; exact HZ1.out.other (by have := HZ.out.lt; omega) : EAt w2 w.heap.size Rw.none_)
          have HX2 : Hid (Ex w w2) := (by rw [← hw2]; exact Below.setCell HX1.out (p := ⟨w0.heap.size, 2, none⟩) (HX.out.size) _ : Ex w w2)
          obtain ⟨g0, g1, g2, g3⟩ := HE1.out.all
          obtain ⟨q0, q1, q2, q3⟩ := HE1.out.fro
          obtain ⟨u0, u1, u2, u3⟩ := HE2.out.all
          obtain ⟨y0, y1, y2, y3⟩ := HZ2.out.all
          obtain ⟨h0, h1, h2, h3⟩ := HZ2.out.fro
          have HW1 : Hid (w0.alloc (.cells #[.string (str s1), .int .i64 (x : Int), .int .i64 0, .string { data := #[] }] 25) = w1) := hw1
          clear hx1 hw1
          go_wp2_with fail
          rw [HW1.out]
          go_at_call 57
          refine (get_is a _ cap b _ _ y k3 e3 HG3.out HB1.out rfl).mono ?_
          rintro e wq ⟨rfl, hw'⟩
          have hw'' := hw'.symm
          clear hw'
          subst hw''
          go_wp2_with fail
          go_at_call 58
          refine (zag_is (y : Int) Y _ (by omega) (by omega) HY.out).mono ?_
          rintro e wq ⟨rfl, hw'⟩
          have hw'' := hw'.symm
          clear hw'
          subst hw''
          by_cases he3 : e3 = 0
          · subst he3
            have HRES : Hid ((c, k0, e0) = (⟨s1, (x : Int), Y, []⟩, k3, 0)) := (by rw [HRD2.out, if_neg (by simp), HY.out] : (c, k0, e0) = (⟨s1, (x : Int), Y, []⟩, k3, 0))
            go_wp2_with fail
            have hL9 := EAt.store HZ2.out ⟨s1, (x : Int), Y, []⟩
            have hX9 := Below.eset HX2.out (Nat.le_refl _) ⟨s1, (x : Int), Y, []⟩
            have hf := HRES.out.symm
            simp only [Prod.mk.injEq] at hf
            obtain ⟨rfl, rfl, rfl⟩ := hf
            refine bodyPost_ret (v := .tuple #[cv ⟨s1, (x : Int), Y, []⟩, .int .i64 (k3 : Int), .int .i64 0]) (res_cell3 Try.results45 rfl rfl rfl hL9) rfl ?_
            exact ⟨rfl, hX9⟩
          · have HRES : Hid ((c, k0, e0) = (Rw.none_, 0, e3)) := (by rw [HRD2.out, if_pos he3] : (c, k0, e0) = (Rw.none_, 0, e3))
            have tz : ((e3 : Int) == 0) = false := by simp; omega
            have tz2 : ((e3 : Int) != 0) = true := by simp; omega
            go_wp2_with fail
            have hL9 := EAt.store HZ2.out Rw.none_
            have hX9 := Below.eset HX2.out (Nat.le_refl _) Rw.none_
            have hf := HRES.out.symm
            simp only [Prod.mk.injEq] at hf
            obtain ⟨rfl, rfl, rfl⟩ := hf
            refine bodyPost_ret (v := .tuple #[cv Rw.none_, .int .i64 0, .int .i64 e3]) (res_cell3 Try.results45 rfl rfl rfl hL9) rfl ?_
            exact ⟨rfl, hX9⟩
        · have hxe : x = 2 := by omega
          have tx1 : ((x : Int) == 2) = true := by simp; omega
          have HRD2 : Hid ((c, k0, e0) = (if e4 ≠ 0 then (Rw.none_, 0, e4) else (⟨s1, (x : Int), 0, s4⟩, k4, 0))) := (by rw [HRD.out, if_neg (by simp), if_neg (by simp), if_neg (by omega), if_neg hx1, hxe]; rfl : (c, k0, e0) = (if e4 ≠ 0 then (Rw.none_, 0, e4) else (⟨s1, (x : Int), 0, s4⟩, k4, 0)))
          clear hx1 hx12 hxe
          obtain ⟨w1, hw1⟩ : ∃ w1, w0.alloc (.cells #[.string (str s1), .int .i64 (x : Int), .int .i64 0, .string { data := #[] }] 25) = w1 := ⟨_, rfl⟩
          have hx1 : Ex w0 w1 := by rw [← hw1]; exact (Below.refl _ _).alloc (Nat.le_refl _) _
          have HX1 : Hid (Ex w w1) := HX.out.trans hx1
          have HZ1 : Hid (EAt w1 w.heap.size Rw.none_) := HZ.out.below hx1
          have HE1 : Hid (EAt w1 w0.heap.size ⟨s1, (x : Int), 0, []⟩) := (by rw [← hw1]; exact EAt.new w0 ⟨s1, (x : Int), 0, []⟩ : EAt w1 w0.heap.size ⟨s1, (x : Int), 0, []⟩)
          have HB1 : Hid (Byt w1 a cap b) := HB0.out.below hx1
          obtain ⟨w2, hw2⟩ : ∃ w2, w1.setCell ⟨w0.heap.size, 3, none⟩ (.string (str s4)) = w2 := ⟨_, rfl⟩
          have HE2 : Hid (EAt w2 w0.heap.size ⟨s1, (x : Int), 0, s4⟩) := (by rw [← hw2]; exact HE1.out.set (k := 3) rfl : EAt w2 w0.heap.size ⟨s1, (x : Int), 0, s4⟩)
          have HZ2 : Hid (EAt w2 w.heap.size Rw.none_) := (by rw [← hw2]; exact HZ1.out.other (by have := HZ.out.lt; omega) : EAt w2 w.heap.size Rw.none_)
          have HX2 : Hid (Ex w w2) := (by rw [← hw2]; exact Below.setCell HX1.out (p := ⟨w0.heap.size, 3, none⟩) (HX.out.size) _ : Ex w w2)
          obtain ⟨g0, g1, g2, g3⟩ := HE1.out.all
          obtain ⟨q0, q1, q2, q3⟩ := HE1.out.fro
          obtain ⟨u0, u1, u2, u3⟩ := HE2.out.all
          obtain ⟨y0, y1, y2, y3⟩ := HZ2.out.all
          obtain ⟨h0, h1, h2, h3⟩ := HZ2.out.fro
          have HW1 : Hid (w0.alloc (.cells #[.string (str s1), .int .i64 (x : Int), .int .i64 0, .string { data := #[] }] 25) = w1) := hw1
          clear hx1 hw1
          go_wp2_with fail
          rw [HW1.out]
          go_at_call 59
          refine (getText_any a _ cap b _ 40 _ HB1.out rfl (by omega) (by omega) s4 k4 e4 HG4.out).mono ?_
          rintro e wq ⟨rfl, hw'⟩
          have hw'' := hw'.symm
          clear hw'
          subst hw''
          by_cases he4 : e4 = 0
          · subst he4
            have HRES : Hid ((c, k0, e0) = (⟨s1, (x : Int), 0, s4⟩, k4, 0)) := (by rw [HRD2.out, if_neg (by simp)] : (c, k0, e0) = (⟨s1, (x : Int), 0, s4⟩, k4, 0))
            go_wp2_with fail
            have hL9 := EAt.store HZ2.out ⟨s1, (x : Int), 0, s4⟩
            have hX9 := Below.eset HX2.out (Nat.le_refl _) ⟨s1, (x : Int), 0, s4⟩
            have hf := HRES.out.symm
            simp only [Prod.mk.injEq] at hf
            obtain ⟨rfl, rfl, rfl⟩ := hf
            refine bodyPost_ret (v := .tuple #[cv ⟨s1, (x : Int), 0, s4⟩, .int .i64 (k4 : Int), .int .i64 0]) (res_cell3 Try.results45 rfl rfl rfl hL9) rfl ?_
            exact ⟨rfl, hX9⟩
          · have HRES : Hid ((c, k0, e0) = (Rw.none_, 0, e4)) := (by rw [HRD2.out, if_pos he4] : (c, k0, e0) = (Rw.none_, 0, e4))
            have tz : ((e4 : Int) == 0) = false := by simp; omega
            have tz2 : ((e4 : Int) != 0) = true := by simp; omega
            go_wp2_with fail
            have hL9 := EAt.store HZ2.out Rw.none_
            have hX9 := Below.eset HX2.out (Nat.le_refl _) Rw.none_
            have hf := HRES.out.symm
            simp only [Prod.mk.injEq] at hf
            obtain ⟨rfl, rfl, rfl⟩ := hf
            refine bodyPost_ret (v := .tuple #[cv Rw.none_, .int .i64 0, .int .i64 e4]) (res_cell3 Try.results45 rfl rfl rfl hL9) rfl ?_
            exact ⟨rfl, hX9⟩
    · have HRES : Hid ((c, k0, e0) = (Rw.none_, 0, e2)) := (by rw [HRD.out, if_neg (by simp), if_pos he2] : (c, k0, e0) = (Rw.none_, 0, e2))
      have tz : ((e2 : Int) == 0) = false := by simp; omega
      have tz2 : ((e2 : Int) != 0) = true := by simp; omega
      go_wp2_with fail
      have hL9 := EAt.store HZ.out Rw.none_
      have hX9 := Below.eset HX.out (Nat.le_refl _) Rw.none_
      have hf := HRES.out.symm
      simp only [Prod.mk.injEq] at hf
      obtain ⟨rfl, rfl, rfl⟩ := hf
      refine bodyPost_ret (v := .tuple #[cv Rw.none_, .int .i64 0, .int .i64 e2]) (res_cell3 Try.results45 rfl rfl rfl hL9) rfl ?_
      exact ⟨rfl, hX9⟩
  · have HRES : Hid ((c, k0, e0) = (Rw.none_, 0, e1)) := (by rw [HRD.out, if_pos he1] : (c, k0, e0) = (Rw.none_, 0, e1))
    have tz : ((e1 : Int) == 0) = false := by simp; omega
    have tz2 : ((e1 : Int) != 0) = true := by simp; omega
    go_wp2_with fail
    have hL9 := EAt.store HZ.out Rw.none_
    have hX9 := Below.eset HX.out (Nat.le_refl _) Rw.none_
    have hf := HRES.out.symm
    simp only [Prod.mk.injEq] at hf
    obtain ⟨rfl, rfl, rfl⟩ := hf
    refine bodyPost_ret (v := .tuple #[cv Rw.none_, .int .i64 0, .int .i64 e1]) (res_cell3 Try.results45 rfl rfl rfl hL9) rfl ?_
    exact ⟨rfl, hX9⟩

theorem LAt.eset {w : World} {g q : Nat} {v : RV} (h : LAt w g v) (hne : g ≠ q) (c : Ce) : LAt (eset w q c) g v := (((h.other hne).other hne).other hne).other hne
theorem OwnW.eset {α : Type} {k : Nat} {fl : α → List Value} {t : TypeId} {w : World} {base q : Nat} {v : Value} {l : List α} (h : OwnW t k fl w base v l) (hne : v.ownBlock ≠ some q) (c : Ce) : OwnW t k fl (eset w q c) base v l := (((h.apart hne).apart hne).apart hne).apart hne
set_option maxHeartbeats 8000000 in
set_option maxRecDepth 100000 in
theorem sdec_is (a : Option Addr) (len cap : Nat) (b : List UInt8) (p : Int) (w : World) (hlen : len = b.length) (hB : Byt w a cap b) (R : Rw) (k0 e0 : Nat) (hr : Rw.dec b p = (R, k0, e0)) :
    Calls Try.prog 16 #[.slice a len cap, .int .i64 p] w fun e w' => ∃ sa sc, e = .returned (.tuple #[rvv ⟨R.t, R.q, sa, R.c.length, sc⟩, .int .i64 k0, .int .i64 e0]) ∧ RdC w' sa sc R.c ∧ Ex w w' := by
  subst hlen
  have hcl := hB.1
  have hcm := hB.2.1
  unfold maxLen at hcm
  obtain ⟨w0, hw0⟩ : ∃ w0, w.alloc (rb ⟨0, 0, none, 0, 0⟩) = w0 := ⟨_, rfl⟩
  have HX0 : Hid (Ex w w0) := (by rw [← hw0]; exact (Below.refl _ _).alloc (Nat.le_refl _) _ : Ex w w0)
  have HZ0 : Hid (LAt w0 w.heap.size ⟨0, 0, none, 0, 0⟩) := (by rw [← hw0]; exact LAt.new w _ : LAt w0 w.heap.size ⟨0, 0, none, 0, 0⟩)
  have HB : Hid (Byt w a cap b) := hB
  obtain ⟨⟨r, m, kh, eh⟩, hh⟩ : ∃ z, Rw.hd1 b 3 [] p = z := ⟨_, rfl⟩
  have HH : Hid (Rw.hd1 b 3 [] p = (r, m, kh, eh)) := hh
  have hin := Rw.hd1_in b 3 [] p (by simp)
  rw [hh] at hin
  obtain ⟨hrt, hrq, hm8⟩ := hin
  simp only at hm8
  have HRT : Hid (In64 r.t ∧ In64 r.q) := ⟨hrt, hrq⟩
  rw [Rw.dec_is1, Rw.dec1_hd b 3 [] p r m kh eh hh] at hr
  have HR : Hid ((if eh ≠ 0 then (Rw.zero, 0, eh) else Rw.tlr b r.t r.q m kh []) = (R, k0, e0)) := hr
  obtain ⟨T, hT⟩ : ∃ T, r.t = T := ⟨_, rfl⟩
  obtain ⟨Q, hQ⟩ : ∃ Q, r.q = Q := ⟨_, rfl⟩
  rw [hT, hQ] at HR HRT
  have HTQ : Hid (r.t = T ∧ r.q = Q) := ⟨hT, hQ⟩
  clear hB hr hh hrt hrq hT hQ
  go_enter Try.func16, Try.ntmps16
  go_wp2_with fail
  go_at_call 44
  refine (ghead_is a _ cap b p _ rfl (HB.out.below HX0.out) r m kh eh HH.out).mono ?_
  rintro e w1 ⟨rfl, hx1⟩
  obtain ⟨w2, hw2⟩ : ∃ w2, w1.alloc (.cells #[.int .i64 T, .int .i64 Q, .slice none 0 0] 28) = w2 := ⟨_, rfl⟩
  have hx2 : Ex w1 w2 := by rw [← hw2]; exact (Below.refl _ _).alloc (Nat.le_refl _) _
  have HX2 : Hid (Ex w w2) := (HX0.out.trans hx1).trans hx2
  have HZ2 : Hid (LAt w2 w.heap.size ⟨0, 0, none, 0, 0⟩) := (HZ0.out.below hx1).below hx2
  have HV2 : Hid (LAt w2 w1.heap.size ⟨T, Q, none, 0, 0⟩) := (by rw [← hw2]; exact LAt.new w1 ⟨T, Q, none, 0, 0⟩ : LAt w2 w1.heap.size ⟨T, Q, none, 0, 0⟩)
  have hsz1 : w.heap.size < w1.heap.size := by have := (HZ0.out.below hx1).lt; exact this
  have HSZ : Hid (w.heap.size < w1.heap.size) := hsz1
  rw [HTQ.out.1, HTQ.out.2]
  unfold rvv
  simp only [sv]
  have HW2 : Hid (w1.alloc (.cells #[.int .i64 T, .int .i64 Q, .slice none 0 0] 28) = w2) := hw2
  clear hx1 hx2 hsz1 hw2
  go_upto_region 2 with fail
  rw [HW2.out]
  obtain ⟨p0, p1, p2⟩ := HZ2.out.all
  obtain ⟨f0, f1, f2⟩ := HZ2.out.fro
  by_cases he : eh = 0
  · subst he
    have HTL : Hid (Rw.tlr b T Q m kh [] = (R, k0, e0)) := (by rw [← HR.out, if_neg (by simp)] : Rw.tlr b T Q m kh [] = (R, k0, e0))
    go_wp2_with fail
    go_loopw [25, 9, 10, 11] (fun iv kv ev cv wr => ∃ (j k : Nat) (cs : List Ce) (sa : Option Addr) (sc : Nat), j ≤ m ∧ iv = .int .i64 j ∧ kv = .int .i64 k ∧ Hid (cs.length = j) ∧ Hid (Rw.tlr b T Q (m - j) k cs = (R, k0, e0)) ∧ Hid (∀ c ∈ cs, Rw.CeIn c) ∧ Hid (OwnC wr (w1.heap.size + 1) (.slice sa cs.length sc) cs) ∧ Hid (LAt wr w.heap.size ⟨0, 0, none, 0, 0⟩) ∧ Hid (LAt wr w1.heap.size ⟨T, Q, sa, cs.length, sc⟩) ∧ Hid (Ex w wr)) (fun iv kv ev cv wr => m - (intOf iv).toNat)
    case atStart => exact ⟨0, kh, [], none, 0, by omega, rfl, rfl, (rfl : ([] : List Ce).length = 0), HTL, (by simp : ∀ c ∈ ([] : List Ce), Rw.CeIn c), ownW_none _ _, HZ2, HV2, HX2⟩
    case round =>
      obtain ⟨j, k, cs, sa, sc, hj, rfl, rfl, HLN, HTLr, HCs, HOr, HZr, HVr, HXr⟩ := hrel
      clear p0 p1 p2 f0 f1 f2 HTL
      by_cases hlt : j < m
      · have hti : (j : Int) < (m : Int) := by omega
        obtain ⟨w3, hw3⟩ : ∃ w3, wr.alloc (.cells #[.string { data := #[] }, .int .i64 0, .int .i64 0, .string { data := #[] }] 25) = w3 := ⟨_, rfl⟩
        have hx3 : Ex wr w3 := by rw [← hw3]; exact (Below.refl _ _).alloc (Nat.le_refl _) _
        have HX3 : Hid (Ex wr w3) := hx3
        have HE3 : Hid (EAt w3 wr.heap.size Rw.none_) := (by rw [← hw3]; exact EAt.new wr Rw.none_ : EAt w3 wr.heap.size Rw.none_)
        obtain ⟨⟨c, k', ec⟩, hrd⟩ : ∃ z, Rw.rdC b k = z := ⟨_, rfl⟩
        have HRD : Hid (Rw.rdC b k = (c, k', ec)) := hrd
        have HCI : Hid (Rw.CeIn c) := (by have h := Rw.rdC_in b k; rw [hrd] at h; exact h : Rw.CeIn c)
        have hv1 := HVr.out.lt
        have HV1 : Hid (w1.heap.size < wr.heap.size) := hv1
        have hl8 : cs.length ≤ 8 := by have := HLN.out; omega
        clear hrd hx3 hv1
        go_wp2_with fail
        go_at_call 45
        refine (gcell_is a _ cap b k _ rfl (HB.out.below (HXr.out.trans HX3.out)) c k' ec HRD.out).mono ?_
        rintro e w4 ⟨rfl, hx4⟩
        have HE4 : Hid (EAt w4 wr.heap.size Rw.none_) := HE3.out.below hx4
        obtain ⟨w5, hw5⟩ : ∃ w5, (((w4.setCell ⟨wr.heap.size, 0, none⟩ (.string (str c.col))).setCell ⟨wr.heap.size, 1, none⟩ (.int .i64 c.k)).setCell ⟨wr.heap.size, 2, none⟩ (.int .i64 c.n)).setCell ⟨wr.heap.size, 3, none⟩ (.string (str c.s)) = w5 := ⟨_, rfl⟩
        have hXr4 : Ex wr w4 := HX3.out.trans hx4
        have HE5 : Hid (EAt w5 wr.heap.size c) := (by rw [← hw5]; exact HE4.out.store c : EAt w5 wr.heap.size c)
        have HZ5 : Hid (LAt w5 w.heap.size ⟨0, 0, none, 0, 0⟩) := (by rw [← hw5]; exact (HZr.out.below hXr4).eset (by have := HSZ.out; have := HV1.out; omega) c : LAt w5 w.heap.size ⟨0, 0, none, 0, 0⟩)
        have HV5 : Hid (LAt w5 w1.heap.size ⟨T, Q, sa, cs.length, sc⟩) := (by rw [← hw5]; exact (HVr.out.below hXr4).eset (by have := HV1.out; omega) c : LAt w5 w1.heap.size ⟨T, Q, sa, cs.length, sc⟩)
        have HO5 : Hid (OwnC w5 (w1.heap.size + 1) (.slice sa cs.length sc) cs) := (by rw [← hw5]; exact (OwnW.later HOr.out hXr4).eset (fun e => by have := HOr.out.lt _ e; omega) c : OwnC w5 (w1.heap.size + 1) (.slice sa cs.length sc) cs)
        have HX5 : Hid (Ex w w5) := (by rw [← hw5]; exact Below.eset (HXr.out.trans hXr4) HXr.out.size c : Ex w w5)
        have HS5 : Hid (wr.heap.size ≤ w5.heap.size) := Nat.le_of_lt HE5.out.lt
        obtain ⟨g0, g1, g2, g3⟩ := HE4.out.all
        obtain ⟨q0, q1, q2, q3⟩ := HE4.out.fro
        obtain ⟨u0, u1, u2, u3⟩ := HE5.out.all
        obtain ⟨p0, p1, p2⟩ := HZ5.out.all
        obtain ⟨f0, f1, f2⟩ := HZ5.out.fro
        obtain ⟨v0, v1, v2⟩ := HV5.out.all
        obtain ⟨y0, y1, y2⟩ := HV5.out.fro
        obtain ⟨n, hn⟩ : ∃ n, m - j = n + 1 := ⟨m - j - 1, by omega⟩
        have hTL := HTLr.out
        rw [hn] at hTL
        unfold cv
        clear hx4 hXr4
        by_cases hec : ec = 0
        · subst hec
          rw [Rw.tlr_step HRD.out] at hTL
          have HTL2 : Hid (Rw.tlr b T Q (m - (j + 1)) k' (cs ++ [c]) = (R, k0, e0)) := (by rw [show m - (j + 1) = n by omega]; exact hTL : Rw.tlr b T Q (m - (j + 1)) k' (cs ++ [c]) = (R, k0, e0))
          obtain ⟨W, hW⟩ : ∃ W, w5.alloc (.cells #[.string (str c.col), .int .i64 c.k, .int .i64 c.n, .string (str c.s)] 25) = W := ⟨_, rfl⟩
          have hXW : Ex w5 W := by rw [← hW]; exact (Below.refl _ _).alloc (Nat.le_refl _) _
          have HOW : Hid (OwnC W (w1.heap.size + 1) (.slice sa cs.length sc) cs) := HO5.out.later hXW
          have HRW : Hid (RdC W (some ⟨w5.heap.size, 0, none⟩) 1 [c]) := (by rw [← hW]; exact RdW.laid (t := 25) cc_len w5 [c] (by simp) : RdC W (some ⟨w5.heap.size, 0, none⟩) 1 [c])
          have hZW : LAt W w.heap.size ⟨0, 0, none, 0, 0⟩ := HZ5.out.below hXW
          have hVW : LAt W w1.heap.size ⟨T, Q, sa, cs.length, sc⟩ := HV5.out.below hXW
          have hszW : w1.heap.size + 1 ≤ W.heap.size := by have := hVW.lt; omega
          have hstep : ∀ v9 w9, OwnC w9 (w1.heap.size + 1) v9 (cs ++ [c]) → W.grownBy w9 (Value.slice sa cs.length sc).ownBlock → ∃ a9 c9, v9 = .slice a9 (cs.length + 1) c9 ∧ Hid (OwnC (w9.setCell ⟨w1.heap.size, 2, none⟩ (.slice a9 (cs.length + 1) c9)) (w1.heap.size + 1) (.slice a9 (cs.length + 1) c9) (cs ++ [c])) ∧ Hid (LAt (w9.setCell ⟨w1.heap.size, 2, none⟩ (.slice a9 (cs.length + 1) c9)) w.heap.size ⟨0, 0, none, 0, 0⟩) ∧ Hid (LAt (w9.setCell ⟨w1.heap.size, 2, none⟩ (.slice a9 (cs.length + 1) c9)) w1.heap.size ⟨T, Q, a9, cs.length + 1, c9⟩) ∧ Hid (Ex w (w9.setCell ⟨w1.heap.size, 2, none⟩ (.slice a9 (cs.length + 1) c9))) ∧
              w9.cell? ⟨w1.heap.size, 2, none⟩ = some (.slice sa cs.length sc) ∧ w9.frozen? ⟨w1.heap.size, 2, none⟩ = false := by
            intro v9 w9 ho9 hg9
            have hne : ∀ g, g < w1.heap.size + 1 → (Value.slice sa cs.length sc).ownBlock ≠ some g := fun g hg e => by have := HOr.out.lt g e; omega
            obtain ⟨a9, c9, hv, hb9⟩ := ho9.rd cc_len
            rw [List.length_append, List.length_singleton] at hv
            subst hv
            have hne9 : ∀ g, g < w1.heap.size + 1 → (Value.slice a9 (cs.length + 1) c9).ownBlock ≠ some g := fun g hg e => by have := ho9.lt g e; omega
            have hs1 := HSZ.out
            have hL1 := hZW.far hg9 (hne _ (by omega))
            have hL2 := hVW.far hg9 (hne _ (by omega))
            have hx9 : Ex w w9 := (HX5.out.trans hXW).grown hg9 (by omega) (fun k hk => by have := HOr.out.lt k hk; omega)
            exact ⟨a9, c9, rfl, ho9.apart (hne9 _ (by omega)), hL1.other (by omega), hL2.set (k := 2) (v' := ⟨T, Q, a9, cs.length + 1, c9⟩) rfl, Below.setCell hx9 (p := ⟨w1.heap.size, 2, none⟩) (Nat.le_of_lt hs1) _, hL2.cell 2, hL2.frozen 2⟩
          have HCs2 : Hid (∀ d ∈ cs ++ [c], Rw.CeIn d) := (fun d hd => by
            rcases List.mem_append.1 hd with h | h
            · exact HCs.out d h
            · rw [List.mem_singleton] at h; subst h; exact HCI.out : ∀ d ∈ cs ++ [c], Rw.CeIn d)
          have HLN2 : Hid ((cs ++ [c]).length = j + 1) := (by have := HLN.out; simp; omega : (cs ++ [c]).length = j + 1)
          clear hXW hZW hVW hTL hn
          go_wp2_with (at_builtin; refine wpList_append_wide cc_len cc_one rfl (.tmp 39) (.tmp 41) 23 _ 48 rfl Try.underlying23 Try.info25 (by omega) rfl (w1.heap.size + 1) _ cs rfl HOW.out _ 1 1 _ rfl rfl HRW.out (by simp [maxLen]; omega) (by simp; omega) hszW ?_; intro v9 w9 ho9 hg9 _; obtain ⟨a9, c9, rfl, HO9, HL9, HV9, HX9, j0, j1⟩ := hstep v9 w9 ho9 hg9; clear ho9 hg9)
          go_roundw
          case rel =>
            refine ⟨j + 1, k', cs ++ [c], a9, c9, by omega, by go_num, rfl, HLN2, HTL2, HCs2, ?_, HL9, ?_, HX9⟩
            · rw [List.length_append, List.length_singleton]; exact HO9
            · rw [List.length_append, List.length_singleton]; exact HV9
          case measure => simp [intOf]; omega
        · have HRES : Hid ((Rw.zero, 0, ec) = (R, k0, e0)) := (by rw [← hTL]; exact (Rw.tlr_bad (by rw [HRD.out]) hec).symm : (Rw.zero, 0, ec) = (R, k0, e0))
          have tz : ((ec : Int) == 0) = false := by simp; omega
          have tz2 : ((ec : Int) != 0) = true := by simp; omega
          clear hTL hn
          go_wp2_with fail
          have hL9 := LAt.store HZ5.out ⟨0, 0, none, 0, 0⟩
          have hX9 := Below.lset HX5.out (Nat.le_refl _) ⟨0, 0, none, 0, 0⟩
          have hf := HRES.out
          simp only [Prod.mk.injEq] at hf
          obtain ⟨rfl, rfl, rfl⟩ := hf
          refine bodyPost_ret (v := .tuple #[rvv ⟨0, 0, none, 0, 0⟩, .int .i64 0, .int .i64 ec]) (res_row3 Try.results16 rfl rfl rfl hL9) rfl ?_
          exact ⟨none, 0, rfl, RdW.nil _, hX9⟩
      · have hti : ¬ (j : Int) < (m : Int) := by omega
        obtain ⟨sa', sc', hsv, hRC⟩ := HOr.out.rd cc_len
        simp only [Value.slice.injEq] at hsv
        obtain ⟨rfl, _, rfl⟩ := hsv
        have HRC : Hid (RdC wr sa sc cs) := hRC
        have HTL0 : Hid (Rw.fin ⟨T, Q, cs⟩ k = (R, k0, e0)) := (by rw [← Rw.tlr_zero b, ← HTLr.out, show m - j = 0 by omega] : Rw.fin ⟨T, Q, cs⟩ k = (R, k0, e0))
        have HRV : Hid (RvOk wr ⟨T, Q, sa, cs.length, sc⟩ ⟨T, Q, cs⟩) := (⟨rfl, rfl, rfl, hRC⟩ : RvOk wr ⟨T, Q, sa, cs.length, sc⟩ ⟨T, Q, cs⟩)
        have HOKr : Hid (RwOk ⟨T, Q, cs⟩) := (⟨HRT.out.1, HRT.out.2, HCs.out⟩ : RwOk ⟨T, Q, cs⟩)
        obtain ⟨o, ho⟩ : ∃ o, Rw.right ⟨T, Q, cs⟩ = o := ⟨_, rfl⟩
        have HO : Hid (Rw.right ⟨T, Q, cs⟩ = o) := ho
        obtain ⟨v0, v1, v2⟩ := HVr.out.all
        clear hRC ho
        go_wp2_with fail
        go_at_call 14
        refine (sright_is ⟨T, Q, sa, cs.length, sc⟩ ⟨T, Q, cs⟩ _ HRV.out HOKr.out o HO.out).mono ?_
        rintro e w6 ⟨rfl, hx6⟩
        have HZ6 : Hid (LAt w6 w.heap.size ⟨0, 0, none, 0, 0⟩) := HZr.out.below hx6
        have HV6 : Hid (LAt w6 w1.heap.size ⟨T, Q, sa, cs.length, sc⟩) := HVr.out.below hx6
        have HX6 : Hid (Ex w w6) := HXr.out.trans hx6
        have HR6 : Hid (RdC w6 sa sc cs) := RdW.below HRC.out hx6
        clear hx6 v0 v1 v2
        obtain ⟨v0, v1, v2⟩ := HV6.out.all
        obtain ⟨p0, p1, p2⟩ := HZ6.out.all
        obtain ⟨f0, f1, f2⟩ := HZ6.out.fro
        cases o with
        | false =>
          have HRES : Hid ((Rw.zero, 0, 12) = (R, k0, e0)) := (by rw [← HTL0.out]; unfold Rw.fin; rw [HO.out]; rfl : (Rw.zero, 0, 12) = (R, k0, e0))
          go_wp2_with fail
          have hL9 := LAt.store HZ6.out ⟨0, 0, none, 0, 0⟩
          have hX9 := Below.lset HX6.out (Nat.le_refl _) ⟨0, 0, none, 0, 0⟩
          have hf := HRES.out
          simp only [Prod.mk.injEq] at hf
          obtain ⟨rfl, rfl, rfl⟩ := hf
          refine bodyPost_ret (v := .tuple #[rvv ⟨0, 0, none, 0, 0⟩, .int .i64 0, .int .i64 12]) (res_row3 Try.results16 rfl rfl rfl hL9) rfl ?_
          exact ⟨none, 0, rfl, RdW.nil _, hX9⟩
        | true =>
          have HRES : Hid ((⟨T, Q, cs⟩, k, 0) = (R, k0, e0)) := (by rw [← HTL0.out]; unfold Rw.fin; rw [HO.out]; rfl : (⟨T, Q, cs⟩, k, 0) = (R, k0, e0))
          go_wp2_with fail
          have hL9 := LAt.store HZ6.out ⟨T, Q, sa, cs.length, sc⟩
          have hX9 := Below.lset HX6.out (Nat.le_refl _) ⟨T, Q, sa, cs.length, sc⟩
          have hR9 : RdC (lset w6 w.heap.size ⟨T, Q, sa, cs.length, sc⟩) sa sc cs := RdC.lset HR6.out HZ6.out _
          have hf := HRES.out
          simp only [Prod.mk.injEq] at hf
          obtain ⟨rfl, rfl, rfl⟩ := hf
          refine bodyPost_ret (v := .tuple #[rvv ⟨T, Q, sa, cs.length, sc⟩, .int .i64 (k : Int), .int .i64 0]) (res_row3 Try.results16 rfl rfl rfl hL9) rfl ?_
          exact ⟨sa, sc, rfl, hR9, hX9⟩
  · have HRES : Hid ((Rw.zero, 0, eh) = (R, k0, e0)) := (by rw [← HR.out, if_pos he] : (Rw.zero, 0, eh) = (R, k0, e0))
    have tz : ((eh : Int) == 0) = false := by simp; omega
    have tz2 : ((eh : Int) != 0) = true := by simp; omega
    go_wp2_with fail
    have hL9 := LAt.store HZ2.out ⟨0, 0, none, 0, 0⟩
    have hX9 := Below.lset HX2.out (Nat.le_refl _) ⟨0, 0, none, 0, 0⟩
    have hf := HRES.out
    simp only [Prod.mk.injEq] at hf
    obtain ⟨rfl, rfl, rfl⟩ := hf
    refine bodyPost_ret (v := .tuple #[rvv ⟨0, 0, none, 0, 0⟩, .int .i64 0, .int .i64 eh]) (res_row3 Try.results16 rfl rfl rfl hL9) rfl ?_
    exact ⟨none, 0, rfl, RdW.nil _, hX9⟩
end Go.Proofs.Ytghnbohplonhoaa
