/-
  The document's own Right, and the package's.
-/
import Derived.Test.YtghnbohplonhoaaRcell
namespace Go.Proofs.Ytghnbohplonhoaa
open Go.RowKit
set_option linter.unusedVariables false
set_option linter.unusedSimpArgs false
theorem T.rise_snoc {l : List (List UInt8)} {x : List UInt8} (h : T.Rise l) (hl : ∀ y, l[l.length - 1]? = some y → T.lt y x = true) : T.Rise (l ++ [x]) := by
  unfold T.Rise
  rw [List.pairwise_append]
  refine ⟨h, List.pairwise_singleton _ _, fun y hy z hz => ?_⟩
  rw [List.mem_singleton] at hz
  subst hz
  obtain ⟨i, hi⟩ := List.getElem?_of_mem hy
  have hil := (List.getElem?_eq_some_iff.1 hi).1
  obtain ⟨u, hu⟩ : ∃ u, l[l.length - 1]? = some u := ⟨_, List.getElem?_eq_getElem (by omega)⟩
  by_cases he : i = l.length - 1
  · rw [he] at hi
    exact hl y hi
  · exact T.lt_trans (T.rise_at h hi hu (by omega)) (hl u hu)
theorem le_form (x y : List UInt8) : (Op.bytesLess x y || x == y) = !T.lt y x := by
  rcases T.lt_total x y with h | h | h
  · have h' : Op.bytesLess x y = true := h
    rw [T.lt_asymm h, h']; rfl
  · subst h
    have h' := T.lt_irrefl x
    rw [h']; simp
  · have h' : Op.bytesLess x y = false := T.lt_asymm h
    rw [h, h']
    have hne : ¬ x = y := fun e => T.lt_ne h e.symm
    simp [hne]
theorem Rw.right_bad {r : Rw} {c : Ce} (h : c ∈ r.c) (hc : Rw.celOk c = false) : Rw.right r = false := by
  cases hr : Rw.right r with
  | false => rfl
  | true => have := ((Rw.right_iff r).1 hr).2.1 c h; rw [hc] at this; cases this
theorem Rw.right_down {r : Rw} {i : Nat} {c d : Ce} (h : r.c[i]? = some c) (h' : r.c[i + 1]? = some d) (hc : T.lt c.col d.col = false) : Rw.right r = false := by
  cases hr : Rw.right r with
  | false => rfl
  | true =>
    have := T.rise_at ((Rw.right_iff r).1 hr).2.2 (i := i) (j := i + 1) (x := c.col) (y := d.col) (by simp [h]) (by simp [h']) (by omega)
    rw [hc] at this; cases this
set_option maxHeartbeats 8000000 in
set_option maxRecDepth 100000 in
theorem rright_is (v : RV) (r : Rw) (w : World) (h : RvOk w v r) (hl : ∀ c ∈ r.c, c.col.length ≤ maxLen ∧ c.s.length ≤ maxLen) (o : Bool) (ho : Rw.right r = o) : Calls Try.prog 15 #[rvv v] w fun e w' => e = .returned (.bool o) ∧ Ex w w' := by
  obtain ⟨vt, vq, p, n, cap⟩ := v
  obtain ⟨rfl, rfl, hn, hB⟩ := h
  simp only at hn hB
  subst hn
  have h1 := hB.1
  have h2 := hB.2.1
  unfold maxLen at h2
  have HO : Hid (Rw.right r = o) := ho
  have HLl : Hid (∀ c ∈ r.c, c.col.length ≤ maxLen ∧ c.s.length ≤ maxLen) := hl
  have HX : Hid (Ex w (w.alloc (rb ⟨r.t, r.q, p, r.c.length, cap⟩))) := ((Below.refl _ _).alloc (Nat.le_refl _) _ : Ex w _)
  have HB : Hid (RdC w p cap r.c) := hB
  have HL : Hid (LAt (w.alloc (rb ⟨r.t, r.q, p, r.c.length, cap⟩)) w.heap.size ⟨r.t, r.q, p, r.c.length, cap⟩) := LAt.new w _
  clear hB ho hl
  unfold rvv
  simp only [sv]
  go_enter Try.func15, Try.ntmps15
  go_upto_region 1 with fail
  obtain ⟨q, hq⟩ : ∃ q, (!Rw.head r) = q := ⟨_, rfl⟩
  have HQ : Hid ((!Rw.head r) = q) := hq
  clear hq
  go_cut [28] (fun v wc => v = .bool q ∧ wc = w.alloc (rb ⟨r.t, r.q, p, r.c.length, cap⟩))
  case first =>
    go_wp2_with fail
    all_goals (go_meet; refine ⟨?_, rfl⟩; go_light; rw [Value.bool.injEq, ← HQ.out, Bool.eq_iff_iff]; simp [Rw.head] at *; omega)
  case rest =>
    obtain ⟨rfl, rfl⟩ := hcut
    cases q with
    | true =>
      have hh : Rw.head r = false := by simpa using HQ.out
      have HF : Hid (o = false) := (by rw [← HO.out]; unfold Rw.right; rw [hh]; rfl : o = false)
      go_wp2_with fail
      go_ret
      exact ⟨by rw [HF.out]; rfl, HX.out⟩
    | false =>
      have HH : Hid (Rw.head r = true) := (by simpa using HQ.out : Rw.head r = true)
      go_wp2_with fail
      go_loopw [3, 4] (fun iv cv wr => ∃ i : Nat, i ≤ r.c.length ∧ iv = .int .i64 i ∧ Hid (∀ c ∈ r.c.take i, Rw.celOk c = true) ∧ Hid (T.Rise ((r.c.take i).map Ce.col)) ∧ Hid (LAt wr w.heap.size ⟨r.t, r.q, p, r.c.length, cap⟩) ∧ Hid (Ex w wr)) (fun iv cv wr => r.c.length - (intOf iv).toNat)
      case atStart => exact ⟨0, by omega, rfl, (by simp : ∀ c ∈ r.c.take 0, Rw.celOk c = true), (T.Rise.nil : T.Rise ((r.c.take 0).map Ce.col)), HL, HX⟩
      case round =>
        obtain ⟨i, hi, rfl, HA, HRi, HLr, HXr⟩ := hrel
        obtain ⟨n0, n1, n2⟩ := HLr.out.all
        by_cases hlt : i < r.c.length
        · have hti : (i : Int) < (r.c.length : Int) := by omega
          obtain ⟨b, off, hpp, e0, e1, e2, e3⟩ := RdC.four (HB.out.below HXr.out) hlt
          obtain ⟨d, hd⟩ : ∃ d, r.c[i] = d := ⟨_, rfl⟩
          rw [hd] at e0 e1 e2 e3
          have hmem : d ∈ r.c := by rw [← hd]; exact List.getElem_mem hlt
          obtain ⟨hdl1, hdl2⟩ := HLl.out d hmem
          have HM : Hid (d ∈ r.c) := hmem
          have hnx : r.c.take (i + 1) = r.c.take i ++ [d] := by rw [List.take_add_one, List.getElem?_eq_getElem hlt, hd]; rfl
          have HNX : Hid (r.c.take (i + 1) = r.c.take i ++ [d]) := hnx
          have HDI : Hid (r.c[i]? = some d) := (by rw [List.getElem?_eq_getElem hlt, hd] : r.c[i]? = some d)
          have HLw : Hid (LAt (wr.alloc (cb d)) w.heap.size ⟨r.t, r.q, p, r.c.length, cap⟩) := HLr.out.alloc _
          have HXw : Hid (Ex w (wr.alloc (cb d))) := HXr.out.trans ((Below.refl _ _).alloc (Nat.le_refl _) _)
          have HD1 : Hid (d.col.length ≤ maxLen) := hdl1
          obtain ⟨nb, hnb⟩ : ∃ x, Rw.name d.col = x := ⟨_, rfl⟩
          have HNB : Hid (Rw.name d.col = nb) := hnb
          have hszlt : w.heap.size < wr.heap.size := HLr.out.lt
          have hsS := str_size d.s
          have zS := str_toList d.s
          unfold maxLen at hdl2
          subst hpp
          clear hd hmem hdl1 hnx hnb
          obtain ⟨x0, x1, x2, x3⟩ := (EAt.new wr d).all
          cases nb with
          | true =>
            by_cases hi0 : i = 0
            · have t0 : decide (0 < (i : Int)) = false := by simp; omega
              have t1 : decide (0 < i) = false := by simp; omega
              have HR2 : Hid (T.Rise ((r.c.take (i + 1)).map Ce.col)) := (by rw [HNX.out, hi0]; simp [T.Rise] : T.Rise ((r.c.take (i + 1)).map Ce.col))
              clear hi0
              go_wp2_with fail
              go_quiet ((go_at_call 31; refine Calls.quiet_of_same (rname_is d.col _ HD1.out true HNB.out)))
              go_upto_region 9 with fail
              obtain ⟨w9, hw9⟩ : ∃ w9, w9 = (wr.alloc (cb d)).drewN nq := ⟨_, rfl⟩
              have HL9 : Hid (LAt w9 w.heap.size ⟨r.t, r.q, some ⟨b, off, none⟩, r.c.length, cap⟩) := (by rw [hw9]; exact HLw.out.below (Ex.drewN _ _) : LAt w9 w.heap.size ⟨r.t, r.q, some ⟨b, off, none⟩, r.c.length, cap⟩)
              have HX9 : Hid (Ex w w9) := (by rw [hw9]; exact HXw.out.trans (Ex.drewN _ _) : Ex w w9)
              have hE9 : EAt w9 wr.heap.size d := by rw [hw9]; exact (EAt.new wr d).below (Ex.drewN _ _)
              obtain ⟨g0, g1, g2, g3⟩ := hE9.all
              have HW9 : Hid (w9 = (wr.alloc (cb d)).drewN nq) := hw9
              clear hw9 hE9 x0 x1 x2 x3
              rw [← HW9.out]
              obtain ⟨fb, hfb⟩ : ∃ x, (!Rw.form d) = x := ⟨_, rfl⟩
              have HFB : Hid ((!Rw.form d) = fb) := hfb
              obtain ⟨k1, hk1⟩ : ∃ x, (d.k == 1) = x := ⟨_, rfl⟩
              obtain ⟨k2, hk2⟩ : ∃ x, (d.k == 2) = x := ⟨_, rfl⟩
              obtain ⟨k3, hk3⟩ : ∃ x, (d.n == 0) = x := ⟨_, rfl⟩
              obtain ⟨k4, hk4⟩ : ∃ x, (d.s == []) = x := ⟨_, rfl⟩
              have HK1 : Hid ((d.k == 1) = k1) := hk1
              have HK2 : Hid ((d.k == 2) = k2) := hk2
              have HK3 : Hid ((d.n == 0) = k3) := hk3
              have HK4 : Hid ((d.s == []) = k4) := hk4
              clear hfb
              go_cut [85] (fun v wc => v = .bool fb ∧ wc = w9)
              case first =>
                cases k1 <;> cases k2 <;> cases k3 <;> cases k4
                all_goals (go_wp2_with fail)
                all_goals (go_meet; refine ⟨?_, rfl⟩; go_light; rw [Value.bool.injEq, ← HFB.out]; have q1 := HK1.out; have q2 := HK2.out; have q3 := HK3.out; have q4 := HK4.out; simp at q1 q2 q3 q4; simp [Rw.form, q1, q2, q3, q4] at *; try omega)
              case rest =>
                obtain ⟨rfl, rfl⟩ := hcut
                clear hk1 hk2 hk3 hk4
                cases fb with
                | true =>
                  have HF : Hid (o = false) := (by rw [← HO.out]; exact Rw.right_bad HM.out (by unfold Rw.celOk; rw [show Rw.form d = false by simpa using HFB.out]; simp) : o = false)
                  go_wp2_with fail
                  go_ret
                  exact ⟨by rw [HF.out]; rfl, HX9.out⟩
                | false =>
                  have HA2 : Hid (∀ c ∈ r.c.take (i + 1), Rw.celOk c = true) := (by
                    intro c hc
                    rw [HNX.out] at hc
                    rcases List.mem_append.1 hc with h | h
                    · exact HA.out c h
                    · rw [List.mem_singleton] at h
                      subst h
                      unfold Rw.celOk
                      rw [HNB.out, show Rw.form c = true by simpa using HFB.out]; rfl : ∀ c ∈ r.c.take (i + 1), Rw.celOk c = true)
                  go_wp2_with fail
                  go_roundw
                  case rel => exact ⟨i + 1, by omega, by go_num, HA2, HR2, HL9, HX9⟩
                  case measure => simp [intOf]; omega
            · obtain ⟨k, rfl⟩ : ∃ k, i = k + 1 := ⟨i - 1, by omega⟩
              obtain ⟨b', off', hpp', e0', e1', e2', e3'⟩ := RdC.four (HB.out.below HXr.out) (show k < r.c.length by omega)
              obtain ⟨c, hc⟩ : ∃ c, r.c[k] = c := ⟨_, rfl⟩
              rw [hc] at e0'
              have hck : r.c[k]? = some c := by rw [List.getElem?_eq_getElem (by omega), hc]
              have HCK : Hid (r.c[k]? = some c) := hck
              have zc := str_toList c.col
              have zd := str_toList d.col
              simp only [Option.some.injEq, Addr.mk.injEq, and_true] at hpp'
              obtain ⟨rfl, rfl⟩ := hpp'
              have ew0 : (wr.alloc (cb d)).cell? ⟨b, off + k * 4, none⟩ = some (.string (str c.col)) := cell_ex e0' ((Below.refl _ _).alloc (Nat.le_refl _) _)
              have hgg := le_form d.col c.col
              have t0 : decide (0 < ((k : Int) + 1)) = true := decide_eq_true (by omega)
              have t1 : decide (0 < k + 1) = true := by simp
              clear hc hck e1' e2' e3' hi0
              cases hcd : T.lt c.col d.col with
              | true =>
                have hcd2 : Op.bytesLess c.col d.col = true := hcd
                rw [hcd] at hgg
                simp only [Bool.not_true] at hgg
                have HR2 : Hid (T.Rise ((r.c.take (k + 1 + 1)).map Ce.col)) := (by
                  rw [HNX.out, List.map_append]
                  refine T.rise_snoc HRi.out fun y hy => ?_
                  have hlen : ((r.c.take (k + 1)).map Ce.col).length - 1 = k := by simp; omega
                  rw [hlen, List.getElem?_map, List.getElem?_take, if_pos (by omega), HCK.out] at hy
                  simp at hy
                  rw [← hy]; exact hcd : T.Rise ((r.c.take (k + 1 + 1)).map Ce.col))
                clear hcd
                go_wp2_with fail
                go_quiet ((go_at_call 31; refine Calls.quiet_of_same (rname_is d.col _ HD1.out true HNB.out)))
                go_upto_region 9 with fail
                obtain ⟨w9, hw9⟩ : ∃ w9, w9 = (wr.alloc (cb d)).drewN nq := ⟨_, rfl⟩
                have HL9 : Hid (LAt w9 w.heap.size ⟨r.t, r.q, some ⟨b, off, none⟩, r.c.length, cap⟩) := (by rw [hw9]; exact HLw.out.below (Ex.drewN _ _) : LAt w9 w.heap.size ⟨r.t, r.q, some ⟨b, off, none⟩, r.c.length, cap⟩)
                have HX9 : Hid (Ex w w9) := (by rw [hw9]; exact HXw.out.trans (Ex.drewN _ _) : Ex w w9)
                have hE9 : EAt w9 wr.heap.size d := by rw [hw9]; exact (EAt.new wr d).below (Ex.drewN _ _)
                obtain ⟨g0, g1, g2, g3⟩ := hE9.all
                have HW9 : Hid (w9 = (wr.alloc (cb d)).drewN nq) := hw9
                clear hw9 hE9 x0 x1 x2 x3
                rw [← HW9.out]
                obtain ⟨fb, hfb⟩ : ∃ x, (!Rw.form d) = x := ⟨_, rfl⟩
                have HFB : Hid ((!Rw.form d) = fb) := hfb
                obtain ⟨k1, hk1⟩ : ∃ x, (d.k == 1) = x := ⟨_, rfl⟩
                obtain ⟨k2, hk2⟩ : ∃ x, (d.k == 2) = x := ⟨_, rfl⟩
                obtain ⟨k3, hk3⟩ : ∃ x, (d.n == 0) = x := ⟨_, rfl⟩
                obtain ⟨k4, hk4⟩ : ∃ x, (d.s == []) = x := ⟨_, rfl⟩
                have HK1 : Hid ((d.k == 1) = k1) := hk1
                have HK2 : Hid ((d.k == 2) = k2) := hk2
                have HK3 : Hid ((d.n == 0) = k3) := hk3
                have HK4 : Hid ((d.s == []) = k4) := hk4
                clear hfb
                go_cut [85] (fun v wc => v = .bool fb ∧ wc = w9)
                case first =>
                  cases k1 <;> cases k2 <;> cases k3 <;> cases k4
                  all_goals (go_wp2_with fail)
                  all_goals (go_meet; refine ⟨?_, rfl⟩; go_light; rw [Value.bool.injEq, ← HFB.out]; have q1 := HK1.out; have q2 := HK2.out; have q3 := HK3.out; have q4 := HK4.out; simp at q1 q2 q3 q4; simp [Rw.form, q1, q2, q3, q4] at *; try omega)
                case rest =>
                  obtain ⟨rfl, rfl⟩ := hcut
                  clear hk1 hk2 hk3 hk4
                  cases fb with
                  | true =>
                    have HF : Hid (o = false) := (by rw [← HO.out]; exact Rw.right_bad HM.out (by unfold Rw.celOk; rw [show Rw.form d = false by simpa using HFB.out]; simp) : o = false)
                    go_wp2_with fail
                    go_ret
                    exact ⟨by rw [HF.out]; rfl, HX9.out⟩
                  | false =>
                    have HA2 : Hid (∀ c ∈ r.c.take (k + 1 + 1), Rw.celOk c = true) := (by
                      intro c hc
                      rw [HNX.out] at hc
                      rcases List.mem_append.1 hc with h | h
                      · exact HA.out c h
                      · rw [List.mem_singleton] at h
                        subst h
                        unfold Rw.celOk
                        rw [HNB.out, show Rw.form c = true by simpa using HFB.out]; rfl : ∀ c ∈ r.c.take (k + 1 + 1), Rw.celOk c = true)
                    go_wp2_with fail
                    go_roundw
                    case rel => exact ⟨k + 1 + 1, by omega, by go_num, HA2, HR2, HL9, HX9⟩
                    case measure => simp [intOf]; omega
              | false =>
                have hcd2 : Op.bytesLess c.col d.col = false := hcd
                rw [hcd] at hgg
                simp only [Bool.not_false] at hgg
                have HF : Hid (o = false) := (by rw [← HO.out]; exact Rw.right_down HCK.out HDI.out hcd : o = false)
                clear hcd
                go_wp2_with fail
                go_quiet ((go_at_call 31; refine Calls.quiet_of_same (rname_is d.col _ HD1.out true HNB.out)))
                go_wp2_with fail
                go_ret
                exact ⟨by rw [HF.out]; rfl, HXw.out.trans (Ex.drewN _ _)⟩
          | false =>
            have HF : Hid (o = false) := (by rw [← HO.out]; exact Rw.right_bad HM.out (by unfold Rw.celOk; rw [HNB.out]; simp) : o = false)
            go_wp2_with fail
            go_quiet ((go_at_call 31; refine Calls.quiet_of_same (rname_is d.col _ HD1.out false HNB.out)))
            go_wp2_with fail
            go_ret
            exact ⟨by rw [HF.out]; rfl, HXw.out.trans (Ex.drewN _ _)⟩
        · have hti : ¬ (i : Int) < (r.c.length : Int) := by omega
          have HF : Hid (o = true) := (by rw [← HO.out, Rw.right_iff]; have h1 := HA.out; have h2 := HRi.out; rw [List.take_of_length_le (by omega)] at h1 h2; have h3 := HH.out; unfold Rw.head at h3; simp at h3; exact ⟨by omega, h1, h2⟩ : o = true)
          go_wp2_with fail
          go_ret
          exact ⟨by rw [HF.out]; rfl, HXr.out⟩
end Go.Proofs.Ytghnbohplonhoaa
