/-
  Package block: Open, over the program.
-/
import Derived.Test.YthibeoohhcmejaaSeals
namespace Go.Proofs.Ythibeoohhcmejaa
open Go.RowKit
set_option linter.unusedVariables false

theorem opn_bad {d : List UInt8} {r e0 : Nat} (h : headR d = (r, e0)) (he : e0 ≠ 0) : K.opn d = ([], 0, e0) := by
  unfold headR at h
  unfold K.opn
  split at h
  · rename_i h8; simp only [Prod.mk.injEq] at h; rw [if_pos h8, ← h.2]
  · rename_i h8
    rw [if_neg h8]
    split at h
    · rename_i h4; simp only [Prod.mk.injEq] at h; rw [if_pos h4, ← h.2]
    · rename_i h4
      rw [if_neg h4]
      split at h
      · rename_i hl; simp only [Prod.mk.injEq] at h; rw [if_pos hl, ← h.2]
      · simp only [Prod.mk.injEq] at h; omega
theorem opn_good {d : List UInt8} {r : Nat} (h : headR d = (r, 0)) : 8 ≤ d.length ∧ r ≤ 1048576 ∧
    K.opn d = if d.length < r + 12 then ([], 0, 10) else if K.num (d.drop (8 + r)) ≠ S.crc ((d.drop 8).take r) then ([], 0, 14) else ((d.drop 8).take r, 12 + r, 0) := by
  unfold headR at h
  unfold K.opn
  split at h
  · simp at h
  · rename_i h8
    rw [if_neg h8]
    split at h
    · simp at h
    · rename_i h4
      rw [if_neg h4]
      split at h
      · simp at h
      · rename_i hl
        simp only [Prod.mk.injEq, and_true] at h
        rw [if_neg hl, h]
        exact ⟨by omega, by omega, rfl⟩
theorem headR_short {d : List UInt8} {r e0 : Nat} (h : headR d = (r, e0)) (h8 : d.length < 8) : r = 0 ∧ e0 = 10 := by
  unfold headR at h
  rw [if_pos h8] at h
  simp only [Prod.mk.injEq] at h
  omega
/-- A new row of X's bytes: made of noughts, X copied into it. -/
theorem own_copied {w w2 : World} {X : List UInt8} {Z : List Value} (hm : X.length ≤ 281474976710656) (hZ : Z.length = X.length) (h : w2.heap[w.heap.size]? = some (.cells (splice Z 0 (cs X)).toArray 5 (0, 0))) :
    Own w2 w.heap.size (.slice (some ⟨w.heap.size, 0, none⟩) X.length X.length) X := by
  have e : splice Z 0 (cs X) = cs X := by
    simp only [splice, List.take_zero, List.nil_append, Nat.zero_add, cs_len]
    rw [List.drop_eq_nil_of_le (by omega), List.append_nil]
  rw [e] at h
  refine ⟨by simp [cs_len], .inr ⟨w.heap.size, X.length, _, rfl, Nat.le_refl _, h, by omega, by unfold maxLen; omega, by simp [cs_len], ?_⟩⟩
  simp only [Nat.mul_one]
  rw [List.take_of_length_le (by rw [cs_len]; omega)]

set_option maxRecDepth 100000 in
set_option maxHeartbeats 2000000 in
/-- Open where fewer than eight bytes are left. -/
theorem open_few (a : Option Addr) (cap : Nat) (l : List UInt8) (p : Nat) (w : World) (hB : Byt w a cap l) (hp : p ≤ l.length) (h8 : l.length - p < 8) :
    Calls Try.prog 10 #[.slice a l.length cap, .int .i64 p] w fun e w' => e = .returned (.tuple #[.slice none 0 0, .int .i64 0, .int .i64 10]) ∧ w' = w := by
  have hcl := hB.1
  have hcm := hB.2.1
  unfold maxLen at hcm
  have q1 : decide ((p : Int) < 0) = false := by simp
  have q2 : decide ((l.length : Int) < (p : Int)) = false := by simp; omega
  have q9 : ((10 : Int) != 0) = true := by decide
  clear hB
  by_cases hcp : cap = p
  · subst hcp
    go_enter Try.func10, Try.ntmps10
    go_wp2_with fail
    refine (head_short _ _ _ _ (by omega)).mono ?_
    rintro e wq ⟨rfl, hw⟩
    have hw' := hw.symm; clear hw; subst hw'
    go_wp2
    go_ret3
    exact ⟨rfl, rfl⟩
  · have hne : ¬ cap - p = 0 := by omega
    go_enter Try.func10, Try.ntmps10
    go_wp2_with fail
    refine (head_short _ _ _ _ (by omega)).mono ?_
    rintro e wq ⟨rfl, hw⟩
    have hw' := hw.symm; clear hw; subst hw'
    go_wp2
    go_ret3
    exact ⟨rfl, rfl⟩

set_option maxRecDepth 100000 in
set_option maxHeartbeats 2000000 in
/-- Open, at a place that is there: what it answers, by what begins there. -/
theorem open_in (a : Option Addr) (cap : Nat) (l : List UInt8) (p : Nat) (w : World) (hB : Byt w a cap l) (hbl : l.length ≤ 281474976710656) (hp : p ≤ l.length) (x : List UInt8) (k e0 : Nat) (hr : K.opn (l.drop p) = (x, k, e0)) :
    Calls Try.prog 10 #[.slice a l.length cap, .int .i64 p] w fun e w' => ∃ v, e = .returned (.tuple #[v, .int .i64 ((if e0 = 0 then p + k else 0 : Nat) : Int), .int .i64 e0]) ∧ Own w' w.heap.size v x ∧ Ex w w' := by
  have hdl : (l.drop p).length = l.length - p := by simp
  obtain ⟨⟨r, e1⟩, hh⟩ : ∃ z, headR (l.drop p) = z := ⟨_, rfl⟩
  by_cases c8 : l.length - p < 8
  · obtain ⟨rfl, rfl⟩ := headR_short hh (by omega)
    rw [opn_bad hh (by omega)] at hr
    simp only [Prod.mk.injEq] at hr
    obtain ⟨rfl, rfl, rfl⟩ := hr
    refine (open_few a cap l p w hB hp c8).mono ?_
    rintro e w' ⟨rfl, rfl⟩
    exact ⟨_, rfl, own_none _ _, Ex.refl _⟩
  · have hcl := hB.1
    have hcm := hB.2.1
    unfold maxLen at hcm
    obtain ⟨b, off, rfl⟩ := hB.some_ (by omega)
    have q1 : decide ((p : Int) < 0) = false := by simp
    have q2 : decide ((l.length : Int) < (p : Int)) = false := by simp; omega
    have hne1 : ¬ cap - p = 0 := by omega
    have HB : Hid (Byt w (some ⟨b, off, none⟩) cap l) := hB
    have HH : Hid (headR (l.drop p) = (r, e1)) := hh
    have HB1 : Hid (Byt w (some ⟨b, off + p, none⟩) (cap - p) (l.drop p)) := hB.from p hp
    clear hB
    by_cases he : e1 = 0
    · subst he
      obtain ⟨_, hrm, ho⟩ := opn_good hh
      rw [ho, hdl] at hr
      clear ho hh
      by_cases cn : l.length - p < r + 12
      · rw [if_pos cn] at hr
        simp only [Prod.mk.injEq] at hr
        obtain ⟨rfl, rfl, rfl⟩ := hr
        have hsub : ((l.length - p : Nat) : Int) = (l.length : Int) - (p : Int) := by omega
        have q6 : decide (((l.length - p : Nat) : Int) - 8 < (r : Int) + 4) = true := by simp; omega
        have q6' : decide ((l.length : Int) - (p : Int) - 8 < (r : Int) + 4) = true := by simp; omega
        go_enter Try.func10, Try.ntmps10
        go_wp2_with fail
        refine (head_is _ _ _ (l.drop p) _ hdl.symm HB1.out r 0 HH.out).mono ?_
        rintro e wq ⟨rfl, hw⟩
        have hw' := hw.symm; clear hw; subst hw'
        go_wp2
        go_ret3
        exact ⟨_, rfl, own_none _ _, Ex.refl _⟩
      · rw [if_neg cn] at hr
        have q6 : decide (((l.length - p : Nat) : Int) - 8 < (r : Int) + 4) = false := by simp; omega
        have q6' : decide ((l.length : Int) - (p : Int) - 8 < (r : Int) + 4) = false := by simp; omega
        obtain ⟨X, hX⟩ : ∃ X, ((l.drop p).drop 8).take r = X := ⟨_, rfl⟩
        have hXl : X.length = r := by rw [← hX]; simp; omega
        obtain ⟨C, hC⟩ : ∃ C, S.crc X = C := ⟨_, rfl⟩
        obtain ⟨E, hE⟩ : ∃ E, K.num ((l.drop p).drop (8 + r)) = E := ⟨_, rfl⟩
        rw [hX, hC, hE] at hr
        have hBX := HB1.out.part 8 r (by simp; omega)
        rw [hX] at hBX
        have hBE := HB1.out.from (8 + r) (by simp; omega)
        have HBX : Hid (Byt w (some ⟨b, off + p + 8, none⟩) (cap - p - 8) X) := hBX
        have HBE : Hid (Byt w (some ⟨b, off + p + (8 + r), none⟩) (cap - p - (8 + r)) ((l.drop p).drop (8 + r))) := hBE
        have HC : Hid (S.crc X = C) := hC
        have HE : Hid (K.num ((l.drop p).drop (8 + r)) = E) := hE
        have HXl : Hid (X.length = r) := hXl
        have hel : ((l.drop p).drop (8 + r)).length = l.length - p - (8 + r) := by simp; omega
        have HEl : Hid (((l.drop p).drop (8 + r)).length = l.length - p - (8 + r)) := hel
        have hne2 : ¬ cap - p - 8 = 0 := by omega
        have hne3 : ¬ cap - p - (8 + r) = 0 := by omega
        clear hX hC hE hXl hBX hBE hel
        by_cases cc : E = C
        · rw [if_neg (by simp [cc])] at hr
          simp only [Prod.mk.injEq] at hr
          obtain ⟨rfl, rfl, rfl⟩ := hr
          have q7 : ((C : Int) != (E : Int)) = false := by simp; omega
          have cca : E ≤ C := by omega
          have ccb : C ≤ E := by omega
          clear cc
          go_enter Try.func10, Try.ntmps10
          go_wp2_with fail
          refine (head_is _ _ _ (l.drop p) _ hdl.symm HB1.out r 0 HH.out).mono ?_
          rintro e wq ⟨rfl, hw⟩
          have hw' := hw.symm; clear hw; subst hw'
          go_wp2_with fail
          go_quiet (first
            | (go_at_call 23; refine Calls.quiet_of_same (crc_is _ _ _ X _ C HC.out (HBX.out.below (Ex.drewN _ _)) (by have := HXl.out; omega)))
            | (go_at_call 25; refine Calls.quiet_of_same (number_is _ _ _ ((l.drop p).drop (8 + r)) _ E HE.out (HBE.out.below (Ex.drewN _ _)) (by have := HEl.out; omega) (by have := HEl.out; omega))))
          have HX0 : Hid (Ex w (w.drewN nq)) := Ex.drewN _ _
          obtain ⟨w0, hw0⟩ : ∃ w0, w0 = w.drewN nq := ⟨_, rfl⟩
          rw [← hw0] at HX0 ⊢
          have hBX := HBX.out.below HX0.out
          clear hw0
          obtain ⟨hlc, _, _, hcell⟩ := hBX
          obtain ⟨Z, hZ⟩ : ∃ Z, Z = cs (List.replicate r 0) := ⟨_, rfl⟩
          have hZl : Z.length = r := by rw [hZ, cs_len]; simp
          have HZl : Hid (Z.length = r) := hZl
          have HZ : Hid (Z = cs (List.replicate r 0)) := hZ
          obtain ⟨D, hD⟩ : ∃ D, D = cs X := ⟨_, rfl⟩
          have HD : Hid (D = cs X) := hD
          have hone : ∀ v ∈ D, v.oneCell' = true := by rw [hD]; exact cs_one X
          clear hZ hZl hD
          go_wp2_with (first
            | (at_make; refine wpList_make_zero rfl _ _ rfl _ _ r rfl rfl (by omega) (by omega) (by omega) ?_; intro w1 hg1 hb1; rw [← HZ.out] at hg1)
            | (have _t := hg1; refine wpList_copy_splice rfl (.tmp 52) (.tmp 53) 22 22 rfl 5 Try.underlying22 Try.size5 _ _ _ _ _ _ rfl rfl w0.heap.size 0 Z 5 hg1 D ?c1 ?c2 ?c3 hone w0.heap.size w0 hb1 (Nat.le_refl _) ?_; rotate_right; intro w2 hg2 hb2; clear hg1))
          case c1 => have := HXl.out; rw [HD.out, cs_len]; show _ = min _ _; omega
          case c2 =>
            intro h0 j u hu
            rw [HD.out] at hu
            obtain ⟨hj, rfl⟩ := cs_get hu
            obtain ⟨b', off', hbo, hc⟩ := hcell j hj
            simp at hbo
            obtain ⟨rfl, rfl⟩ := hbo
            rw [hb1.cell (p := ⟨b, off + p + 8 + j, none⟩) (World.block_lt_of_cell? w0 _ hc)]
            exact hc
          case c3 => have := HZl.out; have := HXl.out; rw [HD.out, cs_len]; omega
          have hg := hg2.out
          rw [HD.out] at hg
          have hO := own_copied (by have := HXl.out; omega) (by rw [HZl.out, HXl.out]) hg
          rw [HXl.out] at hO
          have HO : Hid (Own w2 w.heap.size (.slice (some ⟨w0.heap.size, 0, none⟩) r r) X) := hO.mono (Ex.size HX0.out)
          have HX2 : Hid (Ex w w2) := HX0.out.trans hb2
          clear hg hO hg2 hb1 hb2 hone hcell
          go_wp2
          go_ret3
          exact ⟨_, ret3 rfl (I.int_num (by omega)) rfl, HO.out, HX2.out⟩
        · rw [if_pos (by simpa using cc)] at hr
          simp only [Prod.mk.injEq] at hr
          obtain ⟨rfl, rfl, rfl⟩ := hr
          have q7 : ((C : Int) != (E : Int)) = true := by simp; omega
          clear cc
          go_enter Try.func10, Try.ntmps10
          go_wp2_with fail
          refine (head_is _ _ _ (l.drop p) _ hdl.symm HB1.out r 0 HH.out).mono ?_
          rintro e wq ⟨rfl, hw⟩
          have hw' := hw.symm; clear hw; subst hw'
          go_wp2_with fail
          go_quiet (first
            | (go_at_call 23; refine Calls.quiet_of_same (crc_is _ _ _ X _ C HC.out (HBX.out.below (Ex.drewN _ _)) (by have := HXl.out; omega)))
            | (go_at_call 25; refine Calls.quiet_of_same (number_is _ _ _ ((l.drop p).drop (8 + r)) _ E HE.out (HBE.out.below (Ex.drewN _ _)) (by have := HEl.out; omega) (by have := HEl.out; omega))))
          have HX0 : Hid (Ex w (w.drewN nq)) := Ex.drewN _ _
          go_wp2
          go_ret3
          exact ⟨_, rfl, own_none _ _, HX0.out⟩
    · rw [opn_bad hh he] at hr
      simp only [Prod.mk.injEq] at hr
      obtain ⟨rfl, rfl, rfl⟩ := hr
      have tne : ((e1 : Int) != 0) = true := by simp; omega
      clear hh
      go_enter Try.func10, Try.ntmps10
      go_wp2_with fail
      refine (head_is _ _ _ (l.drop p) _ hdl.symm HB1.out r e1 HH.out).mono ?_
      rintro e wq ⟨rfl, hw⟩
      have hw' := hw.symm; clear hw; subst hw'
      go_wp2
      go_ret3
      exact ⟨_, rfl, own_none _ _, Ex.refl _⟩
set_option maxRecDepth 100000 in
theorem open_arg (a : Option Addr) (cap : Nat) (l : List UInt8) (p : Int) (w : World) (hB : Byt w a cap l) (hp : p < 0 ∨ (l.length : Int) < p) :
    Calls Try.prog 10 #[.slice a l.length cap, .int .i64 p] w fun e w' => e = .returned (.tuple #[.slice none 0 0, .int .i64 0, .int .i64 1]) ∧ w' = w := by
  have hcl := hB.1
  have hcm := hB.2.1
  unfold maxLen at hcm
  clear hB
  by_cases h0 : p < 0
  · have q1 : decide (p < 0) = true := by simp; omega
    go_enter Try.func10, Try.ntmps10
    go_wp2
    go_ret3
    exact ⟨rfl, rfl⟩
  · have q1 : decide (p < 0) = false := by simp; omega
    have q2 : decide ((l.length : Int) < p) = true := by simp; omega
    clear hp
    go_enter Try.func10, Try.ntmps10
    go_wp2
    go_ret3
    exact ⟨rfl, rfl⟩
theorem opened_is (a : Option Addr) (len cap : Nat) (l : List UInt8) (p : Int) (w : World) (hlen : len = l.length) (hB : Byt w a cap l) (hbl : l.length ≤ 281474976710656) (x : List UInt8) (k0 e0 : Nat) (hr : K.opens l p = (x, k0, e0)) :
    Calls Try.prog 10 #[.slice a len cap, .int .i64 p] w fun e w' => ∃ v, e = .returned (.tuple #[v, .int .i64 k0, .int .i64 e0]) ∧ Own w' w.heap.size v x ∧ Ex w w' := by
  subst hlen
  unfold K.opens at hr
  by_cases hp : p < 0 ∨ (l.length : Int) < p
  · rw [if_pos hp] at hr
    simp only [Prod.mk.injEq] at hr
    obtain ⟨rfl, rfl, rfl⟩ := hr
    refine (open_arg a cap l p w hB hp).mono ?_
    rintro e w' ⟨rfl, rfl⟩
    exact ⟨_, rfl, own_none _ _, Ex.refl _⟩
  · rw [if_neg hp] at hr
    obtain ⟨n, rfl⟩ := Int.eq_ofNat_of_zero_le (show 0 ≤ p by omega)
    rw [Int.toNat_natCast] at hr
    obtain ⟨⟨y, k, e1⟩, ho⟩ : ∃ z, K.opn (l.drop n) = z := ⟨_, rfl⟩
    have he := K.opn_err_le (l.drop n)
    rw [ho] at hr he
    simp only at hr he
    refine (open_in a cap l n w hB hbl (by omega) y k e1 ho).mono ?_
    rintro e w' ⟨v, rfl, h1, h2⟩
    refine ⟨v, ?_, ?_, h2⟩
    · split at hr
      · rename_i h0
        simp only [Prod.mk.injEq] at hr
        rw [if_neg h0, hr.2.1, hr.2.2]
      · rename_i h0
        simp only [Prod.mk.injEq] at hr
        rw [if_pos (by omega), hr.2.1, show e1 = e0 from by omega]
    · split at hr
      · simp only [Prod.mk.injEq] at hr
        rcases he with he | he
        · contradiction
        · rw [← hr.1, ← he.1]; exact h1
      · simp only [Prod.mk.injEq] at hr
        rw [← hr.1]; exact h1
end Go.Proofs.Ythibeoohhcmejaa
