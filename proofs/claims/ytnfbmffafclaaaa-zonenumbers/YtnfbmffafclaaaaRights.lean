/-
  Of the landed zone: Right.
-/
import Derived.Test.YtnfbmffafclaaaaHeads
namespace Go.Proofs.Ytnfbmffafclaaaa
open Go.RowKit
set_option linter.unusedVariables false
set_option linter.unusedSimpArgs false
/-- A zone's three numbers, as the landed code asks them. -/
def Z.top (z : Zn) : Bool := decide (z.k = 1 ∨ z.k = 2) && decide (0 ≤ z.u) && decide (z.u ≤ z.r) && decide (z.r ≤ 1048576)
theorem Z.head_top (z : Zn) (h3 : In64 z.k) (h4 : In64 z.r) (h5 : In64 z.u) : Z.head (IntKind.u64.wrap z.k) (IntKind.u64.wrap z.r) (IntKind.u64.wrap z.u) = Z.top z := by
  have e : ∀ n : Int, IntKind.u64.wrap n = n % 18446744073709551616 := fun n => rfl
  unfold In64 at h3 h4 h5
  rw [e, e, e, Bool.eq_iff_iff]
  simp only [Z.head, Z.top, Bool.and_eq_true, decide_eq_true_eq]
  omega
theorem Z.right_top (z : Zn) : Z.right z = (Z.top z && (if Z.has z = false then Z.nums z && Z.texts z else if z.k = 1 then Z.texts z && decide (z.mn ≤ z.mx) else Z.nums z && Z.le z.ms z.xs && decide (z.ms.length ≤ 40) && decide (z.xs.length ≤ 40))) := by
  rw [Bool.eq_iff_iff]
  unfold Z.right Z.shape Z.top Z.has
  by_cases hu : z.u < z.r
  · have h1 : ¬ z.r = z.u := by omega
    simp only [hu, decide_true, Bool.true_eq_false, if_false, h1]
    by_cases hk : z.k = 1
    · simp only [hk, if_true, Bool.and_eq_true, decide_eq_true_eq, Z.texts]
      constructor
      · rintro ⟨⟨⟨⟨⟨⟨a, b⟩, c⟩, d⟩, e⟩, f⟩, g, i⟩
        exact ⟨⟨⟨⟨a, b⟩, c⟩, d⟩, g, i⟩
      · rintro ⟨⟨⟨⟨a, b⟩, c⟩, d⟩, g, i⟩
        exact ⟨⟨⟨⟨⟨⟨a, b⟩, c⟩, d⟩, by rw [g.1]; simp⟩, by rw [g.2]; simp⟩, g, i⟩
    · simp only [hk, if_false, Bool.and_eq_true, decide_eq_true_eq]
      constructor
      · rintro ⟨⟨⟨⟨⟨⟨a, b⟩, c⟩, d⟩, e⟩, f⟩, g, i⟩
        exact ⟨⟨⟨⟨a, b⟩, c⟩, d⟩, ⟨⟨g, i⟩, e⟩, f⟩
      · rintro ⟨⟨⟨⟨a, b⟩, c⟩, d⟩, ⟨⟨g, i⟩, e⟩, f⟩
        exact ⟨⟨⟨⟨⟨⟨a, b⟩, c⟩, d⟩, e⟩, f⟩, g, i⟩
  · simp only [hu, decide_false, if_true, Bool.and_eq_true, decide_eq_true_eq]
    constructor
    · rintro ⟨⟨⟨⟨⟨⟨a, b⟩, c⟩, d⟩, e⟩, f⟩, g⟩
      have h1 : z.r = z.u := by omega
      rw [if_pos h1] at g
      simp only [Bool.and_eq_true] at g
      exact ⟨⟨⟨⟨a, b⟩, c⟩, d⟩, g⟩
    · rintro ⟨⟨⟨⟨a, b⟩, c⟩, d⟩, g⟩
      have h1 : z.r = z.u := by omega
      rw [if_pos h1]
      have g2 := g.2
      simp only [Z.texts, Bool.and_eq_true, decide_eq_true_eq] at g2
      exact ⟨⟨⟨⟨⟨⟨a, b⟩, c⟩, d⟩, by rw [g2.1]; simp⟩, by rw [g2.2]; simp⟩, by simp only [Bool.and_eq_true]; exact g⟩
set_option maxHeartbeats 4000000 in
set_option maxRecDepth 100000 in
theorem right_is (z : Zn) (w : World) (h1 : z.ms.length ≤ maxLen) (h2 : z.xs.length ≤ maxLen) (h3 : In64 z.k) (h4 : In64 z.r) (h5 : In64 z.u) (r : Bool) (hr : Z.right z = r) : Calls Try.prog 12 #[zv z] w fun e w' => e = .returned (.bool r) ∧ Ex w w' := by
  have HT := Z.head_top z h3 h4 h5
  rw [Z.right_top] at hr
  have HR : Hid (_ = r) := hr
  clear hr h3 h4 h5
  obtain ⟨d, hd⟩ : ∃ x, Z.top z = x := ⟨_, rfl⟩
  obtain ⟨q, hq⟩ : ∃ x, Z.has z = x := ⟨_, rfl⟩
  rw [hd] at HT
  have HD : Hid (Z.top z = d) := hd
  have HQ : Hid (Z.has z = q) := hq
  have HT' : Hid (Z.head (IntKind.u64.wrap z.k) (IntKind.u64.wrap z.r) (IntKind.u64.wrap z.u) = d) := HT
  clear hd hq HT
  unfold zv
  unfold maxLen at h1 h2
  obtain ⟨n1, hn1⟩ : ∃ b, (z.mn != 0) = b := ⟨_, rfl⟩
  obtain ⟨n2, hn2⟩ : ∃ b, (z.mx != 0) = b := ⟨_, rfl⟩
  have N1 : Hid ((z.mn != 0) = n1) := hn1
  have N2 : Hid ((z.mx != 0) = n2) := hn2
  obtain ⟨w1, hw1⟩ : ∃ w1, w1 = w.alloc (zb z 23) := ⟨_, rfl⟩
  go_enter Try.func12, Try.ntmps12
  go_wp2_with fail
  refine (head_is _ _ _ _ d HT'.out).mono ?_
  rintro e w' ⟨rfl, rfl⟩
  cases d with
  | false =>
    go_wp2_with fail
    go_ret
    have hr := HR.out
    rw [HD.out, Bool.false_and] at hr
    exact ⟨by rw [← hr]; rfl, (Below.refl _ _).alloc (Nat.le_refl _) _⟩
  | true =>
    go_upto_region 3 with fail
    go_cut [3] (fun v wc => v = .bool (!Z.nums z) ∧ wc = w.alloc (zb z 23))
    case first =>
      go_wp2_with fail
      all_goals (go_meet; refine ⟨?_, rfl⟩; go_light; have k1 := N1.out; have k2 := N2.out; subst_vars; rw [Value.bool.injEq, Bool.eq_iff_iff]; simp [Z.nums] at *; (try omega))
    case rest =>
      obtain ⟨rfl, rfl⟩ := hcut
      go_upto_region 4 with fail
      go_cut [4] (fun v wc => v = .bool (!Z.texts z) ∧ wc = w.alloc (zb z 23))
      case first =>
        go_wp2_with fail
        all_goals (go_meet; refine ⟨?_, rfl⟩; go_light; (try simp only [str_toList] at *); rw [Value.bool.injEq, Bool.eq_iff_iff]; simp [Z.texts, *])
      case rest =>
        obtain ⟨rfl, rfl⟩ := hcut
        go_wp2_with fail
        refine (least_is z _ q HQ.out).mono ?_
        rintro e w' ⟨rfl, rfl⟩
        have hr := HR.out
        rw [HD.out, HQ.out, Bool.true_and] at hr
        have HR2 : Hid (_ = r) := hr
        clear hr
        obtain ⟨nn, hnn⟩ : ∃ b, Z.nums z = b := ⟨_, rfl⟩
        obtain ⟨tt, htt⟩ : ∃ b, Z.texts z = b := ⟨_, rfl⟩
        rw [hnn, htt] at HR2 ⊢
        clear hnn htt
        obtain ⟨b1, hb1⟩ : ∃ b, (z.k == 1) = b := ⟨_, rfl⟩
        have K1 : Hid ((z.k == 1) = b1) := hb1
        cases q <;> cases nn <;> cases tt <;> cases b1
        all_goals (go_wp2_with fail)
        all_goals (go_ret; refine ⟨?_, ((Below.refl _ _).alloc (Nat.le_refl _) _).alloc (by simp) _⟩; show Ending.returned (Value.bool _) = _; go_light; (try simp only [str_toList, str_size] at *); rw [Ending.returned.injEq, Value.bool.injEq]; have hr := HR2.out; have k1 := K1.out; simp_all [Z.le, le_form])
        all_goals (first | (rw [← hr]; simp; omega) | (rw [← hr]; have g := le_form z.ms z.xs; cases hlt : T.lt z.xs z.ms <;> rw [hlt] at g <;> simp_all <;> first | omega | (have e2 : z.ms.length ≤ 40 := (by omega); have e3 : decide (z.ms.length ≤ 40) = true := decide_eq_true e2; rw [e3, Bool.true_and] at hr; rw [← hr, decide_eq_decide]; omega)))
end Go.Proofs.Ytnfbmffafclaaaa
