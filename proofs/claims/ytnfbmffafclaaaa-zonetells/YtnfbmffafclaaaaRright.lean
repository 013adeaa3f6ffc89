/-
  Right over the program.
-/
import Derived.Test.YtnfbmffafclaaaaZval
namespace Go.Proofs.Ytnfbmffafclaaaa
open Go.RowKit
set_option linter.unusedVariables false
set_option maxHeartbeats 4000000 in
set_option maxRecDepth 100000 in
theorem rrightE (z : Zn) (w : World) (h1 : z.ms.length ≤ maxLen) (h2 : z.xs.length ≤ maxLen) (r : Bool) (hr : Z.right z = r) : Calls Try.prog 13 #[zv z] w fun e w' => e = .returned (.bool r) ∧ w' = w.alloc (zb z 31) := by
  subst hr
  unfold zv
  unfold maxLen at h1 h2
  obtain ⟨b1, hb1⟩ : ∃ b, (z.k != 1) = b := ⟨_, rfl⟩
  obtain ⟨b2, hb2⟩ : ∃ b, (z.k != 2) = b := ⟨_, rfl⟩
  obtain ⟨n1, hn1⟩ : ∃ b, (z.mn == 0) = b := ⟨_, rfl⟩
  obtain ⟨n2, hn2⟩ : ∃ b, (z.mx == 0) = b := ⟨_, rfl⟩
  have K1 : Hid ((z.k != 1) = b1) := hb1
  have K2 : Hid ((z.k != 2) = b2) := hb2
  have N1 : Hid ((z.mn == 0) = n1) := hn1
  have N2 : Hid ((z.mx == 0) = n2) := hn2
  go_enter Try.func13, Try.ntmps13
  go_upto_region 1 with fail
  go_cut [41] (fun v wc => v = .bool (!Z.shape z) ∧ wc = w.alloc (zb z 31))
  case first =>
    go_wp2_with fail
    all_goals (go_meet; refine ⟨?_, rfl⟩; go_light; (try simp only [str_size] at *); have k1 := K1.out; have k2 := K2.out; subst_vars; rw [Value.bool.injEq, Bool.eq_iff_iff]; simp [Z.shape] at *; omega)
  case rest =>
    obtain ⟨rfl, rfl⟩ := hcut
    cases hs : Z.shape z
    · go_wp2_with fail
      go_ret
      exact ⟨by simp [Z.right, hs], rfl⟩
    · go_upto_region 3 with fail
      go_cut [3] (fun v wc => v = .bool (Z.nums z) ∧ wc = w.alloc (zb z 31))
      case first =>
        go_wp2_with fail
        all_goals (go_meet; refine ⟨?_, rfl⟩; go_light; have k1 := N1.out; have k2 := N2.out; subst_vars; rw [Value.bool.injEq, Bool.eq_iff_iff]; simp [Z.nums] at *; (try omega))
      case rest =>
        obtain ⟨rfl, rfl⟩ := hcut
        go_upto_region 4 with fail
        go_cut [4] (fun v wc => v = .bool (Z.texts z) ∧ wc = w.alloc (zb z 31))
        case first =>
          go_wp2_with fail
          all_goals (go_meet; refine ⟨?_, rfl⟩; go_light; (try simp only [str_toList] at *); rw [Value.bool.injEq, Bool.eq_iff_iff]; simp [Z.texts, *])
        case rest =>
          obtain ⟨rfl, rfl⟩ := hcut
          go_wp2_with fail
          all_goals (go_ret; refine ⟨?_, rfl⟩; show Ending.returned (Value.bool _) = _; go_light; (try simp only [str_toList] at *); rw [Ending.returned.injEq, Value.bool.injEq]; simp_all [Z.right, Z.le, le_form])
theorem rright_is (z : Zn) (w : World) (h1 : z.ms.length ≤ maxLen) (h2 : z.xs.length ≤ maxLen) (r : Bool) (hr : Z.right z = r) : Calls Try.prog 13 #[zv z] w fun e w' => e = .returned (.bool r) ∧ Ex w w' := by
  refine (rrightE z w h1 h2 r hr).mono ?_
  rintro e w' ⟨rfl, rfl⟩
  exact ⟨rfl, (Below.refl _ _).alloc (Nat.le_refl _) _⟩
end Go.Proofs.Ytnfbmffafclaaaa
