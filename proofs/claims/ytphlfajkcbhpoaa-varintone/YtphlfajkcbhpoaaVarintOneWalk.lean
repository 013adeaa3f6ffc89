/-
  The walk of the law VarintOne: whatever bytes and numbers it is given, it returns true.
-/
import Derived.Test.YtphlfajkcbhpoaaRuns
namespace Go.Proofs.Ytphlfajkcbhpoaa.varintOne
open Go.RowKit
set_option linter.unusedVariables false

set_option maxRecDepth 100000 in
set_option maxHeartbeats 1000000 in
theorem walk_short (p0 : Option Addr) (c0 : Nat) (l0 : List UInt8) (a1 : Int) (a2 : Int) (w : World) (b0 : Byt w p0 c0 l0) (w0 : l0.length ≤ 30) (w3 : l0.length ≤ 140737488351232) (w1 : 0 ≤ a1 ∧ a1 ≤ 18446744073709551615) (w2 : 0 ≤ a2 ∧ a2 ≤ 18446744073709551615) :
    Calls Try.prog 6 #[.slice p0 l0.length c0, .int .u64 a1, .int .u64 a2] w fun e w' => e = .returned (.bool true) ∧ Below w.heap.size w w' := by
  obtain ⟨n1, rfl⟩ := Int.eq_ofNat_of_zero_le w1.1
  obtain ⟨n2, rfl⟩ := Int.eq_ofNat_of_zero_le w2.1
  have hn1 : n1 < 18446744073709551616 := by omega
  have hn2 : n2 < 18446744073709551616 := by omega
  clear w1 w2
  have hbq := b0
  have hlc := b0.1
  have hlb : decide ((30 : Int) < (l0.length : Int)) = false := by simp; omega
  obtain ⟨⟨v, k, e0⟩, hg⟩ : ∃ x, M.get l0 0 = x := ⟨_, rfl⟩
  have hall := M.get_all l0 0
  rw [hg] at hall
  simp only at hall
  have hB : Hid (Byt w p0 c0 l0) := hbq
  have HG : Hid (M.get l0 0 = (v, k, e0)) := hg
  have hcm := b0.2.1
  clear b0 hbq
  by_cases he : e0 = 0
  · subst he
    have hbk := M.get_back hg
    clear hg
    obtain ⟨hk1, hk2, hd⟩ := hbk
    have HD : Hid (M.digs v = l0.take k) := hd
    have hk3 : (k : Int) ≤ ↑l0.length := by omega
    have hk4 : ¬ (k : Int) < 1 := by omega
    skip
    clear hd
    obtain ⟨hv, _, _⟩ := hall
    go_enter Try.func6, Try.ntmps6
    go_wp2_with fail
    refine (get_is p0 _ c0 l0 0 _ v k 0 HG.out hB.out rfl).mono ?_
    rintro e w1 ⟨rfl, rfl⟩
    go_wp2_with fail
    have hre := Ex.refl
    refine Rg.wp_rows [.inl (Value.int IntKind.i64 0), .inl (.bool true), .inl (.bool true), .inl (Value.int IntKind.i64 ↑k), .inl (.bool false), .inl (.bool false), .inl (Value.int IntKind.i64 ↑k), .inl (Value.slice p0 l0.length c0), .inl (Value.int IntKind.i64 ↑l0.length), .inl (.bool false), .inl (.bool false), .inl (.bool false), .inl (Value.int IntKind.u64 ↑v), .inr (IsByt (M.digs v)), .inl (.string (str (M.digs v))), .inl (Value.slice p0 l0.length c0), .inl (Value.int IntKind.i64 ↑k), .inl (Value.slice p0 k c0), .inl (.string (str (l0.take k))), .inl (.bool false), .inl (.bool false), .inl (.bool false)] (Ex w1) Ex 72 (by kernel_rfl) rfl (by kernel_rfl) ?st hre (Ex.drew w1) ?goods ?fin
    case st => exact ⟨IsByt.stands _, trivial⟩
    case goods =>
      refine Rg.goods_cons (Rg.good_move hre rfl rfl rfl) ?_
      refine Rg.goods_cons (Rg.good_bin hre rfl rfl rfl rfl (fun _ => rfl) (fun w => by go_simp)) ?_
      refine Rg.goods_cons (Rg.good_move hre rfl rfl rfl) ?_
      refine Rg.goods_cons (Rg.good_move hre rfl rfl rfl) ?_
      refine Rg.goods_cons (Rg.good_bin hre rfl rfl rfl rfl (fun _ => rfl) (fun w => by go_simp)) ?_
      refine Rg.goods_cons (Rg.good_move hre rfl rfl rfl) ?_
      refine Rg.goods_cons (Rg.good_move hre rfl rfl rfl) ?_
      refine Rg.goods_cons (Rg.good_move hre rfl rfl rfl) ?_
      refine Rg.goods_cons (Rg.good_len hre rfl rfl (by rintro u w _ rfl; rfl)) ?_
      refine Rg.goods_cons (Rg.good_bin hre rfl rfl rfl rfl (fun _ => rfl) (fun w => by go_simp)) ?_
      refine Rg.goods_cons (Rg.good_pick false hre rfl rfl rfl rfl) ?_
      refine Rg.goods_cons (Rg.good_move hre rfl rfl rfl) ?_
      refine Rg.goods_cons (Rg.good_move hre rfl rfl rfl) ?_
      refine Rg.goods_cons (Rg.good_call2 Try.func17 (by kernel_rfl) rfl rfl rfl (by rintro u u2 wx hC rfl rfl; exact put_row v wx hC hv)) ?_
      refine Rg.goods_cons (Rg.good_conv hre rfl rfl (by exact fun u w _ h => conv_row h)) ?_
      refine Rg.goods_cons (Rg.good_move hre rfl rfl rfl) ?_
      refine Rg.goods_cons (Rg.good_move hre rfl rfl rfl) ?_
      refine Rg.goods_cons (Rg.good_slice2 hre rfl rfl rfl (by rintro u wx hC rfl; exact ⟨_, slice_row p0 _ c0 k wx (by omega) hcm, rfl⟩)) ?_
      refine Rg.goods_cons (Rg.good_conv hre rfl rfl (by rintro u wx hC rfl; exact run_str ((hB.out.below hC).take hk2) (by simp; omega))) ?_
      refine Rg.goods_cons (Rg.good_bin hre rfl rfl rfl rfl (fun _ => rfl) (fun w => by simp [go_sem, str_toList, HD.out])) ?_
      refine Rg.goods_cons (Rg.good_pick false hre rfl rfl rfl rfl) ?_
      refine Rg.goods_cons (Rg.good_pick true hre rfl rfl rfl rfl) ?_
      exact Rg.goods_nil
    case fin =>
      intro wx hx
      simp only [Rg.later, Act.put, List.setIfInBounds_toArray, List.set_cons_succ, List.set_cons_zero]
      intro v36 hv36
      clear hv36
      by_cases hsw : (n2 : Int) < (n1 : Int)
      · go_wp2_with fail
        refine (put_is none 0 0 [] (M.digs n2) _ n2 _ rfl (by simp) (Byt.nil _) rfl (by omega) (by simp)).mono ?_
        rintro e w3 ⟨v3, rfl, ho3, hb3⟩
        obtain ⟨a3, cap3, rfl, hB3⟩ := ho3.byt
        have hx3 : Ex w1 w3 := hx.trans hb3
        clear ho3 hb3 hB3 hx
        go_wp2_with fail
        refine (put_is none 0 0 [] (M.digs n1) _ n1 _ rfl (by simp) (Byt.nil _) rfl (by omega) (by simp)).mono ?_
        rintro e w4 ⟨v4, rfl, ho4, hb4⟩
        obtain ⟨a4, cap4, rfl, hB4⟩ := ho4.byt
        have hx4 : Ex w1 w4 := hx3.trans hb4
        clear ho4 hb4 hB4 hx3
        have d1 := M.digs_len n2
        have d2 := M.digs_len n1
        have d3 := M.digs_mono (n := n2) (m := n1) (by omega)
        go_wp2_with fail
        refine (known_any _).mono ?_
        rintro e w5 ⟨rfl, hb5⟩
        go_wp2
        go_ret
        exact ⟨I.ret_bool (by first | rfl | (simp; omega)), hx4.trans hb5⟩
      · go_wp2_with fail
        refine (put_is none 0 0 [] (M.digs n1) _ n1 _ rfl (by simp) (Byt.nil _) rfl (by omega) (by simp)).mono ?_
        rintro e w3 ⟨v3, rfl, ho3, hb3⟩
        obtain ⟨a3, cap3, rfl, hB3⟩ := ho3.byt
        have hx3 : Ex w1 w3 := hx.trans hb3
        clear ho3 hb3 hB3 hx
        go_wp2_with fail
        refine (put_is none 0 0 [] (M.digs n2) _ n2 _ rfl (by simp) (Byt.nil _) rfl (by omega) (by simp)).mono ?_
        rintro e w4 ⟨v4, rfl, ho4, hb4⟩
        obtain ⟨a4, cap4, rfl, hB4⟩ := ho4.byt
        have hx4 : Ex w1 w4 := hx3.trans hb4
        clear ho4 hb4 hB4 hx3
        have d1 := M.digs_len n1
        have d2 := M.digs_len n2
        have d3 := M.digs_mono (n := n1) (m := n2) (by omega)
        go_wp2_with fail
        refine (known_any _).mono ?_
        rintro e w5 ⟨rfl, hb5⟩
        go_wp2
        go_ret
        exact ⟨I.ret_bool (by first | rfl | (simp; omega)), hx4.trans hb5⟩
  · clear hg
    have hne : ((e0 : Int) == 0) = false := by simp; omega
    skip
    go_enter Try.func6, Try.ntmps6
    go_wp2_with fail
    refine (get_is p0 _ c0 l0 0 _ v k e0 HG.out hB.out rfl).mono ?_
    rintro e w1 ⟨rfl, rfl⟩
    go_wp2_with fail
    have hre := Ex.refl
    refine Rg.wp_rows [.inl (Value.int IntKind.i64 ↑e0), .inl (.bool false), .inl (.bool false), .inl undef, .inl undef, .inl undef, .inl undef, .inl undef, .inl undef, .inl undef, .inl undef, .inl undef, .inl undef, .inl undef, .inl undef, .inl undef, .inl undef, .inl undef, .inl undef, .inl undef, .inl undef, .inl (Value.bool false)] (Ex w1) Ex 72 (by kernel_rfl) rfl (by kernel_rfl) ?st hre (Ex.drew w1) ?goods ?fin
    case st => exact trivial
    case goods =>
      refine Rg.goods_cons (Rg.good_move hre rfl rfl rfl) ?_
      refine Rg.goods_cons (Rg.good_bin hre rfl rfl rfl rfl (fun _ => rfl) (fun w => by go_simp)) ?_
      refine Rg.goods_cons (Rg.good_move hre rfl rfl rfl) ?_
      refine Rg.goods_cons (Rg.good_skip rfl) ?_
      refine Rg.goods_cons (Rg.good_skip rfl) ?_
      refine Rg.goods_cons (Rg.good_skip rfl) ?_
      refine Rg.goods_cons (Rg.good_skip rfl) ?_
      refine Rg.goods_cons (Rg.good_skip rfl) ?_
      refine Rg.goods_cons (Rg.good_skip rfl) ?_
      refine Rg.goods_cons (Rg.good_skip rfl) ?_
      refine Rg.goods_cons (Rg.good_skip rfl) ?_
      refine Rg.goods_cons (Rg.good_skip rfl) ?_
      refine Rg.goods_cons (Rg.good_skip rfl) ?_
      refine Rg.goods_cons (Rg.good_skip rfl) ?_
      refine Rg.goods_cons (Rg.good_skip rfl) ?_
      refine Rg.goods_cons (Rg.good_skip rfl) ?_
      refine Rg.goods_cons (Rg.good_skip rfl) ?_
      refine Rg.goods_cons (Rg.good_skip rfl) ?_
      refine Rg.goods_cons (Rg.good_skip rfl) ?_
      refine Rg.goods_cons (Rg.good_skip rfl) ?_
      refine Rg.goods_cons (Rg.good_skip rfl) ?_
      refine Rg.goods_cons (Rg.good_pick false hre rfl rfl rfl rfl) ?_
      exact Rg.goods_nil
    case fin =>
      intro wx hx
      simp only [Rg.later, Act.put, List.setIfInBounds_toArray, List.set_cons_succ, List.set_cons_zero]
      by_cases hsw : (n2 : Int) < (n1 : Int)
      · go_wp2_with fail
        refine (put_is none 0 0 [] (M.digs n2) _ n2 _ rfl (by simp) (Byt.nil _) rfl (by omega) (by simp)).mono ?_
        rintro e w3 ⟨v3, rfl, ho3, hb3⟩
        obtain ⟨a3, cap3, rfl, hB3⟩ := ho3.byt
        have hx3 : Ex w1 w3 := hx.trans hb3
        clear ho3 hb3 hB3 hx
        go_wp2_with fail
        refine (put_is none 0 0 [] (M.digs n1) _ n1 _ rfl (by simp) (Byt.nil _) rfl (by omega) (by simp)).mono ?_
        rintro e w4 ⟨v4, rfl, ho4, hb4⟩
        obtain ⟨a4, cap4, rfl, hB4⟩ := ho4.byt
        have hx4 : Ex w1 w4 := hx3.trans hb4
        clear ho4 hb4 hB4 hx3
        have d1 := M.digs_len n2
        have d2 := M.digs_len n1
        have d3 := M.digs_mono (n := n2) (m := n1) (by omega)
        go_wp2_with fail
        refine (known_any _).mono ?_
        rintro e w5 ⟨rfl, hb5⟩
        go_wp2
        go_ret
        exact ⟨I.ret_bool (by first | rfl | (simp; omega)), hx4.trans hb5⟩
      · go_wp2_with fail
        refine (put_is none 0 0 [] (M.digs n1) _ n1 _ rfl (by simp) (Byt.nil _) rfl (by omega) (by simp)).mono ?_
        rintro e w3 ⟨v3, rfl, ho3, hb3⟩
        obtain ⟨a3, cap3, rfl, hB3⟩ := ho3.byt
        have hx3 : Ex w1 w3 := hx.trans hb3
        clear ho3 hb3 hB3 hx
        go_wp2_with fail
        refine (put_is none 0 0 [] (M.digs n2) _ n2 _ rfl (by simp) (Byt.nil _) rfl (by omega) (by simp)).mono ?_
        rintro e w4 ⟨v4, rfl, ho4, hb4⟩
        obtain ⟨a4, cap4, rfl, hB4⟩ := ho4.byt
        have hx4 : Ex w1 w4 := hx3.trans hb4
        clear ho4 hb4 hB4 hx3
        have d1 := M.digs_len n1
        have d2 := M.digs_len n2
        have d3 := M.digs_mono (n := n1) (m := n2) (by omega)
        go_wp2_with fail
        refine (known_any _).mono ?_
        rintro e w5 ⟨rfl, hb5⟩
        go_wp2
        go_ret
        exact ⟨I.ret_bool (by first | rfl | (simp; omega)), hx4.trans hb5⟩

set_option maxRecDepth 100000 in
set_option maxHeartbeats 1000000 in
theorem walk_long (p0 : Option Addr) (c0 : Nat) (l0 : List UInt8) (a1 : Int) (a2 : Int) (w : World) (b0 : Byt w p0 c0 l0) (w0 : 30 < l0.length) (w3 : l0.length ≤ 140737488351232) (w1 : 0 ≤ a1 ∧ a1 ≤ 18446744073709551615) (w2 : 0 ≤ a2 ∧ a2 ≤ 18446744073709551615) :
    Calls Try.prog 6 #[.slice p0 l0.length c0, .int .u64 a1, .int .u64 a2] w fun e w' => e = .returned (.bool true) ∧ Below w.heap.size w w' := by
  obtain ⟨n1, rfl⟩ := Int.eq_ofNat_of_zero_le w1.1
  obtain ⟨n2, rfl⟩ := Int.eq_ofNat_of_zero_le w2.1
  have hn1 : n1 < 18446744073709551616 := by omega
  have hn2 : n2 < 18446744073709551616 := by omega
  clear w1 w2
  obtain ⟨q, hq⟩ : ∃ q, q = l0.take 30 := ⟨_, rfl⟩
  have hql : q.length = 30 := by rw [hq]; simp; omega
  have hbq : Byt w p0 c0 q := hq ▸ b0.take (by omega)
  have hlc : (30 : Int) ≤ (c0 : Int) := by have := b0.1; omega
  have hlc' : q.length ≤ c0 := by have := b0.1; omega
  have hlb : decide ((30 : Int) < (l0.length : Int)) = true := by simp; omega
  have HQ : Hid (30 = q.length) := hql.symm
  clear hq
  obtain ⟨⟨v, k, e0⟩, hg⟩ : ∃ x, M.get q 0 = x := ⟨_, rfl⟩
  have hall := M.get_all q 0
  rw [hg] at hall
  simp only at hall
  have hB : Hid (Byt w p0 c0 q) := hbq
  have HG : Hid (M.get q 0 = (v, k, e0)) := hg
  have hcm := b0.2.1
  clear b0 hbq
  by_cases he : e0 = 0
  · subst he
    have hbk := M.get_back hg
    clear hg
    obtain ⟨hk1, hk2, hd⟩ := hbk
    have HD : Hid (M.digs v = q.take k) := hd
    have hk3 : (k : Int) ≤ 30 := by omega
    have hk4 : ¬ (k : Int) < 1 := by omega
    clear hql
    clear hd
    obtain ⟨hv, _, _⟩ := hall
    go_enter Try.func6, Try.ntmps6
    go_wp2_with fail
    refine (get_is p0 _ c0 q 0 _ v k 0 HG.out hB.out HQ.out).mono ?_
    rintro e w1 ⟨rfl, rfl⟩
    go_wp2_with fail
    have hre := Ex.refl
    refine Rg.wp_rows [.inl (Value.int IntKind.i64 0), .inl (.bool true), .inl (.bool true), .inl (Value.int IntKind.i64 ↑k), .inl (.bool false), .inl (.bool false), .inl (Value.int IntKind.i64 ↑k), .inl (Value.slice p0 30 c0), .inl (Value.int IntKind.i64 30), .inl (.bool false), .inl (.bool false), .inl (.bool false), .inl (Value.int IntKind.u64 ↑v), .inr (IsByt (M.digs v)), .inl (.string (str (M.digs v))), .inl (Value.slice p0 30 c0), .inl (Value.int IntKind.i64 ↑k), .inl (Value.slice p0 k c0), .inl (.string (str (q.take k))), .inl (.bool false), .inl (.bool false), .inl (.bool false)] (Ex w1) Ex 72 (by kernel_rfl) rfl (by kernel_rfl) ?st hre (Ex.drew w1) ?goods ?fin
    case st => exact ⟨IsByt.stands _, trivial⟩
    case goods =>
      refine Rg.goods_cons (Rg.good_move hre rfl rfl rfl) ?_
      refine Rg.goods_cons (Rg.good_bin hre rfl rfl rfl rfl (fun _ => rfl) (fun w => by go_simp)) ?_
      refine Rg.goods_cons (Rg.good_move hre rfl rfl rfl) ?_
      refine Rg.goods_cons (Rg.good_move hre rfl rfl rfl) ?_
      refine Rg.goods_cons (Rg.good_bin hre rfl rfl rfl rfl (fun _ => rfl) (fun w => by go_simp)) ?_
      refine Rg.goods_cons (Rg.good_move hre rfl rfl rfl) ?_
      refine Rg.goods_cons (Rg.good_move hre rfl rfl rfl) ?_
      refine Rg.goods_cons (Rg.good_move hre rfl rfl rfl) ?_
      refine Rg.goods_cons (Rg.good_len hre rfl rfl (by rintro u w _ rfl; rfl)) ?_
      refine Rg.goods_cons (Rg.good_bin hre rfl rfl rfl rfl (fun _ => rfl) (fun w => by go_simp)) ?_
      refine Rg.goods_cons (Rg.good_pick false hre rfl rfl rfl rfl) ?_
      refine Rg.goods_cons (Rg.good_move hre rfl rfl rfl) ?_
      refine Rg.goods_cons (Rg.good_move hre rfl rfl rfl) ?_
      refine Rg.goods_cons (Rg.good_call2 Try.func17 (by kernel_rfl) rfl rfl rfl (by rintro u u2 wx hC rfl rfl; exact put_row v wx hC hv)) ?_
      refine Rg.goods_cons (Rg.good_conv hre rfl rfl (by exact fun u w _ h => conv_row h)) ?_
      refine Rg.goods_cons (Rg.good_move hre rfl rfl rfl) ?_
      refine Rg.goods_cons (Rg.good_move hre rfl rfl rfl) ?_
      refine Rg.goods_cons (Rg.good_slice2 hre rfl rfl rfl (by rintro u wx hC rfl; exact ⟨_, slice_row p0 _ c0 k wx (by omega) hcm, rfl⟩)) ?_
      refine Rg.goods_cons (Rg.good_conv hre rfl rfl (by rintro u wx hC rfl; exact run_str ((hB.out.below hC).take hk2) (by simp; omega))) ?_
      refine Rg.goods_cons (Rg.good_bin hre rfl rfl rfl rfl (fun _ => rfl) (fun w => by simp [go_sem, str_toList, HD.out])) ?_
      refine Rg.goods_cons (Rg.good_pick false hre rfl rfl rfl rfl) ?_
      refine Rg.goods_cons (Rg.good_pick true hre rfl rfl rfl rfl) ?_
      exact Rg.goods_nil
    case fin =>
      intro wx hx
      simp only [Rg.later, Act.put, List.setIfInBounds_toArray, List.set_cons_succ, List.set_cons_zero]
      intro v36 hv36
      clear hv36
      by_cases hsw : (n2 : Int) < (n1 : Int)
      · go_wp2_with fail
        refine (put_is none 0 0 [] (M.digs n2) _ n2 _ rfl (by simp) (Byt.nil _) rfl (by omega) (by simp)).mono ?_
        rintro e w3 ⟨v3, rfl, ho3, hb3⟩
        obtain ⟨a3, cap3, rfl, hB3⟩ := ho3.byt
        have hx3 : Ex w1 w3 := hx.trans hb3
        clear ho3 hb3 hB3 hx
        go_wp2_with fail
        refine (put_is none 0 0 [] (M.digs n1) _ n1 _ rfl (by simp) (Byt.nil _) rfl (by omega) (by simp)).mono ?_
        rintro e w4 ⟨v4, rfl, ho4, hb4⟩
        obtain ⟨a4, cap4, rfl, hB4⟩ := ho4.byt
        have hx4 : Ex w1 w4 := hx3.trans hb4
        clear ho4 hb4 hB4 hx3
        have d1 := M.digs_len n2
        have d2 := M.digs_len n1
        have d3 := M.digs_mono (n := n2) (m := n1) (by omega)
        go_wp2_with fail
        refine (known_any _).mono ?_
        rintro e w5 ⟨rfl, hb5⟩
        go_wp2
        go_ret
        exact ⟨I.ret_bool (by first | rfl | (simp; omega)), hx4.trans hb5⟩
      · go_wp2_with fail
        refine (put_is none 0 0 [] (M.digs n1) _ n1 _ rfl (by simp) (Byt.nil _) rfl (by omega) (by simp)).mono ?_
        rintro e w3 ⟨v3, rfl, ho3, hb3⟩
        obtain ⟨a3, cap3, rfl, hB3⟩ := ho3.byt
        have hx3 : Ex w1 w3 := hx.trans hb3
        clear ho3 hb3 hB3 hx
        go_wp2_with fail
        refine (put_is none 0 0 [] (M.digs n2) _ n2 _ rfl (by simp) (Byt.nil _) rfl (by omega) (by simp)).mono ?_
        rintro e w4 ⟨v4, rfl, ho4, hb4⟩
        obtain ⟨a4, cap4, rfl, hB4⟩ := ho4.byt
        have hx4 : Ex w1 w4 := hx3.trans hb4
        clear ho4 hb4 hB4 hx3
        have d1 := M.digs_len n1
        have d2 := M.digs_len n2
        have d3 := M.digs_mono (n := n1) (m := n2) (by omega)
        go_wp2_with fail
        refine (known_any _).mono ?_
        rintro e w5 ⟨rfl, hb5⟩
        go_wp2
        go_ret
        exact ⟨I.ret_bool (by first | rfl | (simp; omega)), hx4.trans hb5⟩
  · clear hg
    have hne : ((e0 : Int) == 0) = false := by simp; omega
    clear hql
    go_enter Try.func6, Try.ntmps6
    go_wp2_with fail
    refine (get_is p0 _ c0 q 0 _ v k e0 HG.out hB.out HQ.out).mono ?_
    rintro e w1 ⟨rfl, rfl⟩
    go_wp2_with fail
    have hre := Ex.refl
    refine Rg.wp_rows [.inl (Value.int IntKind.i64 ↑e0), .inl (.bool false), .inl (.bool false), .inl undef, .inl undef, .inl undef, .inl undef, .inl undef, .inl undef, .inl undef, .inl undef, .inl undef, .inl undef, .inl undef, .inl undef, .inl undef, .inl undef, .inl undef, .inl undef, .inl undef, .inl undef, .inl (Value.bool false)] (Ex w1) Ex 72 (by kernel_rfl) rfl (by kernel_rfl) ?st hre (Ex.drew w1) ?goods ?fin
    case st => exact trivial
    case goods =>
      refine Rg.goods_cons (Rg.good_move hre rfl rfl rfl) ?_
      refine Rg.goods_cons (Rg.good_bin hre rfl rfl rfl rfl (fun _ => rfl) (fun w => by go_simp)) ?_
      refine Rg.goods_cons (Rg.good_move hre rfl rfl rfl) ?_
      refine Rg.goods_cons (Rg.good_skip rfl) ?_
      refine Rg.goods_cons (Rg.good_skip rfl) ?_
      refine Rg.goods_cons (Rg.good_skip rfl) ?_
      refine Rg.goods_cons (Rg.good_skip rfl) ?_
      refine Rg.goods_cons (Rg.good_skip rfl) ?_
      refine Rg.goods_cons (Rg.good_skip rfl) ?_
      refine Rg.goods_cons (Rg.good_skip rfl) ?_
      refine Rg.goods_cons (Rg.good_skip rfl) ?_
      refine Rg.goods_cons (Rg.good_skip rfl) ?_
      refine Rg.goods_cons (Rg.good_skip rfl) ?_
      refine Rg.goods_cons (Rg.good_skip rfl) ?_
      refine Rg.goods_cons (Rg.good_skip rfl) ?_
      refine Rg.goods_cons (Rg.good_skip rfl) ?_
      refine Rg.goods_cons (Rg.good_skip rfl) ?_
      refine Rg.goods_cons (Rg.good_skip rfl) ?_
      refine Rg.goods_cons (Rg.good_skip rfl) ?_
      refine Rg.goods_cons (Rg.good_skip rfl) ?_
      refine Rg.goods_cons (Rg.good_skip rfl) ?_
      refine Rg.goods_cons (Rg.good_pick false hre rfl rfl rfl rfl) ?_
      exact Rg.goods_nil
    case fin =>
      intro wx hx
      simp only [Rg.later, Act.put, List.setIfInBounds_toArray, List.set_cons_succ, List.set_cons_zero]
      by_cases hsw : (n2 : Int) < (n1 : Int)
      · go_wp2_with fail
        refine (put_is none 0 0 [] (M.digs n2) _ n2 _ rfl (by simp) (Byt.nil _) rfl (by omega) (by simp)).mono ?_
        rintro e w3 ⟨v3, rfl, ho3, hb3⟩
        obtain ⟨a3, cap3, rfl, hB3⟩ := ho3.byt
        have hx3 : Ex w1 w3 := hx.trans hb3
        clear ho3 hb3 hB3 hx
        go_wp2_with fail
        refine (put_is none 0 0 [] (M.digs n1) _ n1 _ rfl (by simp) (Byt.nil _) rfl (by omega) (by simp)).mono ?_
        rintro e w4 ⟨v4, rfl, ho4, hb4⟩
        obtain ⟨a4, cap4, rfl, hB4⟩ := ho4.byt
        have hx4 : Ex w1 w4 := hx3.trans hb4
        clear ho4 hb4 hB4 hx3
        have d1 := M.digs_len n2
        have d2 := M.digs_len n1
        have d3 := M.digs_mono (n := n2) (m := n1) (by omega)
        go_wp2_with fail
        refine (known_any _).mono ?_
        rintro e w5 ⟨rfl, hb5⟩
        go_wp2
        go_ret
        exact ⟨I.ret_bool (by first | rfl | (simp; omega)), hx4.trans hb5⟩
      · go_wp2_with fail
        refine (put_is none 0 0 [] (M.digs n1) _ n1 _ rfl (by simp) (Byt.nil _) rfl (by omega) (by simp)).mono ?_
        rintro e w3 ⟨v3, rfl, ho3, hb3⟩
        obtain ⟨a3, cap3, rfl, hB3⟩ := ho3.byt
        have hx3 : Ex w1 w3 := hx.trans hb3
        clear ho3 hb3 hB3 hx
        go_wp2_with fail
        refine (put_is none 0 0 [] (M.digs n2) _ n2 _ rfl (by simp) (Byt.nil _) rfl (by omega) (by simp)).mono ?_
        rintro e w4 ⟨v4, rfl, ho4, hb4⟩
        obtain ⟨a4, cap4, rfl, hB4⟩ := ho4.byt
        have hx4 : Ex w1 w4 := hx3.trans hb4
        clear ho4 hb4 hB4 hx3
        have d1 := M.digs_len n1
        have d2 := M.digs_len n2
        have d3 := M.digs_mono (n := n1) (m := n2) (by omega)
        go_wp2_with fail
        refine (known_any _).mono ?_
        rintro e w5 ⟨rfl, hb5⟩
        go_wp2
        go_ret
        exact ⟨I.ret_bool (by first | rfl | (simp; omega)), hx4.trans hb5⟩

theorem walk (p0 : Option Addr) (c0 : Nat) (l0 : List UInt8) (a1 : Int) (a2 : Int) (w : World) (b0 : Byt w p0 c0 l0) (w0 : l0.length ≤ 140737488351232) (w1 : 0 ≤ a1 ∧ a1 ≤ 18446744073709551615) (w2 : 0 ≤ a2 ∧ a2 ≤ 18446744073709551615) :
    Calls Try.prog 6 #[.slice p0 l0.length c0, .int .u64 a1, .int .u64 a2] w fun e w' => e = .returned (.bool true) ∧ Below w.heap.size w w' := by
  by_cases h : 30 < l0.length
  · exact walk_long p0 c0 l0 a1 a2 w b0 h w0 w1 w2
  · exact walk_short p0 c0 l0 a1 a2 w b0 (by omega) w0 w1 w2
end Go.Proofs.Ytphlfajkcbhpoaa.varintOne
