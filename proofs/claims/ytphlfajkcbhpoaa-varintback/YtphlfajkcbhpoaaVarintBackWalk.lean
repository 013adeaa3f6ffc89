/-
  The walk of the law VarintBack: whatever bytes, numbers and text it is given, it returns true.
-/
import Derived.Test.YtphlfajkcbhpoaaRuns
namespace Go.Proofs.Ytphlfajkcbhpoaa.varintBack
open Go.RowKit
set_option linter.unusedVariables false

set_option maxRecDepth 100000 in
set_option maxHeartbeats 1000000 in
theorem walk_short (p0 : Option Addr) (c0 : Nat) (l0 : List UInt8) (n1 n2 : Nat) (a3 : Int) (s4 : List UInt8) (w : World) (b0 : Byt w p0 c0 l0) (w0 : l0.length ≤ 140737488351232) (hn1 : n1 < 18446744073709551616) (hn2 : n2 < 18446744073709551616) (l3 : -9223372036854775808 ≤ a3) (u3 : a3 ≤ 9223372036854775807) (w4 : s4.length ≤ 300) (w5 : s4.length ≤ 140737488351232) :
    Calls Try.prog 5 #[.slice p0 l0.length c0, .int .u64 n1, .int .u64 n2, .int .i64 a3, .string (str s4)] w fun e w' => e = .returned (.bool true) ∧ Below w.heap.size w w' := by
  have hB : Hid (Byt w p0 c0 l0) := b0
  clear b0
  have hss : (str s4).size = s4.length := str_size s4
  have hlb : decide ((300 : Int) < (s4.length : Int)) = false := by simp; omega
  have w6 := w4
  have d1 := M.digs_len n1
  have d2 := M.digs_len s4.length
  obtain ⟨q, hq⟩ : ∃ q, q = l0 ++ M.digs n1 := ⟨_, rfl⟩
  obtain ⟨r, hr⟩ : ∃ r, r = q ++ M.digs s4.length ++ s4 := ⟨_, rfl⟩
  have HQ : Hid (l0 ++ M.digs n1 = q) := hq.symm
  have HR : Hid (q ++ M.digs s4.length ++ s4 = r) := hr.symm
  have hql : q.length = l0.length + (M.digs n1).length := by rw [hq]; simp
  have hrl : r.length = q.length + (M.digs s4.length).length + s4.length := by rw [hr]; simp; omega
  have hg1 : M.get r (l0.length : Int) = (n1, q.length, 0) := by
    rw [hr, hq, show l0 ++ M.digs n1 ++ M.digs s4.length ++ s4 = l0 ++ M.digs n1 ++ (M.digs s4.length ++ s4) from by simp, M.get_digs hn1]; simp
  have hg2 : M.getText r (q.length : Int) (s4.length : Int) = (s4, r.length, 0) := by
    rw [hr, M.getText_digs q s4 (by omega) _ (by omega)]; simp; omega
  have HG1 : Hid (M.get r (l0.length : Int) = (n1, q.length, 0)) := hg1
  have HG2 : Hid (M.getText r (q.length : Int) (s4.length : Int) = (s4, r.length, 0)) := hg2
  have hql' : q.length ≤ 140737488351262 := by omega
  have hrl' : r.length ≤ 140737488351662 := by omega
  obtain ⟨B, hBi⟩ : ∃ B, ((n1 : Int) == (n2 : Int)) = B := ⟨_, rfl⟩
  have hBs : (M.digs n1 == M.digs n2) = B := by
    rw [← hBi, Bool.eq_iff_iff]
    simp [M.digs_inj hn1 hn2]
    omega
  have HBi : Hid (((n1 : Int) == (n2 : Int)) = B) := hBi
  have HBs : Hid ((M.digs n1 == M.digs n2) = B) := hBs
  have hz1 : 0 ≤ M.zig a3 := by unfold M.zig; split <;> omega
  have hz2 : M.zig a3 ≤ 18446744073709551615 := by unfold M.zig; split <;> omega
  have hy1 : -9223372036854775808 ≤ M.zag n1 := by unfold M.zag; split <;> omega
  have hy2 : M.zag n1 ≤ 9223372036854775807 := by unfold M.zag; split <;> omega
  clear hg1 hg2 hq hr hql hrl hBi hBs
  go_enter Try.func5, Try.ntmps5
  go_wp2_with fail
  refine (put_is p0 _ c0 l0 q _ n1 _ rfl HQ.out hB.out rfl hn1 (by omega)).mono ?_
  rintro e w3 ⟨v3, rfl, ho3, hb3⟩
  obtain ⟨a3', cap3, rfl, hB3⟩ := ho3.byt
  clear ho3
  go_wp2_with fail
  refine (putText_any a3' cap3 q s4 r _ hB3 HR.out (by omega)).mono ?_
  rintro e w4 ⟨v4, rfl, ho4, hb4⟩
  obtain ⟨a4, cap4, rfl, hB4⟩ := ho4.byt
  have hx4 : Ex w w4 := Ex.trans hb3 hb4
  have HB4 : Hid (Byt w4 a4 cap4 r) := hB4
  clear ho4 hb3 hb4 hB3 hB4
  go_wp2_with fail
  refine (get_is a4 _ cap4 r _ _ n1 q.length 0 HG1.out HB4.out rfl).mono ?_
  rintro e w5 ⟨rfl, rfl⟩
  go_wp2_with fail
  refine (getText_any a4 _ cap4 r _ _ _ HB4.out rfl (by omega) (by omega) s4 r.length 0 HG2.out).mono ?_
  rintro e w6 ⟨rfl, rfl⟩
  go_wp2_with fail
  have hre := Ex.refl
  refine Rg.wp_rows [.inl (Value.int IntKind.i64 0), .inl (.bool true), .inl (.bool true), .inl (Value.int IntKind.u64 ↑n1), .inl (Value.int IntKind.u64 ↑n1), .inl (.bool true), .inl (.bool true), .inl (.bool true), .inl (Value.int IntKind.i64 0), .inl (.bool true), .inl (.bool true), .inl (.bool true), .inl (Value.string (str s4)), .inl (Value.string (str s4)), .inl (.bool true), .inl (.bool true), .inl (.bool true), .inl (Value.int IntKind.i64 ↑r.length), .inl (Value.slice a4 r.length cap4), .inl (Value.int IntKind.i64 ↑r.length), .inl (.bool true), .inl (.bool true), .inl (.bool true), .inl (Value.int IntKind.u64 ↑n1), .inr (IsByt (M.digs n1)), .inl (.string (str (M.digs n1))), .inl (Value.int IntKind.u64 ↑n2), .inr (IsByt (M.digs n2)), .inl (.string (str (M.digs n2))), .inl (.bool B), .inl (Value.int IntKind.u64 ↑n1), .inl (Value.int IntKind.u64 ↑n2), .inl (.bool B), .inl (.bool true), .inl (.bool true), .inl (.bool true), .inl (Value.int IntKind.i64 a3), .inl (Value.int IntKind.u64 (M.zig a3)), .inl (Value.int IntKind.i64 a3), .inl (Value.int IntKind.i64 a3), .inl (.bool true), .inl (.bool true), .inl (.bool true), .inl (Value.int IntKind.u64 ↑n1), .inl (Value.int IntKind.i64 (M.zag n1)), .inl (Value.int IntKind.u64 ↑n1), .inl (Value.int IntKind.u64 ↑n1), .inl (.bool true), .inl (.bool true), .inl (.bool true), .inl (.bool true), .inl (.bool true), .inl (.bool true)] (Ex w) Ex 97 (by kernel_rfl) rfl (by kernel_rfl) ?st hre (hx4.trans (Ex.drew _)) ?goods ?fin
  case st => exact ⟨IsByt.stands _, IsByt.stands _, trivial⟩
  case goods =>
    refine Rg.goods_cons (Rg.good_move hre rfl rfl rfl) ?_
    refine Rg.goods_cons (Rg.good_bin hre rfl rfl rfl rfl (fun _ => rfl) (fun w => by go_simp)) ?_
    refine Rg.goods_cons (Rg.good_move hre rfl rfl rfl) ?_
    refine Rg.goods_cons (Rg.good_move hre rfl rfl rfl) ?_
    refine Rg.goods_cons (Rg.good_move hre rfl rfl rfl) ?_
    refine Rg.goods_cons (Rg.good_bin hre rfl rfl rfl rfl (fun _ => rfl) (fun w => by go_simp)) ?_
    refine Rg.goods_cons (Rg.good_pick true hre rfl rfl rfl rfl) ?_
    refine Rg.goods_cons (Rg.good_move hre rfl rfl rfl) ?_
    refine Rg.goods_cons (Rg.good_move hre rfl rfl rfl) ?_
    refine Rg.goods_cons (Rg.good_bin hre rfl rfl rfl rfl (fun _ => rfl) (fun w => by go_simp)) ?_
    refine Rg.goods_cons (Rg.good_pick true hre rfl rfl rfl rfl) ?_
    refine Rg.goods_cons (Rg.good_move hre rfl rfl rfl) ?_
    refine Rg.goods_cons (Rg.good_move hre rfl rfl rfl) ?_
    refine Rg.goods_cons (Rg.good_move hre rfl rfl rfl) ?_
    refine Rg.goods_cons (Rg.good_bin hre rfl rfl rfl rfl (fun _ => rfl) (fun w => by go_simp)) ?_
    refine Rg.goods_cons (Rg.good_pick true hre rfl rfl rfl rfl) ?_
    refine Rg.goods_cons (Rg.good_move hre rfl rfl rfl) ?_
    refine Rg.goods_cons (Rg.good_move hre rfl rfl rfl) ?_
    refine Rg.goods_cons (Rg.good_move hre rfl rfl rfl) ?_
    refine Rg.goods_cons (Rg.good_len hre rfl rfl (by rintro u w _ rfl; rfl)) ?_
    refine Rg.goods_cons (Rg.good_bin hre rfl rfl rfl rfl (fun _ => rfl) (fun w => by go_simp)) ?_
    refine Rg.goods_cons (Rg.good_pick true hre rfl rfl rfl rfl) ?_
    refine Rg.goods_cons (Rg.good_move hre rfl rfl rfl) ?_
    refine Rg.goods_cons (Rg.good_move hre rfl rfl rfl) ?_
    refine Rg.goods_cons (Rg.good_call2 Try.func17 (by kernel_rfl) rfl rfl rfl (by rintro u u2 wx hC rfl rfl; exact put_row n1 wx hC hn1)) ?_
    refine Rg.goods_cons (Rg.good_conv hre rfl rfl (by exact fun u w _ h => conv_row h)) ?_
    refine Rg.goods_cons (Rg.good_move hre rfl rfl rfl) ?_
    refine Rg.goods_cons (Rg.good_call2 Try.func17 (by kernel_rfl) rfl rfl rfl (by rintro u u2 wx hC rfl rfl; exact put_row n2 wx hC hn2)) ?_
    refine Rg.goods_cons (Rg.good_conv hre rfl rfl (by exact fun u w _ h => conv_row h)) ?_
    refine Rg.goods_cons (Rg.good_bin hre rfl rfl rfl rfl (fun _ => rfl) (fun w => by simp only [go_sem, str_toList, HBs.out, Sem.run_pure])) ?_
    refine Rg.goods_cons (Rg.good_move hre rfl rfl rfl) ?_
    refine Rg.goods_cons (Rg.good_move hre rfl rfl rfl) ?_
    refine Rg.goods_cons (Rg.good_bin hre rfl rfl rfl rfl (fun _ => rfl) (fun w => by simp only [go_sem, HBi.out, Sem.run_pure])) ?_
    refine Rg.goods_cons (Rg.good_bin hre rfl rfl rfl rfl (fun _ => rfl) (fun w => by go_simp)) ?_
    refine Rg.goods_cons (Rg.good_pick true hre rfl rfl rfl rfl) ?_
    refine Rg.goods_cons (Rg.good_move hre rfl rfl rfl) ?_
    refine Rg.goods_cons (Rg.good_move hre rfl rfl rfl) ?_
    refine Rg.goods_cons (Rg.good_call1 Try.func12 (by kernel_rfl) rfl rfl rfl (by rintro u wx hC rfl; exact zig_row a3 _ wx hC l3 u3 rfl)) ?_
    refine Rg.goods_cons (Rg.good_call1 Try.func13 (by kernel_rfl) rfl rfl rfl (by rintro u wx hC rfl; exact zag_row _ a3 wx hC hz1 hz2 (M.zag_zig a3))) ?_
    refine Rg.goods_cons (Rg.good_move hre rfl rfl rfl) ?_
    refine Rg.goods_cons (Rg.good_bin hre rfl rfl rfl rfl (fun _ => rfl) (fun w => by go_simp)) ?_
    refine Rg.goods_cons (Rg.good_pick true hre rfl rfl rfl rfl) ?_
    refine Rg.goods_cons (Rg.good_move hre rfl rfl rfl) ?_
    refine Rg.goods_cons (Rg.good_move hre rfl rfl rfl) ?_
    refine Rg.goods_cons (Rg.good_call1 Try.func13 (by kernel_rfl) rfl rfl rfl (by rintro u wx hC rfl; exact zag_row _ _ wx hC (by omega) (by omega) rfl)) ?_
    refine Rg.goods_cons (Rg.good_call1 Try.func12 (by kernel_rfl) rfl rfl rfl (by rintro u wx hC rfl; exact zig_row _ _ wx hC hy1 hy2 (M.zig_zag n1 (by omega)))) ?_
    refine Rg.goods_cons (Rg.good_move hre rfl rfl rfl) ?_
    refine Rg.goods_cons (Rg.good_bin hre rfl rfl rfl rfl (fun _ => rfl) (fun w => by go_simp)) ?_
    refine Rg.goods_cons (Rg.good_pick true hre rfl rfl rfl rfl) ?_
    refine Rg.goods_cons (Rg.good_move hre rfl rfl rfl) ?_
    refine Rg.goods_cons (Rg.good_call0 Try.func14 (by kernel_rfl) rfl rfl rfl (by exact fun wx hC => known_row wx hC)) ?_
    refine Rg.goods_cons (Rg.good_pick true hre rfl rfl rfl rfl) ?_
    refine Rg.goods_cons (Rg.good_assign hre rfl rfl rfl) ?_
    exact Rg.goods_nil
  case fin =>
    intro wx hx
    simp only [Rg.later, Act.put, List.setIfInBounds_toArray, List.set_cons_succ, List.set_cons_zero]
    intro va hva vb hvb
    clear hva hvb
    go_wp2
    go_ret
    exact ⟨rfl, hx⟩

set_option maxRecDepth 100000 in
set_option maxHeartbeats 1000000 in
theorem walk_long (p0 : Option Addr) (c0 : Nat) (l0 : List UInt8) (n1 n2 : Nat) (a3 : Int) (s4 : List UInt8) (w : World) (b0 : Byt w p0 c0 l0) (w0 : l0.length ≤ 140737488351232) (hn1 : n1 < 18446744073709551616) (hn2 : n2 < 18446744073709551616) (l3 : -9223372036854775808 ≤ a3) (u3 : a3 ≤ 9223372036854775807) (w4 : 300 < s4.length) (w5 : s4.length ≤ 140737488351232) :
    Calls Try.prog 5 #[.slice p0 l0.length c0, .int .u64 n1, .int .u64 n2, .int .i64 a3, .string (str s4)] w fun e w' => e = .returned (.bool true) ∧ Below w.heap.size w w' := by
  have hB : Hid (Byt w p0 c0 l0) := b0
  clear b0
  have hss : (str s4).size = s4.length := str_size s4
  obtain ⟨t, ht⟩ : ∃ t, t = s4.take 300 := ⟨_, rfl⟩
  have htl : t.length = 300 := by rw [ht]; simp; omega
  have hcut : (str s4).extract 0 300 = str t := by rw [str_cut, ht]
  have hlb : decide ((300 : Int) < (s4.length : Int)) = true := by simp; omega
  have h300 : (300 : Int) ≤ (s4.length : Int) := by omega
  have hsz : (str t).size = t.length := str_size t
  have w6 : t.length ≤ 300 := by omega
  clear ht htl
  have d1 := M.digs_len n1
  have d2 := M.digs_len t.length
  obtain ⟨q, hq⟩ : ∃ q, q = l0 ++ M.digs n1 := ⟨_, rfl⟩
  obtain ⟨r, hr⟩ : ∃ r, r = q ++ M.digs t.length ++ t := ⟨_, rfl⟩
  have HQ : Hid (l0 ++ M.digs n1 = q) := hq.symm
  have HR : Hid (q ++ M.digs t.length ++ t = r) := hr.symm
  have hql : q.length = l0.length + (M.digs n1).length := by rw [hq]; simp
  have hrl : r.length = q.length + (M.digs t.length).length + t.length := by rw [hr]; simp; omega
  have hg1 : M.get r (l0.length : Int) = (n1, q.length, 0) := by
    rw [hr, hq, show l0 ++ M.digs n1 ++ M.digs t.length ++ t = l0 ++ M.digs n1 ++ (M.digs t.length ++ t) from by simp, M.get_digs hn1]; simp
  have hg2 : M.getText r (q.length : Int) (t.length : Int) = (t, r.length, 0) := by
    rw [hr, M.getText_digs q t (by omega) _ (by omega)]; simp; omega
  have HG1 : Hid (M.get r (l0.length : Int) = (n1, q.length, 0)) := hg1
  have HG2 : Hid (M.getText r (q.length : Int) (t.length : Int) = (t, r.length, 0)) := hg2
  have hql' : q.length ≤ 140737488351262 := by omega
  have hrl' : r.length ≤ 140737488351662 := by omega
  obtain ⟨B, hBi⟩ : ∃ B, ((n1 : Int) == (n2 : Int)) = B := ⟨_, rfl⟩
  have hBs : (M.digs n1 == M.digs n2) = B := by
    rw [← hBi, Bool.eq_iff_iff]
    simp [M.digs_inj hn1 hn2]
    omega
  have HBi : Hid (((n1 : Int) == (n2 : Int)) = B) := hBi
  have HBs : Hid ((M.digs n1 == M.digs n2) = B) := hBs
  have hz1 : 0 ≤ M.zig a3 := by unfold M.zig; split <;> omega
  have hz2 : M.zig a3 ≤ 18446744073709551615 := by unfold M.zig; split <;> omega
  have hy1 : -9223372036854775808 ≤ M.zag n1 := by unfold M.zag; split <;> omega
  have hy2 : M.zag n1 ≤ 9223372036854775807 := by unfold M.zag; split <;> omega
  clear hg1 hg2 hq hr hql hrl hBi hBs
  go_enter Try.func5, Try.ntmps5
  go_wp2_with fail
  refine (put_is p0 _ c0 l0 q _ n1 _ rfl HQ.out hB.out rfl hn1 (by omega)).mono ?_
  rintro e w3 ⟨v3, rfl, ho3, hb3⟩
  obtain ⟨a3', cap3, rfl, hB3⟩ := ho3.byt
  clear ho3
  go_wp2_with fail
  refine (putText_any a3' cap3 q t r _ hB3 HR.out (by omega)).mono ?_
  rintro e w4 ⟨v4, rfl, ho4, hb4⟩
  obtain ⟨a4, cap4, rfl, hB4⟩ := ho4.byt
  have hx4 : Ex w w4 := Ex.trans hb3 hb4
  have HB4 : Hid (Byt w4 a4 cap4 r) := hB4
  clear ho4 hb3 hb4 hB3 hB4
  go_wp2_with fail
  refine (get_is a4 _ cap4 r _ _ n1 q.length 0 HG1.out HB4.out rfl).mono ?_
  rintro e w5 ⟨rfl, rfl⟩
  go_wp2_with fail
  refine (getText_any a4 _ cap4 r _ _ _ HB4.out rfl (by omega) (by omega) t r.length 0 HG2.out).mono ?_
  rintro e w6 ⟨rfl, rfl⟩
  go_wp2_with fail
  have hre := Ex.refl
  refine Rg.wp_rows [.inl (Value.int IntKind.i64 0), .inl (.bool true), .inl (.bool true), .inl (Value.int IntKind.u64 ↑n1), .inl (Value.int IntKind.u64 ↑n1), .inl (.bool true), .inl (.bool true), .inl (.bool true), .inl (Value.int IntKind.i64 0), .inl (.bool true), .inl (.bool true), .inl (.bool true), .inl (Value.string (str t)), .inl (Value.string (str t)), .inl (.bool true), .inl (.bool true), .inl (.bool true), .inl (Value.int IntKind.i64 ↑r.length), .inl (Value.slice a4 r.length cap4), .inl (Value.int IntKind.i64 ↑r.length), .inl (.bool true), .inl (.bool true), .inl (.bool true), .inl (Value.int IntKind.u64 ↑n1), .inr (IsByt (M.digs n1)), .inl (.string (str (M.digs n1))), .inl (Value.int IntKind.u64 ↑n2), .inr (IsByt (M.digs n2)), .inl (.string (str (M.digs n2))), .inl (.bool B), .inl (Value.int IntKind.u64 ↑n1), .inl (Value.int IntKind.u64 ↑n2), .inl (.bool B), .inl (.bool true), .inl (.bool true), .inl (.bool true), .inl (Value.int IntKind.i64 a3), .inl (Value.int IntKind.u64 (M.zig a3)), .inl (Value.int IntKind.i64 a3), .inl (Value.int IntKind.i64 a3), .inl (.bool true), .inl (.bool true), .inl (.bool true), .inl (Value.int IntKind.u64 ↑n1), .inl (Value.int IntKind.i64 (M.zag n1)), .inl (Value.int IntKind.u64 ↑n1), .inl (Value.int IntKind.u64 ↑n1), .inl (.bool true), .inl (.bool true), .inl (.bool true), .inl (.bool true), .inl (.bool true), .inl (.bool true)] (Ex w) Ex 97 (by kernel_rfl) rfl (by kernel_rfl) ?st hre (hx4.trans (Ex.drew _)) ?goods ?fin
  case st => exact ⟨IsByt.stands _, IsByt.stands _, trivial⟩
  case goods =>
    refine Rg.goods_cons (Rg.good_move hre rfl rfl rfl) ?_
    refine Rg.goods_cons (Rg.good_bin hre rfl rfl rfl rfl (fun _ => rfl) (fun w => by go_simp)) ?_
    refine Rg.goods_cons (Rg.good_move hre rfl rfl rfl) ?_
    refine Rg.goods_cons (Rg.good_move hre rfl rfl rfl) ?_
    refine Rg.goods_cons (Rg.good_move hre rfl rfl rfl) ?_
    refine Rg.goods_cons (Rg.good_bin hre rfl rfl rfl rfl (fun _ => rfl) (fun w => by go_simp)) ?_
    refine Rg.goods_cons (Rg.good_pick true hre rfl rfl rfl rfl) ?_
    refine Rg.goods_cons (Rg.good_move hre rfl rfl rfl) ?_
    refine Rg.goods_cons (Rg.good_move hre rfl rfl rfl) ?_
    refine Rg.goods_cons (Rg.good_bin hre rfl rfl rfl rfl (fun _ => rfl) (fun w => by go_simp)) ?_
    refine Rg.goods_cons (Rg.good_pick true hre rfl rfl rfl rfl) ?_
    refine Rg.goods_cons (Rg.good_move hre rfl rfl rfl) ?_
    refine Rg.goods_cons (Rg.good_move hre rfl rfl rfl) ?_
    refine Rg.goods_cons (Rg.good_move hre rfl rfl rfl) ?_
    refine Rg.goods_cons (Rg.good_bin hre rfl rfl rfl rfl (fun _ => rfl) (fun w => by go_simp)) ?_
    refine Rg.goods_cons (Rg.good_pick true hre rfl rfl rfl rfl) ?_
    refine Rg.goods_cons (Rg.good_move hre rfl rfl rfl) ?_
    refine Rg.goods_cons (Rg.good_move hre rfl rfl rfl) ?_
    refine Rg.goods_cons (Rg.good_move hre rfl rfl rfl) ?_
    refine Rg.goods_cons (Rg.good_len hre rfl rfl (by rintro u w _ rfl; rfl)) ?_
    refine Rg.goods_cons (Rg.good_bin hre rfl rfl rfl rfl (fun _ => rfl) (fun w => by go_simp)) ?_
    refine Rg.goods_cons (Rg.good_pick true hre rfl rfl rfl rfl) ?_
    refine Rg.goods_cons (Rg.good_move hre rfl rfl rfl) ?_
    refine Rg.goods_cons (Rg.good_move hre rfl rfl rfl) ?_
    refine Rg.goods_cons (Rg.good_call2 Try.func17 (by kernel_rfl) rfl rfl rfl (by rintro u u2 wx hC rfl rfl; exact put_row n1 wx hC hn1)) ?_
    refine Rg.goods_cons (Rg.good_conv hre rfl rfl (by exact fun u w _ h => conv_row h)) ?_
    refine Rg.goods_cons (Rg.good_move hre rfl rfl rfl) ?_
    refine Rg.goods_cons (Rg.good_call2 Try.func17 (by kernel_rfl) rfl rfl rfl (by rintro u u2 wx hC rfl rfl; exact put_row n2 wx hC hn2)) ?_
    refine Rg.goods_cons (Rg.good_conv hre rfl rfl (by exact fun u w _ h => conv_row h)) ?_
    refine Rg.goods_cons (Rg.good_bin hre rfl rfl rfl rfl (fun _ => rfl) (fun w => by simp only [go_sem, str_toList, HBs.out, Sem.run_pure])) ?_
    refine Rg.goods_cons (Rg.good_move hre rfl rfl rfl) ?_
    refine Rg.goods_cons (Rg.good_move hre rfl rfl rfl) ?_
    refine Rg.goods_cons (Rg.good_bin hre rfl rfl rfl rfl (fun _ => rfl) (fun w => by simp only [go_sem, HBi.out, Sem.run_pure])) ?_
    refine Rg.goods_cons (Rg.good_bin hre rfl rfl rfl rfl (fun _ => rfl) (fun w => by go_simp)) ?_
    refine Rg.goods_cons (Rg.good_pick true hre rfl rfl rfl rfl) ?_
    refine Rg.goods_cons (Rg.good_move hre rfl rfl rfl) ?_
    refine Rg.goods_cons (Rg.good_move hre rfl rfl rfl) ?_
    refine Rg.goods_cons (Rg.good_call1 Try.func12 (by kernel_rfl) rfl rfl rfl (by rintro u wx hC rfl; exact zig_row a3 _ wx hC l3 u3 rfl)) ?_
    refine Rg.goods_cons (Rg.good_call1 Try.func13 (by kernel_rfl) rfl rfl rfl (by rintro u wx hC rfl; exact zag_row _ a3 wx hC hz1 hz2 (M.zag_zig a3))) ?_
    refine Rg.goods_cons (Rg.good_move hre rfl rfl rfl) ?_
    refine Rg.goods_cons (Rg.good_bin hre rfl rfl rfl rfl (fun _ => rfl) (fun w => by go_simp)) ?_
    refine Rg.goods_cons (Rg.good_pick true hre rfl rfl rfl rfl) ?_
    refine Rg.goods_cons (Rg.good_move hre rfl rfl rfl) ?_
    refine Rg.goods_cons (Rg.good_move hre rfl rfl rfl) ?_
    refine Rg.goods_cons (Rg.good_call1 Try.func13 (by kernel_rfl) rfl rfl rfl (by rintro u wx hC rfl; exact zag_row _ _ wx hC (by omega) (by omega) rfl)) ?_
    refine Rg.goods_cons (Rg.good_call1 Try.func12 (by kernel_rfl) rfl rfl rfl (by rintro u wx hC rfl; exact zig_row _ _ wx hC hy1 hy2 (M.zig_zag n1 (by omega)))) ?_
    refine Rg.goods_cons (Rg.good_move hre rfl rfl rfl) ?_
    refine Rg.goods_cons (Rg.good_bin hre rfl rfl rfl rfl (fun _ => rfl) (fun w => by go_simp)) ?_
    refine Rg.goods_cons (Rg.good_pick true hre rfl rfl rfl rfl) ?_
    refine Rg.goods_cons (Rg.good_move hre rfl rfl rfl) ?_
    refine Rg.goods_cons (Rg.good_call0 Try.func14 (by kernel_rfl) rfl rfl rfl (by exact fun wx hC => known_row wx hC)) ?_
    refine Rg.goods_cons (Rg.good_pick true hre rfl rfl rfl rfl) ?_
    refine Rg.goods_cons (Rg.good_assign hre rfl rfl rfl) ?_
    exact Rg.goods_nil
  case fin =>
    intro wx hx
    simp only [Rg.later, Act.put, List.setIfInBounds_toArray, List.set_cons_succ, List.set_cons_zero]
    intro va hva vb hvb
    clear hva hvb
    go_wp2
    go_ret
    exact ⟨rfl, hx⟩

theorem walk (p0 : Option Addr) (c0 : Nat) (l0 : List UInt8) (a1 : Int) (a2 : Int) (a3 : Int) (s4 : List UInt8) (w : World) (b0 : Byt w p0 c0 l0) (w0 : l0.length ≤ 140737488351232) (w1 : 0 ≤ a1 ∧ a1 ≤ 18446744073709551615) (w2 : 0 ≤ a2 ∧ a2 ≤ 18446744073709551615) (w3 : -9223372036854775808 ≤ a3 ∧ a3 ≤ 9223372036854775807) (w4 : s4.length ≤ 140737488351232) :
    Calls Try.prog 5 #[.slice p0 l0.length c0, .int .u64 a1, .int .u64 a2, .int .i64 a3, .string (str s4)] w fun e w' => e = .returned (.bool true) ∧ Below w.heap.size w w' := by
  obtain ⟨n1, rfl⟩ := Int.eq_ofNat_of_zero_le w1.1
  obtain ⟨n2, rfl⟩ := Int.eq_ofNat_of_zero_le w2.1
  by_cases h : 300 < s4.length
  · exact walk_long p0 c0 l0 n1 n2 a3 s4 w b0 w0 (by omega) (by omega) w3.1 w3.2 h w4
  · exact walk_short p0 c0 l0 n1 n2 a3 s4 w b0 w0 (by omega) (by omega) w3.1 w3.2 (by omega) w4
end Go.Proofs.Ytphlfajkcbhpoaa.varintBack
