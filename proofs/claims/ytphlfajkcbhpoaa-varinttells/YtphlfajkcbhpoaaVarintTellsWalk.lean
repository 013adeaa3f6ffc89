/-
  The walk of the law VarintTells: whatever bytes, numbers, text and places it is given, it returns true.
-/
import Derived.Test.YtphlfajkcbhpoaaBook
namespace Go.Proofs.Ytphlfajkcbhpoaa.varintTells
open Go.RowKit
set_option linter.unusedVariables false

theorem row_of {f : FuncId} {args : Array Value} {w0 w : World} {l : List UInt8} (h : Calls Try.prog f args w fun e w' => ∃ v', e = .returned v' ∧ Own w' w.heap.size v' l ∧ Below w.heap.size w w') (hC : Ex w0 w) :
    Calls Try.prog f args w (fun e w' => ∃ v', e = .returned v' ∧ Rg.Spec.ok (.inr (IsByt l)) v' w' ∧ Ex w w' ∧ Ex w0 w') :=
  h.mono fun e w' ⟨v', he, ho, hb⟩ => ⟨v', he, ho.isByt, hb, hC.trans hb⟩
theorem same_of {f : FuncId} {args : Array Value} {w0 w : World} {v : Value} (h : Calls Try.prog f args w fun e w' => e = .returned v ∧ w' = w) (hC : Ex w0 w) :
    Calls Try.prog f args w (fun e w' => ∃ v', e = .returned v' ∧ Rg.Spec.ok (.inl v) v' w' ∧ Ex w w' ∧ Ex w0 w') :=
  h.mono fun e w' ⟨he, hw⟩ => ⟨v, he, rfl, hw ▸ Ex.refl _, hw ▸ hC⟩
theorem bool_of {f : FuncId} {args : Array Value} {w0 w : World} {v : Value} (h : Calls Try.prog f args w fun e w' => e = .returned v ∧ Ex w w') (hC : Ex w0 w) :
    Calls Try.prog f args w (fun e w' => ∃ v', e = .returned v' ∧ Rg.Spec.ok (.inl v) v' w' ∧ Ex w w' ∧ Ex w0 w') :=
  h.mono fun e w' ⟨he, hw⟩ => ⟨v, he, rfl, hw, hC.trans hw⟩

set_option maxRecDepth 100000 in
set_option maxHeartbeats 2000000 in
theorem walk_short (p0 : Option Addr) (c0 : Nat) (l0 : List UInt8) (n1 : Nat) (a2 : Int) (s3 : List UInt8) (a4 : Int) (a5 : Int) (w : World) (b0 : Byt w p0 c0 l0) (w0 : l0.length ≤ 140737488351232) (hn1 : n1 < 18446744073709551616) (l2 : -9223372036854775808 ≤ a2) (u2 : a2 ≤ 9223372036854775807) (l5 : -9223372036854775808 ≤ a5) (u5 : a5 ≤ 9223372036854775807) (w3 : s3.length ≤ 300) (w5 : s3.length ≤ 140737488351232) :
    Calls Try.prog 4 #[.slice p0 l0.length c0, .int .u64 n1, .int .i64 a2, .string (str s3), .int .i64 a4, .int .i64 a5] w fun e w' => e = .returned (.bool true) ∧ Below w.heap.size w w' := by
  have HB0 : Hid (Byt w p0 c0 l0) := b0
  clear b0
  have hss : (str s3).size = s3.length := str_size s3
  have hlb : decide ((300 : Int) < (s3.length : Int)) = false := by simp; omega
  have w6 := w3
  have d1 := M.digs_len n1
  have d2 := M.digs_len s3.length
  obtain ⟨q, hq⟩ : ∃ q, q = l0 ++ M.digs n1 := ⟨_, rfl⟩
  obtain ⟨r, hr⟩ : ∃ r, r = l0 ++ M.digs s3.length ++ s3 := ⟨_, rfl⟩
  have HQ : Hid (l0 ++ M.digs n1 = q) := hq.symm
  have HR : Hid (l0 ++ M.digs s3.length ++ s3 = r) := hr.symm
  obtain ⟨⟨N, k, e0⟩, hg⟩ : ∃ x, M.get l0 a4 = x := ⟨_, rfl⟩
  obtain ⟨⟨tt, k2, e2⟩, hg2⟩ : ∃ x, M.getText l0 a4 a5 = x := ⟨_, rfl⟩
  have HG : Hid (M.get l0 a4 = (N, k, e0)) := hg
  have HG2 : Hid (M.getText l0 a4 a5 = (tt, k2, e2)) := hg2
  have hrm := room_len l0
  have hrm1 : (room l0).length ≤ l0.length + 80 := by omega
  have hrm2 : l0.length + 80 ≤ (room l0).length := by omega
  clear hq hr hg hg2 hrm
  go_enter Try.func4, Try.ntmps4
  go_wp2_with fail
  refine (roomy_any p0 c0 l0 _ HB0.out w0).mono ?_
  rintro e w3 ⟨af, cf, rfl, hff, hx3⟩
  have HFF : Hid (Byt w3 af cf (room l0)) := hff
  have hcf := hff.1
  have hcf2 := hff.2.1
  unfold maxLen at hcf2
  have hle : (l0.length : Int) ≤ (cf : Int) := by omega
  have hf : Byt w3 af cf l0 := by
    have := hff.take (k := l0.length) (by omega)
    rw [room_take] at this
    exact this
  have HF : Hid (Byt w3 af cf l0) := hf
  have HB : Hid (Byt w3 p0 c0 l0) := HB0.out.below hx3
  clear hff hf
  go_wp2_with fail
  refine (get_is af _ cf l0 a4 _ N k e0 HG.out HF.out rfl).mono ?_
  rintro e wq ⟨rfl, hw⟩
  have hw' := hw.symm
  clear hw
  subst hw'
  go_wp2_with fail
  refine (rget_is p0 _ c0 l0 a4 _ N k e0 HG.out HB.out rfl).mono ?_
  rintro e wq ⟨rfl, hw⟩
  have hw' := hw.symm
  clear hw
  subst hw'
  go_wp2_with fail
  refine (getText_any af _ cf l0 a4 a5 _ HF.out rfl l5 u5 tt k2 e2 HG2.out).mono ?_
  rintro e wq ⟨rfl, hw⟩
  have hw' := hw.symm
  clear hw
  subst hw'
  go_wp2_with fail
  refine (rgetText_any p0 _ c0 l0 a4 a5 _ HB.out rfl l5 u5 tt k2 e2 HG2.out).mono ?_
  rintro e wq ⟨rfl, hw⟩
  have hw' := hw.symm
  clear hw
  subst hw'
  go_wp2_with fail
  have hre := Ex.refl
  refine Rg.wp_rows [.inl (Value.slice af l0.length cf), .inl (Value.int IntKind.u64 ↑n1), .inr (IsByt q), .inl (.string (str q)), .inl (Value.slice p0 l0.length c0), .inl (Value.int IntKind.u64 ↑n1), .inr (IsByt q), .inl (.string (str q)), .inl (.bool true), .inl (.bool true), .inl (Value.slice af l0.length cf), .inl (Value.string (str s3)), .inr (IsByt r), .inl (.string (str r)), .inl (Value.slice p0 l0.length c0), .inl (Value.string (str s3)), .inr (IsByt r), .inl (.string (str r)), .inl (.bool true), .inl (.bool true), .inl (.bool true), .inl (Value.int IntKind.i64 a2), .inl (Value.int IntKind.u64 (M.zig a2)), .inl (Value.int IntKind.i64 a2), .inl (Value.int IntKind.u64 (M.zig a2)), .inl (.bool true), .inl (.bool true), .inl (.bool true), .inl (Value.int IntKind.u64 ↑n1), .inl (Value.int IntKind.i64 (M.zag n1)), .inl (Value.int IntKind.u64 ↑n1), .inl (Value.int IntKind.i64 (M.zag n1)), .inl (.bool true), .inl (.bool true), .inl (.bool true), .inl (Value.slice af (room l0).length cf), .inl (Value.slice p0 l0.length c0), .inl (.bool true), .inl (.bool true), .inl (.bool true), .inl (.bool true), .inl (.bool true), .inl (.bool true)] (Ex w3) Ex 138 (by kernel_rfl) rfl (by kernel_rfl) ?st hre (Ex.drew _) ?goods ?fin
  case st => exact ⟨IsByt.stands _, IsByt.stands _, IsByt.stands _, IsByt.stands _, trivial⟩
  case goods =>
    refine Rg.goods_cons (Rg.good_move hre rfl rfl rfl) ?_
    refine Rg.goods_cons (Rg.good_move hre rfl rfl rfl) ?_
    refine Rg.goods_cons (Rg.good_call2 Try.func17 (by kernel_rfl) rfl rfl rfl (by rintro u u2 wx hC rfl rfl; exact row_of (put_is af _ cf l0 q _ n1 wx rfl HQ.out (HF.out.below hC) rfl hn1 (by omega)) hC)) ?_
    refine Rg.goods_cons (Rg.good_conv hre rfl rfl (by exact fun u w _ h => conv_row h)) ?_
    refine Rg.goods_cons (Rg.good_move hre rfl rfl rfl) ?_
    refine Rg.goods_cons (Rg.good_move hre rfl rfl rfl) ?_
    refine Rg.goods_cons (Rg.good_call2 Try.func18 (by kernel_rfl) rfl rfl rfl (by rintro u u2 wx hC rfl rfl; exact row_of (rput_is p0 _ c0 l0 q _ n1 wx rfl HQ.out (HB.out.below hC) rfl hn1 (by omega)) hC)) ?_
    refine Rg.goods_cons (Rg.good_conv hre rfl rfl (by exact fun u w _ h => conv_row h)) ?_
    refine Rg.goods_cons (Rg.good_bin hre rfl rfl rfl rfl (fun _ => rfl) (fun w => by go_simp)) ?_
    refine Rg.goods_cons (Rg.good_move hre rfl rfl rfl) ?_
    refine Rg.goods_cons (Rg.good_move hre rfl rfl rfl) ?_
    refine Rg.goods_cons (Rg.good_move hre rfl rfl rfl) ?_
    refine Rg.goods_cons (Rg.good_call2 Try.func19 (by kernel_rfl) rfl rfl rfl (by rintro u u2 wx hC rfl rfl; exact row_of (putText_any af cf l0 s3 r wx (HF.out.below hC) HR.out (by omega)) hC)) ?_
    refine Rg.goods_cons (Rg.good_conv hre rfl rfl (by exact fun u w _ h => conv_row h)) ?_
    refine Rg.goods_cons (Rg.good_move hre rfl rfl rfl) ?_
    refine Rg.goods_cons (Rg.good_move hre rfl rfl rfl) ?_
    refine Rg.goods_cons (Rg.good_call2 Try.func20 (by kernel_rfl) rfl rfl rfl (by rintro u u2 wx hC rfl rfl; exact row_of (rputText_any p0 c0 l0 s3 r wx (HB.out.below hC) HR.out (by omega)) hC)) ?_
    refine Rg.goods_cons (Rg.good_conv hre rfl rfl (by exact fun u w _ h => conv_row h)) ?_
    refine Rg.goods_cons (Rg.good_bin hre rfl rfl rfl rfl (fun _ => rfl) (fun w => by go_simp)) ?_
    refine Rg.goods_cons (Rg.good_pick true hre rfl rfl rfl rfl) ?_
    refine Rg.goods_cons (Rg.good_move hre rfl rfl rfl) ?_
    refine Rg.goods_cons (Rg.good_move hre rfl rfl rfl) ?_
    refine Rg.goods_cons (Rg.good_call1 Try.func12 (by kernel_rfl) rfl rfl rfl (by rintro u wx hC rfl; exact zig_row a2 _ wx hC l2 u2 rfl)) ?_
    refine Rg.goods_cons (Rg.good_move hre rfl rfl rfl) ?_
    refine Rg.goods_cons (Rg.good_call1 Try.func21 (by kernel_rfl) rfl rfl rfl (by rintro u wx hC rfl; exact same_of (rzig_any a2 _ wx l2 u2 rfl) hC)) ?_
    refine Rg.goods_cons (Rg.good_bin hre rfl rfl rfl rfl (fun _ => rfl) (fun w => by go_simp)) ?_
    refine Rg.goods_cons (Rg.good_pick true hre rfl rfl rfl rfl) ?_
    refine Rg.goods_cons (Rg.good_move hre rfl rfl rfl) ?_
    refine Rg.goods_cons (Rg.good_move hre rfl rfl rfl) ?_
    refine Rg.goods_cons (Rg.good_call1 Try.func13 (by kernel_rfl) rfl rfl rfl (by rintro u wx hC rfl; exact zag_row _ _ wx hC (by omega) (by omega) rfl)) ?_
    refine Rg.goods_cons (Rg.good_move hre rfl rfl rfl) ?_
    refine Rg.goods_cons (Rg.good_call1 Try.func22 (by kernel_rfl) rfl rfl rfl (by rintro u wx hC rfl; exact same_of (rzag_any _ _ wx (by omega) (by omega) rfl) hC)) ?_
    refine Rg.goods_cons (Rg.good_bin hre rfl rfl rfl rfl (fun _ => rfl) (fun w => by go_simp)) ?_
    refine Rg.goods_cons (Rg.good_pick true hre rfl rfl rfl rfl) ?_
    refine Rg.goods_cons (Rg.good_move hre rfl rfl rfl) ?_
    refine Rg.goods_cons (Rg.good_move hre rfl rfl rfl) ?_
    refine Rg.goods_cons (Rg.good_move hre rfl rfl rfl) ?_
    refine Rg.goods_cons (Rg.good_call3 Try.func23 (by kernel_rfl) rfl rfl rfl (by rintro u u2 u3 wx hC rfl rfl rfl; exact bool_of (intact_yes af p0 cf c0 _ l0 wx rfl (HFF.out.below hC) (HB.out.below hC) w0) hC)) ?_
    refine Rg.goods_cons (Rg.good_pick true hre rfl rfl rfl rfl) ?_
    refine Rg.goods_cons (Rg.good_move hre rfl rfl rfl) ?_
    refine Rg.goods_cons (Rg.good_call0 Try.func14 (by kernel_rfl) rfl rfl rfl (by exact fun wx hC => known_row wx hC)) ?_
    refine Rg.goods_cons (Rg.good_pick true hre rfl rfl rfl rfl) ?_
    refine Rg.goods_cons (Rg.good_assign hre rfl rfl rfl) ?_
    exact Rg.goods_nil
  case fin =>
    intro wx hx
    simp only [Rg.later, Act.put, List.setIfInBounds_toArray, List.set_cons_succ, List.set_cons_zero]
    intro va hva vb hvb vc hvc vd hvd
    clear hva hvb hvc hvd
    go_wp2
    go_ret
    exact ⟨rfl, hx3.trans hx⟩

set_option maxRecDepth 100000 in
set_option maxHeartbeats 2000000 in
theorem walk_long (p0 : Option Addr) (c0 : Nat) (l0 : List UInt8) (n1 : Nat) (a2 : Int) (s3 : List UInt8) (a4 : Int) (a5 : Int) (w : World) (b0 : Byt w p0 c0 l0) (w0 : l0.length ≤ 140737488351232) (hn1 : n1 < 18446744073709551616) (l2 : -9223372036854775808 ≤ a2) (u2 : a2 ≤ 9223372036854775807) (l5 : -9223372036854775808 ≤ a5) (u5 : a5 ≤ 9223372036854775807) (w3 : 300 < s3.length) (w5 : s3.length ≤ 140737488351232) :
    Calls Try.prog 4 #[.slice p0 l0.length c0, .int .u64 n1, .int .i64 a2, .string (str s3), .int .i64 a4, .int .i64 a5] w fun e w' => e = .returned (.bool true) ∧ Below w.heap.size w w' := by
  have HB0 : Hid (Byt w p0 c0 l0) := b0
  clear b0
  have hss : (str s3).size = s3.length := str_size s3
  obtain ⟨t, ht⟩ : ∃ t, t = s3.take 300 := ⟨_, rfl⟩
  have htl : t.length = 300 := by rw [ht]; simp; omega
  have hcut : (str s3).extract 0 300 = str t := by rw [str_cut, ht]
  have hlb : decide ((300 : Int) < (s3.length : Int)) = true := by simp; omega
  have h300 : (300 : Int) ≤ (s3.length : Int) := by omega
  have w6 : t.length ≤ 300 := by omega
  clear ht htl
  have d1 := M.digs_len n1
  have d2 := M.digs_len t.length
  obtain ⟨q, hq⟩ : ∃ q, q = l0 ++ M.digs n1 := ⟨_, rfl⟩
  obtain ⟨r, hr⟩ : ∃ r, r = l0 ++ M.digs t.length ++ t := ⟨_, rfl⟩
  have HQ : Hid (l0 ++ M.digs n1 = q) := hq.symm
  have HR : Hid (l0 ++ M.digs t.length ++ t = r) := hr.symm
  obtain ⟨⟨N, k, e0⟩, hg⟩ : ∃ x, M.get l0 a4 = x := ⟨_, rfl⟩
  obtain ⟨⟨tt, k2, e2⟩, hg2⟩ : ∃ x, M.getText l0 a4 a5 = x := ⟨_, rfl⟩
  have HG : Hid (M.get l0 a4 = (N, k, e0)) := hg
  have HG2 : Hid (M.getText l0 a4 a5 = (tt, k2, e2)) := hg2
  have hrm := room_len l0
  have hrm1 : (room l0).length ≤ l0.length + 80 := by omega
  have hrm2 : l0.length + 80 ≤ (room l0).length := by omega
  clear hq hr hg hg2 hrm
  go_enter Try.func4, Try.ntmps4
  go_wp2_with fail
  refine (roomy_any p0 c0 l0 _ HB0.out w0).mono ?_
  rintro e w3 ⟨af, cf, rfl, hff, hx3⟩
  have HFF : Hid (Byt w3 af cf (room l0)) := hff
  have hcf := hff.1
  have hcf2 := hff.2.1
  unfold maxLen at hcf2
  have hle : (l0.length : Int) ≤ (cf : Int) := by omega
  have hf : Byt w3 af cf l0 := by
    have := hff.take (k := l0.length) (by omega)
    rw [room_take] at this
    exact this
  have HF : Hid (Byt w3 af cf l0) := hf
  have HB : Hid (Byt w3 p0 c0 l0) := HB0.out.below hx3
  clear hff hf
  go_wp2_with fail
  refine (get_is af _ cf l0 a4 _ N k e0 HG.out HF.out rfl).mono ?_
  rintro e wq ⟨rfl, hw⟩
  have hw' := hw.symm
  clear hw
  subst hw'
  go_wp2_with fail
  refine (rget_is p0 _ c0 l0 a4 _ N k e0 HG.out HB.out rfl).mono ?_
  rintro e wq ⟨rfl, hw⟩
  have hw' := hw.symm
  clear hw
  subst hw'
  go_wp2_with fail
  refine (getText_any af _ cf l0 a4 a5 _ HF.out rfl l5 u5 tt k2 e2 HG2.out).mono ?_
  rintro e wq ⟨rfl, hw⟩
  have hw' := hw.symm
  clear hw
  subst hw'
  go_wp2_with fail
  refine (rgetText_any p0 _ c0 l0 a4 a5 _ HB.out rfl l5 u5 tt k2 e2 HG2.out).mono ?_
  rintro e wq ⟨rfl, hw⟩
  have hw' := hw.symm
  clear hw
  subst hw'
  go_wp2_with fail
  have hre := Ex.refl
  refine Rg.wp_rows [.inl (Value.slice af l0.length cf), .inl (Value.int IntKind.u64 ↑n1), .inr (IsByt q), .inl (.string (str q)), .inl (Value.slice p0 l0.length c0), .inl (Value.int IntKind.u64 ↑n1), .inr (IsByt q), .inl (.string (str q)), .inl (.bool true), .inl (.bool true), .inl (Value.slice af l0.length cf), .inl (Value.string (str t)), .inr (IsByt r), .inl (.string (str r)), .inl (Value.slice p0 l0.length c0), .inl (Value.string (str t)), .inr (IsByt r), .inl (.string (str r)), .inl (.bool true), .inl (.bool true), .inl (.bool true), .inl (Value.int IntKind.i64 a2), .inl (Value.int IntKind.u64 (M.zig a2)), .inl (Value.int IntKind.i64 a2), .inl (Value.int IntKind.u64 (M.zig a2)), .inl (.bool true), .inl (.bool true), .inl (.bool true), .inl (Value.int IntKind.u64 ↑n1), .inl (Value.int IntKind.i64 (M.zag n1)), .inl (Value.int IntKind.u64 ↑n1), .inl (Value.int IntKind.i64 (M.zag n1)), .inl (.bool true), .inl (.bool true), .inl (.bool true), .inl (Value.slice af (room l0).length cf), .inl (Value.slice p0 l0.length c0), .inl (.bool true), .inl (.bool true), .inl (.bool true), .inl (.bool true), .inl (.bool true), .inl (.bool true)] (Ex w3) Ex 138 (by kernel_rfl) rfl (by kernel_rfl) ?st hre (Ex.drew _) ?goods ?fin
  case st => exact ⟨IsByt.stands _, IsByt.stands _, IsByt.stands _, IsByt.stands _, trivial⟩
  case goods =>
    refine Rg.goods_cons (Rg.good_move hre rfl rfl rfl) ?_
    refine Rg.goods_cons (Rg.good_move hre rfl rfl rfl) ?_
    refine Rg.goods_cons (Rg.good_call2 Try.func17 (by kernel_rfl) rfl rfl rfl (by rintro u u2 wx hC rfl rfl; exact row_of (put_is af _ cf l0 q _ n1 wx rfl HQ.out (HF.out.below hC) rfl hn1 (by omega)) hC)) ?_
    refine Rg.goods_cons (Rg.good_conv hre rfl rfl (by exact fun u w _ h => conv_row h)) ?_
    refine Rg.goods_cons (Rg.good_move hre rfl rfl rfl) ?_
    refine Rg.goods_cons (Rg.good_move hre rfl rfl rfl) ?_
    refine Rg.goods_cons (Rg.good_call2 Try.func18 (by kernel_rfl) rfl rfl rfl (by rintro u u2 wx hC rfl rfl; exact row_of (rput_is p0 _ c0 l0 q _ n1 wx rfl HQ.out (HB.out.below hC) rfl hn1 (by omega)) hC)) ?_
    refine Rg.goods_cons (Rg.good_conv hre rfl rfl (by exact fun u w _ h => conv_row h)) ?_
    refine Rg.goods_cons (Rg.good_bin hre rfl rfl rfl rfl (fun _ => rfl) (fun w => by go_simp)) ?_
    refine Rg.goods_cons (Rg.good_move hre rfl rfl rfl) ?_
    refine Rg.goods_cons (Rg.good_move hre rfl rfl rfl) ?_
    refine Rg.goods_cons (Rg.good_move hre rfl rfl rfl) ?_
    refine Rg.goods_cons (Rg.good_call2 Try.func19 (by kernel_rfl) rfl rfl rfl (by rintro u u2 wx hC rfl rfl; exact row_of (putText_any af cf l0 t r wx (HF.out.below hC) HR.out (by omega)) hC)) ?_
    refine Rg.goods_cons (Rg.good_conv hre rfl rfl (by exact fun u w _ h => conv_row h)) ?_
    refine Rg.goods_cons (Rg.good_move hre rfl rfl rfl) ?_
    refine Rg.goods_cons (Rg.good_move hre rfl rfl rfl) ?_
    refine Rg.goods_cons (Rg.good_call2 Try.func20 (by kernel_rfl) rfl rfl rfl (by rintro u u2 wx hC rfl rfl; exact row_of (rputText_any p0 c0 l0 t r wx (HB.out.below hC) HR.out (by omega)) hC)) ?_
    refine Rg.goods_cons (Rg.good_conv hre rfl rfl (by exact fun u w _ h => conv_row h)) ?_
    refine Rg.goods_cons (Rg.good_bin hre rfl rfl rfl rfl (fun _ => rfl) (fun w => by go_simp)) ?_
    refine Rg.goods_cons (Rg.good_pick true hre rfl rfl rfl rfl) ?_
    refine Rg.goods_cons (Rg.good_move hre rfl rfl rfl) ?_
    refine Rg.goods_cons (Rg.good_move hre rfl rfl rfl) ?_
    refine Rg.goods_cons (Rg.good_call1 Try.func12 (by kernel_rfl) rfl rfl rfl (by rintro u wx hC rfl; exact zig_row a2 _ wx hC l2 u2 rfl)) ?_
    refine Rg.goods_cons (Rg.good_move hre rfl rfl rfl) ?_
    refine Rg.goods_cons (Rg.good_call1 Try.func21 (by kernel_rfl) rfl rfl rfl (by rintro u wx hC rfl; exact same_of (rzig_any a2 _ wx l2 u2 rfl) hC)) ?_
    refine Rg.goods_cons (Rg.good_bin hre rfl rfl rfl rfl (fun _ => rfl) (fun w => by go_simp)) ?_
    refine Rg.goods_cons (Rg.good_pick true hre rfl rfl rfl rfl) ?_
    refine Rg.goods_cons (Rg.good_move hre rfl rfl rfl) ?_
    refine Rg.goods_cons (Rg.good_move hre rfl rfl rfl) ?_
    refine Rg.goods_cons (Rg.good_call1 Try.func13 (by kernel_rfl) rfl rfl rfl (by rintro u wx hC rfl; exact zag_row _ _ wx hC (by omega) (by omega) rfl)) ?_
    refine Rg.goods_cons (Rg.good_move hre rfl rfl rfl) ?_
    refine Rg.goods_cons (Rg.good_call1 Try.func22 (by kernel_rfl) rfl rfl rfl (by rintro u wx hC rfl; exact same_of (rzag_any _ _ wx (by omega) (by omega) rfl) hC)) ?_
    refine Rg.goods_cons (Rg.good_bin hre rfl rfl rfl rfl (fun _ => rfl) (fun w => by go_simp)) ?_
    refine Rg.goods_cons (Rg.good_pick true hre rfl rfl rfl rfl) ?_
    refine Rg.goods_cons (Rg.good_move hre rfl rfl rfl) ?_
    refine Rg.goods_cons (Rg.good_move hre rfl rfl rfl) ?_
    refine Rg.goods_cons (Rg.good_move hre rfl rfl rfl) ?_
    refine Rg.goods_cons (Rg.good_call3 Try.func23 (by kernel_rfl) rfl rfl rfl (by rintro u u2 u3 wx hC rfl rfl rfl; exact bool_of (intact_yes af p0 cf c0 _ l0 wx rfl (HFF.out.below hC) (HB.out.below hC) w0) hC)) ?_
    refine Rg.goods_cons (Rg.good_pick true hre rfl rfl rfl rfl) ?_
    refine Rg.goods_cons (Rg.good_move hre rfl rfl rfl) ?_
    refine Rg.goods_cons (Rg.good_call0 Try.func14 (by kernel_rfl) rfl rfl rfl (by exact fun wx hC => known_row wx hC)) ?_
    refine Rg.goods_cons (Rg.good_pick true hre rfl rfl rfl rfl) ?_
    refine Rg.goods_cons (Rg.good_assign hre rfl rfl rfl) ?_
    exact Rg.goods_nil
  case fin =>
    intro wx hx
    simp only [Rg.later, Act.put, List.setIfInBounds_toArray, List.set_cons_succ, List.set_cons_zero]
    intro va hva vb hvb vc hvc vd hvd
    clear hva hvb hvc hvd
    go_wp2
    go_ret
    exact ⟨rfl, hx3.trans hx⟩

theorem walk (p0 : Option Addr) (c0 : Nat) (l0 : List UInt8) (a1 : Int) (a2 : Int) (s3 : List UInt8) (a4 : Int) (a5 : Int) (w : World) (b0 : Byt w p0 c0 l0) (w0 : l0.length ≤ 140737488351232) (w1 : 0 ≤ a1 ∧ a1 ≤ 18446744073709551615) (w2 : -9223372036854775808 ≤ a2 ∧ a2 ≤ 9223372036854775807) (w3 : s3.length ≤ 140737488351232) (w4 : -9223372036854775808 ≤ a4 ∧ a4 ≤ 9223372036854775807) (w5 : -9223372036854775808 ≤ a5 ∧ a5 ≤ 9223372036854775807) :
    Calls Try.prog 4 #[.slice p0 l0.length c0, .int .u64 a1, .int .i64 a2, .string (str s3), .int .i64 a4, .int .i64 a5] w fun e w' => e = .returned (.bool true) ∧ Below w.heap.size w w' := by
  obtain ⟨n1, rfl⟩ := Int.eq_ofNat_of_zero_le w1.1
  by_cases h : 300 < s3.length
  · exact walk_long p0 c0 l0 n1 a2 s3 a4 a5 w b0 w0 (by omega) w2.1 w2.2 w5.1 w5.2 h w3
  · exact walk_short p0 c0 l0 n1 a2 s3 a4 a5 w b0 w0 (by omega) w2.1 w2.2 w5.1 w5.2 (by omega) w3
end Go.Proofs.Ytphlfajkcbhpoaa.varintTells
