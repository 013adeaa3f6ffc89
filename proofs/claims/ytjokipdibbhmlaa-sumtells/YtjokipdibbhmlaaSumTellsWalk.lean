/-
  The walk of the law SumTells: whatever bytes it is given, it returns true.
-/
import Derived.Test.YtjokipdibbhmlaaKnown
import Derived.Test.YtjokipdibbhmlaaBook
namespace Go.Proofs.Ytjokipdibbhmlaa.sumTells
open Go.RowKit
set_option linter.unusedVariables false

theorem same_of {f : FuncId} {args : Array Value} {w0 w : World} {v : Value} (h : Calls Try.prog f args w fun e w' => e = .returned v ∧ w' = w) (hC : Ex w0 w) :
    Calls Try.prog f args w (fun e w' => ∃ v', e = .returned v' ∧ Rg.Spec.ok (.inl v) v' w' ∧ Ex w w' ∧ Ex w0 w') :=
  h.mono fun e w' ⟨he, hw⟩ => ⟨v, he, rfl, hw ▸ Ex.refl _, hw ▸ hC⟩
theorem bool_of {f : FuncId} {args : Array Value} {w0 w : World} {v : Value} (h : Calls Try.prog f args w fun e w' => e = .returned v ∧ Ex w w') (hC : Ex w0 w) :
    Calls Try.prog f args w (fun e w' => ∃ v', e = .returned v' ∧ Rg.Spec.ok (.inl v) v' w' ∧ Ex w w' ∧ Ex w0 w') :=
  h.mono fun e w' ⟨he, hw⟩ => ⟨v, he, rfl, hw, hC.trans hw⟩
theorem roomy_is (a : Option Addr) (n cap : Nat) (l : List UInt8) (w : World) (hn : n = l.length) (hB : Byt w a cap l) (hlen : l.length ≤ 140737488351232) :
    Calls Try.prog 11 #[.slice a n cap, .int .u8 165] w fun e w' => ∃ a' cap', e = .returned (.slice a' (room l).length cap') ∧ Byt w' a' cap' (room l) ∧ Ex w w' := by
  subst hn; exact roomy_any a cap l w hB hlen
theorem intact_is (a b : Option Addr) (ca cb n m : Nat) (l : List UInt8) (w : World) (hn : n = (room l).length) (hm : m = l.length) (hA : Byt w a ca (room l)) (hB : Byt w b cb l) (hlen : l.length ≤ 140737488351232) :
    Calls Try.prog 14 #[.slice a n ca, .slice b m cb, .int .u8 165] w fun e w' => e = .returned (.bool true) ∧ Ex w w' := by
  subst hm; exact intact_yes a b ca cb n l w hn hA hB hlen

set_option maxRecDepth 100000 in
set_option maxHeartbeats 2000000 in
theorem walk_short (p0 : Option Addr) (c0 : Nat) (L : List UInt8) (w : World) (b0 : Byt w p0 c0 L) (w0 : L.length ≤ 3000) :
    Calls Try.prog 4 #[.slice p0 L.length c0] w fun e w' => e = .returned (.bool true) ∧ Below w.heap.size w w' := by
  have hLn : L.length = L.length := rfl
  have hb := b0
  have hlb : decide ((3000 : Int) < (L.length : Int)) = false := by simp; omega
  have HN : Hid (L.length = L.length) := hLn
  have hLm : L.length ≤ 9223372036854775807 := by omega
  have hL3 : L.length ≤ 3000 := by omega
  have HB0 : Hid (Byt w p0 c0 L) := hb
  have hLn2 := hLn
  clear b0 hb hLn
  have hlen3 : L.length ≤ L.length := by have := hLn2; omega
  clear hLn2
  have hrm := room_len L
  have hrm1 : (room L).length ≤ L.length + 80 := by omega
  have hrm2 : L.length + 80 ≤ (room L).length := by omega
  clear hrm
  go_enter Try.func4, Try.ntmps4
  go_wp2_with fail
  refine (roomy_is p0 _ c0 L _ rfl HB0.out (by omega)).mono ?_
  rintro e w3 ⟨af, cf, rfl, hff, hx3⟩
  have HFF : Hid (Byt w3 af cf (room L)) := hff
  have hcf := hff.1
  have hcf3 := hff.2.1
  have hle : L.length ≤ cf := by omega
  have hle3 : L.length ≤ cf := by have := hlen3; omega
  have hf : Byt w3 af cf L := by
    have := hff.take (k := L.length) (by omega)
    rw [room_take] at this
    exact this
  have HF : Hid (Byt w3 af cf L) := hf
  have HB : Hid (Byt w3 p0 c0 L) := HB0.out.below hx3
  clear hff hf
  go_wp2_with fail
  have hre := Ex.refl
  refine Rg.wp_rows [.inl (Value.slice af (room L).length cf), .inl (Value.slice p0 L.length c0), .inl (Value.int IntKind.i64 ↑L.length), .inl (Value.slice af L.length cf), .inl (Value.int IntKind.u32 ↑(S.crc L)), .inl (Value.slice p0 L.length c0), .inl (Value.int IntKind.u32 ↑(S.crc L)), .inl (.bool true), .inl (.bool true), .inl (Value.slice p0 L.length c0), .inl (Value.string (str L)), .inl (Value.int IntKind.u64 ↑(S.fnv L)), .inl (Value.slice p0 L.length c0), .inl (Value.string (str L)), .inl (Value.int IntKind.u64 ↑(S.fnv L)), .inl (.bool true), .inl (.bool true), .inl (.bool true), .inl (Value.slice af (room L).length cf), .inl (Value.slice p0 L.length c0), .inl (.bool true), .inl (.bool true), .inl (.bool true), .inl (.bool true), .inl (.bool true), .inl (.bool true)] (Ex w3) Ex 36 (by kernel_rfl) rfl (by kernel_rfl) ?st hre (Ex.drew _) ?goods ?fin
  case st => exact trivial
  case goods =>
    refine Rg.goods_cons (Rg.good_move hre rfl rfl rfl) ?_
    refine Rg.goods_cons (Rg.good_move hre rfl rfl rfl) ?_
    refine Rg.goods_cons (Rg.good_len hre rfl rfl (by rintro u w _ rfl; rfl)) ?_
    refine Rg.goods_cons (Rg.good_slice2 hre rfl rfl rfl (by rintro u wx hC rfl; exact ⟨_, slice_row af _ cf L.length wx (by omega) hcf3, rfl⟩)) ?_
    refine Rg.goods_cons (Rg.good_call1 Try.func8 (by kernel_rfl) rfl rfl rfl (by rintro u wx hC rfl; exact same_of (crc_is af _ cf L _ wx (HF.out.below hC) rfl rfl) hC)) ?_
    refine Rg.goods_cons (Rg.good_move hre rfl rfl rfl) ?_
    refine Rg.goods_cons (Rg.good_call1 Try.func12 (by kernel_rfl) rfl rfl rfl (by rintro u wx hC rfl; exact same_of (rcrc_is p0 _ c0 L _ wx (HB.out.below hC) rfl rfl) hC)) ?_
    refine Rg.goods_cons (Rg.good_bin hre rfl rfl rfl rfl (fun _ => rfl) (fun w => by go_simp)) ?_
    refine Rg.goods_cons (Rg.good_move hre rfl rfl rfl) ?_
    refine Rg.goods_cons (Rg.good_move hre rfl rfl rfl) ?_
    refine Rg.goods_cons (Rg.good_conv hre rfl rfl (by rintro u wx hC rfl; exact run_str (HB.out.below hC) rfl)) ?_
    refine Rg.goods_cons (Rg.good_call1 Try.func9 (by kernel_rfl) rfl rfl rfl (by rintro u wx hC rfl; exact same_of (fnv_is _ L _ wx rfl hLm rfl) hC)) ?_
    refine Rg.goods_cons (Rg.good_move hre rfl rfl rfl) ?_
    refine Rg.goods_cons (Rg.good_conv hre rfl rfl (by rintro u wx hC rfl; exact run_str (HB.out.below hC) rfl)) ?_
    refine Rg.goods_cons (Rg.good_call1 Try.func13 (by kernel_rfl) rfl rfl rfl (by rintro u wx hC rfl; exact same_of (rfnv_is _ L _ wx rfl hLm rfl) hC)) ?_
    refine Rg.goods_cons (Rg.good_bin hre rfl rfl rfl rfl (fun _ => rfl) (fun w => by go_simp)) ?_
    refine Rg.goods_cons (Rg.good_pick true hre rfl rfl rfl rfl) ?_
    refine Rg.goods_cons (Rg.good_move hre rfl rfl rfl) ?_
    refine Rg.goods_cons (Rg.good_move hre rfl rfl rfl) ?_
    refine Rg.goods_cons (Rg.good_move hre rfl rfl rfl) ?_
    refine Rg.goods_cons (Rg.good_call3 Try.func14 (by kernel_rfl) rfl rfl rfl (by rintro u u2 u3 wx hC rfl rfl rfl; exact bool_of (intact_is af p0 cf c0 _ _ L wx rfl rfl (HFF.out.below hC) (HB.out.below hC) (by omega)) hC)) ?_
    refine Rg.goods_cons (Rg.good_pick true hre rfl rfl rfl rfl) ?_
    refine Rg.goods_cons (Rg.good_move hre rfl rfl rfl) ?_
    refine Rg.goods_cons (Rg.good_call0 Try.func10 (by kernel_rfl) rfl rfl rfl (by exact fun wx hC => known_row wx hC)) ?_
    refine Rg.goods_cons (Rg.good_pick true hre rfl rfl rfl rfl) ?_
    refine Rg.goods_cons (Rg.good_assign hre rfl rfl rfl) ?_
    exact Rg.goods_nil
  case fin =>
    intro wx hx
    simp only [Rg.later, Act.put, List.setIfInBounds_toArray, List.set_cons_succ, List.set_cons_zero]
    go_wp2
    go_ret
    exact ⟨rfl, hx3.trans hx⟩

set_option maxRecDepth 100000 in
set_option maxHeartbeats 2000000 in
theorem walk_long (p0 : Option Addr) (c0 : Nat) (l0 : List UInt8) (w : World) (b0 : Byt w p0 c0 l0) (w1 : 3000 < l0.length) (w0 : l0.length ≤ 140737488351232) :
    Calls Try.prog 4 #[.slice p0 l0.length c0] w fun e w' => e = .returned (.bool true) ∧ Below w.heap.size w w' := by
  obtain ⟨L, hL⟩ : ∃ L, L = l0.take 3000 := ⟨_, rfl⟩
  have hLn : 3000 = L.length := by rw [hL]; simp; omega
  have hb : Byt w p0 c0 L := by rw [hL]; exact b0.take (by omega)
  have hlb : decide ((3000 : Int) < (l0.length : Int)) = true := by simp; omega
  have hc1 := b0.1
  have hc2 := b0.2.1
  unfold maxLen at hc2
  have hle0 : (3000 : Int) ≤ (c0 : Int) := by omega
  have hl0 : l0.length ≤ 9223372036854775807 := by omega
  clear hL
  have HN : Hid (3000 = L.length) := hLn
  have hLm : L.length ≤ 9223372036854775807 := by omega
  have hL3 : L.length ≤ 3000 := by omega
  have HB0 : Hid (Byt w p0 c0 L) := hb
  have hLn2 := hLn
  clear b0 hb hLn
  have hlen3 : 3000 ≤ L.length := by have := hLn2; omega
  clear hLn2
  have hrm := room_len L
  have hrm1 : (room L).length ≤ L.length + 80 := by omega
  have hrm2 : L.length + 80 ≤ (room L).length := by omega
  clear hrm
  go_enter Try.func4, Try.ntmps4
  go_wp2_with fail
  refine (roomy_is p0 _ c0 L _ HN.out HB0.out (by omega)).mono ?_
  rintro e w3 ⟨af, cf, rfl, hff, hx3⟩
  have HFF : Hid (Byt w3 af cf (room L)) := hff
  have hcf := hff.1
  have hcf3 := hff.2.1
  have hle : L.length ≤ cf := by omega
  have hle3 : 3000 ≤ cf := by have := hlen3; omega
  have hf : Byt w3 af cf L := by
    have := hff.take (k := L.length) (by omega)
    rw [room_take] at this
    exact this
  have HF : Hid (Byt w3 af cf L) := hf
  have HB : Hid (Byt w3 p0 c0 L) := HB0.out.below hx3
  clear hff hf
  go_wp2_with fail
  have hre := Ex.refl
  refine Rg.wp_rows [.inl (Value.slice af (room L).length cf), .inl (Value.slice p0 3000 c0), .inl (Value.int IntKind.i64 3000), .inl (Value.slice af 3000 cf), .inl (Value.int IntKind.u32 ↑(S.crc L)), .inl (Value.slice p0 3000 c0), .inl (Value.int IntKind.u32 ↑(S.crc L)), .inl (.bool true), .inl (.bool true), .inl (Value.slice p0 3000 c0), .inl (Value.string (str L)), .inl (Value.int IntKind.u64 ↑(S.fnv L)), .inl (Value.slice p0 3000 c0), .inl (Value.string (str L)), .inl (Value.int IntKind.u64 ↑(S.fnv L)), .inl (.bool true), .inl (.bool true), .inl (.bool true), .inl (Value.slice af (room L).length cf), .inl (Value.slice p0 3000 c0), .inl (.bool true), .inl (.bool true), .inl (.bool true), .inl (.bool true), .inl (.bool true), .inl (.bool true)] (Ex w3) Ex 36 (by kernel_rfl) rfl (by kernel_rfl) ?st hre (Ex.drew _) ?goods ?fin
  case st => exact trivial
  case goods =>
    refine Rg.goods_cons (Rg.good_move hre rfl rfl rfl) ?_
    refine Rg.goods_cons (Rg.good_move hre rfl rfl rfl) ?_
    refine Rg.goods_cons (Rg.good_len hre rfl rfl (by rintro u w _ rfl; rfl)) ?_
    refine Rg.goods_cons (Rg.good_slice2 hre rfl rfl rfl (by rintro u wx hC rfl; exact ⟨_, slice_row af _ cf 3000 wx (by omega) hcf3, rfl⟩)) ?_
    refine Rg.goods_cons (Rg.good_call1 Try.func8 (by kernel_rfl) rfl rfl rfl (by rintro u wx hC rfl; exact same_of (crc_is af _ cf L _ wx (HF.out.below hC) HN.out rfl) hC)) ?_
    refine Rg.goods_cons (Rg.good_move hre rfl rfl rfl) ?_
    refine Rg.goods_cons (Rg.good_call1 Try.func12 (by kernel_rfl) rfl rfl rfl (by rintro u wx hC rfl; exact same_of (rcrc_is p0 _ c0 L _ wx (HB.out.below hC) HN.out rfl) hC)) ?_
    refine Rg.goods_cons (Rg.good_bin hre rfl rfl rfl rfl (fun _ => rfl) (fun w => by go_simp)) ?_
    refine Rg.goods_cons (Rg.good_move hre rfl rfl rfl) ?_
    refine Rg.goods_cons (Rg.good_move hre rfl rfl rfl) ?_
    refine Rg.goods_cons (Rg.good_conv hre rfl rfl (by rintro u wx hC rfl; exact run_str (HB.out.below hC) HN.out)) ?_
    refine Rg.goods_cons (Rg.good_call1 Try.func9 (by kernel_rfl) rfl rfl rfl (by rintro u wx hC rfl; exact same_of (fnv_is _ L _ wx rfl hLm rfl) hC)) ?_
    refine Rg.goods_cons (Rg.good_move hre rfl rfl rfl) ?_
    refine Rg.goods_cons (Rg.good_conv hre rfl rfl (by rintro u wx hC rfl; exact run_str (HB.out.below hC) HN.out)) ?_
    refine Rg.goods_cons (Rg.good_call1 Try.func13 (by kernel_rfl) rfl rfl rfl (by rintro u wx hC rfl; exact same_of (rfnv_is _ L _ wx rfl hLm rfl) hC)) ?_
    refine Rg.goods_cons (Rg.good_bin hre rfl rfl rfl rfl (fun _ => rfl) (fun w => by go_simp)) ?_
    refine Rg.goods_cons (Rg.good_pick true hre rfl rfl rfl rfl) ?_
    refine Rg.goods_cons (Rg.good_move hre rfl rfl rfl) ?_
    refine Rg.goods_cons (Rg.good_move hre rfl rfl rfl) ?_
    refine Rg.goods_cons (Rg.good_move hre rfl rfl rfl) ?_
    refine Rg.goods_cons (Rg.good_call3 Try.func14 (by kernel_rfl) rfl rfl rfl (by rintro u u2 u3 wx hC rfl rfl rfl; exact bool_of (intact_is af p0 cf c0 _ _ L wx rfl HN.out (HFF.out.below hC) (HB.out.below hC) (by omega)) hC)) ?_
    refine Rg.goods_cons (Rg.good_pick true hre rfl rfl rfl rfl) ?_
    refine Rg.goods_cons (Rg.good_move hre rfl rfl rfl) ?_
    refine Rg.goods_cons (Rg.good_call0 Try.func10 (by kernel_rfl) rfl rfl rfl (by exact fun wx hC => known_row wx hC)) ?_
    refine Rg.goods_cons (Rg.good_pick true hre rfl rfl rfl rfl) ?_
    refine Rg.goods_cons (Rg.good_assign hre rfl rfl rfl) ?_
    exact Rg.goods_nil
  case fin =>
    intro wx hx
    simp only [Rg.later, Act.put, List.setIfInBounds_toArray, List.set_cons_succ, List.set_cons_zero]
    go_wp2
    go_ret
    exact ⟨rfl, hx3.trans hx⟩

theorem walk (p0 : Option Addr) (c0 : Nat) (l0 : List UInt8) (w : World) (b0 : Byt w p0 c0 l0) (w0 : l0.length ≤ 140737488351232) :
    Calls Try.prog 4 #[.slice p0 l0.length c0] w fun e w' => e = .returned (.bool true) ∧ Below w.heap.size w w' := by
  by_cases h : 3000 < l0.length
  · exact walk_long p0 c0 l0 w b0 h w0
  · exact walk_short p0 c0 l0 w b0 (by omega)
end Go.Proofs.Ytjokipdibbhmlaa.sumTells
