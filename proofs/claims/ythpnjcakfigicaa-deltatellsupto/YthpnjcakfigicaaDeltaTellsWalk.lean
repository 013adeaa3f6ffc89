/-
  The walk of the law DeltaTells: whatever numbers, bytes and places it is given (the bytes no more than two million), it returns true.
-/
import Derived.Test.YthpnjcakfigicaaKnown
namespace Go.Proofs.Ythpnjcakfigicaa.deltaTells
open Go.RowKit
set_option linter.unusedVariables false

theorem row_of {f : FuncId} {args : Array Value} {w0 w : World} {l : List UInt8} (h : Calls Try.prog f args w fun e w' => ∃ v', e = .returned v' ∧ IsByt l v' w' ∧ Ex w w') (hC : Ex w0 w) :
    Calls Try.prog f args w (fun e w' => ∃ v', e = .returned v' ∧ Rg.Spec.ok (.inr (IsByt l)) v' w' ∧ Ex w w' ∧ Ex w0 w') :=
  h.mono fun e w' ⟨v', he, ho, hb⟩ => ⟨v', he, ho, hb, hC.trans hb⟩

set_option maxRecDepth 100000 in
set_option maxHeartbeats 2000000 in
theorem walk (p0 : Option Addr) (c0 : Nat) (l0 : List Int) (p1 : Option Addr) (c1 : Nat) (l1 : List UInt8) (a2 : Int) (a3 : Int) (w : World) (b0 : Rd z64 w p0 c0 l0) (m0 : ∀ x ∈ l0, In64 x) (w0 : l0.length ≤ 1048576) (b1 : Byt w p1 c1 l1) (w1 : l1.length ≤ 1048576) (w2 : -9223372036854775808 ≤ a2 ∧ a2 ≤ 9223372036854775807) (w3 : -9223372036854775808 ≤ a3 ∧ a3 ≤ 9223372036854775807) :
    Calls Try.prog 4 #[.slice p0 l0.length c0, .slice p1 l1.length c1, .int .i64 a2, .int .i64 a3] w fun e w' => e = .returned (.bool true) ∧ Below w.heap.size w w' := by
  obtain ⟨v2, u2⟩ := w2
  obtain ⟨v3, u3⟩ := w3
  obtain ⟨L, hL⟩ : ∃ L, l0.take 60 = L := ⟨_, rfl⟩
  have hLl : L.length ≤ 60 := by rw [← hL]; simp; omega
  have hLB : Rd z64 w p0 c0 L := by rw [← hL]; exact b0.take 60
  have hLo : ∀ x ∈ L, D.ok x := by rw [← hL]; exact fun x hx => m0 x (List.mem_of_mem_take hx)
  obtain ⟨E, hE⟩ : ∃ E, D.enc L = E := ⟨_, rfl⟩
  obtain ⟨⟨r, k0, e0⟩, hd⟩ : ∃ x, D.dec l1 a2 a3 = x := ⟨_, rfl⟩
  have H0 : Hid (Rd z64 w p0 c0 l0) := b0
  have HB : Hid (Byt w p1 c1 l1) := b1
  have HLB : Hid (Rd z64 w p0 c0 L) := hLB
  have HL : Hid (l0.take 60 = L) := hL
  have HLo : Hid (∀ x ∈ L, D.ok x) := hLo
  have HE : Hid (D.enc L = E) := hE
  have HD : Hid (D.dec l1 a2 a3 = (r, k0, e0)) := hd
  have hrm := room_len l1
  have hrm1 : (room l1).length ≤ l1.length + 80 := by omega
  have hrm2 : l1.length + 80 ≤ (room l1).length := by omega
  clear b0 b1 hLB hL hLo hE hd m0 hrm
  go_enter Try.func4, Try.ntmps4
  go_wp2_with fail
  refine (few_is p0 c0 l0 L _ H0.out HL.out).mono ?_
  rintro e wq ⟨rfl, hw⟩
  have hw' := hw.symm; clear hw; subst hw'
  go_wp2_with fail
  refine (roomy_any p1 c1 l1 _ HB.out (by omega)).mono ?_
  rintro e w4 ⟨af, cf, rfl, hff, hx4⟩
  have hcf := hff.1
  have hcf2 := hff.2.1
  have hcf3 : cf ≤ 9223372036854775807 := by unfold maxLen at hcf2; omega
  have hle : (l1.length : Int) ≤ (cf : Int) := by omega
  have hf : Byt w4 af cf l1 := by
    have := hff.take (k := l1.length) (by omega)
    rw [room_take] at this
    exact this
  have HF : Hid (Byt w4 af cf l1) := hf
  have HFF0 : Hid (Byt w4 af cf (room l1)) := hff
  clear hff hf
  go_wp2_with fail
  refine (dec_is af _ cf l1 a2 a3 _ rfl HF.out (by omega) v2 u2 v3 u3 (Or.inr (by omega)) _ _ _ HD.out).mono ?_
  rintro e w5 ⟨v5, rfl, hv5, hx5⟩
  obtain ⟨a10, c10, rfl, hR10⟩ := hv5
  go_wp2_with fail
  refine (rdec_any p1 _ c1 l1 a2 a3 _ rfl (HB.out.below (hx4.trans hx5)) (by omega) v3 u3 (Or.inr (by omega)) _ _ _ HD.out).mono ?_
  rintro e w6 ⟨v6, rfl, hv6, hx6⟩
  obtain ⟨a13, c13, rfl, hR13⟩ := hv6
  have HX : Hid (Ex w w6) := (hx4.trans hx5).trans hx6
  have HFF : Hid (Byt w6 af cf (room l1)) := (HFF0.out.below hx5).below hx6
  have HR10 : Hid (Rd z64 w6 a10 c10 r) := hR10.below hx6
  have HR13 : Hid (Rd z64 w6 a13 c13 r) := hR13
  clear hR10 hR13 hx4 hx5 hx6 HFF0 HF
  go_wp2_with fail
  have hre := Ex.refl
  refine Rg.wp_rows [.inl (Value.slice p0 L.length c0), .inr (IsByt E), .inl (Value.string (str E)), .inl (Value.slice p0 L.length c0), .inr (IsByt E), .inl (Value.string (str E)), .inl (.bool true), .inl (.bool true), .inl (Value.slice a10 r.length c10), .inl (Value.slice a13 r.length c13), .inl (.bool true), .inl (.bool true), .inl (.bool true), .inl (Value.int IntKind.i64 ↑k0), .inl (Value.int IntKind.i64 ↑k0), .inl (.bool true), .inl (.bool true), .inl (.bool true), .inl (Value.int IntKind.i64 ↑e0), .inl (Value.int IntKind.i64 ↑e0), .inl (.bool true), .inl (.bool true), .inl (.bool true), .inl (Value.slice af (room l1).length cf), .inl (Value.slice p1 l1.length c1), .inl (.bool true), .inl (.bool true), .inl (.bool true), .inl (.bool true), .inl (.bool true), .inl (.bool true)] (Ex w6) Ex 69 (by kernel_rfl) rfl (by kernel_rfl) ?st hre (Ex.drew _) ?goods ?fin
  case st => exact ⟨IsByt.stands _, IsByt.stands _, trivial⟩
  case goods =>
    refine Rg.goods_cons (Rg.good_move hre rfl rfl rfl) ?_
    refine Rg.goods_cons (Rg.good_call1 Try.func10 (by kernel_rfl) rfl rfl rfl (by rintro u wx hC rfl; exact row_of (enc_is p0 _ c0 L wx rfl (HLB.out.below (HX.out.trans hC)) HLo.out (by omega) _ HE.out) hC)) ?_
    refine Rg.goods_cons (Rg.good_conv hre rfl rfl (by exact fun u w _ h => conv_row h)) ?_
    refine Rg.goods_cons (Rg.good_move hre rfl rfl rfl) ?_
    refine Rg.goods_cons (Rg.good_call1 Try.func16 (by kernel_rfl) rfl rfl rfl (by rintro u wx hC rfl; exact row_of (renc_any p0 _ c0 L wx rfl (HLB.out.below (HX.out.trans hC)) HLo.out (by omega) _ HE.out) hC)) ?_
    refine Rg.goods_cons (Rg.good_conv hre rfl rfl (by exact fun u w _ h => conv_row h)) ?_
    refine Rg.goods_cons (Rg.good_bin hre rfl rfl rfl rfl (fun _ => rfl) (fun w => by go_simp)) ?_
    refine Rg.goods_cons (Rg.good_move hre rfl rfl rfl) ?_
    refine Rg.goods_cons (Rg.good_move hre rfl rfl rfl) ?_
    refine Rg.goods_cons (Rg.good_move hre rfl rfl rfl) ?_
    refine Rg.goods_cons (Rg.good_call2 Try.func11 (by kernel_rfl) rfl rfl rfl (by rintro u u2 wx hC rfl rfl; exact bool_of (same64_any a10 a13 c10 c13 _ _ r r wx rfl rfl (HR10.out.below hC) (HR13.out.below hC) true (by simp)) hC)) ?_
    refine Rg.goods_cons (Rg.good_pick true hre rfl rfl rfl rfl) ?_
    refine Rg.goods_cons (Rg.good_move hre rfl rfl rfl) ?_
    refine Rg.goods_cons (Rg.good_move hre rfl rfl rfl) ?_
    refine Rg.goods_cons (Rg.good_move hre rfl rfl rfl) ?_
    refine Rg.goods_cons (Rg.good_bin hre rfl rfl rfl rfl (fun _ => rfl) (fun w => by go_simp)) ?_
    refine Rg.goods_cons (Rg.good_pick true hre rfl rfl rfl rfl) ?_
    refine Rg.goods_cons (Rg.good_move hre rfl rfl rfl) ?_
    refine Rg.goods_cons (Rg.good_move hre rfl rfl rfl) ?_
    refine Rg.goods_cons (Rg.good_move hre rfl rfl rfl) ?_
    refine Rg.goods_cons (Rg.good_bin hre rfl rfl rfl rfl (fun _ => rfl) (fun w => by go_simp)) ?_
    refine Rg.goods_cons (Rg.good_pick true hre rfl rfl rfl rfl) ?_
    refine Rg.goods_cons (Rg.good_move hre rfl rfl rfl) ?_
    refine Rg.goods_cons (Rg.good_move hre rfl rfl rfl) ?_
    refine Rg.goods_cons (Rg.good_move hre rfl rfl rfl) ?_
    refine Rg.goods_cons (Rg.good_call3 Try.func17 (by kernel_rfl) rfl rfl rfl (by rintro u u2 u3 wx hC rfl rfl rfl; exact bool_of (intact_yes af p1 cf c1 _ l1 wx rfl (HFF.out.below hC) (HB.out.below (HX.out.trans hC)) (by omega)) hC)) ?_
    refine Rg.goods_cons (Rg.good_pick true hre rfl rfl rfl rfl) ?_
    refine Rg.goods_cons (Rg.good_move hre rfl rfl rfl) ?_
    refine Rg.goods_cons (Rg.good_call0 Try.func12 (by kernel_rfl) rfl rfl rfl (by exact fun wx hC => known_row wx hC)) ?_
    refine Rg.goods_cons (Rg.good_pick true hre rfl rfl rfl rfl) ?_
    refine Rg.goods_cons (Rg.good_assign hre rfl rfl rfl) ?_
    exact Rg.goods_nil
  case fin =>
    intro wx hx
    simp only [Rg.later, Act.put, List.setIfInBounds_toArray, List.set_cons_succ, List.set_cons_zero]
    intro va hva vb hvb
    clear hva hvb
    go_wp2
    go_ret
    exact ⟨rfl, HX.out.trans hx⟩
end Go.Proofs.Ythpnjcakfigicaa.deltaTells
