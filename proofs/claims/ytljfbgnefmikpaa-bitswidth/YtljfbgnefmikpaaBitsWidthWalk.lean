/-
  The walk of the law BitsWidth: whatever numbers it is given, it returns true.
-/
import Derived.Test.YtljfbgnefmikpaaKnown
namespace Go.Proofs.Ytljfbgnefmikpaa.bitsWidth
open Go.RowKit
set_option linter.unusedVariables false

theorem few_is (a : Option Addr) (cap : Nat) (l L : List Nat) (w : World) (hB : Rd n64 w a cap l) (hL : l.take 60 = L) :
    Calls Try.prog 14 #[.slice a l.length cap] w fun e w' => e = .returned (.slice a L.length cap) ∧ w' = w := by subst hL; exact few_any a cap l w hB

set_option maxRecDepth 100000 in
theorem walk (p0 : Option Addr) (c0 : Nat) (l0 : List Nat) (w : World) (b0 : Rd n64 w p0 c0 l0) (m0 : ∀ x ∈ l0, x < 18446744073709551616) (w0 : l0.length ≤ 17592186043904) :
    Calls Try.prog 6 #[.slice p0 l0.length c0] w fun e w' => e = .returned (.bool true) ∧ Below w.heap.size w w' := by
  obtain ⟨L, hL⟩ : ∃ L, l0.take 60 = L := ⟨_, rfl⟩
  have hLl : L.length ≤ 60 := by rw [← hL]; simp; omega
  have hLB : Rd n64 w p0 c0 L := by rw [← hL]; exact b0.take 60
  have hL64 : ∀ x ∈ L, x < 18446744073709551616 := by rw [← hL]; exact fun x hx => m0 x (List.mem_of_mem_take hx)
  have hcap := b0.1
  have hcapm := b0.2.1
  unfold maxLen at hcapm
  obtain ⟨W, hW⟩ : ∃ W, B.width L = W := ⟨_, rfl⟩
  have hW64 : W ≤ 64 := by rw [← hW]; exact B.width64 hL64
  have hp1 : B.pck L (W : Int) = (B.pack W L, 0) := B.pck_ok hW64 (by omega)
  have H0 : Hid (Rd n64 w p0 c0 l0) := b0
  have HLB : Hid (Rd n64 w p0 c0 L) := hLB
  have HL : Hid (l0.take 60 = L) := hL
  have H64 : Hid (∀ x ∈ L, x < 18446744073709551616) := hL64
  have HW : Hid (B.width L = W) := hW
  have HP1 : Hid (B.pck L (W : Int) = (B.pack W L, 0)) := hp1
  clear b0 hLB hL hL64 hW hp1 m0
  have t1 : decide ((W : Int) < 0) = false := by simp
  have t2 : decide (64 < (W : Int)) = false := by simp; omega
  go_enter Try.func6, Try.ntmps6
  go_wp2_with fail
  refine (few_is p0 c0 l0 L _ H0.out HL.out).mono ?_
  rintro e wq ⟨rfl, hw⟩
  have hw' := hw.symm; clear hw; subst hw'
  go_wp2_with fail
  refine (width_is p0 _ c0 L _ rfl HLB.out H64.out (by omega) W HW.out).mono ?_
  rintro e w1 ⟨rfl, hx1⟩
  go_wp2_with fail
  refine (pack_is p0 _ c0 L _ _ rfl (HLB.out.below hx1) H64.out (by omega) (by omega) (by omega) _ _ HP1.out).mono ?_
  rintro e w2 ⟨v2, rfl, hv2, hx2⟩
  have hx3 : Ex w w2 := hx1.trans hx2
  have HX3 : Hid (Ex w w2) := hx3
  clear hx1 hx2 hv2 hx3
  by_cases hz : W = 0
  · subst hz
    have hall := (B.width_zero L).1 HW.out
    have HAll : Hid (∀ x ∈ L, x = 0) := hall
    have HL3 : Hid (Rd n64 w2 p0 c0 L) := HLB.out.below HX3.out
    clear hall
    go_wp2_with fail
    go_loop [6] (fun i => ∃ k : Nat, k ≤ L.length ∧ i = .int .i64 k) (fun i => L.length - (intOf i).toNat)
    case atStart => exact ⟨0, by omega, rfl⟩
    case round =>
      obtain ⟨k, hk, rfl⟩ := hrel
      by_cases hlt : k < L.length
      · obtain ⟨b, off, rfl, hc⟩ := HL3.out.at hlt
        have hx0 := HAll.out L[k] (List.getElem_mem hlt)
        rw [hx0] at hc
        have hc' : w2.cell? ⟨b, off + k, none⟩ = some (.int .u64 0) := hc
        have hki : (k : Int) < (L.length : Int) := by omega
        clear hc hx0
        go_wp2
        go_round
        case rel => exact ⟨k + 1, by omega, by go_num⟩
        case measure => simp [intOf]; omega
      · go_wp2_with fail
        refine (known_any _).mono ?_
        rintro e w5 ⟨rfl, hx5⟩
        go_wp2
        go_ret
        exact ⟨rfl, HX3.out.trans hx5⟩
  · have hz1 : ((W : Int) == 0) = false := by simp; omega
    have hp2 : B.pck L ((W : Int) - 1) = ([], 15) := by
      unfold B.pck
      rw [if_pos]
      have := HW.out
      omega
    have HP2 : Hid (B.pck L ((W : Int) - 1) = ([], 15)) := hp2
    clear hp2
    go_wp2_with fail
    refine (pack_is p0 _ c0 L _ _ rfl (HLB.out.below HX3.out) H64.out (by omega) (by omega) (by omega) _ _ HP2.out).mono ?_
    rintro e w4 ⟨v4, rfl, hv4, hx4⟩
    go_wp2_with fail
    refine (known_any _).mono ?_
    rintro e w5 ⟨rfl, hx5⟩
    go_wp2
    go_ret
    exact ⟨rfl, (HX3.out.trans hx4).trans hx5⟩
end Go.Proofs.Ytljfbgnefmikpaa.bitsWidth
