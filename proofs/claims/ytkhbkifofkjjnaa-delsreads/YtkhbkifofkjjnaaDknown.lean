/-
  Same of numbers, known, marked and alike of the statements of layer 11.
-/
import Derived.Test.YtkhbkifofkjjnaaDalike
namespace Go.Proofs.Ytkhbkifofkjjnaa
open Go.RowKit
set_option linter.unusedVariables false
set_option linter.unusedSimpArgs false
theorem Dl.enc3 : Dl.enc [false, true, false] = [3, 3, 2] := by decide +kernel
set_option maxRecDepth 100000 in
set_option maxHeartbeats 4000000 in
theorem known_any (w : World) : Calls Try.prog 16 #[] w fun e w' => e = .returned (.bool true) ∧ Ex w w' := by
  go_enter Try.func16, Try.ntmps16
  go_wp2_with fail
  refine (new_ok 3 _ (by omega)).mono ?_
  rintro e w1 ⟨v, fp, rfl, hm1, hf1, hx1⟩
  obtain ⟨g, rfl⟩ := hm1.some_
  have HM1 : Hid (Mk w1 (.pointer (some ⟨g, 0, none⟩)) fp [false, false, false]) := hm1
  have HF1 : Hid (∀ k, fp k → w.heap.size ≤ k) := hf1
  have HX1 : Hid (Ex w w1) := hx1
  clear hm1 hf1 hx1
  go_wp2_with fail
  refine (set_is _ fp _ 1 _ HM1.out (by omega) (by omega) true (by rfl) [false, true, false] (by rfl)).mono ?_
  rintro e w2 ⟨rfl, fp2, hm2, ht2, hf2⟩
  have HM2 : Hid (Mk w2 (.pointer (some ⟨g, 0, none⟩)) fp2 [false, true, false]) := hm2
  have hs1 := HX1.out.size
  have HF2 : Hid (∀ k, fp2 k → w.heap.size ≤ k) := (fun k hk => by rcases hf2 k hk with h | h; exact HF1.out k h; omega : ∀ k, fp2 k → w.heap.size ≤ k)
  have HX2 : Hid (Ex w w2) := Touch.ex HX1.out ht2 HF1.out
  clear hm2 ht2 hf2 hs1 HM1 HX1
  go_wp2_with fail
  refine (set_is _ fp2 _ 1 _ HM2.out (by omega) (by omega) false (by rfl) [false, true, false] (by rfl)).mono ?_
  rintro e w3 ⟨rfl, fp3, hm3, ht3, hf3⟩
  have HM3 : Hid (Mk w3 (.pointer (some ⟨g, 0, none⟩)) fp3 [false, true, false]) := hm3
  have hs2 := HX2.out.size
  have HF3 : Hid (∀ k, fp3 k → w.heap.size ≤ k) := (fun k hk => by rcases hf3 k hk with h | h; exact HF2.out k h; omega : ∀ k, fp3 k → w.heap.size ≤ k)
  have HX3 : Hid (Ex w w3) := Touch.ex HX2.out ht3 HF2.out
  clear hm3 ht3 hf3 hs2 HM2 HX2
  go_wp2_with fail
  refine (set_is _ fp3 _ 3 _ HM3.out (by omega) (by omega) false (by rfl) [false, true, false] (by rfl)).mono ?_
  rintro e w4 ⟨rfl, fp4, hm4, ht4, hf4⟩
  have HM4 : Hid (Mk w4 (.pointer (some ⟨g, 0, none⟩)) fp4 [false, true, false]) := hm4
  have HX4 : Hid (Ex w w4) := Touch.ex HX3.out ht4 HF3.out
  clear hm4 ht4 hf4 HM3 HX3
  go_wp2_with fail
  refine (left_is _ fp4 _ _ HM4.out [0, 2] (by rfl)).mono ?_
  rintro e w5 ⟨u5, rfl, ⟨a5, c5, hv5, hb5⟩, hx5⟩
  subst hv5
  have HM5 : Hid (Mk w5 (.pointer (some ⟨g, 0, none⟩)) fp4 [false, true, false]) := HM4.out.below hx5
  obtain ⟨w6, hw6⟩ : ∃ w6, w5.alloc (Obj.cells #[Value.int IntKind.i64 0, Value.int IntKind.i64 2] 3) = w6 := ⟨_, rfl⟩
  have hx6 : Ex w5 w6 := by rw [← hw6]; exact (Below.refl _ _).alloc (Nat.le_refl _) _
  have HL6 : Hid (Rd z64 w6 (some ⟨w5.heap.size, 0, none⟩) 2 [0, 2]) := (by rw [← hw6]; exact Rd.laid (enc := z64) w5 3 [0, 2] (by simp) : Rd z64 w6 (some ⟨w5.heap.size, 0, none⟩) 2 [0, 2])
  have HB6 : Hid (Rd z64 w6 a5 c5 [0, 2]) := hb5.below hx6
  have HX6 : Hid (Ex w w6) := HX4.out.trans (hx5.trans hx6)
  have HM6 : Hid (Mk w6 (.pointer (some ⟨g, 0, none⟩)) fp4 [false, true, false]) := HM5.out.below hx6
  clear hb5 hx5 hx6 HM4 HX4 HM5
  simp only [List.length_cons, List.length_nil]
  go_wp2_with fail
  refine (sameInt_any a5 (some ⟨w5.heap.size, 0, none⟩) c5 2 _ _ [0, 2] [0, 2] _ rfl rfl HB6.out HL6.out true (by simp)).mono ?_
  rintro e w7 ⟨rfl, hx7⟩
  have HM7 : Hid (Mk w7 (.pointer (some ⟨g, 0, none⟩)) fp4 [false, true, false]) := HM6.out.below hx7
  have HX7 : Hid (Ex w w7) := HX6.out.trans hx7
  clear hx7 hw6
  go_wp2_with fail
  refine (count_is _ fp4 _ _ HM7.out 1 (by rfl)).mono ?_
  rintro e w8 ⟨rfl, hx8⟩
  have HM8 : Hid (Mk w8 (.pointer (some ⟨g, 0, none⟩)) fp4 [false, true, false]) := HM7.out.below hx8
  have HX8 : Hid (Ex w w8) := HX7.out.trans hx8
  clear hx8
  go_wp2_with fail
  refine (menc_is _ fp4 _ _ HM8.out [3, 3, 2] Dl.enc3).mono ?_
  rintro e w9 ⟨u9, rfl, ⟨a9, c9, hv9, hb9⟩, hx9⟩
  subst hv9
  have hs9 := run_str (n := 3) hb9 rfl
  have hst : (str [3, 3, 2]) = ({ data := #[3, 3, 2] } : ByteArray) := rfl
  rw [hst] at hs9
  have HX9 : Hid (Ex w w9) := HX8.out.trans hx9
  clear hb9 hx9
  simp only [List.length_cons, List.length_nil]
  go_wp2_with fail
  go_ret
  exact ⟨rfl, HX9.out⟩
end Go.Proofs.Ytkhbkifofkjjnaa
