/-
  The law's own 'known'.
-/
import Derived.Test.YtghnbohplonhoaaRface
namespace Go.Proofs.Ytghnbohplonhoaa
open Go.RowKit
set_option linter.unusedVariables false
set_option linter.unusedSimpArgs false
theorem right_zero : Rw.right ⟨0, 0, []⟩ = true := by rfl
theorem grow_two : Rw.grow [] [⟨1, 0, [⟨[120], 1, 1, []⟩]⟩, ⟨2, 0, [⟨[120], 2, 0, [121]⟩]⟩] = ([], 22, 1) := by rfl
theorem name_abc : Rw.name [97, 98, 99] = true := by decide +kernel
theorem name_nil : Rw.name [] = false := by decide +kernel
theorem cell_laid (w : World) (c : Ce) : RdC (w.alloc (cb c)) (some ⟨w.heap.size, 0, none⟩) 1 [c] := RdW.laid (t := 25) cc_len w [c] (by simp)
set_option maxHeartbeats 4000000 in
set_option maxRecDepth 100000 in
theorem known_any (w : World) : Calls Try.prog 23 #[] w fun e w' => e = .returned (.bool true) ∧ Ex w w' := by
  go_enter Try.func23, Try.ntmps23
  go_wp2_with fail
  refine (num_is [120] 1 _).mono ?_
  rintro e w1 ⟨rfl, hx1⟩
  have HR1 : Hid (RdC (w1.alloc (cb ⟨[120], 1, 1, []⟩)) (some ⟨w1.heap.size, 0, none⟩) 1 [⟨[120], 1, 1, []⟩]) := cell_laid w1 _
  have HX1 : Hid (Ex w (w1.alloc (cb ⟨[120], 1, 1, []⟩))) := hx1.trans ((Below.refl _ _).alloc (Nat.le_refl _) _)
  clear hx1
  simp only [cv]
  go_wp2_with fail
  refine (at_is 1 0 _ 1 1 [⟨[120], 1, 1, []⟩] _ rfl HR1.out (by simp)).mono ?_
  rintro e w2 ⟨⟨p2, n2, c2⟩, rfl, hn2, ho2, hx2⟩
  simp only at hn2
  subst hn2
  have HO2 : Hid (OwnC w2 w.heap.size (.slice p2 1 c2) [⟨[120], 1, 1, []⟩]) := (OwnW.mono ho2 HX1.out.size : OwnC w2 w.heap.size (.slice p2 1 c2) [⟨[120], 1, 1, []⟩])
  have HX2 : Hid (Ex w w2) := HX1.out.trans hx2
  clear ho2 hx2
  simp only [rvv, sv]
  go_wp2_with fail
  refine (strc_is [120] [121] _).mono ?_
  rintro e w3 ⟨rfl, hx3⟩
  have HR3 : Hid (RdC (w3.alloc (cb ⟨[120], 2, 0, [121]⟩)) (some ⟨w3.heap.size, 0, none⟩) 1 [⟨[120], 2, 0, [121]⟩]) := cell_laid w3 _
  have hx3' : Ex w2 (w3.alloc (cb ⟨[120], 2, 0, [121]⟩)) := hx3.trans ((Below.refl _ _).alloc (Nat.le_refl _) _)
  have HX3 : Hid (Ex w (w3.alloc (cb ⟨[120], 2, 0, [121]⟩))) := HX2.out.trans hx3'
  have HO3 : Hid (OwnC (w3.alloc (cb ⟨[120], 2, 0, [121]⟩)) w.heap.size (.slice p2 1 c2) [⟨[120], 1, 1, []⟩]) := HO2.out.later hx3'
  clear hx3 hx3'
  simp only [cv]
  go_wp2_with fail
  refine (at_is 2 0 _ 1 1 [⟨[120], 2, 0, [121]⟩] _ rfl HR3.out (by simp)).mono ?_
  rintro e w4 ⟨⟨p4, n4, c4⟩, rfl, hn4, ho4, hx4⟩
  simp only at hn4
  subst hn4
  have HO4 : Hid (OwnC w4 w.heap.size (.slice p4 1 c4) [⟨[120], 2, 0, [121]⟩]) := (OwnW.mono ho4 HX3.out.size : OwnC w4 w.heap.size (.slice p4 1 c4) [⟨[120], 2, 0, [121]⟩])
  have HO24 : Hid (OwnC w4 w.heap.size (.slice p2 1 c2) [⟨[120], 1, 1, []⟩]) := HO3.out.later hx4
  have HX4 : Hid (Ex w w4) := HX3.out.trans hx4
  clear ho4 hx4
  obtain ⟨W, hW⟩ : ∃ W, W = w4.alloc (.cells (flat rc [⟨1, 0, p2, 1, c2⟩, ⟨2, 0, p4, 1, c4⟩]).toArray 28) := ⟨_, rfl⟩
  have hxW : Ex w4 W := by rw [hW]; exact (Below.refl _ _).alloc (Nat.le_refl _) _
  have HXW : Hid (Ex w W) := HX4.out.trans hxW
  have HRW : Hid (RdR W (some ⟨w4.heap.size, 0, none⟩) 2 [⟨1, 0, [⟨[120], 1, 1, []⟩]⟩, ⟨2, 0, [⟨[120], 2, 0, [121]⟩]⟩]) := (by
    have h1 := HO24.out.later hxW
    have h2 := HO4.out.later hxW
    obtain ⟨a8, c8, he, hr8⟩ := h1.rd cc_len
    simp only [Value.slice.injEq] at he
    obtain ⟨rfl, _, rfl⟩ := he
    obtain ⟨a9, c9, he, hr9⟩ := h2.rd cc_len
    simp only [Value.slice.injEq] at he
    obtain ⟨rfl, _, rfl⟩ := he
    exact ⟨[⟨1, 0, p2, 1, c2⟩, ⟨2, 0, p4, 1, c4⟩], by rw [hW]; exact RdW.laid rc_len w4 _ (by simp), EachR.append (EachR.one (r := ⟨1, 0, [⟨[120], 1, 1, []⟩]⟩) ⟨rfl, rfl, rfl, hr8⟩) (EachR.one ⟨rfl, rfl, rfl, hr9⟩)⟩ : RdR W (some ⟨w4.heap.size, 0, none⟩) 2 [⟨1, 0, [⟨[120], 1, 1, []⟩]⟩, ⟨2, 0, [⟨[120], 2, 0, [121]⟩]⟩])
  have HW : Hid (W = w4.alloc (.cells #[.int .i64 1, .int .i64 0, .slice p2 1 c2, .int .i64 2, .int .i64 0, .slice p4 1 c4] 28)) := (by rw [hW]; rfl : W = w4.alloc (.cells #[.int .i64 1, .int .i64 0, .slice p2 1 c2, .int .i64 2, .int .i64 0, .slice p4 1 c4] 28))
  clear hW hxW
  simp only [rvv, sv]
  go_wp2_with fail
  rw [← HW.out]
  refine (f_grow none 0 0 [] _ 2 2 [⟨1, 0, [⟨[120], 1, 1, []⟩]⟩, ⟨2, 0, [⟨[120], 2, 0, [121]⟩]⟩] _ rfl rfl (RdW.nil _) HRW.out (by simp) ?_ (by simp) (by simp) [] 22 1 grow_two).mono ?_
  · intro r hr
    simp only [List.mem_cons, List.not_mem_nil, or_false] at hr
    rcases hr with rfl | rfl <;> exact ⟨by simp [In64], by simp [In64], by simp [In64, maxLen]⟩
  rintro e w5 ⟨p5, c5, rfl, _, hx5⟩
  have HX5 : Hid (Ex w w5) := HXW.out.trans hx5
  have HV5 : Hid (RvOk w5 ⟨0, 0, none, 0, 0⟩ ⟨0, 0, []⟩) := ⟨rfl, rfl, rfl, RdW.nil _⟩
  clear hx5
  go_wp2_with fail
  refine (f_right ⟨0, 0, none, 0, 0⟩ ⟨0, 0, []⟩ _ HV5.out ⟨by simp [In64], by simp [In64], by simp⟩ true right_zero).mono ?_
  rintro e w6 ⟨rfl, hx6⟩
  have HX6 : Hid (Ex w w6) := HX5.out.trans hx6
  clear hx6
  go_wp2_with fail
  refine (f_name [97, 98, 99] _ (by simp [maxLen]) true name_abc).mono ?_
  rintro e w7 ⟨rfl, hx7⟩
  have HX7 : Hid (Ex w w7) := HX6.out.trans hx7
  clear hx7
  go_wp2_with fail
  refine (f_name [] _ (by simp [maxLen]) false name_nil).mono ?_
  rintro e w8 ⟨rfl, hx8⟩
  go_wp2_with fail
  go_ret
  exact ⟨rfl, HX7.out.trans hx8⟩
end Go.Proofs.Ytghnbohplonhoaa
