/-
  The walk of the law VarintTexts: whatever text, numbers and bytes it is given, it returns true.
-/
import Derived.Test.YtphlfajkcbhpoaaWithin
import Derived.Test.YtphlfajkcbhpoaaCuts
namespace Go.Proofs.Ytphlfajkcbhpoaa.varintTexts
open Go.RowKit
set_option linter.unusedVariables false

set_option maxRecDepth 100000 in
set_option maxHeartbeats 2000000 in
theorem walk_short (s0 : List UInt8) (a1 : Int) (a2 : Int) (p3 : Option Addr) (c3 : Nat) (l3 : List UInt8) (w : World) (b3 : Byt w p3 c3 l3) (w3 : l3.length ≤ 140737488351232) (l1 : -9223372036854775808 ≤ a1) (u1 : a1 ≤ 9223372036854775807) (l2 : -9223372036854775808 ≤ a2) (u2 : a2 ≤ 9223372036854775807) (w0 : s0.length ≤ 300) (w5 : s0.length ≤ 140737488351232) :
    Calls Try.prog 7 #[.string (str s0), .int .i64 a1, .int .i64 a2, .slice p3 l3.length c3] w fun e w' => e = .returned (.bool true) ∧ Below w.heap.size w w' := by
  have hB3 : Hid (Byt w p3 c3 l3) := b3
  clear b3
  have hss : (str s0).size = s0.length := str_size s0
  have hlb : decide ((300 : Int) < (s0.length : Int)) = false := by simp; omega
  have w6 := w0
  have d2 := M.digs_len s0.length
  obtain ⟨D, hD⟩ : ∃ D, D = (M.digs s0.length).length := ⟨_, rfl⟩
  obtain ⟨r, hr⟩ : ∃ r, r = M.digs s0.length ++ s0 := ⟨_, rfl⟩
  have hrl : r.length = (M.digs s0.length).length + s0.length := by rw [hr]; simp
  have HR : Hid ([] ++ M.digs s0.length ++ s0 = r) := by rw [hr]; rfl
  have HRR : Hid (M.digs s0.length ++ s0 = r) := hr.symm
  have hr1 : r.length ≤ (M.digs s0.length).length + s0.length := by omega
  have hr2 : (M.digs s0.length).length + s0.length ≤ r.length := by omega
  clear hr hD hrl
  go_enter Try.func7, Try.ntmps7
  go_wp2_with fail
  refine (within_any a1 320 _ l1 u1 (by omega) (by omega)).mono ?_
  rintro e wq ⟨m, hm, rfl, hw⟩
  have hw' := hw.symm
  clear hw
  subst hw'
  go_wp2_with fail
  refine (putText_any none 0 [] s0 r _ (Byt.nil _) HR.out (by simp; omega)).mono ?_
  rintro e w4 ⟨v4, rfl, ho4, hx4⟩
  obtain ⟨a4, cap4, rfl, hB4⟩ := ho4.byt
  have HB4 : Hid (Byt w4 a4 cap4 r) := hB4
  have hlc4 := hB4.1
  have hcm4 := hB4.2.1
  unfold maxLen at hcm4
  clear ho4 hB4
  go_wp2_with fail
  refine (within_any a2 r.length _ l2 u2 (by omega) (by omega)).mono ?_
  rintro e wq ⟨k, hk, rfl, hw⟩
  have hw' := hw.symm
  clear hw
  subst hw'
  have hkc : (k : Int) ≤ (cap4 : Int) := by omega
  by_cases hfit : (s0.length : Int) ≤ (m : Int)
  · have hfb : decide ((s0.length : Int) ≤ (m : Int)) = true := by simpa using hfit
    by_cases hkh : (k : Int) < (r.length : Int) - (s0.length : Int)
    · have HG1 : Hid (M.getText (r.take k) 0 (m : Int) = ([], 0, 10)) := by rw [← HRR.out]; exact M.getText_head (by omega)
      have HG2 : Hid (M.getText (r ++ l3) 0 (m : Int) = (s0, r.length, 0)) := by rw [← HRR.out]; exact M.getText_fits (by omega) (by omega)
      go_wp2_with fail
      refine (getText_any a4 _ cap4 (r.take k) _ _ _ (HB4.out.take (by omega)) (by simp; omega) (by omega) (by omega) [] 0 10 HG1.out).mono ?_
      rintro e wq ⟨rfl, hw⟩
      have hw' := hw.symm
      clear hw
      subst hw'
      have hoe := own_empty w4 w.heap.size hx4.size
      have hB3' : Byt w4 p3 c3 l3 := hB3.out.below hx4
      go_wp2_with (first
        | (at_builtin; refine wpList_append_byt rfl (.tmp 47) (.tmp 48) rfl w.heap.size _ [] rfl hoe a4 _ cap4 r rfl rfl (HB4.out.below ((Below.refl _ _).alloc (Nat.le_refl _) _)) (by simp; omega) (by have := hx4.size; simp; omega) ?_; intro v7 w7 ho7 hg7; have hb7 := step_below0 (hx4.alloc hx4.size _) (by have := hx4.size; simp; omega) hoe hg7)
        | (at_builtin; refine wpList_append_byt rfl (.tmp 49) (.tmp 50) rfl w.heap.size _ r rfl ho7 p3 _ c3 l3 rfl rfl (hB3.out.below hb7) (by omega) hb7.size ?_; intro v8 w8 ho8 hg8; have hb8 := step_below0 hb7 hb7.size ho7 hg8)
        | fail)
      obtain ⟨a8, cap8, rfl, hB8⟩ := ho8.byt
      clear ho8 hg8 hg7 ho7 hoe hB3'
      refine (getText_any a8 _ cap8 (r ++ l3) _ _ _ hB8 rfl (by omega) (by omega) s0 r.length 0 HG2.out).mono ?_
      rintro e wq ⟨rfl, hw⟩
      have hw' := hw.symm
      clear hw
      subst hw'
      go_wp2_with fail
      refine (known_any _).mono ?_
      rintro e w9 ⟨rfl, hb9⟩
      go_wp2
      go_ret
      exact ⟨I.ret_bool (by first | rfl | (simp; omega)), Ex.trans hb8 hb9⟩
    · by_cases hkl : (k : Int) < (r.length : Int)
      · have HG1 : Hid (M.getText (r.take k) 0 (m : Int) = ([], 0, 10)) := by rw [← HRR.out]; exact M.getText_lack (by omega) (by omega) (by rw [HRR.out]; omega) (by omega)
        have HG2 : Hid (M.getText (r ++ l3) 0 (m : Int) = (s0, r.length, 0)) := by rw [← HRR.out]; exact M.getText_fits (by omega) (by omega)
        go_wp2_with fail
        refine (getText_any a4 _ cap4 (r.take k) _ _ _ (HB4.out.take (by omega)) (by simp; omega) (by omega) (by omega) [] 0 10 HG1.out).mono ?_
        rintro e wq ⟨rfl, hw⟩
        have hw' := hw.symm
        clear hw
        subst hw'
        have hoe := own_empty w4 w.heap.size hx4.size
        have hB3' : Byt w4 p3 c3 l3 := hB3.out.below hx4
        go_wp2_with (first
          | (at_builtin; refine wpList_append_byt rfl (.tmp 47) (.tmp 48) rfl w.heap.size _ [] rfl hoe a4 _ cap4 r rfl rfl (HB4.out.below ((Below.refl _ _).alloc (Nat.le_refl _) _)) (by simp; omega) (by have := hx4.size; simp; omega) ?_; intro v7 w7 ho7 hg7; have hb7 := step_below0 (hx4.alloc hx4.size _) (by have := hx4.size; simp; omega) hoe hg7)
          | (at_builtin; refine wpList_append_byt rfl (.tmp 49) (.tmp 50) rfl w.heap.size _ r rfl ho7 p3 _ c3 l3 rfl rfl (hB3.out.below hb7) (by omega) hb7.size ?_; intro v8 w8 ho8 hg8; have hb8 := step_below0 hb7 hb7.size ho7 hg8)
          | fail)
        obtain ⟨a8, cap8, rfl, hB8⟩ := ho8.byt
        clear ho8 hg8 hg7 ho7 hoe hB3'
        refine (getText_any a8 _ cap8 (r ++ l3) _ _ _ hB8 rfl (by omega) (by omega) s0 r.length 0 HG2.out).mono ?_
        rintro e wq ⟨rfl, hw⟩
        have hw' := hw.symm
        clear hw
        subst hw'
        go_wp2_with fail
        refine (known_any _).mono ?_
        rintro e w9 ⟨rfl, hb9⟩
        go_wp2
        go_ret
        exact ⟨I.ret_bool (by first | rfl | (simp; omega)), Ex.trans hb8 hb9⟩
      · have HG1 : Hid (M.getText (r.take k) 0 (m : Int) = (s0, r.length, 0)) := by rw [List.take_of_length_le (by omega)]; have := M.getText_fits (s := s0) (r := []) (most := (m : Int)) (by omega) (by omega); rw [List.append_nil, HRR.out] at this; exact this
        have HG2 : Hid (M.getText (r ++ l3) 0 (m : Int) = (s0, r.length, 0)) := by rw [← HRR.out]; exact M.getText_fits (by omega) (by omega)
        go_wp2_with fail
        refine (getText_any a4 _ cap4 (r.take k) _ _ _ (HB4.out.take (by omega)) (by simp; omega) (by omega) (by omega) s0 r.length 0 HG1.out).mono ?_
        rintro e wq ⟨rfl, hw⟩
        have hw' := hw.symm
        clear hw
        subst hw'
        have hoe := own_empty w4 w.heap.size hx4.size
        have hB3' : Byt w4 p3 c3 l3 := hB3.out.below hx4
        go_wp2_with (first
          | (at_builtin; refine wpList_append_byt rfl (.tmp 47) (.tmp 48) rfl w.heap.size _ [] rfl hoe a4 _ cap4 r rfl rfl (HB4.out.below ((Below.refl _ _).alloc (Nat.le_refl _) _)) (by simp; omega) (by have := hx4.size; simp; omega) ?_; intro v7 w7 ho7 hg7; have hb7 := step_below0 (hx4.alloc hx4.size _) (by have := hx4.size; simp; omega) hoe hg7)
          | (at_builtin; refine wpList_append_byt rfl (.tmp 49) (.tmp 50) rfl w.heap.size _ r rfl ho7 p3 _ c3 l3 rfl rfl (hB3.out.below hb7) (by omega) hb7.size ?_; intro v8 w8 ho8 hg8; have hb8 := step_below0 hb7 hb7.size ho7 hg8)
          | fail)
        obtain ⟨a8, cap8, rfl, hB8⟩ := ho8.byt
        clear ho8 hg8 hg7 ho7 hoe hB3'
        refine (getText_any a8 _ cap8 (r ++ l3) _ _ _ hB8 rfl (by omega) (by omega) s0 r.length 0 HG2.out).mono ?_
        rintro e wq ⟨rfl, hw⟩
        have hw' := hw.symm
        clear hw
        subst hw'
        go_wp2_with fail
        refine (known_any _).mono ?_
        rintro e w9 ⟨rfl, hb9⟩
        go_wp2
        go_ret
        exact ⟨I.ret_bool (by first | rfl | (simp; omega)), Ex.trans hb8 hb9⟩
  · have hfb : decide ((s0.length : Int) ≤ (m : Int)) = false := by simpa using hfit
    by_cases hkh : (k : Int) < (r.length : Int) - (s0.length : Int)
    · have HG1 : Hid (M.getText (r.take k) 0 (m : Int) = ([], 0, 10)) := by rw [← HRR.out]; exact M.getText_head (by omega)
      have HG2 : Hid (M.getText (r ++ l3) 0 (m : Int) = ([], 0, 3)) := by rw [← HRR.out]; exact M.getText_wide (by omega) (by omega) (by omega)
      go_wp2_with fail
      refine (getText_any a4 _ cap4 (r.take k) _ _ _ (HB4.out.take (by omega)) (by simp; omega) (by omega) (by omega) [] 0 10 HG1.out).mono ?_
      rintro e wq ⟨rfl, hw⟩
      have hw' := hw.symm
      clear hw
      subst hw'
      have hoe := own_empty w4 w.heap.size hx4.size
      have hB3' : Byt w4 p3 c3 l3 := hB3.out.below hx4
      go_wp2_with (first
        | (at_builtin; refine wpList_append_byt rfl (.tmp 47) (.tmp 48) rfl w.heap.size _ [] rfl hoe a4 _ cap4 r rfl rfl (HB4.out.below ((Below.refl _ _).alloc (Nat.le_refl _) _)) (by simp; omega) (by have := hx4.size; simp; omega) ?_; intro v7 w7 ho7 hg7; have hb7 := step_below0 (hx4.alloc hx4.size _) (by have := hx4.size; simp; omega) hoe hg7)
        | (at_builtin; refine wpList_append_byt rfl (.tmp 49) (.tmp 50) rfl w.heap.size _ r rfl ho7 p3 _ c3 l3 rfl rfl (hB3.out.below hb7) (by omega) hb7.size ?_; intro v8 w8 ho8 hg8; have hb8 := step_below0 hb7 hb7.size ho7 hg8)
        | fail)
      obtain ⟨a8, cap8, rfl, hB8⟩ := ho8.byt
      clear ho8 hg8 hg7 ho7 hoe hB3'
      refine (getText_any a8 _ cap8 (r ++ l3) _ _ _ hB8 rfl (by omega) (by omega) [] 0 3 HG2.out).mono ?_
      rintro e wq ⟨rfl, hw⟩
      have hw' := hw.symm
      clear hw
      subst hw'
      go_wp2_with fail
      refine (known_any _).mono ?_
      rintro e w9 ⟨rfl, hb9⟩
      go_wp2
      go_ret
      exact ⟨I.ret_bool (by first | rfl | (simp; omega)), Ex.trans hb8 hb9⟩
    · by_cases hkl : (k : Int) < (r.length : Int)
      · have HG1 : Hid (M.getText (r.take k) 0 (m : Int) = ([], 0, 3)) := by rw [← HRR.out]; exact M.getText_wide2 (by omega) (by omega) (by omega) (by omega)
        have HG2 : Hid (M.getText (r ++ l3) 0 (m : Int) = ([], 0, 3)) := by rw [← HRR.out]; exact M.getText_wide (by omega) (by omega) (by omega)
        go_wp2_with fail
        refine (getText_any a4 _ cap4 (r.take k) _ _ _ (HB4.out.take (by omega)) (by simp; omega) (by omega) (by omega) [] 0 3 HG1.out).mono ?_
        rintro e wq ⟨rfl, hw⟩
        have hw' := hw.symm
        clear hw
        subst hw'
        have hoe := own_empty w4 w.heap.size hx4.size
        have hB3' : Byt w4 p3 c3 l3 := hB3.out.below hx4
        go_wp2_with (first
          | (at_builtin; refine wpList_append_byt rfl (.tmp 47) (.tmp 48) rfl w.heap.size _ [] rfl hoe a4 _ cap4 r rfl rfl (HB4.out.below ((Below.refl _ _).alloc (Nat.le_refl _) _)) (by simp; omega) (by have := hx4.size; simp; omega) ?_; intro v7 w7 ho7 hg7; have hb7 := step_below0 (hx4.alloc hx4.size _) (by have := hx4.size; simp; omega) hoe hg7)
          | (at_builtin; refine wpList_append_byt rfl (.tmp 49) (.tmp 50) rfl w.heap.size _ r rfl ho7 p3 _ c3 l3 rfl rfl (hB3.out.below hb7) (by omega) hb7.size ?_; intro v8 w8 ho8 hg8; have hb8 := step_below0 hb7 hb7.size ho7 hg8)
          | fail)
        obtain ⟨a8, cap8, rfl, hB8⟩ := ho8.byt
        clear ho8 hg8 hg7 ho7 hoe hB3'
        refine (getText_any a8 _ cap8 (r ++ l3) _ _ _ hB8 rfl (by omega) (by omega) [] 0 3 HG2.out).mono ?_
        rintro e wq ⟨rfl, hw⟩
        have hw' := hw.symm
        clear hw
        subst hw'
        go_wp2_with fail
        refine (known_any _).mono ?_
        rintro e w9 ⟨rfl, hb9⟩
        go_wp2
        go_ret
        exact ⟨I.ret_bool (by first | rfl | (simp; omega)), Ex.trans hb8 hb9⟩
      · have HG1 : Hid (M.getText (r.take k) 0 (m : Int) = ([], 0, 3)) := by rw [← HRR.out]; exact M.getText_wide2 (by omega) (by omega) (by omega) (by omega)
        have HG2 : Hid (M.getText (r ++ l3) 0 (m : Int) = ([], 0, 3)) := by rw [← HRR.out]; exact M.getText_wide (by omega) (by omega) (by omega)
        go_wp2_with fail
        refine (getText_any a4 _ cap4 (r.take k) _ _ _ (HB4.out.take (by omega)) (by simp; omega) (by omega) (by omega) [] 0 3 HG1.out).mono ?_
        rintro e wq ⟨rfl, hw⟩
        have hw' := hw.symm
        clear hw
        subst hw'
        have hoe := own_empty w4 w.heap.size hx4.size
        have hB3' : Byt w4 p3 c3 l3 := hB3.out.below hx4
        go_wp2_with (first
          | (at_builtin; refine wpList_append_byt rfl (.tmp 47) (.tmp 48) rfl w.heap.size _ [] rfl hoe a4 _ cap4 r rfl rfl (HB4.out.below ((Below.refl _ _).alloc (Nat.le_refl _) _)) (by simp; omega) (by have := hx4.size; simp; omega) ?_; intro v7 w7 ho7 hg7; have hb7 := step_below0 (hx4.alloc hx4.size _) (by have := hx4.size; simp; omega) hoe hg7)
          | (at_builtin; refine wpList_append_byt rfl (.tmp 49) (.tmp 50) rfl w.heap.size _ r rfl ho7 p3 _ c3 l3 rfl rfl (hB3.out.below hb7) (by omega) hb7.size ?_; intro v8 w8 ho8 hg8; have hb8 := step_below0 hb7 hb7.size ho7 hg8)
          | fail)
        obtain ⟨a8, cap8, rfl, hB8⟩ := ho8.byt
        clear ho8 hg8 hg7 ho7 hoe hB3'
        refine (getText_any a8 _ cap8 (r ++ l3) _ _ _ hB8 rfl (by omega) (by omega) [] 0 3 HG2.out).mono ?_
        rintro e wq ⟨rfl, hw⟩
        have hw' := hw.symm
        clear hw
        subst hw'
        go_wp2_with fail
        refine (known_any _).mono ?_
        rintro e w9 ⟨rfl, hb9⟩
        go_wp2
        go_ret
        exact ⟨I.ret_bool (by first | rfl | (simp; omega)), Ex.trans hb8 hb9⟩

set_option maxRecDepth 100000 in
set_option maxHeartbeats 2000000 in
theorem walk_long (s0 : List UInt8) (a1 : Int) (a2 : Int) (p3 : Option Addr) (c3 : Nat) (l3 : List UInt8) (w : World) (b3 : Byt w p3 c3 l3) (w3 : l3.length ≤ 140737488351232) (l1 : -9223372036854775808 ≤ a1) (u1 : a1 ≤ 9223372036854775807) (l2 : -9223372036854775808 ≤ a2) (u2 : a2 ≤ 9223372036854775807) (w0 : 300 < s0.length) (w5 : s0.length ≤ 140737488351232) :
    Calls Try.prog 7 #[.string (str s0), .int .i64 a1, .int .i64 a2, .slice p3 l3.length c3] w fun e w' => e = .returned (.bool true) ∧ Below w.heap.size w w' := by
  have hB3 : Hid (Byt w p3 c3 l3) := b3
  clear b3
  have hss : (str s0).size = s0.length := str_size s0
  obtain ⟨t, ht⟩ : ∃ t, t = s0.take 300 := ⟨_, rfl⟩
  have htl : t.length = 300 := by rw [ht]; simp; omega
  have hcut : (str s0).extract 0 300 = str t := by rw [str_cut, ht]
  have hlb : decide ((300 : Int) < (s0.length : Int)) = true := by simp; omega
  have h300 : (300 : Int) ≤ (s0.length : Int) := by omega
  have hsz : (str t).size = t.length := str_size t
  have w6 : t.length ≤ 300 := by omega
  clear ht htl
  have d2 := M.digs_len t.length
  obtain ⟨D, hD⟩ : ∃ D, D = (M.digs t.length).length := ⟨_, rfl⟩
  obtain ⟨r, hr⟩ : ∃ r, r = M.digs t.length ++ t := ⟨_, rfl⟩
  have hrl : r.length = (M.digs t.length).length + t.length := by rw [hr]; simp
  have HR : Hid ([] ++ M.digs t.length ++ t = r) := by rw [hr]; rfl
  have HRR : Hid (M.digs t.length ++ t = r) := hr.symm
  have hr1 : r.length ≤ (M.digs t.length).length + t.length := by omega
  have hr2 : (M.digs t.length).length + t.length ≤ r.length := by omega
  clear hr hD hrl
  go_enter Try.func7, Try.ntmps7
  go_wp2_with fail
  refine (within_any a1 320 _ l1 u1 (by omega) (by omega)).mono ?_
  rintro e wq ⟨m, hm, rfl, hw⟩
  have hw' := hw.symm
  clear hw
  subst hw'
  go_wp2_with fail
  refine (putText_any none 0 [] t r _ (Byt.nil _) HR.out (by simp; omega)).mono ?_
  rintro e w4 ⟨v4, rfl, ho4, hx4⟩
  obtain ⟨a4, cap4, rfl, hB4⟩ := ho4.byt
  have HB4 : Hid (Byt w4 a4 cap4 r) := hB4
  have hlc4 := hB4.1
  have hcm4 := hB4.2.1
  unfold maxLen at hcm4
  clear ho4 hB4
  go_wp2_with fail
  refine (within_any a2 r.length _ l2 u2 (by omega) (by omega)).mono ?_
  rintro e wq ⟨k, hk, rfl, hw⟩
  have hw' := hw.symm
  clear hw
  subst hw'
  have hkc : (k : Int) ≤ (cap4 : Int) := by omega
  by_cases hfit : (t.length : Int) ≤ (m : Int)
  · have hfb : decide ((t.length : Int) ≤ (m : Int)) = true := by simpa using hfit
    by_cases hkh : (k : Int) < (r.length : Int) - (t.length : Int)
    · have HG1 : Hid (M.getText (r.take k) 0 (m : Int) = ([], 0, 10)) := by rw [← HRR.out]; exact M.getText_head (by omega)
      have HG2 : Hid (M.getText (r ++ l3) 0 (m : Int) = (t, r.length, 0)) := by rw [← HRR.out]; exact M.getText_fits (by omega) (by omega)
      go_wp2_with fail
      refine (getText_any a4 _ cap4 (r.take k) _ _ _ (HB4.out.take (by omega)) (by simp; omega) (by omega) (by omega) [] 0 10 HG1.out).mono ?_
      rintro e wq ⟨rfl, hw⟩
      have hw' := hw.symm
      clear hw
      subst hw'
      have hoe := own_empty w4 w.heap.size hx4.size
      have hB3' : Byt w4 p3 c3 l3 := hB3.out.below hx4
      go_wp2_with (first
        | (at_builtin; refine wpList_append_byt rfl (.tmp 47) (.tmp 48) rfl w.heap.size _ [] rfl hoe a4 _ cap4 r rfl rfl (HB4.out.below ((Below.refl _ _).alloc (Nat.le_refl _) _)) (by simp; omega) (by have := hx4.size; simp; omega) ?_; intro v7 w7 ho7 hg7; have hb7 := step_below0 (hx4.alloc hx4.size _) (by have := hx4.size; simp; omega) hoe hg7)
        | (at_builtin; refine wpList_append_byt rfl (.tmp 49) (.tmp 50) rfl w.heap.size _ r rfl ho7 p3 _ c3 l3 rfl rfl (hB3.out.below hb7) (by omega) hb7.size ?_; intro v8 w8 ho8 hg8; have hb8 := step_below0 hb7 hb7.size ho7 hg8)
        | fail)
      obtain ⟨a8, cap8, rfl, hB8⟩ := ho8.byt
      clear ho8 hg8 hg7 ho7 hoe hB3'
      refine (getText_any a8 _ cap8 (r ++ l3) _ _ _ hB8 rfl (by omega) (by omega) t r.length 0 HG2.out).mono ?_
      rintro e wq ⟨rfl, hw⟩
      have hw' := hw.symm
      clear hw
      subst hw'
      go_wp2_with fail
      refine (known_any _).mono ?_
      rintro e w9 ⟨rfl, hb9⟩
      go_wp2
      go_ret
      exact ⟨I.ret_bool (by first | rfl | (simp; omega)), Ex.trans hb8 hb9⟩
    · by_cases hkl : (k : Int) < (r.length : Int)
      · have HG1 : Hid (M.getText (r.take k) 0 (m : Int) = ([], 0, 10)) := by rw [← HRR.out]; exact M.getText_lack (by omega) (by omega) (by rw [HRR.out]; omega) (by omega)
        have HG2 : Hid (M.getText (r ++ l3) 0 (m : Int) = (t, r.length, 0)) := by rw [← HRR.out]; exact M.getText_fits (by omega) (by omega)
        go_wp2_with fail
        refine (getText_any a4 _ cap4 (r.take k) _ _ _ (HB4.out.take (by omega)) (by simp; omega) (by omega) (by omega) [] 0 10 HG1.out).mono ?_
        rintro e wq ⟨rfl, hw⟩
        have hw' := hw.symm
        clear hw
        subst hw'
        have hoe := own_empty w4 w.heap.size hx4.size
        have hB3' : Byt w4 p3 c3 l3 := hB3.out.below hx4
        go_wp2_with (first
          | (at_builtin; refine wpList_append_byt rfl (.tmp 47) (.tmp 48) rfl w.heap.size _ [] rfl hoe a4 _ cap4 r rfl rfl (HB4.out.below ((Below.refl _ _).alloc (Nat.le_refl _) _)) (by simp; omega) (by have := hx4.size; simp; omega) ?_; intro v7 w7 ho7 hg7; have hb7 := step_below0 (hx4.alloc hx4.size _) (by have := hx4.size; simp; omega) hoe hg7)
          | (at_builtin; refine wpList_append_byt rfl (.tmp 49) (.tmp 50) rfl w.heap.size _ r rfl ho7 p3 _ c3 l3 rfl rfl (hB3.out.below hb7) (by omega) hb7.size ?_; intro v8 w8 ho8 hg8; have hb8 := step_below0 hb7 hb7.size ho7 hg8)
          | fail)
        obtain ⟨a8, cap8, rfl, hB8⟩ := ho8.byt
        clear ho8 hg8 hg7 ho7 hoe hB3'
        refine (getText_any a8 _ cap8 (r ++ l3) _ _ _ hB8 rfl (by omega) (by omega) t r.length 0 HG2.out).mono ?_
        rintro e wq ⟨rfl, hw⟩
        have hw' := hw.symm
        clear hw
        subst hw'
        go_wp2_with fail
        refine (known_any _).mono ?_
        rintro e w9 ⟨rfl, hb9⟩
        go_wp2
        go_ret
        exact ⟨I.ret_bool (by first | rfl | (simp; omega)), Ex.trans hb8 hb9⟩
      · have HG1 : Hid (M.getText (r.take k) 0 (m : Int) = (t, r.length, 0)) := by rw [List.take_of_length_le (by omega)]; have := M.getText_fits (s := t) (r := []) (most := (m : Int)) (by omega) (by omega); rw [List.append_nil, HRR.out] at this; exact this
        have HG2 : Hid (M.getText (r ++ l3) 0 (m : Int) = (t, r.length, 0)) := by rw [← HRR.out]; exact M.getText_fits (by omega) (by omega)
        go_wp2_with fail
        refine (getText_any a4 _ cap4 (r.take k) _ _ _ (HB4.out.take (by omega)) (by simp; omega) (by omega) (by omega) t r.length 0 HG1.out).mono ?_
        rintro e wq ⟨rfl, hw⟩
        have hw' := hw.symm
        clear hw
        subst hw'
        have hoe := own_empty w4 w.heap.size hx4.size
        have hB3' : Byt w4 p3 c3 l3 := hB3.out.below hx4
        go_wp2_with (first
          | (at_builtin; refine wpList_append_byt rfl (.tmp 47) (.tmp 48) rfl w.heap.size _ [] rfl hoe a4 _ cap4 r rfl rfl (HB4.out.below ((Below.refl _ _).alloc (Nat.le_refl _) _)) (by simp; omega) (by have := hx4.size; simp; omega) ?_; intro v7 w7 ho7 hg7; have hb7 := step_below0 (hx4.alloc hx4.size _) (by have := hx4.size; simp; omega) hoe hg7)
          | (at_builtin; refine wpList_append_byt rfl (.tmp 49) (.tmp 50) rfl w.heap.size _ r rfl ho7 p3 _ c3 l3 rfl rfl (hB3.out.below hb7) (by omega) hb7.size ?_; intro v8 w8 ho8 hg8; have hb8 := step_below0 hb7 hb7.size ho7 hg8)
          | fail)
        obtain ⟨a8, cap8, rfl, hB8⟩ := ho8.byt
        clear ho8 hg8 hg7 ho7 hoe hB3'
        refine (getText_any a8 _ cap8 (r ++ l3) _ _ _ hB8 rfl (by omega) (by omega) t r.length 0 HG2.out).mono ?_
        rintro e wq ⟨rfl, hw⟩
        have hw' := hw.symm
        clear hw
        subst hw'
        go_wp2_with fail
        refine (known_any _).mono ?_
        rintro e w9 ⟨rfl, hb9⟩
        go_wp2
        go_ret
        exact ⟨I.ret_bool (by first | rfl | (simp; omega)), Ex.trans hb8 hb9⟩
  · have hfb : decide ((t.length : Int) ≤ (m : Int)) = false := by simpa using hfit
    by_cases hkh : (k : Int) < (r.length : Int) - (t.length : Int)
    · have HG1 : Hid (M.getText (r.take k) 0 (m : Int) = ([], 0, 10)) := by rw [← HRR.out]; exact M.getText_head (by omega)
      have HG2 : Hid (M.getText (r ++ l3) 0 (m : Int) = ([], 0, 3)) := by rw [← HRR.out]; exact M.getText_wide (by omega) (by omega) (by omega)
      go_wp2_with fail
      refine (getText_any a4 _ cap4 (r.take k) _ _ _ (HB4.out.take (by omega)) (by simp; omega) (by omega) (by omega) [] 0 10 HG1.out).mono ?_
      rintro e wq ⟨rfl, hw⟩
      have hw' := hw.symm
      clear hw
      subst hw'
      have hoe := own_empty w4 w.heap.size hx4.size
      have hB3' : Byt w4 p3 c3 l3 := hB3.out.below hx4
      go_wp2_with (first
        | (at_builtin; refine wpList_append_byt rfl (.tmp 47) (.tmp 48) rfl w.heap.size _ [] rfl hoe a4 _ cap4 r rfl rfl (HB4.out.below ((Below.refl _ _).alloc (Nat.le_refl _) _)) (by simp; omega) (by have := hx4.size; simp; omega) ?_; intro v7 w7 ho7 hg7; have hb7 := step_below0 (hx4.alloc hx4.size _) (by have := hx4.size; simp; omega) hoe hg7)
        | (at_builtin; refine wpList_append_byt rfl (.tmp 49) (.tmp 50) rfl w.heap.size _ r rfl ho7 p3 _ c3 l3 rfl rfl (hB3.out.below hb7) (by omega) hb7.size ?_; intro v8 w8 ho8 hg8; have hb8 := step_below0 hb7 hb7.size ho7 hg8)
        | fail)
      obtain ⟨a8, cap8, rfl, hB8⟩ := ho8.byt
      clear ho8 hg8 hg7 ho7 hoe hB3'
      refine (getText_any a8 _ cap8 (r ++ l3) _ _ _ hB8 rfl (by omega) (by omega) [] 0 3 HG2.out).mono ?_
      rintro e wq ⟨rfl, hw⟩
      have hw' := hw.symm
      clear hw
      subst hw'
      go_wp2_with fail
      refine (known_any _).mono ?_
      rintro e w9 ⟨rfl, hb9⟩
      go_wp2
      go_ret
      exact ⟨I.ret_bool (by first | rfl | (simp; omega)), Ex.trans hb8 hb9⟩
    · by_cases hkl : (k : Int) < (r.length : Int)
      · have HG1 : Hid (M.getText (r.take k) 0 (m : Int) = ([], 0, 3)) := by rw [← HRR.out]; exact M.getText_wide2 (by omega) (by omega) (by omega) (by omega)
        have HG2 : Hid (M.getText (r ++ l3) 0 (m : Int) = ([], 0, 3)) := by rw [← HRR.out]; exact M.getText_wide (by omega) (by omega) (by omega)
        go_wp2_with fail
        refine (getText_any a4 _ cap4 (r.take k) _ _ _ (HB4.out.take (by omega)) (by simp; omega) (by omega) (by omega) [] 0 3 HG1.out).mono ?_
        rintro e wq ⟨rfl, hw⟩
        have hw' := hw.symm
        clear hw
        subst hw'
        have hoe := own_empty w4 w.heap.size hx4.size
        have hB3' : Byt w4 p3 c3 l3 := hB3.out.below hx4
        go_wp2_with (first
          | (at_builtin; refine wpList_append_byt rfl (.tmp 47) (.tmp 48) rfl w.heap.size _ [] rfl hoe a4 _ cap4 r rfl rfl (HB4.out.below ((Below.refl _ _).alloc (Nat.le_refl _) _)) (by simp; omega) (by have := hx4.size; simp; omega) ?_; intro v7 w7 ho7 hg7; have hb7 := step_below0 (hx4.alloc hx4.size _) (by have := hx4.size; simp; omega) hoe hg7)
          | (at_builtin; refine wpList_append_byt rfl (.tmp 49) (.tmp 50) rfl w.heap.size _ r rfl ho7 p3 _ c3 l3 rfl rfl (hB3.out.below hb7) (by omega) hb7.size ?_; intro v8 w8 ho8 hg8; have hb8 := step_below0 hb7 hb7.size ho7 hg8)
          | fail)
        obtain ⟨a8, cap8, rfl, hB8⟩ := ho8.byt
        clear ho8 hg8 hg7 ho7 hoe hB3'
        refine (getText_any a8 _ cap8 (r ++ l3) _ _ _ hB8 rfl (by omega) (by omega) [] 0 3 HG2.out).mono ?_
        rintro e wq ⟨rfl, hw⟩
        have hw' := hw.symm
        clear hw
        subst hw'
        go_wp2_with fail
        refine (known_any _).mono ?_
        rintro e w9 ⟨rfl, hb9⟩
        go_wp2
        go_ret
        exact ⟨I.ret_bool (by first | rfl | (simp; omega)), Ex.trans hb8 hb9⟩
      · have HG1 : Hid (M.getText (r.take k) 0 (m : Int) = ([], 0, 3)) := by rw [← HRR.out]; exact M.getText_wide2 (by omega) (by omega) (by omega) (by omega)
        have HG2 : Hid (M.getText (r ++ l3) 0 (m : Int) = ([], 0, 3)) := by rw [← HRR.out]; exact M.getText_wide (by omega) (by omega) (by omega)
        go_wp2_with fail
        refine (getText_any a4 _ cap4 (r.take k) _ _ _ (HB4.out.take (by omega)) (by simp; omega) (by omega) (by omega) [] 0 3 HG1.out).mono ?_
        rintro e wq ⟨rfl, hw⟩
        have hw' := hw.symm
        clear hw
        subst hw'
        have hoe := own_empty w4 w.heap.size hx4.size
        have hB3' : Byt w4 p3 c3 l3 := hB3.out.below hx4
        go_wp2_with (first
          | (at_builtin; refine wpList_append_byt rfl (.tmp 47) (.tmp 48) rfl w.heap.size _ [] rfl hoe a4 _ cap4 r rfl rfl (HB4.out.below ((Below.refl _ _).alloc (Nat.le_refl _) _)) (by simp; omega) (by have := hx4.size; simp; omega) ?_; intro v7 w7 ho7 hg7; have hb7 := step_below0 (hx4.alloc hx4.size _) (by have := hx4.size; simp; omega) hoe hg7)
          | (at_builtin; refine wpList_append_byt rfl (.tmp 49) (.tmp 50) rfl w.heap.size _ r rfl ho7 p3 _ c3 l3 rfl rfl (hB3.out.below hb7) (by omega) hb7.size ?_; intro v8 w8 ho8 hg8; have hb8 := step_below0 hb7 hb7.size ho7 hg8)
          | fail)
        obtain ⟨a8, cap8, rfl, hB8⟩ := ho8.byt
        clear ho8 hg8 hg7 ho7 hoe hB3'
        refine (getText_any a8 _ cap8 (r ++ l3) _ _ _ hB8 rfl (by omega) (by omega) [] 0 3 HG2.out).mono ?_
        rintro e wq ⟨rfl, hw⟩
        have hw' := hw.symm
        clear hw
        subst hw'
        go_wp2_with fail
        refine (known_any _).mono ?_
        rintro e w9 ⟨rfl, hb9⟩
        go_wp2
        go_ret
        exact ⟨I.ret_bool (by first | rfl | (simp; omega)), Ex.trans hb8 hb9⟩

theorem walk (s0 : List UInt8) (a1 : Int) (a2 : Int) (p3 : Option Addr) (c3 : Nat) (l3 : List UInt8) (w : World) (w0 : s0.length ≤ 140737488351232) (w1 : -9223372036854775808 ≤ a1 ∧ a1 ≤ 9223372036854775807) (w2 : -9223372036854775808 ≤ a2 ∧ a2 ≤ 9223372036854775807) (b3 : Byt w p3 c3 l3) (w3 : l3.length ≤ 140737488351232) :
    Calls Try.prog 7 #[.string (str s0), .int .i64 a1, .int .i64 a2, .slice p3 l3.length c3] w fun e w' => e = .returned (.bool true) ∧ Below w.heap.size w w' := by
  by_cases h : 300 < s0.length
  · exact walk_long s0 a1 a2 p3 c3 l3 w b3 w3 w1.1 w1.2 w2.1 w2.2 h w0
  · exact walk_short s0 a1 a2 p3 c3 l3 w b3 w3 w1.1 w1.2 w2.1 w2.2 (by omega) w0
end Go.Proofs.Ytphlfajkcbhpoaa.varintTexts
