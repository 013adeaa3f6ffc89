/-
  rising of the statements of layer 10.
-/
import Derived.Test.YtaehchaimlklnaaTknown
namespace Go.Proofs.Ytaehchaimlklnaa
open Go.RowKit
set_option linter.unusedVariables false
set_option linter.unusedSimpArgs false
theorem Tk.rise_push {l : List Int} {y : Int} (h : Tk.Rise l) (hy : ∀ x ∈ l, x ≤ y) : Tk.Rise (l ++ [y]) := fun j hj => by
  rw [List.length_append, List.length_singleton] at hj
  by_cases hj2 : j + 1 < l.length
  · have := h j (by omega)
    rw [Tk.at0_eq (l := l ++ [y]) (by simp; omega), Tk.at0_eq (l := l ++ [y]) (by simp; omega), List.getElem_append_left (by omega), List.getElem_append_left (by omega)]
    rw [Tk.at0_eq (by omega), Tk.at0_eq (by omega)] at this
    exact this
  · rw [Tk.at0_eq (l := l ++ [y]) (by simp; omega), Tk.at0_eq (l := l ++ [y]) (by simp; omega), List.getElem_append_left (by omega), List.getElem_append_right (by omega)]
    have h2 := hy _ (List.getElem_mem (show j < l.length by omega))
    simpa using h2
set_option maxRecDepth 100000 in
set_option maxHeartbeats 4000000 in
theorem rising_is (f : Int) (a : Option Addr) (n cap : Nat) (S : List Int) (w : World) (hn : n = S.length) (hB : Rd z64 w a cap S) (hok : ∀ x ∈ S, D.ok x) (hf : D.ok f) (B : Int) (hb : f.tmod 1099511627776 = B) :
    Calls Try.prog 22 #[.int .i64 f, .slice a n cap] w fun e w' => ∃ p c l, e = .returned (.slice p (List.length l) c) ∧ Rd z64 w' p c l ∧ Tk.Rise l ∧ l.length ≤ 60 ∧ (∀ x ∈ l, B ≤ x ∧ x ≤ B + 540) ∧ Ex w w' := by
  subst hn
  obtain ⟨hf1, hf2⟩ := hf
  have hcl := hB.1
  have hcm := hB.2.1
  unfold maxLen at hcm
  have HB : Hid (Rd z64 w a cap S) := hB
  have hb1 : -1099511627776 < B := by rw [← hb]; exact Int.lt_tmod_of_pos f (by omega)
  have hb2 : B < 1099511627776 := by rw [← hb]; exact Int.tmod_lt_of_pos f (by omega)
  have HOk : Hid (∀ x ∈ S, D.ok x) := hok
  clear hB hok
  go_enter Try.func22, Try.ntmps22
  go_wp2_with fail
  go_loopw [5, 6, 7] (fun t v i wr => ∃ (j : Nat) (T : Int) (l : List Int), j ≤ S.length ∧ j ≤ 60 ∧ t = .int .i64 T ∧ i = .int .i64 j ∧ B ≤ T ∧ T ≤ B + 9 * j ∧ Hid (l.length = j) ∧ Hid (Tk.Rise l) ∧ Hid (∀ x ∈ l, B ≤ x ∧ x ≤ T) ∧ Hid (OwnI wr w.heap.size v l) ∧ Hid (Below w.heap.size w wr)) (fun _ _ i _ => S.length - (intOf i).toNat)
  case atStart =>
    have h1 : ([] : List Int).length = 0 := rfl
    have h2 : Tk.Rise ([] : List Int) := fun j hj => by simp at hj
    have h3 : ∀ x ∈ ([] : List Int), B ≤ x ∧ x ≤ B := by simp
    exact ⟨0, B, [], by omega, by omega, rfl, rfl, by omega, by omega, h1, h2, h3, ownI_nil _ _, Below.refl _ _⟩
  case round =>
    obtain ⟨j, T, l, hj, hj6, rfl, rfl, hT1, hT2, HLl, HRl, HAl, HO, HX⟩ := hrel
    by_cases hlt : j < S.length
    · have tj : decide ((j : Int) < (S.length : Int)) = true := by simp; omega
      have tjn : decide (j < S.length) = true := by simp; omega
      by_cases h60 : j < 60
      · have t6 : decide ((j : Int) < 60) = true := by simp; omega
        have t6n : decide (j < 60) = true := by simp; omega
        obtain ⟨bb, off, rfl, hc1⟩ := (HB.out.below HX.out).at hlt
        obtain ⟨x, hx⟩ : ∃ x, x = S[j] := ⟨_, rfl⟩
        have hxo : D.ok x := by rw [hx]; exact HOk.out _ (List.getElem_mem hlt)
        obtain ⟨hxo1, hxo2⟩ := hxo
        rw [← hx] at hc1
        have hc1' : wr.cell? ⟨bb, off + j, none⟩ = some (.int .i64 x) := hc1
        clear hc1 hx
        go_wp2_with fail
        refine (within_any x 9 _ hxo1 hxo2 (by omega) (by omega)).mono ?_
        rintro e wq ⟨r, hr9, rfl, hw⟩
        have hw' := hw.symm; clear hw; subst hw'
        obtain ⟨T2, hT2'⟩ : ∃ T2, T2 = T + (r : Int) := ⟨_, rfl⟩
        have hTe : T + (r : Int) = T2 := hT2'.symm
        have hT3 : B ≤ T2 := by omega
        have hT4 : T2 ≤ B + 9 * (j + 1 : Nat) := by omega
        have hT5 : T ≤ T2 := by omega
        clear hT2'
        go_wp2_with (at_builtin; refine wpList_append_rd (e := 2) (enc := z64) rfl (.tmp 27) (.tmp 29) 22 rfl 0 8 Try.underlying22 Try.info2 rfl (fun _ => rfl) w.heap.size _ l rfl (HO.out.alloc _) _ _ _ [T2] rfl rfl (Rd.laid _ 2 [T2] (by simp)) (by have := HLl.out; simp [maxLen]; omega) (by have := HLl.out; simp; omega) (by have := HX.out.size; simp; omega) ?_; intro v9 w9 ho9 hg9; have X9 : Below w.heap.size w w9 := step_belowR (Below.alloc HX.out HX.out.size _) (by have := HX.out.size; simp; omega) (HO.out.alloc _) hg9; clear hg9)
        have HO9 : Hid (OwnI w9 w.heap.size v9 (l ++ [T2])) := ho9
        have HX9 : Hid (Below w.heap.size w w9) := X9
        clear ho9 X9
        go_wp2_with fail
        go_roundw
        case rel =>
          have h1 : (l ++ [T2]).length = j + 1 := by have := HLl.out; simp; omega
          have h2 : Tk.Rise (l ++ [T2]) := Tk.rise_push HRl.out (fun x hx => by have := HAl.out x hx; omega)
          have h3 : ∀ x ∈ l ++ [T2], B ≤ x ∧ x ≤ T2 := fun x hx => by
            rw [List.mem_append] at hx
            rcases hx with hx | hx
            · have := HAl.out x hx; omega
            · simp at hx; omega
          exact ⟨j + 1, T2, l ++ [T2], by omega, by omega, rfl, by go_num, by omega, by omega, h1, h2, h3, HO9, HX9⟩
        case measure => simp [intOf]; omega
      · obtain rfl : j = 60 := by omega
        obtain ⟨ao, co, hvo, hRo⟩ := HO.out.rd
        subst hvo
        have HRo : Hid (Rd z64 wr ao co l) := hRo
        clear hRo
        go_wp2_with fail
        go_ret
        exact ⟨ao, co, l, rfl, HRo.out, HRl.out, by have := HLl.out; omega, fun x hx => by have := HAl.out x hx; omega, HX.out⟩
    · have tj : decide ((j : Int) < (S.length : Int)) = false := by simp; omega
      have tjn : decide (j < S.length) = false := by simp; omega
      obtain ⟨ao, co, hvo, hRo⟩ := HO.out.rd
      subst hvo
      have HRo : Hid (Rd z64 wr ao co l) := hRo
      clear hRo
      go_wp2_with fail
      go_ret
      exact ⟨ao, co, l, rfl, HRo.out, HRl.out, by have := HLl.out; omega, fun x hx => by have := HAl.out x hx; omega, HX.out⟩
end Go.Proofs.Ytaehchaimlklnaa
