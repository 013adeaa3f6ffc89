/-
  The contracts of the statements' own 'known' and 'few', and of Same over numbers with a sign.
-/
import Derived.Test.YthpnjcakfigicaaFace
namespace Go.Proofs.Ythpnjcakfigicaa
open Go.RowKit
set_option linter.unusedVariables false

set_option maxRecDepth 100000 in
theorem same64_any (a b : Option Addr) (ca cb na nb : Nat) (l m : List Int) (w : World) (hna : na = l.length) (hnb : nb = m.length) (hA : Rd z64 w a ca l) (hB : Rd z64 w b cb m) (r : Bool) (hr : decide (l = m) = r) :
    Calls Try.prog 11 #[.slice a na ca, .slice b nb cb] w fun e w' => e = .returned (.bool r) ∧ Ex w w' := by
  subst hna
  subst hnb
  have g1 := hA.1
  have g2 := hA.2.1
  have g3 := hB.1
  have g4 := hB.2.1
  unfold maxLen at g2 g4
  have HA : Hid (Rd z64 w a ca l) := hA
  have HB : Hid (Rd z64 w b cb m) := hB
  have HR : Hid (decide (l = m) = r) := hr
  clear hA hB hr
  by_cases hlm : l.length = m.length
  · have hne : ((l.length : Int) != (m.length : Int)) = false := by simp; omega
    have hl1 : l.length ≤ m.length := by omega
    have hl2 : m.length ≤ l.length := by omega
    clear hlm
    go_enter Try.func11, Try.ntmps11
    go_wp2
    go_loopw [5] (fun i wr => ∃ k : Nat, k ≤ l.length ∧ i = .int .i64 k ∧ Hid (∀ i, i < k → l[i]? = m[i]?) ∧ ∃ q, wr = w.drewN q) (fun i _ => l.length - (intOf i).toNat)
    case atStart =>
      have h0 : ∀ i, i < 0 → l[i]? = m[i]? := fun i hi => by omega
      exact ⟨0, by omega, rfl, h0, 0, rfl⟩
    case round =>
      obtain ⟨k, hk, rfl, HP, q, rfl⟩ := hrel
      by_cases hlt : k < l.length
      · have hlt' : k < m.length := by omega
        obtain ⟨b1, o1, rfl, hc1⟩ := HA.out.at hlt
        obtain ⟨b2, o2, rfl, hc2⟩ := HB.out.at hlt'
        obtain ⟨x, hx⟩ : ∃ x, x = l[k] := ⟨_, rfl⟩
        obtain ⟨y, hy⟩ : ∃ y, y = m[k] := ⟨_, rfl⟩
        rw [← hx] at hc1
        rw [← hy] at hc2
        have hc1' : w.cell? ⟨b1, o1 + k, none⟩ = some (.int .i64 x) := hc1
        have hc2' : w.cell? ⟨b2, o2 + k, none⟩ = some (.int .i64 y) := hc2
        have hi1 : (k : Int) < (l.length : Int) := by omega
        have hi2 : (k : Int) < (m.length : Int) := by omega
        by_cases he : x = y
        · have hxy : (x != y) = false := by simp; omega
          have hn : ∀ i, i < k + 1 → l[i]? = m[i]? := fun i hi => by
            by_cases hik : i = k
            · subst hik
              rw [List.getElem?_eq_getElem hlt, List.getElem?_eq_getElem hlt', ← hx, ← hy, he]
            · exact HP.out i (by omega)
          have HN : Hid (∀ i, i < k + 1 → l[i]? = m[i]?) := hn
          have hle1 : x ≤ y := by omega
          have hle2 : y ≤ x := by omega
          clear hn hc1 hc2 hx hy he
          go_wp2
          go_quiet (fail)
          go_wp2
          go_roundw
          case rel => exact ⟨k + 1, by omega, by go_num, HN, q + nq, rfl⟩
          case measure => simp [intOf]; omega
        · have hxy : (x != y) = true := by simp; omega
          have hnot : l ≠ m := by
            intro hlm
            subst hlm
            exact he (by rw [hx, hy])
          have hrf : r = false := by rw [← HR.out]; simp [hnot]
          subst hrf
          clear hc1 hc2 hx hy hnot HP
          go_wp2
          go_quiet (fail)
          go_wp2
          go_ret
          exact ⟨rfl, (Ex.drewN w q).trans (Ex.drewN _ _)⟩
      · obtain rfl : k = l.length := by omega
        have heq : l = m := by
          apply List.ext_getElem?
          intro i
          by_cases hi : i < l.length
          · exact HP.out i hi
          · rw [List.getElem?_eq_none (by omega), List.getElem?_eq_none (by omega)]
        have hrt : r = true := by rw [← HR.out]; simp [heq]
        subst hrt
        clear heq HP
        go_wp2
        go_ret
        exact ⟨rfl, Ex.drewN w q⟩
  · have hne : ((l.length : Int) != (m.length : Int)) = true := by simp; omega
    have hnot : l ≠ m := fun h => hlm (by rw [h])
    have hrf : r = false := by rw [← HR.out]; simp [hnot]
    subst hrf
    clear hnot hlm
    go_enter Try.func11, Try.ntmps11
    go_wp2
    go_ret
    exact ⟨rfl, Ex.refl _⟩

set_option maxRecDepth 100000 in
/-- So many numbers. -/
theorem few_any (a : Option Addr) (cap : Nat) (l : List Int) (w : World) (hB : Rd z64 w a cap l) :
    Calls Try.prog 13 #[.slice a l.length cap] w fun e w' => e = .returned (.slice a (l.take 60).length cap) ∧ w' = w := by
  have g1 := hB.1
  have g2 := hB.2.1
  unfold maxLen at g2
  clear hB
  by_cases h : 60 < l.length
  · have t1 : decide ((60 : Int) < (l.length : Int)) = true := by simp; omega
    have hl : (l.take 60).length = 60 := by simp; omega
    have hc : (60 : Int) ≤ (cap : Int) := by omega
    rw [hl]
    clear hl
    go_enter Try.func13, Try.ntmps13
    go_wp2
    go_ret
    exact ⟨rfl, rfl⟩
  · have t1 : decide ((60 : Int) < (l.length : Int)) = false := by simp; omega
    have hl : (l.take 60).length = l.length := by simp; omega
    rw [hl]
    clear hl
    go_enter Try.func13, Try.ntmps13
    go_wp2
    go_ret
    exact ⟨rfl, rfl⟩

theorem few_is (a : Option Addr) (cap : Nat) (l L : List Int) (w : World) (hB : Rd z64 w a cap l) (hL : l.take 60 = L) :
    Calls Try.prog 13 #[.slice a l.length cap] w fun e w' => e = .returned (.slice a L.length cap) ∧ w' = w := by subst hL; exact few_any a cap l w hB
theorem enc_known : D.enc [10, 20, 30] = [3, 20, 20, 0] := by decide +kernel
theorem enc_none : D.enc [] = [0] := by decide +kernel

set_option maxRecDepth 100000 in
theorem known_any (w : World) : Calls Try.prog 12 #[] w fun e w' => e = .returned (.bool true) ∧ Ex w w' := by
  go_enter Try.func12, Try.ntmps12
  go_wp2_with fail
  refine (enc_is _ 3 3 [10, 20, 30] _ rfl (Rd.laid w 2 [10, 20, 30] (by simp)) (by simp [D.ok]) (by simp) _ enc_known).mono ?_
  rintro e w1 ⟨v1, rfl, hv1, hx1⟩
  have hx1' : Ex w w1 := Ex.trans ((Below.refl _ _).alloc (Nat.le_refl _) _) hx1
  have hcv := conv_row hv1
  have hst := str_toList [3, 20, 20, 0]
  clear hx1
  go_wp2_with fail
  refine (enc_is none 0 0 [] _ rfl (Rd.nil _) (by simp) (by simp) _ enc_none).mono ?_
  rintro e w2 ⟨v2, rfl, hv2, hx2⟩
  have hcv2 := conv_row hv2
  have hst2 := str_toList [0]
  go_wp2
  go_ret
  exact ⟨rfl, hx1'.trans hx2⟩
theorem bool_of {f : FuncId} {args : Array Value} {w0 w : World} {v : Value} (h : Calls Try.prog f args w fun e w' => e = .returned v ∧ Ex w w') (hC : Ex w0 w) :
    Calls Try.prog f args w (fun e w' => ∃ v', e = .returned v' ∧ Rg.Spec.ok (.inl v) v' w' ∧ Ex w w' ∧ Ex w0 w') :=
  h.mono fun e w' ⟨he, hw⟩ => ⟨v, he, rfl, hw, hC.trans hw⟩
theorem known_row {w0 : World} (w : World) (hC : Ex w0 w) :
    Calls Try.prog 12 #[] w (fun e w' => ∃ v', e = .returned v' ∧ Rg.Spec.ok (.inl (.bool true)) v' w' ∧ Ex w w' ∧ Ex w0 w') := bool_of (known_any w) hC
end Go.Proofs.Ythpnjcakfigicaa
