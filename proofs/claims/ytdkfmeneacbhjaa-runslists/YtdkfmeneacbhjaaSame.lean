/-
  The contracts of the statements' own 'few' and of Same over numbers.
-/
import Derived.Test.YtdkfmeneacbhjaaRunpack
namespace Go.Proofs.Ytdkfmeneacbhjaa
open Go.RowKit
set_option linter.unusedVariables false

theorem Ex.drewN' (w : World) (q : Nat) : Ex w (w.drewN q) := Ex.drewN w q
set_option maxRecDepth 100000 in
theorem same64_any (a b : Option Addr) (ca cb na nb : Nat) (l m : List Nat) (w : World) (hna : na = l.length) (hnb : nb = m.length) (hA : Rd n64 w a ca l) (hB : Rd n64 w b cb m) (r : Bool) (hr : decide (l = m) = r) :
    Calls Try.prog 13 #[.slice a na ca, .slice b nb cb] w fun e w' => e = .returned (.bool r) ∧ Ex w w' := by
  subst hna
  subst hnb
  have g1 := hA.1
  have g2 := hA.2.1
  have g3 := hB.1
  have g4 := hB.2.1
  unfold maxLen at g2 g4
  have HA : Hid (Rd n64 w a ca l) := hA
  have HB : Hid (Rd n64 w b cb m) := hB
  have HR : Hid (decide (l = m) = r) := hr
  clear hA hB hr
  by_cases hlm : l.length = m.length
  · have hne : ((l.length : Int) != (m.length : Int)) = false := by simp; omega
    have hl1 : l.length ≤ m.length := by omega
    have hl2 : m.length ≤ l.length := by omega
    clear hlm
    go_enter Try.func13, Try.ntmps13
    go_wp2
    go_loopw [5] (fun i wr => ∃ k : Nat, k ≤ l.length ∧ i = .int .i64 k ∧ Hid (∀ i, i < k → l[i]? = m[i]?) ∧ ∃ q, wr = w.drewN q) (fun i _ => l.length - (intOf i).toNat)
    case atStart =>
      have h0 : ∀ i, i < 0 → l[i]? = m[i]? := fun i hi => by omega
      exact ⟨0, by omega, rfl, h0, 0, rfl⟩
    case round =>
      obtain ⟨k, hk, rfl, HP, q, rfl⟩ := hrel
      by_cases hlt : k < l.length
      · have hlt' : k < m.length := by omega
        obtain ⟨b1, o1, rfl, hc1⟩ := HA.out.at hlt
        obtain ⟨b2, o2, rfl, hc2⟩ := HB.out.at hlt'
        obtain ⟨x, hx⟩ : ∃ x, x = l[k] := ⟨_, rfl⟩
        obtain ⟨y, hy⟩ : ∃ y, y = m[k] := ⟨_, rfl⟩
        rw [← hx] at hc1
        rw [← hy] at hc2
        have hc1' : w.cell? ⟨b1, o1 + k, none⟩ = some (.int .u64 (x : Int)) := hc1
        have hc2' : w.cell? ⟨b2, o2 + k, none⟩ = some (.int .u64 (y : Int)) := hc2
        have hi1 : (k : Int) < (l.length : Int) := by omega
        have hi2 : (k : Int) < (m.length : Int) := by omega
        by_cases he : x = y
        · have hxy : ((x : Int) != (y : Int)) = false := by simp; omega
          have hn : ∀ i, i < k + 1 → l[i]? = m[i]? := fun i hi => by
            by_cases hik : i = k
            · subst hik
              rw [List.getElem?_eq_getElem hlt, List.getElem?_eq_getElem hlt', ← hx, ← hy, he]
            · exact HP.out i (by omega)
          have HN : Hid (∀ i, i < k + 1 → l[i]? = m[i]?) := hn
          have hle1 : x ≤ y := by omega
          have hle2 : y ≤ x := by omega
          clear hn hc1 hc2 hx hy he
          go_wp2
          go_quiet (fail)
          go_wp2
          go_roundw
          case rel => exact ⟨k + 1, by omega, by go_num, HN, q + nq, rfl⟩
          case measure => simp [intOf]; omega
        · have hxy : ((x : Int) != (y : Int)) = true := by simp; omega
          have hnot : l ≠ m := by
            intro hlm
            subst hlm
            exact he (by rw [hx, hy])
          have hrf : r = false := by rw [← HR.out]; simp [hnot]
          subst hrf
          clear hc1 hc2 hx hy hnot HP
          go_wp2
          go_quiet (fail)
          go_wp2
          go_ret
          exact ⟨rfl, (Ex.drewN w q).trans (Ex.drewN _ _)⟩
      · obtain rfl : k = l.length := by omega
        have heq : l = m := by
          apply List.ext_getElem?
          intro i
          by_cases hi : i < l.length
          · exact HP.out i hi
          · rw [List.getElem?_eq_none (by omega), List.getElem?_eq_none (by omega)]
        have hrt : r = true := by rw [← HR.out]; simp [heq]
        subst hrt
        clear heq HP
        go_wp2
        go_ret
        exact ⟨rfl, Ex.drewN w q⟩
  · have hne : ((l.length : Int) != (m.length : Int)) = true := by simp; omega
    have hnot : l ≠ m := fun h => hlm (by rw [h])
    have hrf : r = false := by rw [← HR.out]; simp [hnot]
    subst hrf
    clear hnot hlm
    go_enter Try.func13, Try.ntmps13
    go_wp2
    go_ret
    exact ⟨rfl, Ex.refl _⟩

end Go.Proofs.Ytdkfmeneacbhjaa
