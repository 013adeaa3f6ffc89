/-
  in, same and known of the statements of layer 10.
-/
import Derived.Test.YtaehchaimlklnaaTface
namespace Go.Proofs.Ytaehchaimlklnaa
open Go.RowKit
set_option linter.unusedVariables false
set_option linter.unusedSimpArgs false
set_option maxRecDepth 100000 in
theorem same64_any (a b : Option Addr) (ca cb na nb : Nat) (l m : List Int) (w : World) (hna : na = l.length) (hnb : nb = m.length) (hA : Rd z64 w a ca l) (hB : Rd z64 w b cb m) (r : Bool) (hr : decide (l = m) = r) :
    Calls Try.prog 26 #[.slice a na ca, .slice b nb cb] w fun e w' => e = .returned (.bool r) ∧ Ex w w' := by
  subst hna
  subst hnb
  have g1 := hA.1
  have g2 := hA.2.1
  have g3 := hB.1
  have g4 := hB.2.1
  unfold maxLen at g2 g4
  have HA : Hid (Rd z64 w a ca l) := hA
  have HB : Hid (Rd z64 w b cb m) := hB
  have HR : Hid (decide (l = m) = r) := hr
  clear hA hB hr
  by_cases hlm : l.length = m.length
  · have hne : ((l.length : Int) != (m.length : Int)) = false := by simp; omega
    have hl1 : l.length ≤ m.length := by omega
    have hl2 : m.length ≤ l.length := by omega
    clear hlm
    go_enter Try.func26, Try.ntmps26
    go_wp2
    go_loopw [5] (fun i wr => ∃ k : Nat, k ≤ l.length ∧ i = .int .i64 k ∧ Hid (∀ i, i < k → l[i]? = m[i]?) ∧ ∃ q, wr = w.drewN q) (fun i _ => l.length - (intOf i).toNat)
    case atStart =>
      have h0 : ∀ i, i < 0 → l[i]? = m[i]? := fun i hi => by omega
      exact ⟨0, by omega, rfl, h0, 0, rfl⟩
    case round =>
      obtain ⟨k, hk, rfl, HP, q, rfl⟩ := hrel
      by_cases hlt : k < l.length
      · have hlt' : k < m.length := by omega
        obtain ⟨b1, o1, rfl, hc1⟩ := HA.out.at hlt
        obtain ⟨b2, o2, rfl, hc2⟩ := HB.out.at hlt'
        obtain ⟨x, hx⟩ : ∃ x, x = l[k] := ⟨_, rfl⟩
        obtain ⟨y, hy⟩ : ∃ y, y = m[k] := ⟨_, rfl⟩
        rw [← hx] at hc1
        rw [← hy] at hc2
        have hc1' : w.cell? ⟨b1, o1 + k, none⟩ = some (.int .i64 x) := hc1
        have hc2' : w.cell? ⟨b2, o2 + k, none⟩ = some (.int .i64 y) := hc2
        have hi1 : (k : Int) < (l.length : Int) := by omega
        have hi2 : (k : Int) < (m.length : Int) := by omega
        by_cases he : x = y
        · have hxy : (x != y) = false := by simp; omega
          have hn : ∀ i, i < k + 1 → l[i]? = m[i]? := fun i hi => by
            by_cases hik : i = k
            · subst hik
              rw [List.getElem?_eq_getElem hlt, List.getElem?_eq_getElem hlt', ← hx, ← hy, he]
            · exact HP.out i (by omega)
          have HN : Hid (∀ i, i < k + 1 → l[i]? = m[i]?) := hn
          have hle1 : x ≤ y := by omega
          have hle2 : y ≤ x := by omega
          clear hn hc1 hc2 hx hy he
          go_wp2
          go_quiet (fail)
          go_wp2
          go_roundw
          case rel => exact ⟨k + 1, by omega, by go_num, HN, q + nq, rfl⟩
          case measure => simp [intOf]; omega
        · have hxy : (x != y) = true := by simp; omega
          have hnot : l ≠ m := by
            intro hlm
            subst hlm
            exact he (by rw [hx, hy])
          have hrf : r = false := by rw [← HR.out]; simp [hnot]
          subst hrf
          clear hc1 hc2 hx hy hnot HP
          go_wp2
          go_quiet (fail)
          go_wp2
          go_ret
          exact ⟨rfl, (Ex.drewN w q).trans (Ex.drewN _ _)⟩
      · obtain rfl : k = l.length := by omega
        have heq : l = m := by
          apply List.ext_getElem?
          intro i
          by_cases hi : i < l.length
          · exact HP.out i hi
          · rw [List.getElem?_eq_none (by omega), List.getElem?_eq_none (by omega)]
        have hrt : r = true := by rw [← HR.out]; simp [heq]
        subst hrt
        clear heq HP
        go_wp2
        go_ret
        exact ⟨rfl, Ex.drewN w q⟩
  · have hne : ((l.length : Int) != (m.length : Int)) = true := by simp; omega
    have hnot : l ≠ m := fun h => hlm (by rw [h])
    have hrf : r = false := by rw [← HR.out]; simp [hnot]
    subst hrf
    clear hnot hlm
    go_enter Try.func26, Try.ntmps26
    go_wp2
    go_ret
    exact ⟨rfl, Ex.refl _⟩


set_option maxRecDepth 100000 in
set_option maxHeartbeats 2000000 in
theorem in_is (r m : Int) (a : Option Addr) (n cap : Nat) (w : World) : Calls Try.prog 16 #[xv r m (.slice a n cap)] w fun e w' => e = .returned (xv r m (.slice a n cap)) ∧ Ex w w' := by
  unfold xv
  go_enter Try.func16, Try.ntmps16
  go_wp2_with fail
  exact bodyPost_ret (v := xv r m (.slice a n cap)) (by simp [results, Try.results16, go_sem, xv]) rfl ⟨rfl, ((Below.refl _ _).alloc (Nat.le_refl _) _).alloc (by simp) _⟩
set_option maxRecDepth 100000 in
set_option maxHeartbeats 2000000 in
theorem alike_is (r m : Int) (a : Option Addr) (n cap : Nat) (A : List Int) (b : Option Addr) (n2 c2 : Nat) (w : World) (hn : n = A.length) (hn2 : n2 = A.length) (hA : Rd z64 w a cap A) (hB : Rd z64 w b c2 A) :
    Calls Try.prog 11 #[xv r m (.slice a n cap), xv r m (.slice b n2 c2)] w fun e w' => e = .returned (.bool true) ∧ Ex w w' := by
  subst hn
  subst hn2
  have HA : Hid (Rd z64 w a cap A) := hA
  have HB : Hid (Rd z64 w b c2 A) := hB
  have h1 := hA.1
  have h2 := hA.2.1
  have h3 := hB.2.1
  have h4 := hB.1
  unfold maxLen at h2 h3
  have hx1 : Ex w (w.alloc (xb r m (.slice a A.length cap) 24)) := (Below.refl _ _).alloc (Nat.le_refl _) _
  have HX : Hid (Ex w ((w.alloc (xb r m (.slice a A.length cap) 24)).alloc (xb r m (.slice b A.length c2) 28))) := hx1.trans ((Below.refl _ _).alloc (Nat.le_refl _) _)
  clear hA hB hx1
  unfold xv
  go_enter Try.func11, Try.ntmps11
  go_wp2_with fail
  refine (same64_any a b cap c2 _ _ A A _ rfl rfl (HA.out.below HX.out) (HB.out.below HX.out) true (by simp)).mono ?_
  rintro e w2 ⟨rfl, hx2⟩
  go_wp2_with fail
  go_ret
  exact ⟨rfl, HX.out.trans hx2⟩
theorem Tk.build9 : Tk.build [1, 2, 3, 4, 5, 6, 7, 8, 9] = (⟨9, 9, [1, 5, 9]⟩, 0) := by
  unfold Tk.build
  rw [if_pos ⟨by decide, by decide⟩]
  rfl
theorem Tk.build21 : Tk.build [2, 1] = (Tk.zero, 12) := by
  unfold Tk.build
  rw [if_neg (fun h => absurd h.2 (by decide))]
set_option maxRecDepth 100000 in
set_option maxHeartbeats 4000000 in
theorem known_any (w : World) : Calls Try.prog 21 #[] w fun e w' => e = .returned (.bool true) ∧ Ex w w' := by
  have hL := Rd.laid (enc := z64) w 2 [1, 2, 3, 4, 5, 6, 7, 8, 9] (by simp)
  have HL : Hid (Rd z64 (w.alloc (Obj.cells #[Value.int .i64 1, Value.int .i64 2, Value.int .i64 3, Value.int .i64 4, Value.int .i64 5, Value.int .i64 6, Value.int .i64 7, Value.int .i64 8, Value.int .i64 9] 2)) (some ⟨w.heap.size, 0, none⟩) 9 [1, 2, 3, 4, 5, 6, 7, 8, 9]) := hL
  have HX1 : Hid (Ex w (w.alloc (Obj.cells #[Value.int .i64 1, Value.int .i64 2, Value.int .i64 3, Value.int .i64 4, Value.int .i64 5, Value.int .i64 6, Value.int .i64 7, Value.int .i64 8, Value.int .i64 9] 2))) := (Below.refl _ _).alloc (Nat.le_refl _) _
  clear hL
  go_enter Try.func21, Try.ntmps21
  go_wp2_with fail
  refine (t_build _ 9 9 [1, 2, 3, 4, 5, 6, 7, 8, 9] _ rfl HL.out (by simp [D.ok]) (by simp) ⟨9, 9, [1, 5, 9]⟩ 0 Tk.build9).mono ?_
  rintro e w1 ⟨p1, c1, rfl, hr1, hx1⟩
  have hcl := hr1.1
  have hcm := hr1.2.1
  unfold maxLen at hcm
  obtain ⟨w2, hw2⟩ : ∃ w2, w1.alloc (Obj.cells #[Value.int IntKind.i64 9, Value.int IntKind.i64 9, Value.slice p1 3 c1] 24) = w2 := ⟨_, rfl⟩
  have hx2 : Ex w1 w2 := by rw [← hw2]; exact (Below.refl _ _).alloc (Nat.le_refl _) _
  have HF2 : Hid (XAt w2 w1.heap.size 9 9 (.slice p1 3 c1) 24) := (by rw [← hw2]; exact XAt.new w1 9 9 _ 24 : XAt w2 w1.heap.size 9 9 (.slice p1 3 c1) 24)
  have HR2 : Hid (Rd z64 w2 p1 c1 [1, 5, 9]) := hr1.below hx2
  have HX2 : Hid (Ex w w2) := (HX1.out.trans hx1).trans hx2
  obtain ⟨g0, g1, g2⟩ := HF2.out.all
  clear hr1 hx1 hx2 HL HX1
  simp only [xv, List.length_cons, List.length_nil]
  go_wp2_with fail
  refine (t_span 9 9 _ _ c1 [1, 5, 9] 5 6 _ rfl HR2.out (by simp [D.ok]) (by simp) (by simp [D.ok]) (by simp [D.ok]) (by simp [D.ok]) (by simp [D.ok]) 0 8 (by decide)).mono ?_
  rintro e w3 ⟨rfl, hx3⟩
  have HX3 : Hid (Ex w w3) := HX2.out.trans hx3
  have hL := Rd.laid (enc := z64) w3 2 [2, 1] (by simp)
  have HL : Hid (Rd z64 (w3.alloc (Obj.cells #[Value.int .i64 2, Value.int .i64 1] 2)) (some ⟨w3.heap.size, 0, none⟩) 2 [2, 1]) := hL
  have HX4 : Hid (Ex w3 (w3.alloc (Obj.cells #[Value.int .i64 2, Value.int .i64 1] 2))) := (Below.refl _ _).alloc (Nat.le_refl _) _
  clear hx3 hL
  go_wp2_with fail
  refine (t_build _ 2 2 [2, 1] _ rfl HL.out (by simp [D.ok]) (by simp) Tk.zero 12 Tk.build21).mono ?_
  rintro e w5 ⟨p5, c5, rfl, hr5, hx5⟩
  have hcl5 := hr5.1
  have hcm5 := hr5.2.1
  unfold maxLen at hcm5
  have HX5 : Hid (Ex w w5) := (HX3.out.trans HX4.out).trans hx5
  clear hr5 hx5
  simp only [xv, Tk.zero, List.length_nil]
  go_wp2_with fail
  go_ret
  exact ⟨rfl, HX5.out.trans ((Below.refl _ _).alloc (Nat.le_refl _) _)⟩
end Go.Proofs.Ytaehchaimlklnaa
