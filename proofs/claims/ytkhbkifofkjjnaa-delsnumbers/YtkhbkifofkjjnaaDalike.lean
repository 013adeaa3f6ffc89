/-
  Same of numbers, known, marked and alike of the statements of layer 11.
-/
import Derived.Test.YtkhbkifofkjjnaaDface
namespace Go.Proofs.Ytkhbkifofkjjnaa
open Go.RowKit
set_option linter.unusedVariables false
set_option linter.unusedSimpArgs false
theorem Try.info3 : (Try.prog.info? 3).map (fun i => (i.zero, i.size, i.bytes)) = some (some (.int .i64 0), 1, 8) := by kernel_rfl
theorem ex_row {f : FuncId} {args : Array Value} {wx w1 : World} {v : Value} (h : Calls Try.prog f args wx fun e w' => e = .returned v ∧ Ex wx w') (hC : Ex w1 wx) :
    Calls Try.prog f args wx fun e w' => ∃ u, e = .returned u ∧ (Rg.Spec.ok (.inl v) u w') ∧ Ex wx w' ∧ Ex w1 w' := by
  refine h.mono ?_
  rintro e w' ⟨rfl, hx⟩
  exact ⟨_, rfl, rfl, hx, hC.trans hx⟩
set_option maxRecDepth 100000 in
theorem sameInt_any (a b : Option Addr) (ca cb na nb : Nat) (l m : List Int) (w : World) (hna : na = l.length) (hnb : nb = m.length) (hA : Rd z64 w a ca l) (hB : Rd z64 w b cb m) (r : Bool) (hr : decide (l = m) = r) :
    Calls Try.prog 30 #[.slice a na ca, .slice b nb cb] w fun e w' => e = .returned (.bool r) ∧ Ex w w' := by
  subst hna
  subst hnb
  have g1 := hA.1
  have g2 := hA.2.1
  have g3 := hB.1
  have g4 := hB.2.1
  unfold maxLen at g2 g4
  have HA : Hid (Rd z64 w a ca l) := hA
  have HB : Hid (Rd z64 w b cb m) := hB
  have HR : Hid (decide (l = m) = r) := hr
  clear hA hB hr
  by_cases hlm : l.length = m.length
  · have hne : ((l.length : Int) != (m.length : Int)) = false := by simp; omega
    have hl1 : l.length ≤ m.length := by omega
    have hl2 : m.length ≤ l.length := by omega
    clear hlm
    go_enter Try.func30, Try.ntmps30
    go_wp2
    go_loopw [5] (fun i wr => ∃ k : Nat, k ≤ l.length ∧ i = .int .i64 k ∧ Hid (∀ i, i < k → l[i]? = m[i]?) ∧ ∃ q, wr = w.drewN q) (fun i _ => l.length - (intOf i).toNat)
    case atStart =>
      have h0 : ∀ i, i < 0 → l[i]? = m[i]? := fun i hi => by omega
      exact ⟨0, by omega, rfl, h0, 0, rfl⟩
    case round =>
      obtain ⟨k, hk, rfl, HP, q, rfl⟩ := hrel
      by_cases hlt : k < l.length
      · have hlt' : k < m.length := by omega
        obtain ⟨b1, o1, rfl, hc1⟩ := HA.out.at hlt
        obtain ⟨b2, o2, rfl, hc2⟩ := HB.out.at hlt'
        obtain ⟨x, hx⟩ : ∃ x, x = l[k] := ⟨_, rfl⟩
        obtain ⟨y, hy⟩ : ∃ y, y = m[k] := ⟨_, rfl⟩
        rw [← hx] at hc1
        rw [← hy] at hc2
        have hc1' : w.cell? ⟨b1, o1 + k, none⟩ = some (.int .i64 x) := hc1
        have hc2' : w.cell? ⟨b2, o2 + k, none⟩ = some (.int .i64 y) := hc2
        have hi1 : (k : Int) < (l.length : Int) := by omega
        have hi2 : (k : Int) < (m.length : Int) := by omega
        by_cases he : x = y
        · have hxy : (x != y) = false := by simp; omega
          have hn : ∀ i, i < k + 1 → l[i]? = m[i]? := fun i hi => by
            by_cases hik : i = k
            · subst hik
              rw [List.getElem?_eq_getElem hlt, List.getElem?_eq_getElem hlt', ← hx, ← hy, he]
            · exact HP.out i (by omega)
          have HN : Hid (∀ i, i < k + 1 → l[i]? = m[i]?) := hn
          have hle1 : x ≤ y := by omega
          have hle2 : y ≤ x := by omega
          clear hn hc1 hc2 hx hy he
          go_wp2
          go_quiet (fail)
          go_wp2
          go_roundw
          case rel => exact ⟨k + 1, by omega, by go_num, HN, q + nq, rfl⟩
          case measure => simp [intOf]; omega
        · have hxy : (x != y) = true := by simp; omega
          have hnot : l ≠ m := by
            intro hlm
            subst hlm
            exact he (by rw [hx, hy])
          have hrf : r = false := by rw [← HR.out]; simp [hnot]
          subst hrf
          clear hc1 hc2 hx hy hnot HP
          go_wp2
          go_quiet (fail)
          go_wp2
          go_ret
          exact ⟨rfl, (Ex.drewN w q).trans (Ex.drewN _ _)⟩
      · obtain rfl : k = l.length := by omega
        have heq : l = m := by
          apply List.ext_getElem?
          intro i
          by_cases hi : i < l.length
          · exact HP.out i hi
          · rw [List.getElem?_eq_none (by omega), List.getElem?_eq_none (by omega)]
        have hrt : r = true := by rw [← HR.out]; simp [heq]
        subst hrt
        clear heq HP
        go_wp2
        go_ret
        exact ⟨rfl, Ex.drewN w q⟩
  · have hne : ((l.length : Int) != (m.length : Int)) = true := by simp; omega
    have hnot : l ≠ m := fun h => hlm (by rw [h])
    have hrf : r = false := by rw [← HR.out]; simp [hnot]
    subst hrf
    clear hnot hlm
    go_enter Try.func30, Try.ntmps30
    go_wp2
    go_ret
    exact ⟨rfl, Ex.refl _⟩


set_option maxRecDepth 100000 in
set_option maxHeartbeats 2000000 in
theorem alike_is (v : Value) (fp : Nat → Prop) (ws : List Bool) (a : Option Addr) (n cap : Nat) (w : World) (h : Mk w v fp ws) (hn : n = ws.length) (hB : Rd bl w a cap ws) (hl : ws.length ≤ 1048576) :
    Calls Try.prog 19 #[v, .slice a n cap] w fun e w' => e = .returned (.bool true) ∧ Ex w w' := by
  subst hn
  obtain ⟨gv, rfl⟩ := h.some_
  have HM : Hid (Mk w (.pointer (some ⟨gv, 0, none⟩)) fp ws) := h
  have HB : Hid (Rd bl w a cap ws) := hB
  have hcl := hB.1
  have hcm := hB.2.1
  unfold maxLen at hcm
  have h0 : Hid (OwnR 3 z64 w w.heap.size (.slice none 0 0) (Dl.left (ws.take 0))) := (⟨by simp [Dl.left, Dl.leftF], .inl ⟨rfl, rfl⟩⟩ : OwnR 3 z64 w w.heap.size (.slice none 0 0) (Dl.left (ws.take 0)))
  have h1 : Hid (0 = Dl.count (ws.take 0)) := rfl
  clear h hB
  go_enter Try.func19, Try.ntmps19
  go_wp2_with fail
  go_loopw [5, 6, 7] (fun vl vn vi wr => ∃ k m : Nat, k ≤ ws.length ∧ m ≤ k ∧ vi = .int .i64 (k : Int) ∧ vn = .int .i64 (m : Int) ∧ Hid (m = Dl.count (ws.take k)) ∧ Hid (OwnR 3 z64 wr w.heap.size vl (Dl.left (ws.take k))) ∧ Hid (Ex w wr)) (fun _ _ vi _ => ws.length - (intOf vi).toNat)
  case atStart => exact ⟨0, 0, by omega, by omega, rfl, rfl, h1, h0, Ex.refl _⟩
  case round =>
    obtain ⟨k, m, hk, hmk, rfl, rfl, HC, HO, HEx⟩ := hrel
    clear h0 h1
    have hsz : w.heap.size ≤ wr.heap.size := HEx.out.size
    by_cases hlt : k < ws.length
    · obtain ⟨b, off, rfl, hc⟩ := (HB.out.below HEx.out).at hlt
      obtain ⟨x, hx⟩ : ∃ x, x = ws[k] := ⟨_, rfl⟩
      rw [← hx] at hc
      have HCc : Hid (wr.cell? ⟨b, off + k, none⟩ = some (.bool x)) := hc
      have hki : (k : Int) < (ws.length : Int) := by omega
      have tk : decide ((k : Int) < (ws.length : Int)) = true := by simp; omega
      have HH : Hid (Dl.has ws (k : Int) = x) := (by rw [Dl.has_nat, List.getD_eq_getElem?_getD, List.getElem?_eq_getElem hlt, hx]; rfl : Dl.has ws (k : Int) = x)
      have hn2 : Dl.count (ws.take (k + 1)) = m + Dl.bw x := by rw [List.take_succ_eq_append_getElem hlt, Dl.count_snoc, ← hx, HC.out]
      have hl2 : Dl.left (ws.take (k + 1)) = Dl.left (ws.take k) ++ (if x then [] else [(k : Int)]) := by
        rw [List.take_succ_eq_append_getElem hlt, Dl.left_snoc, ← hx]
        congr 2
        simp; omega
      have hll : (Dl.left (ws.take k)).length ≤ 1048576 := by have := Dl.left_len (ws.take k); simp at this; omega
      clear hc hx
      go_wp2_with fail
      have hre := Ex.refl
      refine Rg.wp_rows [.inl (.pointer (some ⟨gv, 0, none⟩)), .inl (.int .i64 k), .inl (.bool x), .inl (Value.slice (some ⟨b, off, none⟩) ws.length cap), .inl (.int .i64 k), .inl (.pointer (some ⟨b, off + k, none⟩)), .inl (.bool x), .inl (.bool false)] (Ex wr) Ex 61 (by kernel_rfl) rfl (by kernel_rfl) ?st hre (Ex.drew _) ?goods ?fin
      case st => exact trivial
      case goods =>
        refine Rg.goods_cons (Rg.good_move hre rfl rfl rfl) ?_
        refine Rg.goods_cons (Rg.good_move hre rfl rfl rfl) ?_
        refine Rg.goods_cons (Rg.good_call2 Try.func13 (by kernel_rfl) rfl rfl rfl (by rintro u u2 wx hC rfl rfl; exact ex_row (has_is (.pointer (some ⟨gv, 0, none⟩)) fp ws (k : Int) wx ((HM.out.below HEx.out).below hC) (by omega) (by omega) x HH.out) hC)) ?_
        refine Rg.goods_cons (Rg.good_move hre rfl rfl rfl) ?_
        refine Rg.goods_cons (Rg.good_move hre rfl rfl rfl) ?_
        refine Rg.goods_cons (Rg.good_index hre rfl rfl rfl rfl (fun wx hC => by go_simp)) ?_
        refine Rg.goods_cons (Rg.good_load hre rfl rfl rfl (fun wx hC => by have hcz := cell_ex HCc.out hC; go_simp)) ?_
        refine Rg.goods_cons (Rg.good_bin hre rfl rfl rfl rfl (fun _ => rfl) (fun w => by cases x <;> go_simp)) ?_
        exact Rg.goods_nil
      case fin =>
        intro wx hx
        simp only [Rg.later, Act.put, List.setIfInBounds_toArray, List.set_cons_succ, List.set_cons_zero]
        have HXx : Hid (Ex w wx) := HEx.out.trans hx
        have hcx := cell_ex HCc.out hx
        have hOx := HO.out.later hx
        have hszx : w.heap.size ≤ wx.heap.size := HXx.out.size
        clear hx
        cases x with
        | true =>
          have HC2 : Hid (m + 1 = Dl.count (ws.take (k + 1))) := hn2.symm
          have HO2 : Hid (OwnR 3 z64 wx w.heap.size u5 (Dl.left (ws.take (k + 1)))) := (by rw [hl2]; simpa using hOx : OwnR 3 z64 wx w.heap.size u5 (Dl.left (ws.take (k + 1))))
          clear hn2 hl2 hOx
          go_wp2
          go_roundw
          case rel => exact ⟨k + 1, m + 1, by omega, by omega, by go_num, by go_num, HC2, HO2, HXx⟩
          case measure => simp [intOf]; omega
        | false =>
          have HC2 : Hid (m = Dl.count (ws.take (k + 1))) := hn2.symm
          have HL2 : Hid (Dl.left (ws.take (k + 1)) = Dl.left (ws.take k) ++ [(k : Int)]) := (by simpa using hl2 : Dl.left (ws.take (k + 1)) = Dl.left (ws.take k) ++ [(k : Int)])
          clear hn2 hl2
          go_wp2_with (at_builtin; refine wpList_append_rd (e := 3) (enc := z64) rfl (.tmp 28) (.tmp 30) 33 rfl 0 8 Try.underlying33 Try.info3 rfl (fun _ => rfl) w.heap.size _ (Dl.left (ws.take k)) rfl (hOx.alloc _) _ _ _ [(k : Int)] rfl rfl (Rd.laid wx 3 [(k : Int)] (by simp)) (by simp [maxLen]; omega) (by simp; omega) (by simp; omega) ?_; intro v9 w9 ho9 hg9; have X9 : Ex w w9 := step_belowR (Below.alloc HXx.out hszx _) (by simp; omega) (hOx.alloc _) hg9; clear hg9)
          have HO9 : Hid (OwnR 3 z64 w9 w.heap.size v9 (Dl.left (ws.take (k + 1)))) := (by rw [HL2.out]; exact ho9 : OwnR 3 z64 w9 w.heap.size v9 (Dl.left (ws.take (k + 1))))
          have HX9 : Hid (Ex w w9) := X9
          clear ho9 X9 hOx
          go_wp2
          go_roundw
          case rel => exact ⟨k + 1, m, by omega, by omega, by go_num, rfl, HC2, HO9, HX9⟩
          case measure => simp [intOf]; omega
    · obtain rfl : k = ws.length := by omega
      have tk : decide ((ws.length : Int) < (ws.length : Int)) = false := by simp
      have ho := HO.out
      rw [List.take_length] at ho
      obtain ⟨a5, c5, hv5, hb5⟩ := ho.rd
      subst hv5
      have hcc := HC.out
      rw [List.take_length] at hcc
      have HC2 : Hid (Dl.count ws = m) := hcc.symm
      obtain ⟨LF, hLF⟩ : ∃ LF, Dl.left ws = LF := ⟨_, rfl⟩
      rw [hLF] at hb5
      rw [hLF]
      have HLF : Hid (Dl.left ws = LF) := hLF
      have HB5 : Hid (Rd z64 wr a5 c5 LF) := hb5
      have HM1 : Hid (Mk wr (.pointer (some ⟨gv, 0, none⟩)) fp ws) := HM.out.below HEx.out
      clear HO ho hb5 hcc HC hLF HM
      go_wp2_with fail
      refine (rows_is (.pointer (some ⟨gv, 0, none⟩)) fp ws _ HM1.out ws.length rfl).mono ?_
      rintro e w1 ⟨rfl, hx1⟩
      have HM2 : Hid (Mk w1 (.pointer (some ⟨gv, 0, none⟩)) fp ws) := HM1.out.below hx1
      have HB6 : Hid (Rd z64 w1 a5 c5 LF) := HB5.out.below hx1
      have HX1 : Hid (Ex w w1) := HEx.out.trans hx1
      clear hx1
      go_wp2_with fail
      refine (count_is (.pointer (some ⟨gv, 0, none⟩)) fp ws _ HM2.out m HC2.out).mono ?_
      rintro e w2 ⟨rfl, hx2⟩
      have HM3 : Hid (Mk w2 (.pointer (some ⟨gv, 0, none⟩)) fp ws) := HM2.out.below hx2
      have HB7 : Hid (Rd z64 w2 a5 c5 LF) := HB6.out.below hx2
      have HX2 : Hid (Ex w w2) := HX1.out.trans hx2
      clear hx2
      go_wp2_with fail
      refine (left_is (.pointer (some ⟨gv, 0, none⟩)) fp ws _ HM3.out LF HLF.out).mono ?_
      rintro e w3 ⟨u3, rfl, ⟨a6, c6, hv6, hb6⟩, hx3⟩
      subst hv6
      have HM4 : Hid (Mk w3 (.pointer (some ⟨gv, 0, none⟩)) fp ws) := HM3.out.below hx3
      have HB8 : Hid (Rd z64 w3 a5 c5 LF) := HB7.out.below hx3
      have HB9 : Hid (Rd z64 w3 a6 c6 LF) := hb6
      have HX3 : Hid (Ex w w3) := HX2.out.trans hx3
      clear hx3 hb6
      go_wp2_with fail
      refine (sameInt_any a6 a5 c6 c5 _ _ LF LF _ rfl rfl HB9.out HB8.out true (by simp)).mono ?_
      rintro e w4 ⟨rfl, hx4⟩
      have HM5 : Hid (Mk w4 (.pointer (some ⟨gv, 0, none⟩)) fp ws) := HM4.out.below hx4
      have HX4 : Hid (Ex w w4) := HX3.out.trans hx4
      clear hx4
      go_wp2_with fail
      refine (has_is (.pointer (some ⟨gv, 0, none⟩)) fp ws (ws.length : Int) _ HM5.out (by omega) (by omega) false (Dl.has_out (.inr (by omega)))).mono ?_
      rintro e w5 ⟨rfl, hx5⟩
      have HM6 : Hid (Mk w5 (.pointer (some ⟨gv, 0, none⟩)) fp ws) := HM5.out.below hx5
      have HX5 : Hid (Ex w w5) := HX4.out.trans hx5
      clear hx5
      go_wp2_with fail
      refine (has_is (.pointer (some ⟨gv, 0, none⟩)) fp ws (-1) _ HM6.out (by omega) (by omega) false (Dl.has_out (.inl (by omega)))).mono ?_
      rintro e w6 ⟨rfl, hx6⟩
      have HX6 : Hid (Ex w w6) := HX5.out.trans hx6
      clear hx6
      go_wp2_with fail
      go_ret
      exact ⟨rfl, HX6.out⟩
end Go.Proofs.Ytkhbkifofkjjnaa
