/-
  The walk of BloomMore.
-/
import Derived.Test.YtadcbefgleiijaaFback
namespace Go.Proofs.Ytadcbefgleiijaa
open Go.RowKit
set_option linter.unusedVariables false
theorem T.ins_count {s : List UInt8} {d : List (List UInt8)} (h : T.Rise d) : (T.ins s d).length = if s ∈ d then d.length else d.length + 1 := by
  rw [T.ins_eq]
  by_cases hm : s ∈ d
  · rw [if_pos hm]
    obtain ⟨i, hi, he⟩ := List.getElem_of_mem hm
    have hx : d[i]? = some s := by rw [List.getElem?_eq_getElem hi, he]
    have hp := (T.pos_place h hx).1
    rw [hp, if_pos hx]
  · rw [if_neg hm, if_neg (fun h => hm (List.mem_of_getElem? h))]
    have := T.pos_le s d
    simp; omega
theorem T.bld_count (A : List (List UInt8)) {j : Nat} (h : j < A.length) : (T.bld (A.take (j + 1))).length = if A[j] ∈ A.take j then (T.bld (A.take j)).length else (T.bld (A.take j)).length + 1 := by
  rw [List.take_succ_eq_append_getElem h, T.bld_snoc, T.ins_count (T.rise_bld _)]
  simp only [T.mem_bld]
theorem T.bld_sub {l m : List (List UInt8)} (h : ∀ x ∈ l, x ∈ m) : (T.bld l).length ≤ (T.bld m).length := by
  have hp : ∀ d e : List (List UInt8), T.Rise d → (∀ x ∈ d, x ∈ e) → d.length ≤ e.length := by
    intro d
    induction d with
    | nil => intros; simp
    | cons x d ih =>
      intro e hd he
      have hx : x ∈ e := he x (by simp)
      obtain ⟨h1, h2⟩ := T.rise_cons.1 hd
      have := ih (e.erase x) h2 (fun y hy => by
        have hne : y ≠ x := (T.lt_ne (h1 y hy)).symm
        exact (List.mem_erase_of_ne hne).2 (he y (by simp [hy])))
      rw [List.length_erase_of_mem hx] at this
      have hpos : 0 < e.length := List.length_pos_of_mem hx
      simp; omega
  exact hp _ _ (T.rise_bld l) (fun x hx => (T.mem_bld m x).2 (h x ((T.mem_bld l x).1 hx)))
theorem contains_snoc (A : List (List UInt8)) (y : List UInt8) {k : Nat} (h : k < A.length) : (A.take (k + 1)).contains y = ((A.take k).contains y || A[k] == y) := by
  rw [List.take_succ_eq_append_getElem h, List.contains_append]
  simp only [List.contains_cons, List.contains_nil, Bool.or_false]
  rw [Bool.beq_comm]
end Go.Proofs.Ytadcbefgleiijaa
namespace Go.Proofs.Ytadcbefgleiijaa.bloomMore
open Go.RowKit Go.Proofs.Ytadcbefgleiijaa
set_option linter.unusedVariables false
set_option linter.unusedSimpArgs false
set_option maxRecDepth 100000 in
set_option maxHeartbeats 8000000 in
theorem walk (p0 : Option Addr) (c0 : Nat) (l0 : List (List UInt8)) (p1 : Option Addr) (c1 : Nat) (l1 : List (List UInt8)) (s2 : List UInt8) (w : World) (b0 : Rd st w p0 c0 l0) (m0 : ∀ x ∈ l0, x.length ≤ maxLen) (b1 : Rd st w p1 c1 l1) (m1 : ∀ x ∈ l1, x.length ≤ maxLen) (w2 : s2.length ≤ 140737488351232) :
    Calls Try.prog 7 #[.slice p0 l0.length c0, .slice p1 l1.length c1, .string (str s2)] w fun e w' => e = .returned (.bool true) ∧ Below w.heap.size w w' := by
  obtain ⟨L, hL⟩ : ∃ L, l0.take 40 = L := ⟨_, rfl⟩
  obtain ⟨M0, hM⟩ : ∃ M0, l1.take 40 = M0 := ⟨_, rfl⟩
  have hLl : L.length ≤ 40 := by rw [← hL]; simp; omega
  have hMl : M0.length ≤ 40 := by rw [← hM]; simp; omega
  have hLx : ∀ x ∈ L, x.length ≤ 9223372036854775807 := fun x h => by rw [← hL] at h; exact m0 x (List.mem_of_mem_take h)
  have hMx : ∀ x ∈ M0, x.length ≤ 9223372036854775807 := fun x h => by rw [← hM] at h; exact m1 x (List.mem_of_mem_take h)
  have HLx : Hid (∀ x ∈ L, x.length ≤ 9223372036854775807) := hLx
  obtain ⟨A, hA⟩ : ∃ A, L ++ M0 = A := ⟨_, rfl⟩
  have hAl : A.length ≤ 80 := by rw [← hA]; simp; omega
  have HAx : Hid (∀ x ∈ A, x.length ≤ 9223372036854775807) := (fun x h => by
    rw [← hA, List.mem_append] at h
    exact h.elim (hLx x) (hMx x) : ∀ x ∈ A, x.length ≤ 9223372036854775807)
  have HA : Hid (L ++ M0 = A) := hA
  have HB0 : Hid (Rd st w p0 c0 l0) := b0
  have HB1 : Hid (Rd st w p1 c1 l1) := b1
  have HRL : Hid (Rd st w p0 c0 L) := (by rw [← hL]; exact b0.take 40 : Rd st w p0 c0 L)
  have HRM : Hid (Rd st w p1 c1 M0) := (by rw [← hM]; exact b1.take 40 : Rd st w p1 c1 M0)
  have HL : Hid (l0.take 40 = L) := hL
  have HM : Hid (l1.take 40 = M0) := hM
  obtain ⟨K, hK⟩ : ∃ K, Fl.bits L = K := ⟨_, rfl⟩
  obtain ⟨B, hB⟩ : ∃ B, Fl.bytes L = B := ⟨_, rfl⟩
  obtain ⟨G, hG⟩ : ∃ G, Fl.bits A = G := ⟨_, rfl⟩
  obtain ⟨E, hE⟩ : ∃ E, Fl.bytes A = E := ⟨_, rfl⟩
  have hR : Fl.rightB (K : Int) B.length = true := by rw [← hK, ← hB]; exact Fl.right_built L
  have hR2 : Fl.rightB (G : Int) E.length = true := by rw [← hG, ← hE]; exact Fl.right_built A
  have HR : Hid (Fl.rightB (K : Int) B.length = true) := hR
  have HR2 : Hid (Fl.rightB (G : Int) E.length = true) := hR2
  obtain ⟨_, hKm, hK1, hK2, hBl, _⟩ := Fl.right_div hR
  obtain ⟨_, hGm, hG1, hG2, hEl, _⟩ := Fl.right_div hR2
  have hBl8 : B.length ≤ 8192 := by omega
  have hEl8 : E.length ≤ 8192 := by omega
  have hGb : G ≤ 65536 := by omega
  have hKb : K ≤ 65536 := by omega
  have hsub : ∀ x ∈ L, x ∈ A := fun x h => by rw [← hA]; exact List.mem_append_left _ h
  obtain ⟨cn, hcn⟩ : ∃ cn, (T.bld A).length = cn := ⟨_, rfl⟩
  have hcnl : cn ≤ 80 := by rw [← hcn]; exact Nat.le_trans (T.bld_len A) hAl
  have hKG : K ≤ G := by rw [← hK, ← hG]; exact Fl.width_mono (T.bld_sub hsub)
  have hGge : 8 * cn ≤ G := by rw [← hG]; unfold Fl.bits; rw [hcn]; exact Fl.width_ge (by omega)
  have hGmin : 64 < G → G < 16 * cn := by rw [← hG]; unfold Fl.bits; rw [hcn]; exact Fl.width_min
  have HMore : Hid (K = G → Fl.may (K : Int) B s2 = true → Fl.may (G : Int) E s2 = true) := (fun e h => by
    rw [← hK, ← hG] at e
    rw [← hK, ← hB] at h
    rw [← hG, ← hE]
    exact Fl.may_more hsub e h : K = G → Fl.may (K : Int) B s2 = true → Fl.may (G : Int) E s2 = true)
  have HK : Hid (Fl.bits L = K) := hK
  have HBB : Hid (Fl.bytes L = B) := hB
  have HG : Hid (Fl.bits A = G) := hG
  have HEE : Hid (Fl.bytes A = E) := hE
  have HCn : Hid ((T.bld A).length = cn) := hcn
  have HGmin : Hid (64 < G → G < 16 * cn) := hGmin
  clear b0 b1 m0 m1 hL hM hLx hMx hA hK hB hG hE hR hR2 hKm hGm hBl hEl hsub hcn hGmin
  have hxa : Ex w (w.alloc (.cells #[] 9)) := (Below.refl _ _).alloc (Nat.le_refl _) _
  have hO0 : OwnR 9 st (w.alloc (.cells #[] 9)) w.heap.size (.slice (some ⟨w.heap.size, 0, none⟩) 0 0) [] := OwnR.empty w _ (Nat.le_refl _)
  go_enter Try.func7, Try.ntmps7
  go_wp2_with fail
  refine (few_is _ _ c0 l0 _ rfl HB0.out).mono ?_
  rintro e wq ⟨rfl, hw⟩
  have hw' := hw.symm; clear hw; subst hw'
  rw [HL.out]
  go_wp2_with (at_builtin; refine wpList_append_rd (e := 9) (enc := st) rfl (.tmp 16) (.tmp 17) 22 rfl [] 16 Try.underlying22 Try.info9 rfl (fun _ => rfl) w.heap.size _ [] rfl hO0 p0 _ c0 L rfl rfl (HRL.out.below hxa) (by simp [maxLen]; omega) (by simp; omega) hxa.size ?_; intro v18 w18 ho18 hg18; have hx18 : Ex w w18 := step_belowR hxa hxa.size hO0 hg18; clear hg18; rw [List.nil_append] at ho18)
  have HX18 : Hid (Ex w w18) := hx18
  have HO18 : Hid (OwnR 9 st w18 w.heap.size v18 L) := ho18
  clear hx18 ho18 hxa hO0
  refine (few_is _ _ c1 l1 _ rfl (HB1.out.below HX18.out)).mono ?_
  rintro e wq ⟨rfl, hw⟩
  have hw' := hw.symm; clear hw; subst hw'
  rw [HM.out]
  go_wp2_with (at_builtin; refine wpList_append_rd (e := 9) (enc := st) rfl (.tmp 18) (.tmp 20) 22 rfl [] 16 Try.underlying22 Try.info9 rfl (fun _ => rfl) w.heap.size _ L rfl HO18.out p1 _ c1 M0 rfl rfl (HRM.out.below HX18.out) (by unfold maxLen; omega) (by omega) HX18.out.size ?_; intro v21 w21 ho21 hg21; have hx21 : Ex w w21 := step_belowR HX18.out HX18.out.size HO18.out hg21; clear hg21; rw [HA.out] at ho21; obtain ⟨aA, cA, hvA, hrA⟩ := ho21.rd; subst hvA)
  have HX21 : Hid (Ex w w21) := hx21
  have HRA : Hid (Rd st w21 aA cA A) := hrA
  have hcA := hrA.1
  have hcA2 := hrA.2.1
  unfold maxLen at hcA2
  clear hx21 ho21 hrA
  refine (b_build _ _ c0 L _ rfl (HRL.out.below HX21.out) (by omega) HLx.out).mono ?_
  rintro e wb ⟨af, cf, rfl, hbf, hxf⟩
  rw [HBB.out] at hbf
  rw [HK.out, HBB.out]
  obtain ⟨wf, hwwf⟩ : ∃ wf, wb.alloc (Obj.cells #[Value.int IntKind.i64 (K : Int), Value.slice af B.length cf] 25) = wf := ⟨_, rfl⟩
  have hxwf : Ex wb wf := by rw [← hwwf]; exact (Below.refl _ _).alloc (Nat.le_refl _) _
  have HFwf : Hid (FAt wf wb.heap.size (K : Int) (.slice af B.length cf) 25) := (by rw [← hwwf]; exact FAt.new wb (K : Int) _ 25 : FAt wf wb.heap.size (K : Int) (.slice af B.length cf) 25)
  have HBf : Hid (Byt wf af cf B) := hbf.below hxwf
  have HXf : Hid (Ex w21 wf) := hxf.trans hxwf
  clear hbf hxf hxwf
  simp only [fv]
  go_wp2_with fail
  refine (b_build aA _ cA A _ rfl (HRA.out.below HXf.out) (by omega) HAx.out).mono ?_
  rintro e wc ⟨ag, cg, rfl, hbg, hxg⟩
  rw [HEE.out] at hbg
  rw [HG.out, HEE.out]
  obtain ⟨wg, hwwg⟩ : ∃ wg, wc.alloc (Obj.cells #[Value.int IntKind.i64 (G : Int), Value.slice ag E.length cg] 25) = wg := ⟨_, rfl⟩
  have hxwg : Ex wc wg := by rw [← hwwg]; exact (Below.refl _ _).alloc (Nat.le_refl _) _
  have HFwg : Hid (FAt wg wc.heap.size (G : Int) (.slice ag E.length cg) 25) := (by rw [← hwwg]; exact FAt.new wc (G : Int) _ 25 : FAt wg wc.heap.size (G : Int) (.slice ag E.length cg) 25)
  have HXfg : Hid (Ex wf wg) := hxg.trans hxwg
  have HXg : Hid (Ex w21 wg) := HXf.out.trans HXfg.out
  have HBg : Hid (Byt wg ag cg E) := hbg.below hxwg
  have HFfg : Hid (FAt wg wb.heap.size K (.slice af B.length cf) 25) := HFwf.out.below HXfg.out
  have HBfg : Hid (Byt wg af cf B) := HBf.out.below HXfg.out
  obtain ⟨i0, i1⟩ := HFwg.out.all
  obtain ⟨j0, j1⟩ := HFfg.out.all
  have tKG : decide ((G : Int) < (K : Int)) = false := by simp; omega
  have tKG2 : decide (G < K) = false := by simp; omega
  clear hbg hxg hxwg hwwf
  simp only [fv]
  go_wp2_with fail
  refine (b_right K af B.length cf _ (by omega) (Fl.right_i6 HR.out) true HR.out).mono ?_
  rintro e wh ⟨rfl, hxh⟩
  have HXh : Hid (Ex wg wh) := hxh
  obtain ⟨i0', i1'⟩ := (HFwg.out.below hxh).all
  clear hxh i0 i1 j0 j1 hwwg
  go_wp2_with fail
  refine (b_right G ag E.length cg _ (by omega) (Fl.right_i6 HR2.out) true HR2.out).mono ?_
  rintro e wi ⟨rfl, hxi⟩
  have HXi : Hid (Ex wg wi) := HXh.out.trans hxi
  clear hxi i0' i1'
  go_wp2_with fail
  go_loopw [10, 11] (fun n i wr => ∃ j : Nat, j ≤ A.length ∧ i = .int .i64 j ∧ n = .int .i64 ((T.bld (A.take j)).length : Int) ∧ Hid (Ex wg wr)) (fun _ i _ => A.length - (intOf i).toNat)
  case atStart => exact ⟨0, by omega, rfl, rfl, HXi⟩
  case round =>
    obtain ⟨j, hj, rfl, rfl, HXr⟩ := hrel
    by_cases hlt : j < A.length
    · obtain ⟨y, hy⟩ : ∃ y, A[j] = y := ⟨_, rfl⟩
      obtain ⟨bb, off, rfl, hcy⟩ := (HRA.out.below (HXg.out.trans HXr.out)).2.2.2 j y (by rw [List.getElem?_eq_getElem hlt, hy])
      have HCy : Hid (wr.cell? ⟨bb, off + j, none⟩ = some (.string (str y))) := hcy
      obtain ⟨n0, hn0⟩ : ∃ n0, (T.bld (A.take j)).length = n0 := ⟨_, rfl⟩
      have hn0l : n0 ≤ 80 := by
        rw [← hn0]
        have h1 := T.bld_len (A.take j)
        have h2 : (A.take j).length ≤ 80 := by simp; omega
        omega
      have hcount := T.bld_count A hlt
      rw [hy, hn0] at hcount
      have HCount : Hid ((T.bld (A.take (j + 1))).length = if y ∈ A.take j then n0 else n0 + 1) := hcount
      have tj : decide ((j : Int) < (A.length : Int)) = true := by simp; omega
      rw [hn0]
      have HY : Hid (A[j] = y) := hy
      clear hy hcy hn0 hcount
      obtain ⟨w5, hw5⟩ : ∃ w5, w5 = wr := ⟨_, rfl⟩
      rw [← hw5] at HXr HCy ⊢
      clear hw5
      go_wp2_with fail
      go_loopw [12, 13] (fun h i wr => ∃ k : Nat, k ≤ j ∧ i = .int .i64 k ∧ h = .bool ((A.take k).contains y) ∧ Hid (Ex w5 wr)) (fun _ i _ => j - (intOf i).toNat)
      case atStart => exact ⟨0, by omega, rfl, rfl, Ex.refl _⟩
      case round =>
        obtain ⟨k, hk, rfl, rfl, HX2⟩ := hrel
        by_cases hkj : k < j
        · have hkA : k < A.length := by omega
          obtain ⟨x, hx⟩ : ∃ x, A[k] = x := ⟨_, rfl⟩
          obtain ⟨_, _, eb, hcx⟩ := (HRA.out.below (HXg.out.trans (HXr.out.trans HX2.out))).2.2.2 k x (by rw [List.getElem?_eq_getElem hkA, hx])
          simp only [Option.some.injEq, Addr.mk.injEq, and_true] at eb
          obtain ⟨rfl, rfl⟩ := eb
          have hcx' : wr.cell? ⟨bb, off + k, none⟩ = some (.string (str x)) := hcx
          have hcy' : wr.cell? ⟨bb, off + j, none⟩ = some (.string (str y)) := cell_ex HCy.out HX2.out
          have hsn := contains_snoc A y hkA
          rw [hx] at hsn
          obtain ⟨hb, hhb⟩ : ∃ hb, (A.take k).contains y = hb := ⟨_, rfl⟩
          rw [hhb] at hsn ⊢
          have tk : decide ((k : Int) < (j : Int)) = true := by simp; omega
          have tk2 : decide (k < j) = true := by simp; omega
          have z1 := str_toList x
          have z2 := str_toList y
          clear hcx hhb hx
          cases hb with
          | true =>
            have HSn : Hid ((A.take (k + 1)).contains y = true) := (by rw [hsn]; rfl : (A.take (k + 1)).contains y = true)
            clear hsn
            go_wp2_with fail
            go_quiet (fail)
            go_wp2_with fail
            go_roundw
            case rel => exact ⟨k + 1, by omega, by go_num, by rw [HSn.out], HX2.out.trans (Ex.drewN _ _)⟩
            case measure => simp [intOf]; omega
          | false =>
            have HSn : Hid ((A.take (k + 1)).contains y = (x == y)) := (by rw [hsn]; simp : (A.take (k + 1)).contains y = (x == y))
            clear hsn
            go_wp2_with fail
            go_quiet (fail)
            go_wp2_with fail
            go_roundw
            case rel => exact ⟨k + 1, by omega, by go_num, by rw [HSn.out], HX2.out.trans (Ex.drewN _ _)⟩
            case measure => simp [intOf]; omega
        · obtain rfl : k = j := by omega
          have HX3 : Hid (Ex wg wr) := HXr.out.trans HX2.out
          have tk : decide ((k : Int) < (k : Int)) = false := by simp
          obtain ⟨hb, hhb⟩ : ∃ hb, (A.take k).contains y = hb := ⟨_, rfl⟩
          rw [hhb]
          cases hb with
          | true =>
            have hm : y ∈ A.take k := by simpa using hhb
            have HC1 : Hid ((T.bld (A.take (k + 1))).length = n0) := (by rw [HCount.out, if_pos hm] : (T.bld (A.take (k + 1))).length = n0)
            clear hhb hm
            go_wp2_with fail
            go_roundw
            case rel => exact ⟨k + 1, by omega, by go_num, by rw [HC1.out], HX3⟩
            case measure => simp [intOf]; omega
          | false =>
            have hm : ¬ y ∈ A.take k := fun h => by have : (A.take k).contains y = true := by simpa using h
                                                    rw [hhb] at this; cases this
            have HC1 : Hid ((T.bld (A.take (k + 1))).length = n0 + 1) := (by rw [HCount.out, if_neg hm] : (T.bld (A.take (k + 1))).length = n0 + 1)
            clear hhb hm
            go_wp2_with fail
            go_roundw
            case rel => exact ⟨k + 1, by omega, by go_num, by rw [HC1.out]; go_num, HX3⟩
            case measure => simp [intOf]; omega
    · obtain rfl : j = A.length := by omega
      have tj : decide ((A.length : Int) < (A.length : Int)) = false := by simp
      rw [List.take_length, HCn.out]
      obtain ⟨i0, i1⟩ := (HFwg.out.below HXr.out).all
      obtain ⟨j0, j1⟩ := (HFfg.out.below HXr.out).all
      have t1 : decide ((G : Int) < 8 * (cn : Int)) = false := by simp; omega
      have t1' : decide (G < 8 * cn) = false := by simp; omega
      obtain ⟨g2, hg2⟩ : ∃ g2 : Nat, G / 2 = g2 := ⟨_, rfl⟩
      have hg2i : (G : Int) / 2 = (g2 : Int) := by omega
      have hg2b : g2 ≤ 32768 := by omega
      by_cases hG64 : 64 < G
      · have hmin := HGmin.out hG64
        have t2 : decide (64 < (G : Int)) = true := by simp; omega
        have t2' : decide (64 < G) = true := by simp; omega
        have t3 : decide (8 * (cn : Int) ≤ (g2 : Int)) = false := by simp; omega
        have t3' : decide (8 * cn ≤ g2) = false := by simp; omega
        have t3a : decide ((g2 : Int) < 8 * (cn : Int)) = true := by simp; omega
        clear hg2 hmin
        by_cases hE : K = G
        · have t4 : ((K : Int) != (G : Int)) = false := by simp; omega
          obtain ⟨ra, hra⟩ : ∃ ra, Fl.may (K : Int) B s2 = ra := ⟨_, rfl⟩
          have HRa : Hid (Fl.may (K : Int) B s2 = ra) := hra
          have HE : Hid (K = G) := hE
          clear hra hE
          go_wp2_with fail
          refine (b_may K af B.length cf B s2 _ rfl (HBfg.out.below HXr.out) (by omega) (by omega) (Fl.right_i6 HR.out) ra HRa.out).mono ?_
          rintro e wm ⟨rfl, hxm⟩
          have HXm : Hid (Ex wr wm) := hxm
          obtain ⟨m0', m1'⟩ := ((HFwg.out.below HXr.out).below hxm).all
          clear hxm
          cases ra with
          | true =>
            have HM2 : Hid (Fl.may (G : Int) E s2 = true) := HMore.out HE.out HRa.out
            go_wp2_with fail
            refine (b_may G ag E.length cg E s2 _ rfl ((HBg.out.below HXr.out).below HXm.out) (by omega) (by omega) (Fl.right_i6 HR2.out) true HM2.out).mono ?_
            rintro e wn ⟨rfl, hxn⟩
            have HXn : Hid (Ex w wn) := (HX21.out.trans (HXg.out.trans HXr.out)).trans (HXm.out.trans hxn)
            clear hxn
            go_wp2_with fail
            refine (known_any _).mono ?_
            rintro e wk ⟨rfl, hxk⟩
            go_wp2_with fail
            go_ret
            exact ⟨rfl, HXn.out.trans hxk⟩
          | false =>
            go_wp2_with fail
            refine (known_any _).mono ?_
            rintro e wk ⟨rfl, hxk⟩
            go_wp2_with fail
            go_ret
            exact ⟨rfl, ((HX21.out.trans (HXg.out.trans HXr.out)).trans HXm.out).trans hxk⟩
        · have t4 : ((K : Int) != (G : Int)) = true := by simp; omega
          go_wp2_with fail
          refine (known_any _).mono ?_
          rintro e wk ⟨rfl, hxk⟩
          go_wp2_with fail
          go_ret
          exact ⟨rfl, (HX21.out.trans (HXg.out.trans HXr.out)).trans hxk⟩
      · have t2 : decide (64 < (G : Int)) = false := by simp; omega
        have t2' : decide (64 < G) = false := by simp; omega
        clear hg2
        by_cases hE : K = G
        · have t4 : ((K : Int) != (G : Int)) = false := by simp; omega
          obtain ⟨ra, hra⟩ : ∃ ra, Fl.may (K : Int) B s2 = ra := ⟨_, rfl⟩
          have HRa : Hid (Fl.may (K : Int) B s2 = ra) := hra
          have HE : Hid (K = G) := hE
          clear hra hE
          go_wp2_with fail
          refine (b_may K af B.length cf B s2 _ rfl (HBfg.out.below HXr.out) (by omega) (by omega) (Fl.right_i6 HR.out) ra HRa.out).mono ?_
          rintro e wm ⟨rfl, hxm⟩
          have HXm : Hid (Ex wr wm) := hxm
          obtain ⟨m0', m1'⟩ := ((HFwg.out.below HXr.out).below hxm).all
          clear hxm
          cases ra with
          | true =>
            have HM2 : Hid (Fl.may (G : Int) E s2 = true) := HMore.out HE.out HRa.out
            go_wp2_with fail
            refine (b_may G ag E.length cg E s2 _ rfl ((HBg.out.below HXr.out).below HXm.out) (by omega) (by omega) (Fl.right_i6 HR2.out) true HM2.out).mono ?_
            rintro e wn ⟨rfl, hxn⟩
            have HXn : Hid (Ex w wn) := (HX21.out.trans (HXg.out.trans HXr.out)).trans (HXm.out.trans hxn)
            clear hxn
            go_wp2_with fail
            refine (known_any _).mono ?_
            rintro e wk ⟨rfl, hxk⟩
            go_wp2_with fail
            go_ret
            exact ⟨rfl, HXn.out.trans hxk⟩
          | false =>
            go_wp2_with fail
            refine (known_any _).mono ?_
            rintro e wk ⟨rfl, hxk⟩
            go_wp2_with fail
            go_ret
            exact ⟨rfl, ((HX21.out.trans (HXg.out.trans HXr.out)).trans HXm.out).trans hxk⟩
        · have t4 : ((K : Int) != (G : Int)) = true := by simp; omega
          go_wp2_with fail
          refine (known_any _).mono ?_
          rintro e wk ⟨rfl, hxk⟩
          go_wp2_with fail
          go_ret
          exact ⟨rfl, (HX21.out.trans (HXg.out.trans HXr.out)).trans hxk⟩
end Go.Proofs.Ytadcbefgleiijaa.bloomMore
