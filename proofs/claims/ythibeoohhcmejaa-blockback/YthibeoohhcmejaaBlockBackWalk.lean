/-
  The walk of the law BlockBack: whatever texts, place and byte it is given, it returns true.
-/
import Derived.Test.YthibeoohhcmejaaBlockCutsWalk
import Derived.Test.YthibeoohhcmejaaTwo
namespace Go.Proofs.Ythibeoohhcmejaa.blockBack
open Go.RowKit blockCuts
set_option linter.unusedVariables false

/-- Where the Seals end. -/
def ends (L : List (List UInt8)) (k : Nat) : List Int := (List.range k).map fun i => ((K.written (L.take (i + 1))).length : Int)
theorem ends_len (L : List (List UInt8)) (k : Nat) : (ends L k).length = k := by simp [ends]
theorem ends_succ (L : List (List UInt8)) (k : Nat) : ends L (k + 1) = ends L k ++ [((K.written (L.take (k + 1))).length : Int)] := by simp [ends, List.range_succ]
theorem ends_at (L : List (List UInt8)) (k i : Nat) (h : i < k) : (ends L k)[i]? = some ((K.written (L.take (i + 1))).length : Int) := by simp [ends, h]
theorem Try.info3 : (Try.prog.info? 3).map (fun i => (i.zero, i.size, i.bytes)) = some (some (.int .i64 0), 1, 8) := by kernel_rfl

theorem cut_at {l0 L : List (List UInt8)} (hL : cutTexts l0 = L) {q : Nat} (h10 : q < 10) (hq : q < l0.length) : L[q]? = some (l0[q].take 200) := by
  rw [← hL]
  simp only [cutTexts, List.getElem?_map, List.getElem?_take, if_pos h10]
  rw [List.getElem?_eq_getElem hq]
  rfl
theorem allF_err (f : Nat) (b : List UInt8) : (K.allF f b).2.2 ≤ 14 := by
  induction f generalizing b with
  | zero => simp [K.allF]
  | succ f ih =>
    simp only [K.allF]
    split
    · simp
    · split
      · rcases K.opn_err_le b with h | h
        · rw [h]; simp
        · rcases h.2.2 with h | h | h <;> rw [h] <;> simp
      · exact ih _
theorem all_err {b : List UInt8} {R : List (List UInt8)} {T E : Nat} (h : K.all b = (R, T, E)) : E ≤ 14 := by
  have := allF_err b.length b
  unfold K.all at h
  rw [h] at this
  exact this

set_option maxRecDepth 100000 in
set_option maxHeartbeats 4000000 in
theorem walk (p0 : Option Addr) (c0 : Nat) (l0 : List (List UInt8)) (a1 : Int) (a2 : Int) (w : World) (b0 : Rd st w p0 c0 l0) (m0 : ∀ x ∈ l0, x.length ≤ maxLen) (w1 : -9223372036854775808 ≤ a1 ∧ a1 ≤ 9223372036854775807) (w2 : 0 ≤ a2 ∧ a2 ≤ 255) :
    Calls Try.prog 5 #[.slice p0 l0.length c0, .int .i64 a1, .int .u8 a2] w fun e w' => e = .returned (.bool true) ∧ Below w.heap.size w w' := by
  obtain ⟨v1, u1⟩ := w1
  obtain ⟨t, rfl⟩ := Int.eq_ofNat_of_zero_le w2.1
  have ht8 : t < 256 := by omega
  clear w2
  obtain ⟨base, hbase⟩ : ∃ base, base = w.heap.size := ⟨_, rfl⟩
  have HBa : Hid (base = w.heap.size) := hbase
  obtain ⟨L, hL⟩ : ∃ L, cutTexts l0 = L := ⟨_, rfl⟩
  obtain ⟨B, hB⟩ : ∃ B, K.written L = B := ⟨_, rfl⟩
  have hLs : ∀ x ∈ L, x.length ≤ 200 := by rw [← hL]; exact cutTexts_short l0
  have hLl : L.length = min 10 l0.length := by rw [← hL, cutTexts_len]
  have hLa : L.length ≤ 10 := by omega
  have hLb : L.length ≤ l0.length := by omega
  have HLl : Hid (L.length = min 10 l0.length) := hLl
  have hBl : B.length ≤ 2120 := by rw [← hB]; have := written_short L hLs; omega
  have hcap := b0.1
  have hcm := b0.2.1
  unfold maxLen at hcm
  have H0 : Hid (Rd st w p0 c0 l0) := b0
  have HS : Hid (∀ x ∈ l0, x.length ≤ maxLen) := m0
  have HL : Hid (cutTexts l0 = L) := hL
  have HB : Hid (K.written L = B) := hB
  have HLs : Hid (∀ x ∈ L, x.length ≤ 1048576) := (fun x hx => Nat.le_trans (hLs x hx) (by omega) : ∀ x ∈ L, x.length ≤ 1048576)
  have HLs2 : Hid (∀ x ∈ L, x.length ≤ 200) := hLs
  have hO7 : Hid (Own w base (.slice none 0 0) (K.written (L.take 0))) := own_none w base
  have hO8 : Hid (OwnR 3 z64 w base (.slice none 0 0) (ends L 0)) := (⟨by simp [ends], .inl ⟨rfl, rfl⟩⟩ : OwnR 3 z64 w base (.slice none 0 0) (ends L 0))
  have hAs : Hid (Aside (.slice none 0 0) (.slice none 0 0)) := Aside.nil _
  have hBe : Hid (Below base w w) := Below.refl _ _
  clear b0 m0 hL hB hLs hLl hbase
  go_enter Try.func5, Try.ntmps5
  go_wp2_with fail
  go_loopw [7, 8, 9] (fun v u i wr => ∃ k : Nat, k ≤ l0.length ∧ k ≤ 10 ∧ i = .int .i64 k ∧ Hid (Own wr base v (K.written (L.take k))) ∧ Hid (OwnR 3 z64 wr base u (ends L k)) ∧ Hid (Aside v u) ∧ Hid (Below base w wr)) (fun _ _ i _ => l0.length - (intOf i).toNat)
  case atStart => exact ⟨0, by omega, by omega, rfl, hO7, hO8, hAs, hBe⟩
  case round =>
    obtain ⟨k, hk, hk10, rfl, HO7, HO8, HAs, HBl⟩ := hrel
    clear hO7 hO8 hAs hBe
    have hEx : Ex w wr := by have := HBl.out; rw [HBa.out] at this; exact this
    have hsz : base ≤ wr.heap.size := by rw [HBa.out]; exact hEx.size
    have HEx : Hid (Ex w wr) := hEx
    clear hEx
    by_cases hlt : k < l0.length ∧ k < 10
    · have hk1 := hlt.1
      have hk2 := hlt.2
      have t1 : decide ((k : Int) < (l0.length : Int)) = true := by simp; omega
      have t2 : decide ((k : Int) < 10) = true := by simp; omega
      obtain ⟨b, off, rfl, hc⟩ := (H0.out.below HEx.out).at hk1
      obtain ⟨s, hs⟩ : ∃ s, s = l0[k] := ⟨_, rfl⟩
      rw [← hs] at hc
      have hc' : wr.cell? ⟨b, off + k, none⟩ = some (.string (str s)) := hc
      have hsl : s.length ≤ maxLen := by rw [hs]; exact HS.out _ (List.getElem_mem hk1)
      obtain ⟨x, hx⟩ : ∃ x, s.take 200 = x := ⟨_, rfl⟩
      have hxl : x.length ≤ 200 := by rw [← hx]; simp; omega
      have HX : Hid (s.take 200 = x) := hx
      obtain ⟨W1, hW1⟩ : ∃ W1, W1 = K.written (L.take k) := ⟨_, rfl⟩
      obtain ⟨W2, hW2⟩ : ∃ W2, W2 = K.written (L.take (k + 1)) := ⟨_, rfl⟩
      have hnext : W2 = W1 ++ K.frm x := by
        rw [hW1, hW2, ← HL.out, cutTexts_at hk1 hk2, K.written_snoc, ← hs, hx]
      have hw1l : W1.length ≤ 2120 := by
        rw [hW1]
        have := written_take_le L k
        rw [HB.out] at this
        omega
      have HN : Hid (W2 = W1 ++ K.frm x) := hnext
      have HW2 : Hid (W2 = K.written (L.take (k + 1))) := hW2
      have HO7' : Hid (Own wr base u7 W1) := (by rw [hW1]; exact HO7.out : Own wr base u7 W1)
      have hki : (k : Int) < (l0.length : Int) := by omega
      have hfl : (K.frm x).length ≤ 212 := by rw [K.frm_len]; omega
      clear hc hs hx hnext hlt hW1 hW2 HO7
      go_wp2_with fail
      refine (few_is s x _ hsl HX.out).mono ?_
      rintro e wq ⟨rfl, hw⟩
      have hw' := hw.symm; clear hw; subst hw'
      go_wp2_with (refine wpList_bytes_of rfl (.tmp 37) rfl x rfl (by unfold maxLen; omega) ?_; intro g c w1 hb1 hg1 hx1)
      obtain ⟨F, hF⟩ : ∃ F, K.frm x = F := ⟨_, rfl⟩
      have HF : Hid (K.frm x = F) := hF
      rw [hF] at hfl
      clear hF
      refine (seal_is _ _ c x _ rfl hb1 (by omega) F HF.out).mono ?_
      rintro e w2 ⟨v2, rfl, ⟨p2, c2, rfl, hb2⟩, hx2⟩
      have HX2 : Ex w w2 := (HEx.out.trans hx1).trans hx2
      have ho7 := (HO7'.out.later hx1).later hx2
      have ho8 := (HO8.out.later hx1).later hx2
      have hs2 : base ≤ w2.heap.size := by rw [HBa.out]; exact HX2.size
      have hb02 : Below base w w2 := by rw [HBa.out]; exact HX2
      clear hb1 hg1 hx1 hx2
      go_wp2_with (first
        | (at_builtin; refine wpList_append_byt_at rfl (.tmp 44) (.tmp 45) rfl base _ W1 rfl ho7 p2 _ c2 F rfl rfl hb2 (by omega) hs2 ?_; intro v3 w3 ho3 hg3 hat3; have hb3 : Below base w w3 := step_below0 hb02 hs2 ho7 hg3; have ho83 := ho8.far hg3 HAs.out; have has3 : Aside v3 u8 := HAs.out.grown hat3 ho8; have ho3' : Own w3 base v3 W2 := (by rw [HN.out, HF.out]; exact ho3); obtain ⟨a3, c3, hv3, hbb3⟩ := ho3'.byt; subst hv3; clear hg3 hat3 ho3; have hs3 : base ≤ w3.heap.size := Nat.le_trans (Nat.le_of_eq HBa.out) hb3.size)
        | (at_builtin; refine wpList_append_rd_at (e := 3) (enc := z64) rfl (.tmp 47) (.tmp 50) 46 rfl 0 8 Try.underlying46 Try.info3 rfl (fun _ => rfl) base _ (ends L k) rfl (ho83.alloc _) _ _ _ [(W2.length : Int)] rfl rfl (Rd.laid w3 3 [(W2.length : Int)] (by simp)) (by rw [ends_len]; simp [maxLen]; omega) (by rw [ends_len]; simp; omega) (by simp; omega) ?_; intro v4 w4 ho4 hg4 hat4))
      have ho34 := World.ownsRow.alloc ho3' (.cells ([(W2.length : Int)].map z64).toArray 3)
      have HO4 : Hid (OwnR 3 z64 w4 base v4 (ends L (k + 1))) := (by rw [ends_succ, ← HW2.out]; exact ho4 : OwnR 3 z64 w4 base v4 (ends L (k + 1)))
      have HO3 : Hid (Own w4 base (.slice a3 W2.length c3) (K.written (L.take (k + 1)))) := (by rw [← HW2.out]; exact Own.far ho34 hg4 has3.symm : Own w4 base (.slice a3 W2.length c3) (K.written (L.take (k + 1))))
      have HA4 : Hid (Aside (.slice a3 W2.length c3) v4) := (has3.symm.grown hat4 ho34).symm
      have HB4 : Hid (Below base w w4) := step_belowR (Below.alloc hb3 hs3 _) (by simp; omega) (ho83.alloc _) hg4
      clear ho34 ho4 hg4 hat4 ho83 ho3' hb3 has3 ho7 ho8 hb02 hbb3
      go_wp2
      go_roundw
      case rel => exact ⟨k + 1, by omega, by omega, by go_num, HO3, HO4, HA4, HB4⟩
      case measure => simp [intOf]; omega
    · have hkL : k = L.length := by have := HLl.out; omega
      have h7 := HO7.out
      have h8 := HO8.out
      rw [hkL] at h8
      rw [List.take_of_length_le (by omega), HB.out] at h7
      obtain ⟨EN, hEN⟩ : ∃ EN, ends L L.length = EN := ⟨_, rfl⟩
      have HENl : Hid (EN.length = L.length) := (by rw [← hEN, ends_len] : EN.length = L.length)
      have HENat : Hid (∀ i, i < L.length → EN[i]? = some ((K.written (L.take (i + 1))).length : Int)) := (by intro i hi; rw [← hEN, ends_at L _ i hi] : ∀ i, i < L.length → EN[i]? = some ((K.written (L.take (i + 1))).length : Int))
      rw [hEN] at h8
      have hWh := K.all_whole L HLs.out
      rw [HB.out] at hWh
      have HWh : Hid (K.all B = (L, B.length, 0)) := hWh
      obtain ⟨a7, c7a, hv7, hb7⟩ := h7.byt
      subst hv7
      obtain ⟨a8, c8a, hv8, hb8⟩ := h8.rd
      subst hv8
      have HO7b : Hid (Own wr base (.slice a7 B.length c7a) B) := h7
      have HO8b : Hid (OwnR 3 z64 wr base (.slice a8 EN.length c8a) EN) := h8
      have HB7 : Hid (Byt wr a7 c7a B) := hb7
      have h7c := hb7.1
      have h7m := hb7.2.1
      have h8c := hb8.1
      have h8m := hb8.2.1
      unfold maxLen at h7m h8m
      have hENa : EN.length ≤ L.length := by have := HENl.out; omega
      have hENb : L.length ≤ EN.length := by have := HENl.out; omega
      clear h7 h8 hb7 hb8 hEN hWh HO7 HO8 hkL
      have HEx0 : Hid (Ex w wr) := HEx
      have HAs0 : Hid (Aside (.slice a7 B.length c7a) (.slice a8 EN.length c8a)) := HAs
      by_cases h1 : k < l0.length
      · have t1 : decide ((k : Int) < (l0.length : Int)) = true := by simp; omega
        have t2 : decide ((k : Int) < 10) = false := by simp; omega
        have hki : (k : Int) < (l0.length : Int) := by omega
        clear hlt
        go_wp2_with fail
        refine (all_is a7 _ c7a B _ rfl HB7.out (by omega) L B.length 0 HWh.out).mono ?_
        rintro e w5 ⟨v12, rfl, ⟨a12, c7, rfl, hb12⟩, hx5⟩
        have HX5 : Hid (Ex w w5) := HEx0.out.trans hx5
        have HB12 : Hid (RdB w5 a12 c7 L) := hb12
        have HO7c : Hid (Own w5 base (.slice a7 B.length c7a) B) := HO7b.out.later hx5
        have HO8c : Hid (OwnR 3 z64 w5 base (.slice a8 EN.length c8a) EN) := HO8b.out.later hx5
        have h12 := hb12.bounds
        have h12a := h12.1
        have h12b := h12.2
        unfold maxLen at h12b
        have tLE : ((L.length : Int) != (EN.length : Int)) = false := by simp; omega
        clear hb12 h12 hx5 HB7 HO7b HO8b HEx0 HEx
        go_wp2_with fail
        go_loopw [15] (fun i wr => ∃ q : Nat, q ≤ L.length ∧ i = .int .i64 q ∧ Hid (Ex w5 wr)) (fun i _ => L.length - (intOf i).toNat)
        case atStart => exact ⟨0, by omega, rfl, Ex.refl _⟩
        case round =>
          obtain ⟨q, hq, rfl, HEx⟩ := hrel
          by_cases hlt : q < L.length
          · have tq : decide ((q : Int) < (L.length : Int)) = true := by simp; omega
            obtain ⟨b1, o1, q1, d1, rfl, hce1, hbx1⟩ := (HB12.out.below HEx.out).at hlt
            obtain ⟨b2, o2, rfl, hce2⟩ := ((H0.out.below HX5.out).below HEx.out).at (k := q) (by omega)
            obtain ⟨x, hx⟩ : ∃ x, x = L[q] := ⟨_, rfl⟩
            obtain ⟨s, hs⟩ : ∃ s, s = l0[q]'(by omega) := ⟨_, rfl⟩
            have hsx : s.take 200 = x := by
              rw [hx, hs]
              have h1 : L[q]? = L[q]? := rfl
              have h2 := h1.trans (cut_at HL.out (show q < 10 by omega) (show q < l0.length by omega))
              rw [List.getElem?_eq_getElem hlt] at h2
              simp only [Option.some.injEq] at h2
              exact h2.symm
            rw [← hx] at hce1 hbx1
            rw [← hs] at hce2
            have hsl : s.length ≤ maxLen := by rw [hs]; exact HS.out _ (List.getElem_mem _)
            have HC1 : Hid (wr.cell? ⟨b1, o1 + q, none⟩ = some (.slice q1 x.length d1)) := hce1
            have HC2 : Hid (wr.cell? ⟨b2, o2 + q, none⟩ = some (.string (str s))) := hce2
            have HXb : Hid (Byt wr q1 d1 x) := hbx1
            have HSl : Hid (s.length ≤ maxLen) := hsl
            have HSx : Hid (s.take 200 = x) := hsx
            have hk1 : (q : Int) < (L.length : Int) := by omega
            have hk2 : (q : Int) < (l0.length : Int) := by omega
            clear hce1 hce2 hbx1 hx hs hsl hsx
            go_wp2_with fail
            have hre := Ex.refl
            refine Rg.wp_rows [.inl (Value.slice (some { block := b1, off := o1 }) L.length c7), .inl (Value.int IntKind.i64 ↑q), .inl (Value.pointer (some ⟨b1, o1 + q, none⟩)), .inl (Value.slice q1 x.length d1), .inl (Value.string (str x)), .inl (Value.slice (some { block := b2, off := o2 }) l0.length c0), .inl (Value.int IntKind.i64 ↑q), .inl (Value.pointer (some ⟨b2, o2 + q, none⟩)), .inl (Value.string (str s)), .inl (Value.string (str x)), .inl (.bool false)] (Ex wr) Ex 178 (by kernel_rfl) rfl (by kernel_rfl) ?st hre (Ex.drew _) ?goods ?fin
            case st => exact trivial
            case goods =>
              refine Rg.goods_cons (Rg.good_move hre rfl rfl rfl) ?_
              refine Rg.goods_cons (Rg.good_move hre rfl rfl rfl) ?_
              refine Rg.goods_cons (Rg.good_index hre rfl rfl rfl rfl (fun wx hC => by go_simp)) ?_
              refine Rg.goods_cons (Rg.good_load hre rfl rfl rfl (fun wx hC => by have hcz := cell_ex HC1.out hC; go_simp)) ?_
              refine Rg.goods_cons (Rg.good_conv hre rfl rfl (by rintro u wx hC rfl; exact conv_row ⟨q1, d1, rfl, HXb.out.below hC⟩)) ?_
              refine Rg.goods_cons (Rg.good_move hre rfl rfl rfl) ?_
              refine Rg.goods_cons (Rg.good_move hre rfl rfl rfl) ?_
              refine Rg.goods_cons (Rg.good_index hre rfl rfl rfl rfl (fun wx hC => by go_simp)) ?_
              refine Rg.goods_cons (Rg.good_load hre rfl rfl rfl (fun wx hC => by have hcz := cell_ex HC2.out hC; go_simp)) ?_
              refine Rg.goods_cons (Rg.good_call1 Try.func16 (by kernel_rfl) rfl rfl rfl (by rintro u wx hC rfl; exact few_row s x wx hC HSl.out HSx.out)) ?_
              refine Rg.goods_cons (Rg.good_bin hre rfl rfl rfl rfl (fun _ => rfl) (fun w => by go_simp)) ?_
              exact Rg.goods_nil
            case fin =>
              intro wx hx
              simp only [Rg.later, Act.put, List.setIfInBounds_toArray, List.set_cons_succ, List.set_cons_zero]
              have HXx : Hid (Ex w5 wx) := HEx.out.trans hx
              clear hx
              go_wp2
              go_roundw
              case rel => exact ⟨q + 1, by omega, by go_num, HXx⟩
              case measure => simp [intOf]; omega
          · obtain rfl : q = L.length := by omega
            have HExQ : Hid (Ex w wr) := HX5.out.trans HEx.out
            by_cases hB0 : B.length = 0
            · have tb : ((B.length : Int) == 0) = true := beq_iff_eq.2 (by omega)
              have hbz : B.length ≤ 0 := by omega
              clear hB0
              go_wp2_with fail
              refine (known_any _).mono ?_
              rintro e w9 ⟨rfl, hx9⟩
              go_wp2
              go_ret
              exact ⟨rfl, HExQ.out.trans hx9⟩
            · have tb : ((B.length : Int) == 0) = false := beq_eq_false_iff_ne.2 (by omega)
              have hbp : 1 ≤ B.length := by omega
              by_cases ht0 : t = 0
              · have tt : ((t : Int) == 0) = true := by simp; omega
                have htz : t ≤ 0 := by omega
                clear ht0 hB0
                go_wp2_with fail
                refine (known_any _).mono ?_
                rintro e w9 ⟨rfl, hx9⟩
                go_wp2
                go_ret
                exact ⟨rfl, HExQ.out.trans hx9⟩
              · have tt : ((t : Int) == 0) = false := by simp; omega
                have htp : 1 ≤ t := by omega
                have hEN0 : 0 < EN.length := by
                  have h1 := HENl.out
                  rcases Nat.eq_zero_or_pos L.length with h0 | h0
                  · have h3 : L = [] := List.eq_nil_of_length_eq_zero h0
                    have h2 := HB.out
                    rw [h3] at h2
                    exact absurd (by rw [← h2]; rfl) hB0
                  · omega
                have ho7 := HO7c.out.later HEx.out
                have ho8 := HO8c.out.later HEx.out
                obtain ⟨g7, d7, hv7, hg7b, hg7s, hg7c, hg7m⟩ := ho7.form (by omega)
                obtain ⟨g8, d8, hv8, hg8b, hg8s, hg8c, hg8m⟩ := ho8.form hEN0
                simp only [Value.slice.injEq, true_and] at hv7 hv8
                obtain ⟨rfl, hc7⟩ := hv7
                obtain ⟨rfl, hc8⟩ := hv8
                clear hc7 hc8 hg7c hg7m hg8c hg8m d7 d8
                have HO7a : Hid (Own wr base (.slice (some ⟨g7, 0, none⟩) B.length c7a) B) := ho7
                have HO8a : Hid (OwnR 3 z64 wr base (.slice (some ⟨g8, 0, none⟩) EN.length c8a) EN) := ho8
                have HG7 : Hid (base ≤ g7) := hg7b
                clear ho7 ho8 hg7b hg7s hg8b hg8s hB0 ht0 HO7c HO8c
                go_wp2_with fail
                refine (within_any a1 ((B.length : Int) - 1) _ v1 u1 (by omega) (by omega)).mono ?_
                rintro e wq ⟨n, hn, rfl, hw⟩
                have hw' := hw.symm; clear hw; subst hw'
                have hnl : n < B.length := by omega
                have hni : (n : Int) < (B.length : Int) := by omega
                obtain ⟨y, hy⟩ : ∃ y, y = B[n].toNat := ⟨_, rfl⟩
                have hy8 : y < 256 := by rw [hy]; exact UInt8.toNat_lt _
                have hcy : wr.cell? ⟨g7, n, none⟩ = some (.int .u8 (y : Int)) := by
                  have h1 := HO7a.out.bytS
                  obtain ⟨b', off', hbo, hc⟩ := h1.2.2.2 n hnl
                  simp only [Option.some.injEq, Addr.mk.injEq, and_true] at hbo
                  obtain ⟨rfl, rfl⟩ := hbo
                  rw [Nat.zero_add] at hc
                  rw [hc, hy]
                  simp [M.bAt, hnl]
                have hfz := HO7a.out.frozen n rfl
                obtain ⟨x8, hx8⟩ : ∃ x8, x8 = y ^^^ t := ⟨_, rfl⟩
                have hxl : x8 < 256 := by rw [hx8]; exact Nat.xor_lt_two_pow (n := 8) (by omega) (by omega)
                have hxor : bits .xor .u8 (y : Int) (t : Int) = (x8 : Int) := by rw [hx8]; exact I.xor8 _ _ y t rfl rfl (by omega) (by omega)
                have hne : UInt8.ofNat x8 ≠ B[n] := by
                  intro h
                  have h1 := congrArg UInt8.toNat h
                  rw [K.ofNat_toNat, ← hy, Nat.mod_eq_of_lt hxl, hx8] at h1
                  have h2 := congrArg (y ^^^ ·) h1
                  simp only [← Nat.xor_assoc, Nat.xor_self, Nat.zero_xor] at h2
                  omega
                obtain ⟨B2, hB2⟩ : ∃ B2, B2 = B.set n (UInt8.ofNat x8) := ⟨_, rfl⟩
                have hset := HO7a.out.set (k := n) (c := UInt8.ofNat x8) (v := .int .u8 (x8 : Int)) rfl (by rw [K.ofNat_toNat, Nat.mod_eq_of_lt hxl])
                rw [← hB2] at hset
                have hB2l : B2.length = B.length := by rw [hB2]; simp
                have hLB := HB.out
                obtain ⟨j, E, hj, hj1, hj2, hE, hall⟩ := K.all_turned L HLs.out n (UInt8.ofNat x8) (by rw [hLB]; exact hnl) (by intro h; apply hne; rw [h]; simp only [hLB]) []
                rw [hLB, ← hB2, List.append_nil] at hall
                obtain ⟨R, hR⟩ : ∃ R, L.take j = R := ⟨_, rfl⟩
                obtain ⟨T, hT⟩ : ∃ T, (K.written R).length = T := ⟨_, rfl⟩
                rw [hR, hT] at hall hj1
                have HRj : Hid (R.length = j) := (by rw [← hR]; simp; omega : R.length = j)
                have HR : Hid (L.take j = R) := hR
                have HT : Hid ((K.written R).length = T) := hT
                have HAll2 : Hid (K.all B2 = (R, T, E)) := hall
                have HN2 : Hid (n < (K.written (L.take (j + 1))).length) := hj2
                have HB2l : Hid (B.length = B2.length) := hB2l.symm
                obtain ⟨w7, hw7⟩ : ∃ w7, w7 = wr.setCell ⟨g7, n, none⟩ (.int .u8 (x8 : Int)) := ⟨_, rfl⟩
                rw [← hw7] at hset
                have HW7 : Hid (wr.setCell ⟨g7, n, none⟩ (.int .u8 (x8 : Int)) = w7) := hw7.symm
                have HB72 : Hid (Byt w7 (some ⟨g7, 0, none⟩) c7a B2) := hset.1.bytS
                have HO8 : Hid (OwnR 3 z64 w7 base (.slice (some ⟨g8, 0, none⟩) EN.length c8a) EN) := OwnR.far (u := .slice (some ⟨g7, 0, none⟩) B.length c7a) HO8a.out hset.2 HAs0.out
                have HX7 : Hid (Ex w w7) := (by
                  have h1 : Below base w wr := by rw [HBa.out]; exact HExQ.out
                  have h2 := Below.setCell h1 (p := ⟨g7, n, none⟩) HG7.out (.int .u8 (x8 : Int))
                  rw [← hw7, HBa.out] at h2
                  exact h2 : Ex w w7)
                have hTn : T ≤ n := hj1
                have hjL : j < L.length := hj
                have hEne : E ≠ 0 := hE
                have hR2 : R.length ≤ L.length := by rw [← hR]; simp; omega
                have hE14 : E ≤ 14 := all_err HAll2.out
                clear hset hw7 hall hR hT hj hj2 hE hB2 hB2l hLB hne hy hx8 hj1 HO7a HO8a
                go_wp2_with fail
                rw [HW7.out]
                go_loop [17] (fun i => ∃ q : Nat, q ≤ j ∧ i = .int .i64 q) (fun i => j - (intOf i).toNat)
                case atStart => exact ⟨0, by omega, rfl⟩
                case round =>
                  obtain ⟨q, hq, rfl⟩ := hrel
                  have hqE : q < EN.length := by have := HENl.out; omega
                  have hqi0 : (q : Int) < (EN.length : Int) := by omega
                  have tqE : decide ((q : Int) < (EN.length : Int)) = true := by simp; omega
                  obtain ⟨y, hy⟩ : ∃ y : Nat, y = (K.written (L.take (q + 1))).length := ⟨_, rfl⟩
                  have hceq : w7.cell? ⟨g8, q, none⟩ = some (.int .i64 (y : Int)) := by
                    rw [OwnR.cell HO8.out rfl (k := q) hqE]
                    have h3 := HENat.out q (by omega)
                    rw [List.getElem?_eq_getElem hqE] at h3
                    simp only [Option.some.injEq] at h3
                    rw [h3, hy]
                  have hyl : y ≤ 2120 := by rw [hy]; have := written_take_le L (q + 1); rw [HB.out] at this; omega
                  by_cases hlt : q < j
                  · have hyn : y ≤ n := by
                      have h1 : (K.written (L.take (q + 1))).length ≤ (K.written (L.take j)).length := by
                        have := written_take_le (L.take j) (q + 1)
                        rw [List.take_take, show min (q + 1) j = q + 1 from by omega] at this
                        exact this
                      rw [← hy, HR.out, HT.out] at h1
                      omega
                    have ty : decide ((y : Int) ≤ (n : Int)) = true := by simp; omega
                    clear hy
                    go_wp2
                    go_round
                    case rel => exact ⟨q + 1, by omega, by go_num⟩
                    case measure => simp [intOf]; omega
                  · have hyn : n < y := by
                      have h1 : q = j := by omega
                      rw [hy, h1]; exact HN2.out
                    have ty : decide ((y : Int) ≤ (n : Int)) = false := by simp; omega
                    clear hy
                    obtain rfl : q = j := by omega
                    go_wp2_with fail
                    refine (all_is (some ⟨g7, 0, none⟩) _ c7a B2 _ HB2l.out HB72.out (by have := HB2l.out; omega) R T E HAll2.out).mono ?_
                    rintro e w8 ⟨v18, rfl, ⟨a18, c7, rfl, hb18⟩, hx8⟩
                    have HX8 : Hid (Ex w w8) := HX7.out.trans hx8
                    have HO88 : Hid (OwnR 3 z64 w8 base (.slice (some ⟨g8, 0, none⟩) EN.length c8a) EN) := HO8.out.later hx8
                    have HB18 : Hid (RdB w8 a18 c7 R) := hb18
                    have h18 := hb18.bounds
                    have h18a := h18.1
                    have h18b := h18.2
                    unfold maxLen at h18b
                    have tE : ((E : Int) == 0) = false := by simp; omega
                    have hrj1 : R.length ≤ q := by have := HRj.out; omega
                    have hrj2 : q ≤ R.length := by have := HRj.out; omega
                    have tR : ((R.length : Int) != (q : Int)) = false := by simp; omega
                    clear hb18 h18 hx8
                    by_cases hq0 : q = 0
                    · have hT0 : T = 0 := by rw [← HT.out]; have h1 : R = [] := List.eq_nil_of_length_eq_zero (by rw [HRj.out]; exact hq0); rw [h1]; rfl
                      subst hT0
                      have tq0 : decide (0 < (q : Int)) = false := by simp; omega
                      have tq1 : ((q : Int) == 0) = true := by simp; omega
                      have hqz : q ≤ 0 := by omega
                      clear hq0
                      go_wp2_with fail
                      go_loopw [21] (fun i wr => ∃ q : Nat, q ≤ R.length ∧ i = .int .i64 q ∧ Hid (Ex w8 wr)) (fun i _ => R.length - (intOf i).toNat)
                      case atStart => exact ⟨0, by omega, rfl, Ex.refl _⟩
                      case round =>
                        obtain ⟨q, hq, rfl, HEx⟩ := hrel
                        by_cases hlt : q < R.length
                        · exfalso; omega
                        · obtain rfl : q = R.length := by omega
                          have HExF : Hid (Ex w wr) := HX8.out.trans HEx.out
                          go_wp2_with fail
                          refine (known_any _).mono ?_
                          rintro e w9 ⟨rfl, hx9⟩
                          go_wp2
                          go_ret
                          exact ⟨rfl, HExF.out.trans hx9⟩
                    · have tq0 : decide (0 < (q : Int)) = true := by simp; omega
                      have tq1 : ((q : Int) == 0) = false := by simp; omega
                      obtain ⟨q2, hq2⟩ : ∃ q2, q = q2 + 1 := ⟨q - 1, by omega⟩
                      have hqi : (q : Int) - 1 = (q2 : Int) := by omega
                      have hqi2 : (q2 : Int) < (EN.length : Int) := by have := HENl.out; omega
                      have hce : w8.cell? ⟨g8, q2, none⟩ = some (.int .i64 ((T : Nat) : Int)) := by
                        have h1 := OwnR.cell HO88.out rfl (k := q2) (by have := HENl.out; omega)
                        rw [h1]
                        have h3 := HENat.out q2 (by omega)
                        rw [List.getElem?_eq_getElem (by have := HENl.out; omega)] at h3
                        simp only [Option.some.injEq] at h3
                        rw [h3, ← hq2, HR.out, HT.out]
                      have hqp : 1 ≤ q := by omega
                      clear hq2 hq0
                      go_wp2_with fail
                      go_loopw [21] (fun i wr => ∃ q : Nat, q ≤ R.length ∧ i = .int .i64 q ∧ Hid (Ex w8 wr)) (fun i _ => R.length - (intOf i).toNat)
                      case atStart => exact ⟨0, by omega, rfl, Ex.refl _⟩
                      case round =>
                        obtain ⟨q, hq, rfl, HEx⟩ := hrel
                        by_cases hlt : q < R.length
                        · have tq : decide ((q : Int) < (R.length : Int)) = true := by simp; omega
                          obtain ⟨b1, o1, q1, d1, rfl, hce1, hbx1⟩ := (HB18.out.below HEx.out).at hlt
                          obtain ⟨b2, o2, rfl, hce2⟩ := ((H0.out.below HX8.out).below HEx.out).at (k := q) (by omega)
                          obtain ⟨x, hx⟩ : ∃ x, x = R[q] := ⟨_, rfl⟩
                          obtain ⟨s, hs⟩ : ∃ s, s = l0[q]'(by omega) := ⟨_, rfl⟩
                          have hsx : s.take 200 = x := by
                            rw [hx, hs]
                            have h1 : R[q]? = L[q]? := by rw [← HR.out, List.getElem?_take, if_pos (by have := HRj.out; omega)]
                            have h2 := h1.trans (cut_at HL.out (show q < 10 by omega) (show q < l0.length by omega))
                            rw [List.getElem?_eq_getElem hlt] at h2
                            simp only [Option.some.injEq] at h2
                            exact h2.symm
                          rw [← hx] at hce1 hbx1
                          rw [← hs] at hce2
                          have hsl : s.length ≤ maxLen := by rw [hs]; exact HS.out _ (List.getElem_mem _)
                          have HC1 : Hid (wr.cell? ⟨b1, o1 + q, none⟩ = some (.slice q1 x.length d1)) := hce1
                          have HC2 : Hid (wr.cell? ⟨b2, o2 + q, none⟩ = some (.string (str s))) := hce2
                          have HXb : Hid (Byt wr q1 d1 x) := hbx1
                          have HSl : Hid (s.length ≤ maxLen) := hsl
                          have HSx : Hid (s.take 200 = x) := hsx
                          have hk1 : (q : Int) < (R.length : Int) := by omega
                          have hk2 : (q : Int) < (l0.length : Int) := by omega
                          clear hce1 hce2 hbx1 hx hs hsl hsx
                          go_wp2_with fail
                          have hre := Ex.refl
                          refine Rg.wp_rows [.inl (Value.slice (some { block := b1, off := o1 }) R.length c7), .inl (Value.int IntKind.i64 ↑q), .inl (Value.pointer (some ⟨b1, o1 + q, none⟩)), .inl (Value.slice q1 x.length d1), .inl (Value.string (str x)), .inl (Value.slice (some { block := b2, off := o2 }) l0.length c0), .inl (Value.int IntKind.i64 ↑q), .inl (Value.pointer (some ⟨b2, o2 + q, none⟩)), .inl (Value.string (str s)), .inl (Value.string (str x)), .inl (.bool false)] (Ex wr) Ex 178 (by kernel_rfl) rfl (by kernel_rfl) ?st hre (Ex.drew _) ?goods ?fin
                          case st => exact trivial
                          case goods =>
                            refine Rg.goods_cons (Rg.good_move hre rfl rfl rfl) ?_
                            refine Rg.goods_cons (Rg.good_move hre rfl rfl rfl) ?_
                            refine Rg.goods_cons (Rg.good_index hre rfl rfl rfl rfl (fun wx hC => by go_simp)) ?_
                            refine Rg.goods_cons (Rg.good_load hre rfl rfl rfl (fun wx hC => by have hcz := cell_ex HC1.out hC; go_simp)) ?_
                            refine Rg.goods_cons (Rg.good_conv hre rfl rfl (by rintro u wx hC rfl; exact conv_row ⟨q1, d1, rfl, HXb.out.below hC⟩)) ?_
                            refine Rg.goods_cons (Rg.good_move hre rfl rfl rfl) ?_
                            refine Rg.goods_cons (Rg.good_move hre rfl rfl rfl) ?_
                            refine Rg.goods_cons (Rg.good_index hre rfl rfl rfl rfl (fun wx hC => by go_simp)) ?_
                            refine Rg.goods_cons (Rg.good_load hre rfl rfl rfl (fun wx hC => by have hcz := cell_ex HC2.out hC; go_simp)) ?_
                            refine Rg.goods_cons (Rg.good_call1 Try.func16 (by kernel_rfl) rfl rfl rfl (by rintro u wx hC rfl; exact few_row s x wx hC HSl.out HSx.out)) ?_
                            refine Rg.goods_cons (Rg.good_bin hre rfl rfl rfl rfl (fun _ => rfl) (fun w => by go_simp)) ?_
                            exact Rg.goods_nil
                          case fin =>
                            intro wx hx
                            simp only [Rg.later, Act.put, List.setIfInBounds_toArray, List.set_cons_succ, List.set_cons_zero]
                            have HXx : Hid (Ex w8 wx) := HEx.out.trans hx
                            clear hx
                            go_wp2
                            go_roundw
                            case rel => exact ⟨q + 1, by omega, by go_num, HXx⟩
                            case measure => simp [intOf]; omega
                        · obtain rfl : q = R.length := by omega
                          have HExF : Hid (Ex w wr) := HX8.out.trans HEx.out
                          go_wp2_with fail
                          refine (known_any _).mono ?_
                          rintro e w9 ⟨rfl, hx9⟩
                          go_wp2
                          go_ret
                          exact ⟨rfl, HExF.out.trans hx9⟩
      · have t1 : decide ((k : Int) < (l0.length : Int)) = false := by simp; omega
        clear hlt
        go_wp2_with fail
        refine (all_is a7 _ c7a B _ rfl HB7.out (by omega) L B.length 0 HWh.out).mono ?_
        rintro e w5 ⟨v12, rfl, ⟨a12, c7, rfl, hb12⟩, hx5⟩
        have HX5 : Hid (Ex w w5) := HEx0.out.trans hx5
        have HB12 : Hid (RdB w5 a12 c7 L) := hb12
        have HO7c : Hid (Own w5 base (.slice a7 B.length c7a) B) := HO7b.out.later hx5
        have HO8c : Hid (OwnR 3 z64 w5 base (.slice a8 EN.length c8a) EN) := HO8b.out.later hx5
        have h12 := hb12.bounds
        have h12a := h12.1
        have h12b := h12.2
        unfold maxLen at h12b
        have tLE : ((L.length : Int) != (EN.length : Int)) = false := by simp; omega
        clear hb12 h12 hx5 HB7 HO7b HO8b HEx0 HEx
        go_wp2_with fail
        go_loopw [15] (fun i wr => ∃ q : Nat, q ≤ L.length ∧ i = .int .i64 q ∧ Hid (Ex w5 wr)) (fun i _ => L.length - (intOf i).toNat)
        case atStart => exact ⟨0, by omega, rfl, Ex.refl _⟩
        case round =>
          obtain ⟨q, hq, rfl, HEx⟩ := hrel
          by_cases hlt : q < L.length
          · have tq : decide ((q : Int) < (L.length : Int)) = true := by simp; omega
            obtain ⟨b1, o1, q1, d1, rfl, hce1, hbx1⟩ := (HB12.out.below HEx.out).at hlt
            obtain ⟨b2, o2, rfl, hce2⟩ := ((H0.out.below HX5.out).below HEx.out).at (k := q) (by omega)
            obtain ⟨x, hx⟩ : ∃ x, x = L[q] := ⟨_, rfl⟩
            obtain ⟨s, hs⟩ : ∃ s, s = l0[q]'(by omega) := ⟨_, rfl⟩
            have hsx : s.take 200 = x := by
              rw [hx, hs]
              have h1 : L[q]? = L[q]? := rfl
              have h2 := h1.trans (cut_at HL.out (show q < 10 by omega) (show q < l0.length by omega))
              rw [List.getElem?_eq_getElem hlt] at h2
              simp only [Option.some.injEq] at h2
              exact h2.symm
            rw [← hx] at hce1 hbx1
            rw [← hs] at hce2
            have hsl : s.length ≤ maxLen := by rw [hs]; exact HS.out _ (List.getElem_mem _)
            have HC1 : Hid (wr.cell? ⟨b1, o1 + q, none⟩ = some (.slice q1 x.length d1)) := hce1
            have HC2 : Hid (wr.cell? ⟨b2, o2 + q, none⟩ = some (.string (str s))) := hce2
            have HXb : Hid (Byt wr q1 d1 x) := hbx1
            have HSl : Hid (s.length ≤ maxLen) := hsl
            have HSx : Hid (s.take 200 = x) := hsx
            have hk1 : (q : Int) < (L.length : Int) := by omega
            have hk2 : (q : Int) < (l0.length : Int) := by omega
            clear hce1 hce2 hbx1 hx hs hsl hsx
            go_wp2_with fail
            have hre := Ex.refl
            refine Rg.wp_rows [.inl (Value.slice (some { block := b1, off := o1 }) L.length c7), .inl (Value.int IntKind.i64 ↑q), .inl (Value.pointer (some ⟨b1, o1 + q, none⟩)), .inl (Value.slice q1 x.length d1), .inl (Value.string (str x)), .inl (Value.slice (some { block := b2, off := o2 }) l0.length c0), .inl (Value.int IntKind.i64 ↑q), .inl (Value.pointer (some ⟨b2, o2 + q, none⟩)), .inl (Value.string (str s)), .inl (Value.string (str x)), .inl (.bool false)] (Ex wr) Ex 178 (by kernel_rfl) rfl (by kernel_rfl) ?st hre (Ex.drew _) ?goods ?fin
            case st => exact trivial
            case goods =>
              refine Rg.goods_cons (Rg.good_move hre rfl rfl rfl) ?_
              refine Rg.goods_cons (Rg.good_move hre rfl rfl rfl) ?_
              refine Rg.goods_cons (Rg.good_index hre rfl rfl rfl rfl (fun wx hC => by go_simp)) ?_
              refine Rg.goods_cons (Rg.good_load hre rfl rfl rfl (fun wx hC => by have hcz := cell_ex HC1.out hC; go_simp)) ?_
              refine Rg.goods_cons (Rg.good_conv hre rfl rfl (by rintro u wx hC rfl; exact conv_row ⟨q1, d1, rfl, HXb.out.below hC⟩)) ?_
              refine Rg.goods_cons (Rg.good_move hre rfl rfl rfl) ?_
              refine Rg.goods_cons (Rg.good_move hre rfl rfl rfl) ?_
              refine Rg.goods_cons (Rg.good_index hre rfl rfl rfl rfl (fun wx hC => by go_simp)) ?_
              refine Rg.goods_cons (Rg.good_load hre rfl rfl rfl (fun wx hC => by have hcz := cell_ex HC2.out hC; go_simp)) ?_
              refine Rg.goods_cons (Rg.good_call1 Try.func16 (by kernel_rfl) rfl rfl rfl (by rintro u wx hC rfl; exact few_row s x wx hC HSl.out HSx.out)) ?_
              refine Rg.goods_cons (Rg.good_bin hre rfl rfl rfl rfl (fun _ => rfl) (fun w => by go_simp)) ?_
              exact Rg.goods_nil
            case fin =>
              intro wx hx
              simp only [Rg.later, Act.put, List.setIfInBounds_toArray, List.set_cons_succ, List.set_cons_zero]
              have HXx : Hid (Ex w5 wx) := HEx.out.trans hx
              clear hx
              go_wp2
              go_roundw
              case rel => exact ⟨q + 1, by omega, by go_num, HXx⟩
              case measure => simp [intOf]; omega
          · obtain rfl : q = L.length := by omega
            have HExQ : Hid (Ex w wr) := HX5.out.trans HEx.out
            by_cases hB0 : B.length = 0
            · have tb : ((B.length : Int) == 0) = true := beq_iff_eq.2 (by omega)
              have hbz : B.length ≤ 0 := by omega
              clear hB0
              go_wp2_with fail
              refine (known_any _).mono ?_
              rintro e w9 ⟨rfl, hx9⟩
              go_wp2
              go_ret
              exact ⟨rfl, HExQ.out.trans hx9⟩
            · have tb : ((B.length : Int) == 0) = false := beq_eq_false_iff_ne.2 (by omega)
              have hbp : 1 ≤ B.length := by omega
              by_cases ht0 : t = 0
              · have tt : ((t : Int) == 0) = true := by simp; omega
                have htz : t ≤ 0 := by omega
                clear ht0 hB0
                go_wp2_with fail
                refine (known_any _).mono ?_
                rintro e w9 ⟨rfl, hx9⟩
                go_wp2
                go_ret
                exact ⟨rfl, HExQ.out.trans hx9⟩
              · have tt : ((t : Int) == 0) = false := by simp; omega
                have htp : 1 ≤ t := by omega
                have hEN0 : 0 < EN.length := by
                  have h1 := HENl.out
                  rcases Nat.eq_zero_or_pos L.length with h0 | h0
                  · have h3 : L = [] := List.eq_nil_of_length_eq_zero h0
                    have h2 := HB.out
                    rw [h3] at h2
                    exact absurd (by rw [← h2]; rfl) hB0
                  · omega
                have ho7 := HO7c.out.later HEx.out
                have ho8 := HO8c.out.later HEx.out
                obtain ⟨g7, d7, hv7, hg7b, hg7s, hg7c, hg7m⟩ := ho7.form (by omega)
                obtain ⟨g8, d8, hv8, hg8b, hg8s, hg8c, hg8m⟩ := ho8.form hEN0
                simp only [Value.slice.injEq, true_and] at hv7 hv8
                obtain ⟨rfl, hc7⟩ := hv7
                obtain ⟨rfl, hc8⟩ := hv8
                clear hc7 hc8 hg7c hg7m hg8c hg8m d7 d8
                have HO7a : Hid (Own wr base (.slice (some ⟨g7, 0, none⟩) B.length c7a) B) := ho7
                have HO8a : Hid (OwnR 3 z64 wr base (.slice (some ⟨g8, 0, none⟩) EN.length c8a) EN) := ho8
                have HG7 : Hid (base ≤ g7) := hg7b
                clear ho7 ho8 hg7b hg7s hg8b hg8s hB0 ht0 HO7c HO8c
                go_wp2_with fail
                refine (within_any a1 ((B.length : Int) - 1) _ v1 u1 (by omega) (by omega)).mono ?_
                rintro e wq ⟨n, hn, rfl, hw⟩
                have hw' := hw.symm; clear hw; subst hw'
                have hnl : n < B.length := by omega
                have hni : (n : Int) < (B.length : Int) := by omega
                obtain ⟨y, hy⟩ : ∃ y, y = B[n].toNat := ⟨_, rfl⟩
                have hy8 : y < 256 := by rw [hy]; exact UInt8.toNat_lt _
                have hcy : wr.cell? ⟨g7, n, none⟩ = some (.int .u8 (y : Int)) := by
                  have h1 := HO7a.out.bytS
                  obtain ⟨b', off', hbo, hc⟩ := h1.2.2.2 n hnl
                  simp only [Option.some.injEq, Addr.mk.injEq, and_true] at hbo
                  obtain ⟨rfl, rfl⟩ := hbo
                  rw [Nat.zero_add] at hc
                  rw [hc, hy]
                  simp [M.bAt, hnl]
                have hfz := HO7a.out.frozen n rfl
                obtain ⟨x8, hx8⟩ : ∃ x8, x8 = y ^^^ t := ⟨_, rfl⟩
                have hxl : x8 < 256 := by rw [hx8]; exact Nat.xor_lt_two_pow (n := 8) (by omega) (by omega)
                have hxor : bits .xor .u8 (y : Int) (t : Int) = (x8 : Int) := by rw [hx8]; exact I.xor8 _ _ y t rfl rfl (by omega) (by omega)
                have hne : UInt8.ofNat x8 ≠ B[n] := by
                  intro h
                  have h1 := congrArg UInt8.toNat h
                  rw [K.ofNat_toNat, ← hy, Nat.mod_eq_of_lt hxl, hx8] at h1
                  have h2 := congrArg (y ^^^ ·) h1
                  simp only [← Nat.xor_assoc, Nat.xor_self, Nat.zero_xor] at h2
                  omega
                obtain ⟨B2, hB2⟩ : ∃ B2, B2 = B.set n (UInt8.ofNat x8) := ⟨_, rfl⟩
                have hset := HO7a.out.set (k := n) (c := UInt8.ofNat x8) (v := .int .u8 (x8 : Int)) rfl (by rw [K.ofNat_toNat, Nat.mod_eq_of_lt hxl])
                rw [← hB2] at hset
                have hB2l : B2.length = B.length := by rw [hB2]; simp
                have hLB := HB.out
                obtain ⟨j, E, hj, hj1, hj2, hE, hall⟩ := K.all_turned L HLs.out n (UInt8.ofNat x8) (by rw [hLB]; exact hnl) (by intro h; apply hne; rw [h]; simp only [hLB]) []
                rw [hLB, ← hB2, List.append_nil] at hall
                obtain ⟨R, hR⟩ : ∃ R, L.take j = R := ⟨_, rfl⟩
                obtain ⟨T, hT⟩ : ∃ T, (K.written R).length = T := ⟨_, rfl⟩
                rw [hR, hT] at hall hj1
                have HRj : Hid (R.length = j) := (by rw [← hR]; simp; omega : R.length = j)
                have HR : Hid (L.take j = R) := hR
                have HT : Hid ((K.written R).length = T) := hT
                have HAll2 : Hid (K.all B2 = (R, T, E)) := hall
                have HN2 : Hid (n < (K.written (L.take (j + 1))).length) := hj2
                have HB2l : Hid (B.length = B2.length) := hB2l.symm
                obtain ⟨w7, hw7⟩ : ∃ w7, w7 = wr.setCell ⟨g7, n, none⟩ (.int .u8 (x8 : Int)) := ⟨_, rfl⟩
                rw [← hw7] at hset
                have HW7 : Hid (wr.setCell ⟨g7, n, none⟩ (.int .u8 (x8 : Int)) = w7) := hw7.symm
                have HB72 : Hid (Byt w7 (some ⟨g7, 0, none⟩) c7a B2) := hset.1.bytS
                have HO8 : Hid (OwnR 3 z64 w7 base (.slice (some ⟨g8, 0, none⟩) EN.length c8a) EN) := OwnR.far (u := .slice (some ⟨g7, 0, none⟩) B.length c7a) HO8a.out hset.2 HAs0.out
                have HX7 : Hid (Ex w w7) := (by
                  have h1 : Below base w wr := by rw [HBa.out]; exact HExQ.out
                  have h2 := Below.setCell h1 (p := ⟨g7, n, none⟩) HG7.out (.int .u8 (x8 : Int))
                  rw [← hw7, HBa.out] at h2
                  exact h2 : Ex w w7)
                have hTn : T ≤ n := hj1
                have hjL : j < L.length := hj
                have hEne : E ≠ 0 := hE
                have hR2 : R.length ≤ L.length := by rw [← hR]; simp; omega
                have hE14 : E ≤ 14 := all_err HAll2.out
                clear hset hw7 hall hR hT hj hj2 hE hB2 hB2l hLB hne hy hx8 hj1 HO7a HO8a
                go_wp2_with fail
                rw [HW7.out]
                go_loop [17] (fun i => ∃ q : Nat, q ≤ j ∧ i = .int .i64 q) (fun i => j - (intOf i).toNat)
                case atStart => exact ⟨0, by omega, rfl⟩
                case round =>
                  obtain ⟨q, hq, rfl⟩ := hrel
                  have hqE : q < EN.length := by have := HENl.out; omega
                  have hqi0 : (q : Int) < (EN.length : Int) := by omega
                  have tqE : decide ((q : Int) < (EN.length : Int)) = true := by simp; omega
                  obtain ⟨y, hy⟩ : ∃ y : Nat, y = (K.written (L.take (q + 1))).length := ⟨_, rfl⟩
                  have hceq : w7.cell? ⟨g8, q, none⟩ = some (.int .i64 (y : Int)) := by
                    rw [OwnR.cell HO8.out rfl (k := q) hqE]
                    have h3 := HENat.out q (by omega)
                    rw [List.getElem?_eq_getElem hqE] at h3
                    simp only [Option.some.injEq] at h3
                    rw [h3, hy]
                  have hyl : y ≤ 2120 := by rw [hy]; have := written_take_le L (q + 1); rw [HB.out] at this; omega
                  by_cases hlt : q < j
                  · have hyn : y ≤ n := by
                      have h1 : (K.written (L.take (q + 1))).length ≤ (K.written (L.take j)).length := by
                        have := written_take_le (L.take j) (q + 1)
                        rw [List.take_take, show min (q + 1) j = q + 1 from by omega] at this
                        exact this
                      rw [← hy, HR.out, HT.out] at h1
                      omega
                    have ty : decide ((y : Int) ≤ (n : Int)) = true := by simp; omega
                    clear hy
                    go_wp2
                    go_round
                    case rel => exact ⟨q + 1, by omega, by go_num⟩
                    case measure => simp [intOf]; omega
                  · have hyn : n < y := by
                      have h1 : q = j := by omega
                      rw [hy, h1]; exact HN2.out
                    have ty : decide ((y : Int) ≤ (n : Int)) = false := by simp; omega
                    clear hy
                    obtain rfl : q = j := by omega
                    go_wp2_with fail
                    refine (all_is (some ⟨g7, 0, none⟩) _ c7a B2 _ HB2l.out HB72.out (by have := HB2l.out; omega) R T E HAll2.out).mono ?_
                    rintro e w8 ⟨v18, rfl, ⟨a18, c7, rfl, hb18⟩, hx8⟩
                    have HX8 : Hid (Ex w w8) := HX7.out.trans hx8
                    have HO88 : Hid (OwnR 3 z64 w8 base (.slice (some ⟨g8, 0, none⟩) EN.length c8a) EN) := HO8.out.later hx8
                    have HB18 : Hid (RdB w8 a18 c7 R) := hb18
                    have h18 := hb18.bounds
                    have h18a := h18.1
                    have h18b := h18.2
                    unfold maxLen at h18b
                    have tE : ((E : Int) == 0) = false := by simp; omega
                    have hrj1 : R.length ≤ q := by have := HRj.out; omega
                    have hrj2 : q ≤ R.length := by have := HRj.out; omega
                    have tR : ((R.length : Int) != (q : Int)) = false := by simp; omega
                    clear hb18 h18 hx8
                    by_cases hq0 : q = 0
                    · have hT0 : T = 0 := by rw [← HT.out]; have h1 : R = [] := List.eq_nil_of_length_eq_zero (by rw [HRj.out]; exact hq0); rw [h1]; rfl
                      subst hT0
                      have tq0 : decide (0 < (q : Int)) = false := by simp; omega
                      have tq1 : ((q : Int) == 0) = true := by simp; omega
                      have hqz : q ≤ 0 := by omega
                      clear hq0
                      go_wp2_with fail
                      go_loopw [21] (fun i wr => ∃ q : Nat, q ≤ R.length ∧ i = .int .i64 q ∧ Hid (Ex w8 wr)) (fun i _ => R.length - (intOf i).toNat)
                      case atStart => exact ⟨0, by omega, rfl, Ex.refl _⟩
                      case round =>
                        obtain ⟨q, hq, rfl, HEx⟩ := hrel
                        by_cases hlt : q < R.length
                        · exfalso; omega
                        · obtain rfl : q = R.length := by omega
                          have HExF : Hid (Ex w wr) := HX8.out.trans HEx.out
                          go_wp2_with fail
                          refine (known_any _).mono ?_
                          rintro e w9 ⟨rfl, hx9⟩
                          go_wp2
                          go_ret
                          exact ⟨rfl, HExF.out.trans hx9⟩
                    · have tq0 : decide (0 < (q : Int)) = true := by simp; omega
                      have tq1 : ((q : Int) == 0) = false := by simp; omega
                      obtain ⟨q2, hq2⟩ : ∃ q2, q = q2 + 1 := ⟨q - 1, by omega⟩
                      have hqi : (q : Int) - 1 = (q2 : Int) := by omega
                      have hqi2 : (q2 : Int) < (EN.length : Int) := by have := HENl.out; omega
                      have hce : w8.cell? ⟨g8, q2, none⟩ = some (.int .i64 ((T : Nat) : Int)) := by
                        have h1 := OwnR.cell HO88.out rfl (k := q2) (by have := HENl.out; omega)
                        rw [h1]
                        have h3 := HENat.out q2 (by omega)
                        rw [List.getElem?_eq_getElem (by have := HENl.out; omega)] at h3
                        simp only [Option.some.injEq] at h3
                        rw [h3, ← hq2, HR.out, HT.out]
                      have hqp : 1 ≤ q := by omega
                      clear hq2 hq0
                      go_wp2_with fail
                      go_loopw [21] (fun i wr => ∃ q : Nat, q ≤ R.length ∧ i = .int .i64 q ∧ Hid (Ex w8 wr)) (fun i _ => R.length - (intOf i).toNat)
                      case atStart => exact ⟨0, by omega, rfl, Ex.refl _⟩
                      case round =>
                        obtain ⟨q, hq, rfl, HEx⟩ := hrel
                        by_cases hlt : q < R.length
                        · have tq : decide ((q : Int) < (R.length : Int)) = true := by simp; omega
                          obtain ⟨b1, o1, q1, d1, rfl, hce1, hbx1⟩ := (HB18.out.below HEx.out).at hlt
                          obtain ⟨b2, o2, rfl, hce2⟩ := ((H0.out.below HX8.out).below HEx.out).at (k := q) (by omega)
                          obtain ⟨x, hx⟩ : ∃ x, x = R[q] := ⟨_, rfl⟩
                          obtain ⟨s, hs⟩ : ∃ s, s = l0[q]'(by omega) := ⟨_, rfl⟩
                          have hsx : s.take 200 = x := by
                            rw [hx, hs]
                            have h1 : R[q]? = L[q]? := by rw [← HR.out, List.getElem?_take, if_pos (by have := HRj.out; omega)]
                            have h2 := h1.trans (cut_at HL.out (show q < 10 by omega) (show q < l0.length by omega))
                            rw [List.getElem?_eq_getElem hlt] at h2
                            simp only [Option.some.injEq] at h2
                            exact h2.symm
                          rw [← hx] at hce1 hbx1
                          rw [← hs] at hce2
                          have hsl : s.length ≤ maxLen := by rw [hs]; exact HS.out _ (List.getElem_mem _)
                          have HC1 : Hid (wr.cell? ⟨b1, o1 + q, none⟩ = some (.slice q1 x.length d1)) := hce1
                          have HC2 : Hid (wr.cell? ⟨b2, o2 + q, none⟩ = some (.string (str s))) := hce2
                          have HXb : Hid (Byt wr q1 d1 x) := hbx1
                          have HSl : Hid (s.length ≤ maxLen) := hsl
                          have HSx : Hid (s.take 200 = x) := hsx
                          have hk1 : (q : Int) < (R.length : Int) := by omega
                          have hk2 : (q : Int) < (l0.length : Int) := by omega
                          clear hce1 hce2 hbx1 hx hs hsl hsx
                          go_wp2_with fail
                          have hre := Ex.refl
                          refine Rg.wp_rows [.inl (Value.slice (some { block := b1, off := o1 }) R.length c7), .inl (Value.int IntKind.i64 ↑q), .inl (Value.pointer (some ⟨b1, o1 + q, none⟩)), .inl (Value.slice q1 x.length d1), .inl (Value.string (str x)), .inl (Value.slice (some { block := b2, off := o2 }) l0.length c0), .inl (Value.int IntKind.i64 ↑q), .inl (Value.pointer (some ⟨b2, o2 + q, none⟩)), .inl (Value.string (str s)), .inl (Value.string (str x)), .inl (.bool false)] (Ex wr) Ex 178 (by kernel_rfl) rfl (by kernel_rfl) ?st hre (Ex.drew _) ?goods ?fin
                          case st => exact trivial
                          case goods =>
                            refine Rg.goods_cons (Rg.good_move hre rfl rfl rfl) ?_
                            refine Rg.goods_cons (Rg.good_move hre rfl rfl rfl) ?_
                            refine Rg.goods_cons (Rg.good_index hre rfl rfl rfl rfl (fun wx hC => by go_simp)) ?_
                            refine Rg.goods_cons (Rg.good_load hre rfl rfl rfl (fun wx hC => by have hcz := cell_ex HC1.out hC; go_simp)) ?_
                            refine Rg.goods_cons (Rg.good_conv hre rfl rfl (by rintro u wx hC rfl; exact conv_row ⟨q1, d1, rfl, HXb.out.below hC⟩)) ?_
                            refine Rg.goods_cons (Rg.good_move hre rfl rfl rfl) ?_
                            refine Rg.goods_cons (Rg.good_move hre rfl rfl rfl) ?_
                            refine Rg.goods_cons (Rg.good_index hre rfl rfl rfl rfl (fun wx hC => by go_simp)) ?_
                            refine Rg.goods_cons (Rg.good_load hre rfl rfl rfl (fun wx hC => by have hcz := cell_ex HC2.out hC; go_simp)) ?_
                            refine Rg.goods_cons (Rg.good_call1 Try.func16 (by kernel_rfl) rfl rfl rfl (by rintro u wx hC rfl; exact few_row s x wx hC HSl.out HSx.out)) ?_
                            refine Rg.goods_cons (Rg.good_bin hre rfl rfl rfl rfl (fun _ => rfl) (fun w => by go_simp)) ?_
                            exact Rg.goods_nil
                          case fin =>
                            intro wx hx
                            simp only [Rg.later, Act.put, List.setIfInBounds_toArray, List.set_cons_succ, List.set_cons_zero]
                            have HXx : Hid (Ex w8 wx) := HEx.out.trans hx
                            clear hx
                            go_wp2
                            go_roundw
                            case rel => exact ⟨q + 1, by omega, by go_num, HXx⟩
                            case measure => simp [intOf]; omega
                        · obtain rfl : q = R.length := by omega
                          have HExF : Hid (Ex w wr) := HX8.out.trans HEx.out
                          go_wp2_with fail
                          refine (known_any _).mono ?_
                          rintro e w9 ⟨rfl, hx9⟩
                          go_wp2
                          go_ret
                          exact ⟨rfl, HExF.out.trans hx9⟩
end Go.Proofs.Ythibeoohhcmejaa.blockBack
