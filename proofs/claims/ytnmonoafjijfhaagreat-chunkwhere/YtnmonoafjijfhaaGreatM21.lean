/-
  The contract of the document's own Encode (layer 5) over the program: what it writes.
-/
import Derived.Test.YtnmonoafjijfhaaGreatM20
namespace Go.Proofs.YtnmonoafjijfhaaGreat
open Go.RowKit
set_option linter.unusedVariables false

theorem put_row {f : FuncId} {args : Array Value} {wx w1 : World} {base : Nat} {r : List UInt8} (h : Calls Tryz.prog f args wx fun e w' => ∃ v', e = .returned v' ∧ Own w' wx.heap.size v' r ∧ Below wx.heap.size wx w') (hb : base ≤ w1.heap.size) (hC : Ex w1 wx) :
    Calls Tryz.prog f args wx (fun e w' => ∃ u, e = .returned u ∧ Rg.Spec.ok (.inr (fun v wx => Own wx base v r)) u w' ∧ Ex wx w' ∧ Ex w1 w') :=
  h.mono fun e w' ⟨v, h1, h2, h3⟩ => ⟨v, h1, h2.mono (Nat.le_trans hb hC.size), h3, hC.trans h3⟩
theorem few_row {f : FuncId} {args : Array Value} {wx w1 : World} {r : List UInt8} (h : Calls Tryz.prog f args wx fun e w' => ∃ v', e = .returned v' ∧ Own w' wx.heap.size v' r ∧ Ex wx w') (hC : Ex w1 wx) :
    Calls Tryz.prog f args wx (fun e w' => ∃ u, e = .returned u ∧ Rg.Spec.ok (.inr (IsByt r)) u w' ∧ Ex wx w' ∧ Ex w1 w') :=
  h.mono fun e w' ⟨v, h1, h2, h3⟩ => ⟨v, h1, h2.isByt, h3, hC.trans h3⟩
theorem cell_ex {w1 wx : World} {p : Addr} {v : Value} (h : w1.cell? p = some v) (hC : Ex w1 wx) : wx.cell? p = some v := by
  rw [Below.cell hC (World.block_lt_of_cell? w1 _ h)]; exact h
theorem drop_head {l : List Nat} {p : Nat} (h : p < l.length) : (l.drop p).headD 0 = l[p] := by
  rw [List.drop_eq_getElem_cons h]; rfl

set_option maxRecDepth 100000 in
set_option maxHeartbeats 1000000 in
theorem renc_main (a : Option Addr) (cap : Nat) (l : List Nat) (D : Nat) (w : World) (hB : Rd n64 w a cap l) (h64 : ∀ x ∈ l, x < 18446744073709551616) (hl : l.length ≤ 2000000) (hD : D ≤ 32) (hw : B.width l ≤ D) :
    Calls Tryz.prog 38 #[.slice a l.length cap, .int .i64 D] w fun e w' => ∃ v, e = .returned (.tuple #[v, .int .i64 0]) ∧ Own w' w.heap.size v (R.enc D l) ∧ Ex w w' := by
  obtain ⟨base, hbase⟩ : ∃ base, base = w.heap.size := ⟨_, rfl⟩
  have HBa : Hid (base = w.heap.size) := hbase
  have hel := enc_len hD l.length l (Nat.le_refl _)
  have HB : Hid (Rd n64 w a cap l) := hB
  have H64 : Hid (∀ x ∈ l, x < 18446744073709551616) := h64
  have hcl := hB.1
  have hcm := hB.2.1
  unfold maxLen at hcm
  have t1 : decide ((D : Int) < 0) = false := by simp
  have t2 : decide (32 < (D : Int)) = false := by simp; omega
  have t3 : decide ((D : Int) < (B.width l : Int)) = false := by simp; omega
  have t4 : decide (D < B.width l) = false := by simp; omega
  have hown0 : Hid (Own w base (.slice none 0 0) []) := own_none w base
  have hbel0 : Hid (Below base w w) := Below.refl _ _
  clear hB h64 hbase
  go_enter Tryz.func38, Tryz.ntmps38
  go_wp2_with fail
  refine (rwidth_any a cap l _ HB.out H64.out).mono ?_
  rintro e wq ⟨rfl, hw'⟩
  have hw'' := hw'.symm
  clear hw'
  subst hw''
  go_wp2
  go_loopw [6, 7] (fun v i wr => ∃ (p : Nat) (pre : List UInt8), p ≤ l.length ∧ i = .int .i64 p ∧ Hid (pre ++ R.enc D (l.drop p) = R.enc D l) ∧ Hid (Own wr base v pre) ∧ Hid (Below base w wr)) (fun _ i _ => l.length - (intOf i).toNat)
  case atStart => exact ⟨0, [], by omega, rfl, (by simp : [] ++ R.enc D (l.drop 0) = R.enc D l), hown0, hbel0⟩
  case round =>
    obtain ⟨p, pre, hp, rfl, HE, HO, HBl⟩ := hrel
    clear hown0 hbel0
    have hpre : pre.length ≤ 50 * l.length := by have := congrArg List.length HE.out; simp at this; omega
    have hsz : base ≤ wr.heap.size := by rw [HBa.out]; exact HBl.out.size
    obtain ⟨a6, c6, rfl, hb6⟩ := HO.out.byt
    by_cases hlt : p < l.length
    · have hrd : Rd n64 wr a cap l := HB.out.below (by have := HBl.out; rw [HBa.out] at this; exact this)
      obtain ⟨b1, o1, rfl, hc⟩ := hrd.at hlt
      have hx64 := H64.out l[p] (List.getElem_mem hlt)
      have hdh := drop_head hlt
      obtain ⟨x, hx⟩ : ∃ x, x = l[p] := ⟨_, rfl⟩
      rw [← hx] at hc hx64 hdh
      obtain ⟨n, hn⟩ : ∃ n, R.runLen (l.drop p) = n := ⟨_, rfl⟩
      have hnl : n ≤ l.length - p := by have := R.runLen_le (l.drop p); simp at this; omega
      have hdne : l.drop p ≠ [] := by intro e; have := congrArg List.length e; simp at this; omega
      have hee := R.enc_eq D hdne
      rw [hn, hdh] at hee
      have HRd : Hid (Rd n64 wr (some ⟨b1, o1, none⟩) cap l) := hrd
      have HN : Hid (R.runLen (l.drop p) = n) := hn
      have HB6 : Hid (Byt wr a6 c6 pre) := hb6
      have HCX0 : Hid (wr.cell? ⟨b1, o1 + p, none⟩ = some (.int .u64 (x : Int))) := hc
      have hpi : (p : Int) < (l.length : Int) := by omega
      clear hrd hc hx hn hb6 hdne
      go_wp2_with fail
      refine (rsame_is _ _ cap l _ p _ rfl rfl hlt HRd.out n HN.out).mono ?_
      rintro e w1 ⟨rfl, hx1⟩
      have HX1 : Hid (Ex wr w1) := hx1
      have hb16 : Byt w1 a6 c6 pre := HB6.out.below hx1
      have hcx1 : w1.cell? ⟨b1, o1 + p, none⟩ = some (.int .u64 (x : Int)) := cell_ex HCX0.out hx1
      have HB6 : Hid (Byt w1 a6 c6 pre) := hb16
      have HCX : Hid (w1.cell? ⟨b1, o1 + p, none⟩ = some (.int .u64 (x : Int))) := hcx1
      have hbw : base ≤ w1.heap.size := Nat.le_trans hsz hx1.size
      have HBw : Hid (base ≤ w1.heap.size) := hbw
      clear hx1 hb16 hcx1 HCX0
      by_cases h8 : 8 ≤ n
      · have hd8 : decide (8 ≤ (n : Int)) = true := by simp; omega
        rw [if_pos h8] at hee
        obtain ⟨N2, hN2⟩ : ∃ N2, N2 = 2 * n := ⟨_, rfl⟩
        rw [← hN2] at hee
        have HN2 : Hid (N2 = 2 * n) := hN2
        have hN2b : N2 ≤ 4000000 := by omega
        have hpn : p + n ≤ l.length := by omega
        have HE2 : Hid ((pre ++ M.digs N2) ++ R.few D x ++ R.enc D (l.drop (p + n)) = R.enc D l) := (by
          rw [← HE.out, hee, List.drop_drop]; simp : (pre ++ M.digs N2) ++ R.few D x ++ R.enc D (l.drop (p + n)) = R.enc D l)
        have hdl := M.digs_len N2
        have hfl := R.few_len D x
        clear hN2 hee
        go_wp2_with fail
        have hre := Ex.refl
        refine Rg.wp_rows_tail (List.take 11 _) (List.drop 11 _) (List.take_append_drop 11 _).symm [.inl (Value.slice a6 pre.length c6), .inl (Value.int IntKind.i64 ↑n), .inl (Value.int IntKind.u64 ↑n), .inl (Value.int IntKind.u64 ↑N2), .inr (fun v wx => Own wx base v (pre ++ M.digs N2)), .inl (Value.slice (some { block := b1, off := o1 }) l.length cap), .inl (Value.int IntKind.i64 ↑p), .inl (Value.pointer (some ⟨b1, o1 + p, none⟩)), .inl (Value.int IntKind.u64 ↑x), .inl (Value.int IntKind.i64 ↑D), .inr (IsByt (R.few D x))] (Ex w1) Ex 104 (by kernel_rfl) rfl (by kernel_rfl) (by kernel_rfl) (by kernel_rfl) (by decide) (by kernel_rfl) ?st hre (Ex.drew _) ?goods ?fin
        case st => exact ⟨fun v w w' h hx => h.later hx, IsByt.stands _, trivial⟩
        case goods =>
          refine Rg.goods_cons (Rg.good_move hre rfl rfl rfl) ?_
          refine Rg.goods_cons (Rg.good_move hre rfl rfl rfl) ?_
          refine Rg.goods_cons (Rg.good_conv hre rfl rfl (by rintro u wx _ rfl; go_simp; exact I.wraps64 _ (by omega) (by omega))) ?_
          refine Rg.goods_cons (Rg.good_bin hre rfl rfl rfl rfl (fun _ => rfl) (fun w => by go_simp; rw [I.wraps64 _ (by omega) (by omega)]; have := HN2.out; omega)) ?_
          refine Rg.goods_cons (Rg.good_call2 Tryz.func39 (by kernel_rfl) rfl rfl rfl (by rintro u u2 wx hC rfl rfl; exact put_row (rput_is a6 _ c6 pre _ _ N2 wx rfl rfl (HB6.out.below hC) rfl (by omega) (by omega)) HBw.out hC)) ?_
          refine Rg.goods_cons (Rg.good_move hre rfl rfl rfl) ?_
          refine Rg.goods_cons (Rg.good_move hre rfl rfl rfl) ?_
          refine Rg.goods_cons (Rg.good_index hre rfl rfl rfl rfl (fun wx hC => by go_simp)) ?_
          refine Rg.goods_cons (Rg.good_load hre rfl rfl rfl (fun wx hC => by have hcz := cell_ex HCX.out hC; go_simp)) ?_
          refine Rg.goods_cons (Rg.good_move hre rfl rfl rfl) ?_
          refine Rg.goods_cons (Rg.good_call2 Tryz.func77 (by kernel_rfl) rfl rfl rfl (by rintro u u2 wx hC rfl rfl; exact few_row (rfew_is _ _ x D wx rfl rfl hx64 (by omega) _ rfl) hC)) ?_
          exact Rg.goods_nil
        case fin =>
          intro wx hx
          simp only [Rg.later, List.take_succ_cons, List.take_zero, List.drop_succ_cons, List.drop_zero, Act.put, List.setIfInBounds_toArray, List.set_cons_succ, List.set_cons_zero]
          intro v39 h39 v45 h45
          obtain ⟨p45, c45, rfl, hb45⟩ := h45
          refine wpList_append_byt rfl (.tmp 39) (.tmp 45) rfl base _ (pre ++ M.digs N2) rfl h39 p45 _ c45 (R.few D x) rfl rfl hb45 (by simp; omega) (Nat.le_trans HBw.out hx.size) ?_
          intro v' w3 ho3 hg3
          have hbx : Below base w wx := HBl.out.trans ((HX1.out.trans hx).mono hsz)
          have HB3 : Hid (Below base w w3) := step_below0 hbx (Nat.le_trans HBw.out hx.size) h39 hg3
          have HO3 : Hid (Own w3 base v' (pre ++ M.digs N2 ++ R.few D x)) := ho3
          clear ho3 hg3 hbx h39 hb45 hx
          go_wp2
          go_roundw
          case rel => exact ⟨p + n, _, hpn, by go_num, HE2, HO3, HB3⟩
          case measure => simp [intOf]; omega
      · have hd8 : decide (8 ≤ (n : Int)) = false := by simp; omega
        rw [if_neg h8] at hee
        obtain ⟨G, hG⟩ : ∃ G, G = R.groups (l.drop p) := ⟨_, rfl⟩
        have hGl : 8 * G ≤ l.length - p + 7 := by have := R.groups_le (l.drop p); rw [← hG] at this; simp at this; omega
        have hG1 : 1 ≤ G := by rw [hG]; exact R.groups_pos (by intro e; have := congrArg List.length e; simp at this; omega)
        have hGd : G = 1 + R.more (l.drop (p + 8)) := by
          rw [hG]; unfold R.groups
          rw [if_neg (by intro e; have := congrArg List.length e; simp at this; omega), List.drop_drop]
        rw [← hG] at hee
        have HEE : Hid (R.enc D (l.drop p) = M.digs (2 * G + 1) ++ (B.pack D (R.pad (8 * G) ((l.drop p).take (8 * G))) ++ R.enc D ((l.drop p).drop (8 * G)))) := hee
        have HGd : Hid (G = 1 + R.more (l.drop (p + 8))) := hGd
        have HRd1 : Hid (Rd n64 w1 (some ⟨b1, o1, none⟩) cap l) := HRd.out.below HX1.out
        clear hG hGd hee HRd HN
        go_wp2
        go_loopw [7, 10] (fun i g wr => ∃ gg q : Nat, gg ≤ G ∧ i = .int .i64 q ∧ g = .int .i64 gg ∧ q ≤ l.length + 7 ∧ Hid (q = p + 8 * gg) ∧ Hid (0 < gg → gg + R.more (l.drop q) = G) ∧ Hid (Ex w1 wr)) (fun i _ _ => l.length + 16 - (intOf i).toNat)
        case atStart => exact ⟨0, p, by omega, rfl, rfl, by omega, (by omega : p = p + 8 * 0), (fun h => by omega : 0 < 0 → 0 + R.more (l.drop p) = G), Ex.refl w1⟩
        case round =>
          obtain ⟨gg, q, hgg, rfl, rfl, hq7, HQ, HMo, HXg⟩ := hrel
          by_cases hql : q < l.length
          · have tq : decide ((q : Int) < (l.length : Int)) = true := by simp; omega
            have tq2 : decide (q < l.length) = true := by simp; omega
            by_cases hg0 : gg = 0
            · subst hg0
              have hqp : q = p := by have := HQ.out; omega
              have HQ2 : Hid (q + 8 = p + 8 * 1) := (by omega : q + 8 = p + 8 * 1)
              have HM2 : Hid (0 < 1 → 1 + R.more (l.drop (q + 8)) = G) := (fun _ => by rw [hqp]; exact HGd.out.symm : 0 < 1 → 1 + R.more (l.drop (q + 8)) = G)
              clear hqp
              go_wp2
              go_roundw
              case rel => exact ⟨1, q + 8, by omega, by go_num, by go_num, by omega, HQ2, HM2, HXg⟩
              case measure => simp [intOf]; omega
            · have tg : ((gg : Int) == 0) = false := by simp; omega
              have tg2 : decide (gg = 0) = false := by simp; omega
              have hmq := HMo.out (by omega)
              have hme := R.more_eq (l.drop q)
              obtain ⟨n2, hn2⟩ : ∃ n2, R.runLen (l.drop q) = n2 := ⟨_, rfl⟩
              rw [hn2, List.drop_drop] at hme
              have hqne : l.drop q ≠ [] := by intro e; have := congrArg List.length e; simp at this; omega
              have HN2 : Hid (R.runLen (l.drop q) = n2) := hn2
              have HRdq : Hid (Rd n64 wr (some ⟨b1, o1, none⟩) cap l) := HRd1.out.below HXg.out
              by_cases hn8 : n2 < 8
              · have tn : decide ((n2 : Int) < 8) = true := by simp; omega
                have HM2 : Hid (0 < gg + 1 → gg + 1 + R.more (l.drop (q + 8)) = G) := (fun _ => by rw [if_neg (by rintro (h | h); exact hqne h; omega)] at hme; omega : 0 < gg + 1 → gg + 1 + R.more (l.drop (q + 8)) = G)
                have hgG : gg + 1 ≤ G := by have := HM2.out (by omega); omega
                have HQ2 : Hid (q + 8 = p + 8 * (gg + 1)) := (by have := HQ.out; omega : q + 8 = p + 8 * (gg + 1))
                clear hn2 hme hmq hqne
                go_wp2_with fail
                refine (rsame_is _ _ cap l _ q _ rfl rfl hql HRdq.out n2 HN2.out).mono ?_
                rintro e w2 ⟨rfl, hx2⟩
                have HX2 : Hid (Ex w1 w2) := HXg.out.trans hx2
                clear hx2
                go_wp2
                go_roundw
                case rel => exact ⟨gg + 1, q + 8, hgG, by go_num, by go_num, by omega, HQ2, HM2, HX2⟩
                case measure => simp [intOf]; omega
              · have tn : decide ((n2 : Int) < 8) = false := by simp; omega
                have hgG : gg = G := by rw [if_pos (.inr (by omega))] at hme; omega
                subst hgG
                have tl : decide ((l.length : Int) < (q : Int)) = false := by simp; omega
                have HQF : Hid (q = min (p + 8 * gg) l.length) := (by have := HQ.out; omega : q = min (p + 8 * gg) l.length)
                clear hn2 hme hmq hqne HMo
                go_wp2_with fail
                refine (rsame_is _ _ cap l _ q _ rfl rfl hql HRdq.out n2 HN2.out).mono ?_
                rintro e w2 ⟨rfl, hx2⟩
                have HX2 : Hid (Ex w1 w2) := HXg.out.trans hx2
                clear hx2
                have hbW : base ≤ w2.heap.size := Nat.le_trans HBw.out HX2.out.size
                have hYR0 : Rd n64 w2 (some ⟨b1, o1 + p, none⟩) (cap - p) ((l.drop p).take (q - p)) := by
                  have h := (HRd1.out.below HX2.out).sub p (q - p) (by have := HQF.out; omega)
                  rw [Option.map_some, add_none] at h; exact h
                obtain ⟨Y, hY⟩ : ∃ Y, Y = (l.drop p).take (8 * gg) := ⟨_, rfl⟩
                have hYe : (l.drop p).take (q - p) = Y := by rw [hY, List.take_eq_take_iff]; have := HQF.out; simp only [List.length_drop]; omega
                have hYl : q - p = Y.length := by rw [← hYe]; simp only [List.length_take, List.length_drop]; have := HQF.out; omega
                have hYm : ∀ x ∈ Y, x ∈ l := fun x hx => List.mem_of_mem_drop (List.mem_of_mem_take (by rw [hY] at hx; exact hx))
                rw [hYe] at hYR0
                have hbx0 : Ex w2 (w2.alloc (.cells #[] 69)) := (Below.refl _ _).alloc (Nat.le_refl _) _
                obtain ⟨bw, hbw⟩ : ∃ bw, bw = w2.heap.size := ⟨_, rfl⟩
                have HYR : Hid (Rd n64 (w2.alloc (.cells #[] 69)) (some ⟨b1, o1 + p, none⟩) (cap - p) Y) := hYR0.below hbx0
                have HOE : Hid (OwnR 69 n64 (w2.alloc (.cells #[] 69)) bw (.slice (some ⟨w2.heap.size, 0, none⟩) 0 0) []) := OwnR.empty w2 bw (by omega)
                have HBx0 : Hid (Below bw w2 (w2.alloc (.cells #[] 69))) := (by rw [hbw]; exact hbx0 : Below bw w2 (w2.alloc (.cells #[] 69)))
                have HBW2 : Hid (bw = w2.heap.size) := hbw
                have HYL : Hid (q - p = Y.length) := hYl
                have HYM : Hid (∀ x ∈ Y, x ∈ l) := hYm
                have HE3 : Hid ((pre ++ M.digs (2 * gg + 1)) ++ B.pack D (R.pad (8 * gg) Y) ++ R.enc D (l.drop q) = R.enc D l) := (by
                  rw [← HE.out, HEE.out, ← hY, List.drop_drop]
                  have hdd : l.drop (p + 8 * gg) = l.drop q := by
                    have := HQF.out
                    by_cases hc : p + 8 * gg ≤ l.length
                    · rw [show q = p + 8 * gg by omega]
                    · exact (List.drop_of_length_le (by omega)).trans (List.drop_of_length_le (by omega)).symm
                  rw [hdd]; simp : (pre ++ M.digs (2 * gg + 1)) ++ B.pack D (R.pad (8 * gg) Y) ++ R.enc D (l.drop q) = R.enc D l)
                have hQ1 : p < q := by have := HQF.out; omega
                have hQ2 : q ≤ l.length := by have := HQF.out; omega
                have hYlen : Y.length ≤ 8 * gg := by have := HYL.out; have := HQF.out; omega
                have hQY : q ≤ p + Y.length := by have := HYL.out; omega
                have hQY2 : p + Y.length ≤ q := by have := HYL.out; omega
                clear hYR0 hY hYe hYl hYm hbx0 hbw
                go_wp2_with (at_builtin; refine wpList_append_rd (enc := n64) (e := 69) rfl (.tmp 75) (.tmp 79) 77 rfl 0 8 Tryz.underlying77 Tryz.info69 rfl (fun _ => rfl) bw _ [] rfl HOE.out _ _ _ Y rfl ?z1 HYR.out ?z2 ?z3 ?z4 ?_)
                case z1 => exact HYL.out
                case z2 => simp [maxLen]; omega
                case z3 => simp; omega
                case z4 => have := HBW2.out; simp; omega
                intro v3 w3 ho3 hg3
                have HB3 : Hid (Below bw w2 w3) := step_belowR HBx0.out (by have := HBW2.out; simp; omega) HOE.out hg3
                have HO3 : Hid (OwnR 69 n64 w3 bw v3 (Y ++ List.replicate 0 0)) := (by simpa using ho3 : OwnR 69 n64 w3 bw v3 (Y ++ List.replicate 0 0))
                clear ho3 hg3 HOE HBx0 HYR
                go_wp2
                go_loopw [11] (fun v wr => ∃ j : Nat, Y.length + j ≤ 8 * gg ∧ Hid (OwnR 69 n64 wr bw v (Y ++ List.replicate j 0)) ∧ Hid (Below bw w2 wr)) (fun v _ => 8 * gg - (match v with | .slice _ n _ => n | _ => 0))
                case atStart => exact ⟨0, by omega, HO3, HB3⟩
                case round =>
                  obtain ⟨j, hj, HOj, HBj⟩ := hrel
                  clear HO3 HB3
                  have hlx : (Y ++ List.replicate j 0).length = Y.length + j := by simp
                  obtain ⟨m, hm⟩ : ∃ m, m = (Y ++ List.replicate j 0).length := ⟨_, rfl⟩
                  obtain ⟨ax, cx, hv, hrx⟩ := HOj.out.rd
                  rw [← hm] at hv hlx
                  subst hv
                  have hl1 : m ≤ Y.length + j := by omega
                  have hl2 : Y.length + j ≤ m := by omega
                  clear hlx
                  have HRx : Hid (Rd n64 wr ax cx (Y ++ List.replicate j 0)) := hrx
                  have HM : Hid (m = (Y ++ List.replicate j 0).length) := hm
                  have hbs : bw ≤ wr.heap.size := by rw [HBW2.out]; have := HBj.out.size; exact this
                  clear hrx hm
                  by_cases hjl : m < 8 * gg
                  · have tj : decide ((m : Int) < 8 * (gg : Int)) = true := by simp; omega
                    have HRL : Hid (Rd n64 (wr.alloc (.cells #[.int .u64 0] 69)) (some ⟨wr.heap.size, 0, none⟩) 1 [0]) := Rd.laid (enc := n64) wr 69 [0] (by simp)
                    go_wp2_with (at_builtin; refine wpList_append_rd (enc := n64) (e := 69) rfl (.tmp 86) (.tmp 87) 77 rfl 0 8 Tryz.underlying77 Tryz.info69 rfl (fun _ => rfl) bw _ _ rfl (HOj.out.alloc _) _ _ _ [0] rfl rfl HRL.out ?y2 ?y3 ?y4 ?_)
                    case y2 => simp [maxLen]; omega
                    case y3 => simp; omega
                    case y4 => simp; omega
                    intro v4 w4 ho4 hg4
                    have HB4 : Hid (Below bw w2 w4) := step_belowR (HBj.out.alloc hbs _) (by simp; omega) (HOj.out.alloc _) hg4
                    have HO4 : Hid (OwnR 69 n64 w4 bw v4 (Y ++ List.replicate (j + 1) 0)) := (by
                      rw [← List.replicate_succ'] at ho4; exact ho4 : OwnR 69 n64 w4 bw v4 (Y ++ List.replicate (j + 1) 0))
                    obtain ⟨a4, c4, rfl, _⟩ := HO4.out.rd
                    clear ho4 hg4
                    go_wp2
                    go_roundw
                    case rel => exact ⟨j + 1, by omega, HO4, HB4⟩
                    case measure => simp; omega
                  · have tj : decide ((m : Int) < 8 * (gg : Int)) = false := by simp; omega
                    have hX : Y ++ List.replicate j 0 = R.pad (8 * gg) Y := by unfold R.pad; rw [show j = 8 * gg - Y.length by omega]
                    obtain ⟨X, hXd⟩ : ∃ X, X = R.pad (8 * gg) Y := ⟨_, rfl⟩
                    rw [hX, ← hXd] at HRx HM
                    rw [← hXd] at HE3
                    have hXm : ∀ x ∈ X, x ∈ l ∨ x = 0 := fun x hx => by
                      rw [hXd] at hx
                      rcases R.pad_mem hx with h | h
                      · exact .inl (HYM.out x h)
                      · exact .inr h
                    have hX64 : ∀ x ∈ X, x < 18446744073709551616 := fun x hx => by
                      rcases hXm x hx with h | h
                      · exact H64.out x h
                      · omega
                    have hXw : B.width X ≤ D := (B.width_le D X).2 fun x hx => by
                      rcases hXm x hx with h | h
                      · exact B.fits hw x h
                      · rw [h]; exact Nat.two_pow_pos D
                    have HX64 : Hid (∀ x ∈ X, x < 18446744073709551616) := hX64
                    have HPK : Hid (B.pck X (D : Int) = (B.pack D X, 0)) := B.pck_ok (by omega) hXw
                    have hXl : X.length ≤ 2000007 := by have := HM.out; omega
                    obtain ⟨PP, hPP⟩ : ∃ PP, PP = B.pack D X := ⟨_, rfl⟩
                    have hPl : PP.length ≤ 32 * gg := by
                      rw [hPP, B.pack_len]; unfold B.size
                      have h1 : X.length * D ≤ X.length * 32 := Nat.mul_le_mul_left _ hD
                      have := HM.out; omega
                    rw [← hPP] at HPK HE3
                    have hdl := M.digs_len (2 * gg + 1)
                    clear hX hXd hXm hX64 hXw hPP
                    go_wp2_with fail
                    refine (rpack_any ax _ cx X _ _ HM.out HRx.out HX64.out (by omega) PP 0 HPK.out).mono ?_
                    rintro e w5 ⟨vp, rfl, ⟨ap, cp, rfl, hbp⟩, hx5⟩
                    have hx05 : Ex w1 w5 := (HX2.out.trans (by have := HBj.out; rw [HBW2.out] at this; exact this)).trans hx5
                    have HX05 : Hid (Ex w1 w5) := hx05
                    have HBP : Hid (Byt w5 ap cp PP) := hbp
                    have HB65 : Hid (Byt w5 a6 c6 pre) := HB6.out.below hx05
                    clear hx5 hbp hx05
                    go_wp2_with fail
                    refine (rput_is a6 _ c6 pre _ _ (2 * gg + 1) _ (by omega) rfl HB65.out rfl (by omega) (by omega)).mono ?_
                    rintro e w6 ⟨v6, rfl, ho6, hb6x⟩
                    have hsz5 : base ≤ w5.heap.size := Nat.le_trans HBw.out HX05.out.size
                    have HO6 : Hid (Own w6 base v6 (pre ++ M.digs (2 * gg + 1))) := ho6.mono hsz5
                    have HX6 : Hid (Ex w1 w6) := HX05.out.trans hb6x
                    have HBP6 : Hid (Byt w6 ap cp PP) := HBP.out.below hb6x
                    have hsz6 : base ≤ w6.heap.size := Nat.le_trans HBw.out HX6.out.size
                    clear ho6 hb6x
                    go_wp2_with (at_builtin; refine wpList_append_byt rfl (.tmp 100) (.tmp 101) rfl base _ (pre ++ M.digs (2 * gg + 1)) rfl HO6.out ap _ cp PP rfl rfl HBP6.out ?x1 hsz6 ?_)
                    case x1 => simp; omega
                    intro v7 w7 ho7 hg7
                    have hbx : Below base w w6 := HBl.out.trans ((HX1.out.trans HX6.out).mono hsz)
                    have HB7 : Hid (Below base w w7) := step_below0 hbx hsz6 HO6.out hg7
                    have HO7 : Hid (Own w7 base v7 (pre ++ M.digs (2 * gg + 1) ++ PP)) := (by rw [List.append_assoc]; exact ho7 : Own w7 base v7 (pre ++ M.digs (2 * gg + 1) ++ PP))
                    clear ho7 hg7 hbx
                    go_wp2
                    go_roundw
                    case rel => exact ⟨q, _, hQ2, rfl, HE3, HO7, HB7⟩
                    case measure => simp [intOf]; omega
          · have tq : decide ((q : Int) < (l.length : Int)) = false := by simp; omega
            have tq2 : decide (q < l.length) = false := by simp; omega
            have hg0 : 0 < gg := by
              rcases Nat.eq_zero_or_pos gg with h | h
              · have := HQ.out; omega
              · exact h
            have hgG : gg = G := by
              have := HMo.out hg0
              rw [List.drop_of_length_le (by omega), R.more_eq, if_pos (.inl rfl)] at this
              omega
            subst hgG
            have HX2 : Hid (Ex w1 wr) := HXg
            by_cases hqe : l.length < q
            · have tl : decide ((l.length : Int) < (q : Int)) = true := by simp; omega
              have HQF : Hid (l.length = min (p + 8 * gg) l.length) := (by have := HQ.out; omega : l.length = min (p + 8 * gg) l.length)
              clear HMo
              obtain ⟨w2, hw2⟩ : ∃ w2, w2 = wr := ⟨_, rfl⟩
              subst hw2
              have hbW : base ≤ w2.heap.size := Nat.le_trans HBw.out HX2.out.size
              have hYR0 : Rd n64 w2 (some ⟨b1, o1 + p, none⟩) (cap - p) ((l.drop p).take (l.length - p)) := by
                have h := (HRd1.out.below HX2.out).sub p (l.length - p) (by have := HQF.out; omega)
                rw [Option.map_some, add_none] at h; exact h
              obtain ⟨Y, hY⟩ : ∃ Y, Y = (l.drop p).take (8 * gg) := ⟨_, rfl⟩
              have hYe : (l.drop p).take (l.length - p) = Y := by rw [hY, List.take_eq_take_iff]; have := HQF.out; simp only [List.length_drop]; omega
              have hYl : l.length - p = Y.length := by rw [← hYe]; simp only [List.length_take, List.length_drop]; have := HQF.out; omega
              have hYm : ∀ x ∈ Y, x ∈ l := fun x hx => List.mem_of_mem_drop (List.mem_of_mem_take (by rw [hY] at hx; exact hx))
              rw [hYe] at hYR0
              have hbx0 : Ex w2 (w2.alloc (.cells #[] 69)) := (Below.refl _ _).alloc (Nat.le_refl _) _
              obtain ⟨bw, hbw⟩ : ∃ bw, bw = w2.heap.size := ⟨_, rfl⟩
              have HYR : Hid (Rd n64 (w2.alloc (.cells #[] 69)) (some ⟨b1, o1 + p, none⟩) (cap - p) Y) := hYR0.below hbx0
              have HOE : Hid (OwnR 69 n64 (w2.alloc (.cells #[] 69)) bw (.slice (some ⟨w2.heap.size, 0, none⟩) 0 0) []) := OwnR.empty w2 bw (by omega)
              have HBx0 : Hid (Below bw w2 (w2.alloc (.cells #[] 69))) := (by rw [hbw]; exact hbx0 : Below bw w2 (w2.alloc (.cells #[] 69)))
              have HBW2 : Hid (bw = w2.heap.size) := hbw
              have HYL : Hid (l.length - p = Y.length) := hYl
              have HYM : Hid (∀ x ∈ Y, x ∈ l) := hYm
              have HE3 : Hid ((pre ++ M.digs (2 * gg + 1)) ++ B.pack D (R.pad (8 * gg) Y) ++ R.enc D (l.drop l.length) = R.enc D l) := (by
                rw [← HE.out, HEE.out, ← hY, List.drop_drop]
                have hdd : l.drop (p + 8 * gg) = l.drop l.length := by
                  have := HQF.out
                  by_cases hc : p + 8 * gg ≤ l.length
                  · rw [show l.length = p + 8 * gg by omega]
                  · exact (List.drop_of_length_le (by omega)).trans (List.drop_of_length_le (by omega)).symm
                rw [hdd]; simp : (pre ++ M.digs (2 * gg + 1)) ++ B.pack D (R.pad (8 * gg) Y) ++ R.enc D (l.drop l.length) = R.enc D l)
              have hQ1 : p < l.length := by have := HQF.out; omega
              have hQ2 : l.length ≤ l.length := by have := HQF.out; omega
              have hYlen : Y.length ≤ 8 * gg := by have := HYL.out; have := HQF.out; omega
              have hQY : l.length ≤ p + Y.length := by have := HYL.out; omega
              have hQY2 : p + Y.length ≤ l.length := by have := HYL.out; omega
              clear hYR0 hY hYe hYl hYm hbx0 hbw
              go_wp2_with (at_builtin; refine wpList_append_rd (enc := n64) (e := 69) rfl (.tmp 75) (.tmp 79) 77 rfl 0 8 Tryz.underlying77 Tryz.info69 rfl (fun _ => rfl) bw _ [] rfl HOE.out _ _ _ Y rfl ?z1 HYR.out ?z2 ?z3 ?z4 ?_)
              case z1 => exact HYL.out
              case z2 => simp [maxLen]; omega
              case z3 => simp; omega
              case z4 => have := HBW2.out; simp; omega
              intro v3 w3 ho3 hg3
              have HB3 : Hid (Below bw w2 w3) := step_belowR HBx0.out (by have := HBW2.out; simp; omega) HOE.out hg3
              have HO3 : Hid (OwnR 69 n64 w3 bw v3 (Y ++ List.replicate 0 0)) := (by simpa using ho3 : OwnR 69 n64 w3 bw v3 (Y ++ List.replicate 0 0))
              clear ho3 hg3 HOE HBx0 HYR
              go_wp2
              go_loopw [11] (fun v wr => ∃ j : Nat, Y.length + j ≤ 8 * gg ∧ Hid (OwnR 69 n64 wr bw v (Y ++ List.replicate j 0)) ∧ Hid (Below bw w2 wr)) (fun v _ => 8 * gg - (match v with | .slice _ n _ => n | _ => 0))
              case atStart => exact ⟨0, by omega, HO3, HB3⟩
              case round =>
                obtain ⟨j, hj, HOj, HBj⟩ := hrel
                clear HO3 HB3
                have hlx : (Y ++ List.replicate j 0).length = Y.length + j := by simp
                obtain ⟨m, hm⟩ : ∃ m, m = (Y ++ List.replicate j 0).length := ⟨_, rfl⟩
                obtain ⟨ax, cx, hv, hrx⟩ := HOj.out.rd
                rw [← hm] at hv hlx
                subst hv
                have hl1 : m ≤ Y.length + j := by omega
                have hl2 : Y.length + j ≤ m := by omega
                clear hlx
                have HRx : Hid (Rd n64 wr ax cx (Y ++ List.replicate j 0)) := hrx
                have HM : Hid (m = (Y ++ List.replicate j 0).length) := hm
                have hbs : bw ≤ wr.heap.size := by rw [HBW2.out]; have := HBj.out.size; exact this
                clear hrx hm
                by_cases hjl : m < 8 * gg
                · have tj : decide ((m : Int) < 8 * (gg : Int)) = true := by simp; omega
                  have HRL : Hid (Rd n64 (wr.alloc (.cells #[.int .u64 0] 69)) (some ⟨wr.heap.size, 0, none⟩) 1 [0]) := Rd.laid (enc := n64) wr 69 [0] (by simp)
                  go_wp2_with (at_builtin; refine wpList_append_rd (enc := n64) (e := 69) rfl (.tmp 86) (.tmp 87) 77 rfl 0 8 Tryz.underlying77 Tryz.info69 rfl (fun _ => rfl) bw _ _ rfl (HOj.out.alloc _) _ _ _ [0] rfl rfl HRL.out ?y2 ?y3 ?y4 ?_)
                  case y2 => simp [maxLen]; omega
                  case y3 => simp; omega
                  case y4 => simp; omega
                  intro v4 w4 ho4 hg4
                  have HB4 : Hid (Below bw w2 w4) := step_belowR (HBj.out.alloc hbs _) (by simp; omega) (HOj.out.alloc _) hg4
                  have HO4 : Hid (OwnR 69 n64 w4 bw v4 (Y ++ List.replicate (j + 1) 0)) := (by
                    rw [← List.replicate_succ'] at ho4; exact ho4 : OwnR 69 n64 w4 bw v4 (Y ++ List.replicate (j + 1) 0))
                  obtain ⟨a4, c4, rfl, _⟩ := HO4.out.rd
                  clear ho4 hg4
                  go_wp2
                  go_roundw
                  case rel => exact ⟨j + 1, by omega, HO4, HB4⟩
                  case measure => simp; omega
                · have tj : decide ((m : Int) < 8 * (gg : Int)) = false := by simp; omega
                  have hX : Y ++ List.replicate j 0 = R.pad (8 * gg) Y := by unfold R.pad; rw [show j = 8 * gg - Y.length by omega]
                  obtain ⟨X, hXd⟩ : ∃ X, X = R.pad (8 * gg) Y := ⟨_, rfl⟩
                  rw [hX, ← hXd] at HRx HM
                  rw [← hXd] at HE3
                  have hXm : ∀ x ∈ X, x ∈ l ∨ x = 0 := fun x hx => by
                    rw [hXd] at hx
                    rcases R.pad_mem hx with h | h
                    · exact .inl (HYM.out x h)
                    · exact .inr h
                  have hX64 : ∀ x ∈ X, x < 18446744073709551616 := fun x hx => by
                    rcases hXm x hx with h | h
                    · exact H64.out x h
                    · omega
                  have hXw : B.width X ≤ D := (B.width_le D X).2 fun x hx => by
                    rcases hXm x hx with h | h
                    · exact B.fits hw x h
                    · rw [h]; exact Nat.two_pow_pos D
                  have HX64 : Hid (∀ x ∈ X, x < 18446744073709551616) := hX64
                  have HPK : Hid (B.pck X (D : Int) = (B.pack D X, 0)) := B.pck_ok (by omega) hXw
                  have hXl : X.length ≤ 2000007 := by have := HM.out; omega
                  obtain ⟨PP, hPP⟩ : ∃ PP, PP = B.pack D X := ⟨_, rfl⟩
                  have hPl : PP.length ≤ 32 * gg := by
                    rw [hPP, B.pack_len]; unfold B.size
                    have h1 : X.length * D ≤ X.length * 32 := Nat.mul_le_mul_left _ hD
                    have := HM.out; omega
                  rw [← hPP] at HPK HE3
                  have hdl := M.digs_len (2 * gg + 1)
                  clear hX hXd hXm hX64 hXw hPP
                  go_wp2_with fail
                  refine (rpack_any ax _ cx X _ _ HM.out HRx.out HX64.out (by omega) PP 0 HPK.out).mono ?_
                  rintro e w5 ⟨vp, rfl, ⟨ap, cp, rfl, hbp⟩, hx5⟩
                  have hx05 : Ex w1 w5 := (HX2.out.trans (by have := HBj.out; rw [HBW2.out] at this; exact this)).trans hx5
                  have HX05 : Hid (Ex w1 w5) := hx05
                  have HBP : Hid (Byt w5 ap cp PP) := hbp
                  have HB65 : Hid (Byt w5 a6 c6 pre) := HB6.out.below hx05
                  clear hx5 hbp hx05
                  go_wp2_with fail
                  refine (rput_is a6 _ c6 pre _ _ (2 * gg + 1) _ (by omega) rfl HB65.out rfl (by omega) (by omega)).mono ?_
                  rintro e w6 ⟨v6, rfl, ho6, hb6x⟩
                  have hsz5 : base ≤ w5.heap.size := Nat.le_trans HBw.out HX05.out.size
                  have HO6 : Hid (Own w6 base v6 (pre ++ M.digs (2 * gg + 1))) := ho6.mono hsz5
                  have HX6 : Hid (Ex w1 w6) := HX05.out.trans hb6x
                  have HBP6 : Hid (Byt w6 ap cp PP) := HBP.out.below hb6x
                  have hsz6 : base ≤ w6.heap.size := Nat.le_trans HBw.out HX6.out.size
                  clear ho6 hb6x
                  go_wp2_with (at_builtin; refine wpList_append_byt rfl (.tmp 100) (.tmp 101) rfl base _ (pre ++ M.digs (2 * gg + 1)) rfl HO6.out ap _ cp PP rfl rfl HBP6.out ?x1 hsz6 ?_)
                  case x1 => simp; omega
                  intro v7 w7 ho7 hg7
                  have hbx : Below base w w6 := HBl.out.trans ((HX1.out.trans HX6.out).mono hsz)
                  have HB7 : Hid (Below base w w7) := step_below0 hbx hsz6 HO6.out hg7
                  have HO7 : Hid (Own w7 base v7 (pre ++ M.digs (2 * gg + 1) ++ PP)) := (by rw [List.append_assoc]; exact ho7 : Own w7 base v7 (pre ++ M.digs (2 * gg + 1) ++ PP))
                  clear ho7 hg7 hbx
                  go_wp2
                  go_roundw
                  case rel => exact ⟨l.length, _, hQ2, rfl, HE3, HO7, HB7⟩
                  case measure => simp [intOf]; omega
            · have tl : decide ((l.length : Int) < (q : Int)) = false := by simp; omega
              obtain rfl : q = l.length := by omega
              have HQF : Hid (l.length = min (p + 8 * gg) l.length) := (by have := HQ.out; omega : l.length = min (p + 8 * gg) l.length)
              clear HMo
              obtain ⟨w2, hw2⟩ : ∃ w2, w2 = wr := ⟨_, rfl⟩
              subst hw2
              have hbW : base ≤ w2.heap.size := Nat.le_trans HBw.out HX2.out.size
              have hYR0 : Rd n64 w2 (some ⟨b1, o1 + p, none⟩) (cap - p) ((l.drop p).take (l.length - p)) := by
                have h := (HRd1.out.below HX2.out).sub p (l.length - p) (by have := HQF.out; omega)
                rw [Option.map_some, add_none] at h; exact h
              obtain ⟨Y, hY⟩ : ∃ Y, Y = (l.drop p).take (8 * gg) := ⟨_, rfl⟩
              have hYe : (l.drop p).take (l.length - p) = Y := by rw [hY, List.take_eq_take_iff]; have := HQF.out; simp only [List.length_drop]; omega
              have hYl : l.length - p = Y.length := by rw [← hYe]; simp only [List.length_take, List.length_drop]; have := HQF.out; omega
              have hYm : ∀ x ∈ Y, x ∈ l := fun x hx => List.mem_of_mem_drop (List.mem_of_mem_take (by rw [hY] at hx; exact hx))
              rw [hYe] at hYR0
              have hbx0 : Ex w2 (w2.alloc (.cells #[] 69)) := (Below.refl _ _).alloc (Nat.le_refl _) _
              obtain ⟨bw, hbw⟩ : ∃ bw, bw = w2.heap.size := ⟨_, rfl⟩
              have HYR : Hid (Rd n64 (w2.alloc (.cells #[] 69)) (some ⟨b1, o1 + p, none⟩) (cap - p) Y) := hYR0.below hbx0
              have HOE : Hid (OwnR 69 n64 (w2.alloc (.cells #[] 69)) bw (.slice (some ⟨w2.heap.size, 0, none⟩) 0 0) []) := OwnR.empty w2 bw (by omega)
              have HBx0 : Hid (Below bw w2 (w2.alloc (.cells #[] 69))) := (by rw [hbw]; exact hbx0 : Below bw w2 (w2.alloc (.cells #[] 69)))
              have HBW2 : Hid (bw = w2.heap.size) := hbw
              have HYL : Hid (l.length - p = Y.length) := hYl
              have HYM : Hid (∀ x ∈ Y, x ∈ l) := hYm
              have HE3 : Hid ((pre ++ M.digs (2 * gg + 1)) ++ B.pack D (R.pad (8 * gg) Y) ++ R.enc D (l.drop l.length) = R.enc D l) := (by
                rw [← HE.out, HEE.out, ← hY, List.drop_drop]
                have hdd : l.drop (p + 8 * gg) = l.drop l.length := by
                  have := HQF.out
                  by_cases hc : p + 8 * gg ≤ l.length
                  · rw [show l.length = p + 8 * gg by omega]
                  · exact (List.drop_of_length_le (by omega)).trans (List.drop_of_length_le (by omega)).symm
                rw [hdd]; simp : (pre ++ M.digs (2 * gg + 1)) ++ B.pack D (R.pad (8 * gg) Y) ++ R.enc D (l.drop l.length) = R.enc D l)
              have hQ1 : p < l.length := by have := HQF.out; omega
              have hQ2 : l.length ≤ l.length := by have := HQF.out; omega
              have hYlen : Y.length ≤ 8 * gg := by have := HYL.out; have := HQF.out; omega
              have hQY : l.length ≤ p + Y.length := by have := HYL.out; omega
              have hQY2 : p + Y.length ≤ l.length := by have := HYL.out; omega
              clear hYR0 hY hYe hYl hYm hbx0 hbw
              go_wp2_with (at_builtin; refine wpList_append_rd (enc := n64) (e := 69) rfl (.tmp 75) (.tmp 79) 77 rfl 0 8 Tryz.underlying77 Tryz.info69 rfl (fun _ => rfl) bw _ [] rfl HOE.out _ _ _ Y rfl ?z1 HYR.out ?z2 ?z3 ?z4 ?_)
              case z1 => exact HYL.out
              case z2 => simp [maxLen]; omega
              case z3 => simp; omega
              case z4 => have := HBW2.out; simp; omega
              intro v3 w3 ho3 hg3
              have HB3 : Hid (Below bw w2 w3) := step_belowR HBx0.out (by have := HBW2.out; simp; omega) HOE.out hg3
              have HO3 : Hid (OwnR 69 n64 w3 bw v3 (Y ++ List.replicate 0 0)) := (by simpa using ho3 : OwnR 69 n64 w3 bw v3 (Y ++ List.replicate 0 0))
              clear ho3 hg3 HOE HBx0 HYR
              go_wp2
              go_loopw [11] (fun v wr => ∃ j : Nat, Y.length + j ≤ 8 * gg ∧ Hid (OwnR 69 n64 wr bw v (Y ++ List.replicate j 0)) ∧ Hid (Below bw w2 wr)) (fun v _ => 8 * gg - (match v with | .slice _ n _ => n | _ => 0))
              case atStart => exact ⟨0, by omega, HO3, HB3⟩
              case round =>
                obtain ⟨j, hj, HOj, HBj⟩ := hrel
                clear HO3 HB3
                have hlx : (Y ++ List.replicate j 0).length = Y.length + j := by simp
                obtain ⟨m, hm⟩ : ∃ m, m = (Y ++ List.replicate j 0).length := ⟨_, rfl⟩
                obtain ⟨ax, cx, hv, hrx⟩ := HOj.out.rd
                rw [← hm] at hv hlx
                subst hv
                have hl1 : m ≤ Y.length + j := by omega
                have hl2 : Y.length + j ≤ m := by omega
                clear hlx
                have HRx : Hid (Rd n64 wr ax cx (Y ++ List.replicate j 0)) := hrx
                have HM : Hid (m = (Y ++ List.replicate j 0).length) := hm
                have hbs : bw ≤ wr.heap.size := by rw [HBW2.out]; have := HBj.out.size; exact this
                clear hrx hm
                by_cases hjl : m < 8 * gg
                · have tj : decide ((m : Int) < 8 * (gg : Int)) = true := by simp; omega
                  have HRL : Hid (Rd n64 (wr.alloc (.cells #[.int .u64 0] 69)) (some ⟨wr.heap.size, 0, none⟩) 1 [0]) := Rd.laid (enc := n64) wr 69 [0] (by simp)
                  go_wp2_with (at_builtin; refine wpList_append_rd (enc := n64) (e := 69) rfl (.tmp 86) (.tmp 87) 77 rfl 0 8 Tryz.underlying77 Tryz.info69 rfl (fun _ => rfl) bw _ _ rfl (HOj.out.alloc _) _ _ _ [0] rfl rfl HRL.out ?y2 ?y3 ?y4 ?_)
                  case y2 => simp [maxLen]; omega
                  case y3 => simp; omega
                  case y4 => simp; omega
                  intro v4 w4 ho4 hg4
                  have HB4 : Hid (Below bw w2 w4) := step_belowR (HBj.out.alloc hbs _) (by simp; omega) (HOj.out.alloc _) hg4
                  have HO4 : Hid (OwnR 69 n64 w4 bw v4 (Y ++ List.replicate (j + 1) 0)) := (by
                    rw [← List.replicate_succ'] at ho4; exact ho4 : OwnR 69 n64 w4 bw v4 (Y ++ List.replicate (j + 1) 0))
                  obtain ⟨a4, c4, rfl, _⟩ := HO4.out.rd
                  clear ho4 hg4
                  go_wp2
                  go_roundw
                  case rel => exact ⟨j + 1, by omega, HO4, HB4⟩
                  case measure => simp; omega
                · have tj : decide ((m : Int) < 8 * (gg : Int)) = false := by simp; omega
                  have hX : Y ++ List.replicate j 0 = R.pad (8 * gg) Y := by unfold R.pad; rw [show j = 8 * gg - Y.length by omega]
                  obtain ⟨X, hXd⟩ : ∃ X, X = R.pad (8 * gg) Y := ⟨_, rfl⟩
                  rw [hX, ← hXd] at HRx HM
                  rw [← hXd] at HE3
                  have hXm : ∀ x ∈ X, x ∈ l ∨ x = 0 := fun x hx => by
                    rw [hXd] at hx
                    rcases R.pad_mem hx with h | h
                    · exact .inl (HYM.out x h)
                    · exact .inr h
                  have hX64 : ∀ x ∈ X, x < 18446744073709551616 := fun x hx => by
                    rcases hXm x hx with h | h
                    · exact H64.out x h
                    · omega
                  have hXw : B.width X ≤ D := (B.width_le D X).2 fun x hx => by
                    rcases hXm x hx with h | h
                    · exact B.fits hw x h
                    · rw [h]; exact Nat.two_pow_pos D
                  have HX64 : Hid (∀ x ∈ X, x < 18446744073709551616) := hX64
                  have HPK : Hid (B.pck X (D : Int) = (B.pack D X, 0)) := B.pck_ok (by omega) hXw
                  have hXl : X.length ≤ 2000007 := by have := HM.out; omega
                  obtain ⟨PP, hPP⟩ : ∃ PP, PP = B.pack D X := ⟨_, rfl⟩
                  have hPl : PP.length ≤ 32 * gg := by
                    rw [hPP, B.pack_len]; unfold B.size
                    have h1 : X.length * D ≤ X.length * 32 := Nat.mul_le_mul_left _ hD
                    have := HM.out; omega
                  rw [← hPP] at HPK HE3
                  have hdl := M.digs_len (2 * gg + 1)
                  clear hX hXd hXm hX64 hXw hPP
                  go_wp2_with fail
                  refine (rpack_any ax _ cx X _ _ HM.out HRx.out HX64.out (by omega) PP 0 HPK.out).mono ?_
                  rintro e w5 ⟨vp, rfl, ⟨ap, cp, rfl, hbp⟩, hx5⟩
                  have hx05 : Ex w1 w5 := (HX2.out.trans (by have := HBj.out; rw [HBW2.out] at this; exact this)).trans hx5
                  have HX05 : Hid (Ex w1 w5) := hx05
                  have HBP : Hid (Byt w5 ap cp PP) := hbp
                  have HB65 : Hid (Byt w5 a6 c6 pre) := HB6.out.below hx05
                  clear hx5 hbp hx05
                  go_wp2_with fail
                  refine (rput_is a6 _ c6 pre _ _ (2 * gg + 1) _ (by omega) rfl HB65.out rfl (by omega) (by omega)).mono ?_
                  rintro e w6 ⟨v6, rfl, ho6, hb6x⟩
                  have hsz5 : base ≤ w5.heap.size := Nat.le_trans HBw.out HX05.out.size
                  have HO6 : Hid (Own w6 base v6 (pre ++ M.digs (2 * gg + 1))) := ho6.mono hsz5
                  have HX6 : Hid (Ex w1 w6) := HX05.out.trans hb6x
                  have HBP6 : Hid (Byt w6 ap cp PP) := HBP.out.below hb6x
                  have hsz6 : base ≤ w6.heap.size := Nat.le_trans HBw.out HX6.out.size
                  clear ho6 hb6x
                  go_wp2_with (at_builtin; refine wpList_append_byt rfl (.tmp 100) (.tmp 101) rfl base _ (pre ++ M.digs (2 * gg + 1)) rfl HO6.out ap _ cp PP rfl rfl HBP6.out ?x1 hsz6 ?_)
                  case x1 => simp; omega
                  intro v7 w7 ho7 hg7
                  have hbx : Below base w w6 := HBl.out.trans ((HX1.out.trans HX6.out).mono hsz)
                  have HB7 : Hid (Below base w w7) := step_below0 hbx hsz6 HO6.out hg7
                  have HO7 : Hid (Own w7 base v7 (pre ++ M.digs (2 * gg + 1) ++ PP)) := (by rw [List.append_assoc]; exact ho7 : Own w7 base v7 (pre ++ M.digs (2 * gg + 1) ++ PP))
                  clear ho7 hg7 hbx
                  go_wp2
                  go_roundw
                  case rel => exact ⟨l.length, _, hQ2, rfl, HE3, HO7, HB7⟩
                  case measure => simp [intOf]; omega
    · obtain rfl : p = l.length := by omega
      have hfin : pre = R.enc D l := by have := HE.out; rw [List.drop_length, R.enc_nil] at this; simpa using this
      have HFin : Hid (pre = R.enc D l) := hfin
      have HB6 : Hid (Byt wr a6 c6 pre) := hb6
      clear hfin hb6
      go_wp2
      go_ret2
      refine ⟨_, rfl, ?_, by have := HBl.out; rw [HBa.out] at this; exact this⟩
      have h := HO.out
      have e := HFin.out
      rw [HBa.out] at h
      subst e
      exact h

/-- The document's own Encode: what it answers is new. -/
theorem renc_own (a : Option Addr) (n cap : Nat) (l : List Nat) (wd : Int) (w : World) (hn : n = l.length) (hB : Rd n64 w a cap l) (h64 : ∀ x ∈ l, x < 18446744073709551616) (hl : l.length ≤ 2000000) (r : List UInt8) (e0 : Nat) (hr : R.encE l wd = (r, e0)) :
    Calls Tryz.prog 38 #[.slice a n cap, .int .i64 wd] w fun e w' => ∃ v, e = .returned (.tuple #[v, .int .i64 e0]) ∧ Own w' w.heap.size v r ∧ Ex w w' := by
  subst hn
  unfold R.encE at hr
  by_cases h : wd < 0 ∨ 32 < wd ∨ wd.toNat < B.width l
  · rw [if_pos h] at hr
    simp only [Prod.mk.injEq] at hr
    obtain ⟨rfl, rfl⟩ := hr
    exact renc_refuse a cap l wd w hB h64 h
  · rw [if_neg h] at hr
    simp only [Prod.mk.injEq] at hr
    obtain ⟨rfl, rfl⟩ := hr
    obtain ⟨D, rfl⟩ := Int.eq_ofNat_of_zero_le (show 0 ≤ wd by omega)
    exact renc_main a cap l D w hB h64 hl (by omega) (by simp at h; omega)
end Go.Proofs.YtnmonoafjijfhaaGreat
