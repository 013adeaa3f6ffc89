/-
  What the statements' walks take of the landed dels besides: Or, Left, Encode, Decode.
-/
import Derived.Test.YtkhbkifofkjjnaaMk
import Derived.Test.YtkhbkifofkjjnaaBook
import Derived.Test.YtkhbkifofkjjnaaRdels
import Derived.Test.YtkhbkifofkjjnaaRface
namespace Go.Proofs.Ytkhbkifofkjjnaa
open Go.RowKit
set_option linter.unusedVariables false
set_option linter.unusedSimpArgs false
/-- Words of which the first k are joined. -/
def Dl.Orw (us vs : List Nat) (k : Nat) (L : List Nat) : Prop := L.length = us.length ∧ ∀ j, L.getD j 0 = if j < k then us.getD j 0 ||| vs.getD j 0 else us.getD j 0
theorem Dl.orw_set {us vs L : List Nat} {k : Nat} (h : Dl.Orw us vs k L) (hk : k < us.length) : Dl.Orw us vs (k + 1) (L.set k (us.getD k 0 ||| vs.getD k 0)) := by
  refine ⟨by rw [List.length_set]; exact h.1, fun j => ?_⟩
  have hj := h.2 j
  have hl := h.1
  simp only [List.getD_eq_getElem?_getD] at hj ⊢
  rw [List.getElem?_set]
  by_cases hjk : k = j
  · subst hjk
    rw [if_pos rfl, if_pos (by omega), if_pos (by omega)]
    rfl
  · rw [if_neg hjk, hj]
    by_cases h2 : j < k
    · rw [if_pos h2, if_pos (by omega)]
    · rw [if_neg h2, if_neg (by omega)]
set_option maxRecDepth 100000 in
set_option maxHeartbeats 1000000 in
theorem or_is (v vo : Value) (fp fo : Nat → Prop) (ws os : List Bool) (w : World) (h : Mk w v fp ws) (ho : Mk w vo fo os) (hl : ws.length = os.length) (hd : ∀ k, fp k → ¬ fo k) (r : List Bool) (hr : Dl.orr ws os = r) :
    Calls Try.prog 9 #[v, vo] w fun e w' => e = .returned (.int .i64 0) ∧ ∃ fp', Mk w' v fp' r ∧ Touch fp w w' ∧ ∀ k, fp' k → fp k ∨ w.heap.size ≤ k := by
  obtain ⟨g, q, us, rfl, hg, hrow, hne, hln, hwd, hfp⟩ := h
  obtain ⟨g2, q2, vs, rfl, hg2, hrow2, hne2, hln2, hwd2, hfp2⟩ := ho
  have hqq : q2 ≠ q := fun hh => by
    have := hd q (by rw [hfp]; exact .inr rfl)
    rw [hfp2] at this
    exact this (.inr hh.symm)
  have hnq2 : ¬ fp q2 := fun hh => by
    have := hd q2 hh
    rw [hfp2] at this
    exact this (.inr rfl)
  have hlen : vs.length = us.length := by rw [hwd.1, hwd2.1, hl]
  have hul : us.length ≤ 16384 := by rw [hwd.1]; omega
  have HWr : Hid (∀ L, L.length = us.length → (∀ j, j < us.length → L.getD j 0 = us.getD j 0 ||| vs.getD j 0) → Dl.Wd L r) := (fun L h1 h2 => by rw [← hr]; exact Dl.wd_or hwd hwd2 hl h1 h2 : ∀ L, L.length = us.length → (∀ j, j < us.length → L.getD j 0 = us.getD j 0 ||| vs.getD j 0) → Dl.Wd L r)
  have HRl : Hid (r.length = ws.length) := (by rw [← hr]; exact Dl.orr_len hl : r.length = ws.length)
  have HU64 : Hid (∀ j, us.getD j 0 < 18446744073709551616) := Dl.wd_word hwd
  have HV64 : Hid (∀ j, vs.getD j 0 < 18446744073709551616) := Dl.wd_word hwd2
  have HFp : Hid (fp = fun k => k = g ∨ k = q) := hfp
  have HG : Hid (MB w g q ws.length us.length) := hg
  have HRow : Hid (RowAt n64 53 w q us) := hrow
  have HRow2 : Hid (RowAt n64 53 w q2 vs) := hrow2
  have HNq2 : Hid (¬ fp q2) := hnq2
  have h00 : Hid (Dl.Orw us vs 0 us) := (⟨rfl, fun j => by rw [if_neg (by omega)]⟩ : Dl.Orw us vs 0 us)
  obtain ⟨c0, c1⟩ := hg.all
  obtain ⟨d0, d1⟩ := hg2.all
  have tne : ((os.length : Int) != (ws.length : Int)) = false := by simp; omega
  rw [hlen] at d1
  have hv2 : vs.length ≤ 16384 := by omega
  clear hg hg2 hrow hrow2 hwd hwd2 hfp hfp2 hd hr hnq2
  go_enter Try.func9, Try.ntmps9
  go_wp2_with fail
  go_quiet (fail)
  go_wp2_with fail
  go_loopw [25] (fun i wr => ∃ (k : Nat) (L : List Nat), k ≤ us.length ∧ i = .int .i64 (k : Int) ∧ Hid (Dl.Orw us vs k L) ∧ Hid (RowAt n64 53 wr q L) ∧ Hid (MB wr g q ws.length us.length) ∧ Hid (Touch fp w wr)) (fun i _ => us.length - (intOf i).toNat)
  case atStart => exact ⟨0, us, by omega, rfl, h00, HRow.out, HG.out, Touch.of_ex (Ex.drewN _ _)⟩
  case round =>
    obtain ⟨k, L, hk, rfl, HO, HR, HGr, HT⟩ := hrel
    clear h00
    by_cases hlt : k < us.length
    · have tk : decide ((k : Int) < (us.length : Int)) = true := by simp; omega
      have hki : (k : Int) < (us.length : Int) := by omega
      obtain ⟨u, hu⟩ : ∃ u, us.getD k 0 = u := ⟨_, rfl⟩
      obtain ⟨x, hx⟩ : ∃ x, vs.getD k 0 = x := ⟨_, rfl⟩
      have hu64 : u < 18446744073709551616 := by rw [← hu]; exact HU64.out k
      have hx64 : x < 18446744073709551616 := by rw [← hx]; exact HV64.out k
      have hLl : k < L.length := by rw [HO.out.1]; omega
      have hcL : wr.cell? ⟨q, k, none⟩ = some (.int .u64 (u : Int)) := by
        have h1 := HR.out.cell hLl
        have h2 := HO.out.2 k
        rw [if_neg (by omega), hu, List.getD_eq_getElem?_getD, List.getElem?_eq_getElem hLl] at h2
        simp only [Option.getD_some] at h2
        rw [h2] at h1
        exact h1
      have hcV : wr.cell? ⟨q2, k, none⟩ = some (.int .u64 (x : Int)) := by
        have hkv : k < vs.length := by omega
        have h1 := (HRow2.out.touch HT.out HNq2.out).cell hkv
        rw [List.getD_eq_getElem?_getD, List.getElem?_eq_getElem hkv] at hx
        simp only [Option.getD_some] at hx
        rw [hx] at h1
        exact h1
      obtain ⟨m, hm⟩ : ∃ m, m = (u ||| x) := ⟨_, rfl⟩
      have ho : bits .or .u64 (u : Int) (x : Int) = (m : Int) := by rw [hm]; exact or64i u x hu64 hx64
      have HO2 : Hid (Dl.Orw us vs (k + 1) (L.set k m)) := (by have := Dl.orw_set HO.out hlt; rw [hu, hx, ← hm] at this; exact this : Dl.Orw us vs (k + 1) (L.set k m))
      have hfz : wr.frozen? ⟨q, k, none⟩ = false := HR.out.frozen k
      obtain ⟨e0, e1⟩ := HGr.out.all
      have hnb : (wr.setCell ⟨q, k, none⟩ (.int .u64 (m : Int))).heap[g]? = wr.heap[g]? := Below.heap_setCell _ _ _ _ hne
      have HG2 : Hid (MB (wr.setCell ⟨q, k, none⟩ (.int .u64 (m : Int))) g q ws.length us.length) := HGr.out.keep hnb
      have HR2 : Hid (RowAt n64 53 (wr.setCell ⟨q, k, none⟩ (.int .u64 (m : Int))) q (L.set k m)) := HR.out.set (k := k) m rfl
      have HT2 : Hid (Touch fp w (wr.setCell ⟨q, k, none⟩ (.int .u64 (m : Int)))) := (⟨HT.out.os, HT.out.tape, HT.out.output, by have := HT.out.size; simp [World.setCell] at this ⊢; exact this, fun c hc hn => by
        have hcq : c ≠ q := fun hh => hn (by rw [HFp.out]; exact .inr hh)
        have h1 : (wr.setCell ⟨q, k, none⟩ (.int .u64 (m : Int))).heap[c]? = wr.heap[c]? := Below.heap_setCell _ _ _ _ hcq
        exact h1.trans (HT.out.block c hc hn)⟩ : Touch fp w (wr.setCell ⟨q, k, none⟩ (.int .u64 (m : Int))))
      clear hm hu hx hnb c0 c1 d0 d1
      go_wp2_with fail
      go_roundw
      case rel => exact ⟨k + 1, L.set k m, by omega, by go_num, HO2, HR2, HG2, HT2⟩
      case measure => simp [intOf]; omega
    · have tk : decide ((k : Int) < (us.length : Int)) = false := by simp; omega
      clear c0 c1 d0 d1
      go_wp2_with fail
      go_ret
      refine ⟨rfl, fp, ⟨g, q, L, rfl, ?_, HR.out, hne, by rw [HRl.out]; exact hln, HWr.out L HO.out.1 (fun j hj => by rw [HO.out.2 j, if_pos (by omega)]), HFp.out⟩, HT.out, fun k hk => .inl hk⟩
      rw [HRl.out, HO.out.1]
      exact HGr.out
set_option maxRecDepth 100000 in
theorem or_bad (v vo : Value) (fp fo : Nat → Prop) (ws os : List Bool) (w : World) (h : Mk w v fp ws) (ho : Mk w vo fo os) (hl : ws.length ≠ os.length) :
    Calls Try.prog 9 #[v, vo] w fun e w' => e = .returned (.int .i64 1) ∧ Ex w w' := by
  obtain ⟨g, q, us, rfl, hg, hrow, hne, hln, hwd, hfp⟩ := h
  obtain ⟨g2, q2, vs, rfl, hg2, hrow2, hne2, hln2, hwd2, hfp2⟩ := ho
  obtain ⟨c0, c1⟩ := hg.all
  obtain ⟨d0, d1⟩ := hg2.all
  have tne : ((os.length : Int) != (ws.length : Int)) = true := by simp; omega
  clear hg hg2 hrow hrow2 hwd hwd2 hfp hfp2
  go_enter Try.func9, Try.ntmps9
  go_wp2_with fail
  go_quiet (fail)
  go_wp2_with fail
  go_ret
  exact ⟨rfl, (Ex.refl w).trans (Ex.drewN _ _)⟩
set_option maxRecDepth 100000 in
theorem or_nil (v : Value) (fp : Nat → Prop) (ws : List Bool) (w : World) (h : Mk w v fp ws) :
    Calls Try.prog 9 #[v, .pointer none] w fun e w' => e = .returned (.int .i64 1) ∧ Ex w w' := by
  obtain ⟨g, q, us, rfl, hg, hrow, hne, hln, hwd, hfp⟩ := h
  obtain ⟨c0, c1⟩ := hg.all
  clear hg hrow hwd hfp
  go_enter Try.func9, Try.ntmps9
  go_wp2_with fail
  go_quiet (fail)
  go_wp2_with fail
  go_ret
  exact ⟨rfl, (Ex.refl w).trans (Ex.drewN _ _)⟩
end Go.Proofs.Ytkhbkifofkjjnaa
namespace Go.Proofs.Ytkhbkifofkjjnaa
open Go.RowKit
set_option linter.unusedVariables false
set_option linter.unusedSimpArgs false
theorem Try.inf3 : (Try.prog.info? 3).map (fun i => (i.zero, i.size, i.bytes)) = some (some (.int .i64 0), 1, 8) := by kernel_rfl
/-- 'make([]T, 0, m)', of elements that are one cell each. -/
theorem wpList_make_cap {α : Type} {enc : α → Value} {w : World} {ops : Array Oper} {rest : List Oper} {o : Oper} {a : Act} {Q : Exit → Act → World → Prop}
    (hg : o.guard = none) (l c : Operand) (t e : TypeId) (hop : o.op = Op.makeSlice t l c) (z : α) (B : Nat) (ht : Try.prog.underlying t = some (.slice e)) (hinfo : (Try.prog.info? e).map (fun i => (i.zero, i.size, i.bytes)) = some (some (enc z), 1, B))
    (base : Nat) (hbase : base ≤ w.heap.size) (C : Int) (m : Nat) (hl : a.eval l = .int .i64 0) (hc : a.eval c = .int .i64 C) (hC : C = (m : Int)) (b2 : B * m ≤ 281474976710656) (b3 : m ≤ 281474976710656)
    (hK : ∀ (w' : World) (v : Value), OwnR e enc w' base v [] → Below w.heap.size w w' → wpList Try.prog ops Q rest (a.put o.dst v) w') :
    wpList Try.prog ops Q (o :: rest) a w := by
  obtain ⟨i0, hi, hz0, hz1, hz2⟩ := info_parts hinfo
  have hbm : (B : Int) * (m : Int) ≤ 281474976710656 := by
    have h : ((B * m : Nat) : Int) ≤ 281474976710656 := by omega
    rwa [Int.natCast_mul] at h
  refine wpList_plain hg fun K hK' => ?_
  subst hC
  have hrun := run_make (P := Try.prog) w t e i0 (enc z) ht hi hz0 .i64 .i64 (0 : Int) (m : Int) (by omega) (by omega) (by rw [hz2]; exact hbm) (by omega)
  simp only [Int.toNat_natCast, Int.toNat_zero] at hrun
  unfold Oper.wp
  simp [execOp, hop, hl, hc, hrun, Result.andThen]
  refine hK' _ _ (hK _ _ ?_ ((Below.refl _ _).alloc (Nat.le_refl _) _))
  exact World.ownsRow_made w _ m hbase (by unfold maxLen; omega) (by simp [size_madeCells, hz1])
set_option maxRecDepth 100000 in
set_option maxHeartbeats 1000000 in
theorem left_is (v : Value) (fp : Nat → Prop) (ws : List Bool) (w : World) (h : Mk w v fp ws) (r : List Int) (hr : Dl.left ws = r) :
    Calls Try.prog 15 #[v] w fun e w' => ∃ u, e = .returned u ∧ IsRd z64 r u w' ∧ Ex w w' := by
  have HM : Hid (Mk w v fp ws) := h
  obtain ⟨g, q, us, rfl, hg, hrow, hne, hln, hwd, hfp⟩ := h
  obtain ⟨c0, c1⟩ := hg.all
  obtain ⟨n, hn⟩ : ∃ n, ws.length = n := ⟨_, rfl⟩
  obtain ⟨ct, hct⟩ : ∃ ct, Dl.count ws = ct := ⟨_, rfl⟩
  have hcn : ct ≤ n := by rw [← hn, ← hct]; exact Dl.count_le ws
  obtain ⟨d, hd⟩ : ∃ d : Nat, d = n - ct := ⟨_, rfl⟩
  have hdi : (n : Int) - (ct : Int) = (d : Int) := by omega
  have hdl : d ≤ 1048576 := by omega
  have hnl : n ≤ 1048576 := by omega
  have HN : Hid (ws.length = n) := hn
  have HCt : Hid (Dl.count ws = ct) := hct
  have HR : Hid (Dl.left ws = r) := hr
  rw [hn] at c0 hg
  have HG : Hid (MB w g q n us.length) := hg
  have h00 : Hid (Dl.left (ws.take 0) = []) := (by simp [Dl.left, Dl.leftF] : Dl.left (ws.take 0) = [])
  clear hg hrow hwd hfp hln hn hct hd hr c1
  go_enter Try.func15, Try.ntmps15
  go_wp2_with fail
  obtain ⟨w0, hw0⟩ : ∃ w0, w0 = w.drew := ⟨_, rfl⟩
  have HX0 : Hid (Ex w w0) := (by rw [hw0]; exact Ex.drew _ : Ex w w0)
  have d0 : w0.cell? ⟨g, 0, none⟩ = some (.int .i64 (n : Int)) := by rw [hw0]; exact c0
  have HW0 : Hid (w0 = w.drew) := hw0
  clear hw0
  have hre : ∀ w : World, (fun w w' : World => w' = w) w w := fun _ => rfl
  refine Rg.wp_rows_tail (List.take 7 _) (List.drop 7 _) (List.take_append_drop 7 _).symm [.inl (Value.pointer (some ⟨g, 0, none⟩)), .inl (Value.pointer (some ⟨g, 0, none⟩)), .inl (Value.pointer (some ⟨g, 0, none⟩)), .inl (Value.int .i64 (n : Int)), .inl (Value.pointer (some ⟨g, 0, none⟩)), .inl (Value.int .i64 (ct : Int)), .inl (Value.int .i64 (d : Int))] (fun wx => wx = w0) (fun w w' => w' = w) 30 (by kernel_rfl) rfl (by kernel_rfl) (by kernel_rfl) (by kernel_rfl) (by decide) (by kernel_rfl) ?st hre (by exact HW0.out.symm) ?goods ?fin
  case st => exact trivial
  case goods =>
    refine Rg.goods_cons (Rg.good_move hre rfl rfl rfl) ?_
    refine Rg.goods_cons (Rg.good_nil hre rfl rfl rfl) ?_
    refine Rg.goods_cons (Rg.good_field hre rfl rfl rfl (fun wx hC => by subst hC; go_simp)) ?_
    refine Rg.goods_cons (Rg.good_load hre rfl rfl rfl (fun wx hC => by subst hC; go_simp)) ?_
    refine Rg.goods_cons (Rg.good_move hre rfl rfl rfl) ?_
    refine Rg.goods_cons (Rg.good_call1 Try.func22 (by kernel_rfl) rfl rfl rfl (by rintro u wx hC rfl; exact (count_q _ fp ws wx (by rw [hC]; exact HM.out.below HX0.out) ct HCt.out).mono fun e w' ⟨he, hw⟩ => ⟨_, he, rfl, hw, hw.trans hC⟩)) ?_
    refine Rg.goods_cons (Rg.good_bin hre rfl rfl rfl rfl (fun _ => rfl) (fun w => by go_simp; rw [IntKind.wrap_i64]; omega)) ?_
    exact Rg.goods_nil
  case fin =>
    intro wx hx
    subst hx
    simp only [Rg.later, List.take_succ_cons, List.take_zero, List.drop_succ_cons, List.drop_zero, Act.put, List.setIfInBounds_toArray, List.set_cons_succ, List.set_cons_zero]
    refine wpList_make_cap (enc := z64) rfl _ _ 33 3 rfl 0 8 Try.underlying33 Try.inf3 w.heap.size HX0.out.size _ d rfl rfl rfl (by omega) (by omega) ?_
    intro w1 v1 ho1 hb1
    obtain ⟨a1, k1, hv1, _⟩ := ho1.rd
    subst hv1
    have HO1 : Hid (OwnR 3 z64 w1 w.heap.size (.slice a1 0 k1) (Dl.left (ws.take 0))) := (by rw [h00.out]; exact ho1 : OwnR 3 z64 w1 w.heap.size (.slice a1 0 k1) (Dl.left (ws.take 0)))
    have HX1 : Hid (Ex w w1) := HX0.out.trans hb1
    have e0 : w1.cell? ⟨g, 0, none⟩ = some (.int .i64 (n : Int)) := (HG.out.keep (HX1.out.block g (Array.getElem?_eq_some_iff.1 HG.out).1)).all.1
    clear ho1 hb1 h00 d0
    go_wp2_with fail
    go_loopw [3, 17] (fun v i wr => ∃ k : Nat, k ≤ n ∧ i = .int .i64 (k : Int) ∧ Hid (OwnR 3 z64 wr w.heap.size v (Dl.left (ws.take k))) ∧ Hid (Ex w wr)) (fun _ i _ => n - (intOf i).toNat)
    case atStart => exact ⟨0, by omega, rfl, HO1, HX1⟩
    case round =>
      obtain ⟨k, hk, rfl, HO, HEx⟩ := hrel
      clear e0
      by_cases hlt : k < n
      · have tk : decide ((k : Int) < (n : Int)) = true := by simp; omega
        have hkw : k < ws.length := by rw [HN.out]; exact hlt
        obtain ⟨b, hb⟩ : ∃ b, ws[k] = b := ⟨_, rfl⟩
        have HH : Hid (Dl.has ws (k : Int) = b) := (by rw [Dl.has_nat, List.getD_eq_getElem?_getD, List.getElem?_eq_getElem hkw]; exact hb : Dl.has ws (k : Int) = b)
        have hs := Dl.left_snoc (ws.take k) b
        rw [← hb, ← List.take_succ_eq_append_getElem hkw, List.length_take, Nat.min_eq_left (by omega), hb] at hs
        have HS : Hid (Dl.left (ws.take (k + 1)) = Dl.left (ws.take k) ++ (if b then [] else [(k : Int)])) := hs
        have hll : (Dl.left (ws.take k)).length ≤ 1048576 := by
          have := Dl.left_len (ws.take k)
          have h2 : (ws.take k).length ≤ k := by simp; omega
          omega
        clear hs hb
        go_wp2_with fail
        refine (has_is _ fp ws (k : Int) _ (HM.out.below HEx.out) (by omega) (by omega) b HH.out).mono ?_
        rintro e w5 ⟨rfl, hx5⟩
        have HX5 : Hid (Ex w w5) := HEx.out.trans hx5
        have hov := HO.out.later hx5
        have hsz : w.heap.size ≤ w5.heap.size := HX5.out.size
        clear hx5
        cases b with
        | true =>
          have HO5 : Hid (OwnR 3 z64 w5 w.heap.size _ (Dl.left (ws.take (k + 1)))) := (by rw [HS.out, if_pos rfl, List.append_nil]; exact hov : OwnR 3 z64 w5 w.heap.size _ (Dl.left (ws.take (k + 1))))
          clear hov
          go_wp2_with fail
          go_roundw
          case rel => exact ⟨k + 1, by omega, by go_num, HO5, HX5⟩
          case measure => simp [intOf]; omega
        | false =>
          go_wp2_with (at_builtin; refine wpList_append_rd (e := 3) (enc := z64) rfl (.tmp 24) (.tmp 26) 33 rfl 0 8 Try.underlying33 Try.inf3 rfl (fun _ => rfl) w.heap.size _ (Dl.left (ws.take k)) rfl (hov.alloc _) _ _ _ [(k : Int)] rfl rfl (Rd.laid (enc := z64) w5 3 [(k : Int)] (by simp)) (by simp [maxLen]; omega) (by simp; omega) (by simp; omega) ?_; intro v9 w9 ho9 hg9; have X9 : Ex w w9 := step_belowR (Below.alloc HX5.out hsz _) (by simp; omega) (hov.alloc _) hg9; clear hg9)
          have HO9 : Hid (OwnR 3 z64 w9 w.heap.size v9 (Dl.left (ws.take (k + 1)))) := (by rw [HS.out, if_neg (by simp)]; exact ho9 : OwnR 3 z64 w9 w.heap.size v9 (Dl.left (ws.take (k + 1))))
          have HX9 : Hid (Ex w w9) := X9
          clear ho9 X9 hov
          go_wp2_with fail
          go_roundw
          case rel => exact ⟨k + 1, by omega, by go_num, HO9, HX9⟩
          case measure => simp [intOf]; omega
      · have tk : decide ((k : Int) < (n : Int)) = false := by simp; omega
        have ho := HO.out
        rw [List.take_of_length_le (by rw [HN.out]; omega), HR.out] at ho
        obtain ⟨a4, c4, hv4, hb4⟩ := ho.rd
        subst hv4
        have HB4 : Hid (Rd z64 wr a4 c4 r) := hb4
        clear HO ho hb4
        go_wp2_with fail
        go_ret
        exact ⟨_, rfl, ⟨a4, c4, rfl, HB4.out⟩, HEx.out⟩
/-- What is written when k of the marks are. -/
def Dl.wr (ws : List Bool) (k : Nat) : List Nat := Dl.xs (ws.take k) ++ List.replicate (ws.length - k) 0
theorem Dl.wr_len {ws : List Bool} {k : Nat} (hk : k ≤ ws.length) : (Dl.wr ws k).length = ws.length := by
  simp [Dl.wr, Dl.xs]; omega
theorem Dl.wr_at {ws : List Bool} {k : Nat} (hk : k < ws.length) : Dl.wr ws k = Dl.xs (ws.take k) ++ 0 :: List.replicate (ws.length - (k + 1)) 0 := by
  rw [Dl.wr, show ws.length - k = (ws.length - (k + 1)) + 1 by omega, List.replicate_succ]
theorem Dl.wr_set {ws : List Bool} {k : Nat} (hk : k < ws.length) (h1 : ws[k] = true) : (Dl.wr ws k).set k 1 = Dl.wr ws (k + 1) := by
  have hl : (Dl.xs (ws.take k)).length = k := by rw [Dl.xs_len]; simp; omega
  rw [Dl.wr_at hk, List.set_append_right _ _ (by omega), Dl.wr, List.take_succ_eq_append_getElem hk, Dl.xs_snoc, hl, h1]
  simp [Dl.bw]
theorem Dl.wr_not {ws : List Bool} {k : Nat} (hk : k < ws.length) (h1 : ws[k] = false) : Dl.wr ws k = Dl.wr ws (k + 1) := by
  rw [Dl.wr_at hk, Dl.wr, List.take_succ_eq_append_getElem hk, Dl.xs_snoc, h1]
  simp [Dl.bw]
theorem Dl.wr_zero (ws : List Bool) : Dl.wr ws 0 = List.replicate ws.length 0 := by simp [Dl.wr, Dl.xs]
theorem Dl.wr_all (ws : List Bool) : Dl.wr ws ws.length = Dl.xs ws := by simp [Dl.wr]
set_option maxRecDepth 100000 in
set_option maxHeartbeats 1000000 in
theorem menc_is (v : Value) (fp : Nat → Prop) (ws : List Bool) (w : World) (h : Mk w v fp ws) (r : List UInt8) (hr : Dl.enc ws = r) :
    Calls Try.prog 12 #[v] w fun e w' => ∃ u, e = .returned u ∧ IsByt r u w' ∧ Ex w w' := by
  have HM : Hid (Mk w v fp ws) := h
  obtain ⟨g, q, us, rfl, hg, hrow, hne, hln, hwd, hfp⟩ := h
  obtain ⟨c0, c1⟩ := hg.all
  obtain ⟨n, hn⟩ : ∃ n, ws.length = n := ⟨_, rfl⟩
  have hnl : n ≤ 1048576 := by omega
  have HN : Hid (ws.length = n) := hn
  have HR : Hid (Dl.enc ws = r) := hr
  rw [hn] at c0 hg
  have HG : Hid (MB w g q n us.length) := hg
  have hgl : g < w.heap.size := (Array.getElem?_eq_some_iff.1 hg).1
  have h00 : Hid (Dl.wr ws 0 = List.replicate n 0) := (by rw [Dl.wr_zero, hn] : Dl.wr ws 0 = List.replicate n 0)
  clear hg hrow hwd hfp hln hn hr c1
  go_enter Try.func12, Try.ntmps12
  go_wp2_with (at_make; refine wpList_make_row (enc := n64) rfl _ _ 50 53 rfl 0 8 Try.underlying50 rfl Try.info53 _ _ n rfl rfl rfl rfl (by omega) (by omega) ?_; intro w1 hr1 hb1)
  have HR1 : Hid (RowAt n64 53 w1 w.heap.size (Dl.wr ws 0)) := (by rw [h00.out]; exact hr1 : RowAt n64 53 w1 w.heap.size (Dl.wr ws 0))
  have HX1 : Hid (Ex w w1) := hb1
  clear hr1 hb1 h00
  go_wp2_with fail
  go_loopw [14] (fun i wr => ∃ k : Nat, k ≤ n ∧ i = .int .i64 (k : Int) ∧ Hid (RowAt n64 53 wr w.heap.size (Dl.wr ws k)) ∧ Hid (Ex w wr)) (fun i _ => n - (intOf i).toNat)
  case atStart => exact ⟨0, by omega, rfl, HR1, HX1⟩
  case round =>
    obtain ⟨k, hk, rfl, HO, HEx⟩ := hrel
    clear c0
    by_cases hlt : k < n
    · have tk : decide ((k : Int) < (n : Int)) = true := by simp; omega
      have hki : (k : Int) < (n : Int) := by omega
      have hkw : k < ws.length := by rw [HN.out]; exact hlt
      obtain ⟨b, hb⟩ : ∃ b, ws[k] = b := ⟨_, rfl⟩
      have HH : Hid (Dl.has ws (k : Int) = b) := (by rw [Dl.has_nat, List.getD_eq_getElem?_getD, List.getElem?_eq_getElem hkw]; exact hb : Dl.has ws (k : Int) = b)
      have HKb : Hid (ws[k] = b) := hb
      clear hb
      go_wp2_with fail
      refine (has_is _ fp ws (k : Int) _ (HM.out.below HEx.out) (by omega) (by omega) b HH.out).mono ?_
      rintro e w5 ⟨rfl, hx5⟩
      have HX5 : Hid (Ex w w5) := HEx.out.trans hx5
      have HO5 : Hid (RowAt n64 53 w5 w.heap.size (Dl.wr ws k)) := HO.out.below hx5
      have hfz : w5.frozen? ⟨w.heap.size, k, none⟩ = false := HO5.out.frozen k
      have hlL : k < (Dl.wr ws k).length := by rw [Dl.wr_len (by omega)]; exact hkw
      obtain ⟨z, hz⟩ : ∃ z, z = (Dl.wr ws k)[k] := ⟨_, rfl⟩
      have hck : w5.cell? ⟨w.heap.size, k, none⟩ = some (.int .u64 (z : Int)) := by have := HO5.out.cell hlL; rw [← hz] at this; exact this
      clear hx5 hz
      cases b with
      | true =>
        have HO6 : Hid (RowAt n64 53 (w5.setCell ⟨w.heap.size, k, none⟩ (.int .u64 1)) w.heap.size (Dl.wr ws (k + 1))) := (by rw [← Dl.wr_set hkw HKb.out]; exact HO5.out.set (k := k) 1 rfl : RowAt n64 53 (w5.setCell ⟨w.heap.size, k, none⟩ (.int .u64 1)) w.heap.size (Dl.wr ws (k + 1)))
        have HX6 : Hid (Ex w (w5.setCell ⟨w.heap.size, k, none⟩ (.int .u64 1))) := (Below.setCell HX5.out (p := ⟨w.heap.size, k, none⟩) (Nat.le_refl _) _ : Ex w (w5.setCell ⟨w.heap.size, k, none⟩ (.int .u64 1)))
        go_wp2_with fail
        go_roundw
        case rel => exact ⟨k + 1, by omega, by go_num, HO6, HX6⟩
        case measure => simp [intOf]; omega
      | false =>
        have HO6 : Hid (RowAt n64 53 w5 w.heap.size (Dl.wr ws (k + 1))) := (by rw [← Dl.wr_not hkw HKb.out]; exact HO5.out : RowAt n64 53 w5 w.heap.size (Dl.wr ws (k + 1)))
        go_wp2_with fail
        go_roundw
        case rel => exact ⟨k + 1, by omega, by go_num, HO6, HX5⟩
        case measure => simp [intOf]; omega
    · have tk : decide ((k : Int) < (n : Int)) = false := by simp; omega
      obtain ⟨XL, hXL⟩ : ∃ XL, Dl.xs ws = XL := ⟨_, rfl⟩
      have hXl : XL.length = n := by rw [← hXL, Dl.xs_len, HN.out]
      have ho : RowAt n64 53 wr w.heap.size XL := by
        have h := HO.out
        rw [show k = ws.length by rw [HN.out]; omega, Dl.wr_all, hXL] at h
        exact h
      have HXl : Hid (XL.length = n) := hXl
      obtain ⟨E, hE⟩ : ∃ E, R.enc 1 XL = E := ⟨_, rfl⟩
      have hEl : E.length ≤ 50 * n := by rw [← hE, ← hXL, ← HN.out]; exact R.enc_len1 ws
      have HE : Hid (R.encE XL 1 = (E, 0)) := (by rw [← hXL, Dl.encE_xs, hXL, hE] : R.encE XL 1 = (E, 0))
      have HL64 : Hid (∀ x ∈ XL, x < 18446744073709551616) := (fun x hx => by rw [← hXL] at hx; have := Dl.xs_le x hx; omega : ∀ x ∈ XL, x < 18446744073709551616)
      have HR2 : Hid (M.digs n ++ E = r) := (by rw [← HR.out, Dl.enc, hXL, hE, HN.out] : M.digs n ++ E = r)
      have HB4 : Hid (Rd n64 wr (some ⟨w.heap.size, 0, none⟩) n XL) := ho.rd hXl.symm (by omega)
      clear HO ho hXL hE hXl
      go_wp2_with fail
      refine (enc_is _ n n XL 1 _ HXl.out.symm HB4.out HL64.out (by have := HXl.out; omega) E 0 HE.out).mono ?_
      rintro e w1 ⟨v1, rfl, ⟨a6, c6, hv6, hb6⟩, hx1⟩
      subst hv6
      have HB6 : Hid (Byt w1 a6 c6 E) := hb6
      have HX1 : Hid (Ex w w1) := HEx.out.trans hx1
      have e0 : w1.cell? ⟨g, 0, none⟩ = some (.int .i64 (n : Int)) := (HG.out.keep (HX1.out.block g hgl)).all.1
      clear hb6 hx1
      go_wp2_with fail
      refine (put_is none 0 0 [] (M.digs n) _ n _ (by first | rfl | omega) (by simp) (Byt.nil _) rfl (by omega) (by simp)).mono ?_
      rintro e w2 ⟨v2, rfl, ho2, hx2⟩
      have hd := M.digs_len n
      have HX2 : Hid (Ex w w2) := HX1.out.trans hx2
      have hov : Own w2 w.heap.size v2 (M.digs n) := ho2.mono HX1.out.size
      have hb6 := HB6.out.below hx2
      have hsz2 : w.heap.size ≤ w2.heap.size := HX2.out.size
      clear ho2 e0
      go_wp2_with (at_builtin; refine wpList_append_byt rfl (.tmp 34) (.tmp 35) rfl w.heap.size _ (M.digs n) rfl hov a6 _ c6 E rfl rfl hb6 (by omega) hsz2 ?_; intro v3 w3 ho3 hg3; have X3 : Ex w w3 := step_below0 HX2.out hsz2 hov hg3; clear hg3; rw [HR2.out] at ho3)
      go_ret
      exact ⟨_, rfl, ho3.isByt, X3⟩
end Go.Proofs.Ytkhbkifofkjjnaa
namespace Go.Proofs.Ytkhbkifofkjjnaa
open Go.RowKit
set_option linter.unusedVariables false
set_option linter.unusedSimpArgs false
/-- What is marked when k of n numbers are read. -/
def Dl.upTo (x : List Nat) (n k : Nat) : List Bool := (x.take k).map (fun n => n == 1) ++ List.replicate (n - k) false
theorem Dl.upTo_len {x : List Nat} {n k : Nat} (hx : x.length = n) (hk : k ≤ n) : (Dl.upTo x n k).length = n := by
  simp [Dl.upTo]; omega
theorem Dl.upTo_zero (x : List Nat) (n : Nat) : Dl.upTo x n 0 = List.replicate n false := by simp [Dl.upTo]
theorem Dl.upTo_all {x : List Nat} {n : Nat} (hx : x.length = n) : Dl.upTo x n n = x.map (fun n => n == 1) := by
  simp [Dl.upTo, ← hx]
theorem Dl.upTo_at {x : List Nat} {n k : Nat} (hx : x.length = n) (hk : k < n) : Dl.upTo x n k = (x.take k).map (fun n => n == 1) ++ false :: List.replicate (n - (k + 1)) false := by
  rw [Dl.upTo, show n - k = (n - (k + 1)) + 1 by omega, List.replicate_succ]
theorem Dl.upTo_has {x : List Nat} {n k : Nat} (hx : x.length = n) (hk : k < n) : (Dl.upTo x n k).getD k false = false := by
  rw [Dl.upTo_at hx hk, List.getD_eq_getElem?_getD, List.getElem?_append_right (by simp; omega)]
  simp [show k - min k x.length = 0 by omega]
theorem Dl.upTo_set {x : List Nat} {n k : Nat} (hx : x.length = n) (hk : k < n) (h1 : (x.getD k 0 == 1) = true) : (Dl.upTo x n k).set k true = Dl.upTo x n (k + 1) := by
  have hkx : k < x.length := by omega
  rw [Dl.upTo_at hx hk, List.set_append_right _ _ (by simp; omega)]
  rw [Dl.upTo, List.take_succ_eq_append_getElem hkx, List.map_append]
  rw [List.getD_eq_getElem?_getD, List.getElem?_eq_getElem hkx] at h1
  simp only [Option.getD_some] at h1
  simp [show k - min k x.length = 0 by omega, h1]
theorem Dl.upTo_not {x : List Nat} {n k : Nat} (hx : x.length = n) (hk : k < n) (h1 : (x.getD k 0 == 1) = false) : Dl.upTo x n k = Dl.upTo x n (k + 1) := by
  have hkx : k < x.length := by omega
  rw [Dl.upTo_at hx hk, Dl.upTo, List.take_succ_eq_append_getElem hkx, List.map_append]
  rw [List.getD_eq_getElem?_getD, List.getElem?_eq_getElem hkx] at h1
  simp only [Option.getD_some] at h1
  simp [h1]
set_option maxRecDepth 100000 in
set_option maxHeartbeats 1000000 in
theorem mdec_ok (a : Option Addr) (len cap : Nat) (b : List UInt8) (p : Int) (w : World) (hlen : len = b.length) (hB : Byt w a cap b) (hbl : b.length ≤ 140737488355328) (hp : -9223372036854775808 ≤ p ∧ p ≤ 9223372036854775807) (ws : List Bool) (k0 : Nat) (hr : Dl.dec b p = (ws, k0, 0)) :
    Calls Try.prog 10 #[.slice a len cap, .int .i64 p] w fun e w' => ∃ v fp, e = .returned (.tuple #[v, .int .i64 k0, .int .i64 0]) ∧ Mk w' v fp ws ∧ (∀ k, fp k → w.heap.size ≤ k) ∧ Ex w w' := by
  subst hlen
  obtain ⟨⟨n, K, e1⟩, hg⟩ : ∃ x, M.get b p = x := ⟨_, rfl⟩
  have hall := M.get_all b p
  rw [hg] at hall
  have hn64 : n < 18446744073709551616 := hall.1
  have hKb : K ≤ b.length := hall.2.1
  unfold Dl.dec at hr
  rw [hg] at hr
  simp only at hr
  have HB : Hid (Byt w a cap b) := hB
  have HG : Hid (M.get b p = (n, K, e1)) := hg
  clear hall hg hB
  by_cases he : e1 = 0
  · subst he
    rw [if_neg (by simp)] at hr
    by_cases hbig : 1048576 < n
    · rw [if_pos hbig] at hr
      simp at hr
    · rw [if_neg hbig] at hr
      have t1 : decide (1048576 < n) = false := by simp; omega
      have t2 : decide ((1048576 : Int) < (n : Int)) = false := by simp; omega
      obtain ⟨⟨x, k2, e2⟩, hd⟩ : ∃ z, R.dec b (K : Int) (n : Int) 1 = z := ⟨_, rfl⟩
      rw [hd] at hr
      simp only at hr
      have HD : Hid (R.dec b (K : Int) (n : Int) 1 = (x, k2, e2)) := hd
      by_cases he2 : e2 = 0
      · subst he2
        have hok := R.dec_ok hd
        rw [if_neg (by simp)] at hr
        simp only [Prod.mk.injEq] at hr
        obtain ⟨hws, rfl, _⟩ := hr
        have hxl : x.length = n := by have := hok.2.2.2.2.2.2.1; omega
        have hnl : n ≤ 1048576 := by omega
        have HXl : Hid (x.length = n) := hxl
        have HW : Hid (x.map (fun n => n == 1) = ws) := hws
        have h0 : Hid (Dl.upTo x n 0 = List.replicate n false) := Dl.upTo_zero x n
        have hxl1 : x.length ≤ n := by omega
        have hxl2 : n ≤ x.length := by omega
        clear hd hok hws hxl
        go_enter Try.func10, Try.ntmps10
        go_wp2_with fail
        refine (get_is a _ cap b p _ n K 0 HG.out HB.out rfl).mono ?_
        rintro e wq ⟨rfl, hw⟩
        have hw' := hw.symm; clear hw; subst hw'
        go_wp2_with fail
        refine (dec_is a _ cap b (K : Int) (n : Int) 1 _ rfl HB.out hbl x k2 0 HD.out).mono ?_
        rintro e w1 ⟨v1, rfl, ⟨a1, c1, hv1, hb1⟩, hx1⟩
        subst hv1
        have hc1 := hb1.1
        have hc2 := hb1.2.1
        unfold maxLen at hc2
        have HB1 : Hid (Rd n64 w1 a1 c1 x) := hb1
        have HX1 : Hid (Ex w w1) := hx1
        clear hb1 hx1
        go_wp2_with fail
        refine (unm_is n _ hnl).mono ?_
        rintro e w2 ⟨v2, fp2, rfl, hm2, hf2, hx2⟩
        obtain ⟨g, rfl⟩ := hm2.some_
        have HM2 : Hid (Mk w2 (.pointer (some ⟨g, 0, none⟩)) fp2 (Dl.upTo x n 0)) := (by rw [h0.out]; exact hm2 : Mk w2 (.pointer (some ⟨g, 0, none⟩)) fp2 (Dl.upTo x n 0))
        have HF2 : Hid (∀ k, fp2 k → w1.heap.size ≤ k) := hf2
        have HX2 : Hid (Ex w1 w2) := hx2
        clear hm2 hf2 hx2 h0
        go_wp2_with fail
        go_loopw [43] (fun i wr => ∃ (k : Nat) (fp : Nat → Prop), k ≤ x.length ∧ i = .int .i64 k ∧ Hid (Mk wr (.pointer (some ⟨g, 0, none⟩)) fp (Dl.upTo x n k)) ∧ Hid (∀ k, fp k → w1.heap.size ≤ k) ∧ Hid (Ex w1 wr)) (fun i _ => x.length - (intOf i).toNat)
        case atStart => exact ⟨0, fp2, by omega, rfl, HM2, HF2, HX2⟩
        case round =>
          obtain ⟨k, fp, hk, rfl, HM, HF, HEx⟩ := hrel
          by_cases hlt : k < x.length
          · obtain ⟨bb, off, rfl, hc⟩ := (HB1.out.below HEx.out).at hlt
            obtain ⟨y, hy⟩ : ∃ y, y = x[k] := ⟨_, rfl⟩
            rw [← hy] at hc
            have hc' : wr.cell? ⟨bb, off + k, none⟩ = some (.int .u64 (y : Int)) := hc
            have hki : (k : Int) < (x.length : Int) := by omega
            have tk : decide ((k : Int) < (x.length : Int)) = true := by simp; omega
            obtain ⟨c, hcc⟩ : ∃ c, (y == 1) = c := ⟨_, rfl⟩
            have hci : ((y : Int) == 1) = c := by rw [← hcc]; rw [Bool.eq_iff_iff]; simp; omega
            have hxk : (x.getD k 0 == 1) = c := by rw [List.getD_eq_getElem?_getD, List.getElem?_eq_getElem hlt, Option.getD_some, ← hy]; exact hcc
            have hkn : k < n := by omega
            cases c with
            | true =>
              have HS : Hid ((Dl.upTo x n k).set k true = Dl.upTo x n (k + 1)) := Dl.upTo_set HXl.out hkn hxk
              have hsb : Dl.setB (Dl.upTo x n k) (k : Int) = true := by
                rw [Dl.setB, Dl.upTo_len HXl.out (by omega), Dl.has_nat, Dl.upTo_has HXl.out hkn, decide_eq_true (by omega), decide_eq_true (by omega)]; rfl
              have HSB : Hid (Dl.setB (Dl.upTo x n k) (k : Int) = true) := hsb
              have HSW : Hid (Dl.setW (Dl.upTo x n k) (k : Int) = Dl.upTo x n (k + 1)) := (by rw [Dl.setW, if_pos hsb, Int.toNat_natCast]; exact HS.out : Dl.setW (Dl.upTo x n k) (k : Int) = Dl.upTo x n (k + 1))
              clear hc hy hcc hxk hsb HS
              go_wp2_with fail
              refine (set_is _ fp (Dl.upTo x n k) (k : Int) _ HM.out (by omega) (by omega) true HSB.out (Dl.upTo x n (k + 1)) HSW.out).mono ?_
              rintro e w5 ⟨rfl, fp5, hm5, ht5, hf5⟩
              have HM5 : Hid (Mk w5 (.pointer (some ⟨g, 0, none⟩)) fp5 (Dl.upTo x n (k + 1))) := hm5
              have HF5 : Hid (∀ k, fp5 k → w1.heap.size ≤ k) := (fun c hcc => by
                rcases hf5 c hcc with h1 | h1
                · exact HF.out c h1
                · have := HEx.out.size; omega : ∀ k, fp5 k → w1.heap.size ≤ k)
              have HX5 : Hid (Ex w1 w5) := Touch.ex HEx.out ht5 HF.out
              clear hm5 ht5 hf5
              go_wp2_with fail
              go_roundw
              case rel => exact ⟨k + 1, fp5, by omega, by go_num, HM5, HF5, HX5⟩
              case measure => simp [intOf]; omega
            | false =>
              have hS := Dl.upTo_not HXl.out hkn hxk
              have HM5 : Hid (Mk wr (.pointer (some ⟨g, 0, none⟩)) fp (Dl.upTo x n (k + 1))) := (by rw [← hS]; exact HM.out : Mk wr (.pointer (some ⟨g, 0, none⟩)) fp (Dl.upTo x n (k + 1)))
              clear hc hy hcc hxk hS
              go_wp2_with fail
              go_roundw
              case rel => exact ⟨k + 1, fp, by omega, by go_num, HM5, HF, HEx⟩
              case measure => simp [intOf]; omega
          · have tk : decide ((k : Int) < (x.length : Int)) = false := by simp; omega
            have HM5 : Hid (Mk wr (.pointer (some ⟨g, 0, none⟩)) fp ws) := (by have h := HM.out; rw [show k = n by omega, Dl.upTo_all HXl.out, HW.out] at h; exact h : Mk wr (.pointer (some ⟨g, 0, none⟩)) fp ws)
            go_wp2_with fail
            go_ret3
            exact ⟨_, fp, rfl, HM5.out, fun c hcc => Nat.le_trans HX1.out.size (HF.out c hcc), HX1.out.trans HEx.out⟩
      · rw [if_pos he2] at hr
        simp at hr
        omega
  · rw [if_pos he] at hr
    simp at hr
    omega
set_option maxRecDepth 100000 in
set_option maxHeartbeats 1000000 in
theorem mdec_bad (a : Option Addr) (len cap : Nat) (b : List UInt8) (p : Int) (w : World) (hlen : len = b.length) (hB : Byt w a cap b) (hbl : b.length ≤ 140737488355328) (hp : -9223372036854775808 ≤ p ∧ p ≤ 9223372036854775807) (ws : List Bool) (k0 e0 : Nat) (hr : Dl.dec b p = (ws, k0, e0)) (he : e0 ≠ 0) :
    Calls Try.prog 10 #[.slice a len cap, .int .i64 p] w fun e w' => e = .returned (.tuple #[.pointer none, .int .i64 0, .int .i64 e0]) ∧ Ex w w' := by
  subst hlen
  obtain ⟨⟨n, K, e1⟩, hg⟩ : ∃ x, M.get b p = x := ⟨_, rfl⟩
  have hall := M.get_all b p
  rw [hg] at hall
  have hn64 : n < 18446744073709551616 := hall.1
  have hKb : K ≤ b.length := hall.2.1
  have he12 : e1 ≤ 12 := hall.2.2
  unfold Dl.dec at hr
  rw [hg] at hr
  simp only at hr
  have HB : Hid (Byt w a cap b) := hB
  have HG : Hid (M.get b p = (n, K, e1)) := hg
  clear hall hg hB
  by_cases he : e1 = 0
  · subst he
    rw [if_neg (by simp)] at hr
    by_cases hbig : 1048576 < n
    · rw [if_pos hbig] at hr
      simp only [Prod.mk.injEq] at hr
      obtain ⟨rfl, rfl, rfl⟩ := hr
      have t1 : decide (1048576 < n) = true := by simp; omega
      have t2 : decide ((1048576 : Int) < (n : Int)) = true := by simp; omega
      go_enter Try.func10, Try.ntmps10
      go_wp2_with fail
      refine (get_is a _ cap b p _ n K 0 HG.out HB.out rfl).mono ?_
      rintro e wq ⟨rfl, hw⟩
      have hw' := hw.symm; clear hw; subst hw'
      go_wp2
      go_ret3
      exact ⟨rfl, Ex.refl _⟩
    · rw [if_neg hbig] at hr
      have t1 : decide (1048576 < n) = false := by simp; omega
      have t2 : decide ((1048576 : Int) < (n : Int)) = false := by simp; omega
      obtain ⟨⟨x, k2, e2⟩, hd⟩ : ∃ z, R.dec b (K : Int) (n : Int) 1 = z := ⟨_, rfl⟩
      rw [hd] at hr
      simp only at hr
      have HD : Hid (R.dec b (K : Int) (n : Int) 1 = (x, k2, e2)) := hd
      by_cases he2 : e2 = 0
      · subst he2
        rw [if_neg (by simp)] at hr
        simp only [Prod.mk.injEq] at hr
        omega
      · rw [if_pos he2] at hr
        simp only [Prod.mk.injEq] at hr
        obtain ⟨rfl, rfl, rfl⟩ := hr
        have tne : ((e2 : Int) != 0) = true := by simp; omega
        clear hd
        go_enter Try.func10, Try.ntmps10
        go_wp2_with fail
        refine (get_is a _ cap b p _ n K 0 HG.out HB.out rfl).mono ?_
        rintro e wq ⟨rfl, hw⟩
        have hw' := hw.symm; clear hw; subst hw'
        go_wp2_with fail
        refine (dec_is a _ cap b (K : Int) (n : Int) 1 _ rfl HB.out hbl x k2 e2 HD.out).mono ?_
        rintro e w1 ⟨v1, rfl, ⟨a1, c1, hv1, hb1⟩, hx1⟩
        subst hv1
        clear hb1
        go_wp2
        go_ret3
        exact ⟨rfl, hx1⟩
  · rw [if_pos he] at hr
    simp only [Prod.mk.injEq] at hr
    obtain ⟨rfl, rfl, rfl⟩ := hr
    have tne : ((e1 : Int) != 0) = true := by simp; omega
    go_enter Try.func10, Try.ntmps10
    go_wp2_with fail
    refine (get_is a _ cap b p _ n K e1 HG.out HB.out rfl).mono ?_
    rintro e wq ⟨rfl, hw⟩
    have hw' := hw.symm; clear hw; subst hw'
    go_wp2
    go_ret3
    exact ⟨rfl, Ex.refl _⟩
end Go.Proofs.Ytkhbkifofkjjnaa
