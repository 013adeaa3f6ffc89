/-
  The walk of RowSorts.
-/
import Derived.Test.YtghnbohplonhoaaRknown
import Derived.Test.YtghnbohplonhoaaRsorts
import Derived.Test.YtghnbohplonhoaaRstore
import Derived.Test.YtghnbohplonhoaaRrsort
namespace Go.Proofs.Ytghnbohplonhoaa
open Go.RowKit
set_option linter.unusedVariables false
set_option linter.unusedSimpArgs false
abbrev bl : Bool → Value := fun x => .bool x
/-- One cell in a row of its own; a row; one row in a row of its own: made since there were base blocks. -/
def IsC1 (c : Ce) (v : Value) (w : World) : Prop := ∃ g, v = .slice (some ⟨g, 0, none⟩) 1 1 ∧ RdC w (some ⟨g, 0, none⟩) 1 [c]
def IsRw (base : Nat) (r : Rw) (v : Value) (w : World) : Prop := ∃ p cp, v = rvv ⟨r.t, r.q, p, r.c.length, cp⟩ ∧ RdC w p cp r.c ∧ ∀ q, (Value.slice p r.c.length cp).ownBlock = some q → base ≤ q
def IsR1 (base : Nat) (r : Rw) (v : Value) (w : World) : Prop := ∃ g p cp, v = .slice (some ⟨g, 0, none⟩) 1 1 ∧ RdW 3 rc w (some ⟨g, 0, none⟩) 1 [⟨r.t, r.q, p, r.c.length, cp⟩] ∧ RdC w p cp r.c ∧ ∀ q, (Value.slice p r.c.length cp).ownBlock = some q → base ≤ q
theorem IsC1.stands (c : Ce) : ∀ v w w', IsC1 c v w → Ex w w' → IsC1 c v w' := by
  rintro v w w' ⟨g, h1, h2⟩ hx
  exact ⟨g, h1, RdW.below h2 hx⟩
theorem IsRw.stands (base : Nat) (r : Rw) : ∀ v w w', IsRw base r v w → Ex w w' → IsRw base r v w' := by
  rintro v w w' ⟨p, cp, h1, h2, h3⟩ hx
  exact ⟨p, cp, h1, RdW.below h2 hx, h3⟩
theorem IsR1.stands (base : Nat) (r : Rw) : ∀ v w w', IsR1 base r v w → Ex w w' → IsR1 base r v w' := by
  rintro v w w' ⟨g, p, cp, h1, h2, h3, h4⟩ hx
  exact ⟨g, p, cp, h1, RdW.below h2 hx, RdW.below h3 hx, h4⟩
theorem run_c1 {o : Oper} (ρ : Operand → Value) (w : World) (x : Operand) (c : Ce) (ho : o.op = .buildSlice 23 1 #[(0, x)]) (h2 : ρ x = cv c) : (execOp ρ o).run Try.prog w = .ok (.value (.slice (some ⟨w.heap.size, 0, none⟩) 1 1)) (w.alloc (cb c)) := by
  simp [execOp, ho, h2, go_sem, cv]
theorem run_r1 {o : Oper} (ρ : Operand → Value) (w : World) (x : Operand) (v : RV) (ho : o.op = .buildSlice 31 1 #[(0, x)]) (h2 : ρ x = rvv v) : (execOp ρ o).run Try.prog w = .ok (.value (.slice (some ⟨w.heap.size, 0, none⟩) 1 1)) (w.alloc (rb v)) := by
  simp [execOp, ho, h2, go_sem, rvv, sv]
namespace Rg
section
variable {ops : Array Oper} {specs : List Spec} {a0 : Act} {w1 : World} {o : Oper}
theorem good_c1 {x : Operand} {c : Ce} (ho : o.op = .buildSlice 23 1 #[(0, x)]) (hg : guardV ops specs a0 o = some true) (hx : argS ops specs a0 x = .inl (cv c)) : GoodOp Try.prog ops specs a0 (Ex w1) Ex o (.inr (IsC1 c)) :=
  good_of hg fun Q a w hC hs => by
    have h1 := hs x (by rw [ho]; simp [Op.operands])
    rw [hx] at h1
    have h2 : a.eval x = cv c := h1
    have hr : (execOp a.eval o).run Try.prog w = .ok (.value (.slice (some ⟨w.heap.size, 0, none⟩) 1 1)) (w.alloc (cb c)) := run_c1 _ w x c ho h2
    unfold Oper.wp
    rw [hr]
    have hX : Ex w (w.alloc (cb c)) := (Below.refl _ _).alloc (Nat.le_refl _) _
    exact ⟨_, rfl, ⟨w.heap.size, rfl, RdW.laid (t := 25) cc_len w [c] (by simp)⟩, hX, hC.trans hX⟩
theorem good_r1 {x : Operand} {base : Nat} {r : Rw} (ho : o.op = .buildSlice 31 1 #[(0, x)]) (hg : guardV ops specs a0 o = some true) (hx : argS ops specs a0 x = .inr (IsRw base r)) : GoodOp Try.prog ops specs a0 (Ex w1) Ex o (.inr (IsR1 base r)) :=
  good_of hg fun Q a w hC hs => by
    have h1 := hs x (by rw [ho]; simp [Op.operands])
    rw [hx] at h1
    obtain ⟨p, cp, h2, h3, h4⟩ := h1
    have hr : (execOp a.eval o).run Try.prog w = .ok (.value (.slice (some ⟨w.heap.size, 0, none⟩) 1 1)) (w.alloc (rb ⟨r.t, r.q, p, r.c.length, cp⟩)) := run_r1 _ w x _ ho h2
    unfold Oper.wp
    rw [hr]
    have hX : Ex w (w.alloc (rb ⟨r.t, r.q, p, r.c.length, cp⟩)) := (Below.refl _ _).alloc (Nat.le_refl _) _
    exact ⟨_, rfl, ⟨w.heap.size, p, cp, rfl, RdW.laid (t := 28) rc_len w [⟨r.t, r.q, p, r.c.length, cp⟩] (by simp), RdW.below h3 hX, h4⟩, hX, hC.trans hX⟩
end
end Rg
theorem at_row {w1 wx : World} {t q : Int} {c : Ce} {v : Value} (hv : IsC1 c v wx) (hC : Ex w1 wx) :
    Calls Try.prog 10 #[.int .i64 t, .int .i64 q, v] wx fun e w' => ∃ u, e = .returned u ∧ Rg.Spec.ok (.inr (IsRw w1.heap.size ⟨t, q, [c]⟩)) u w' ∧ Ex wx w' ∧ Ex w1 w' := by
  obtain ⟨g, rfl, hr⟩ := hv
  refine (at_is t q _ 1 1 [c] wx rfl hr (by simp)).mono ?_
  rintro e w' ⟨⟨p, n, cp⟩, rfl, hn, ho, hx⟩
  simp only at hn
  subst hn
  obtain ⟨a, cp', hv, hrd⟩ := ho.rd cc_len
  simp only [sv, Value.slice.injEq] at hv
  obtain ⟨rfl, _, rfl⟩ := hv
  refine ⟨_, rfl, ⟨p, cp, rfl, hrd, fun q hq => Nat.le_trans hC.size (ho.lt q hq).1⟩, hx, hC.trans hx⟩
theorem Rw.made_ok {l : List Rw} (h : Rw.Made l) (hl : l.length ≤ 20) : ∀ r ∈ l, RwOk r := by
  intro r hr
  obtain ⟨j, hj⟩ := List.getElem?_of_mem hr
  obtain ⟨h1, h2, h3⟩ := h j r hj
  have hjl := (List.getElem?_eq_some_iff.1 hj).1
  refine ⟨h1, by rw [h2]; exact ⟨by omega, by omega⟩, fun c hc => ?_⟩
  rw [h3] at hc
  simp at hc
  subst hc
  unfold maxLen
  exact ⟨by simp, by simp, ⟨by simp, by simp⟩, ⟨by simp only; omega, by simp only; omega⟩⟩
/-- A sorted row of such, as it lies. -/
theorem Rw.made_cells {w : World} {a : Option Addr} {cap i : Nat} {LL S : List Rw} {r : Rw} (hM : Rw.Made LL) (hS : Rw.sort LL = S) (h : RdR w a cap S) (hr : S[i]? = some r) :
    ∃ b off bc oc cr k : Nat, a = some ⟨b, off, none⟩ ∧ w.cell? ⟨b, off + i * 3, none⟩ = some (.int .i64 r.t) ∧ w.cell? ⟨b, off + i * 3 + 1, none⟩ = some (.int .i64 r.q) ∧ w.cell? ⟨b, off + i * 3 + 2, none⟩ = some (.slice (some ⟨bc, oc, none⟩) 1 cr) ∧ w.cell? ⟨bc, oc + 2, none⟩ = some (.int .i64 k) ∧ RdC w (some ⟨bc, oc, none⟩) cr r.c ∧ cr ≤ 9223372036854775807 ∧ 1 ≤ cr ∧ r.c.length = 1 ∧ Rw.num r = (k : Int) ∧ k < LL.length := by
  obtain ⟨k, hkl, hkr, hrc⟩ := hM.at (i := i) (r := r) (by rw [hS]; exact hr)
  have hi := (List.getElem?_eq_some_iff.1 hr).1
  have he := (List.getElem?_eq_some_iff.1 hr).2
  obtain ⟨b, off, pr, cr, hp, e0, e1, e2, hrd⟩ := h.at hi
  rw [he] at e0 e1 e2 hrd
  have hc1 : r.c.length = 1 := by rw [hrc]; rfl
  obtain ⟨bc, oc, hpr, _, _, y2, _⟩ := RdC.four hrd (i := 0) (by omega)
  subst hpr
  simp only [Nat.zero_mul, Nat.add_zero] at y2
  rw [hc1] at e2
  have hcr := hrd.2.1
  have hcr1 := hrd.1
  unfold maxLen at hcr
  refine ⟨b, off, bc, oc, cr, k, hp, e0, e1, e2, ?_, hrd, by omega, by omega, hc1, by unfold Rw.num; rw [hrc], hkl⟩
  rw [y2]
  simp [hrc]
end Go.Proofs.Ytghnbohplonhoaa
namespace Go.Proofs.Ytghnbohplonhoaa.rowSorts
open Go.RowKit Go.Proofs.Ytghnbohplonhoaa
set_option linter.unusedVariables false
set_option linter.unusedSimpArgs false
set_option maxRecDepth 100000 in
set_option maxHeartbeats 16000000 in
theorem walk (p0 : Option Addr) (c0 : Nat) (l0 : List Rw) (w : World) (b0 : RdR w p0 c0 l0) (m0 : ∀ r ∈ l0, RowOk r ∧ r.c.length ≤ 2932031007402) :
    Calls Try.prog 6 #[.slice p0 l0.length c0] w fun e w' => e = .returned (.bool true) ∧ Below w.heap.size w w' := by
  have HB0 : Hid (RdR w p0 c0 l0) := b0
  have HM0 : Hid (∀ r ∈ l0, In64 r.t) := (fun r hr => (m0 r hr).1.1 : ∀ r ∈ l0, In64 r.t)
  have hb0 := b0.bounds.1
  have hb01 := b0.bounds.2.1
  unfold maxLen at hb01
  have hO0 : OwnL w w.heap.size (.slice none 0 0) [] := OwnL.nil w _
  clear b0 m0
  go_enter Try.func6, Try.ntmps6
  go_wp2_with fail
  go_loopw [3, 4] (fun v vi wr => ∃ j : Nat, j ≤ l0.length ∧ j ≤ 20 ∧ vi = .int .i64 j ∧ Hid (∃ (LL : List Rw) (vv : Value), vv = v ∧ LL.length = j ∧ Rw.Made LL ∧ OwnL wr w.heap.size vv LL) ∧ Hid (Ex w wr)) (fun v vi wr => 20 - (intOf vi).toNat)
  case atStart => exact ⟨0, by omega, by omega, rfl, (⟨[], _, rfl, rfl, Rw.Made.nil, hO0⟩ : ∃ (LL : List Rw) (vv : Value), vv = .slice none 0 0 ∧ LL.length = 0 ∧ Rw.Made LL ∧ OwnL w w.heap.size vv LL), Ex.refl _⟩
  case round =>
    obtain ⟨j, hj, hj2, rfl, HV, HXr⟩ := hrel
    obtain ⟨LL, vv, hvv, hLL, hMd, hOwn⟩ := HV.out
    subst hvv
    have HMd : Hid (Rw.Made LL) := hMd
    have HOwn : Hid (OwnL wr w.heap.size vv LL) := hOwn
    have HLl : Hid (LL.length = j) := hLL
    clear HV hMd hOwn hLL hO0
    by_cases hgo : j < l0.length ∧ j < 20
    · have hlt := hgo.1
      have hlt20 := hgo.2
      have t1 : decide ((j : Int) < (l0.length : Int)) = true := by simp; omega
      have t2 : decide ((j : Int) < 20) = true := by simp; omega
      have t3 : decide (j < 20) = true := by simp; omega
      obtain ⟨b1, o1, p1, c1, hp, e0, e1, e2, _⟩ := (HB0.out.below HXr.out).at hlt
      subst hp
      obtain ⟨tt, htt⟩ : ∃ t, l0[j].t = t := ⟨_, rfl⟩
      have hti := HM0.out l0[j] (List.getElem_mem hlt)
      rw [htt] at e0 hti
      have hti1 := hti.1
      have hti2 := hti.2
      have h4a := Int.tmod_lt_of_pos tt (show 0 < (4 : Int) by omega)
      have h4b := Int.lt_tmod_of_pos tt (show 0 < (4 : Int) by omega)
      obtain ⟨t4, ht4⟩ : ∃ t, tt.tmod 4 = t := ⟨_, rfl⟩
      rw [ht4] at h4a h4b
      obtain ⟨q2, hq2⟩ : ∃ q : Nat, j % 2 = q := ⟨_, rfl⟩
      have hq2i : (j : Int) % 2 = (q2 : Int) := by omega
      have hq2t : (j : Int).tmod 2 = (q2 : Int) := by rw [Int.tmod_eq_emod_of_nonneg (by omega)]; exact hq2i
      have HT4 : Hid (tt.tmod 4 = t4) := ht4
      obtain ⟨r, hr⟩ : ∃ r : Rw, r = ⟨t4, (q2 : Int), [⟨[110], 1, (j : Int), []⟩]⟩ := ⟨_, rfl⟩
      have HMn : Hid (Rw.Made (LL ++ [r])) := (by
        rw [hr, ← hq2, ← HLl.out]
        exact HMd.out.snoc ⟨by omega, by omega⟩ : Rw.Made (LL ++ [r]))
      have HRe : Hid (r = ⟨t4, (q2 : Int), [⟨[110], 1, (j : Int), []⟩]⟩) := hr
      clear hq2 htt hti ht4 hr hgo e1 e2
      go_wp2_with fail
      have hre := Ex.refl
      refine Rg.wp_rows_tail (List.take 14 _) (List.drop 14 _) (List.take_append_drop 14 _).symm [.inl vv, .inl (Value.slice (some ⟨b1, o1, none⟩) l0.length c0), .inl (Value.int .i64 j), .inl (Value.pointer (some ⟨b1, o1 + j * 3, none⟩)), .inl (Value.pointer (some ⟨b1, o1 + j * 3, none⟩)), .inl (Value.int .i64 tt), .inl (Value.int .i64 t4), .inl (Value.int .i64 j), .inl (Value.int .i64 q2), .inl (Value.int .i64 j), .inl (cv ⟨[110], 1, (j : Int), []⟩), .inr (IsC1 ⟨[110], 1, (j : Int), []⟩), .inr (IsRw wr.heap.size ⟨t4, (q2 : Int), [⟨[110], 1, (j : Int), []⟩]⟩), .inr (IsR1 wr.heap.size ⟨t4, (q2 : Int), [⟨[110], 1, (j : Int), []⟩]⟩)] (Ex wr) Ex 143 (by kernel_rfl) rfl (by kernel_rfl) (by kernel_rfl) (by kernel_rfl) (by decide) (by kernel_rfl) ?st hre (Ex.drew _) ?goods ?fin
      case st => exact ⟨IsC1.stands _, IsRw.stands _ _, IsR1.stands _ _, trivial⟩
      case goods =>
        refine Rg.goods_cons (Rg.good_move hre rfl rfl rfl) ?_
        refine Rg.goods_cons (Rg.good_move hre rfl rfl rfl) ?_
        refine Rg.goods_cons (Rg.good_move hre rfl rfl rfl) ?_
        refine Rg.goods_cons (Rg.good_index hre rfl rfl rfl rfl (fun wx hC => by go_simp)) ?_
        refine Rg.goods_cons (Rg.good_field hre rfl rfl rfl (fun wx hC => by go_simp)) ?_
        refine Rg.goods_cons (Rg.good_load hre rfl rfl rfl (fun wx hC => by have hz := cell_ex e0 hC; go_simp)) ?_
        refine Rg.goods_cons (Rg.good_bin hre rfl rfl rfl rfl (fun _ => rfl) (fun w => by first | (go_simp; done) | (go_simp; exact HT4.out))) ?_
        refine Rg.goods_cons (Rg.good_move hre rfl rfl rfl) ?_
        refine Rg.goods_cons (Rg.good_bin hre rfl rfl rfl rfl (fun _ => rfl) (fun w => by first | (go_simp; done) | (go_simp; exact hq2t) | (go_simp; exact hq2i))) ?_
        refine Rg.goods_cons (Rg.good_move hre rfl rfl rfl) ?_
        refine Rg.goods_cons (Rg.good_call2 Try.func9 (by kernel_rfl) rfl rfl rfl (by rintro u u2 wx hC rfl rfl; exact ex_row (num_is [110] (j : Int) wx) hC)) ?_
        refine Rg.goods_cons (Rg.good_c1 rfl rfl rfl) ?_
        refine Rg.goods_cons (Rg.good_call3 Try.func10 (by kernel_rfl) rfl rfl rfl (by rintro u u2 u3 wx hC rfl rfl h3; exact at_row h3 hC)) ?_
        refine Rg.goods_cons (Rg.good_r1 rfl rfl rfl) ?_
        exact Rg.goods_nil
      case fin =>
        intro wx hx
        simp only [Rg.later, List.take_succ_cons, List.take_zero, List.drop_succ_cons, List.drop_zero, Act.put, List.setIfInBounds_toArray, List.set_cons_succ, List.set_cons_zero]
        intro vin0 hin0 vin1 hin1 vin2 hin2
        obtain ⟨g, pp, cp, hv2, hr2, hc2, hfar⟩ := hin2
        subst hv2
        clear hin0 hin1
        have hbs : w.heap.size ≤ wx.heap.size := Nat.le_trans HXr.out.size hx.size
        have hOx : OwnL wx w.heap.size vv LL := HOwn.out.later hx
        have hEa : EachR wx [⟨t4, (q2 : Int), pp, 1, cp⟩] [r] := EachR.one (by rw [HRe.out]; exact ⟨rfl, rfl, rfl, hc2⟩)
        have hAw : AwayR vv.ownBlock [⟨t4, (q2 : Int), pp, 1, cp⟩] := by
          intro u hu _ q hq e
          simp only [List.mem_singleton] at hu
          subst hu
          have h1 := hfar q hq
          have h2 := (HOwn.out.lt q e).2
          omega
        refine wpList_append_rows rfl (.tmp 19) (.tmp 32) rfl w.heap.size vv LL rfl hOx (some ⟨g, 0, none⟩) 1 1 [⟨t4, (q2 : Int), pp, 1, cp⟩] [r] rfl rfl hr2 hEa hAw (by have := HLl.out; simp; omega) hbs ?_
        intro v' w' ho' hg' _
        have HX' : Hid (Ex w w') := ((HXr.out.trans hx).grown hg' hbs (fun q hq => (hOx.lt q hq).1) : Ex w w')
        have HV' : Hid (∃ (LL : List Rw) (vv : Value), vv = v' ∧ LL.length = j + 1 ∧ Rw.Made LL ∧ OwnL w' w.heap.size vv LL) := (⟨LL ++ [r], _, rfl, by have := HLl.out; simp; omega, HMn.out, ho'⟩ : ∃ (LL : List Rw) (vv : Value), vv = v' ∧ LL.length = j + 1 ∧ Rw.Made LL ∧ OwnL w' w.heap.size vv LL)
        clear hx hOx hEa hAw hr2 hc2 hfar ho' hg' hbs
        go_wp2_with fail
        go_roundw
        case rel => exact ⟨j + 1, by omega, by omega, by go_num, HV', HX'⟩
        case measure => simp [intOf]; omega
    · have hOw := HOwn.out
      obtain ⟨asl, cs', hvs, hRd⟩ := hOw.rd
      subst hvs
      obtain ⟨S, hS⟩ : ∃ S, Rw.sort LL = S := ⟨_, rfl⟩
      have HS : Hid (Rw.sort LL = S) := hS
      have HSl : Hid (S.length = LL.length) := (by rw [← hS]; exact Rw.sort_len LL : S.length = LL.length)
      have hL20 : LL.length ≤ 20 := by have := HLl.out; omega
      have HLok : Hid (∀ r ∈ LL, RwOk r) := Rw.made_ok HMd.out hL20
      have HLc : Hid (∀ r ∈ LL, r.c.length ≤ 1000) := Rw.made_c HMd.out
      have HSc : Hid (∀ r ∈ S, r.c.length ≤ 1000) := (fun r hr => HLc.out r ((Rw.sort_mem LL r).1 (by rw [hS]; exact hr)) : ∀ r ∈ S, r.c.length ≤ 1000)
      have HLc : Hid (∀ r ∈ LL, r.c.length ≤ 1000) := Rw.made_c HMd.out
      have HSc : Hid (∀ r ∈ S, r.c.length ≤ 1000) := (fun r hr => HLc.out r ((Rw.sort_mem LL r).1 (by rw [hS]; exact hr)) : ∀ r ∈ S, r.c.length ≤ 1000)
      have HSok : Hid (∀ r ∈ S, RwOk r) := (fun r hr => HLok.out r ((Rw.sort_mem LL r).1 (by rw [hS]; exact hr)) : ∀ r ∈ S, RwOk r)
      have HSS : Hid (Rw.sort S = S) := (by rw [← hS]; exact Rw.sort_again LL : Rw.sort S = S)
      have HRL : Hid (RdR wr asl cs' LL) := hRd
      have hcs := hRd.bounds.1
      have hcs2 := hRd.bounds.2.1
      unfold maxLen at hcs2
      obtain ⟨n, hn⟩ : ∃ n, LL.length = n := ⟨_, rfl⟩
      have HN : Hid (LL.length = n) := hn
      rw [hn] at hL20 hcs
      clear hOw hRd hS
      by_cases h1 : j < l0.length
      · have t1 : decide ((j : Int) < (l0.length : Int)) = true := by simp; omega
        have t2 : decide ((j : Int) < 20) = false := by simp; omega
        have t3 : decide (j < 20) = false := by simp; omega
        clear hgo
        rw [hn]
        clear hn
        go_wp2_with fail
        refine (f_sort asl _ cs' LL _ HN.out.symm HRL.out (by have := HN.out; omega) HLc.out).mono ?_
        rintro e w5 ⟨ps, ct, rfl, hrs, hx5⟩
        rw [HS.out] at hrs
        rw [HS.out, HSl.out, HN.out]
        have HRS : Hid (RdR w5 ps ct S) := hrs
        have HX5 : Hid (Ex w w5) := HXr.out.trans hx5
        have HRL5 : Hid (RdR w5 asl cs' LL) := HRL.out.below hx5
        have hct := hrs.bounds.1
        have hct2 := hrs.bounds.2.1
        unfold maxLen at hct2
        rw [HSl.out, HN.out] at hct
        clear hrs hx5
        go_wp2_with fail
        obtain ⟨wS, hwS⟩ : ∃ wS, w5.alloc (Obj.cells ((List.replicate 20 false).map bl).toArray 61) = wS := ⟨_, rfl⟩
        have HXS : Hid (Ex w5 wS) := (by rw [← hwS]; exact (Below.refl _ _).alloc (Nat.le_refl _) _ : Ex w5 wS)
        have HRow : Hid (RowAt bl 61 wS w5.heap.size (List.replicate 20 false)) := (by rw [← hwS]; exact heap_alloc_new w5 _ : RowAt bl 61 wS w5.heap.size (List.replicate 20 false))
        have HWS : Hid (w5.alloc (Obj.cells ((List.replicate 20 false).map bl).toArray 61) = wS) := hwS
        clear hwS
        have eS := HWS.out
        simp only [List.replicate, List.map] at eS
        rw [eS]
        clear eS
        go_loopw [7] (fun vi wr => ∃ i : Nat, i ≤ n ∧ vi = .int .i64 i ∧ Hid (∃ B : List Bool, RowAt bl 61 wr w5.heap.size B ∧ B.length = 20 ∧ ∀ k : Nat, B[k]? = some true → ∃ m r, m < i ∧ S[m]? = some r ∧ Rw.num r = (k : Int)) ∧ Hid (Ex w5 wr)) (fun vi wr => n - (intOf vi).toNat)
        case atStart => exact ⟨0, by omega, rfl, (⟨List.replicate 20 false, HRow.out, by simp, fun k hk => by rw [List.getElem?_replicate] at hk; split at hk <;> simp at hk⟩ : ∃ B : List Bool, RowAt bl 61 wS w5.heap.size B ∧ B.length = 20 ∧ ∀ k : Nat, B[k]? = some true → ∃ m r, m < 0 ∧ S[m]? = some r ∧ Rw.num r = (k : Int)), HXS⟩
        case round =>
          obtain ⟨i, hi, rfl, HB, HXi⟩ := hrel
          by_cases hin : i < n
          · have ti : decide ((i : Int) < (n : Int)) = true := by simp; omega
            have hiS : i < S.length := by rw [HSl.out, HN.out]; exact hin
            obtain ⟨B, hBrow, hB20, hBs⟩ := HB.out
            obtain ⟨r, hr⟩ : ∃ r, S[i] = r := ⟨_, rfl⟩
            have hri : S[i]? = some r := by rw [List.getElem?_eq_getElem hiS, hr]
            have HRi : Hid (S[i]? = some r) := hri
            obtain ⟨bs, os, bc, oc, cr, k, hps, e0, e1, e2, hy2, hrd, hcr, hcr1, hc1, hnum, hkl⟩ := Rw.made_cells HMd.out HS.out (HRS.out.below HXi.out) hri
            subst hps
            have HNum : Hid (Rw.num r = (k : Int)) := hnum
            have hkr : LL[k]? = some r := by
              obtain ⟨k', _, h2, h3⟩ := HMd.out.at (i := i) (r := r) (by rw [HS.out]; exact hri)
              have h4 : Rw.num r = (k' : Int) := by unfold Rw.num; rw [h3]
              have : k = k' := by omega
              subst this
              exact h2
            have hkL := hkl
            rw [HN.out] at hkl
            have hk20 : k < 20 := by omega
            have hBk : B[k]? = some false := by
              rw [List.getElem?_eq_getElem (by omega)]
              cases e : B[k] with
              | false => rfl
              | true =>
                obtain ⟨m, x, h1, h2, h3⟩ := hBs k (by rw [List.getElem?_eq_getElem (by omega), e])
                exact absurd (h3.trans hnum.symm) (HMd.out.apart (by rw [HS.out]; exact h2) (by rw [HS.out]; exact hri) (by omega))
            have hseen : wr.cell? ⟨w5.heap.size, k, none⟩ = some (.bool false) := by
              have h1 := RowAt.cell (k := k) hBrow (by omega)
              rw [List.getElem?_eq_getElem (by omega)] at hBk
              rw [h1, Option.some.inj hBk]
            have HFro : Hid (∀ wx, Ex wr wx → wx.frozen? ⟨w5.heap.size, k, none⟩ = false) := (fun wx hx => RowAt.frozen k (RowAt.below hBrow hx) : ∀ wx, Ex wr wx → wx.frozen? ⟨w5.heap.size, k, none⟩ = false)
            have HBs : Hid (∀ wx, Ex wr wx → ∃ B' : List Bool, RowAt bl 61 (wx.setCell ⟨w5.heap.size, k, none⟩ (.bool true)) w5.heap.size B' ∧ B'.length = 20 ∧ ∀ q : Nat, B'[q]? = some true → ∃ m r, m < i + 1 ∧ S[m]? = some r ∧ Rw.num r = (q : Int)) := (fun wx hx => ⟨B.set k true, RowAt.set (RowAt.below hBrow hx) true rfl, by simp; exact hB20, fun q hq => by
              by_cases e : q = k
              · subst e
                exact ⟨i, r, by omega, HRi.out, HNum.out⟩
              · rw [List.getElem?_set_ne (Ne.symm e)] at hq
                obtain ⟨m, x, h1, h2⟩ := hBs q hq
                exact ⟨m, x, by omega, h2⟩⟩ : ∀ wx, Ex wr wx → ∃ B' : List Bool, RowAt bl 61 (wx.setCell ⟨w5.heap.size, k, none⟩ (.bool true)) w5.heap.size B' ∧ B'.length = 20 ∧ ∀ q : Nat, B'[q]? = some true → ∃ m r, m < i + 1 ∧ S[m]? = some r ∧ Rw.num r = (q : Int))
            obtain ⟨bL, oL, pL, cL, hpL, f0, f1, f2, hld⟩ := (HRL5.out.below HXi.out).at hkL
            subst hpL
            have hLk : LL[k] = r := by
              rw [List.getElem?_eq_getElem hkL] at hkr
              exact Option.some.inj hkr
            rw [hLk] at f0 f1 f2 hld
            rw [hc1] at f2
            have HRow : Hid (∀ wx, Ex wr wx → Calls Try.prog 18 #[rvv ⟨r.t, r.q, some ⟨bc, oc, none⟩, 1, cr⟩, rvv ⟨r.t, r.q, pL, 1, cL⟩] wx fun e w' => e = .returned (.bool true) ∧ Ex wx w') := (fun wx hx => by
              have h := krow_is r r (some ⟨bc, oc, none⟩) cr pL cL wx (RdW.below hrd hx) (RdW.below hld hx) true (by simp)
              rw [hc1] at h
              exact h : ∀ wx, Ex wr wx → Calls Try.prog 18 #[rvv ⟨r.t, r.q, some ⟨bc, oc, none⟩, 1, cr⟩, rvv ⟨r.t, r.q, pL, 1, cL⟩] wx fun e w' => e = .returned (.bool true) ∧ Ex wx w')
            have tk0 : decide ((k : Int) < 0) = false := by first | (simp; done) | (simp; omega)
            have tkn : decide ((n : Int) ≤ (k : Int)) = false := by simp; omega
            clear HB hBrow hB20 hBs hr hri hkr hnum hBk hld hrd hLk hc1 hkL
            go_wp2_with fail
            have hre := Ex.refl
            refine Rg.wp_rows [.inl (Value.int .i64 k), .inl (.bool false), .inl (.bool false), .inl (Value.int .i64 k), .inl (Value.slice (some ⟨bL, oL, none⟩) n cs'), .inl (Value.int .i64 n), .inl (.bool false), .inl (.bool false), .inl (.bool false), .inl (Value.int .i64 k), .inl (Value.pointer (some ⟨w5.heap.size, k, none⟩)), .inl (.bool false), .inl (.bool false), .inl (.bool false), .inl (Value.slice (some ⟨bs, os, none⟩) n ct), .inl (Value.int .i64 i), .inl (Value.pointer (some ⟨bs, os + i * 3, none⟩)), .inl (rvv ⟨r.t, r.q, some ⟨bc, oc, none⟩, 1, cr⟩), .inl (Value.slice (some ⟨bL, oL, none⟩) n cs'), .inl (Value.int .i64 k), .inl (Value.pointer (some ⟨bL, oL + k * 3, none⟩)), .inl (rvv ⟨r.t, r.q, pL, 1, cL⟩), .inl (.bool true), .inl (.bool false), .inl (.bool false)] (Ex wr) Ex 143 (by kernel_rfl) rfl (by kernel_rfl) ?st hre (Ex.drew _) ?goods ?fin
            case st => exact trivial
            case goods =>
              refine Rg.goods_cons (Rg.good_move hre rfl rfl rfl) ?_
              refine Rg.goods_cons (Rg.good_bin hre rfl rfl rfl rfl (fun _ => rfl) (fun w => by go_simp)) ?_
              refine Rg.goods_cons (Rg.good_move hre rfl rfl rfl) ?_
              refine Rg.goods_cons (Rg.good_move hre rfl rfl rfl) ?_
              refine Rg.goods_cons (Rg.good_move hre rfl rfl rfl) ?_
              refine Rg.goods_cons (Rg.good_len hre rfl rfl (by rintro u wx hC rfl; go_simp)) ?_
              refine Rg.goods_cons (Rg.good_bin hre rfl rfl rfl rfl (fun _ => rfl) (fun w => by go_simp)) ?_
              refine Rg.goods_cons (Rg.good_pick false hre rfl rfl rfl rfl) ?_
              refine Rg.goods_cons (Rg.good_move hre rfl rfl rfl) ?_
              refine Rg.goods_cons (Rg.good_move hre rfl rfl rfl) ?_
              refine Rg.goods_cons (Rg.good_index hre rfl rfl rfl rfl (fun wx hC => by first | (go_simp; done) | (go_simp; intro h; exfalso; omega))) ?_
              refine Rg.goods_cons (Rg.good_load hre rfl rfl rfl (fun wx hC => by have hz := cell_ex hseen hC; go_simp)) ?_
              refine Rg.goods_cons (Rg.good_pick false hre rfl rfl rfl rfl) ?_
              refine Rg.goods_cons (Rg.good_move hre rfl rfl rfl) ?_
              refine Rg.goods_cons (Rg.good_move hre rfl rfl rfl) ?_
              refine Rg.goods_cons (Rg.good_move hre rfl rfl rfl) ?_
              refine Rg.goods_cons (Rg.good_index hre rfl rfl rfl rfl (fun wx hC => by first | (go_simp; done) | (go_simp; intro h; exfalso; omega))) ?_
              refine Rg.goods_cons (Rg.good_load hre rfl rfl rfl (fun wx hC => by exact loadI_row (cell_ex e0 hC) (cell_ex e1 hC) (cell_ex e2 hC))) ?_
              refine Rg.goods_cons (Rg.good_move hre rfl rfl rfl) ?_
              refine Rg.goods_cons (Rg.good_move hre rfl rfl rfl) ?_
              refine Rg.goods_cons (Rg.good_index hre rfl rfl rfl rfl (fun wx hC => by first | (go_simp; done) | (go_simp; intro h; exfalso; omega))) ?_
              refine Rg.goods_cons (Rg.good_load hre rfl rfl rfl (fun wx hC => by exact loadI_row (cell_ex f0 hC) (cell_ex f1 hC) (cell_ex f2 hC))) ?_
              refine Rg.goods_cons (Rg.good_call2 Try.func18 (by kernel_rfl) rfl rfl rfl (by rintro u u2 wx hC rfl rfl; exact ex_row (HRow.out wx hC) hC)) ?_
              refine Rg.goods_cons (Rg.good_un hre rfl rfl rfl (fun w => by go_simp)) ?_
              refine Rg.goods_cons (Rg.good_pick false hre rfl rfl rfl rfl) ?_
              exact Rg.goods_nil
            case fin =>
              intro wx hx
              simp only [Rg.later, Act.put, List.setIfInBounds_toArray, List.set_cons_succ, List.set_cons_zero]
              have hfz := HFro.out wx hx
              have hsx := cell_ex hseen hx
              obtain ⟨wy, hwy⟩ : ∃ wy, wx.setCell ⟨w5.heap.size, k, none⟩ (.bool true) = wy := ⟨_, rfl⟩
              have HWy : Hid (wx.setCell ⟨w5.heap.size, k, none⟩ (.bool true) = wy) := hwy
              have HXy : Hid (Ex w5 wy) := (by rw [← hwy]; exact Below.setCell (HXi.out.trans hx) (p := ⟨w5.heap.size, k, none⟩) (Nat.le_refl _) _ : Ex w5 wy)
              have HB' : Hid (∃ B' : List Bool, RowAt bl 61 wy w5.heap.size B' ∧ B'.length = 20 ∧ ∀ q : Nat, B'[q]? = some true → ∃ m r, m < i + 1 ∧ S[m]? = some r ∧ Rw.num r = (q : Int)) := (by rw [← hwy]; exact HBs.out wx hx : ∃ B' : List Bool, RowAt bl 61 wy w5.heap.size B' ∧ B'.length = 20 ∧ ∀ q : Nat, B'[q]? = some true → ∃ m r, m < i + 1 ∧ S[m]? = some r ∧ Rw.num r = (q : Int))
              obtain ⟨b', o', bc', oc', cr', k', hps, g0, g1, g2, gy, grd, gcr, gcr1, gc1, gnum, _⟩ := Rw.made_cells HMd.out HS.out (HRS.out.below HXy.out) HRi.out
              simp only [Option.some.injEq, Addr.mk.injEq, and_true] at hps
              obtain ⟨rfl, rfl⟩ := hps
              have HGrd : Hid (RdC wy (some ⟨bc', oc', none⟩) cr' r.c) := grd
              have HGc : Hid (r.c.length = 1) := gc1
              have HGn : Hid (Rw.num r = (k' : Int)) := gnum
              clear hwy hx e0 e1 e2 f0 f1 f2 hy2 grd gc1 gnum
              go_wp2_with fail
              rw [HWy.out]
              clear hfz hsx hseen
              by_cases hi0 : i = 0
              · subst hi0
                have hre := Ex.refl
                refine Rg.wp_rows [.inl (Value.int .i64 ((0 : Nat) : Int)), .inl (.bool false), .inl (.bool false), .inl undef, .inl undef, .inl undef, .inl undef, .inl undef, .inl undef, .inl undef, .inl undef, .inl undef, .inl undef, .inl undef, .inl undef, .inl undef, .inl undef, .inl undef, .inl undef, .inl undef, .inl undef, .inl undef, .inl undef, .inl undef, .inl undef, .inl undef, .inl undef, .inl undef, .inl undef, .inl undef, .inl undef, .inl undef, .inl undef, .inl undef, .inl undef, .inl undef, .inl undef, .inl undef, .inl undef, .inl undef, .inl undef, .inl undef, .inl undef, .inl undef, .inl undef, .inl undef, .inl (.bool false)] (Ex wy) Ex 143 (by kernel_rfl) rfl (by kernel_rfl) ?st hre (Ex.drew _) ?goods ?fin
                case st => exact trivial
                case goods =>
                  refine Rg.goods_cons (Rg.good_move hre rfl rfl rfl) ?_
                  refine Rg.goods_cons (Rg.good_bin hre rfl rfl rfl rfl (fun _ => rfl) (fun w => by go_simp)) ?_
                  refine Rg.goods_cons (Rg.good_move hre rfl rfl rfl) ?_
                  refine Rg.goods_cons (Rg.good_skip rfl) ?_
                  refine Rg.goods_cons (Rg.good_skip rfl) ?_
                  refine Rg.goods_cons (Rg.good_skip rfl) ?_
                  refine Rg.goods_cons (Rg.good_skip rfl) ?_
                  refine Rg.goods_cons (Rg.good_skip rfl) ?_
                  refine Rg.goods_cons (Rg.good_skip rfl) ?_
                  refine Rg.goods_cons (Rg.good_skip rfl) ?_
                  refine Rg.goods_cons (Rg.good_skip rfl) ?_
                  refine Rg.goods_cons (Rg.good_skip rfl) ?_
                  refine Rg.goods_cons (Rg.good_skip rfl) ?_
                  refine Rg.goods_cons (Rg.good_skip rfl) ?_
                  refine Rg.goods_cons (Rg.good_skip rfl) ?_
                  refine Rg.goods_cons (Rg.good_skip rfl) ?_
                  refine Rg.goods_cons (Rg.good_skip rfl) ?_
                  refine Rg.goods_cons (Rg.good_skip rfl) ?_
                  refine Rg.goods_cons (Rg.good_skip rfl) ?_
                  refine Rg.goods_cons (Rg.good_skip rfl) ?_
                  refine Rg.goods_cons (Rg.good_skip rfl) ?_
                  refine Rg.goods_cons (Rg.good_skip rfl) ?_
                  refine Rg.goods_cons (Rg.good_skip rfl) ?_
                  refine Rg.goods_cons (Rg.good_skip rfl) ?_
                  refine Rg.goods_cons (Rg.good_skip rfl) ?_
                  refine Rg.goods_cons (Rg.good_skip rfl) ?_
                  refine Rg.goods_cons (Rg.good_skip rfl) ?_
                  refine Rg.goods_cons (Rg.good_skip rfl) ?_
                  refine Rg.goods_cons (Rg.good_skip rfl) ?_
                  refine Rg.goods_cons (Rg.good_skip rfl) ?_
                  refine Rg.goods_cons (Rg.good_skip rfl) ?_
                  refine Rg.goods_cons (Rg.good_skip rfl) ?_
                  refine Rg.goods_cons (Rg.good_skip rfl) ?_
                  refine Rg.goods_cons (Rg.good_skip rfl) ?_
                  refine Rg.goods_cons (Rg.good_skip rfl) ?_
                  refine Rg.goods_cons (Rg.good_skip rfl) ?_
                  refine Rg.goods_cons (Rg.good_skip rfl) ?_
                  refine Rg.goods_cons (Rg.good_skip rfl) ?_
                  refine Rg.goods_cons (Rg.good_skip rfl) ?_
                  refine Rg.goods_cons (Rg.good_skip rfl) ?_
                  refine Rg.goods_cons (Rg.good_skip rfl) ?_
                  refine Rg.goods_cons (Rg.good_skip rfl) ?_
                  refine Rg.goods_cons (Rg.good_skip rfl) ?_
                  refine Rg.goods_cons (Rg.good_skip rfl) ?_
                  refine Rg.goods_cons (Rg.good_skip rfl) ?_
                  refine Rg.goods_cons (Rg.good_skip rfl) ?_
                  refine Rg.goods_cons (Rg.good_pick false hre rfl rfl rfl rfl) ?_
                  exact Rg.goods_nil
                case fin =>
                  intro wx hx
                  simp only [Rg.later, Act.put, List.setIfInBounds_toArray, List.set_cons_succ, List.set_cons_zero]
                  have HXx : Hid (Ex w5 wx) := HXy.out.trans hx
                  have HBx : Hid (∃ B' : List Bool, RowAt bl 61 wx w5.heap.size B' ∧ B'.length = 20 ∧ ∀ q : Nat, B'[q]? = some true → ∃ mm r, mm < 0 + 1 ∧ S[mm]? = some r ∧ Rw.num r = (q : Int)) := (by
                    obtain ⟨B', h1, h2, h3⟩ := HB'.out
                    exact ⟨B', RowAt.below h1 hx, h2, h3⟩ : ∃ B' : List Bool, RowAt bl 61 wx w5.heap.size B' ∧ B'.length = 20 ∧ ∀ q : Nat, B'[q]? = some true → ∃ mm r, mm < 0 + 1 ∧ S[mm]? = some r ∧ Rw.num r = (q : Int))
                  clear hx
                  go_wp2_with fail
                  go_roundw
                  case rel => exact ⟨0 + 1, by omega, by go_num, HBx, HXx⟩
                  case measure => simp [intOf]; omega
              · have hip : 0 < i := by omega
                obtain ⟨m, rfl⟩ : ∃ m, i = m + 1 := ⟨i - 1, by omega⟩
                have hmS : m < S.length := by omega
                obtain ⟨u, hu⟩ : ∃ u, S[m] = u := ⟨_, rfl⟩
                have hum : S[m]? = some u := by rw [List.getElem?_eq_getElem hmS, hu]
                obtain ⟨b2, o2, bd, od, cu, ku, hps, h0, h1, h2, hyu, hud, hcu, hcu1, hc1u, hnumu, _⟩ := Rw.made_cells HMd.out HS.out (HRS.out.below HXy.out) hum
                simp only [Option.some.injEq, Addr.mk.injEq, and_true] at hps
                obtain ⟨rfl, rfl⟩ := hps
                have HUd : Hid (RdC wy (some ⟨bd, od, none⟩) cu u.c) := hud
                have HUc : Hid (u.c.length = 1) := hc1u
                have hls : Rw.less r u = false := Rw.sort_next (l := LL) (i := m) (by rw [HS.out]; exact hum) (by rw [HS.out]; exact HRi.out)
                have HL1 : Hid (∀ wx, Ex wy wx → Calls Try.prog 33 #[rvv ⟨r.t, r.q, some ⟨bc', oc', none⟩, 1, cr'⟩, rvv ⟨u.t, u.q, some ⟨bd, od, none⟩, 1, cu⟩] wx fun e w' => e = .returned (.bool false) ∧ Ex wx w') := (fun wx hx => f_less _ _ r u wx ⟨rfl, rfl, HGc.out.symm, RdW.below HGrd.out hx⟩ ⟨rfl, rfl, HUc.out.symm, RdW.below HUd.out hx⟩ false hls : ∀ wx, Ex wy wx → Calls Try.prog 33 #[rvv ⟨r.t, r.q, some ⟨bc', oc', none⟩, 1, cr'⟩, rvv ⟨u.t, u.q, some ⟨bd, od, none⟩, 1, cu⟩] wx fun e w' => e = .returned (.bool false) ∧ Ex wx w')
                obtain ⟨lu, hlu⟩ : ∃ z, Rw.less u r = z := ⟨_, rfl⟩
                have HL2 : Hid (∀ wx, Ex wy wx → Calls Try.prog 33 #[rvv ⟨u.t, u.q, some ⟨bd, od, none⟩, 1, cu⟩, rvv ⟨r.t, r.q, some ⟨bc', oc', none⟩, 1, cr'⟩] wx fun e w' => e = .returned (.bool lu) ∧ Ex wx w') := (fun wx hx => f_less _ _ u r wx ⟨rfl, rfl, HUc.out.symm, RdW.below HUd.out hx⟩ ⟨rfl, rfl, HGc.out.symm, RdW.below HGrd.out hx⟩ lu hlu : ∀ wx, Ex wy wx → Calls Try.prog 33 #[rvv ⟨u.t, u.q, some ⟨bd, od, none⟩, 1, cu⟩, rvv ⟨r.t, r.q, some ⟨bc', oc', none⟩, 1, cr'⟩] wx fun e w' => e = .returned (.bool lu) ∧ Ex wx w')
                have HK : Hid (lu = false → ku < k') := (fun h => by
                  rw [h] at hlu
                  have hkey := Rw.less_same hlu hls
                  have := HMd.out.stable (i := m) (j := m + 1) (by rw [HS.out]; exact hum) (by rw [HS.out]; exact HRi.out) (by omega) hkey
                  rw [hnumu, HGn.out] at this
                  omega : lu = false → ku < k')
                have tpos : decide ((0 : Int) < ((m + 1 : Nat) : Int)) = true := by simp
                have hm1 : ((m + 1 : Nat) : Int) - 1 = (m : Int) := by omega
                have hmn : m < n := by omega
                clear hu hum hud hc1u hls hlu hnumu
                cases lu with
                | true =>
                  clear HK
                  have hre := Ex.refl
                  refine Rg.wp_rows [.inl (Value.int .i64 ((m + 1 : Nat) : Int)), .inl (.bool true), .inl (.bool true), .inl (Value.slice (some ⟨bs, os, none⟩) n ct), .inl (Value.int .i64 ((m + 1 : Nat) : Int)), .inl (Value.pointer (some ⟨bs, os + (m + 1) * 3, none⟩)), .inl (rvv ⟨r.t, r.q, some ⟨bc', oc', none⟩, 1, cr'⟩), .inl (Value.slice (some ⟨bs, os, none⟩) n ct), .inl (Value.int .i64 ((m + 1 : Nat) : Int)), .inl (Value.int .i64 m), .inl (Value.pointer (some ⟨bs, os + m * 3, none⟩)), .inl (rvv ⟨u.t, u.q, some ⟨bd, od, none⟩, 1, cu⟩), .inl (.bool false), .inl (.bool false), .inl (Value.slice (some ⟨bs, os, none⟩) n ct), .inl (Value.int .i64 ((m + 1 : Nat) : Int)), .inl (Value.int .i64 m), .inl (Value.pointer (some ⟨bs, os + m * 3, none⟩)), .inl (rvv ⟨u.t, u.q, some ⟨bd, od, none⟩, 1, cu⟩), .inl (Value.slice (some ⟨bs, os, none⟩) n ct), .inl (Value.int .i64 ((m + 1 : Nat) : Int)), .inl (Value.pointer (some ⟨bs, os + (m + 1) * 3, none⟩)), .inl (rvv ⟨r.t, r.q, some ⟨bc', oc', none⟩, 1, cr'⟩), .inl (.bool true), .inl (.bool false), .inl (.bool false), .inl undef, .inl undef, .inl undef, .inl undef, .inl undef, .inl undef, .inl undef, .inl undef, .inl undef, .inl undef, .inl undef, .inl undef, .inl undef, .inl undef, .inl undef, .inl undef, .inl undef, .inl undef, .inl (.bool false), .inl (.bool false), .inl (.bool false)] (Ex wy) Ex 143 (by kernel_rfl) rfl (by kernel_rfl) ?st hre (Ex.drew _) ?goods ?fin
                  case st => exact trivial
                  case goods =>
                    refine Rg.goods_cons (Rg.good_move hre rfl rfl rfl) ?_
                    refine Rg.goods_cons (Rg.good_bin hre rfl rfl rfl rfl (fun _ => rfl) (fun w => by first | (go_simp; done) | (go_simp; omega))) ?_
                    refine Rg.goods_cons (Rg.good_move hre rfl rfl rfl) ?_
                    refine Rg.goods_cons (Rg.good_move hre rfl rfl rfl) ?_
                    refine Rg.goods_cons (Rg.good_move hre rfl rfl rfl) ?_
                    refine Rg.goods_cons (Rg.good_index hre rfl rfl rfl rfl (fun wx hC => by first | (go_simp; done) | (go_simp; intro h; exfalso; omega))) ?_
                    refine Rg.goods_cons (Rg.good_load hre rfl rfl rfl (fun wx hC => by exact loadI_row (cell_ex g0 hC) (cell_ex g1 hC) (cell_ex g2 hC))) ?_
                    refine Rg.goods_cons (Rg.good_move hre rfl rfl rfl) ?_
                    refine Rg.goods_cons (Rg.good_move hre rfl rfl rfl) ?_
                    refine Rg.goods_cons (Rg.good_bin hre rfl rfl rfl rfl (fun _ => rfl) (fun w => by first | (go_simp; done) | (go_simp; omega) | (go_simp; rw [wi64r _ (by omega) (by omega)]; done) | (go_simp; rw [wi64r _ (by omega) (by omega)]; omega) | (go_simp; exact wi64r _ (by omega) (by omega)))) ?_
                    refine Rg.goods_cons (Rg.good_index hre rfl rfl rfl rfl (fun wx hC => by first | (go_simp; done) | (go_simp; intro h; exfalso; omega))) ?_
                    refine Rg.goods_cons (Rg.good_load hre rfl rfl rfl (fun wx hC => by exact loadI_row (cell_ex h0 hC) (cell_ex h1 hC) (cell_ex h2 hC))) ?_
                    refine Rg.goods_cons (Rg.good_call2 Try.func33 (by kernel_rfl) rfl rfl rfl (by rintro u u2 wx hC rfl rfl; exact ex_row (HL1.out wx hC) hC)) ?_
                    refine Rg.goods_cons (Rg.good_move hre rfl rfl rfl) ?_
                    refine Rg.goods_cons (Rg.good_move hre rfl rfl rfl) ?_
                    refine Rg.goods_cons (Rg.good_move hre rfl rfl rfl) ?_
                    refine Rg.goods_cons (Rg.good_bin hre rfl rfl rfl rfl (fun _ => rfl) (fun w => by first | (go_simp; done) | (go_simp; omega) | (go_simp; rw [wi64r _ (by omega) (by omega)]; done) | (go_simp; rw [wi64r _ (by omega) (by omega)]; omega) | (go_simp; exact wi64r _ (by omega) (by omega)))) ?_
                    refine Rg.goods_cons (Rg.good_index hre rfl rfl rfl rfl (fun wx hC => by first | (go_simp; done) | (go_simp; intro h; exfalso; omega))) ?_
                    refine Rg.goods_cons (Rg.good_load hre rfl rfl rfl (fun wx hC => by exact loadI_row (cell_ex h0 hC) (cell_ex h1 hC) (cell_ex h2 hC))) ?_
                    refine Rg.goods_cons (Rg.good_move hre rfl rfl rfl) ?_
                    refine Rg.goods_cons (Rg.good_move hre rfl rfl rfl) ?_
                    refine Rg.goods_cons (Rg.good_index hre rfl rfl rfl rfl (fun wx hC => by first | (go_simp; done) | (go_simp; intro h; exfalso; omega))) ?_
                    refine Rg.goods_cons (Rg.good_load hre rfl rfl rfl (fun wx hC => by exact loadI_row (cell_ex g0 hC) (cell_ex g1 hC) (cell_ex g2 hC))) ?_
                    refine Rg.goods_cons (Rg.good_call2 Try.func33 (by kernel_rfl) rfl rfl rfl (by rintro u u2 wx hC rfl rfl; exact ex_row (HL2.out wx hC) hC)) ?_
                    refine Rg.goods_cons (Rg.good_un hre rfl rfl rfl (fun w => by go_simp)) ?_
                    refine Rg.goods_cons (Rg.good_move hre rfl rfl rfl) ?_
                    refine Rg.goods_cons (Rg.good_skip rfl) ?_
                    refine Rg.goods_cons (Rg.good_skip rfl) ?_
                    refine Rg.goods_cons (Rg.good_skip rfl) ?_
                    refine Rg.goods_cons (Rg.good_skip rfl) ?_
                    refine Rg.goods_cons (Rg.good_skip rfl) ?_
                    refine Rg.goods_cons (Rg.good_skip rfl) ?_
                    refine Rg.goods_cons (Rg.good_skip rfl) ?_
                    refine Rg.goods_cons (Rg.good_skip rfl) ?_
                    refine Rg.goods_cons (Rg.good_skip rfl) ?_
                    refine Rg.goods_cons (Rg.good_skip rfl) ?_
                    refine Rg.goods_cons (Rg.good_skip rfl) ?_
                    refine Rg.goods_cons (Rg.good_skip rfl) ?_
                    refine Rg.goods_cons (Rg.good_skip rfl) ?_
                    refine Rg.goods_cons (Rg.good_skip rfl) ?_
                    refine Rg.goods_cons (Rg.good_skip rfl) ?_
                    refine Rg.goods_cons (Rg.good_skip rfl) ?_
                    refine Rg.goods_cons (Rg.good_skip rfl) ?_
                    refine Rg.goods_cons (Rg.good_skip rfl) ?_
                    refine Rg.goods_cons (Rg.good_pick false hre rfl rfl rfl rfl) ?_
                    refine Rg.goods_cons (Rg.good_pick false hre rfl rfl rfl rfl) ?_
                    refine Rg.goods_cons (Rg.good_pick true hre rfl rfl rfl rfl) ?_
                    exact Rg.goods_nil
                  case fin =>
                    intro wx hx
                    simp only [Rg.later, Act.put, List.setIfInBounds_toArray, List.set_cons_succ, List.set_cons_zero]
                    have HXx : Hid (Ex w5 wx) := HXy.out.trans hx
                    have HBx : Hid (∃ B' : List Bool, RowAt bl 61 wx w5.heap.size B' ∧ B'.length = 20 ∧ ∀ q : Nat, B'[q]? = some true → ∃ mm r, mm < m + 1 + 1 ∧ S[mm]? = some r ∧ Rw.num r = (q : Int)) := (by
                      obtain ⟨B', h1, h2, h3⟩ := HB'.out
                      exact ⟨B', RowAt.below h1 hx, h2, h3⟩ : ∃ B' : List Bool, RowAt bl 61 wx w5.heap.size B' ∧ B'.length = 20 ∧ ∀ q : Nat, B'[q]? = some true → ∃ mm r, mm < m + 1 + 1 ∧ S[mm]? = some r ∧ Rw.num r = (q : Int))
                    clear hx
                    go_wp2_with fail
                    go_roundw
                    case rel => exact ⟨m + 1 + 1, by omega, by go_num, HBx, HXx⟩
                    case measure => simp [intOf]; omega
                | false =>
                  have hku := HK.out rfl
                  have tku : decide ((k' : Int) < (ku : Int)) = false := by simp; omega
                  have hre := Ex.refl
                  refine Rg.wp_rows [.inl (Value.int .i64 ((m + 1 : Nat) : Int)), .inl (.bool true), .inl (.bool true), .inl (Value.slice (some ⟨bs, os, none⟩) n ct), .inl (Value.int .i64 ((m + 1 : Nat) : Int)), .inl (Value.pointer (some ⟨bs, os + (m + 1) * 3, none⟩)), .inl (rvv ⟨r.t, r.q, some ⟨bc', oc', none⟩, 1, cr'⟩), .inl (Value.slice (some ⟨bs, os, none⟩) n ct), .inl (Value.int .i64 ((m + 1 : Nat) : Int)), .inl (Value.int .i64 m), .inl (Value.pointer (some ⟨bs, os + m * 3, none⟩)), .inl (rvv ⟨u.t, u.q, some ⟨bd, od, none⟩, 1, cu⟩), .inl (.bool false), .inl (.bool false), .inl (Value.slice (some ⟨bs, os, none⟩) n ct), .inl (Value.int .i64 ((m + 1 : Nat) : Int)), .inl (Value.int .i64 m), .inl (Value.pointer (some ⟨bs, os + m * 3, none⟩)), .inl (rvv ⟨u.t, u.q, some ⟨bd, od, none⟩, 1, cu⟩), .inl (Value.slice (some ⟨bs, os, none⟩) n ct), .inl (Value.int .i64 ((m + 1 : Nat) : Int)), .inl (Value.pointer (some ⟨bs, os + (m + 1) * 3, none⟩)), .inl (rvv ⟨r.t, r.q, some ⟨bc', oc', none⟩, 1, cr'⟩), .inl (.bool false), .inl (.bool true), .inl (.bool true), .inl (Value.slice (some ⟨bs, os, none⟩) n ct), .inl (Value.int .i64 ((m + 1 : Nat) : Int)), .inl (Value.int .i64 m), .inl (Value.pointer (some ⟨bs, os + m * 3, none⟩)), .inl (Value.pointer (some ⟨bs, os + m * 3 + 2, none⟩)), .inl (Value.slice (some ⟨bd, od, none⟩) 1 cu), .inl (Value.pointer (some ⟨bd, od, none⟩)), .inl (Value.pointer (some ⟨bd, od + 2, none⟩)), .inl (Value.int .i64 ku), .inl (Value.slice (some ⟨bs, os, none⟩) n ct), .inl (Value.int .i64 ((m + 1 : Nat) : Int)), .inl (Value.pointer (some ⟨bs, os + (m + 1) * 3, none⟩)), .inl (Value.pointer (some ⟨bs, os + (m + 1) * 3 + 2, none⟩)), .inl (Value.slice (some ⟨bc', oc', none⟩) 1 cr'), .inl (Value.pointer (some ⟨bc', oc', none⟩)), .inl (Value.pointer (some ⟨bc', oc' + 2, none⟩)), .inl (Value.int .i64 k'), .inl (.bool false), .inl (.bool false), .inl (.bool false), .inl (.bool false)] (Ex wy) Ex 143 (by kernel_rfl) rfl (by kernel_rfl) ?st hre (Ex.drew _) ?goods ?fin
                  case st => exact trivial
                  case goods =>
                    refine Rg.goods_cons (Rg.good_move hre rfl rfl rfl) ?_
                    refine Rg.goods_cons (Rg.good_bin hre rfl rfl rfl rfl (fun _ => rfl) (fun w => by first | (go_simp; done) | (go_simp; omega))) ?_
                    refine Rg.goods_cons (Rg.good_move hre rfl rfl rfl) ?_
                    refine Rg.goods_cons (Rg.good_move hre rfl rfl rfl) ?_
                    refine Rg.goods_cons (Rg.good_move hre rfl rfl rfl) ?_
                    refine Rg.goods_cons (Rg.good_index hre rfl rfl rfl rfl (fun wx hC => by first | (go_simp; done) | (go_simp; intro h; exfalso; omega))) ?_
                    refine Rg.goods_cons (Rg.good_load hre rfl rfl rfl (fun wx hC => by exact loadI_row (cell_ex g0 hC) (cell_ex g1 hC) (cell_ex g2 hC))) ?_
                    refine Rg.goods_cons (Rg.good_move hre rfl rfl rfl) ?_
                    refine Rg.goods_cons (Rg.good_move hre rfl rfl rfl) ?_
                    refine Rg.goods_cons (Rg.good_bin hre rfl rfl rfl rfl (fun _ => rfl) (fun w => by first | (go_simp; done) | (go_simp; omega) | (go_simp; rw [wi64r _ (by omega) (by omega)]; done) | (go_simp; rw [wi64r _ (by omega) (by omega)]; omega) | (go_simp; exact wi64r _ (by omega) (by omega)))) ?_
                    refine Rg.goods_cons (Rg.good_index hre rfl rfl rfl rfl (fun wx hC => by first | (go_simp; done) | (go_simp; intro h; exfalso; omega))) ?_
                    refine Rg.goods_cons (Rg.good_load hre rfl rfl rfl (fun wx hC => by exact loadI_row (cell_ex h0 hC) (cell_ex h1 hC) (cell_ex h2 hC))) ?_
                    refine Rg.goods_cons (Rg.good_call2 Try.func33 (by kernel_rfl) rfl rfl rfl (by rintro u u2 wx hC rfl rfl; exact ex_row (HL1.out wx hC) hC)) ?_
                    refine Rg.goods_cons (Rg.good_move hre rfl rfl rfl) ?_
                    refine Rg.goods_cons (Rg.good_move hre rfl rfl rfl) ?_
                    refine Rg.goods_cons (Rg.good_move hre rfl rfl rfl) ?_
                    refine Rg.goods_cons (Rg.good_bin hre rfl rfl rfl rfl (fun _ => rfl) (fun w => by first | (go_simp; done) | (go_simp; omega) | (go_simp; rw [wi64r _ (by omega) (by omega)]; done) | (go_simp; rw [wi64r _ (by omega) (by omega)]; omega) | (go_simp; exact wi64r _ (by omega) (by omega)))) ?_
                    refine Rg.goods_cons (Rg.good_index hre rfl rfl rfl rfl (fun wx hC => by first | (go_simp; done) | (go_simp; intro h; exfalso; omega))) ?_
                    refine Rg.goods_cons (Rg.good_load hre rfl rfl rfl (fun wx hC => by exact loadI_row (cell_ex h0 hC) (cell_ex h1 hC) (cell_ex h2 hC))) ?_
                    refine Rg.goods_cons (Rg.good_move hre rfl rfl rfl) ?_
                    refine Rg.goods_cons (Rg.good_move hre rfl rfl rfl) ?_
                    refine Rg.goods_cons (Rg.good_index hre rfl rfl rfl rfl (fun wx hC => by first | (go_simp; done) | (go_simp; intro h; exfalso; omega))) ?_
                    refine Rg.goods_cons (Rg.good_load hre rfl rfl rfl (fun wx hC => by exact loadI_row (cell_ex g0 hC) (cell_ex g1 hC) (cell_ex g2 hC))) ?_
                    refine Rg.goods_cons (Rg.good_call2 Try.func33 (by kernel_rfl) rfl rfl rfl (by rintro u u2 wx hC rfl rfl; exact ex_row (HL2.out wx hC) hC)) ?_
                    refine Rg.goods_cons (Rg.good_un hre rfl rfl rfl (fun w => by go_simp)) ?_
                    refine Rg.goods_cons (Rg.good_move hre rfl rfl rfl) ?_
                    refine Rg.goods_cons (Rg.good_move hre rfl rfl rfl) ?_
                    refine Rg.goods_cons (Rg.good_move hre rfl rfl rfl) ?_
                    refine Rg.goods_cons (Rg.good_bin hre rfl rfl rfl rfl (fun _ => rfl) (fun w => by first | (go_simp; done) | (go_simp; omega) | (go_simp; rw [wi64r _ (by omega) (by omega)]; done) | (go_simp; rw [wi64r _ (by omega) (by omega)]; omega) | (go_simp; exact wi64r _ (by omega) (by omega)))) ?_
                    refine Rg.goods_cons (Rg.good_index hre rfl rfl rfl rfl (fun wx hC => by first | (go_simp; done) | (go_simp; intro h; exfalso; omega))) ?_
                    refine Rg.goods_cons (Rg.good_field hre rfl rfl rfl (fun wx hC => by go_simp)) ?_
                    refine Rg.goods_cons (Rg.good_load hre rfl rfl rfl (fun wx hC => by have hz := cell_ex h2 hC; go_simp)) ?_
                    refine Rg.goods_cons (Rg.good_index hre rfl rfl rfl rfl (fun wx hC => by go_simp)) ?_
                    refine Rg.goods_cons (Rg.good_field hre rfl rfl rfl (fun wx hC => by go_simp)) ?_
                    refine Rg.goods_cons (Rg.good_load hre rfl rfl rfl (fun wx hC => by have hz := cell_ex hyu hC; go_simp)) ?_
                    refine Rg.goods_cons (Rg.good_move hre rfl rfl rfl) ?_
                    refine Rg.goods_cons (Rg.good_move hre rfl rfl rfl) ?_
                    refine Rg.goods_cons (Rg.good_index hre rfl rfl rfl rfl (fun wx hC => by first | (go_simp; done) | (go_simp; intro h; exfalso; omega))) ?_
                    refine Rg.goods_cons (Rg.good_field hre rfl rfl rfl (fun wx hC => by go_simp)) ?_
                    refine Rg.goods_cons (Rg.good_load hre rfl rfl rfl (fun wx hC => by have hz := cell_ex g2 hC; go_simp)) ?_
                    refine Rg.goods_cons (Rg.good_index hre rfl rfl rfl rfl (fun wx hC => by go_simp)) ?_
                    refine Rg.goods_cons (Rg.good_field hre rfl rfl rfl (fun wx hC => by go_simp)) ?_
                    refine Rg.goods_cons (Rg.good_load hre rfl rfl rfl (fun wx hC => by have hz := cell_ex gy hC; go_simp)) ?_
                    refine Rg.goods_cons (Rg.good_bin hre rfl rfl rfl rfl (fun _ => rfl) (fun w => by first | (go_simp; done) | (go_simp; omega))) ?_
                    refine Rg.goods_cons (Rg.good_pick true hre rfl rfl rfl rfl) ?_
                    refine Rg.goods_cons (Rg.good_pick false hre rfl rfl rfl rfl) ?_
                    refine Rg.goods_cons (Rg.good_pick true hre rfl rfl rfl rfl) ?_
                    exact Rg.goods_nil
                  case fin =>
                    intro wx hx
                    simp only [Rg.later, Act.put, List.setIfInBounds_toArray, List.set_cons_succ, List.set_cons_zero]
                    have HXx : Hid (Ex w5 wx) := HXy.out.trans hx
                    have HBx : Hid (∃ B' : List Bool, RowAt bl 61 wx w5.heap.size B' ∧ B'.length = 20 ∧ ∀ q : Nat, B'[q]? = some true → ∃ mm r, mm < m + 1 + 1 ∧ S[mm]? = some r ∧ Rw.num r = (q : Int)) := (by
                      obtain ⟨B', h1, h2, h3⟩ := HB'.out
                      exact ⟨B', RowAt.below h1 hx, h2, h3⟩ : ∃ B' : List Bool, RowAt bl 61 wx w5.heap.size B' ∧ B'.length = 20 ∧ ∀ q : Nat, B'[q]? = some true → ∃ mm r, mm < m + 1 + 1 ∧ S[mm]? = some r ∧ Rw.num r = (q : Int))
                    clear hx
                    go_wp2_with fail
                    go_roundw
                    case rel => exact ⟨m + 1 + 1, by omega, by go_num, HBx, HXx⟩
                    case measure => simp [intOf]; omega
          · obtain rfl : i = n := by omega
            have ti : decide ((i : Int) < (i : Int)) = false := by simp
            clear HB
            go_wp2_with fail
            refine (f_sort ps _ ct S _ (by rw [HSl.out, HN.out]) (HRS.out.below HXi.out) (by rw [HSl.out, HN.out]; omega) HSc.out).mono ?_
            rintro e w6 ⟨pu, cu, rfl, hru, hx6⟩
            rw [HSS.out] at hru
            rw [HSS.out]
            have HX6 : Hid (Ex w5 w6) := HXi.out.trans hx6
            have HRu : Hid (RdR w6 pu cu S) := hru
            clear hru hx6
            go_wp2_with fail
            refine (krows_is pu _ cu S ps _ ct S _ rfl (by rw [HSl.out, HN.out]) HRu.out (HRS.out.below HX6.out) true (by simp)).mono ?_
            rintro e w7 ⟨rfl, hx7⟩
            have HX7 : Hid (Ex w w7) := HX5.out.trans (HX6.out.trans hx7)
            clear hx7
            go_wp2_with fail
            refine (known_any _).mono ?_
            rintro e w8 ⟨rfl, hx8⟩
            go_wp2_with fail
            go_ret
            exact ⟨rfl, HX7.out.trans hx8⟩
      · have t1 : decide ((j : Int) < (l0.length : Int)) = false := by simp; omega
        clear hgo
        rw [hn]
        clear hn
        go_wp2_with fail
        refine (f_sort asl _ cs' LL _ HN.out.symm HRL.out (by have := HN.out; omega) HLc.out).mono ?_
        rintro e w5 ⟨ps, ct, rfl, hrs, hx5⟩
        rw [HS.out] at hrs
        rw [HS.out, HSl.out, HN.out]
        have HRS : Hid (RdR w5 ps ct S) := hrs
        have HX5 : Hid (Ex w w5) := HXr.out.trans hx5
        have HRL5 : Hid (RdR w5 asl cs' LL) := HRL.out.below hx5
        have hct := hrs.bounds.1
        have hct2 := hrs.bounds.2.1
        unfold maxLen at hct2
        rw [HSl.out, HN.out] at hct
        clear hrs hx5
        go_wp2_with fail
        obtain ⟨wS, hwS⟩ : ∃ wS, w5.alloc (Obj.cells ((List.replicate 20 false).map bl).toArray 61) = wS := ⟨_, rfl⟩
        have HXS : Hid (Ex w5 wS) := (by rw [← hwS]; exact (Below.refl _ _).alloc (Nat.le_refl _) _ : Ex w5 wS)
        have HRow : Hid (RowAt bl 61 wS w5.heap.size (List.replicate 20 false)) := (by rw [← hwS]; exact heap_alloc_new w5 _ : RowAt bl 61 wS w5.heap.size (List.replicate 20 false))
        have HWS : Hid (w5.alloc (Obj.cells ((List.replicate 20 false).map bl).toArray 61) = wS) := hwS
        clear hwS
        have eS := HWS.out
        simp only [List.replicate, List.map] at eS
        rw [eS]
        clear eS
        go_loopw [7] (fun vi wr => ∃ i : Nat, i ≤ n ∧ vi = .int .i64 i ∧ Hid (∃ B : List Bool, RowAt bl 61 wr w5.heap.size B ∧ B.length = 20 ∧ ∀ k : Nat, B[k]? = some true → ∃ m r, m < i ∧ S[m]? = some r ∧ Rw.num r = (k : Int)) ∧ Hid (Ex w5 wr)) (fun vi wr => n - (intOf vi).toNat)
        case atStart => exact ⟨0, by omega, rfl, (⟨List.replicate 20 false, HRow.out, by simp, fun k hk => by rw [List.getElem?_replicate] at hk; split at hk <;> simp at hk⟩ : ∃ B : List Bool, RowAt bl 61 wS w5.heap.size B ∧ B.length = 20 ∧ ∀ k : Nat, B[k]? = some true → ∃ m r, m < 0 ∧ S[m]? = some r ∧ Rw.num r = (k : Int)), HXS⟩
        case round =>
          obtain ⟨i, hi, rfl, HB, HXi⟩ := hrel
          by_cases hin : i < n
          · have ti : decide ((i : Int) < (n : Int)) = true := by simp; omega
            have hiS : i < S.length := by rw [HSl.out, HN.out]; exact hin
            obtain ⟨B, hBrow, hB20, hBs⟩ := HB.out
            obtain ⟨r, hr⟩ : ∃ r, S[i] = r := ⟨_, rfl⟩
            have hri : S[i]? = some r := by rw [List.getElem?_eq_getElem hiS, hr]
            have HRi : Hid (S[i]? = some r) := hri
            obtain ⟨bs, os, bc, oc, cr, k, hps, e0, e1, e2, hy2, hrd, hcr, hcr1, hc1, hnum, hkl⟩ := Rw.made_cells HMd.out HS.out (HRS.out.below HXi.out) hri
            subst hps
            have HNum : Hid (Rw.num r = (k : Int)) := hnum
            have hkr : LL[k]? = some r := by
              obtain ⟨k', _, h2, h3⟩ := HMd.out.at (i := i) (r := r) (by rw [HS.out]; exact hri)
              have h4 : Rw.num r = (k' : Int) := by unfold Rw.num; rw [h3]
              have : k = k' := by omega
              subst this
              exact h2
            have hkL := hkl
            rw [HN.out] at hkl
            have hk20 : k < 20 := by omega
            have hBk : B[k]? = some false := by
              rw [List.getElem?_eq_getElem (by omega)]
              cases e : B[k] with
              | false => rfl
              | true =>
                obtain ⟨m, x, h1, h2, h3⟩ := hBs k (by rw [List.getElem?_eq_getElem (by omega), e])
                exact absurd (h3.trans hnum.symm) (HMd.out.apart (by rw [HS.out]; exact h2) (by rw [HS.out]; exact hri) (by omega))
            have hseen : wr.cell? ⟨w5.heap.size, k, none⟩ = some (.bool false) := by
              have h1 := RowAt.cell (k := k) hBrow (by omega)
              rw [List.getElem?_eq_getElem (by omega)] at hBk
              rw [h1, Option.some.inj hBk]
            have HFro : Hid (∀ wx, Ex wr wx → wx.frozen? ⟨w5.heap.size, k, none⟩ = false) := (fun wx hx => RowAt.frozen k (RowAt.below hBrow hx) : ∀ wx, Ex wr wx → wx.frozen? ⟨w5.heap.size, k, none⟩ = false)
            have HBs : Hid (∀ wx, Ex wr wx → ∃ B' : List Bool, RowAt bl 61 (wx.setCell ⟨w5.heap.size, k, none⟩ (.bool true)) w5.heap.size B' ∧ B'.length = 20 ∧ ∀ q : Nat, B'[q]? = some true → ∃ m r, m < i + 1 ∧ S[m]? = some r ∧ Rw.num r = (q : Int)) := (fun wx hx => ⟨B.set k true, RowAt.set (RowAt.below hBrow hx) true rfl, by simp; exact hB20, fun q hq => by
              by_cases e : q = k
              · subst e
                exact ⟨i, r, by omega, HRi.out, HNum.out⟩
              · rw [List.getElem?_set_ne (Ne.symm e)] at hq
                obtain ⟨m, x, h1, h2⟩ := hBs q hq
                exact ⟨m, x, by omega, h2⟩⟩ : ∀ wx, Ex wr wx → ∃ B' : List Bool, RowAt bl 61 (wx.setCell ⟨w5.heap.size, k, none⟩ (.bool true)) w5.heap.size B' ∧ B'.length = 20 ∧ ∀ q : Nat, B'[q]? = some true → ∃ m r, m < i + 1 ∧ S[m]? = some r ∧ Rw.num r = (q : Int))
            obtain ⟨bL, oL, pL, cL, hpL, f0, f1, f2, hld⟩ := (HRL5.out.below HXi.out).at hkL
            subst hpL
            have hLk : LL[k] = r := by
              rw [List.getElem?_eq_getElem hkL] at hkr
              exact Option.some.inj hkr
            rw [hLk] at f0 f1 f2 hld
            rw [hc1] at f2
            have HRow : Hid (∀ wx, Ex wr wx → Calls Try.prog 18 #[rvv ⟨r.t, r.q, some ⟨bc, oc, none⟩, 1, cr⟩, rvv ⟨r.t, r.q, pL, 1, cL⟩] wx fun e w' => e = .returned (.bool true) ∧ Ex wx w') := (fun wx hx => by
              have h := krow_is r r (some ⟨bc, oc, none⟩) cr pL cL wx (RdW.below hrd hx) (RdW.below hld hx) true (by simp)
              rw [hc1] at h
              exact h : ∀ wx, Ex wr wx → Calls Try.prog 18 #[rvv ⟨r.t, r.q, some ⟨bc, oc, none⟩, 1, cr⟩, rvv ⟨r.t, r.q, pL, 1, cL⟩] wx fun e w' => e = .returned (.bool true) ∧ Ex wx w')
            have tk0 : decide ((k : Int) < 0) = false := by first | (simp; done) | (simp; omega)
            have tkn : decide ((n : Int) ≤ (k : Int)) = false := by simp; omega
            clear HB hBrow hB20 hBs hr hri hkr hnum hBk hld hrd hLk hc1 hkL
            go_wp2_with fail
            have hre := Ex.refl
            refine Rg.wp_rows [.inl (Value.int .i64 k), .inl (.bool false), .inl (.bool false), .inl (Value.int .i64 k), .inl (Value.slice (some ⟨bL, oL, none⟩) n cs'), .inl (Value.int .i64 n), .inl (.bool false), .inl (.bool false), .inl (.bool false), .inl (Value.int .i64 k), .inl (Value.pointer (some ⟨w5.heap.size, k, none⟩)), .inl (.bool false), .inl (.bool false), .inl (.bool false), .inl (Value.slice (some ⟨bs, os, none⟩) n ct), .inl (Value.int .i64 i), .inl (Value.pointer (some ⟨bs, os + i * 3, none⟩)), .inl (rvv ⟨r.t, r.q, some ⟨bc, oc, none⟩, 1, cr⟩), .inl (Value.slice (some ⟨bL, oL, none⟩) n cs'), .inl (Value.int .i64 k), .inl (Value.pointer (some ⟨bL, oL + k * 3, none⟩)), .inl (rvv ⟨r.t, r.q, pL, 1, cL⟩), .inl (.bool true), .inl (.bool false), .inl (.bool false)] (Ex wr) Ex 143 (by kernel_rfl) rfl (by kernel_rfl) ?st hre (Ex.drew _) ?goods ?fin
            case st => exact trivial
            case goods =>
              refine Rg.goods_cons (Rg.good_move hre rfl rfl rfl) ?_
              refine Rg.goods_cons (Rg.good_bin hre rfl rfl rfl rfl (fun _ => rfl) (fun w => by go_simp)) ?_
              refine Rg.goods_cons (Rg.good_move hre rfl rfl rfl) ?_
              refine Rg.goods_cons (Rg.good_move hre rfl rfl rfl) ?_
              refine Rg.goods_cons (Rg.good_move hre rfl rfl rfl) ?_
              refine Rg.goods_cons (Rg.good_len hre rfl rfl (by rintro u wx hC rfl; go_simp)) ?_
              refine Rg.goods_cons (Rg.good_bin hre rfl rfl rfl rfl (fun _ => rfl) (fun w => by go_simp)) ?_
              refine Rg.goods_cons (Rg.good_pick false hre rfl rfl rfl rfl) ?_
              refine Rg.goods_cons (Rg.good_move hre rfl rfl rfl) ?_
              refine Rg.goods_cons (Rg.good_move hre rfl rfl rfl) ?_
              refine Rg.goods_cons (Rg.good_index hre rfl rfl rfl rfl (fun wx hC => by first | (go_simp; done) | (go_simp; intro h; exfalso; omega))) ?_
              refine Rg.goods_cons (Rg.good_load hre rfl rfl rfl (fun wx hC => by have hz := cell_ex hseen hC; go_simp)) ?_
              refine Rg.goods_cons (Rg.good_pick false hre rfl rfl rfl rfl) ?_
              refine Rg.goods_cons (Rg.good_move hre rfl rfl rfl) ?_
              refine Rg.goods_cons (Rg.good_move hre rfl rfl rfl) ?_
              refine Rg.goods_cons (Rg.good_move hre rfl rfl rfl) ?_
              refine Rg.goods_cons (Rg.good_index hre rfl rfl rfl rfl (fun wx hC => by first | (go_simp; done) | (go_simp; intro h; exfalso; omega))) ?_
              refine Rg.goods_cons (Rg.good_load hre rfl rfl rfl (fun wx hC => by exact loadI_row (cell_ex e0 hC) (cell_ex e1 hC) (cell_ex e2 hC))) ?_
              refine Rg.goods_cons (Rg.good_move hre rfl rfl rfl) ?_
              refine Rg.goods_cons (Rg.good_move hre rfl rfl rfl) ?_
              refine Rg.goods_cons (Rg.good_index hre rfl rfl rfl rfl (fun wx hC => by first | (go_simp; done) | (go_simp; intro h; exfalso; omega))) ?_
              refine Rg.goods_cons (Rg.good_load hre rfl rfl rfl (fun wx hC => by exact loadI_row (cell_ex f0 hC) (cell_ex f1 hC) (cell_ex f2 hC))) ?_
              refine Rg.goods_cons (Rg.good_call2 Try.func18 (by kernel_rfl) rfl rfl rfl (by rintro u u2 wx hC rfl rfl; exact ex_row (HRow.out wx hC) hC)) ?_
              refine Rg.goods_cons (Rg.good_un hre rfl rfl rfl (fun w => by go_simp)) ?_
              refine Rg.goods_cons (Rg.good_pick false hre rfl rfl rfl rfl) ?_
              exact Rg.goods_nil
            case fin =>
              intro wx hx
              simp only [Rg.later, Act.put, List.setIfInBounds_toArray, List.set_cons_succ, List.set_cons_zero]
              have hfz := HFro.out wx hx
              have hsx := cell_ex hseen hx
              obtain ⟨wy, hwy⟩ : ∃ wy, wx.setCell ⟨w5.heap.size, k, none⟩ (.bool true) = wy := ⟨_, rfl⟩
              have HWy : Hid (wx.setCell ⟨w5.heap.size, k, none⟩ (.bool true) = wy) := hwy
              have HXy : Hid (Ex w5 wy) := (by rw [← hwy]; exact Below.setCell (HXi.out.trans hx) (p := ⟨w5.heap.size, k, none⟩) (Nat.le_refl _) _ : Ex w5 wy)
              have HB' : Hid (∃ B' : List Bool, RowAt bl 61 wy w5.heap.size B' ∧ B'.length = 20 ∧ ∀ q : Nat, B'[q]? = some true → ∃ m r, m < i + 1 ∧ S[m]? = some r ∧ Rw.num r = (q : Int)) := (by rw [← hwy]; exact HBs.out wx hx : ∃ B' : List Bool, RowAt bl 61 wy w5.heap.size B' ∧ B'.length = 20 ∧ ∀ q : Nat, B'[q]? = some true → ∃ m r, m < i + 1 ∧ S[m]? = some r ∧ Rw.num r = (q : Int))
              obtain ⟨b', o', bc', oc', cr', k', hps, g0, g1, g2, gy, grd, gcr, gcr1, gc1, gnum, _⟩ := Rw.made_cells HMd.out HS.out (HRS.out.below HXy.out) HRi.out
              simp only [Option.some.injEq, Addr.mk.injEq, and_true] at hps
              obtain ⟨rfl, rfl⟩ := hps
              have HGrd : Hid (RdC wy (some ⟨bc', oc', none⟩) cr' r.c) := grd
              have HGc : Hid (r.c.length = 1) := gc1
              have HGn : Hid (Rw.num r = (k' : Int)) := gnum
              clear hwy hx e0 e1 e2 f0 f1 f2 hy2 grd gc1 gnum
              go_wp2_with fail
              rw [HWy.out]
              clear hfz hsx hseen
              by_cases hi0 : i = 0
              · subst hi0
                have hre := Ex.refl
                refine Rg.wp_rows [.inl (Value.int .i64 ((0 : Nat) : Int)), .inl (.bool false), .inl (.bool false), .inl undef, .inl undef, .inl undef, .inl undef, .inl undef, .inl undef, .inl undef, .inl undef, .inl undef, .inl undef, .inl undef, .inl undef, .inl undef, .inl undef, .inl undef, .inl undef, .inl undef, .inl undef, .inl undef, .inl undef, .inl undef, .inl undef, .inl undef, .inl undef, .inl undef, .inl undef, .inl undef, .inl undef, .inl undef, .inl undef, .inl undef, .inl undef, .inl undef, .inl undef, .inl undef, .inl undef, .inl undef, .inl undef, .inl undef, .inl undef, .inl undef, .inl undef, .inl undef, .inl (.bool false)] (Ex wy) Ex 143 (by kernel_rfl) rfl (by kernel_rfl) ?st hre (Ex.drew _) ?goods ?fin
                case st => exact trivial
                case goods =>
                  refine Rg.goods_cons (Rg.good_move hre rfl rfl rfl) ?_
                  refine Rg.goods_cons (Rg.good_bin hre rfl rfl rfl rfl (fun _ => rfl) (fun w => by go_simp)) ?_
                  refine Rg.goods_cons (Rg.good_move hre rfl rfl rfl) ?_
                  refine Rg.goods_cons (Rg.good_skip rfl) ?_
                  refine Rg.goods_cons (Rg.good_skip rfl) ?_
                  refine Rg.goods_cons (Rg.good_skip rfl) ?_
                  refine Rg.goods_cons (Rg.good_skip rfl) ?_
                  refine Rg.goods_cons (Rg.good_skip rfl) ?_
                  refine Rg.goods_cons (Rg.good_skip rfl) ?_
                  refine Rg.goods_cons (Rg.good_skip rfl) ?_
                  refine Rg.goods_cons (Rg.good_skip rfl) ?_
                  refine Rg.goods_cons (Rg.good_skip rfl) ?_
                  refine Rg.goods_cons (Rg.good_skip rfl) ?_
                  refine Rg.goods_cons (Rg.good_skip rfl) ?_
                  refine Rg.goods_cons (Rg.good_skip rfl) ?_
                  refine Rg.goods_cons (Rg.good_skip rfl) ?_
                  refine Rg.goods_cons (Rg.good_skip rfl) ?_
                  refine Rg.goods_cons (Rg.good_skip rfl) ?_
                  refine Rg.goods_cons (Rg.good_skip rfl) ?_
                  refine Rg.goods_cons (Rg.good_skip rfl) ?_
                  refine Rg.goods_cons (Rg.good_skip rfl) ?_
                  refine Rg.goods_cons (Rg.good_skip rfl) ?_
                  refine Rg.goods_cons (Rg.good_skip rfl) ?_
                  refine Rg.goods_cons (Rg.good_skip rfl) ?_
                  refine Rg.goods_cons (Rg.good_skip rfl) ?_
                  refine Rg.goods_cons (Rg.good_skip rfl) ?_
                  refine Rg.goods_cons (Rg.good_skip rfl) ?_
                  refine Rg.goods_cons (Rg.good_skip rfl) ?_
                  refine Rg.goods_cons (Rg.good_skip rfl) ?_
                  refine Rg.goods_cons (Rg.good_skip rfl) ?_
                  refine Rg.goods_cons (Rg.good_skip rfl) ?_
                  refine Rg.goods_cons (Rg.good_skip rfl) ?_
                  refine Rg.goods_cons (Rg.good_skip rfl) ?_
                  refine Rg.goods_cons (Rg.good_skip rfl) ?_
                  refine Rg.goods_cons (Rg.good_skip rfl) ?_
                  refine Rg.goods_cons (Rg.good_skip rfl) ?_
                  refine Rg.goods_cons (Rg.good_skip rfl) ?_
                  refine Rg.goods_cons (Rg.good_skip rfl) ?_
                  refine Rg.goods_cons (Rg.good_skip rfl) ?_
                  refine Rg.goods_cons (Rg.good_skip rfl) ?_
                  refine Rg.goods_cons (Rg.good_skip rfl) ?_
                  refine Rg.goods_cons (Rg.good_skip rfl) ?_
                  refine Rg.goods_cons (Rg.good_skip rfl) ?_
                  refine Rg.goods_cons (Rg.good_skip rfl) ?_
                  refine Rg.goods_cons (Rg.good_skip rfl) ?_
                  refine Rg.goods_cons (Rg.good_skip rfl) ?_
                  refine Rg.goods_cons (Rg.good_pick false hre rfl rfl rfl rfl) ?_
                  exact Rg.goods_nil
                case fin =>
                  intro wx hx
                  simp only [Rg.later, Act.put, List.setIfInBounds_toArray, List.set_cons_succ, List.set_cons_zero]
                  have HXx : Hid (Ex w5 wx) := HXy.out.trans hx
                  have HBx : Hid (∃ B' : List Bool, RowAt bl 61 wx w5.heap.size B' ∧ B'.length = 20 ∧ ∀ q : Nat, B'[q]? = some true → ∃ mm r, mm < 0 + 1 ∧ S[mm]? = some r ∧ Rw.num r = (q : Int)) := (by
                    obtain ⟨B', h1, h2, h3⟩ := HB'.out
                    exact ⟨B', RowAt.below h1 hx, h2, h3⟩ : ∃ B' : List Bool, RowAt bl 61 wx w5.heap.size B' ∧ B'.length = 20 ∧ ∀ q : Nat, B'[q]? = some true → ∃ mm r, mm < 0 + 1 ∧ S[mm]? = some r ∧ Rw.num r = (q : Int))
                  clear hx
                  go_wp2_with fail
                  go_roundw
                  case rel => exact ⟨0 + 1, by omega, by go_num, HBx, HXx⟩
                  case measure => simp [intOf]; omega
              · have hip : 0 < i := by omega
                obtain ⟨m, rfl⟩ : ∃ m, i = m + 1 := ⟨i - 1, by omega⟩
                have hmS : m < S.length := by omega
                obtain ⟨u, hu⟩ : ∃ u, S[m] = u := ⟨_, rfl⟩
                have hum : S[m]? = some u := by rw [List.getElem?_eq_getElem hmS, hu]
                obtain ⟨b2, o2, bd, od, cu, ku, hps, h0, h1, h2, hyu, hud, hcu, hcu1, hc1u, hnumu, _⟩ := Rw.made_cells HMd.out HS.out (HRS.out.below HXy.out) hum
                simp only [Option.some.injEq, Addr.mk.injEq, and_true] at hps
                obtain ⟨rfl, rfl⟩ := hps
                have HUd : Hid (RdC wy (some ⟨bd, od, none⟩) cu u.c) := hud
                have HUc : Hid (u.c.length = 1) := hc1u
                have hls : Rw.less r u = false := Rw.sort_next (l := LL) (i := m) (by rw [HS.out]; exact hum) (by rw [HS.out]; exact HRi.out)
                have HL1 : Hid (∀ wx, Ex wy wx → Calls Try.prog 33 #[rvv ⟨r.t, r.q, some ⟨bc', oc', none⟩, 1, cr'⟩, rvv ⟨u.t, u.q, some ⟨bd, od, none⟩, 1, cu⟩] wx fun e w' => e = .returned (.bool false) ∧ Ex wx w') := (fun wx hx => f_less _ _ r u wx ⟨rfl, rfl, HGc.out.symm, RdW.below HGrd.out hx⟩ ⟨rfl, rfl, HUc.out.symm, RdW.below HUd.out hx⟩ false hls : ∀ wx, Ex wy wx → Calls Try.prog 33 #[rvv ⟨r.t, r.q, some ⟨bc', oc', none⟩, 1, cr'⟩, rvv ⟨u.t, u.q, some ⟨bd, od, none⟩, 1, cu⟩] wx fun e w' => e = .returned (.bool false) ∧ Ex wx w')
                obtain ⟨lu, hlu⟩ : ∃ z, Rw.less u r = z := ⟨_, rfl⟩
                have HL2 : Hid (∀ wx, Ex wy wx → Calls Try.prog 33 #[rvv ⟨u.t, u.q, some ⟨bd, od, none⟩, 1, cu⟩, rvv ⟨r.t, r.q, some ⟨bc', oc', none⟩, 1, cr'⟩] wx fun e w' => e = .returned (.bool lu) ∧ Ex wx w') := (fun wx hx => f_less _ _ u r wx ⟨rfl, rfl, HUc.out.symm, RdW.below HUd.out hx⟩ ⟨rfl, rfl, HGc.out.symm, RdW.below HGrd.out hx⟩ lu hlu : ∀ wx, Ex wy wx → Calls Try.prog 33 #[rvv ⟨u.t, u.q, some ⟨bd, od, none⟩, 1, cu⟩, rvv ⟨r.t, r.q, some ⟨bc', oc', none⟩, 1, cr'⟩] wx fun e w' => e = .returned (.bool lu) ∧ Ex wx w')
                have HK : Hid (lu = false → ku < k') := (fun h => by
                  rw [h] at hlu
                  have hkey := Rw.less_same hlu hls
                  have := HMd.out.stable (i := m) (j := m + 1) (by rw [HS.out]; exact hum) (by rw [HS.out]; exact HRi.out) (by omega) hkey
                  rw [hnumu, HGn.out] at this
                  omega : lu = false → ku < k')
                have tpos : decide ((0 : Int) < ((m + 1 : Nat) : Int)) = true := by simp
                have hm1 : ((m + 1 : Nat) : Int) - 1 = (m : Int) := by omega
                have hmn : m < n := by omega
                clear hu hum hud hc1u hls hlu hnumu
                cases lu with
                | true =>
                  clear HK
                  have hre := Ex.refl
                  refine Rg.wp_rows [.inl (Value.int .i64 ((m + 1 : Nat) : Int)), .inl (.bool true), .inl (.bool true), .inl (Value.slice (some ⟨bs, os, none⟩) n ct), .inl (Value.int .i64 ((m + 1 : Nat) : Int)), .inl (Value.pointer (some ⟨bs, os + (m + 1) * 3, none⟩)), .inl (rvv ⟨r.t, r.q, some ⟨bc', oc', none⟩, 1, cr'⟩), .inl (Value.slice (some ⟨bs, os, none⟩) n ct), .inl (Value.int .i64 ((m + 1 : Nat) : Int)), .inl (Value.int .i64 m), .inl (Value.pointer (some ⟨bs, os + m * 3, none⟩)), .inl (rvv ⟨u.t, u.q, some ⟨bd, od, none⟩, 1, cu⟩), .inl (.bool false), .inl (.bool false), .inl (Value.slice (some ⟨bs, os, none⟩) n ct), .inl (Value.int .i64 ((m + 1 : Nat) : Int)), .inl (Value.int .i64 m), .inl (Value.pointer (some ⟨bs, os + m * 3, none⟩)), .inl (rvv ⟨u.t, u.q, some ⟨bd, od, none⟩, 1, cu⟩), .inl (Value.slice (some ⟨bs, os, none⟩) n ct), .inl (Value.int .i64 ((m + 1 : Nat) : Int)), .inl (Value.pointer (some ⟨bs, os + (m + 1) * 3, none⟩)), .inl (rvv ⟨r.t, r.q, some ⟨bc', oc', none⟩, 1, cr'⟩), .inl (.bool true), .inl (.bool false), .inl (.bool false), .inl undef, .inl undef, .inl undef, .inl undef, .inl undef, .inl undef, .inl undef, .inl undef, .inl undef, .inl undef, .inl undef, .inl undef, .inl undef, .inl undef, .inl undef, .inl undef, .inl undef, .inl undef, .inl (.bool false), .inl (.bool false), .inl (.bool false)] (Ex wy) Ex 143 (by kernel_rfl) rfl (by kernel_rfl) ?st hre (Ex.drew _) ?goods ?fin
                  case st => exact trivial
                  case goods =>
                    refine Rg.goods_cons (Rg.good_move hre rfl rfl rfl) ?_
                    refine Rg.goods_cons (Rg.good_bin hre rfl rfl rfl rfl (fun _ => rfl) (fun w => by first | (go_simp; done) | (go_simp; omega))) ?_
                    refine Rg.goods_cons (Rg.good_move hre rfl rfl rfl) ?_
                    refine Rg.goods_cons (Rg.good_move hre rfl rfl rfl) ?_
                    refine Rg.goods_cons (Rg.good_move hre rfl rfl rfl) ?_
                    refine Rg.goods_cons (Rg.good_index hre rfl rfl rfl rfl (fun wx hC => by first | (go_simp; done) | (go_simp; intro h; exfalso; omega))) ?_
                    refine Rg.goods_cons (Rg.good_load hre rfl rfl rfl (fun wx hC => by exact loadI_row (cell_ex g0 hC) (cell_ex g1 hC) (cell_ex g2 hC))) ?_
                    refine Rg.goods_cons (Rg.good_move hre rfl rfl rfl) ?_
                    refine Rg.goods_cons (Rg.good_move hre rfl rfl rfl) ?_
                    refine Rg.goods_cons (Rg.good_bin hre rfl rfl rfl rfl (fun _ => rfl) (fun w => by first | (go_simp; done) | (go_simp; omega) | (go_simp; rw [wi64r _ (by omega) (by omega)]; done) | (go_simp; rw [wi64r _ (by omega) (by omega)]; omega) | (go_simp; exact wi64r _ (by omega) (by omega)))) ?_
                    refine Rg.goods_cons (Rg.good_index hre rfl rfl rfl rfl (fun wx hC => by first | (go_simp; done) | (go_simp; intro h; exfalso; omega))) ?_
                    refine Rg.goods_cons (Rg.good_load hre rfl rfl rfl (fun wx hC => by exact loadI_row (cell_ex h0 hC) (cell_ex h1 hC) (cell_ex h2 hC))) ?_
                    refine Rg.goods_cons (Rg.good_call2 Try.func33 (by kernel_rfl) rfl rfl rfl (by rintro u u2 wx hC rfl rfl; exact ex_row (HL1.out wx hC) hC)) ?_
                    refine Rg.goods_cons (Rg.good_move hre rfl rfl rfl) ?_
                    refine Rg.goods_cons (Rg.good_move hre rfl rfl rfl) ?_
                    refine Rg.goods_cons (Rg.good_move hre rfl rfl rfl) ?_
                    refine Rg.goods_cons (Rg.good_bin hre rfl rfl rfl rfl (fun _ => rfl) (fun w => by first | (go_simp; done) | (go_simp; omega) | (go_simp; rw [wi64r _ (by omega) (by omega)]; done) | (go_simp; rw [wi64r _ (by omega) (by omega)]; omega) | (go_simp; exact wi64r _ (by omega) (by omega)))) ?_
                    refine Rg.goods_cons (Rg.good_index hre rfl rfl rfl rfl (fun wx hC => by first | (go_simp; done) | (go_simp; intro h; exfalso; omega))) ?_
                    refine Rg.goods_cons (Rg.good_load hre rfl rfl rfl (fun wx hC => by exact loadI_row (cell_ex h0 hC) (cell_ex h1 hC) (cell_ex h2 hC))) ?_
                    refine Rg.goods_cons (Rg.good_move hre rfl rfl rfl) ?_
                    refine Rg.goods_cons (Rg.good_move hre rfl rfl rfl) ?_
                    refine Rg.goods_cons (Rg.good_index hre rfl rfl rfl rfl (fun wx hC => by first | (go_simp; done) | (go_simp; intro h; exfalso; omega))) ?_
                    refine Rg.goods_cons (Rg.good_load hre rfl rfl rfl (fun wx hC => by exact loadI_row (cell_ex g0 hC) (cell_ex g1 hC) (cell_ex g2 hC))) ?_
                    refine Rg.goods_cons (Rg.good_call2 Try.func33 (by kernel_rfl) rfl rfl rfl (by rintro u u2 wx hC rfl rfl; exact ex_row (HL2.out wx hC) hC)) ?_
                    refine Rg.goods_cons (Rg.good_un hre rfl rfl rfl (fun w => by go_simp)) ?_
                    refine Rg.goods_cons (Rg.good_move hre rfl rfl rfl) ?_
                    refine Rg.goods_cons (Rg.good_skip rfl) ?_
                    refine Rg.goods_cons (Rg.good_skip rfl) ?_
                    refine Rg.goods_cons (Rg.good_skip rfl) ?_
                    refine Rg.goods_cons (Rg.good_skip rfl) ?_
                    refine Rg.goods_cons (Rg.good_skip rfl) ?_
                    refine Rg.goods_cons (Rg.good_skip rfl) ?_
                    refine Rg.goods_cons (Rg.good_skip rfl) ?_
                    refine Rg.goods_cons (Rg.good_skip rfl) ?_
                    refine Rg.goods_cons (Rg.good_skip rfl) ?_
                    refine Rg.goods_cons (Rg.good_skip rfl) ?_
                    refine Rg.goods_cons (Rg.good_skip rfl) ?_
                    refine Rg.goods_cons (Rg.good_skip rfl) ?_
                    refine Rg.goods_cons (Rg.good_skip rfl) ?_
                    refine Rg.goods_cons (Rg.good_skip rfl) ?_
                    refine Rg.goods_cons (Rg.good_skip rfl) ?_
                    refine Rg.goods_cons (Rg.good_skip rfl) ?_
                    refine Rg.goods_cons (Rg.good_skip rfl) ?_
                    refine Rg.goods_cons (Rg.good_skip rfl) ?_
                    refine Rg.goods_cons (Rg.good_pick false hre rfl rfl rfl rfl) ?_
                    refine Rg.goods_cons (Rg.good_pick false hre rfl rfl rfl rfl) ?_
                    refine Rg.goods_cons (Rg.good_pick true hre rfl rfl rfl rfl) ?_
                    exact Rg.goods_nil
                  case fin =>
                    intro wx hx
                    simp only [Rg.later, Act.put, List.setIfInBounds_toArray, List.set_cons_succ, List.set_cons_zero]
                    have HXx : Hid (Ex w5 wx) := HXy.out.trans hx
                    have HBx : Hid (∃ B' : List Bool, RowAt bl 61 wx w5.heap.size B' ∧ B'.length = 20 ∧ ∀ q : Nat, B'[q]? = some true → ∃ mm r, mm < m + 1 + 1 ∧ S[mm]? = some r ∧ Rw.num r = (q : Int)) := (by
                      obtain ⟨B', h1, h2, h3⟩ := HB'.out
                      exact ⟨B', RowAt.below h1 hx, h2, h3⟩ : ∃ B' : List Bool, RowAt bl 61 wx w5.heap.size B' ∧ B'.length = 20 ∧ ∀ q : Nat, B'[q]? = some true → ∃ mm r, mm < m + 1 + 1 ∧ S[mm]? = some r ∧ Rw.num r = (q : Int))
                    clear hx
                    go_wp2_with fail
                    go_roundw
                    case rel => exact ⟨m + 1 + 1, by omega, by go_num, HBx, HXx⟩
                    case measure => simp [intOf]; omega
                | false =>
                  have hku := HK.out rfl
                  have tku : decide ((k' : Int) < (ku : Int)) = false := by simp; omega
                  have hre := Ex.refl
                  refine Rg.wp_rows [.inl (Value.int .i64 ((m + 1 : Nat) : Int)), .inl (.bool true), .inl (.bool true), .inl (Value.slice (some ⟨bs, os, none⟩) n ct), .inl (Value.int .i64 ((m + 1 : Nat) : Int)), .inl (Value.pointer (some ⟨bs, os + (m + 1) * 3, none⟩)), .inl (rvv ⟨r.t, r.q, some ⟨bc', oc', none⟩, 1, cr'⟩), .inl (Value.slice (some ⟨bs, os, none⟩) n ct), .inl (Value.int .i64 ((m + 1 : Nat) : Int)), .inl (Value.int .i64 m), .inl (Value.pointer (some ⟨bs, os + m * 3, none⟩)), .inl (rvv ⟨u.t, u.q, some ⟨bd, od, none⟩, 1, cu⟩), .inl (.bool false), .inl (.bool false), .inl (Value.slice (some ⟨bs, os, none⟩) n ct), .inl (Value.int .i64 ((m + 1 : Nat) : Int)), .inl (Value.int .i64 m), .inl (Value.pointer (some ⟨bs, os + m * 3, none⟩)), .inl (rvv ⟨u.t, u.q, some ⟨bd, od, none⟩, 1, cu⟩), .inl (Value.slice (some ⟨bs, os, none⟩) n ct), .inl (Value.int .i64 ((m + 1 : Nat) : Int)), .inl (Value.pointer (some ⟨bs, os + (m + 1) * 3, none⟩)), .inl (rvv ⟨r.t, r.q, some ⟨bc', oc', none⟩, 1, cr'⟩), .inl (.bool false), .inl (.bool true), .inl (.bool true), .inl (Value.slice (some ⟨bs, os, none⟩) n ct), .inl (Value.int .i64 ((m + 1 : Nat) : Int)), .inl (Value.int .i64 m), .inl (Value.pointer (some ⟨bs, os + m * 3, none⟩)), .inl (Value.pointer (some ⟨bs, os + m * 3 + 2, none⟩)), .inl (Value.slice (some ⟨bd, od, none⟩) 1 cu), .inl (Value.pointer (some ⟨bd, od, none⟩)), .inl (Value.pointer (some ⟨bd, od + 2, none⟩)), .inl (Value.int .i64 ku), .inl (Value.slice (some ⟨bs, os, none⟩) n ct), .inl (Value.int .i64 ((m + 1 : Nat) : Int)), .inl (Value.pointer (some ⟨bs, os + (m + 1) * 3, none⟩)), .inl (Value.pointer (some ⟨bs, os + (m + 1) * 3 + 2, none⟩)), .inl (Value.slice (some ⟨bc', oc', none⟩) 1 cr'), .inl (Value.pointer (some ⟨bc', oc', none⟩)), .inl (Value.pointer (some ⟨bc', oc' + 2, none⟩)), .inl (Value.int .i64 k'), .inl (.bool false), .inl (.bool false), .inl (.bool false), .inl (.bool false)] (Ex wy) Ex 143 (by kernel_rfl) rfl (by kernel_rfl) ?st hre (Ex.drew _) ?goods ?fin
                  case st => exact trivial
                  case goods =>
                    refine Rg.goods_cons (Rg.good_move hre rfl rfl rfl) ?_
                    refine Rg.goods_cons (Rg.good_bin hre rfl rfl rfl rfl (fun _ => rfl) (fun w => by first | (go_simp; done) | (go_simp; omega))) ?_
                    refine Rg.goods_cons (Rg.good_move hre rfl rfl rfl) ?_
                    refine Rg.goods_cons (Rg.good_move hre rfl rfl rfl) ?_
                    refine Rg.goods_cons (Rg.good_move hre rfl rfl rfl) ?_
                    refine Rg.goods_cons (Rg.good_index hre rfl rfl rfl rfl (fun wx hC => by first | (go_simp; done) | (go_simp; intro h; exfalso; omega))) ?_
                    refine Rg.goods_cons (Rg.good_load hre rfl rfl rfl (fun wx hC => by exact loadI_row (cell_ex g0 hC) (cell_ex g1 hC) (cell_ex g2 hC))) ?_
                    refine Rg.goods_cons (Rg.good_move hre rfl rfl rfl) ?_
                    refine Rg.goods_cons (Rg.good_move hre rfl rfl rfl) ?_
                    refine Rg.goods_cons (Rg.good_bin hre rfl rfl rfl rfl (fun _ => rfl) (fun w => by first | (go_simp; done) | (go_simp; omega) | (go_simp; rw [wi64r _ (by omega) (by omega)]; done) | (go_simp; rw [wi64r _ (by omega) (by omega)]; omega) | (go_simp; exact wi64r _ (by omega) (by omega)))) ?_
                    refine Rg.goods_cons (Rg.good_index hre rfl rfl rfl rfl (fun wx hC => by first | (go_simp; done) | (go_simp; intro h; exfalso; omega))) ?_
                    refine Rg.goods_cons (Rg.good_load hre rfl rfl rfl (fun wx hC => by exact loadI_row (cell_ex h0 hC) (cell_ex h1 hC) (cell_ex h2 hC))) ?_
                    refine Rg.goods_cons (Rg.good_call2 Try.func33 (by kernel_rfl) rfl rfl rfl (by rintro u u2 wx hC rfl rfl; exact ex_row (HL1.out wx hC) hC)) ?_
                    refine Rg.goods_cons (Rg.good_move hre rfl rfl rfl) ?_
                    refine Rg.goods_cons (Rg.good_move hre rfl rfl rfl) ?_
                    refine Rg.goods_cons (Rg.good_move hre rfl rfl rfl) ?_
                    refine Rg.goods_cons (Rg.good_bin hre rfl rfl rfl rfl (fun _ => rfl) (fun w => by first | (go_simp; done) | (go_simp; omega) | (go_simp; rw [wi64r _ (by omega) (by omega)]; done) | (go_simp; rw [wi64r _ (by omega) (by omega)]; omega) | (go_simp; exact wi64r _ (by omega) (by omega)))) ?_
                    refine Rg.goods_cons (Rg.good_index hre rfl rfl rfl rfl (fun wx hC => by first | (go_simp; done) | (go_simp; intro h; exfalso; omega))) ?_
                    refine Rg.goods_cons (Rg.good_load hre rfl rfl rfl (fun wx hC => by exact loadI_row (cell_ex h0 hC) (cell_ex h1 hC) (cell_ex h2 hC))) ?_
                    refine Rg.goods_cons (Rg.good_move hre rfl rfl rfl) ?_
                    refine Rg.goods_cons (Rg.good_move hre rfl rfl rfl) ?_
                    refine Rg.goods_cons (Rg.good_index hre rfl rfl rfl rfl (fun wx hC => by first | (go_simp; done) | (go_simp; intro h; exfalso; omega))) ?_
                    refine Rg.goods_cons (Rg.good_load hre rfl rfl rfl (fun wx hC => by exact loadI_row (cell_ex g0 hC) (cell_ex g1 hC) (cell_ex g2 hC))) ?_
                    refine Rg.goods_cons (Rg.good_call2 Try.func33 (by kernel_rfl) rfl rfl rfl (by rintro u u2 wx hC rfl rfl; exact ex_row (HL2.out wx hC) hC)) ?_
                    refine Rg.goods_cons (Rg.good_un hre rfl rfl rfl (fun w => by go_simp)) ?_
                    refine Rg.goods_cons (Rg.good_move hre rfl rfl rfl) ?_
                    refine Rg.goods_cons (Rg.good_move hre rfl rfl rfl) ?_
                    refine Rg.goods_cons (Rg.good_move hre rfl rfl rfl) ?_
                    refine Rg.goods_cons (Rg.good_bin hre rfl rfl rfl rfl (fun _ => rfl) (fun w => by first | (go_simp; done) | (go_simp; omega) | (go_simp; rw [wi64r _ (by omega) (by omega)]; done) | (go_simp; rw [wi64r _ (by omega) (by omega)]; omega) | (go_simp; exact wi64r _ (by omega) (by omega)))) ?_
                    refine Rg.goods_cons (Rg.good_index hre rfl rfl rfl rfl (fun wx hC => by first | (go_simp; done) | (go_simp; intro h; exfalso; omega))) ?_
                    refine Rg.goods_cons (Rg.good_field hre rfl rfl rfl (fun wx hC => by go_simp)) ?_
                    refine Rg.goods_cons (Rg.good_load hre rfl rfl rfl (fun wx hC => by have hz := cell_ex h2 hC; go_simp)) ?_
                    refine Rg.goods_cons (Rg.good_index hre rfl rfl rfl rfl (fun wx hC => by go_simp)) ?_
                    refine Rg.goods_cons (Rg.good_field hre rfl rfl rfl (fun wx hC => by go_simp)) ?_
                    refine Rg.goods_cons (Rg.good_load hre rfl rfl rfl (fun wx hC => by have hz := cell_ex hyu hC; go_simp)) ?_
                    refine Rg.goods_cons (Rg.good_move hre rfl rfl rfl) ?_
                    refine Rg.goods_cons (Rg.good_move hre rfl rfl rfl) ?_
                    refine Rg.goods_cons (Rg.good_index hre rfl rfl rfl rfl (fun wx hC => by first | (go_simp; done) | (go_simp; intro h; exfalso; omega))) ?_
                    refine Rg.goods_cons (Rg.good_field hre rfl rfl rfl (fun wx hC => by go_simp)) ?_
                    refine Rg.goods_cons (Rg.good_load hre rfl rfl rfl (fun wx hC => by have hz := cell_ex g2 hC; go_simp)) ?_
                    refine Rg.goods_cons (Rg.good_index hre rfl rfl rfl rfl (fun wx hC => by go_simp)) ?_
                    refine Rg.goods_cons (Rg.good_field hre rfl rfl rfl (fun wx hC => by go_simp)) ?_
                    refine Rg.goods_cons (Rg.good_load hre rfl rfl rfl (fun wx hC => by have hz := cell_ex gy hC; go_simp)) ?_
                    refine Rg.goods_cons (Rg.good_bin hre rfl rfl rfl rfl (fun _ => rfl) (fun w => by first | (go_simp; done) | (go_simp; omega))) ?_
                    refine Rg.goods_cons (Rg.good_pick true hre rfl rfl rfl rfl) ?_
                    refine Rg.goods_cons (Rg.good_pick false hre rfl rfl rfl rfl) ?_
                    refine Rg.goods_cons (Rg.good_pick true hre rfl rfl rfl rfl) ?_
                    exact Rg.goods_nil
                  case fin =>
                    intro wx hx
                    simp only [Rg.later, Act.put, List.setIfInBounds_toArray, List.set_cons_succ, List.set_cons_zero]
                    have HXx : Hid (Ex w5 wx) := HXy.out.trans hx
                    have HBx : Hid (∃ B' : List Bool, RowAt bl 61 wx w5.heap.size B' ∧ B'.length = 20 ∧ ∀ q : Nat, B'[q]? = some true → ∃ mm r, mm < m + 1 + 1 ∧ S[mm]? = some r ∧ Rw.num r = (q : Int)) := (by
                      obtain ⟨B', h1, h2, h3⟩ := HB'.out
                      exact ⟨B', RowAt.below h1 hx, h2, h3⟩ : ∃ B' : List Bool, RowAt bl 61 wx w5.heap.size B' ∧ B'.length = 20 ∧ ∀ q : Nat, B'[q]? = some true → ∃ mm r, mm < m + 1 + 1 ∧ S[mm]? = some r ∧ Rw.num r = (q : Int))
                    clear hx
                    go_wp2_with fail
                    go_roundw
                    case rel => exact ⟨m + 1 + 1, by omega, by go_num, HBx, HXx⟩
                    case measure => simp [intOf]; omega
          · obtain rfl : i = n := by omega
            have ti : decide ((i : Int) < (i : Int)) = false := by simp
            clear HB
            go_wp2_with fail
            refine (f_sort ps _ ct S _ (by rw [HSl.out, HN.out]) (HRS.out.below HXi.out) (by rw [HSl.out, HN.out]; omega) HSc.out).mono ?_
            rintro e w6 ⟨pu, cu, rfl, hru, hx6⟩
            rw [HSS.out] at hru
            rw [HSS.out]
            have HX6 : Hid (Ex w5 w6) := HXi.out.trans hx6
            have HRu : Hid (RdR w6 pu cu S) := hru
            clear hru hx6
            go_wp2_with fail
            refine (krows_is pu _ cu S ps _ ct S _ rfl (by rw [HSl.out, HN.out]) HRu.out (HRS.out.below HX6.out) true (by simp)).mono ?_
            rintro e w7 ⟨rfl, hx7⟩
            have HX7 : Hid (Ex w w7) := HX5.out.trans (HX6.out.trans hx7)
            clear hx7
            go_wp2_with fail
            refine (known_any _).mono ?_
            rintro e w8 ⟨rfl, hx8⟩
            go_wp2_with fail
            go_ret
            exact ⟨rfl, HX7.out.trans hx8⟩
end Go.Proofs.Ytghnbohplonhoaa.rowSorts
