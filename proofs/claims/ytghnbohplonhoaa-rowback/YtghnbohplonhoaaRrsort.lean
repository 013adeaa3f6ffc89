/-
  The document's own Sort.
-/
import Derived.Test.YtghnbohplonhoaaRright
import Derived.Test.YtghnbohplonhoaaCat
namespace Go.Proofs.Ytghnbohplonhoaa
open Go.RowKit
set_option linter.unusedVariables false
set_option linter.unusedSimpArgs false
theorem EachR.take {w : World} {vs : List RV} {l : List Rw} (h : EachR w vs l) (k : Nat) : EachR w (vs.take k) (l.take k) := ⟨by simp [h.1], fun i v r h1 h2 => by
  rw [List.getElem?_take] at h1 h2
  split at h1
  · rename_i hk; rw [if_pos hk] at h2; exact h.2 i v r h1 h2
  · cases h1⟩
theorem EachR.drop {w : World} {vs : List RV} {l : List Rw} (h : EachR w vs l) (k : Nat) : EachR w (vs.drop k) (l.drop k) := ⟨by simp [h.1], fun i v r h1 h2 => by
  rw [List.getElem?_drop] at h1 h2
  exact h.2 (k + i) v r h1 h2⟩
namespace Rg
section
variable {ops : Array Oper} {specs : List Spec} {a0 : Act} {o : Oper} {s : Spec} {ρ : Operand → Value} {w : World}
theorem q_move {x : Operand} (ho : o.op = .move x) (hs : argS ops specs a0 x = s) (ha : ∀ x ∈ o.op.operands, (argS ops specs a0 x).ok (ρ x) w) : ∃ v, (execOp ρ o).run Try.prog w = .ok (.value v) w ∧ s.ok v w := by
  have hx := ha x (by rw [ho]; simp [Op.operands])
  rw [hs] at hx
  exact ⟨ρ x, by unfold execOp; rw [ho]; rfl, hx⟩
theorem q_slice2 {t : TypeId} {x hi : Operand} {vx vh v : Value} (ho : o.op = .slice t x none (some hi) none) (hx : argS ops specs a0 x = .inl vx) (hh : argS ops specs a0 hi = .inl vh) (hs : s = .inl v) (ha : ∀ x ∈ o.op.operands, (argS ops specs a0 x).ok (ρ x) w) (h : (Instr.sliceAt t vx none (some vh) none).run Try.prog w = .ok v w) : ∃ v, (execOp ρ o).run Try.prog w = .ok (.value v) w ∧ s.ok v w := by
  have h1 := ha x (by rw [ho]; simp [Op.operands])
  have h3 := ha hi (by rw [ho]; simp [Op.operands])
  rw [hx] at h1
  rw [hh] at h3
  simp only [Spec.ok] at h1 h3
  rw [hs]
  refine ⟨v, ?_, rfl⟩
  unfold execOp
  rw [ho]
  simp only [Option.map_some, Option.map_none, h1, h3, Sem.run_bind, Result.andThen, h, Sem.run_pure]
theorem q_index {t : TypeId} {x i : Operand} {vx vi v : Value} (ho : o.op = .indexAddr t x i) (hx : argS ops specs a0 x = .inl vx) (hi : argS ops specs a0 i = .inl vi) (hs : s = .inl v) (ha : ∀ x ∈ o.op.operands, (argS ops specs a0 x).ok (ρ x) w) (h : (Instr.indexAt t vx vi).run Try.prog w = .ok v w) : ∃ v, (execOp ρ o).run Try.prog w = .ok (.value v) w ∧ s.ok v w := by
  have h1 := ha x (by rw [ho]; simp [Op.operands])
  have h2 := ha i (by rw [ho]; simp [Op.operands])
  rw [hx] at h1
  rw [hi] at h2
  simp only [Spec.ok] at h1 h2
  rw [hs]
  refine ⟨v, ?_, rfl⟩
  unfold execOp
  rw [ho]
  simp only [h1, h2, Sem.run_bind, Result.andThen, h, Sem.run_pure]
theorem q_load {t : TypeId} {x : Operand} {vx v : Value} (ho : o.op = .load t x) (hx : argS ops specs a0 x = .inl vx) (hs : s = .inl v) (ha : ∀ x ∈ o.op.operands, (argS ops specs a0 x).ok (ρ x) w) (h : (Instr.loadAt t vx).run Try.prog w = .ok v w) : ∃ v, (execOp ρ o).run Try.prog w = .ok (.value v) w ∧ s.ok v w := by
  have h1 := ha x (by rw [ho]; simp [Op.operands])
  rw [hx] at h1
  simp only [Spec.ok] at h1
  rw [hs]
  refine ⟨v, ?_, rfl⟩
  unfold execOp
  rw [ho]
  simp only [h1, Sem.run_bind, Result.andThen, h, Sem.run_pure]
end
end Rg
theorem wi64r (n : Int) (h1 : -9223372036854775808 ≤ n) (h2 : n ≤ 9223372036854775807) : IntKind.i64.wrap n = n := by
  simp only [IntKind.wrap, IntKind.bits, IntKind.signed]
  simp
  omega
/-- 'out[k:]' of rows. -/
theorem lo31 (a : Option Addr) (n cap j : Nat) (hj : j ≤ n) (hn : n ≤ cap) (hc : cap ≤ 9223372036854775807) : ∃ a', (∀ w, (Instr.sliceAt 31 (.slice a n cap) (some (.int .i64 (j : Int))) none none).run Try.prog w = .ok (.slice a' (n - j) (cap - j)) w) ∧ ∀ w (vs : List RV), vs.length = n → RdW 3 rc w a cap vs → RdW 3 rc w a' (cap - j) (vs.drop j) := by
  have i0 : (j : Int) ≤ (n : Int) := by omega
  have i1 : (n : Int) ≤ (cap : Int) := by omega
  by_cases h : cap = j
  · refine ⟨a, fun w => ?_, fun w vs hl hr => ?_⟩
    · have hkc : n = j := by omega
      subst h
      subst hkc
      go_simp
    · have : vs.drop j = [] := List.drop_eq_nil_of_le (by omega)
      rw [this, h, Nat.sub_self]
      exact ⟨by simp, by simp [maxLen], fun _ => rfl, fun i x hi => by simp at hi⟩
  · refine ⟨a.map (fun x => x.add (j * 3)), fun w => ?_, fun w vs hl hr => ?_⟩
    · have hne : ¬ cap - j = 0 := by omega
      have hne2 : ¬ cap = j := h
      go_simp
    · cases a with
      | none => have := hr.2.2.1 rfl; omega
      | some ad =>
        cases hv : vs.drop j with
        | nil => exact ⟨by simp, by have := hr.2.1; omega, by simp, fun i x hi => by simp at hi⟩
        | cons y ys =>
          have hlen : 0 < vs.length := by
            cases vs with
            | nil => simp at hv
            | cons _ _ => simp
          obtain ⟨b, off, e, _⟩ := hr.at hlen
          simp at e
          subst e
          rw [← hv]
          have := hr.from j (by omega)
          simpa [add_none] using this
set_option maxHeartbeats 8000000 in
set_option maxRecDepth 100000 in
theorem rsort_is (a : Option Addr) (n cap : Nat) (l : List Rw) (w : World) (hn : n = l.length) (hB : RdR w a cap l) (hl : l.length ≤ 1000) :
    Calls Try.prog 29 #[.slice a n cap] w fun e w' => ∃ a' c', e = .returned (.slice a' (Rw.sort l).length c') ∧ RdR w' a' c' (Rw.sort l) ∧ Ex w w' := by
  subst hn
  have HB : Hid (RdR w a cap l) := hB
  obtain ⟨h1, h2, _⟩ := hB.bounds
  unfold maxLen at h2
  clear hB
  go_enter Try.func29, Try.ntmps29
  go_wp2_with fail
  go_loopw [3, 4, 5, 6] (fun ov iv kv xv wr => ∃ (i : Nat) (ao : Option Addr) (co no : Nat), i ≤ l.length ∧ iv = .int .i64 i ∧ ov = .slice ao no co ∧ Hid (no = (Rw.sort (l.take i)).length) ∧ no ≤ 1000 ∧ co ≤ 9223372036854775807 ∧ Hid (RdR wr ao co (Rw.sort (l.take i))) ∧ Hid (Ex w wr)) (fun ov iv kv xv wr => l.length - (intOf iv).toNat)
  case atStart => exact ⟨0, none, 0, 0, by omega, rfl, rfl, (rfl : 0 = (Rw.sort (l.take 0)).length), by omega, by omega, (RdR.nil w : RdR w none 0 (Rw.sort (l.take 0))), Ex.refl w⟩
  case round =>
    obtain ⟨i, ao, co, no, hi, rfl, rfl, HN, hno, hco, HR, HX⟩ := hrel
    rename World => wo
    by_cases hlt : i < l.length
    · have hti : (i : Int) < (l.length : Int) := by omega
      obtain ⟨O, hO⟩ : ∃ O, Rw.sort (l.take i) = O := ⟨_, rfl⟩
      rw [hO] at HN HR
      obtain ⟨us, hu1, hu2⟩ := HB.out.below HX.out
      have hil : i < us.length := by rw [hu2.1]; exact hlt
      obtain ⟨b, off, hpp, ec⟩ := hu1.at hil
      obtain ⟨x, hx⟩ : ∃ x, l[i] = x := ⟨_, rfl⟩
      obtain ⟨vx, hvx⟩ : ∃ v, us[i] = v := ⟨_, rfl⟩
      have hok : RvOk wo vx x := by rw [← hx, ← hvx]; exact hu2.2 i _ _ (List.getElem?_eq_getElem hil) (List.getElem?_eq_getElem hlt)
      rw [hvx] at ec
      have e0 : wo.cell? ⟨b, off + i * 3, none⟩ = some (.int .i64 vx.t) := ec 0 _ rfl
      have e1 : wo.cell? ⟨b, off + i * 3 + 1, none⟩ = some (.int .i64 vx.q) := ec 1 _ rfl
      have e2 : wo.cell? ⟨b, off + i * 3 + 2, none⟩ = some (.slice vx.s.1 vx.s.2.1 vx.s.2.2) := ec 2 _ rfl
      have E0 : Hid (_ = _) := e0
      have E1 : Hid (_ = _) := e1
      have E2 : Hid (_ = _) := e2
      have HOK : Hid (RvOk wo vx x) := hok
      obtain ⟨vs, ho1, ho2⟩ := HR.out
      have HO1 : Hid (RdW 3 rc wo ao co vs) := ho1
      have HO2 : Hid (EachR wo vs O) := ho2
      have hSn : Rw.sort (l.take (i + 1)) = Rw.ins x O := by rw [List.take_add_one, List.getElem?_eq_getElem hlt, hx, Option.toList_some, Rw.sort_snoc, hO]
      have HSn : Hid (Rw.sort (l.take (i + 1)) = Rw.ins x O) := hSn
      have HSrt : Hid (Rw.Srt O) := (by rw [← hO]; exact Rw.sort_srt _ : Rw.Srt O)
      have HOl : Hid (O.length ≤ i) := (by rw [← hO, Rw.sort_len]; simp; omega : O.length ≤ i)
      have hnoc : no ≤ co := by rw [HN.out, ← ho2.1]; exact ho1.1
      subst hpp
      clear hO hx hvx hok ec hu1 hu2 ho1 ho2 hSn e0 e1 e2 hil
      go_wp2_with fail
      go_loopw [5] (fun kv wr => ∃ k : Nat, k ≤ no ∧ kv = .int .i64 k ∧ Hid (∀ j y, k ≤ j → O[j]? = some y → Rw.less x y = true) ∧ Hid (Ex wo wr)) (fun kv wr => (intOf kv).toNat)
      case atStart => exact ⟨no, by omega, rfl, (fun j y h1 h2 => by have := (List.getElem?_eq_some_iff.1 h2).1; have := HN.out; omega : ∀ j y, no ≤ j → O[j]? = some y → Rw.less x y = true), Ex.refl wo⟩
      case round =>
        obtain ⟨k, hk, rfl, HK, HXk⟩ := hrel
        by_cases hk0 : 0 < k
        · have tk : decide (0 < (k : Int)) = true := by simp; omega
          obtain ⟨m, hm⟩ : ∃ m, k = m + 1 := ⟨k - 1, by omega⟩
          have hmi : (k : Int) - 1 = (m : Int) := by omega
          have hmO : m < O.length := by have := HN.out; omega
          have hmv : m < vs.length := by rw [HO2.out.1]; exact hmO
          obtain ⟨b2, off2, hp2, ec⟩ := (HO1.out.below HXk.out).at hmv
          obtain ⟨y, hy⟩ : ∃ y, O[m] = y := ⟨_, rfl⟩
          obtain ⟨vy, hvy⟩ : ∃ v, vs[m] = v := ⟨_, rfl⟩
          have HVY : Hid (RvOk wo vy y) := (by rw [← hy, ← hvy]; exact HO2.out.2 m _ _ (List.getElem?_eq_getElem hmv) (List.getElem?_eq_getElem hmO) : RvOk wo vy y)
          have HOy : Hid (O[m]? = some y) := (by rw [List.getElem?_eq_getElem hmO, hy] : O[m]? = some y)
          rw [hvy] at ec
          have F0 : Hid (wr.cell? ⟨b2, off2 + m * 3, none⟩ = some (.int .i64 vy.t)) := ec 0 _ rfl
          have F1 : Hid (wr.cell? ⟨b2, off2 + m * 3 + 1, none⟩ = some (.int .i64 vy.q)) := ec 1 _ rfl
          have F2 : Hid (wr.cell? ⟨b2, off2 + m * 3 + 2, none⟩ = some (.slice vy.s.1 vy.s.2.1 vy.s.2.2)) := ec 2 _ rfl
          obtain ⟨bb, hbb⟩ : ∃ q, Rw.less x y = q := ⟨_, rfl⟩
          have HBB : Hid (Rw.less x y = bb) := hbb
          have HM : Hid (k = m + 1) := hm
          have hmn : m < no := by omega
          have hmn2 : (m : Int) < (no : Int) := by omega
          subst hp2
          clear hm hy hvy ec hbb hmO hmv
          go_wp2_with fail
          have hre := Ex.refl
          refine Rg.wp_rows [.inl (Value.int .i64 (k : Int)), .inl (.bool true), .inl (.bool true), .inl (Value.slice (some ⟨b, off, none⟩) l.length cap), .inl (Value.int .i64 (i : Int)), .inl (Value.pointer (some ⟨b, off + i * 3, none⟩)), .inl (rvv vx), .inl (Value.slice (some ⟨b2, off2, none⟩) no co), .inl (Value.int .i64 (k : Int)), .inl (Value.int .i64 (m : Int)), .inl (Value.pointer (some ⟨b2, off2 + m * 3, none⟩)), .inl (rvv vy), .inl (.bool bb), .inl (.bool bb)] (Ex wr) Ex 48 (by kernel_rfl) rfl (by kernel_rfl) ?st hre (Ex.drew _) ?goods ?fin
          case st => exact trivial
          case goods =>
            refine Rg.goods_cons (Rg.good_move hre rfl rfl rfl) ?_
            refine Rg.goods_cons (Rg.good_bin hre rfl rfl rfl rfl (fun _ => rfl) (fun w => by go_simp)) ?_
            refine Rg.goods_cons (Rg.good_move hre rfl rfl rfl) ?_
            refine Rg.goods_cons (Rg.good_move hre rfl rfl rfl) ?_
            refine Rg.goods_cons (Rg.good_move hre rfl rfl rfl) ?_
            refine Rg.goods_cons (Rg.good_index hre rfl rfl rfl rfl (fun wx hC => by go_simp)) ?_
            refine Rg.goods_cons (Rg.good_load hre rfl rfl rfl (fun wx hC => loadI_row (cell_ex (cell_ex E0.out HXk.out) hC) (cell_ex (cell_ex E1.out HXk.out) hC) (cell_ex (cell_ex E2.out HXk.out) hC))) ?_
            refine Rg.goods_cons (Rg.good_move hre rfl rfl rfl) ?_
            refine Rg.goods_cons (Rg.good_move hre rfl rfl rfl) ?_
            refine Rg.goods_cons (Rg.good_bin hre rfl rfl rfl rfl (fun _ => rfl) (fun w => by go_simp; rw [wi64r _ (by omega) (by omega)])) ?_
            refine Rg.goods_cons (Rg.good_index hre rfl rfl rfl rfl (fun wx hC => by go_simp)) ?_
            refine Rg.goods_cons (Rg.good_load hre rfl rfl rfl (fun wx hC => loadI_row (cell_ex F0.out hC) (cell_ex F1.out hC) (cell_ex F2.out hC))) ?_
            refine Rg.goods_cons (Rg.good_call2 Try.func34 (by kernel_rfl) rfl rfl rfl (by rintro u u2 wx hC rfl rfl; exact ex_row (rless_is vx vy x y wx ⟨HOK.out.1, HOK.out.2.1⟩ ⟨HVY.out.1, HVY.out.2.1⟩ bb HBB.out) hC)) ?_
            refine Rg.goods_cons (Rg.good_pick true hre rfl rfl rfl rfl) ?_
            exact Rg.goods_nil
          case fin =>
            intro wx hx
            simp only [Rg.later, Act.put, List.setIfInBounds_toArray, List.set_cons_succ, List.set_cons_zero]
            have HXx : Hid (Ex wo wx) := HXk.out.trans hx
            clear hx
            cases bb with
            | true =>
              have HK2 : Hid (∀ j z, m ≤ j → O[j]? = some z → Rw.less x z = true) := (fun j z h1 h2 => by
                by_cases he : j = m
                · rw [he, HOy.out] at h2
                  simp at h2
                  rw [← h2]; exact HBB.out
                · exact HK.out j z (by have := HM.out; omega) h2 : ∀ j z, m ≤ j → O[j]? = some z → Rw.less x z = true)
              go_wp2_with fail
              go_roundw
              case rel => exact ⟨m, by omega, by first | rfl | (rw [hmi]), HK2, HXx⟩
              case measure => simp [intOf]; omega
            | false =>
              have HP : Hid (∀ z, 0 < k → O[k - 1]? = some z → Rw.less x z = false) := (fun z h h2 => by
                rw [show k - 1 = m by have := HM.out; omega, HOy.out] at h2
                simp at h2
                rw [← h2]; exact HBB.out : ∀ z, 0 < k → O[k - 1]? = some z → Rw.less x z = false)
              go_wp2_with fail
              have HIN : Hid (Rw.ins x O = O.take k ++ x :: O.drop k) := Rw.ins_at HSrt.out (by have := HN.out; omega) HK.out HP.out
              obtain ⟨a7, hlo, hlr⟩ := lo31 (some ⟨b2, off2, none⟩) no co k hk hnoc hco
              have hvl : vs.length = no := by rw [HO2.out.1]; exact HN.out.symm
              have HT7 : Hid (RdW 3 rc wx (some ⟨b2, off2, none⟩) co (vs.take k)) := (HO1.out.below HXx.out).take k
              have HD7 : Hid (RdW 3 rc wx a7 (co - k) (vs.drop k)) := hlr wx vs hvl (HO1.out.below HXx.out)
              have HOv : Hid (RvOk wx vx x) := HOK.out.below HXx.out
              have hkl : (vs.take k).length = k := by simp; omega
              have hki : (k : Int) ≤ (co : Int) := by omega
              have HKL : Hid ((vs.take k).length = k) := hkl
              have HVL : Hid (vs.length = no) := hvl
              have G0 : Hid (wx.cell? ⟨b, off + i * 3, none⟩ = some (.int .i64 vx.t)) := cell_ex E0.out HXx.out
              have G1 : Hid (wx.cell? ⟨b, off + i * 3 + 1, none⟩ = some (.int .i64 vx.q)) := cell_ex E1.out HXx.out
              have G2 : Hid (wx.cell? ⟨b, off + i * 3 + 2, none⟩ = some (.slice vx.s.1 vx.s.2.1 vx.s.2.2)) := cell_ex E2.out HXx.out
              clear hlr hvl hkl
              refine Rg.Fr.wp_cat (t := 28) (k := 3) (fl := rc) rc_len rc_one 31 _ 40 Try.underlying31 Try.info28 (by omega) rfl (by omega) ⟨0, 4, 9, 10, 11, 31, 35, 40, 41, 6⟩ 48 (by kernel_rfl) rfl (by kernel_rfl) (by kernel_rfl) (by decide) (by decide) (by decide) _ _ _ _ _ rfl rfl rfl rfl rfl 34 39 rfl rfl rfl rfl rfl rfl rfl rfl rfl rfl (by kernel_rfl) (by kernel_rfl) (by kernel_rfl) (by kernel_rfl)
                [Rg.Fr.T2, .inl (Value.slice (some ⟨b2, off2, none⟩) no co), .inl (Value.int .i64 (k : Int)), .inl (Value.slice (some ⟨b2, off2, none⟩) k co), Rg.Fr.T2, .inl (Value.slice (some ⟨b, off, none⟩) l.length cap), .inl (Value.int .i64 (i : Int)), .inl (Value.pointer (some ⟨b, off + i * 3, none⟩)), .inl (rvv vx), Rg.Fr.T2, Rg.Fr.T2, Rg.Fr.T2] ⟨fun _ _ _ _ _ => trivial, fun _ _ _ _ _ => trivial, fun _ _ _ _ _ => trivial, fun _ _ _ _ _ => trivial, fun _ _ _ _ _ => trivial, trivial⟩ rfl rfl rfl rfl rfl (some ⟨b2, off2, none⟩) k co (rvv vx) (vs.take k) vx rfl rfl HKL.out.symm HT7.out (by rw [HKL.out]; omega) ?rE ?rB ?hd ?hQ ?hF
              case rE => intro ρ w'; simp [execOp, go_sem]
              case rB => intro ρ w' hρ; simp [execOp, hρ, go_sem, rvv, rc]
              case hd =>
                intro i1 o1 ho1 hsp
                rcases i1 with _ | _ | _ | _ | _ | _ | _ | _ | _ | _ | _ | _ | _
                all_goals first | (exfalso; revert hsp; decide) | (exfalso; revert ho1; simp; done) | (obtain rfl := Option.some.inj ho1; exact ⟨by decide, by decide, by decide, by decide, by decide⟩)
              case hQ =>
                intro i1 o1 ho1 hsp ρ w1 hx1 ha
                rcases i1 with _ | _ | _ | _ | _ | _ | _ | _ | _ | _ | _ | _ | _
                all_goals first | (exfalso; revert hsp; decide) | (exfalso; clear ha; revert ho1; simp; done) | (obtain rfl := Option.some.inj ho1)
                · exact Rg.q_move rfl rfl ha
                · exact Rg.q_move rfl rfl ha
                · exact Rg.q_slice2 rfl rfl rfl rfl ha (by go_simp)
                · exact Rg.q_move rfl rfl ha
                · exact Rg.q_move rfl rfl ha
                · exact Rg.q_index rfl rfl rfl rfl ha (by go_simp)
                · exact Rg.q_load rfl rfl rfl ha (loadI_row (cell_ex G0.out hx1) (cell_ex G1.out hx1) (cell_ex G2.out hx1))
              case hF =>
                intro w7 hx7
                simp only [Rg.later, Act.put, List.setIfInBounds_toArray, List.set_cons_succ, List.set_cons_zero]
                intro v0 _ v4 _ v9 _ v10 _ v11 _ v hv hown7
                have hvv : v11 = v := by simpa using hv
                subst hvv
                clear hv
                have HW7 : Hid (OwnW 28 3 rc w7 wx.heap.size v11 (vs.take k ++ [vx])) := hown7
                have HD8 : Hid (RdW 3 rc w7 a7 (co - k) (vs.drop k)) := HD7.out.below hx7
                have hstep : ∀ v8 w8, OwnW 28 3 rc w8 wx.heap.size v8 (vs.take k ++ [vx] ++ vs.drop k) → w7.grownBy w8 v11.ownBlock → ∃ a8 c8, v8 = .slice a8 (no + 1) c8 ∧ Hid (no + 1 = (Rw.sort (l.take (i + 1))).length) ∧ c8 ≤ 9223372036854775807 ∧ Hid (RdR w8 a8 c8 (Rw.sort (l.take (i + 1)))) ∧ Hid (Ex wo w8) := by
                  intro v8 w8 h8 hg8
                  have hx8 : Ex wx w8 := hx7.grown hg8 hx7.size (fun q hq => (HW7.out.lt q hq).1)
                  obtain ⟨a8, c8, he, hr⟩ := h8.rd rc_len
                  have hE8 : EachR w8 (vs.take k ++ [vx] ++ vs.drop k) (Rw.sort (l.take (i + 1))) := by
                    rw [HSn.out, HIN.out, show O.take k ++ x :: O.drop k = O.take k ++ [x] ++ O.drop k by simp]
                    have h0 : EachR w8 vs O := HO2.out.below (HXx.out.trans hx8)
                    exact ((h0.take k).append (EachR.one (HOv.out.below hx8))).append (h0.drop k)
                  have hl8 : (vs.take k ++ [vx] ++ vs.drop k).length = no + 1 := by have := HVL.out; simp; omega
                  rw [hl8] at he
                  have hb8 := hr.2.1
                  unfold maxLen at hb8
                  exact ⟨a8, c8, he, (by rw [← hE8.1]; exact hl8.symm : no + 1 = (Rw.sort (l.take (i + 1))).length), by omega, (⟨_, hr, hE8⟩ : RdR w8 a8 c8 (Rw.sort (l.take (i + 1)))), HXx.out.trans hx8⟩
                have hbs7 : wx.heap.size ≤ w7.heap.size := hx7.size
                have HDL : Hid (no - k = (vs.drop k).length) := (by have := HVL.out; simp; omega : no - k = (vs.drop k).length)
                have H63 : Hid ((vs.take k ++ [vx]).length + (vs.drop k).length ≤ maxLen) := (by have := HVL.out; unfold maxLen; simp; omega : (vs.take k ++ [vx]).length + (vs.drop k).length ≤ maxLen)
                have HBY : Hid (((vs.take k ++ [vx]).length + (vs.drop k).length) * 40 ≤ 140737488355328) := (by have := HVL.out; simp; omega : ((vs.take k ++ [vx]).length + (vs.drop k).length) * 40 ≤ 140737488355328)
                have hno9 : no + 1 ≤ 1000 := by have := HOl.out; have := HN.out; omega
                clear hown7 hx7
                go_wp2_with (at_builtin; refine wpList_append_wide rc_len rc_one rfl (.tmp 42) (.tmp 45) 31 _ 40 rfl Try.underlying31 Try.info28 (by omega) rfl wx.heap.size _ (vs.take k ++ [vx]) rfl HW7.out _ _ _ (vs.drop k) rfl HDL.out HD8.out H63.out HBY.out hbs7 ?_; intro v8 w8 ho8 hg8 _; obtain ⟨a8, c8, rfl, HN8, hc8, HR8, HX8⟩ := hstep v8 w8 ho8 hg8; clear ho8 hg8)
                have HXw8 : Hid (Ex w _) := HX.out.trans HX8.out
                go_roundw
                case rel => exact ⟨i + 1, a8, c8, no + 1, by omega, by go_num, rfl, HN8, hno9, hc8, HR8, HXw8⟩
                case measure => simp [intOf]; omega
        · have tk : decide (0 < (k : Int)) = false := by simp; omega
          have HP : Hid (∀ y, 0 < k → O[k - 1]? = some y → Rw.less x y = false) := (fun y h _ => by omega : ∀ y, 0 < k → O[k - 1]? = some y → Rw.less x y = false)
          go_wp2_with fail
          have hre := Ex.refl
          refine Rg.wp_rows [.inl (Value.int .i64 (k : Int)), .inl (.bool false), .inl (.bool false), .inl undef, .inl undef, .inl undef, .inl undef, .inl undef, .inl undef, .inl undef, .inl undef, .inl undef, .inl undef, .inl (.bool false)] (Ex wr) Ex 48 (by kernel_rfl) rfl (by kernel_rfl) ?st hre (Ex.drew _) ?goods ?fin
          case st => exact trivial
          case goods =>
            refine Rg.goods_cons (Rg.good_move hre rfl rfl rfl) ?_
            refine Rg.goods_cons (Rg.good_bin hre rfl rfl rfl rfl (fun _ => rfl) (fun w => by go_simp)) ?_
            refine Rg.goods_cons (Rg.good_move hre rfl rfl rfl) ?_
            refine Rg.goods_cons (Rg.good_skip rfl) ?_
            refine Rg.goods_cons (Rg.good_skip rfl) ?_
            refine Rg.goods_cons (Rg.good_skip rfl) ?_
            refine Rg.goods_cons (Rg.good_skip rfl) ?_
            refine Rg.goods_cons (Rg.good_skip rfl) ?_
            refine Rg.goods_cons (Rg.good_skip rfl) ?_
            refine Rg.goods_cons (Rg.good_skip rfl) ?_
            refine Rg.goods_cons (Rg.good_skip rfl) ?_
            refine Rg.goods_cons (Rg.good_skip rfl) ?_
            refine Rg.goods_cons (Rg.good_skip rfl) ?_
            refine Rg.goods_cons (Rg.good_pick false hre rfl rfl rfl rfl) ?_
            exact Rg.goods_nil
          case fin =>
            intro wx hx
            simp only [Rg.later, Act.put, List.setIfInBounds_toArray, List.set_cons_succ, List.set_cons_zero]
            have HXx : Hid (Ex wo wx) := HXk.out.trans hx
            clear hx
            go_wp2_with fail
            have HIN : Hid (Rw.ins x O = O.take k ++ x :: O.drop k) := Rw.ins_at HSrt.out (by have := HN.out; omega) HK.out HP.out
            obtain ⟨a7, hlo, hlr⟩ := lo31 ao no co k hk hnoc hco
            have hvl : vs.length = no := by rw [HO2.out.1]; exact HN.out.symm
            have HT7 : Hid (RdW 3 rc wx ao co (vs.take k)) := (HO1.out.below HXx.out).take k
            have HD7 : Hid (RdW 3 rc wx a7 (co - k) (vs.drop k)) := hlr wx vs hvl (HO1.out.below HXx.out)
            have HOv : Hid (RvOk wx vx x) := HOK.out.below HXx.out
            have hkl : (vs.take k).length = k := by simp; omega
            have hki : (k : Int) ≤ (co : Int) := by omega
            have HKL : Hid ((vs.take k).length = k) := hkl
            have HVL : Hid (vs.length = no) := hvl
            have G0 : Hid (wx.cell? ⟨b, off + i * 3, none⟩ = some (.int .i64 vx.t)) := cell_ex E0.out HXx.out
            have G1 : Hid (wx.cell? ⟨b, off + i * 3 + 1, none⟩ = some (.int .i64 vx.q)) := cell_ex E1.out HXx.out
            have G2 : Hid (wx.cell? ⟨b, off + i * 3 + 2, none⟩ = some (.slice vx.s.1 vx.s.2.1 vx.s.2.2)) := cell_ex E2.out HXx.out
            clear hlr hvl hkl
            refine Rg.Fr.wp_cat (t := 28) (k := 3) (fl := rc) rc_len rc_one 31 _ 40 Try.underlying31 Try.info28 (by omega) rfl (by omega) ⟨0, 4, 9, 10, 11, 31, 35, 40, 41, 6⟩ 48 (by kernel_rfl) rfl (by kernel_rfl) (by kernel_rfl) (by decide) (by decide) (by decide) _ _ _ _ _ rfl rfl rfl rfl rfl 34 39 rfl rfl rfl rfl rfl rfl rfl rfl rfl rfl (by kernel_rfl) (by kernel_rfl) (by kernel_rfl) (by kernel_rfl)
              [Rg.Fr.T2, .inl (Value.slice ao no co), .inl (Value.int .i64 (k : Int)), .inl (Value.slice ao k co), Rg.Fr.T2, .inl (Value.slice (some ⟨b, off, none⟩) l.length cap), .inl (Value.int .i64 (i : Int)), .inl (Value.pointer (some ⟨b, off + i * 3, none⟩)), .inl (rvv vx), Rg.Fr.T2, Rg.Fr.T2, Rg.Fr.T2] ⟨fun _ _ _ _ _ => trivial, fun _ _ _ _ _ => trivial, fun _ _ _ _ _ => trivial, fun _ _ _ _ _ => trivial, fun _ _ _ _ _ => trivial, trivial⟩ rfl rfl rfl rfl rfl ao k co (rvv vx) (vs.take k) vx rfl rfl HKL.out.symm HT7.out (by rw [HKL.out]; omega) ?rE ?rB ?hd ?hQ ?hF
            case rE => intro ρ w'; simp [execOp, go_sem]
            case rB => intro ρ w' hρ; simp [execOp, hρ, go_sem, rvv, rc]
            case hd =>
              intro i1 o1 ho1 hsp
              rcases i1 with _ | _ | _ | _ | _ | _ | _ | _ | _ | _ | _ | _ | _
              all_goals first | (exfalso; revert hsp; decide) | (exfalso; revert ho1; simp; done) | (obtain rfl := Option.some.inj ho1; exact ⟨by decide, by decide, by decide, by decide, by decide⟩)
            case hQ =>
              intro i1 o1 ho1 hsp ρ w1 hx1 ha
              rcases i1 with _ | _ | _ | _ | _ | _ | _ | _ | _ | _ | _ | _ | _
              all_goals first | (exfalso; revert hsp; decide) | (exfalso; clear ha; revert ho1; simp; done) | (obtain rfl := Option.some.inj ho1)
              · exact Rg.q_move rfl rfl ha
              · exact Rg.q_move rfl rfl ha
              · exact Rg.q_slice2 rfl rfl rfl rfl ha (by go_simp)
              · exact Rg.q_move rfl rfl ha
              · exact Rg.q_move rfl rfl ha
              · exact Rg.q_index rfl rfl rfl rfl ha (by go_simp)
              · exact Rg.q_load rfl rfl rfl ha (loadI_row (cell_ex G0.out hx1) (cell_ex G1.out hx1) (cell_ex G2.out hx1))
            case hF =>
              intro w7 hx7
              simp only [Rg.later, Act.put, List.setIfInBounds_toArray, List.set_cons_succ, List.set_cons_zero]
              intro v0 _ v4 _ v9 _ v10 _ v11 _ v hv hown7
              have hvv : v11 = v := by simpa using hv
              subst hvv
              clear hv
              have HW7 : Hid (OwnW 28 3 rc w7 wx.heap.size v11 (vs.take k ++ [vx])) := hown7
              have HD8 : Hid (RdW 3 rc w7 a7 (co - k) (vs.drop k)) := HD7.out.below hx7
              have hstep : ∀ v8 w8, OwnW 28 3 rc w8 wx.heap.size v8 (vs.take k ++ [vx] ++ vs.drop k) → w7.grownBy w8 v11.ownBlock → ∃ a8 c8, v8 = .slice a8 (no + 1) c8 ∧ Hid (no + 1 = (Rw.sort (l.take (i + 1))).length) ∧ c8 ≤ 9223372036854775807 ∧ Hid (RdR w8 a8 c8 (Rw.sort (l.take (i + 1)))) ∧ Hid (Ex wo w8) := by
                intro v8 w8 h8 hg8
                have hx8 : Ex wx w8 := hx7.grown hg8 hx7.size (fun q hq => (HW7.out.lt q hq).1)
                obtain ⟨a8, c8, he, hr⟩ := h8.rd rc_len
                have hE8 : EachR w8 (vs.take k ++ [vx] ++ vs.drop k) (Rw.sort (l.take (i + 1))) := by
                  rw [HSn.out, HIN.out, show O.take k ++ x :: O.drop k = O.take k ++ [x] ++ O.drop k by simp]
                  have h0 : EachR w8 vs O := HO2.out.below (HXx.out.trans hx8)
                  exact ((h0.take k).append (EachR.one (HOv.out.below hx8))).append (h0.drop k)
                have hl8 : (vs.take k ++ [vx] ++ vs.drop k).length = no + 1 := by have := HVL.out; simp; omega
                rw [hl8] at he
                have hb8 := hr.2.1
                unfold maxLen at hb8
                exact ⟨a8, c8, he, (by rw [← hE8.1]; exact hl8.symm : no + 1 = (Rw.sort (l.take (i + 1))).length), by omega, (⟨_, hr, hE8⟩ : RdR w8 a8 c8 (Rw.sort (l.take (i + 1)))), HXx.out.trans hx8⟩
              have hbs7 : wx.heap.size ≤ w7.heap.size := hx7.size
              have HDL : Hid (no - k = (vs.drop k).length) := (by have := HVL.out; simp; omega : no - k = (vs.drop k).length)
              have H63 : Hid ((vs.take k ++ [vx]).length + (vs.drop k).length ≤ maxLen) := (by have := HVL.out; unfold maxLen; simp; omega : (vs.take k ++ [vx]).length + (vs.drop k).length ≤ maxLen)
              have HBY : Hid (((vs.take k ++ [vx]).length + (vs.drop k).length) * 40 ≤ 140737488355328) := (by have := HVL.out; simp; omega : ((vs.take k ++ [vx]).length + (vs.drop k).length) * 40 ≤ 140737488355328)
              have hno9 : no + 1 ≤ 1000 := by have := HOl.out; have := HN.out; omega
              clear hown7 hx7
              go_wp2_with (at_builtin; refine wpList_append_wide rc_len rc_one rfl (.tmp 42) (.tmp 45) 31 _ 40 rfl Try.underlying31 Try.info28 (by omega) rfl wx.heap.size _ (vs.take k ++ [vx]) rfl HW7.out _ _ _ (vs.drop k) rfl HDL.out HD8.out H63.out HBY.out hbs7 ?_; intro v8 w8 ho8 hg8 _; obtain ⟨a8, c8, rfl, HN8, hc8, HR8, HX8⟩ := hstep v8 w8 ho8 hg8; clear ho8 hg8)
              have HXw8 : Hid (Ex w _) := HX.out.trans HX8.out
              go_roundw
              case rel => exact ⟨i + 1, a8, c8, no + 1, by omega, by go_num, rfl, HN8, hno9, hc8, HR8, HXw8⟩
              case measure => simp [intOf]; omega
    · have hti : ¬ (i : Int) < (l.length : Int) := by omega
      have HF : Hid (Rw.sort (l.take i) = Rw.sort l) := (by rw [List.take_of_length_le (by omega)] : Rw.sort (l.take i) = Rw.sort l)
      go_wp2_with fail
      go_ret
      exact ⟨ao, co, by rw [← HF.out, ← HN.out]; rfl, by rw [← HF.out]; exact HR.out, HX.out⟩
end Go.Proofs.Ytghnbohplonhoaa
