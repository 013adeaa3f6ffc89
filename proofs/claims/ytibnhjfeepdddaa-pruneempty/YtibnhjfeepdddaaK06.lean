/-
  The document's own Grow.
-/
import Derived.Test.YtibnhjfeepdddaaK04
import Derived.Test.YtibnhjfeepdddaaK05
import Derived.Test.YtibnhjfeepdddaaK02
import Derived.Test.YtibnhjfeepdddaaM09
import Derived.BigQuiet
namespace Go.Proofs.Ytibnhjfeepdddaa
open Go.RowKit
set_option linter.unusedVariables false
set_option linter.unusedSimpArgs false
/-- 'out[k:]' of columns. -/
theorem lo44 (a : Option Addr) (n cap j : Nat) (hj : j ≤ n) (hn : n ≤ cap) (hc : cap ≤ 9223372036854775807) : ∃ a', (∀ w, (Instr.sliceAt 82 (.slice a n cap) (some (.int .i64 (j : Int))) none none).run Try.prog w = .ok (.slice a' (n - j) (cap - j)) w) ∧ ∀ w (vs : List Co), vs.length = n → RdW 2 kc w a cap vs → RdW 2 kc w a' (cap - j) (vs.drop j) := by
 have i0 : (j : Int) ≤ (n : Int) := by omega
 have i1 : (n : Int) ≤ (cap : Int) := by omega
 by_cases h : cap = j
 ·refine ⟨a, fun w => ?_, fun w vs hl hr => ?_⟩
  ·have hkc : n = j := by omega
   subst h
   subst hkc
   go_simp
  ·have : vs.drop j = [] := List.drop_eq_nil_of_le (by omega)
   rw [this, h, Nat.sub_self]
   exact ⟨by simp, by simp [maxLen], fun _ => rfl, fun i x hi => by simp at hi⟩
 ·refine ⟨a.map (fun x => x.add (j * 2)), fun w => ?_, fun w vs hl hr => ?_⟩
  ·have hne : ¬ cap - j = 0 := by omega
   have hne2 : ¬ cap = j := h
   go_simp
  ·cases a with
   | none => have := hr.2.2.1 rfl; omega
   | some ad =>
    cases hv : vs.drop j with
    | nil => exact ⟨by simp, by have := hr.2.1; omega, by simp, fun i x hi => by simp at hi⟩
    | cons y ys =>
     have hlen : 0 < vs.length := by
      cases vs with
      | nil => simp at hv
      | cons _ _ => simp
     obtain ⟨b, off, e, _⟩ := hr.at hlen
     simp at e
     subst e
     rw [← hv]
     have := hr.from j (by omega)
     simpa [add_none] using this
theorem any_world {P : World → Prop} {w0 w : World} (hx : Ex w0 w) (h : ∀ WX, Ex w0 WX → P WX) : P w := h w hx
namespace Rg
theorem q_field {ops : Array Oper} {specs : List Spec} {a0 : Act} {o : Oper} {s : Spec} {ρ : Operand → Value} {w : World} {t : TypeId} {x : Operand} {k : Nat} {vx v : Value} (ho : o.op = .fieldAddr t x k) (hx : argS ops specs a0 x = .inl vx) (hs : s = .inl v) (ha : ∀ x ∈ o.op.operands, (argS ops specs a0 x).ok (ρ x) w) (h : (Instr.fieldAt t vx k).run Try.prog w = .ok v w) : ∃ v, (execOp ρ o).run Try.prog w = .ok (.value v) w ∧ s.ok v w := by
 have h1 := ha x (by rw [ho]; simp [Op.operands])
 rw [hx] at h1
 simp only [Spec.ok] at h1
 rw [hs]
 refine ⟨v, ?_, rfl⟩
 unfold execOp
 rw [ho]
 simp only [h1, Sem.run_bind, Result.andThen, h, Sem.run_pure]
end Rg
set_option maxHeartbeats 8000000 in
set_option maxRecDepth 100000 in
theorem rgrow_is (a : Option Addr) (n cap : Nat) (cols : List Co) (a' : Option Addr) (n' cap' : Nat) (l : List Rw) (w : World) (hn : n = cols.length) (hn' : n' = l.length) (hB : RdK w a cap cols) (hB' : RdR w a' cap' l) (hc : ∀ c ∈ cols, c.nm.length ≤ maxLen) (hok : ∀ r ∈ l, RwOk3 r) (C : List Co) (e0 k0 : Nat) (hr : Rw.grow cols l = (C, e0, k0)) :
  Calls Try.prog 35 #[.slice a n cap, .slice a' n' cap'] w fun e w' => ∃ p c, e = .returned (.tuple #[.slice p C.length c, .int .i64 e0, .int .i64 k0]) ∧ RdK w' p c C ∧ Ex w w' := by
 subst hn
 subst hn'
 have h1 := hB.1
 have h2 := hB.2.1
 obtain ⟨h3, h4, _⟩ := hB'.bounds
 unfold maxLen at h2 h4
 unfold Rw.grow at hr
 cases hq : Rw.colsOk cols with
 | false =>
  rw [hq, if_neg (by simp)] at hr
  simp only [Prod.mk.injEq] at hr
  obtain ⟨rfl, rfl, rfl⟩ := hr
  go_enter Try.func35, Try.ntmps35
  go_wp2_with fail
  refine (rcols_is a cols.length cap cols _ rfl hB hc false hq).mono ?_
  rintro e w2 ⟨rfl, hx2⟩
  go_wp2_with fail
  go_ret3
  exact ⟨none, 0, rfl, RdW.nil _, hx2⟩
 | true =>
  rw [hq, if_pos rfl] at hr
  have hcl : cols.length ≤ 12 := ((Rw.colsOk_iff cols).1 hq).2.2
  have HG : Hid (Rw.growF 0 cols (l.drop 0) = (C, e0, k0)) := hr
  have HB : Hid (RdK w a cap cols) := hB
  have HB' : Hid (RdR w a' cap' l) := hB'
  have HOK : Hid (∀ r ∈ l, RwOk3 r) := hok
  have HQ : Hid (Rw.colsOk cols = true) := hq
  have HC : Hid (∀ c ∈ cols, c.nm.length ≤ maxLen) := hc
  clear hr hB hB' hok hq hc
  go_enter Try.func35, Try.ntmps35
  go_wp2_with fail
  refine (rcols_is a cols.length cap cols _ rfl HB.out HC.out true HQ.out).mono ?_
  rintro e w2 ⟨rfl, hx2⟩
  obtain ⟨W, hW⟩ : ∃ W, W = w2.alloc (.cells #[] 87) := ⟨_, rfl⟩
  have HXW : Hid (Ex w W) := (by rw [hW]; exact hx2.trans ((Below.refl _ _).alloc (Nat.le_refl _) _) : Ex w W)
  have HOW : Hid (OwnK W w.heap.size (.slice (some ⟨w2.heap.size, 0, none⟩) 0 0) []) := (by rw [hW]; exact ownW_empty w2 _ hx2.size : OwnK W w.heap.size (.slice (some ⟨w2.heap.size, 0, none⟩) 0 0) [])
  have HBW : Hid (RdK W a cap cols) := HB.out.below HXW.out
  have hszW : w.heap.size ≤ W.heap.size := HXW.out.size
  have hstep : ∀ v9 w9, OwnK w9 w.heap.size v9 ([] ++ cols) → W.grownBy w9 (Value.slice (some ⟨w2.heap.size, 0, none⟩) 0 0).ownBlock → ∃ a9 c9, v9 = .slice a9 cols.length c9 ∧ c9 ≤ 9223372036854775807 ∧ Hid (RdK w9 a9 c9 cols) ∧ Hid (Ex w w9) := by
   intro v9 w9 ho9 hg9
   obtain ⟨a9, c9, he, hr9⟩ := ho9.rd kc_len
   have hb9 := hr9.2.1
   unfold maxLen at hb9
   exact ⟨a9, c9, he, by omega, hr9, HXW.out.grown hg9 HXW.out.size (fun q hq => (HOW.out.lt q hq).1)⟩
  have HW : Hid (W = w2.alloc (.cells #[] 87)) := hW
  clear hW hx2
  go_wp2_with (at_builtin; rw [← HW.out]; refine wpList_append_wide kc_len kc_one rfl (.tmp 17) (.tmp 18) 82 _ 24 rfl Try.underlying82 Try.info87 (by omega) rfl w.heap.size _ [] rfl HOW.out a cols.length cap cols rfl rfl HBW.out (by simp [maxLen]; omega) (by simp; omega) hszW ?_; intro v9 w9 ho9 hg9 _; obtain ⟨a9, c9, rfl, hc9, HR9, HX9⟩ := hstep v9 w9 ho9 hg9; clear ho9 hg9)
  clear hstep hszW
  go_loopw [7, 8, 9, 10, 11, 12, 13] (fun ov iv _ _ _ _ _ wr => ∃ (i : Nat) (ao : Option Addr) (co no : Nat) (O : List Co), i ≤ l.length ∧ iv = .int .i64 i ∧ ov = .slice ao no co ∧ Hid (no = O.length) ∧ no ≤ 12 ∧ co ≤ 9223372036854775807 ∧ Hid (RdK wr ao co O) ∧ Hid (Rw.growF i O (l.drop i) = (C, e0, k0)) ∧ Hid (Ex w wr)) (fun ov iv _ _ _ _ _ wr => l.length - (intOf iv).toNat)
  case atStart => exact ⟨0, a9, c9, cols.length, cols, by omega, rfl, rfl, (rfl : cols.length = cols.length), hcl, hc9, HR9, HG, HX9⟩
  case round =>
   obtain ⟨i, ao, co, no, O, hi, rfl, rfl, HN, hno, hco, HR, HGi, HX⟩ := hrel
   rename World => wo
   by_cases hlt : i < l.length
   ·have hti : (i : Int) < (l.length : Int) := by omega
    obtain ⟨us, hu1, hu2⟩ := HB'.out.below HX.out
    have hil : i < us.length := by rw [hu2.1]; exact hlt
    obtain ⟨b, off, hpp, ec⟩ := hu1.at hil
    obtain ⟨x, hx⟩ : ∃ x, l[i] = x := ⟨_, rfl⟩
    obtain ⟨vx, hvx⟩ : ∃ v, us[i] = v := ⟨_, rfl⟩
    have hokx : RvOk wo vx x := by rw [← hx, ← hvx]; exact hu2.2 i _ _ (List.getElem?_eq_getElem hil) (List.getElem?_eq_getElem hlt)
    have HRX : Hid (RwOk3 x) := (by rw [← hx]; exact HOK.out _ (List.getElem_mem hlt) : RwOk3 x)
    rw [hvx] at ec
    obtain ⟨vt, vq, xp, xn, xc⟩ := vx
    have c0 : wo.cell? ⟨b, off + i * 3, none⟩ = some (.int .i64 vt) := ec 0 _ rfl
    have c1 : wo.cell? ⟨b, off + i * 3 + 1, none⟩ = some (.int .i64 vq) := ec 1 _ rfl
    have c2 : wo.cell? ⟨b, off + i * 3 + 2, none⟩ = some (.slice xp xn xc) := ec 2 _ rfl
    have HV : Hid (RvOk wo ⟨vt, vq, xp, xn, xc⟩ x) := hokx
    have E2 : Hid (wo.cell? ⟨b, off + i * 3 + 2, none⟩ = some (.slice xp xn xc)) := c2
    have HLx : Hid (∀ c ∈ x.c, c.col.length ≤ maxLen ∧ c.s.length ≤ maxLen) := (fun c hc => ⟨(HRX.out.2.2 c hc).1, (HRX.out.2.2 c hc).2.1⟩ : ∀ c ∈ x.c, c.col.length ≤ maxLen ∧ c.s.length ≤ maxLen)
    have HXI : Hid (∀ h : i < l.length, l[i] = x) := fun _ => hx
    subst hpp
    clear hx hvx hokx ec hu1 hu2 hil
    cases hrx : Rw.right x with
    | false =>
     have HF : Hid (C = [] ∧ 1 = e0 ∧ i = k0) := (by
      have h := HGi.out
      rw [Rw.growF_wrong hlt (by rw [HXI.out]; exact hrx)] at h
      simpa using h : C = [] ∧ 1 = e0 ∧ i = k0)
     have HRx : Hid (Rw.right x = false) := hrx
     clear hrx
     go_wp2_with fail
     refine (rowright_is ⟨vt, vq, xp, xn, xc⟩ x _ HV.out HLx.out false HRx.out).mono ?_
     rintro e w2 ⟨rfl, hx2⟩
     go_wp2_with fail
     go_ret3
     obtain ⟨q1, q2, q3⟩ := HF.out
     exact ⟨none, 0, by rw [q1, ← q2, ← q3]; rfl, by rw [q1]; exact RdW.nil _, HX.out.trans hx2⟩
    | true =>
     have HRx : Hid (Rw.right x = true) := hrx
     obtain ⟨⟨_, _, _, _, hxl⟩, _, _⟩ := (Rw.right_iff x).1 hrx
     obtain ⟨hv1, hv2, hxn, hxC⟩ := HV.out
     simp only at hxn hxC
     have HXC : Hid (RdC wo xp xc x.c) := hxC
     have HXN : Hid (xn = x.c.length) := hxn
     have hxn8 : xn ≤ 8 := by omega
     have hxb := hxC.2.1
     have hxb2 := hxC.1
     unfold maxLen at hxb
     have hxcn : xn ≤ xc := by omega
     clear hrx hxC hv1 hv2 hxn hxb2 hxl
     go_wp2_with fail
     refine (rowright_is ⟨vt, vq, xp, xn, xc⟩ x _ HV.out HLx.out true HRx.out).mono ?_
     rintro e w2 ⟨rfl, hx2⟩
     have HX2 : Hid (Ex wo w2) := hx2
     have c2' : w2.cell? ⟨b, off + i * 3 + 2, none⟩ = some (.slice xp xn xc) := rcell_ex E2.out hx2
     clear hx2 c0 c1 c2
     go_wp2_with fail
     go_loopw [9, 10, 11, 12, 13] (fun ov jv _ _ _ wr => ∃ (j : Nat) (ap : Option Addr) (cp np : Nat) (O' : List Co), j ≤ xn ∧ jv = .int .i64 j ∧ ov = .slice ap np cp ∧ Hid (np = O'.length) ∧ np ≤ 12 + j ∧ cp ≤ 9223372036854775807 ∧ Hid (RdK wr ap cp O') ∧ Hid (Rw.addR O x.c = Rw.addR O' (x.c.drop j)) ∧ Hid (Ex w2 wr)) (fun ov jv _ _ _ wr => xn - (intOf jv).toNat)
     case atStart => exact ⟨0, ao, co, no, O, by omega, by go_num, rfl, HN, by omega, hco, HR.out.below HX2.out, (by simp : Rw.addR O x.c = Rw.addR O (x.c.drop 0)), Ex.refl w2⟩
     case round =>
      obtain ⟨j, ap, cp, np, O', hj, rfl, rfl, HNp, hnp, hcp, HRp, HAj, HXj⟩ := hrel
      rename World => wj
      have c3 : wj.cell? ⟨b, off + i * 3 + 2, none⟩ = some (.slice xp xn xc) := rcell_ex c2' HXj.out
      by_cases hjl : j < xn
      ·have htj : (j : Int) < (xn : Int) := by omega
       have hjx : j < x.c.length := by have := HXN.out; omega
       obtain ⟨b3, off3, hp3, d0, d1, d2, d3⟩ := RdC.four (HXC.out.below (HX2.out.trans HXj.out)) hjx
       obtain ⟨d, hd⟩ : ∃ d, x.c[j] = d := ⟨_, rfl⟩
       have HD : Hid (∀ h : j < x.c.length, x.c[j] = d) := fun _ => hd
       rw [hd] at d0 d1 d2 d3
       subst hp3
       clear hd hjx
       obtain ⟨W3, hW3⟩ : ∃ W3, W3 = wj.alloc (cb d) := ⟨_, rfl⟩
       have HX3 : Hid (Ex wj W3) := (by rw [hW3]; exact (Below.refl _ _).alloc (Nat.le_refl _) _ : Ex wj W3)
       have HZ3 : Hid (EAt W3 wj.heap.size d) := (by rw [hW3]; exact EAt.new wj d : EAt W3 wj.heap.size d)
       have HRW : Hid (RdK W3 ap cp O') := HRp.out.below HX3.out
       have hnpc : np ≤ cp := by rw [HNp.out]; exact HRW.out.1
       have HW3 : Hid (W3 = wj.alloc (cb d)) := hW3
       clear hW3
       go_wp2_with fail
       rw [← HW3.out]
       clear d0 d1 d2 d3 c3
       have zd := str_toList d.col
       go_loopw [12] (fun kv wr => ∃ k : Nat, k ≤ np ∧ kv = .int .i64 k ∧ Hid (∀ m z, m < k → O'[m]? = some z → T.lt z.nm d.col = true) ∧ Hid (Ex W3 wr)) (fun kv wr => np - (intOf kv).toNat)
       case atStart => exact ⟨0, by omega, by go_num, (fun m z h _ => by omega : ∀ m z, m < 0 → O'[m]? = some z → T.lt z.nm d.col = true), Ex.refl W3⟩
       case round =>
        obtain ⟨k, hk, rfl, HK, HXk⟩ := hrel
        obtain ⟨z0, z1, z2, z3⟩ := (HZ3.out.below HXk.out).all
        by_cases hkn : k < np
        ·have tk : decide ((k : Int) < (np : Int)) = true := by simp; omega
         have tk1 : decide (k < np) = true := by simp; omega
         have htk : (k : Int) < (np : Int) := by omega
         have hkO : k < O'.length := by have := HNp.out; omega
         obtain ⟨b4, off4, hp4, g0, g1⟩ := RdK.two (HRW.out.below HXk.out) hkO
         obtain ⟨y, hy⟩ : ∃ y, O'[k] = y := ⟨_, rfl⟩
         have HY : Hid (O'[k]? = some y) := (by rw [List.getElem?_eq_getElem hkO, hy] : O'[k]? = some y)
         rw [hy] at g0 g1
         have zy := str_toList y.nm
         subst hp4
         clear hy hkO
         cases hl3 : T.lt y.nm d.col with
         | true =>
          have hl2 : Op.bytesLess y.nm d.col = true := hl3
          have HK2 : Hid (∀ m z, m < k + 1 → O'[m]? = some z → T.lt z.nm d.col = true) := (fun m z h1 h2 => by
           by_cases he : m = k
           ·rw [he, HY.out] at h2
            simp at h2
            rw [← h2]; exact hl3
           ·exact HK.out m z (by omega) h2 : ∀ m z, m < k + 1 → O'[m]? = some z → T.lt z.nm d.col = true)
          clear hl3
          go_wp2_with fail
          go_quiet (fail)
          go_wp2_with fail
          go_roundw
          case rel => exact ⟨k + 1, by omega, by go_num, HK2, HXk.out.trans (Ex.drewN _ _)⟩
          case measure => simp [intOf]; omega
         | false =>
          have hl2 : Op.bytesLess y.nm d.col = false := hl3
          have HL3 : Hid (T.lt y.nm d.col = false) := hl3
          clear hl3
          by_cases hyn : y.nm = d.col
          ·have td : (y.nm == d.col) = true := by simp [hyn]
           have HYN : Hid (y.nm = d.col) := hyn
           clear hyn
           by_cases hyk : y.k = d.k
           ·have tq : (y.k != d.k) = false := by simp [hyk]
            have HNW : Hid (Rw.addR O x.c = Rw.addR O' (x.c.drop (j + 1))) := (by
             rw [HAj.out, Rw.addR_step (by have := HXN.out; omega), HD.out, Rw.addC_hit HK.out HY.out HYN.out, if_pos (show y.k = (Rw.co d).k from hyk)]; rfl : Rw.addR O x.c = Rw.addR O' (x.c.drop (j + 1)))
            clear hyk
            go_wp2_with fail
            go_quiet (fail)
            go_wp2_with fail
            go_quiet (fail)
            go_wp2_with fail
            go_quiet (fail)
            go_wp2_with fail
            go_roundw
            case rel => exact ⟨j + 1, _, cp, np, O', by omega, by go_num, rfl, HNp, by omega, hcp, (HRW.out.below HXk.out).below (Ex.drewN _ _), HNW, HXj.out.trans (HX3.out.trans (HXk.out.trans (Ex.drewN _ _)))⟩
            case measure => simp [intOf]; omega
           ·have tq : (y.k != d.k) = true := by simp [hyk]
            have HA : Hid (Rw.addR O x.c = none) := (by
             rw [HAj.out, Rw.addR_step (by have := HXN.out; omega), HD.out, Rw.addC_hit HK.out HY.out HYN.out, if_neg (show ¬ y.k = (Rw.co d).k from hyk)]; rfl : Rw.addR O x.c = none)
            have HF : Hid (C = [] ∧ 22 = e0 ∧ i = k0) := (by
             have h := HGi.out
             rw [Rw.growF_other hlt (by rw [HXI.out]; exact HRx.out) (by rw [HXI.out]; exact HA.out)] at h
             simpa using h : C = [] ∧ 22 = e0 ∧ i = k0)
            clear hyk
            go_wp2_with fail
            go_quiet (fail)
            go_wp2_with fail
            go_quiet (fail)
            go_wp2_with fail
            go_quiet (fail)
            go_wp2_with fail
            go_ret3
            obtain ⟨q1, q2, q3⟩ := HF.out
            exact ⟨none, 0, by rw [q1, ← q2, ← q3]; rfl, by rw [q1]; exact RdW.nil _, HX.out.trans (HX2.out.trans (HXj.out.trans (HX3.out.trans (HXk.out.trans ((Ex.drewN _ _).trans ((Ex.drewN _ _).trans (Ex.drewN _ _)))))))⟩
          ·have td : (y.nm == d.col) = false := by simp [hyn]
           have HNO : Hid (∀ z, O'[k]? = some z → T.lt z.nm d.col = false ∧ z.nm ≠ d.col) := (fun z h => by
            rw [HY.out] at h
            simp at h
            rw [← h]; exact ⟨HL3.out, hyn⟩ : ∀ z, O'[k]? = some z → T.lt z.nm d.col = false ∧ z.nm ≠ d.col)
           clear hyn
           go_wp2_with fail
           go_quiet (fail)
           go_wp2_with fail
           go_quiet (fail)
           go_wp2_with fail
           have HNW : Hid (Rw.addR O x.c = Rw.addR (O'.take k ++ Rw.co d :: O'.drop k) (x.c.drop (j + 1))) := (by
            rw [HAj.out, Rw.addR_step (by have := HXN.out; omega), HD.out, Rw.addC_new (by have := HNp.out; omega) HK.out HNO.out]; rfl : Rw.addR O x.c = Rw.addR (O'.take k ++ Rw.co d :: O'.drop k) (x.c.drop (j + 1)))
           refine any_world (P := fun WX => Code.wp Try.prog _ _ _ WX) (w0 := wr) ?hxq ?_
           case hxq => first | exact (Ex.drewN _ _).trans (Ex.drewN _ _) | exact Ex.drewN _ _
           intro WX hWX
           have HXx : Hid (Ex W3 WX) := HXk.out.trans hWX
           obtain ⟨a7, hlo, hlr⟩ := lo44 (some ⟨b4, off4, none⟩) np cp k hk hnpc hcp
           have HT7 : Hid (RdK WX (some ⟨b4, off4, none⟩) cp (O'.take k)) := (HRW.out.below HXx.out).take k
           have HD7 : Hid (RdK WX a7 (cp - k) (O'.drop k)) := hlr WX O' HNp.out.symm (HRW.out.below HXx.out)
           have HKL : Hid ((O'.take k).length = k) := (by have := HNp.out; simp; omega : (O'.take k).length = k)
           have HZx : Hid (EAt WX wj.heap.size d) := HZ3.out.below HXx.out
           have hki : (k : Int) ≤ (cp : Int) := by omega
           clear hlr hWX z0 z1 z2 z3
           refine Rg.Fr.wp_cat (t := 87) (k := 2) (fl := kc) kc_len kc_one 82 _ 24 Try.underlying82 Try.info87 (by omega) rfl (by omega) ⟨0, 4, 10, 11, 12, 91, 95, 101, 102, 13⟩ 114 (by kernel_rfl) rfl (by kernel_rfl) (by kernel_rfl) (by decide) (by decide) (by decide) _ _ _ _ _ rfl rfl rfl rfl rfl 94 100 rfl rfl rfl rfl rfl rfl rfl rfl rfl rfl (by kernel_rfl) (by kernel_rfl) (by kernel_rfl) (by kernel_rfl)
            [Rg.Fr.T2, .inl (Value.slice (some ⟨b4, off4, none⟩) np cp), .inl (Value.int .i64 (k : Int)), .inl (Value.slice (some ⟨b4, off4, none⟩) k cp), Rg.Fr.T2, .inl (Value.pointer (some ⟨wj.heap.size, 0, none⟩)), .inl (Value.string (str d.col)), .inl (Value.pointer (some ⟨wj.heap.size, 1, none⟩)), .inl (Value.int .i64 d.k), .inl (kv (Rw.co d)), Rg.Fr.T2, Rg.Fr.T2, Rg.Fr.T2] ⟨fun _ _ _ _ _ => trivial, fun _ _ _ _ _ => trivial, fun _ _ _ _ _ => trivial, fun _ _ _ _ _ => trivial, fun _ _ _ _ _ => trivial, trivial⟩ rfl rfl rfl rfl rfl (some ⟨b4, off4, none⟩) k cp (kv (Rw.co d)) (O'.take k) (Rw.co d) rfl rfl HKL.out.symm HT7.out (by rw [HKL.out]; omega) ?rE ?rB ?hd ?hQ ?hF
           case rE => intro ρ w'; simp [execOp, go_sem]
           case rB => intro ρ w' hρ; simp [execOp, hρ, go_sem, kv, kc]
           case hd =>
            intro i1 o1 ho1 hsp
            rcases i1 with _ | _ | _ | _ | _ | _ | _ | _ | _ | _ | _ | _ | _ | _
            all_goals first | (exfalso; revert hsp; decide) | (exfalso; revert ho1; simp; done) | (obtain rfl := Option.some.inj ho1; exact ⟨by decide, by decide, by decide, by decide, by decide⟩)
           case hQ =>
            intro i1 o1 ho1 hsp ρ w1 hx1 ha
            rcases i1 with _ | _ | _ | _ | _ | _ | _ | _ | _ | _ | _ | _ | _ | _
            all_goals first | (exfalso; revert hsp; decide) | (exfalso; clear ha; revert ho1; simp; done) | (obtain rfl := Option.some.inj ho1)
            ·exact Rg.q_move rfl rfl ha
            ·exact Rg.q_move rfl rfl ha
            ·exact Rg.q_slice2 rfl rfl rfl rfl ha (by go_simp)
            ·exact Rg.q_field rfl rfl rfl ha (by go_simp)
            ·exact Rg.q_load rfl rfl rfl ha (by obtain ⟨z0, z1, z2, z3⟩ := (HZx.out.below hx1).all; go_simp)
            ·exact Rg.q_field rfl rfl rfl ha (by go_simp)
            ·exact Rg.q_load rfl rfl rfl ha (by obtain ⟨z0, z1, z2, z3⟩ := (HZx.out.below hx1).all; go_simp)
            ·have h1 : ρ (.tmp 97) = .string (str d.col) := ha (.tmp 97) (by simp [Op.operands])
             have h2 : ρ (.tmp 99) = .int .i64 d.k := ha (.tmp 99) (by simp [Op.operands])
             exact ⟨kv (Rw.co d), by simp [execOp, go_sem, h1, h2, kv, Rw.co], rfl⟩
           case hF =>
            intro w7 hx7
            simp only [Rg.later, Act.put, List.setIfInBounds_toArray, List.set_cons_succ, List.set_cons_zero]
            intro v0 _ v4 _ v9 _ v10 _ v11 _ v hv hown7
            have hvv : v11 = v := by simpa using hv
            subst hvv
            clear hv
            have HW7 : Hid (OwnK w7 WX.heap.size v11 (O'.take k ++ [Rw.co d])) := hown7
            have HD8 : Hid (RdK w7 a7 (cp - k) (O'.drop k)) := HD7.out.below hx7
            have hstep : ∀ v8 w8, OwnK w8 WX.heap.size v8 (O'.take k ++ [Rw.co d] ++ O'.drop k) → w7.grownBy w8 v11.ownBlock → ∃ a8 c8, v8 = .slice a8 (np + 1) c8 ∧ Hid (np + 1 = (O'.take k ++ Rw.co d :: O'.drop k).length) ∧ c8 ≤ 9223372036854775807 ∧ Hid (RdK w8 a8 c8 (O'.take k ++ Rw.co d :: O'.drop k)) ∧ Hid (Ex w2 w8) := by
             intro v8 w8 h8 hg8
             have hx8 : Ex WX w8 := hx7.grown hg8 hx7.size (fun q hq => (HW7.out.lt q hq).1)
             rw [show O'.take k ++ [Rw.co d] ++ O'.drop k = O'.take k ++ Rw.co d :: O'.drop k by simp] at h8
             obtain ⟨a8, c8, he, hr⟩ := h8.rd kc_len
             have hl8 : (O'.take k ++ Rw.co d :: O'.drop k).length = np + 1 := by have := HNp.out; simp; omega
             rw [hl8] at he
             have hb8 := hr.2.1
             unfold maxLen at hb8
             exact ⟨a8, c8, he, hl8.symm, by omega, hr, HXj.out.trans (HX3.out.trans (HXx.out.trans hx8))⟩
            have hbs7 : WX.heap.size ≤ w7.heap.size := hx7.size
            have HDL : Hid (np - k = (O'.drop k).length) := (by have := HNp.out; simp; omega : np - k = (O'.drop k).length)
            have H63 : Hid ((O'.take k ++ [Rw.co d]).length + (O'.drop k).length ≤ maxLen) := (by have := HNp.out; unfold maxLen; simp; omega : (O'.take k ++ [Rw.co d]).length + (O'.drop k).length ≤ maxLen)
            have HBY : Hid (((O'.take k ++ [Rw.co d]).length + (O'.drop k).length) * 24 ≤ 140737488355328) := (by have := HNp.out; simp; omega : ((O'.take k ++ [Rw.co d]).length + (O'.drop k).length) * 24 ≤ 140737488355328)
            clear hown7 hx7
            go_wp2_with (at_builtin; refine wpList_append_wide kc_len kc_one rfl (.tmp 103) (.tmp 106) 82 _ 24 rfl Try.underlying82 Try.info87 (by omega) rfl WX.heap.size _ (O'.take k ++ [Rw.co d]) rfl HW7.out _ _ _ (O'.drop k) rfl HDL.out HD8.out H63.out HBY.out hbs7 ?_; intro v8 w8 ho8 hg8 _; obtain ⟨a8, c8, rfl, HN8, hc8, HR8, HX8⟩ := hstep v8 w8 ho8 hg8; clear ho8 hg8)
            go_roundw
            case rel => exact ⟨j + 1, a8, c8, np + 1, _, by omega, by go_num, rfl, HN8, by omega, hc8, HR8, HNW, HX8⟩
            case measure => simp [intOf]; omega
        ·have tk : decide ((k : Int) < (np : Int)) = false := by simp; omega
         have tk1 : decide (k < np) = false := by simp; omega
         have htk : ¬ (k : Int) < (np : Int) := by omega
         have HNO : Hid (∀ z, O'[k]? = some z → T.lt z.nm d.col = false ∧ z.nm ≠ d.col) := (fun z h => by
          have := (List.getElem?_eq_some_iff.1 h).1
          have := HNp.out
          omega : ∀ z, O'[k]? = some z → T.lt z.nm d.col = false ∧ z.nm ≠ d.col)
         go_wp2_with fail
         go_quiet (fail)
         go_wp2_with fail
         go_quiet (fail)
         go_wp2_with fail
         have HNW : Hid (Rw.addR O x.c = Rw.addR (O'.take k ++ Rw.co d :: O'.drop k) (x.c.drop (j + 1))) := (by
          rw [HAj.out, Rw.addR_step (by have := HXN.out; omega), HD.out, Rw.addC_new (by have := HNp.out; omega) HK.out HNO.out]; rfl : Rw.addR O x.c = Rw.addR (O'.take k ++ Rw.co d :: O'.drop k) (x.c.drop (j + 1)))
         refine any_world (P := fun WX => Code.wp Try.prog _ _ _ WX) (w0 := wr) ?hxq ?_
         case hxq => first | exact (Ex.drewN _ _).trans (Ex.drewN _ _) | exact Ex.drewN _ _
         intro WX hWX
         have HXx : Hid (Ex W3 WX) := HXk.out.trans hWX
         obtain ⟨a7, hlo, hlr⟩ := lo44 ap np cp k hk hnpc hcp
         have HT7 : Hid (RdK WX ap cp (O'.take k)) := (HRW.out.below HXx.out).take k
         have HD7 : Hid (RdK WX a7 (cp - k) (O'.drop k)) := hlr WX O' HNp.out.symm (HRW.out.below HXx.out)
         have HKL : Hid ((O'.take k).length = k) := (by have := HNp.out; simp; omega : (O'.take k).length = k)
         have HZx : Hid (EAt WX wj.heap.size d) := HZ3.out.below HXx.out
         have hki : (k : Int) ≤ (cp : Int) := by omega
         clear hlr hWX z0 z1 z2 z3
         refine Rg.Fr.wp_cat (t := 87) (k := 2) (fl := kc) kc_len kc_one 82 _ 24 Try.underlying82 Try.info87 (by omega) rfl (by omega) ⟨0, 4, 10, 11, 12, 91, 95, 101, 102, 13⟩ 114 (by kernel_rfl) rfl (by kernel_rfl) (by kernel_rfl) (by decide) (by decide) (by decide) _ _ _ _ _ rfl rfl rfl rfl rfl 94 100 rfl rfl rfl rfl rfl rfl rfl rfl rfl rfl (by kernel_rfl) (by kernel_rfl) (by kernel_rfl) (by kernel_rfl)
          [Rg.Fr.T2, .inl (Value.slice ap np cp), .inl (Value.int .i64 (k : Int)), .inl (Value.slice ap k cp), Rg.Fr.T2, .inl (Value.pointer (some ⟨wj.heap.size, 0, none⟩)), .inl (Value.string (str d.col)), .inl (Value.pointer (some ⟨wj.heap.size, 1, none⟩)), .inl (Value.int .i64 d.k), .inl (kv (Rw.co d)), Rg.Fr.T2, Rg.Fr.T2, Rg.Fr.T2] ⟨fun _ _ _ _ _ => trivial, fun _ _ _ _ _ => trivial, fun _ _ _ _ _ => trivial, fun _ _ _ _ _ => trivial, fun _ _ _ _ _ => trivial, trivial⟩ rfl rfl rfl rfl rfl ap k cp (kv (Rw.co d)) (O'.take k) (Rw.co d) rfl rfl HKL.out.symm HT7.out (by rw [HKL.out]; omega) ?rE ?rB ?hd ?hQ ?hF
         case rE => intro ρ w'; simp [execOp, go_sem]
         case rB => intro ρ w' hρ; simp [execOp, hρ, go_sem, kv, kc]
         case hd =>
          intro i1 o1 ho1 hsp
          rcases i1 with _ | _ | _ | _ | _ | _ | _ | _ | _ | _ | _ | _ | _ | _
          all_goals first | (exfalso; revert hsp; decide) | (exfalso; revert ho1; simp; done) | (obtain rfl := Option.some.inj ho1; exact ⟨by decide, by decide, by decide, by decide, by decide⟩)
         case hQ =>
          intro i1 o1 ho1 hsp ρ w1 hx1 ha
          rcases i1 with _ | _ | _ | _ | _ | _ | _ | _ | _ | _ | _ | _ | _ | _
          all_goals first | (exfalso; revert hsp; decide) | (exfalso; clear ha; revert ho1; simp; done) | (obtain rfl := Option.some.inj ho1)
          ·exact Rg.q_move rfl rfl ha
          ·exact Rg.q_move rfl rfl ha
          ·exact Rg.q_slice2 rfl rfl rfl rfl ha (by go_simp)
          ·exact Rg.q_field rfl rfl rfl ha (by go_simp)
          ·exact Rg.q_load rfl rfl rfl ha (by obtain ⟨z0, z1, z2, z3⟩ := (HZx.out.below hx1).all; go_simp)
          ·exact Rg.q_field rfl rfl rfl ha (by go_simp)
          ·exact Rg.q_load rfl rfl rfl ha (by obtain ⟨z0, z1, z2, z3⟩ := (HZx.out.below hx1).all; go_simp)
          ·have h1 : ρ (.tmp 97) = .string (str d.col) := ha (.tmp 97) (by simp [Op.operands])
           have h2 : ρ (.tmp 99) = .int .i64 d.k := ha (.tmp 99) (by simp [Op.operands])
           exact ⟨kv (Rw.co d), by simp [execOp, go_sem, h1, h2, kv, Rw.co], rfl⟩
         case hF =>
          intro w7 hx7
          simp only [Rg.later, Act.put, List.setIfInBounds_toArray, List.set_cons_succ, List.set_cons_zero]
          intro v0 _ v4 _ v9 _ v10 _ v11 _ v hv hown7
          have hvv : v11 = v := by simpa using hv
          subst hvv
          clear hv
          have HW7 : Hid (OwnK w7 WX.heap.size v11 (O'.take k ++ [Rw.co d])) := hown7
          have HD8 : Hid (RdK w7 a7 (cp - k) (O'.drop k)) := HD7.out.below hx7
          have hstep : ∀ v8 w8, OwnK w8 WX.heap.size v8 (O'.take k ++ [Rw.co d] ++ O'.drop k) → w7.grownBy w8 v11.ownBlock → ∃ a8 c8, v8 = .slice a8 (np + 1) c8 ∧ Hid (np + 1 = (O'.take k ++ Rw.co d :: O'.drop k).length) ∧ c8 ≤ 9223372036854775807 ∧ Hid (RdK w8 a8 c8 (O'.take k ++ Rw.co d :: O'.drop k)) ∧ Hid (Ex w2 w8) := by
           intro v8 w8 h8 hg8
           have hx8 : Ex WX w8 := hx7.grown hg8 hx7.size (fun q hq => (HW7.out.lt q hq).1)
           rw [show O'.take k ++ [Rw.co d] ++ O'.drop k = O'.take k ++ Rw.co d :: O'.drop k by simp] at h8
           obtain ⟨a8, c8, he, hr⟩ := h8.rd kc_len
           have hl8 : (O'.take k ++ Rw.co d :: O'.drop k).length = np + 1 := by have := HNp.out; simp; omega
           rw [hl8] at he
           have hb8 := hr.2.1
           unfold maxLen at hb8
           exact ⟨a8, c8, he, hl8.symm, by omega, hr, HXj.out.trans (HX3.out.trans (HXx.out.trans hx8))⟩
          have hbs7 : WX.heap.size ≤ w7.heap.size := hx7.size
          have HDL : Hid (np - k = (O'.drop k).length) := (by have := HNp.out; simp; omega : np - k = (O'.drop k).length)
          have H63 : Hid ((O'.take k ++ [Rw.co d]).length + (O'.drop k).length ≤ maxLen) := (by have := HNp.out; unfold maxLen; simp; omega : (O'.take k ++ [Rw.co d]).length + (O'.drop k).length ≤ maxLen)
          have HBY : Hid (((O'.take k ++ [Rw.co d]).length + (O'.drop k).length) * 24 ≤ 140737488355328) := (by have := HNp.out; simp; omega : ((O'.take k ++ [Rw.co d]).length + (O'.drop k).length) * 24 ≤ 140737488355328)
          clear hown7 hx7
          go_wp2_with (at_builtin; refine wpList_append_wide kc_len kc_one rfl (.tmp 103) (.tmp 106) 82 _ 24 rfl Try.underlying82 Try.info87 (by omega) rfl WX.heap.size _ (O'.take k ++ [Rw.co d]) rfl HW7.out _ _ _ (O'.drop k) rfl HDL.out HD8.out H63.out HBY.out hbs7 ?_; intro v8 w8 ho8 hg8 _; obtain ⟨a8, c8, rfl, HN8, hc8, HR8, HX8⟩ := hstep v8 w8 ho8 hg8; clear ho8 hg8)
          go_roundw
          case rel => exact ⟨j + 1, a8, c8, np + 1, _, by omega, by go_num, rfl, HN8, by omega, hc8, HR8, HNW, HX8⟩
          case measure => simp [intOf]; omega
      ·have htj : ¬ (j : Int) < (xn : Int) := by omega
       have HA : Hid (Rw.addR O x.c = some O') := (by rw [HAj.out]; exact Rw.addR_end (by have := HXN.out; omega) : Rw.addR O x.c = some O')
       by_cases hn12 : 12 < np
       ·have t12 : decide (12 < (np : Int)) = true := by simp; omega
        have ht12 : (12 : Int) < (np : Int) := by omega
        have HF : Hid (C = [] ∧ 4 = e0 ∧ i = k0) := (by
         have h := HGi.out
         rw [Rw.growF_many hlt (by rw [HXI.out]; exact HRx.out) (by rw [HXI.out]; exact HA.out) (by have := HNp.out; omega)] at h
         simpa using h : C = [] ∧ 4 = e0 ∧ i = k0)
        go_wp2_with fail
        go_ret3
        obtain ⟨q1, q2, q3⟩ := HF.out
        exact ⟨none, 0, by rw [q1, ← q2, ← q3]; rfl, by rw [q1]; exact RdW.nil _, HX.out.trans (HX2.out.trans HXj.out)⟩
       ·have t12 : decide (12 < (np : Int)) = false := by simp; omega
        have ht12 : ¬ (12 : Int) < (np : Int) := by omega
        have HG2 : Hid (Rw.growF (i + 1) O' (l.drop (i + 1)) = (C, e0, k0)) := (by
         have h := HGi.out
         rw [Rw.growF_step hlt (by rw [HXI.out]; exact HRx.out) (by rw [HXI.out]; exact HA.out) (by have := HNp.out; omega)] at h
         exact h : Rw.growF (i + 1) O' (l.drop (i + 1)) = (C, e0, k0))
        have HXe : Hid (Ex w wj) := HX.out.trans (HX2.out.trans HXj.out)
        go_wp2_with fail
        go_roundw
        case rel => exact ⟨i + 1, ap, cp, np, O', by omega, by go_num, rfl, HNp, by omega, hcp, HRp, HG2, HXe⟩
        case measure => simp [intOf]; omega
   ·have hti : ¬ (i : Int) < (l.length : Int) := by omega
    have HF : Hid (O = C ∧ 0 = e0 ∧ 0 = k0) := (by
     have h := HGi.out
     rw [Rw.growF_end (by omega)] at h
     simpa using h : O = C ∧ 0 = e0 ∧ 0 = k0)
    go_wp2_with fail
    go_ret3
    obtain ⟨q1, q2, q3⟩ := HF.out
    exact ⟨ao, co, by rw [← q1, ← q2, ← q3, ← HN.out]; rfl, by rw [← q1]; exact HR.out, HX.out⟩
end Go.Proofs.Ytibnhjfeepdddaa
