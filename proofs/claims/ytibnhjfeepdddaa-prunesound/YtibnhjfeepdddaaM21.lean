/-
  Taken out of another text of mine: Rbuild. A filter as a value, and in a block of its own; its bytes in theirs. The document's own Build (layer 9), over the program.
-/
import Derived.Test.YtibnhjfeepdddaaM20
import Derived.Test.YtibnhjfeepdddaaM13
namespace Go.Proofs.Ytibnhjfeepdddaa
open Go.RowKit
set_option linter.unusedVariables false

theorem Try.info3 : (Try.prog.info? 3).map (fun i => (i.zero, i.size, i.bytes)) = some (some (.int .i64 0), 1, 8) := by kernel_rfl
def places (D : List (List UInt8)) (l : List (List UInt8)) : List Int := l.map fun s => ((T.place D s : Nat) : Int)
theorem places_len (D l : List (List UInt8)) : (places D l).length = l.length := by simp [places]
theorem take_snoc {α : Type} {l : List α} {k : Nat} (h : k < l.length) : l.take (k + 1) = l.take k ++ [l[k]] := List.take_succ_eq_append_getElem h
theorem places_snoc (D l : List (List UInt8)) (s : List UInt8) : places D (l ++ [s]) = places D l ++ [((T.place D s : Nat) : Int)] := by simp [places]

set_option maxRecDepth 100000 in
set_option maxHeartbeats 1000000 in
theorem rbuild_is (a : Option Addr) (n cap : Nat) (l : List (List UInt8)) (w : World) (hn : n = l.length) (hB : Rd st w a cap l) (hl : l.length ≤ 500) (D : List (List UInt8)) (hD : T.bld l = D) (P : List Int) (hP : places D l = P) :
  Calls Try.prog 62 #[.slice a n cap] w fun e w' => ∃ v u, e = .returned (.tuple #[v, u]) ∧ IsRd st D v w' ∧ IsRd z64 P u w' ∧ Ex w w' := by
 subst hn
 have HB : Hid (Rd st w a cap l) := hB
 have HD : Hid (T.bld l = D) := hD
 have HP : Hid (places D l = P) := hP
 have hcl := hB.1
 have hcm := hB.2.1
 unfold maxLen at hcm
 have h0 : Hid (IsRd st (T.bld (l.take 0)) (.slice none 0 0) w) := IsRd.nil w
 clear hB hD hP
 go_enter Try.func62, Try.ntmps62
 go_wp2_with fail
 go_loopw [4, 5] (fun v i wr => ∃ k : Nat, k ≤ l.length ∧ i = .int .i64 k ∧ Hid (IsRd st (T.bld (l.take k)) v wr) ∧ Hid (Ex w wr)) (fun _ i _ => l.length - (intOf i).toNat)
 case atStart => exact ⟨0, by omega, rfl, h0, Ex.refl _⟩
 case round =>
  obtain ⟨k, hk, rfl, HV, HEx⟩ := hrel
  clear h0
  by_cases hlt : k < l.length
  ·obtain ⟨b, off, rfl, hc⟩ := (HB.out.below HEx.out).at hlt
   obtain ⟨x, hx⟩ : ∃ x, x = l[k] := ⟨_, rfl⟩
   rw [← hx] at hc
   have hc' : wr.cell? ⟨b, off + k, none⟩ = some (.string (str x)) := hc
   have hki : (k : Int) < (l.length : Int) := by omega
   have tk : decide ((k : Int) < (l.length : Int)) = true := by simp; omega
   have hbl := T.bld_len (l.take k)
   have hbl2 : (T.bld (l.take k)).length ≤ 500 := by
    have : (l.take k).length ≤ k := by simp; omega
    omega
   have HN : Hid (T.ins x (T.bld (l.take k)) = T.bld (l.take (k + 1))) := (by rw [take_snoc hlt, T.bld_snoc, hx] : T.ins x (T.bld (l.take k)) = T.bld (l.take (k + 1)))
   obtain ⟨a4, c4, hv4, hb4⟩ := HV.out
   subst hv4
   have HB4 : Hid (Rd st wr a4 c4 (T.bld (l.take k))) := hb4
   clear hc hx hb4 HV hbl
   go_wp2_with fail
   refine (rput7_is a4 _ c4 (T.bld (l.take k)) x _ rfl HB4.out (by omega) _ HN.out).mono ?_
   rintro e w1 ⟨v1, rfl, hv1, hx1⟩
   have HV1 : Hid (IsRd st (T.bld (l.take (k + 1))) v1 w1) := hv1
   have HE1 : Hid (Ex w w1) := HEx.out.trans hx1
   clear hv1 hx1
   go_wp2
   go_roundw
   case rel => exact ⟨k + 1, by omega, by go_num, HV1, HE1⟩
   case measure => simp [intOf]; omega
  ·obtain rfl : k = l.length := by omega
   have tk : decide ((l.length : Int) < (l.length : Int)) = false := by simp
   have hv := HV.out
   rw [List.take_length, HD.out] at hv
   obtain ⟨a4, c4, hv4, hb4⟩ := hv
   subst hv4
   obtain ⟨w2, hw2⟩ : ∃ w2, w2 = wr := ⟨_, rfl⟩
   have HB4 : Hid (Rd st w2 a4 c4 D) := (by rw [hw2]; exact hb4 : Rd st w2 a4 c4 D)
   have HE2 : Hid (Ex w w2) := (by rw [hw2]; exact HEx.out : Ex w w2)
   have hO0 : Hid (OwnR 3 z64 w2 w2.heap.size (.slice none 0 0) (places D (l.take 0))) := (⟨by simp [places], .inl ⟨rfl, rfl⟩⟩ : OwnR 3 z64 w2 w2.heap.size (.slice none 0 0) (places D (l.take 0)))
   have hB0 : Hid (Ex w2 w2) := Ex.refl _
   rw [← hw2]
   clear HV hb4 HEx hw2
   go_wp2_with fail
   go_loopw [6, 7] (fun v i wr => ∃ k : Nat, k ≤ l.length ∧ i = .int .i64 k ∧ Hid (OwnR 3 z64 wr w2.heap.size v (places D (l.take k))) ∧ Hid (Ex w2 wr)) (fun _ i _ => l.length - (intOf i).toNat)
   case atStart => exact ⟨0, by omega, rfl, hO0, hB0⟩
   case round =>
    obtain ⟨k, hk, rfl, HV, HEx⟩ := hrel
    clear hO0 hB0
    have hsz : w2.heap.size ≤ wr.heap.size := HEx.out.size
    by_cases hlt : k < l.length
    ·obtain ⟨b, off, rfl, hc⟩ := ((HB.out.below HE2.out).below HEx.out).at hlt
     obtain ⟨x, hx⟩ : ∃ x, x = l[k] := ⟨_, rfl⟩
     rw [← hx] at hc
     have hc' : wr.cell? ⟨b, off + k, none⟩ = some (.string (str x)) := hc
     have hki : (k : Int) < (l.length : Int) := by omega
     have tk : decide ((k : Int) < (l.length : Int)) = true := by simp; omega
     obtain ⟨r, hr⟩ : ∃ r, T.idx x D = r := ⟨_, rfl⟩
     obtain ⟨p, hp⟩ : ∃ p, r.getD 0 = p := ⟨_, rfl⟩
     have hpl : T.place D x = p := by rw [T.place, hr, hp]
     have HI : Hid (T.idx x D = r) := hr
     have HN : Hid (places D (l.take (k + 1)) = places D (l.take k) ++ [(p : Int)]) := (by rw [take_snoc hlt, places_snoc, ← hx, hpl] : places D (l.take (k + 1)) = places D (l.take k) ++ [(p : Int)])
     have HPp : Hid (r.getD 0 = p) := hp
     have hplen : (places D (l.take k)).length ≤ 500 := by rw [places_len]; simp; omega
     clear hc hx hr hp hpl
     go_wp2_with fail
     refine (rfind_is a4 _ c4 D x _ rfl (HB4.out.below HEx.out) r HI.out).mono ?_
     rintro e wq ⟨rfl, hw⟩
     have hw' := hw.symm; clear hw; subst hw'
     rw [HPp.out]
     have hov := HV.out
     go_wp2_with (at_builtin; refine wpList_append_rd (e := 3) (enc := z64) rfl (.tmp 37) (.tmp 39) 105 rfl 0 8 Try.underlying105 Try.info3 rfl (fun _ => rfl) w2.heap.size _ (places D (l.take k)) rfl (hov.alloc _) _ _ _ [(p : Int)] rfl rfl (Rd.laid wr 3 [(p : Int)] (by simp)) (by simp [maxLen]; omega) (by simp; omega) (by simp; omega) ?_; intro v9 w9 ho9 hg9; have X9 : Ex w2 w9 := step_belowR (Below.alloc HEx.out hsz _) (by simp; omega) (hov.alloc _) hg9; clear hg9)
     have HO9 : Hid (OwnR 3 z64 w9 w2.heap.size v9 (places D (l.take (k + 1)))) := (by rw [HN.out]; exact ho9 : OwnR 3 z64 w9 w2.heap.size v9 (places D (l.take (k + 1))))
     have HX9 : Hid (Ex w2 w9) := X9
     clear ho9 X9 hov
     go_wp2
     go_roundw
     case rel => exact ⟨k + 1, by omega, by go_num, HO9, HX9⟩
     case measure => simp [intOf]; omega
    ·obtain rfl : k = l.length := by omega
     have hv := HV.out
     rw [List.take_length, HP.out] at hv
     obtain ⟨a6, c6, hv6, hb6⟩ := hv.rd
     subst hv6
     have HB6 : Hid (Rd z64 wr a6 c6 P) := hb6
     clear HV hv hb6
     go_wp2
     go_ret2
     exact ⟨_, _, rfl, ⟨a4, c4, rfl, HB4.out.below HEx.out⟩, ⟨a6, c6, rfl, HB6.out⟩, HE2.out.trans HEx.out⟩

end Go.Proofs.Ytibnhjfeepdddaa
namespace Go.Proofs.Ytibnhjfeepdddaa
open Go.RowKit
set_option linter.unusedVariables false
set_option linter.unusedSimpArgs false
abbrev ub (b : UInt8) : Value := .int .u8 (b.toNat : Int)
def fv (k : Int) (v : Value) : Value := .agg #[.int .i64 k, v]
abbrev fb (k : Int) (v : Value) (t : TypeId) : Obj := .cells #[.int .i64 k, v] t
/-- A filter lies in a block. -/
def FAt (w : World) (g : Nat) (k : Int) (v : Value) (t : TypeId) : Prop := w.heap[g]? = some (.cells [.int .i64 k, v].toArray t (0, 0))
section
variable {w w' : World} {g : Nat} {k : Int} {v : Value} {t : TypeId}
theorem FAt.lt (h : FAt w g k v t) : g < w.heap.size := (Array.getElem?_eq_some_iff.1 h).1
theorem FAt.below (h : FAt w g k v t) (hb : Ex w w') : FAt w' g k v t := by unfold FAt; rw [hb.block g h.lt]; exact h
theorem FAt.new (w : World) (k : Int) (v : Value) (t : TypeId) : FAt (w.alloc (fb k v t)) w.heap.size k v t := heap_alloc_new w _
theorem FAt.cell (h : FAt w g k v t) (j : Nat) : w.cell? ⟨g, j, none⟩ = [.int .i64 k, v][j]? := by
 rw [cell_of_row w g j _ t (0, 0) h, List.getElem?_toArray]
theorem FAt.all (h : FAt w g k v t) : w.cell? ⟨g, 0, none⟩ = some (.int .i64 k) ∧ w.cell? ⟨g, 1, none⟩ = some v := ⟨h.cell 0, h.cell 1⟩
theorem FAt.fro (h : FAt w g k v t) : w.frozen? ⟨g, 0, none⟩ = false ∧ w.frozen? ⟨g, 1, none⟩ = false := ⟨frozen_of_row _ _ _ _ _ h, frozen_of_row _ _ _ _ _ h⟩
theorem FAt.set0 (h : FAt w g k v t) (k' : Int) : FAt (w.setCell ⟨g, 0, none⟩ (.int .i64 k')) g k' v t := by
 unfold FAt; rw [heap_setCell_same w g 0 _ t _ h, List.setIfInBounds_toArray]; rfl
theorem FAt.set1 (h : FAt w g k v t) (v' : Value) : FAt (w.setCell ⟨g, 1, none⟩ v') g k v' t := by
 unfold FAt; rw [heap_setCell_same w g 1 _ t _ h, List.setIfInBounds_toArray]; rfl
theorem FAt.other (h : FAt w g k v t) {q j : Nat} {u : Value} (hne : g ≠ q) : FAt (w.setCell ⟨q, j, none⟩ u) g k v t := by
 unfold FAt; rw [heap_setCell_other w _ g u (by simpa using hne)]; exact h
end
set_option maxHeartbeats 1000000 in
theorem load_fil {w9 : World} {g n cap : Nat} {k : Int} {a : Option Addr} {t : TypeId} (ht : t = 32 ∨ t = 77) (h : FAt w9 g k (.slice a n cap) t) : (loadVar t ⟨g, 0, none⟩).run Try.prog w9 = .ok (fv k (.slice a n cap)) w9 := by
 obtain ⟨c0, c1⟩ := h.all
 clear h
 rcases ht with rfl | rfl
 ·simp [go_sem, fv, c0, c1]
 ·simp [go_sem, fv, c0, c1]
theorem res_fil {fn : Func} {tmps : Array Value} {w9 : World} {g i n cap : Nat} {k : Int} {a : Option Addr} {t : TypeId} (ht : t = 32 ∨ t = 77) (hfn : fn.results = #[ResultVar.cell i t]) (htm : tmps.getD i undef = .pointer (some ⟨g, 0, none⟩)) (h : FAt w9 g k (.slice a n cap) t) : (results fn tmps).run Try.prog w9 = .ok (fv k (.slice a n cap)) w9 := by
 have hl := load_fil ht h
 have ht' : tmps[i]?.getD undef = .pointer (some ⟨g, 0, none⟩) := by simpa using htm
 simp [results, hfn, ht', asAddr, Sem.run_bind, Result.andThen, hl]
/-- Bytes in a block, as a slice that is owned. -/
theorem row_own {w : World} {g base n : Nat} {l : List UInt8} (h : RowAt ub 5 w g l) (hb : base ≤ g) (hn : n = l.length) (hm : n ≤ 140737488355328) : Own w base (.slice (some ⟨g, 0, none⟩) n n) l := by
 subst hn
 refine ⟨by simp [cs_len], .inr ⟨g, l.length, _, rfl, hb, h, Nat.le_refl _, by unfold maxLen; omega, by simp, ?_⟩⟩
 simp only [Nat.mul_one]
 rw [List.take_of_length_le (by simp)]
 rfl
namespace Rg
theorem bgood_field {P : Program} {ops : Array Oper} {specs : List Spec} {a0 : Act} {C : World → Prop} {E : World → World → Prop} {o : Oper} {t : TypeId} {x : Operand} {k : Nat} {vx v : Value} (hrefl : ∀ w, E w w) (ho : o.op = .fieldAddr t x k) (hg : guardV ops specs a0 o = some true)
  (hx : argS ops specs a0 x = .inl vx) (h : ∀ w, C w → (Instr.fieldAt t vx k).run P w = .ok v w) : GoodOp P ops specs a0 C E o (.inl v) :=
 good_val hrefl hg fun a w hC hh => by
  have h1 := hh x (by rw [ho]; simp [Op.operands])
  rw [hx] at h1
  simp only [Spec.ok] at h1
  refine ⟨v, ?_, rfl⟩
  unfold execOp
  rw [ho]
  simp only [h1, Sem.run_bind, Result.andThen, h w hC, Sem.run_pure]
end Rg
end Go.Proofs.Ytibnhjfeepdddaa
namespace Go.Proofs.Ytibnhjfeepdddaa
open Go.RowKit
set_option linter.unusedVariables false
set_option linter.unusedSimpArgs false
theorem Fl.wid_go {f d n : Nat} (hf : f ≤ 10) (hn : n = 64 * 2 ^ (10 - f)) (h : n < 8 * d ∧ n < 65536) : ∃ f', f = f' + 1 ∧ 2 * n = 64 * 2 ^ (10 - f') ∧ Fl.wid f d n = Fl.wid f' d (2 * n) := by
 cases f with
 | zero => rw [hn] at h; omega
 | succ f =>
  refine ⟨f, rfl, ?_, ?_⟩
  ·rw [hn, show 10 - f = (10 - (f + 1)) + 1 from by omega, Nat.pow_succ]; omega
  ·show (if n < 8 * d ∧ n < 65536 then _ else _) = _
   rw [if_pos h]
theorem Fl.wid_end {f d n : Nat} (h : ¬ (n < 8 * d ∧ n < 65536)) : Fl.wid f d n = n := by
 cases f with
 | zero => rfl
 | succ f =>
  show (if n < 8 * d ∧ n < 65536 then _ else _) = _
  rw [if_neg h]
/-- The bits of a text, one by one. -/
def Fl.adds (P : Nat → Bool) (s : List UInt8) (m : Nat) : Nat → Nat → Bool
 | 0 => P
 | k + 1 => Fl.add (Fl.adds P s m k) (Fl.pos s m k)
theorem Fl.adds_all (l : List (List UInt8)) (s : List UInt8) (m : Nat) : Fl.adds (Fl.has l m) s m 4 = Fl.has (l ++ [s]) m := (Fl.has_snoc l s m).symm
theorem qs_at (s : List UInt8) (m : Nat) {k : Nat} (h : k < 4) : (qs s m)[k]? = some (Fl.pos s m k : Int) := by
 match k, h with
 | 0, _ => rfl
 | 1, _ => rfl
 | 2, _ => rfl
 | 3, _ => rfl
set_option maxRecDepth 100000 in
set_option maxHeartbeats 4000000 in
theorem rfil_is (a : Option Addr) (n cap : Nat) (l : List (List UInt8)) (w : World) (hn : n = l.length) (hB : Rd st w a cap l) (hl : l.length ≤ 500) (hx : ∀ x ∈ l, x.length ≤ 9223372036854775807) :
  Calls Try.prog 38 #[.slice a n cap] w fun e w' => ∃ v, e = .returned (fv (Fl.bits l : Int) v) ∧ Own w' w.heap.size v (Fl.bytes l) ∧ Ex w w' := by
 subst hn
 obtain ⟨D, hD⟩ : ∃ D, T.bld l = D := ⟨_, rfl⟩
 have hDl : D.length ≤ 500 := by rw [← hD]; exact Nat.le_trans (T.bld_len l) hl
 have HD : Hid (T.bld l = D) := hD
 have HDx : Hid (∀ x ∈ D, x.length ≤ 9223372036854775807) := (fun x h => hx x (by rw [← hD] at h; exact (T.mem_bld l x).1 h) : ∀ x ∈ D, x.length ≤ 9223372036854775807)
 obtain ⟨W, hW⟩ : ∃ W, Fl.width D.length = W := ⟨_, rfl⟩
 have HW : Hid (Fl.wid 10 D.length 64 = W) := hW
 have hWb := (Fl.width_is D.length).bounds
 rw [hW] at hWb
 have HWb : Hid (64 ≤ W ∧ W ≤ 65536 ∧ W % 8 = 0) := hWb
 have hbits : Fl.bits l = W := by unfold Fl.bits; rw [hD, hW]
 have hbytes : Fl.bytes l = Fl.fil W (Fl.has D W) := by rw [Fl.bytes_bld, hbits, hD]
 rw [hbits, hbytes]
 have HB : Hid (Rd st w a cap l) := hB
 have hcl := hB.1
 clear hB hx hD hW hWb hbits hbytes
 go_enter Try.func38, Try.ntmps38
 go_wp2_with fail
 have hxa : Ex w (w.alloc (fb 0 (.slice none 0 0) 77)) := (Below.refl _ _).alloc (Nat.le_refl _) _
 refine (rbuild_is a _ cap l _ rfl (HB.out.below hxa) hl D HD.out _ rfl).mono ?_
 rintro e w1 ⟨vD, vP, rfl, hDv, hPv, hx1⟩
 obtain ⟨aD, cD, rfl, hrD⟩ := hDv
 obtain ⟨aP, cP, rfl, hrP⟩ := hPv
 have hF2 : FAt w1 w.heap.size 0 (.slice none 0 0) 77 := (FAt.new w 0 (.slice none 0 0) 77).below hx1
 have HX1 : Hid (Ex w w1) := hxa.trans hx1
 have HF2 : Hid (FAt w1 w.heap.size 0 (.slice none 0 0) 77) := hF2
 have HRD : Hid (Rd st w1 aD cD D) := hrD
 have hcD := hrD.1
 have hcD2 := hrD.2.1
 unfold maxLen at hcD2
 clear hxa hx1 hF2 hrD hrP
 go_wp2_with fail
 go_loopw [5] (fun i wr => wr = w1 ∧ ∃ f m : Nat, f ≤ 10 ∧ 64 ≤ m ∧ m ≤ 65536 ∧ i = .int .i64 m ∧ Hid (m = 64 * 2 ^ (10 - f)) ∧ Hid (Fl.wid f D.length m = W)) (fun i _ => 65536 - (intOf i).toNat)
 case atStart => exact ⟨rfl, 10, 64, by omega, by omega, by omega, rfl, (rfl : 64 = 64 * 2 ^ (10 - 10)), HW⟩
 case round =>
  obtain ⟨hw, f, m, hf, hm1, hm2, rfl, HM, HWf⟩ := hrel
  have hw' := hw.symm; clear hw; subst hw'
  by_cases hc : m < 8 * D.length ∧ m < 65536
  ·obtain ⟨f', rfl, h2, h3⟩ := Fl.wid_go hf HM.out hc
   have t1 : decide ((m : Int) < 8 * (D.length : Int)) = true := by simp; omega
   have t2 : decide ((m : Int) < 65536) = true := by simp; omega
   have t3 : decide (m < 8 * D.length) = true := by simp; omega
   have t4 : decide (m < 65536) = true := by simp; omega
   have HM' : Hid (2 * m = 64 * 2 ^ (10 - f')) := h2
   have HWf' : Hid (Fl.wid f' D.length (2 * m) = W) := (by rw [← h3]; exact HWf.out : Fl.wid f' D.length (2 * m) = W)
   have hm3 : 2 * m ≤ 65536 := by have := Fl.IsW.bounds (n := 2 * m) ⟨10 - f', by omega, h2⟩; omega
   clear h2 h3 HM HWf
   go_wp2_with fail
   go_roundw
   case rel => exact ⟨trivial, f', 2 * m, by omega, by omega, hm3, by go_num, HM', HWf'⟩
   case measure => simp [intOf]; omega
  ·have hmW : m = W := by rw [← HWf.out]; exact (Fl.wid_end hc).symm
   have t1 : decide ((m : Int) < 8 * (D.length : Int)) = false := by simp; omega
   have t3 : decide (m < 8 * D.length) = false := by simp; omega
   clear hc HM HWf HW
   subst hmW
   obtain ⟨b8, hb8⟩ : ∃ b8, b8 = m / 8 := ⟨_, rfl⟩
   have hb8i : (m : Int) / 8 = (b8 : Int) := by omega
   have hb8l : b8 ≤ 8192 := by omega
   have HB8 : Hid (m = 8 * b8) := (by have := HWb.out; omega : m = 8 * b8)
   clear hb8
   go_wp2_with (at_make; refine wpList_make_zero rfl _ _ rfl _ _ b8 rfl rfl (by omega) (by omega) (by omega) ?_; intro w2 hg2 hb2)
   have hgB : w1.heap.size < w2.heap.size := (Array.getElem?_eq_some_iff.1 hg2).1
   obtain ⟨vB, hvB⟩ : ∃ vB, vB = Value.slice (some ⟨w1.heap.size, 0, none⟩) b8 b8 := ⟨_, rfl⟩
   have HRow0 : Hid (RowAt ub 5 (w2.alloc (fb (m : Int) (.slice (some ⟨w1.heap.size, 0, none⟩) b8 b8) 77)) w1.heap.size (Fl.fil m (Fl.has (D.take 0) m))) := (by
    have e : Fl.fil m (Fl.has (D.take 0) m) = List.replicate b8 0 := by rw [List.take_zero, Fl.has_nil, Fl.fil_none, show m / 8 = b8 from by have := HB8.out; omega]
    rw [e]
    exact RowAt.below (show RowAt ub 5 w2 w1.heap.size (List.replicate b8 0) from hg2) ((Below.refl _ _).alloc (Nat.le_refl _) _) : RowAt ub 5 _ _ _)
   have HF6 : Hid (FAt (w2.alloc (fb (m : Int) (.slice (some ⟨w1.heap.size, 0, none⟩) b8 b8) 77)) w2.heap.size m (.slice (some ⟨w1.heap.size, 0, none⟩) b8 b8) 77) := FAt.new _ _ _ _
   have HX2 : Hid (Ex w1 (w2.alloc (fb (m : Int) (.slice (some ⟨w1.heap.size, 0, none⟩) b8 b8) 77))) := Below.alloc hb2 (Nat.le_of_lt hgB) _
   clear hg2 hb2 vB hvB
   go_loopw [7] (fun i wr => ∃ j : Nat, j ≤ D.length ∧ i = .int .i64 j ∧ Hid (RowAt ub 5 wr w1.heap.size (Fl.fil m (Fl.has (D.take j) m))) ∧ Hid (FAt wr w2.heap.size m (.slice (some ⟨w1.heap.size, 0, none⟩) b8 b8) 77) ∧ Hid (Ex w1 wr)) (fun i _ => D.length - (intOf i).toNat)
   case atStart => exact ⟨0, by omega, rfl, HRow0, HF6, HX2⟩
   case round =>
    obtain ⟨j, hj, rfl, HRow, HF, HXr⟩ := hrel
    clear HRow0 HF6 HX2
    by_cases hlt : j < D.length
    ·obtain ⟨s, hs⟩ : ∃ s, D[j] = s := ⟨_, rfl⟩
     have hsD : s ∈ D := by rw [← hs]; exact List.getElem_mem hlt
     have hsl := HDx.out s hsD
     obtain ⟨bD, oD, rfl, hcs⟩ := (HRD.out.below HXr.out).2.2.2 j s (by rw [List.getElem?_eq_getElem hlt, hs])
     have hcs' : wr.cell? ⟨bD, oD + j, none⟩ = some (.string (str s)) := hcs
     have HNext : Hid (D.take (j + 1) = D.take j ++ [s]) := (by rw [List.take_succ_eq_append_getElem hlt, hs] : D.take (j + 1) = D.take j ++ [s])
     have tj : decide ((j : Int) < (D.length : Int)) = true := by simp; omega
     clear hs hsD hcs
     go_wp2_with fail
     refine (rbits_is s m _ hsl (by omega) (by omega)).mono ?_
     rintro e wb ⟨rfl, hxb⟩
     have hR1 := RowAt.below HRow.out hxb
     have hF1 := HF.out.below hxb
     have hX1b : Ex w1 wb := HXr.out.trans hxb
     have hgb : w2.heap.size < wb.heap.size := hF1.lt
     obtain ⟨wc, hwc⟩ : ∃ wc, wc = wb.alloc (.cells #[.int .i64 (Fl.pos s m 0 : Int), .int .i64 (Fl.pos s m 1 : Int), .int .i64 (Fl.pos s m 2 : Int), .int .i64 (Fl.pos s m 3 : Int)] 108) := ⟨_, rfl⟩
     have hxc : Ex wb wc := by rw [hwc]; exact (Below.refl _ _).alloc (Nat.le_refl _) _
     have H80 : Hid (RowAt z64 108 wc wb.heap.size (qs s m)) := (by rw [hwc]; exact heap_alloc_new wb _ : RowAt z64 108 wc wb.heap.size (qs s m))
     have HR0 : Hid (RowAt ub 5 wc w1.heap.size (Fl.fil m (Fl.adds (Fl.has (D.take j) m) s m 0))) := RowAt.below hR1 hxc
     have HF0 : Hid (FAt wc w2.heap.size m (.slice (some ⟨w1.heap.size, 0, none⟩) b8 b8) 77) := hF1.below hxc
     have HX0 : Hid (Ex w1 wc) := hX1b.trans hxc
     have HWc : Hid (wb.alloc (.cells #[.int .i64 (Fl.pos s m 0 : Int), .int .i64 (Fl.pos s m 1 : Int), .int .i64 (Fl.pos s m 2 : Int), .int .i64 (Fl.pos s m 3 : Int)] 108) = wc) := hwc.symm
     clear hxb hR1 hF1 hX1b hwc hxc hcs' HRow HF HXr
     simp only [qv]
     go_wp2_with fail
     have e4 := HWc.out
     rw [e4]
     clear e4
     go_loopw [9] (fun i wr => ∃ k : Nat, k ≤ 4 ∧ i = .int .i64 k ∧ Hid (RowAt ub 5 wr w1.heap.size (Fl.fil m (Fl.adds (Fl.has (D.take j) m) s m k))) ∧ Hid (RowAt z64 108 wr wb.heap.size (qs s m)) ∧ Hid (FAt wr w2.heap.size m (.slice (some ⟨w1.heap.size, 0, none⟩) b8 b8) 77) ∧ Hid (Ex w1 wr)) (fun i _ => 4 - (intOf i).toNat)
     case atStart => exact ⟨0, by omega, rfl, HR0, H80, HF0, HX0⟩
     case round =>
      obtain ⟨k, hk, rfl, HRk, H8k, HFk, HXk⟩ := hrel
      clear HR0 H80 HF0 HX0
      by_cases hk4 : k < 4
      ·obtain ⟨P, hP⟩ : ∃ P, P = Fl.adds (Fl.has (D.take j) m) s m k := ⟨_, rfl⟩
       have hRk := HRk.out
       rw [← hP] at hRk
       obtain ⟨p, hp⟩ : ∃ p, p = Fl.pos s m k := ⟨_, rfl⟩
       have hpm : p < m := by rw [hp]; exact Fl.pos_lt s (by omega) k
       obtain ⟨pd, hpd⟩ : ∃ pd, pd = p / 8 := ⟨_, rfl⟩
       obtain ⟨pr, hpr⟩ : ∃ pr, pr = p % 8 := ⟨_, rfl⟩
       have hpd8 : pd < b8 := by have := HB8.out; omega
       have hpr8 : pr < 8 := by omega
       have hpdi : (p : Int) / 8 = (pd : Int) := by omega
       have hpri : (p : Int) % 8 = (pr : Int) := by omega
       obtain ⟨sh, hsh⟩ : ∃ sh, sh = 2 ^ pr := ⟨_, rfl⟩
       have hsh8 : sh < 256 := by rw [hsh]; exact Nat.lt_of_lt_of_le (Nat.pow_lt_pow_right (by omega) hpr8) (by decide)
       have hshi : (2 : Int) ^ pr % 256 = (sh : Int) := by
        have e : (2 : Int) ^ pr = ((2 ^ pr : Nat) : Int) := by simp
        rw [e, ← hsh]; omega
       have hlen : (Fl.fil m P).length = b8 := by rw [Fl.fil_len]; have := HB8.out; omega
       obtain ⟨bt, hbt⟩ : ∃ bt, bt = Fl.num8 P pd := ⟨_, rfl⟩
       have hbt8 : bt < 256 := by rw [hbt]; exact Fl.num8_lt P pd
       have hcb : wr.cell? ⟨w1.heap.size, pd, none⟩ = some (.int .u8 (bt : Int)) := by
        have h1 := RowAt.cell (k := pd) hRk (by omega)
        have h2 : (Fl.fil m P)[pd]'(by omega) = Fl.byteOf P pd := by
         have := Fl.fil_at (n := m) (P := P) (j := pd) (by have := HB8.out; omega)
         rw [List.getElem?_eq_getElem (by omega)] at this
         exact Option.some.inj this
        rw [h2] at h1
        rw [h1]
        show some (Value.int .u8 ((Fl.byteOf P pd).toNat : Int)) = _
        rw [Fl.byteOf_toNat, ← hbt]
       obtain ⟨nb, hnb⟩ : ∃ nb, nb = bt ||| sh := ⟨_, rfl⟩
       have hor : bits .or .u8 (bt : Int) (sh : Int) = (nb : Int) := by rw [hnb]; exact I.or8 bt sh hbt8 hsh8
       have hnb8 : nb < 256 := by rw [hnb]; exact Nat.or_lt_two_pow (n := 8) hbt8 hsh8
       have hrow' : RowAt ub 5 (wr.setCell ⟨w1.heap.size, pd, none⟩ (.int .u8 (nb : Int))) w1.heap.size (Fl.fil m (Fl.adds (Fl.has (D.take j) m) s m (k + 1))) := by
        have h1 := RowAt.set (k := pd) (v := .int .u8 (nb : Int)) hRk (UInt8.ofNat nb) (by show _ = Value.int .u8 ((UInt8.ofNat nb).toNat : Int); rw [UInt8.toNat_ofNat']; congr 1; omega)
        have h2 := Fl.fil_set (n := m) (P := P) (k := p) HWb.out.2.2 hpm (b := UInt8.ofNat nb) (by rw [UInt8.toNat_ofNat', ← hpd, ← hpr, ← hbt, ← hsh, ← hnb]; omega)
        rw [← hpd] at h2
        rw [h2] at h1
        show RowAt ub 5 _ _ (Fl.fil m (Fl.add (Fl.adds (Fl.has (D.take j) m) s m k) (Fl.pos s m k)))
        rw [← hP, ← hp]
        exact h1
       have HRow' : Hid (RowAt ub 5 (wr.setCell ⟨w1.heap.size, pd, none⟩ (.int .u8 (nb : Int))) w1.heap.size (Fl.fil m (Fl.adds (Fl.has (D.take j) m) s m (k + 1)))) := hrow'
       have hc8 : wr.cell? ⟨wb.heap.size, k, none⟩ = some (.int .i64 (p : Int)) := by
        have hq := qs_at s m hk4
        have hkl : k < (qs s m).length := (List.getElem?_eq_some_iff.1 hq).1
        have h1 := RowAt.cell (k := k) H8k.out hkl
        rw [List.getElem?_eq_getElem hkl] at hq
        rw [h1, Option.some.inj hq, ← hp]
       have hcf := HFk.out.all.2
       have hfz := RowAt.frozen pd hRk
       have tk : decide ((k : Int) < 4) = true := by simp; omega
       have tk2 : decide (k < 4) = true := by simp; omega
       clear hP hRk hp hpd hpr hsh hbt hnb hrow' hlen hpm
       go_wp2_with fail
       obtain ⟨w0, hw0⟩ : ∃ w0, w0 = wr.drew := ⟨_, rfl⟩
       have hcb0 : w0.cell? ⟨w1.heap.size, pd, none⟩ = some (.int .u8 (bt : Int)) := by rw [hw0]; exact hcb
       have hc80 : w0.cell? ⟨wb.heap.size, k, none⟩ = some (.int .i64 (p : Int)) := by rw [hw0]; exact hc8
       have hcf0 : w0.cell? ⟨w2.heap.size, 1, none⟩ = some (.slice (some ⟨w1.heap.size, 0, none⟩) b8 b8) := by rw [hw0]; exact hcf
       have HW0 : Hid (w0 = wr.drew) := hw0
       clear hw0
       have hre : ∀ w : World, (fun w w' : World => w' = w) w w := fun _ => rfl
       refine Rg.wp_rows_tail (List.take 22 _) (List.drop 22 _) (List.take_append_drop 22 _).symm [.inl (Value.pointer (some ⟨w2.heap.size, 1, none⟩)), .inl (Value.slice (some ⟨w1.heap.size, 0, none⟩) b8 b8), .inl (Value.int .i64 k), .inl (Value.pointer (some ⟨wb.heap.size, k, none⟩)), .inl (Value.int .i64 p), .inl (Value.int .i64 pd), .inl (Value.pointer (some ⟨w2.heap.size, 1, none⟩)), .inl (Value.slice (some ⟨w1.heap.size, 0, none⟩) b8 b8), .inl (Value.int .i64 k), .inl (Value.pointer (some ⟨wb.heap.size, k, none⟩)), .inl (Value.int .i64 p), .inl (Value.int .i64 pd), .inl (Value.pointer (some ⟨w1.heap.size, pd, none⟩)), .inl (Value.int .u8 bt), .inl (Value.int .i64 k), .inl (Value.pointer (some ⟨wb.heap.size, k, none⟩)), .inl (Value.int .i64 p), .inl (Value.int .i64 pr), .inl (Value.int .u64 pr), .inl (Value.int .u8 sh), .inl (Value.int .u8 nb), .inl (Value.pointer (some ⟨w1.heap.size, pd, none⟩))] (fun wx => wx = w0) (fun w w' => w' = w) 70 (by kernel_rfl) rfl (by kernel_rfl) (by kernel_rfl) (by kernel_rfl) (by decide) (by kernel_rfl) ?st hre (by exact HW0.out.symm) ?goods ?fin
       case st => exact trivial
       case goods =>
        refine Rg.goods_cons (Rg.bgood_field hre rfl rfl rfl (fun wx hC => by subst hC; go_simp)) ?_
        refine Rg.goods_cons (Rg.good_load hre rfl rfl rfl (fun wx hC => by subst hC; go_simp)) ?_
        refine Rg.goods_cons (Rg.good_move hre rfl rfl rfl) ?_
        refine Rg.goods_cons (Rg.good_index hre rfl rfl rfl rfl (fun wx hC => by subst hC; go_simp; intro h; exfalso; omega)) ?_
        refine Rg.goods_cons (Rg.good_load hre rfl rfl rfl (fun wx hC => by subst hC; go_simp)) ?_
        refine Rg.goods_cons (Rg.good_bin hre rfl rfl rfl rfl (fun _ => rfl) (fun w => by go_simp; exact I.wi64 _ (by omega) (by omega))) ?_
        refine Rg.goods_cons (Rg.bgood_field hre rfl rfl rfl (fun wx hC => by subst hC; go_simp)) ?_
        refine Rg.goods_cons (Rg.good_load hre rfl rfl rfl (fun wx hC => by subst hC; go_simp)) ?_
        refine Rg.goods_cons (Rg.good_move hre rfl rfl rfl) ?_
        refine Rg.goods_cons (Rg.good_index hre rfl rfl rfl rfl (fun wx hC => by subst hC; go_simp; intro h; exfalso; omega)) ?_
        refine Rg.goods_cons (Rg.good_load hre rfl rfl rfl (fun wx hC => by subst hC; go_simp)) ?_
        refine Rg.goods_cons (Rg.good_bin hre rfl rfl rfl rfl (fun _ => rfl) (fun w => by go_simp; exact I.wi64 _ (by omega) (by omega))) ?_
        refine Rg.goods_cons (Rg.good_index hre rfl rfl rfl rfl (fun wx hC => by subst hC; go_simp)) ?_
        refine Rg.goods_cons (Rg.good_load hre rfl rfl rfl (fun wx hC => by subst hC; go_simp)) ?_
        refine Rg.goods_cons (Rg.good_move hre rfl rfl rfl) ?_
        refine Rg.goods_cons (Rg.good_index hre rfl rfl rfl rfl (fun wx hC => by subst hC; go_simp; intro h; exfalso; omega)) ?_
        refine Rg.goods_cons (Rg.good_load hre rfl rfl rfl (fun wx hC => by subst hC; go_simp)) ?_
        refine Rg.goods_cons (Rg.good_bin hre rfl rfl rfl rfl (fun _ => rfl) (fun w => by go_simp; rw [Int.tmod_eq_emod_of_nonneg (by omega)]; exact hpri)) ?_
        refine Rg.goods_cons (Rg.good_conv hre rfl rfl (by rintro u wx _ rfl; go_simp; exact I.wraps64 _ (by omega) (by omega))) ?_
        refine Rg.goods_cons (Rg.good_bin hre rfl rfl rfl rfl (fun _ => rfl) (fun w => by go_simp; rw [I.w8]; exact hshi)) ?_
        refine Rg.goods_cons (Rg.good_bin hre rfl rfl rfl rfl (fun _ => rfl) (fun w => by go_simp)) ?_
        refine Rg.goods_cons (Rg.good_index hre rfl rfl rfl rfl (fun wx hC => by subst hC; go_simp)) ?_
        exact Rg.goods_nil
       case fin =>
        intro wx hx
        rw [hx, HW0.out]
        simp only [Rg.later, List.take_succ_cons, List.take_zero, List.drop_succ_cons, List.drop_zero, Act.put, List.setIfInBounds_toArray, List.set_cons_succ, List.set_cons_zero]
        go_wp2
        go_roundw
        case rel => exact ⟨k + 1, by omega, by go_num, HRow'.out, RowAt.other H8k.out (by omega), HFk.out.other (by omega), (HXk.out.setCell (p := ⟨w1.heap.size, pd, none⟩) (Nat.le_refl _) _).drew⟩
        case measure => simp [intOf]; omega
      ·obtain rfl : k = 4 := by omega
       have hrow : RowAt ub 5 wr w1.heap.size (Fl.fil m (Fl.has (D.take (j + 1)) m)) := by rw [HNext.out, ← Fl.adds_all]; exact HRk.out
       have HRow' : Hid (RowAt ub 5 wr w1.heap.size (Fl.fil m (Fl.has (D.take (j + 1)) m))) := hrow
       clear hrow
       go_wp2_with fail
       go_roundw
       case rel => exact ⟨j + 1, by omega, by go_num, HRow', HFk, HXk⟩
       case measure => simp [intOf]; omega
    ·obtain rfl : j = D.length := by omega
     have hrow := HRow.out
     rw [List.take_length] at hrow
     have HOwn : Hid (Own wr w.heap.size (.slice (some ⟨w1.heap.size, 0, none⟩) b8 b8) (Fl.fil m (Fl.has D m))) := row_own hrow HX1.out.size (by rw [Fl.fil_len]; have := HB8.out; omega) (by omega)
     have HF2r : Hid (FAt wr w.heap.size 0 (.slice none 0 0) 77) := HF2.out.below HXr.out
     obtain ⟨c0, c1⟩ := HF.out.all
     obtain ⟨d0, d1⟩ := HF2r.out.all
     obtain ⟨f0, f1⟩ := HF2r.out.fro
     have hww : w.heap.size < w1.heap.size := HF2.out.lt
     clear hrow
     go_wp2_with fail
     refine bodyPost_ret (res_fil (g := w.heap.size) (k := m) (.inr rfl) rfl rfl ((HF2r.out.set0 m).set1 _)) rfl ⟨_, rfl, ?_, ?_⟩
     ·have h := row_own (RowAt.other (q := w.heap.size) (k := 1) (v := .slice (some ⟨w1.heap.size, 0, none⟩) b8 b8) (RowAt.other (q := w.heap.size) (k := 0) (v := .int .i64 m) (by have h := HRow.out; rw [List.take_length] at h; exact h : RowAt ub 5 wr w1.heap.size (Fl.fil m (Fl.has D m))) (by omega)) (by omega)) (base := w.heap.size) (n := b8) HX1.out.size (by rw [Fl.fil_len]; have := HB8.out; omega) (by omega)
      exact h
     ·exact Below.setCell (Below.setCell (HX1.out.trans HXr.out) (p := ⟨w.heap.size, 0, none⟩) (Nat.le_refl _) _) (p := ⟨w.heap.size, 1, none⟩) (Nat.le_refl _) _
end Go.Proofs.Ytibnhjfeepdddaa
