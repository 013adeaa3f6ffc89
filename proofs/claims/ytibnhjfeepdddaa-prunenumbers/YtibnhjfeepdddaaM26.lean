/-
  The document's own Same, and the books' Pred. The landed prune: judgeTimes, judgeColumn, judgeSet.
-/
import Derived.Test.YtibnhjfeepdddaaM19
import Derived.Deep.QuietTactic
import Derived.BigQuiet
import Derived.Test.YtibnhjfeepdddaaM25
import Derived.Test.YtibnhjfeepdddaaM12
namespace Go.Proofs.Ytibnhjfeepdddaa
open Go.RowKit
set_option linter.unusedVariables false
set_option linter.unusedSimpArgs false
theorem cell_ex {w w' : World} {a : Addr} {v : Value} (h : w.cell? a = some v) (hx : Ex w w') : w'.cell? a = some v := by rw [hx.cell (World.block_lt_of_cell? w _ h)]; exact h
theorem ex_rowP {f : FuncId} {args : Array Value} {wx w1 : World} {v : Value} (h : Calls Try.prog f args wx fun e w' => e = .returned v ∧ Ex wx w') (hC : Ex w1 wx) :
  Calls Try.prog f args wx (fun e w' => ∃ u, e = .returned u ∧ Rg.Spec.ok (.inl v) u w' ∧ Ex wx w' ∧ Ex w1 w') :=
 h.mono fun e w' ⟨h1, h2⟩ => ⟨v, h1, rfl, h2, hC.trans h2⟩
end Go.Proofs.Ytibnhjfeepdddaa
namespace Go.Proofs.Ytibnhjfeepdddaa
open Go.RowKit
set_option linter.unusedVariables false
set_option linter.unusedSimpArgs false
/-- Which flags are set. -/
def Pu.fg (fl : Int) : Fg := ⟨!(bits .and .i64 fl 4 == 0), !(bits .and .i64 fl 1 == 0), !(bits .and .i64 fl 2 == 0)⟩
/-- What a leaf that asks one column is judged. -/
def Pu.colJ (s : St) (f : Fg) (k n : Int) (c t : List UInt8) : Nat := if (f.bl && decide (k = 6) && !Pu.mayB s c t) = true then 1 else if f.zo = true then Pu.zn k n t (Pu.zoneOf s c) else 2
theorem Pu.leaf_col (s : St) (f : Fg) (h : Hd) (hk : h.k = 4 ∨ h.k = 5 ∨ h.k = 6 ∨ h.k = 8 ∨ h.k = 9) (h6 : h.k = 6 → h.n = 0) : Pu.leafJ s f h = Pu.colJ s f h.k h.n h.col h.s := by
 unfold Pu.leafJ Pu.colJ
 rw [if_neg (by omega), if_neg (by omega)]
 by_cases e : h.k = 6
 ·rw [if_pos e, e, h6 e]
  unfold Pu.isJ
  simp
 ·rw [if_neg e]
  simp [e]
theorem Pu.isJ_col (s : St) (f : Fg) (c t : List UInt8) : Pu.isJ s f c t = Pu.colJ s f 6 0 c t := by
 unfold Pu.isJ Pu.colJ; simp
theorem Pu.zone_fine {s : St} (h : StFine s) (c : List UInt8) : (Pu.zoneOf s c).ms.length ≤ maxLen ∧ (Pu.zoneOf s c).xs.length ≤ maxLen := by
 unfold Pu.zoneOf
 cases e : s.zs.find? fun x => decide (x.1 = c) with
 | none => simp [maxLen]
 | some x => exact (h.zs x (List.mem_of_find?_eq_some e)).2
theorem loadI_stats38 {w9 : World} {g : Nat} {v : TV} (h : TAt w9 g v 38) : (Instr.loadAt 38 (.pointer (some ⟨g, 0, none⟩))).run Try.prog w9 = .ok (tvv v) w9 := by
 obtain ⟨c0, c1, c2, c3, c4⟩ := h.all
 clear h
 simp [go_sem, tvv, sv, c0, c1, c2, c3, c4]
set_option maxHeartbeats 4000000 in
set_option maxRecDepth 100000 in
theorem pjt_is (v : PV) (tv : TV) (fl : Int) (w : World) (o : Nat) (ho : (if (Pu.fg fl).tk = false then 2 else if v.m < v.n ∨ tv.hi < v.n ∨ v.m < tv.lo then 1 else if v.n ≤ tv.lo ∧ tv.hi ≤ v.m then 3 else 2) = o) : Calls Try.prog 48 #[pvv v, tvv tv, .int .i64 fl] w fun e w' => e = .returned (.int .i64 (o : Int)) ∧ Ex w w' := by
 obtain ⟨vk, vcol, vn, vm, vs, ⟨sa, sn, sc⟩, ⟨ka, kn, kc⟩⟩ := v
 obtain ⟨tr, tl, th, ⟨za, zn, zc⟩, ⟨ba, bn, bc'⟩⟩ := tv
 simp only at ho
 obtain ⟨b, hb⟩ : ∃ b, (bits .and .i64 fl 4 == 0) = b := ⟨_, rfl⟩
 have htk : (Pu.fg fl).tk = !b := by rw [← hb]; rfl
 rw [htk] at ho
 obtain ⟨W, hW⟩ : ∃ W, (w.alloc (pb ⟨vk, vcol, vn, vm, vs, (sa, sn, sc), (ka, kn, kc)⟩)).alloc (tb ⟨tr, tl, th, (za, zn, zc), (ba, bn, bc')⟩ 38) = W := ⟨_, rfl⟩
 have hX1 : Ex w (w.alloc (pb ⟨vk, vcol, vn, vm, vs, (sa, sn, sc), (ka, kn, kc)⟩)) := (Below.refl _ _).alloc (Nat.le_refl _) _
 have HXW : Hid (Ex w W) := (by rw [← hW]; exact Below.alloc hX1 (by simp) _ : Ex w W)
 have HP : Hid (PAt W w.heap.size ⟨vk, vcol, vn, vm, vs, (sa, sn, sc), (ka, kn, kc)⟩) := (by rw [← hW]; exact (PAt.new w _).alloc _ : PAt W w.heap.size _)
 have HT : Hid (TAt W (w.heap.size + 1) ⟨tr, tl, th, (za, zn, zc), (ba, bn, bc')⟩ 38) := (by
  have h := TAt.new (w.alloc (pb ⟨vk, vcol, vn, vm, vs, (sa, sn, sc), (ka, kn, kc)⟩)) ⟨tr, tl, th, (za, zn, zc), (ba, bn, bc')⟩ 38
  have hs : (w.alloc (pb ⟨vk, vcol, vn, vm, vs, (sa, sn, sc), (ka, kn, kc)⟩)).heap.size = w.heap.size + 1 := by simp
  rw [hs] at h
  rw [← hW]; exact h : TAt W (w.heap.size + 1) _ 38)
 obtain ⟨p0, p1, p2, p3, p4, p5, p6⟩ := HP.out.all
 obtain ⟨t0, t1, t2, t3, t4⟩ := HT.out.all
 simp only at p0 p1 p2 p3 p4 p5 p6 t0 t1 t2 t3 t4
 simp only [tb, sv] at hW
 clear htk hX1
 unfold pvv tvv
 simp only [sv]
 cases b with
 | true =>
  have HO : Hid (2 = o) := ho
  clear ho
  go_enter Try.func48, Try.ntmps48
  go_wp2_with fail
  go_ret
  exact ⟨by rw [← HO.out]; rfl, HXW.out⟩
 | false =>
  have HO : Hid ((if vm < vn ∨ th < vn ∨ vm < tl then 1 else if vn ≤ tl ∧ th ≤ vm then 3 else 2) = o) := ho
  clear ho
  obtain ⟨x1, hx1⟩ : ∃ x, decide (vm < vn) = x := ⟨_, rfl⟩
  obtain ⟨x2, hx2⟩ : ∃ x, decide (th < vn) = x := ⟨_, rfl⟩
  obtain ⟨x3, hx3⟩ : ∃ x, decide (vm < tl) = x := ⟨_, rfl⟩
  obtain ⟨x4, hx4⟩ : ∃ x, decide (vn ≤ tl) = x := ⟨_, rfl⟩
  obtain ⟨x5, hx5⟩ : ∃ x, decide (th ≤ vm) = x := ⟨_, rfl⟩
  have HO2 : Hid ((if (x1 || x2 || x3) = true then 1 else if (x4 && x5) = true then 3 else 2) = o) := (by
   rw [← HO.out, ← hx1, ← hx2, ← hx3, ← hx4, ← hx5]
   simp [or_assoc] : _ = o)
  clear HO
  go_enter Try.func48, Try.ntmps48
  cases x1 <;> cases x2 <;> cases x4 <;> (
   go_wp2_with fail
   go_at_call 70
   refine (pver_is _ _ _ o HO2.out).mono ?_
   rintro e w3 ⟨rfl, hw3⟩
   replace hw3 := hw3.symm
   subst hw3
   go_wp2_with fail
   go_ret
   exact ⟨rfl, HXW.out⟩)
set_option maxHeartbeats 4000000 in
set_option maxRecDepth 100000 in
theorem pjc_is (v : PV) (tv : TV) (s : St) (fl : Int) (w : World) (hS : StOk w tv s) (hF : StFine s) (hvs : v.s.length ≤ maxLen) (hk : v.k = 4 ∨ v.k = 5 ∨ v.k = 6 ∨ v.k = 8 ∨ v.k = 9) (o : Nat) (ho : Pu.colJ s (Pu.fg fl) v.k v.n v.col v.s = o) :
  Calls Try.prog 49 #[pvv v, tvv tv, .int .i64 fl] w fun e w' => e = .returned (.int .i64 (o : Int)) ∧ Ex w w' := by
 obtain ⟨vk, vcol, vn, vm, vs, ⟨sa, sn, sc⟩, ⟨ka, kn, kc⟩⟩ := v
 obtain ⟨tr, tl, th, ⟨za, zn, zc⟩, ⟨ba, bn, bc'⟩⟩ := tv
 simp only at ho hvs hk
 obtain ⟨b2, hb2⟩ : ∃ b, (bits .and .i64 fl 2 == 0) = b := ⟨_, rfl⟩
 obtain ⟨b1, hb1⟩ : ∃ b, (bits .and .i64 fl 1 == 0) = b := ⟨_, rfl⟩
 obtain ⟨m, hm⟩ : ∃ m, Pu.mayL s.bs vcol vs = m := ⟨_, rfl⟩
 obtain ⟨z, hz⟩ : ∃ z, Pu.zoneOf s vcol = z := ⟨_, rfl⟩
 have ho2 : (if (!b2 && decide (vk = 6) && !m) = true then 1 else if (!b1) = true then Pu.zn vk vn vs z else 2) = o := by
  rw [← ho, ← hb2, ← hb1, ← hm, ← hz]; rfl
 have hzf := Pu.zone_fine hF vcol
 rw [hz] at hzf
 have HKK : Hid (vk = 4 ∨ vk = 5 ∨ vk = 6 ∨ vk = 8 ∨ vk = 9) := hk
 have HZF : Hid (z.ms.length ≤ maxLen ∧ z.xs.length ≤ maxLen) := hzf
 have HVS : Hid (vs.length ≤ maxLen) := hvs
 have HM : Hid (Pu.mayL s.bs vcol vs = m) := hm
 have HZ : Hid (Pu.zoneOf s vcol = z) := hz
 have HF : Hid (StFine s) := hF
 obtain ⟨V, hV⟩ : ∃ V : PV, V = ⟨vk, vcol, vn, vm, vs, (sa, sn, sc), (ka, kn, kc)⟩ := ⟨_, rfl⟩
 obtain ⟨U, hU⟩ : ∃ U : TV, U = ⟨tr, tl, th, (za, zn, zc), (ba, bn, bc')⟩ := ⟨_, rfl⟩
 obtain ⟨W, hW⟩ : ∃ W, (w.alloc (pb ⟨vk, vcol, vn, vm, vs, (sa, sn, sc), (ka, kn, kc)⟩)).alloc (tb ⟨tr, tl, th, (za, zn, zc), (ba, bn, bc')⟩ 38) = W := ⟨_, rfl⟩
 have hX1 : Ex w (w.alloc (pb ⟨vk, vcol, vn, vm, vs, (sa, sn, sc), (ka, kn, kc)⟩)) := (Below.refl _ _).alloc (Nat.le_refl _) _
 have HXW : Hid (Ex w W) := (by rw [← hW]; exact Below.alloc hX1 (by simp) _ : Ex w W)
 have HP : Hid (PAt W w.heap.size ⟨vk, vcol, vn, vm, vs, (sa, sn, sc), (ka, kn, kc)⟩) := (by rw [← hW]; exact (PAt.new w _).alloc _ : PAt W w.heap.size _)
 have HT : Hid (TAt W (w.heap.size + 1) ⟨tr, tl, th, (za, zn, zc), (ba, bn, bc')⟩ 38) := (by
  have h := TAt.new (w.alloc (pb ⟨vk, vcol, vn, vm, vs, (sa, sn, sc), (ka, kn, kc)⟩)) ⟨tr, tl, th, (za, zn, zc), (ba, bn, bc')⟩ 38
  have hs : (w.alloc (pb ⟨vk, vcol, vn, vm, vs, (sa, sn, sc), (ka, kn, kc)⟩)).heap.size = w.heap.size + 1 := by simp
  rw [hs] at h
  rw [← hW]; exact h : TAt W (w.heap.size + 1) _ 38)
 have HS : Hid (StOk W ⟨tr, tl, th, (za, zn, zc), (ba, bn, bc')⟩ s) := hS.below HXW.out
 have HC : Hid (Calls Try.prog 71 #[.slice ba bn bc', .string (str vcol), .string (str vs)] W fun e w' => e = .returned (.bool m) ∧ Ex W w') := pmay_is ba bn bc' s.bs vcol vs W HS.out.2.2.1 HS.out.2.2.2 hF.bs hvs m hm
 obtain ⟨p0, p1, p2, p3, p4, p5, p6⟩ := HP.out.all
 obtain ⟨t0, t1, t2, t3, t4⟩ := HT.out.all
 simp only at p0 p1 p2 p3 p4 p5 p6 t0 t1 t2 t3 t4
 simp only [tb, sv] at hW
 have HO : Hid ((if (!b2 && decide (vk = 6) && !m) = true then 1 else if (!b1) = true then Pu.zn vk vn vs z else 2) = o) := ho2
 have hb2' : (bits .and .i64 fl 2 != 0) = !b2 := by rw [← hb2]; rfl
 have HB1 : Hid ((bits .and .i64 fl 1 == 0) = b1) := hb1
 clear ho ho2 hX1 hS hF hvs hk hm hz hzf hV hU V U hb1 hb2
 unfold pvv tvv
 simp only [sv]
 go_enter Try.func49, Try.ntmps49
 obtain ⟨k6, hk6⟩ : ∃ b, (vk == 6) = b := ⟨_, rfl⟩
 have HK6 : Hid (decide (vk = 6) = k6) := (by rw [← hk6]; by_cases h : vk = 6 <;> simp [h] : decide (vk = 6) = k6)
 go_upto_region 1 with fail
 go_cut [24] (fun a wc => a = .bool (!b2 && decide (vk = 6) && !m) ∧ Hid (Ex W wc))
 case first =>
  cases b2 with
  | true =>
   go_wp2_with fail
   go_meet
   exact ⟨rfl, Ex.refl W⟩
  | false =>
   cases k6 with
   | false =>
    go_wp2_with fail
    go_meet
    exact ⟨by rw [HK6.out]; rfl, Ex.refl W⟩
   | true =>
    go_wp2_with fail
    go_at_call 71
    refine Calls.mono HC.out ?_
    rintro e w2 ⟨rfl, hx2⟩
    have HX2 : Hid (Ex W w2) := hx2
    clear hx2
    go_wp2_with fail
    go_meet
    exact ⟨by rw [HK6.out]; rfl, HX2⟩
 case rest =>
  obtain ⟨rfl, HXc⟩ := hcut
  have HXw : Hid (Ex w wc) := (HXW.out.trans HXc.out : Ex w wc)
  obtain ⟨q, hq⟩ : ∃ q, (!b2 && decide (vk = 6) && !m) = q := ⟨_, rfl⟩
  have HO2 : Hid ((if q = true then 1 else if (!b1) = true then Pu.zn vk vn vs z else 2) = o) := (by rw [← hq]; exact HO.out : _ = o)
  rw [hq]
  clear hq HO HC p0 p1 p2 p3 p4 p5 p6 t0 t1 t2 t3 t4 hW
  cases q with
  | true =>
   go_wp2_with fail
   go_ret
   exact ⟨by rw [← HO2.out]; rfl, HXw.out⟩
  | false =>
   have hb1 := HB1.out
   cases b1 with
   | true =>
    go_wp2_with fail
    go_ret
    exact ⟨by rw [← HO2.out]; rfl, HXw.out⟩
   | false =>
    have HP9 : Hid (PAt wc w.heap.size ⟨vk, vcol, vn, vm, vs, (sa, sn, sc), (ka, kn, kc)⟩) := HP.out.below HXc.out
    have HT9 : Hid (TAt wc (w.heap.size + 1) ⟨tr, tl, th, (za, zn, zc), (ba, bn, bc')⟩ 38) := HT.out.below HXc.out
    have HS9 : Hid (StOk wc ⟨tr, tl, th, (za, zn, zc), (ba, bn, bc')⟩ s) := HS.out.below HXc.out
    have HO3 : Hid (Pu.zn vk vn vs z = o) := HO2.out
    go_wp2_with fail
    have hre := Ex.refl
    refine Rg.wp_rows [.inl (pvv ⟨vk, vcol, vn, vm, vs, (sa, sn, sc), (ka, kn, kc)⟩), .inl (tvv ⟨tr, tl, th, (za, zn, zc), (ba, bn, bc')⟩), .inl (Value.pointer (some ⟨w.heap.size, 1, none⟩)), .inl (.string (str vcol)), .inl (zv z), .inl (.int .i64 (o : Int)), .inl (.int .i64 (o : Int))] (Ex wc) Ex 34 (by kernel_rfl) rfl (by kernel_rfl) ?st hre (Ex.drew _) ?goods ?fin
    case st => exact trivial
    case goods =>
     refine Rg.goods_cons (Rg.good_load hre rfl rfl rfl (fun wx hC => (HP9.out.below hC).loadI)) ?_
     refine Rg.goods_cons (Rg.good_load hre rfl rfl rfl (fun wx hC => loadI_stats38 (HT9.out.below hC))) ?_
     refine Rg.goods_cons (Rg.good_field hre rfl rfl rfl (fun wx hC => by go_simp)) ?_
     refine Rg.goods_cons (Rg.good_load hre rfl rfl rfl (fun wx hC => by have hz := (HP9.out.below hC).all.2.1; go_simp)) ?_
     refine Rg.goods_cons (Rg.good_call2 Try.func73 (by kernel_rfl) rfl rfl rfl (by rintro v0 v1 wx hC rfl rfl; exact ex_rowP (pzone_is _ s vcol wx (HS9.out.below hC) z HZ.out) hC)) ?_
     refine Rg.goods_cons (Rg.good_call2 Try.func72 (by kernel_rfl) rfl rfl rfl (by rintro v0 v1 wx hC rfl rfl; exact ex_rowP (pjz_is _ z wx HVS.out HZF.out.1 HZF.out.2 HKK.out o HO3.out) hC)) ?_
     refine Rg.goods_cons (Rg.good_assign hre rfl rfl rfl) ?_
     exact Rg.goods_nil
    case fin =>
     intro wx hx
     simp only [Rg.later, Act.put, List.setIfInBounds_toArray, List.set_cons_succ, List.set_cons_zero]
     have HX9 : Hid (Ex w wx) := (HXw.out.trans hx : Ex w wx)
     clear hx
     go_wp2_with fail
     go_ret
     exact ⟨rfl, HX9.out⟩
theorem Pu.hi_snoc (l : List Nat) (x : Nat) : Pu.hi (l ++ [x]) = if Pu.hi l < x then x else Pu.hi l := by
 unfold Pu.hi; rw [List.foldl_append]; rfl
theorem Pu.lo_snoc (l : List Nat) (x : Nat) : Pu.lo (l ++ [x]) = if x < Pu.lo l then x else Pu.lo l := by
 unfold Pu.lo; rw [List.foldl_append]; rfl
set_option maxHeartbeats 4000000 in
set_option maxRecDepth 100000 in
theorem pjs_is (v : PV) (L : List (List UInt8)) (tv : TV) (s : St) (fl : Int) (w : World) (hS : StOk w tv s) (hF : StFine s) (hn : v.set.2.1 = L.length) (hL : Rd st w v.set.1 v.set.2.2 L) (hx : ∀ x ∈ L, x.length ≤ maxLen) (o : Nat) (ho : Pu.hi (L.map (Pu.isJ s (Pu.fg fl) v.col)) = o) :
  Calls Try.prog 47 #[pvv v, tvv tv, .int .i64 fl] w fun e w' => e = .returned (.int .i64 (o : Int)) ∧ Ex w w' := by
 obtain ⟨vk, vcol, vn, vm, vs, ⟨sa, sn, sc⟩, ⟨ka, kn, kc⟩⟩ := v
 obtain ⟨tr, tl, th, ⟨za, zn, zc⟩, ⟨ba, bn, bc'⟩⟩ := tv
 simp only at ho hn hL
 subst hn
 have h1 := hL.1
 have h2 := hL.2.1
 unfold maxLen at h2
 obtain ⟨W, hW⟩ : ∃ W, (w.alloc (pb ⟨vk, vcol, vn, vm, vs, (sa, L.length, sc), (ka, kn, kc)⟩)).alloc (tb ⟨tr, tl, th, (za, zn, zc), (ba, bn, bc')⟩ 38) = W := ⟨_, rfl⟩
 have hX1 : Ex w (w.alloc (pb ⟨vk, vcol, vn, vm, vs, (sa, L.length, sc), (ka, kn, kc)⟩)) := (Below.refl _ _).alloc (Nat.le_refl _) _
 have HXW : Hid (Ex w W) := (by rw [← hW]; exact Below.alloc hX1 (by simp) _ : Ex w W)
 have HP : Hid (PAt W w.heap.size ⟨vk, vcol, vn, vm, vs, (sa, L.length, sc), (ka, kn, kc)⟩) := (by rw [← hW]; exact (PAt.new w _).alloc _ : PAt W w.heap.size _)
 have HT : Hid (TAt W (w.heap.size + 1) ⟨tr, tl, th, (za, zn, zc), (ba, bn, bc')⟩ 38) := (by
  have h := TAt.new (w.alloc (pb ⟨vk, vcol, vn, vm, vs, (sa, L.length, sc), (ka, kn, kc)⟩)) ⟨tr, tl, th, (za, zn, zc), (ba, bn, bc')⟩ 38
  have hs : (w.alloc (pb ⟨vk, vcol, vn, vm, vs, (sa, L.length, sc), (ka, kn, kc)⟩)).heap.size = w.heap.size + 1 := by simp
  rw [hs] at h
  rw [← hW]; exact h : TAt W (w.heap.size + 1) _ 38)
 have HS : Hid (StOk W ⟨tr, tl, th, (za, zn, zc), (ba, bn, bc')⟩ s) := hS.below HXW.out
 have HF : Hid (StFine s) := hF
 have HL : Hid (Rd st W sa sc L) := hL.below HXW.out
 have HX : Hid (∀ x ∈ L, x.length ≤ maxLen) := hx
 have HO : Hid (Pu.hi (L.map (Pu.isJ s (Pu.fg fl) vcol)) = o) := ho
 obtain ⟨p0, p1, p2, p3, p4, p5, p6⟩ := HP.out.all
 simp only at p0 p1 p2 p3 p4 p5 p6
 simp only [tb, sv] at hW
 clear ho hX1 hS hF hL hx
 unfold pvv tvv
 simp only [sv]
 go_enter Try.func47, Try.ntmps47
 go_wp2_with fail
 clear p0 p1 p2 p3 p4 p5 p6 hW
 go_loopw [13, 7] (fun iv ov wr => ∃ (i k : Nat), i ≤ L.length ∧ iv = .int .i64 i ∧ ov = .int .i64 k ∧ Hid (k = Pu.hi ((L.take i).map (Pu.isJ s (Pu.fg fl) vcol))) ∧ Hid (Ex W wr)) (fun iv ov wr => L.length - (intOf iv).toNat)
 case atStart => exact ⟨0, 1, by omega, rfl, rfl, (rfl : 1 = Pu.hi ((L.take 0).map (Pu.isJ s (Pu.fg fl) vcol))), Ex.refl W⟩
 case round =>
  obtain ⟨i, k, hi, rfl, rfl, HK, HXr⟩ := hrel
  by_cases hlt : i < L.length
  ·have hti : (i : Int) < (L.length : Int) := by omega
   obtain ⟨b, off, rfl, e0⟩ := (HL.out.below HXr.out).at hlt
   obtain ⟨t, ht⟩ : ∃ t, L[i] = t := ⟨_, rfl⟩
   rw [ht] at e0
   have HTL : Hid (t.length ≤ maxLen) := (by rw [← ht]; exact HX.out _ (List.getElem_mem hlt) : t.length ≤ maxLen)
   have HTS : Hid (StOk wr ⟨tr, tl, th, (za, zn, zc), (ba, bn, bc')⟩ s) := HS.out.below HXr.out
   obtain ⟨x, hx⟩ : ∃ x, Pu.isJ s (Pu.fg fl) vcol t = x := ⟨_, rfl⟩
   have hnx : L.take (i + 1) = L.take i ++ [t] := by rw [List.take_add_one, List.getElem?_eq_getElem hlt, ht]; rfl
   have HNX : Hid ((if k < x then x else k) = Pu.hi ((L.take (i + 1)).map (Pu.isJ s (Pu.fg fl) vcol))) := (by rw [hnx, List.map_append, List.map_cons, List.map_nil, Pu.hi_snoc, ← HK.out, hx] : (if k < x then x else k) = _)
   have HC : Hid (Calls Try.prog 49 #[pvv ⟨6, vcol, 0, 0, t, (none, 0, 0), (none, 0, 0)⟩, tvv ⟨tr, tl, th, (za, zn, zc), (ba, bn, bc')⟩, .int .i64 fl] wr fun e w' => e = .returned (.int .i64 (x : Int)) ∧ Ex wr w') := pjc_is _ _ s fl wr HTS.out HF.out HTL.out (by simp) x (by rw [← hx, Pu.isJ_col])
   obtain ⟨t0, t1, t2, t3, t4⟩ := (HT.out.below HXr.out).all
   obtain ⟨q0, q1, q2, q3, q4, q5, q6⟩ := (HP.out.below HXr.out).all
   simp only at t0 t1 t2 t3 t4 q0 q1 q2 q3 q4 q5 q6
   obtain ⟨Mx, hMx⟩ : ∃ m : Nat, (if k < x then x else k) = m := ⟨_, rfl⟩
   have hmax : ∀ (ts : Array TypeId) (t : TypeId) (W : World), (Builtin.max_ ts t #[.int .i64 (k : Int), .int .i64 (x : Int)]).run Try.prog W = .ok (.int .i64 (Mx : Int)) W := fun ts t W => by rw [run_max_int2, ← hMx]; congr 2; split <;> split <;> omega
   rw [hMx] at HNX
   clear ht hx hnx hMx
   go_wp2_with fail
   go_at_call 49
   refine Calls.mono HC.out ?_
   rintro e w2 ⟨rfl, hx2⟩
   have HX2 : Hid (Ex W w2) := (HXr.out.trans hx2 : Ex W w2)
   clear hx2 HC
   go_wp2_with fail
   go_roundw
   case rel => exact ⟨i + 1, Mx, by omega, by go_num, by first | rfl | go_num, HNX, HX2⟩
   case measure => simp [intOf]; omega
  ·have hti : ¬ (i : Int) < (L.length : Int) := by omega
   have HE : Hid (k = o) := (by rw [← HO.out, HK.out, List.take_of_length_le (by omega)] : k = o)
   go_wp2_with fail
   go_ret
   exact ⟨by rw [HE.out]; rfl, HXW.out.trans HXr.out⟩
end Go.Proofs.Ytibnhjfeepdddaa
