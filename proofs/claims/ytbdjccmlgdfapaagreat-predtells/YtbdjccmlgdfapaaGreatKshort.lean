/-
  The books' own Short: rows that are not too large.
-/
import Derived.Test.YtbdjccmlgdfapaaGreatKrows
import Derived.Test.YtbdjccmlgdfapaaGreatStrs
namespace Go.Proofs.YtbdjccmlgdfapaaGreat
open Go.RowKit
set_option linter.unusedVariables false
set_option linter.unusedSimpArgs false
namespace Rw
def shc (c : Ce) : Ce := ⟨c.col.take 20, c.k, c.n, c.s.take 41⟩
def shr (r : Rw) : Rw := ⟨r.t, r.q, (r.c.take 10).map shc⟩
def short (l : List Rw) (m : Int) : List Rw := (l.take m.toNat).map shr
/-- The first j cells are cut. -/
theorem _root_.List.set_getElem?_self' {α : Type} {l : List α} {i : Nat} {x : α} (h : l[i]? = some x) : l.set i x = l := by
 obtain ⟨hi, rfl⟩ := List.getElem?_eq_some_iff.1 h
 exact List.set_getElem_self hi
def half (C : List Ce) (j : Nat) : List Ce := (C.take j).map shc ++ C.drop j
theorem half_len (C : List Ce) (j : Nat) : (half C j).length = C.length := by simp [half]; omega
theorem half_at {C : List Ce} {j : Nat} (hj : j < C.length) : (half C j)[j]? = some C[j] := by
 unfold half
 rw [List.getElem?_append_right (by simp; omega)]
 simp [Nat.min_eq_left (Nat.le_of_lt hj), List.getElem?_drop, hj]
theorem half_next {C : List Ce} {j : Nat} (hj : j < C.length) : (half C j).set j (shc C[j]) = half C (j + 1) := by
 unfold half
 have hl : ((C.take j).map shc).length = j := by simp; omega
 rw [List.set_append_right _ _ (by omega), hl, Nat.sub_self, List.take_add_one, List.getElem?_eq_getElem hj, Option.toList_some, List.map_append, List.map_cons, List.map_nil, List.append_assoc, List.singleton_append, List.drop_eq_getElem_cons hj, List.set_cons_zero]
theorem half_all (C : List Ce) : half C C.length = C.map shc := by simp [half]
theorem half_none (C : List Ce) : half C 0 = C := by simp [half]
theorem short_snoc {l : List Rw} {i : Nat} (hi : i < l.length) : (l.take (i + 1)).map shr = (l.take i).map shr ++ [shr l[i]] := by
 rw [List.take_add_one, List.getElem?_eq_getElem hi, Option.toList_some, List.map_append]; rfl
end Rw
theorem OwnC.four {w : World} {base n cap : Nat} {a : Option Addr} {M : List Ce} (h : OwnC w base (.slice a n cap) M) {k : Nat} (hk : k < M.length) : ∃ g, a = some ⟨g, 0, none⟩ ∧ base ≤ g ∧ g < w.heap.size ∧ n = M.length ∧ n ≤ cap ∧ cap ≤ 9223372036854775807 ∧ w.cell? ⟨g, k * 4, none⟩ = some (.string (str M[k].col)) ∧ w.cell? ⟨g, k * 4 + 1, none⟩ = some (.int .i64 M[k].k) ∧ w.cell? ⟨g, k * 4 + 2, none⟩ = some (.int .i64 M[k].n) ∧ w.cell? ⟨g, k * 4 + 3, none⟩ = some (.string (str M[k].s)) := by
 obtain ⟨a', c', he, hr⟩ := h.rd cc_len
 simp only [Value.slice.injEq] at he
 obtain ⟨rfl, rfl, rfl⟩ := he
 have hl := h.lt
 obtain ⟨h1, h2⟩ := h
 rcases h2 with ⟨_, h0⟩ | ⟨g, cap', cur, he, hb, hg, _⟩
 ·omega
 ·simp only [Value.slice.injEq] at he
  obtain ⟨rfl, _, _⟩ := he
  obtain ⟨b, off, e, c0, c1, c2, c3⟩ := RdC.four hr hk
  simp only [Option.some.injEq, Addr.mk.injEq, and_true] at e
  obtain ⟨rfl, rfl⟩ := e
  simp only [Nat.zero_add] at c0 c1 c2 c3
  have hm := hr.2.1
  unfold maxLen at hm
  exact ⟨g, rfl, hb, (hl g rfl).2, rfl, hr.1, by omega, c0, c1, c2, c3⟩
theorem short_step {w : World} {base g n cap k : Nat} {C : List Ce} (h : OwnC w base (.slice (some ⟨g, 0, none⟩) n cap) (Rw.half C k)) (hn : n = C.length) (hk : k < C.length) :
  (C[k].s.length ≤ 41 → C[k].col.length ≤ 20 → OwnC w base (.slice (some ⟨g, 0, none⟩) n cap) (Rw.half C (k + 1))) ∧
  (C[k].col.length ≤ 20 → OwnC (w.setCell ⟨g, k * 4 + 3, none⟩ (.string (str (C[k].s.take 41)))) base (.slice (some ⟨g, 0, none⟩) n cap) (Rw.half C (k + 1))) ∧
  (C[k].s.length ≤ 41 → OwnC (w.setCell ⟨g, k * 4, none⟩ (.string (str (C[k].col.take 20)))) base (.slice (some ⟨g, 0, none⟩) n cap) (Rw.half C (k + 1))) ∧
  OwnC ((w.setCell ⟨g, k * 4 + 3, none⟩ (.string (str (C[k].s.take 41)))).setCell ⟨g, k * 4, none⟩ (.string (str (C[k].col.take 20)))) base (.slice (some ⟨g, 0, none⟩) n cap) (Rw.half C (k + 1)) := by
 have hn' : n = (Rw.half C k).length := by rw [Rw.half_len]; exact hn
 have hat := Rw.half_at hk
 have hnx := Rw.half_next hk
 refine ⟨fun h1 h2 => ?_, fun h2 => ?_, fun h1 => ?_, ?_⟩
 ·have : Rw.shc C[k] = C[k] := by unfold Rw.shc; rw [List.take_of_length_le h1, List.take_of_length_le h2]
  rw [this] at hnx
  rw [← hnx, List.set_getElem?_self' hat]
  exact h
 ·have : Rw.shc C[k] = { C[k] with s := C[k].s.take 41 } := by unfold Rw.shc; rw [List.take_of_length_le h2]
  rw [← hnx, this]
  exact OwnW.set cc_len h hn' hat (by omega) rfl
 ·have : Rw.shc C[k] = { C[k] with col := C[k].col.take 20 } := by unfold Rw.shc; rw [List.take_of_length_le h1]
  rw [← hnx, this]
  exact OwnW.set (j := 0) cc_len h hn' hat (by omega) rfl
 ·have h3 := OwnW.set cc_len h hn' hat (j := 3) (y := { C[k] with s := C[k].s.take 41 }) (u := .string (str (C[k].s.take 41))) (by omega) rfl
  have h4 := OwnW.set cc_len h3 (by rw [List.length_set]; exact hn') (i := k) (j := 0) (x := { C[k] with s := C[k].s.take 41 }) (y := Rw.shc C[k]) (u := .string (str (C[k].col.take 20))) (by rw [List.getElem?_set_self (by rw [Rw.half_len]; exact hk)]) (by omega) rfl
  rw [List.set_set, hnx] at h4
  exact h4
set_option maxHeartbeats 8000000 in
set_option maxRecDepth 100000 in
theorem kshort_is (a : Option Addr) (n cap : Nat) (l : List Rw) (m : Int) (w : World) (hn : n = l.length) (hB : RdR w a cap l) (hm : 0 ≤ m ∧ m ≤ 1000) (hc : ∀ r ∈ l, r.c.length ≤ 2932031007402) :
  Calls Tryz.prog 25 #[.slice a n cap, .int .i64 m] w fun e w' => ∃ v, e = .returned v ∧ OwnL w' w.heap.size v (Rw.short l m) ∧ Ex w w' := by
 subst hn
 have HB : Hid (RdR w a cap l) := hB
 have HC : Hid (∀ r ∈ l, r.c.length ≤ 2932031007402) := hc
 obtain ⟨h1, h2, _⟩ := hB.bounds
 unfold maxLen at h2
 obtain ⟨hm1, hm2⟩ := hm
 clear hB hc
 go_enter Tryz.func25, Tryz.ntmps25
 go_wp2_with fail
 go_loopw [5, 6, 7, 8, 9] (fun ov iv rv cv kv wr => ∃ i : Nat, i ≤ l.length ∧ (i : Int) ≤ m ∧ iv = .int .i64 i ∧ Hid (OwnL wr w.heap.size ov ((l.take i).map Rw.shr)) ∧ Hid (Ex w wr)) (fun ov iv rv cv kv wr => l.length - (intOf iv).toNat)
 case atStart => exact ⟨0, by omega, by omega, rfl, (OwnL.nil w w.heap.size : OwnL w w.heap.size (.slice none 0 0) ((l.take 0).map Rw.shr)), Ex.refl w⟩
 case round =>
  obtain ⟨i, hi, him, rfl, HO, HX⟩ := hrel
  rename World => wo
  by_cases hlt : i < l.length
  ·have hti : (i : Int) < (l.length : Int) := by omega
   by_cases hlm : (i : Int) < m
   ·obtain ⟨b, off, p1, c1, rfl, e0, e1, e2, e3⟩ := (HB.out.below HX.out).at hlt
    obtain ⟨x, hx⟩ : ∃ x, l[i] = x := ⟨_, rfl⟩
    rw [hx] at e0 e1 e2 e3
    have hsn := Rw.short_snoc hlt
    rw [hx] at hsn
    have HSn : Hid ((l.take (i + 1)).map Rw.shr = (l.take i).map Rw.shr ++ [Rw.shr x]) := hsn
    have hxl : x.c.length ≤ 2932031007402 := by rw [← hx]; exact HC.out _ (List.getElem_mem hlt)
    have hc1 := e3.1
    have hc2 := e3.2.1
    unfold maxLen at hc2
    obtain ⟨W, hW⟩ : ∃ W, W = (wo.alloc (rb ⟨x.t, x.q, p1, x.c.length, c1⟩)).alloc (.cells #[] 58) := ⟨_, rfl⟩
    have hXW : Ex wo W := by rw [hW]; exact ((Below.refl _ _).alloc (Nat.le_refl _) _).alloc (by simp) _
    have hszW : wo.heap.size + 1 ≤ W.heap.size := by rw [hW]; simp
    have HBW : Hid (RdC W p1 c1 x.c) := e3.below hXW
    have hOW : OwnC W (wo.heap.size + 1) (.slice (some ⟨wo.heap.size + 1, 0, none⟩) 0 0) [] := by
     have h := ownW_empty (t := 58) (k := 4) (fl := cc) (wo.alloc (rb ⟨x.t, x.q, p1, x.c.length, c1⟩)) (wo.heap.size + 1) (by simp)
     rw [show (wo.alloc (rb ⟨x.t, x.q, p1, x.c.length, c1⟩)).heap.size = wo.heap.size + 1 by simp, ← hW] at h
     exact h
    have HOW : Hid (OwnC W (wo.heap.size + 1) (.slice (some ⟨wo.heap.size + 1, 0, none⟩) 0 0) []) := hOW
    have hLW : LAt W wo.heap.size ⟨x.t, x.q, p1, x.c.length, c1⟩ := by rw [hW]; exact (LAt.new wo _).alloc _
    have hstep : ∀ v9 w9, OwnC w9 (wo.heap.size + 1) v9 ([] ++ x.c) → W.grownBy w9 (Value.slice (some ⟨wo.heap.size + 1, 0, none⟩) 0 0).ownBlock → ∃ a9 c9, v9 = .slice a9 x.c.length c9 ∧ Hid (OwnC w9 (wo.heap.size + 1) (.slice a9 x.c.length c9) x.c) ∧ Hid (LAt w9 wo.heap.size ⟨x.t, x.q, p1, x.c.length, c1⟩) ∧ Hid (Ex wo w9) ∧ x.c.length ≤ c9 ∧ c9 ≤ 9223372036854775807 := by
     intro v9 w9 ho9 hg9
     rw [List.nil_append] at ho9
     obtain ⟨a9, c9, rfl, hb9⟩ := ho9.rd cc_len
     exact ⟨a9, c9, rfl, ho9, hLW.far hg9 (by simp [Value.ownBlock]), hXW.grown hg9 (by omega) (fun k hk => by simp [Value.ownBlock] at hk; omega), hb9.1, by have := hb9.2.1; unfold maxLen at this; omega⟩
    have HW : Hid (W = (wo.alloc (rb ⟨x.t, x.q, p1, x.c.length, c1⟩)).alloc (.cells #[] 58)) := hW
    clear hx hsn hW hXW hOW hLW e3
    by_cases h10 : 10 < x.c.length
    ·have t10 : decide (10 < (x.c.length : Int)) = true := by simp; omega
     go_wp2_with (at_builtin; rw [← HW.out]; refine wpList_append_wide cc_len cc_one rfl (.tmp 25) (.tmp 27) 42 _ 48 rfl Tryz.underlying42 Tryz.info58 (by omega) rfl (wo.heap.size + 1) _ [] rfl HOW.out p1 x.c.length c1 x.c rfl rfl HBW.out (by simp [maxLen]; omega) (by simp; omega) hszW ?_; intro v9 w9 ho9 hg9 _; obtain ⟨a9, c9, rfl, HO9, HL9, HX9, hq1, hq2⟩ := hstep v9 w9 ho9 hg9; clear ho9 hg9)
     have HOC : Hid (OwnC w9 (wo.heap.size + 1) (.slice a9 10 c9) (x.c.take 10)) := OwnW.take cc_len HO9.out 10 (by omega) rfl
     obtain ⟨C, hC⟩ : ∃ C, x.c.take 10 = C := ⟨_, rfl⟩
     rw [hC] at HOC
     have HCL : Hid (C.length = 10) := (by rw [← hC]; simp; omega : C.length = 10)
     have HCC : Hid (C = x.c.take 10) := hC.symm
     clear hC HO9
     go_loopw [9] (fun kv wr => ∃ k : Nat, k ≤ 10 ∧ kv = .int .i64 k ∧ Hid (OwnC wr (wo.heap.size + 1) (.slice a9 10 c9) (Rw.half C k)) ∧ Hid (LAt wr wo.heap.size ⟨x.t, x.q, p1, x.c.length, c1⟩) ∧ Hid (Ex wo wr)) (fun kv wr => 10 - (intOf kv).toNat)
     case atStart => exact ⟨0, by omega, by go_num, (by rw [Rw.half_none]; exact HOC.out : OwnC w9 (wo.heap.size + 1) (.slice a9 10 c9) (Rw.half C 0)), HL9, HX9⟩
     case round =>
      obtain ⟨k, hk, rfl, HOk, HLk, HXk⟩ := hrel
      have hCL := HCL.out
      by_cases hkl : k < 10
      ·have hki : (k : Int) < (10 : Int) := by omega
       have hkC : k < C.length := by omega
       obtain ⟨g, rfl, hg1, hg2, _, hg3, hg4, f0, f1, f2, f3⟩ := OwnC.four HOk.out (k := k) (by rw [Rw.half_len]; exact hkC)
       have hd : (Rw.half C k)[k]'(by rw [Rw.half_len]; exact hkC) = C[k] := by have h := Rw.half_at hkC; exact (List.getElem?_eq_some_iff.1 h).2
       rw [hd] at f0 f1 f2 f3
       obtain ⟨hs1, hs2, hs3, hs4⟩ := short_step HOk.out (by omega) hkC
       obtain ⟨d, hdd⟩ : ∃ d, C[k] = d := ⟨_, rfl⟩
       rw [hdd] at f0 f1 f2 f3 hs1 hs2 hs3 hs4
       have z0 := OwnW.frozen (k * 4) HOk.out (by rw [Rw.half_len]; omega)
       have z3 := OwnW.frozen (k * 4 + 3) HOk.out (by rw [Rw.half_len]; omega)
       have hss := str_size d.s
       have hsc := str_size d.col
       have hcut := str_cut d.s 41
       have hcut2 := str_cut d.col 20
       clear hd hdd hCL
       by_cases hsl : 41 < d.s.length
       ·by_cases hcl : 20 < d.col.length
        ·have ts : decide (41 < (d.s.length : Int)) = true := by simp; omega
         have tc : decide (20 < (d.col.length : Int)) = true := by simp; omega
         have HOn : Hid (OwnC ((wr.setCell ⟨g, k * 4 + 3, none⟩ (.string (str (d.s.take 41)))).setCell ⟨g, k * 4, none⟩ (.string (str (d.col.take 20)))) (wo.heap.size + 1) (.slice (some ⟨g, 0, none⟩) 10 c9) (Rw.half C (k + 1))) := hs4
         have HLn : Hid (LAt ((wr.setCell ⟨g, k * 4 + 3, none⟩ (.string (str (d.s.take 41)))).setCell ⟨g, k * 4, none⟩ (.string (str (d.col.take 20)))) wo.heap.size ⟨x.t, x.q, p1, x.c.length, c1⟩) := ((HLk.out.other (by omega)).other (by omega))
         have HXn : Hid (Ex wo ((wr.setCell ⟨g, k * 4 + 3, none⟩ (.string (str (d.s.take 41)))).setCell ⟨g, k * 4, none⟩ (.string (str (d.col.take 20))))) := (Below.setCell (Below.setCell HXk.out (by simp; omega) _) (by simp; omega) _)
         clear hs1 hs2 hs3 hs4
         go_wp2_with fail
         go_roundw
         case rel => exact ⟨k + 1, by omega, by go_num, HOn, HLn, HXn⟩
         case measure => simp [intOf]; omega
        ·have ts : decide (41 < (d.s.length : Int)) = true := by simp; omega
         have tc : decide (20 < (d.col.length : Int)) = false := by simp; omega
         have HOn : Hid (OwnC (wr.setCell ⟨g, k * 4 + 3, none⟩ (.string (str (d.s.take 41)))) (wo.heap.size + 1) (.slice (some ⟨g, 0, none⟩) 10 c9) (Rw.half C (k + 1))) := hs2 (by omega)
         have HLn : Hid (LAt (wr.setCell ⟨g, k * 4 + 3, none⟩ (.string (str (d.s.take 41)))) wo.heap.size ⟨x.t, x.q, p1, x.c.length, c1⟩) := (HLk.out.other (by omega))
         have HXn : Hid (Ex wo (wr.setCell ⟨g, k * 4 + 3, none⟩ (.string (str (d.s.take 41))))) := (Below.setCell HXk.out (by simp; omega) _)
         clear hs1 hs2 hs3 hs4
         go_wp2_with fail
         go_roundw
         case rel => exact ⟨k + 1, by omega, by go_num, HOn, HLn, HXn⟩
         case measure => simp [intOf]; omega
       ·by_cases hcl : 20 < d.col.length
        ·have ts : decide (41 < (d.s.length : Int)) = false := by simp; omega
         have tc : decide (20 < (d.col.length : Int)) = true := by simp; omega
         have HOn : Hid (OwnC (wr.setCell ⟨g, k * 4, none⟩ (.string (str (d.col.take 20)))) (wo.heap.size + 1) (.slice (some ⟨g, 0, none⟩) 10 c9) (Rw.half C (k + 1))) := hs3 (by omega)
         have HLn : Hid (LAt (wr.setCell ⟨g, k * 4, none⟩ (.string (str (d.col.take 20)))) wo.heap.size ⟨x.t, x.q, p1, x.c.length, c1⟩) := (HLk.out.other (by omega))
         have HXn : Hid (Ex wo (wr.setCell ⟨g, k * 4, none⟩ (.string (str (d.col.take 20))))) := (Below.setCell HXk.out (by simp; omega) _)
         clear hs1 hs2 hs3 hs4
         go_wp2_with fail
         go_roundw
         case rel => exact ⟨k + 1, by omega, by go_num, HOn, HLn, HXn⟩
         case measure => simp [intOf]; omega
        ·have ts : decide (41 < (d.s.length : Int)) = false := by simp; omega
         have tc : decide (20 < (d.col.length : Int)) = false := by simp; omega
         have HOn : Hid (OwnC wr (wo.heap.size + 1) (.slice (some ⟨g, 0, none⟩) 10 c9) (Rw.half C (k + 1))) := hs1 (by omega) (by omega)
         have HLn : Hid (LAt wr wo.heap.size ⟨x.t, x.q, p1, x.c.length, c1⟩) := HLk.out
         have HXn : Hid (Ex wo wr) := HXk.out
         clear hs1 hs2 hs3 hs4
         go_wp2_with fail
         go_roundw
         case rel => exact ⟨k + 1, by omega, by go_num, HOn, HLn, HXn⟩
         case measure => simp [intOf]; omega
      ·have hki : ¬ (k : Int) < (10 : Int) := by omega
       have hCM : Rw.half C k = C.map Rw.shc := by rw [show k = C.length by omega]; exact Rw.half_all C
       have hCl' : (C.map Rw.shc).length = 10 := by simp; omega
       obtain ⟨n0, n1, n2⟩ := HLk.out.all
       obtain ⟨y0, y1, y2⟩ := HLk.out.fro
       have hO1 : OwnC wr (wo.heap.size + 1) (.slice a9 10 c9) (C.map Rw.shc) := by rw [← hCM]; exact HOk.out
       have hsx : Rw.shr x = ⟨x.t, x.q, C.map Rw.shc⟩ := by unfold Rw.shr; rw [← HCC.out]
       obtain ⟨V, hV⟩ : ∃ V, V = wr.setCell ⟨wo.heap.size, 2, none⟩ (.slice a9 10 c9) := ⟨_, rfl⟩
       have hXV : Ex wo V := by rw [hV]; exact Below.setCell HXk.out (by simp) _
       have hOV : OwnC V (wo.heap.size + 1) (.slice a9 10 c9) (C.map Rw.shc) := by rw [hV]; exact OwnW.other hO1 (Nat.lt_succ_self _)
       have hVs : V.heap.size = wr.heap.size := by rw [hV]; simp
       obtain ⟨W2, hW2⟩ : ∃ W2, W2 = V.alloc (.cells (flat rc [⟨x.t, x.q, a9, 10, c9⟩]).toArray 44) := ⟨_, rfl⟩
       have hXW2 : Ex wo W2 := by rw [hW2]; exact hXV.trans ((Below.refl _ _).alloc (Nat.le_refl _) _)
       have HR2 : Hid (RdW 3 rc W2 (some ⟨wr.heap.size, 0, none⟩) 1 [⟨x.t, x.q, a9, 10, c9⟩]) := (by rw [hW2, ← hVs]; exact RdW.laid rc_len V [⟨x.t, x.q, a9, 10, c9⟩] (by simp) : RdW 3 rc W2 (some ⟨wr.heap.size, 0, none⟩) 1 [⟨x.t, x.q, a9, 10, c9⟩])
       have HE2 : Hid (EachR W2 [⟨x.t, x.q, a9, 10, c9⟩] [Rw.shr x]) := (by
        have h1 : OwnC W2 (wo.heap.size + 1) (.slice a9 10 c9) (C.map Rw.shc) := by rw [hW2]; exact hOV.alloc _
        obtain ⟨a8, c8, he, hr8⟩ := h1.rd cc_len
        simp only [Value.slice.injEq] at he
        obtain ⟨rfl, _, rfl⟩ := he
        rw [hsx]
        exact EachR.one ⟨rfl, rfl, hCl'.symm, hr8⟩ : EachR W2 [⟨x.t, x.q, a9, 10, c9⟩] [Rw.shr x])
       have HA2 : Hid (AwayR u5.ownBlock [⟨x.t, x.q, a9, 10, c9⟩]) := (fun v hv h0 q hq e => by
        simp only [List.mem_singleton] at hv
        subst hv
        have h1 := hOV.lt q hq
        have h2 := HO.out.lt q e
        omega : AwayR u5.ownBlock [⟨x.t, x.q, a9, 10, c9⟩])
       have HO2 : Hid (OwnL W2 w.heap.size u5 ((l.take i).map Rw.shr)) := HO.out.later hXW2
       have hXw : Ex w W2 := HX.out.trans hXW2
       have hstep8 : ∀ v8 w8, OwnL w8 w.heap.size v8 ((l.take i).map Rw.shr ++ [Rw.shr x]) → W2.grownBy w8 u5.ownBlock → Hid (OwnL w8 w.heap.size v8 ((l.take (i + 1)).map Rw.shr)) ∧ Hid (Ex w w8) := by
        intro v8 w8 ho8 hg8
        rw [HSn.out]
        exact ⟨ho8, hXw.grown hg8 hXw.size (fun k hk => (HO.out.lt k hk).1)⟩
       have hlen8 : ((l.take i).map Rw.shr).length + [Rw.shr x].length ≤ 1000000 := by simp; omega
       have hszw : w.heap.size ≤ W2.heap.size := hXw.size
       have HW2 : Hid (W2 = (wr.setCell ⟨wo.heap.size, 2, none⟩ (.slice a9 10 c9)).alloc (rb ⟨x.t, x.q, a9, 10, c9⟩)) := (by rw [hW2, hV]; rfl : W2 = (wr.setCell ⟨wo.heap.size, 2, none⟩ (.slice a9 10 c9)).alloc (rb ⟨x.t, x.q, a9, 10, c9⟩))
       clear hCM hCl' hO1 hsx hXV hOV hVs hW2 hXW2 hV hXw
       go_wp2_with (at_builtin; rw [← HW2.out]; refine wpList_append_rows rfl (.tmp 76) (.tmp 78) rfl w.heap.size _ ((l.take i).map Rw.shr) rfl HO2.out _ _ _ [⟨x.t, x.q, a9, 10, c9⟩] [Rw.shr x] rfl rfl HR2.out HE2.out HA2.out hlen8 hszw ?_; intro v8 w8 ho8 hg8 _; obtain ⟨HO8, HX8⟩ := hstep8 v8 w8 ho8 hg8; clear ho8 hg8)
       go_roundw
       case rel => exact ⟨i + 1, by omega, by omega, by go_num, HO8, HX8⟩
       case measure => simp [intOf]; omega
    ·have t10 : decide (10 < (x.c.length : Int)) = false := by simp; omega
     go_wp2_with (at_builtin; rw [← HW.out]; refine wpList_append_wide cc_len cc_one rfl (.tmp 25) (.tmp 27) 42 _ 48 rfl Tryz.underlying42 Tryz.info58 (by omega) rfl (wo.heap.size + 1) _ [] rfl HOW.out p1 x.c.length c1 x.c rfl rfl HBW.out (by simp [maxLen]; omega) (by simp; omega) hszW ?_; intro v9 w9 ho9 hg9 _; obtain ⟨a9, c9, rfl, HO9, HL9, HX9, hq1, hq2⟩ := hstep v9 w9 ho9 hg9; clear ho9 hg9)
     have HOC : Hid (OwnC w9 (wo.heap.size + 1) (.slice a9 x.c.length c9) x.c) := HO9.out
     obtain ⟨C, hC⟩ : ∃ C, x.c = C := ⟨_, rfl⟩
     have HCC : Hid (C = x.c.take 10) := (by rw [List.take_of_length_le (by omega)]; exact hC.symm : C = x.c.take 10)
     have HCL : Hid (C.length = x.c.length) := (by rw [← hC] : C.length = x.c.length)
     rw [show OwnC w9 (wo.heap.size + 1) (.slice a9 x.c.length c9) x.c = OwnC w9 (wo.heap.size + 1) (.slice a9 x.c.length c9) C by rw [← hC]] at HOC
     clear hC HO9
     go_loopw [9] (fun kv wr => ∃ k : Nat, k ≤ x.c.length ∧ kv = .int .i64 k ∧ Hid (OwnC wr (wo.heap.size + 1) (.slice a9 x.c.length c9) (Rw.half C k)) ∧ Hid (LAt wr wo.heap.size ⟨x.t, x.q, p1, x.c.length, c1⟩) ∧ Hid (Ex wo wr)) (fun kv wr => x.c.length - (intOf kv).toNat)
     case atStart => exact ⟨0, by omega, by go_num, (by rw [Rw.half_none]; exact HOC.out : OwnC w9 (wo.heap.size + 1) (.slice a9 x.c.length c9) (Rw.half C 0)), HL9, HX9⟩
     case round =>
      obtain ⟨k, hk, rfl, HOk, HLk, HXk⟩ := hrel
      have hCL := HCL.out
      by_cases hkl : k < x.c.length
      ·have hki : (k : Int) < (x.c.length : Int) := by omega
       have hkC : k < C.length := by omega
       obtain ⟨g, rfl, hg1, hg2, _, hg3, hg4, f0, f1, f2, f3⟩ := OwnC.four HOk.out (k := k) (by rw [Rw.half_len]; exact hkC)
       have hd : (Rw.half C k)[k]'(by rw [Rw.half_len]; exact hkC) = C[k] := by have h := Rw.half_at hkC; exact (List.getElem?_eq_some_iff.1 h).2
       rw [hd] at f0 f1 f2 f3
       obtain ⟨hs1, hs2, hs3, hs4⟩ := short_step HOk.out (by omega) hkC
       obtain ⟨d, hdd⟩ : ∃ d, C[k] = d := ⟨_, rfl⟩
       rw [hdd] at f0 f1 f2 f3 hs1 hs2 hs3 hs4
       have z0 := OwnW.frozen (k * 4) HOk.out (by rw [Rw.half_len]; omega)
       have z3 := OwnW.frozen (k * 4 + 3) HOk.out (by rw [Rw.half_len]; omega)
       have hss := str_size d.s
       have hsc := str_size d.col
       have hcut := str_cut d.s 41
       have hcut2 := str_cut d.col 20
       clear hd hdd hCL
       by_cases hsl : 41 < d.s.length
       ·by_cases hcl : 20 < d.col.length
        ·have ts : decide (41 < (d.s.length : Int)) = true := by simp; omega
         have tc : decide (20 < (d.col.length : Int)) = true := by simp; omega
         have HOn : Hid (OwnC ((wr.setCell ⟨g, k * 4 + 3, none⟩ (.string (str (d.s.take 41)))).setCell ⟨g, k * 4, none⟩ (.string (str (d.col.take 20)))) (wo.heap.size + 1) (.slice (some ⟨g, 0, none⟩) x.c.length c9) (Rw.half C (k + 1))) := hs4
         have HLn : Hid (LAt ((wr.setCell ⟨g, k * 4 + 3, none⟩ (.string (str (d.s.take 41)))).setCell ⟨g, k * 4, none⟩ (.string (str (d.col.take 20)))) wo.heap.size ⟨x.t, x.q, p1, x.c.length, c1⟩) := ((HLk.out.other (by omega)).other (by omega))
         have HXn : Hid (Ex wo ((wr.setCell ⟨g, k * 4 + 3, none⟩ (.string (str (d.s.take 41)))).setCell ⟨g, k * 4, none⟩ (.string (str (d.col.take 20))))) := (Below.setCell (Below.setCell HXk.out (by simp; omega) _) (by simp; omega) _)
         clear hs1 hs2 hs3 hs4
         go_wp2_with fail
         go_roundw
         case rel => exact ⟨k + 1, by omega, by go_num, HOn, HLn, HXn⟩
         case measure => simp [intOf]; omega
        ·have ts : decide (41 < (d.s.length : Int)) = true := by simp; omega
         have tc : decide (20 < (d.col.length : Int)) = false := by simp; omega
         have HOn : Hid (OwnC (wr.setCell ⟨g, k * 4 + 3, none⟩ (.string (str (d.s.take 41)))) (wo.heap.size + 1) (.slice (some ⟨g, 0, none⟩) x.c.length c9) (Rw.half C (k + 1))) := hs2 (by omega)
         have HLn : Hid (LAt (wr.setCell ⟨g, k * 4 + 3, none⟩ (.string (str (d.s.take 41)))) wo.heap.size ⟨x.t, x.q, p1, x.c.length, c1⟩) := (HLk.out.other (by omega))
         have HXn : Hid (Ex wo (wr.setCell ⟨g, k * 4 + 3, none⟩ (.string (str (d.s.take 41))))) := (Below.setCell HXk.out (by simp; omega) _)
         clear hs1 hs2 hs3 hs4
         go_wp2_with fail
         go_roundw
         case rel => exact ⟨k + 1, by omega, by go_num, HOn, HLn, HXn⟩
         case measure => simp [intOf]; omega
       ·by_cases hcl : 20 < d.col.length
        ·have ts : decide (41 < (d.s.length : Int)) = false := by simp; omega
         have tc : decide (20 < (d.col.length : Int)) = true := by simp; omega
         have HOn : Hid (OwnC (wr.setCell ⟨g, k * 4, none⟩ (.string (str (d.col.take 20)))) (wo.heap.size + 1) (.slice (some ⟨g, 0, none⟩) x.c.length c9) (Rw.half C (k + 1))) := hs3 (by omega)
         have HLn : Hid (LAt (wr.setCell ⟨g, k * 4, none⟩ (.string (str (d.col.take 20)))) wo.heap.size ⟨x.t, x.q, p1, x.c.length, c1⟩) := (HLk.out.other (by omega))
         have HXn : Hid (Ex wo (wr.setCell ⟨g, k * 4, none⟩ (.string (str (d.col.take 20))))) := (Below.setCell HXk.out (by simp; omega) _)
         clear hs1 hs2 hs3 hs4
         go_wp2_with fail
         go_roundw
         case rel => exact ⟨k + 1, by omega, by go_num, HOn, HLn, HXn⟩
         case measure => simp [intOf]; omega
        ·have ts : decide (41 < (d.s.length : Int)) = false := by simp; omega
         have tc : decide (20 < (d.col.length : Int)) = false := by simp; omega
         have HOn : Hid (OwnC wr (wo.heap.size + 1) (.slice (some ⟨g, 0, none⟩) x.c.length c9) (Rw.half C (k + 1))) := hs1 (by omega) (by omega)
         have HLn : Hid (LAt wr wo.heap.size ⟨x.t, x.q, p1, x.c.length, c1⟩) := HLk.out
         have HXn : Hid (Ex wo wr) := HXk.out
         clear hs1 hs2 hs3 hs4
         go_wp2_with fail
         go_roundw
         case rel => exact ⟨k + 1, by omega, by go_num, HOn, HLn, HXn⟩
         case measure => simp [intOf]; omega
      ·have hki : ¬ (k : Int) < (x.c.length : Int) := by omega
       have hCM : Rw.half C k = C.map Rw.shc := by rw [show k = C.length by omega]; exact Rw.half_all C
       have hCl' : (C.map Rw.shc).length = x.c.length := by simp; omega
       obtain ⟨n0, n1, n2⟩ := HLk.out.all
       obtain ⟨y0, y1, y2⟩ := HLk.out.fro
       have hO1 : OwnC wr (wo.heap.size + 1) (.slice a9 x.c.length c9) (C.map Rw.shc) := by rw [← hCM]; exact HOk.out
       have hsx : Rw.shr x = ⟨x.t, x.q, C.map Rw.shc⟩ := by unfold Rw.shr; rw [← HCC.out]
       obtain ⟨V, hV⟩ : ∃ V, V = wr.setCell ⟨wo.heap.size, 2, none⟩ (.slice a9 x.c.length c9) := ⟨_, rfl⟩
       have hXV : Ex wo V := by rw [hV]; exact Below.setCell HXk.out (by simp) _
       have hOV : OwnC V (wo.heap.size + 1) (.slice a9 x.c.length c9) (C.map Rw.shc) := by rw [hV]; exact OwnW.other hO1 (Nat.lt_succ_self _)
       have hVs : V.heap.size = wr.heap.size := by rw [hV]; simp
       obtain ⟨W2, hW2⟩ : ∃ W2, W2 = V.alloc (.cells (flat rc [⟨x.t, x.q, a9, x.c.length, c9⟩]).toArray 44) := ⟨_, rfl⟩
       have hXW2 : Ex wo W2 := by rw [hW2]; exact hXV.trans ((Below.refl _ _).alloc (Nat.le_refl _) _)
       have HR2 : Hid (RdW 3 rc W2 (some ⟨wr.heap.size, 0, none⟩) 1 [⟨x.t, x.q, a9, x.c.length, c9⟩]) := (by rw [hW2, ← hVs]; exact RdW.laid rc_len V [⟨x.t, x.q, a9, x.c.length, c9⟩] (by simp) : RdW 3 rc W2 (some ⟨wr.heap.size, 0, none⟩) 1 [⟨x.t, x.q, a9, x.c.length, c9⟩])
       have HE2 : Hid (EachR W2 [⟨x.t, x.q, a9, x.c.length, c9⟩] [Rw.shr x]) := (by
        have h1 : OwnC W2 (wo.heap.size + 1) (.slice a9 x.c.length c9) (C.map Rw.shc) := by rw [hW2]; exact hOV.alloc _
        obtain ⟨a8, c8, he, hr8⟩ := h1.rd cc_len
        simp only [Value.slice.injEq] at he
        obtain ⟨rfl, _, rfl⟩ := he
        rw [hsx]
        exact EachR.one ⟨rfl, rfl, hCl'.symm, hr8⟩ : EachR W2 [⟨x.t, x.q, a9, x.c.length, c9⟩] [Rw.shr x])
       have HA2 : Hid (AwayR u5.ownBlock [⟨x.t, x.q, a9, x.c.length, c9⟩]) := (fun v hv h0 q hq e => by
        simp only [List.mem_singleton] at hv
        subst hv
        have h1 := hOV.lt q hq
        have h2 := HO.out.lt q e
        omega : AwayR u5.ownBlock [⟨x.t, x.q, a9, x.c.length, c9⟩])
       have HO2 : Hid (OwnL W2 w.heap.size u5 ((l.take i).map Rw.shr)) := HO.out.later hXW2
       have hXw : Ex w W2 := HX.out.trans hXW2
       have hstep8 : ∀ v8 w8, OwnL w8 w.heap.size v8 ((l.take i).map Rw.shr ++ [Rw.shr x]) → W2.grownBy w8 u5.ownBlock → Hid (OwnL w8 w.heap.size v8 ((l.take (i + 1)).map Rw.shr)) ∧ Hid (Ex w w8) := by
        intro v8 w8 ho8 hg8
        rw [HSn.out]
        exact ⟨ho8, hXw.grown hg8 hXw.size (fun k hk => (HO.out.lt k hk).1)⟩
       have hlen8 : ((l.take i).map Rw.shr).length + [Rw.shr x].length ≤ 1000000 := by simp; omega
       have hszw : w.heap.size ≤ W2.heap.size := hXw.size
       have HW2 : Hid (W2 = (wr.setCell ⟨wo.heap.size, 2, none⟩ (.slice a9 x.c.length c9)).alloc (rb ⟨x.t, x.q, a9, x.c.length, c9⟩)) := (by rw [hW2, hV]; rfl : W2 = (wr.setCell ⟨wo.heap.size, 2, none⟩ (.slice a9 x.c.length c9)).alloc (rb ⟨x.t, x.q, a9, x.c.length, c9⟩))
       clear hCM hCl' hO1 hsx hXV hOV hVs hW2 hXW2 hV hXw
       go_wp2_with (at_builtin; rw [← HW2.out]; refine wpList_append_rows rfl (.tmp 76) (.tmp 78) rfl w.heap.size _ ((l.take i).map Rw.shr) rfl HO2.out _ _ _ [⟨x.t, x.q, a9, x.c.length, c9⟩] [Rw.shr x] rfl rfl HR2.out HE2.out HA2.out hlen8 hszw ?_; intro v8 w8 ho8 hg8 _; obtain ⟨HO8, HX8⟩ := hstep8 v8 w8 ho8 hg8; clear ho8 hg8)
       go_roundw
       case rel => exact ⟨i + 1, by omega, by omega, by go_num, HO8, HX8⟩
       case measure => simp [intOf]; omega
   ·have hlm2 : (i : Int) = m := by omega
    have HF : Hid ((l.take i).map Rw.shr = Rw.short l m) := (by unfold Rw.short; rw [← hlm2, Int.toNat_natCast] : (l.take i).map Rw.shr = Rw.short l m)
    clear hlm2
    go_wp2_with fail
    go_ret
    exact ⟨_, rfl, by rw [← HF.out]; exact HO.out, HX.out⟩
  ·have hti : ¬ (i : Int) < (l.length : Int) := by omega
   have HF : Hid ((l.take i).map Rw.shr = Rw.short l m) := (by unfold Rw.short; rw [List.take_of_length_le (show l.length ≤ i by omega), List.take_of_length_le (show l.length ≤ m.toNat by omega)] : (l.take i).map Rw.shr = Rw.short l m)
   go_wp2_with fail
   go_ret
   exact ⟨_, rfl, by rw [← HF.out]; exact HO.out, HX.out⟩
end Go.Proofs.YtbdjccmlgdfapaaGreat
