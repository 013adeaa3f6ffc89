/-
  The document's own Size and deep. Taken out of another text of mine: Rname. Taken out of another text of mine: Rput.
-/
import Derived.Test.YtbdjccmlgdfapaaGreatKrows
import Derived.Test.YtbdjccmlgdfapaaGreatName1
import Derived.Test.YtbdjccmlgdfapaaGreatWords
import Derived.Test.YtbdjccmlgdfapaaGreatStrs
import Derived.Test.YtbdjccmlgdfapaaGreatRvarint
import Derived.Test.YtbdjccmlgdfapaaGreatPstep
namespace Go.Proofs.YtbdjccmlgdfapaaGreat
open Go.RowKit
set_option linter.unusedVariables false
set_option linter.unusedSimpArgs false
theorem Pd.max_snoc : ∀ (l : List Nat) (y : Nat), (l ++ [y]).foldr max 0 = max (l.foldr max 0) y
 | [], y => by simp
 | x :: t, y => by
  have h := Pd.max_snoc t y
  simp only [List.cons_append, List.foldr_cons]
  rw [h]
  omega
theorem Pd.deep_size : ∀ p, Pd.deep p ≤ Pd.size p := by
 refine Pd.tree ?_
 intro h l ih
 rw [Pd.deep_mk, Pd.size_mk]
 have : (l.map Pd.deep).foldr max 0 ≤ (l.map Pd.size).sum := by
  clear h
  induction l with
  | nil => simp
  | cons x t iht =>
   have h1 := ih x (by simp)
   have h2 := iht fun y hy => ih y (by simp [hy])
   rw [List.map_cons, List.foldr_cons, List.map_cons, List.sum_cons]
   omega
 omega
set_option maxHeartbeats 4000000 in
set_option maxRecDepth 100000 in
theorem rsize_is : ∀ (p : Pr) (v : PV) (w : World), Pd.Lay (fun _ => True) p w v → Pd.size p ≤ 1000000000 → Calls Tryz.prog 15 #[pvv v] w fun e w' => e = .returned (.int .i64 (Pd.size p : Int)) ∧ Ex w w' := by
 refine Pd.tree ?_
 intro h l ih v w hL hsz
 obtain ⟨hHd, hkn, hkB, hkc, hkm, hk0⟩ := hL.head
 obtain ⟨vk, vcol, vn, vm, vs, vset, ⟨p, n, cap⟩⟩ := v
 simp only at hkn hkB hkc hkm hk0
 subst hkn
 unfold maxLen at hkm
 rw [Pd.size_mk] at hsz
 obtain ⟨Z, hZ⟩ : ∃ Z, Pd.size (Pr.mk' h l) = Z := ⟨_, rfl⟩
 have HZ : Hid (1 + (l.map Pd.size).sum = Z) := (by rw [← hZ, Pd.size_mk] : 1 + (l.map Pd.size).sum = Z)
 rw [hZ]
 have HSM : Hid ((l.map Pd.size).sum ≤ 1000000000) := (by omega : (l.map Pd.size).sum ≤ 1000000000)
 have HIH : Hid (∀ k ∈ l, ∀ (v : PV) (w : World), Pd.Lay (fun _ => True) k w v → Pd.size k ≤ 1000000000 → Calls Tryz.prog 15 #[pvv v] w fun e w' => e = .returned (.int .i64 (Pd.size k : Int)) ∧ Ex w w') := ih
 have HLw : Hid (Pd.Lay (fun _ => True) (Pr.mk' h l) w ⟨vk, vcol, vn, vm, vs, vset, p, l.length, cap⟩) := hL
 obtain ⟨W, hW⟩ : ∃ W, w.alloc (pb ⟨vk, vcol, vn, vm, vs, vset, p, l.length, cap⟩) = W := ⟨_, rfl⟩
 have hXW : Ex w W := by rw [← hW]; exact (Below.refl _ _).alloc (Nat.le_refl _) _
 have HXW : Hid (Ex w W) := hXW
 have HP : Hid (PAt W w.heap.size ⟨vk, vcol, vn, vm, vs, vset, p, l.length, cap⟩) := (by rw [← hW]; exact PAt.new w _ : PAt W w.heap.size _)
 clear hL hHd hkB ih hXW hZ hsz
 unfold pvv
 simp only [sv]
 go_enter Tryz.func15, Tryz.ntmps15
 go_wp2_with fail
 go_loopw [4, 3] (fun iv nv wr => ∃ i S : Nat, i ≤ l.length ∧ iv = .int .i64 i ∧ nv = .int .i64 S ∧ S ≤ 1000000001 ∧ Hid (S = 1 + ((l.take i).map Pd.size).sum) ∧ Hid (Ex W wr)) (fun iv nv wr => l.length - (intOf iv).toNat)
 case atStart => exact ⟨0, 1, by omega, rfl, rfl, by omega, (by simp : 1 = 1 + ((l.take 0).map Pd.size).sum), Ex.refl W⟩
 case round =>
  obtain ⟨i, S, hi, rfl, rfl, hS, HS, HXr⟩ := hrel
  obtain ⟨c0, c1, c2, c3, c4, c5, c6⟩ := (HP.out.below HXr.out).all
  simp only at c0 c1 c2 c3 c4 c5 c6
  by_cases hlt : i < l.length
  ·have hti : (i : Int) < (l.length : Int) := by omega
   have hLr := Pd.Lay.below _ HLw.out (HXW.out.trans HXr.out)
   obtain ⟨b, off, x, hpp, hbg, hLk, e0, e1, e2, e3, e4, e5, e6⟩ := hLr.kid hlt
   simp only at hpp
   obtain ⟨k, hk⟩ : ∃ k, l[i] = k := ⟨_, rfl⟩
   rw [hk] at hLk
   have hsum := Pd.sum_take l (i + 1)
   have hnx : ((l.take (i + 1)).map Pd.size).sum = ((l.take i).map Pd.size).sum + Pd.size k := by rw [List.take_add_one, List.getElem?_eq_getElem hlt, hk]; simp
   obtain ⟨Q, hQ⟩ : ∃ Q, Pd.size k = Q := ⟨_, rfl⟩
   have HNX : Hid (S + Q = 1 + ((l.take (i + 1)).map Pd.size).sum) := (by rw [hnx, HS.out, hQ]; omega : S + Q = 1 + ((l.take (i + 1)).map Pd.size).sum)
   have hQl : S + Q ≤ 1000000001 := by have h1 := HNX.out; have h2 := HSM.out; omega
   have HC : Hid (Calls Tryz.prog 15 #[pvv x] wr fun e w' => e = .returned (.int .i64 (Q : Int)) ∧ Ex wr w') := (by
    have h := HIH.out k (by rw [← hk]; exact List.getElem_mem hlt) x wr hLk (by rw [hQ]; have h9 := HS.out; omega)
    rw [hQ] at h
    exact h : Calls _ _ _ _ _)
   subst hpp
   clear hLr hLk hk hbg hQ hsum hnx
   go_wp2_with fail
   go_at_call 15
   refine Calls.mono HC.out ?_
   rintro e w2 ⟨rfl, hx2⟩
   have HX2 : Hid (Ex W w2) := (HXr.out.trans hx2 : Ex W w2)
   clear hx2 HC
   go_wp2_with fail
   go_roundw
   case rel => exact ⟨i + 1, S + Q, by omega, by go_num, by go_num, by omega, HNX, HX2⟩
   case measure => simp [intOf]; omega
  ·have hti : ¬ (i : Int) < (l.length : Int) := by omega
   have HE : Hid (S = Z) := (by
    have h := HS.out
    rw [List.take_of_length_le (by omega), HZ.out] at h
    exact h : S = Z)
   go_wp2_with fail
   go_ret
   exact ⟨by rw [HE.out]; rfl, HXW.out.trans HXr.out⟩
set_option maxHeartbeats 4000000 in
set_option maxRecDepth 100000 in
theorem rdeep_is : ∀ (p : Pr) (v : PV) (w : World), Pd.Lay (fun _ => True) p w v → Pd.deep p ≤ 1000000000 → Calls Tryz.prog 36 #[pvv v] w fun e w' => e = .returned (.int .i64 (Pd.deep p : Int)) ∧ Ex w w' := by
 refine Pd.tree ?_
 intro h l ih v w hL hsz
 obtain ⟨hHd, hkn, hkB, hkc, hkm, hk0⟩ := hL.head
 obtain ⟨vk, vcol, vn, vm, vs, vset, ⟨p, n, cap⟩⟩ := v
 simp only at hkn hkB hkc hkm hk0
 subst hkn
 unfold maxLen at hkm
 rw [Pd.deep_mk] at hsz
 obtain ⟨Z, hZ⟩ : ∃ Z, Pd.deep (Pr.mk' h l) = Z := ⟨_, rfl⟩
 have HZ : Hid ((l.map Pd.deep).foldr max 0 + 1 = Z) := (by rw [← hZ, Pd.deep_mk] : (l.map Pd.deep).foldr max 0 + 1 = Z)
 rw [hZ]
 have HSM : Hid (∀ k ∈ l, Pd.deep k ≤ 1000000000) := (fun k hk => by have := Pd.deep_in hk; omega : ∀ k ∈ l, Pd.deep k ≤ 1000000000)
 have HIH : Hid (∀ k ∈ l, ∀ (v : PV) (w : World), Pd.Lay (fun _ => True) k w v → Pd.deep k ≤ 1000000000 → Calls Tryz.prog 36 #[pvv v] w fun e w' => e = .returned (.int .i64 (Pd.deep k : Int)) ∧ Ex w w') := ih
 have HLw : Hid (Pd.Lay (fun _ => True) (Pr.mk' h l) w ⟨vk, vcol, vn, vm, vs, vset, p, l.length, cap⟩) := hL
 obtain ⟨W, hW⟩ : ∃ W, w.alloc (pb ⟨vk, vcol, vn, vm, vs, vset, p, l.length, cap⟩) = W := ⟨_, rfl⟩
 have hXW : Ex w W := by rw [← hW]; exact (Below.refl _ _).alloc (Nat.le_refl _) _
 have HXW : Hid (Ex w W) := hXW
 have HP : Hid (PAt W w.heap.size ⟨vk, vcol, vn, vm, vs, vset, p, l.length, cap⟩) := (by rw [← hW]; exact PAt.new w _ : PAt W w.heap.size _)
 clear hL hHd hkB ih hXW hZ hsz
 unfold pvv
 simp only [sv]
 go_enter Tryz.func36, Tryz.ntmps36
 go_wp2_with fail
 go_loopw [4, 3, 5] (fun iv nv kv wr => ∃ i S : Nat, i ≤ l.length ∧ iv = .int .i64 i ∧ nv = .int .i64 S ∧ S ≤ 1000000000 ∧ Hid (S = ((l.take i).map Pd.deep).foldr max 0) ∧ Hid (Ex W wr)) (fun iv nv kv wr => l.length - (intOf iv).toNat)
 case atStart => exact ⟨0, 0, by omega, rfl, rfl, by omega, (by simp : 0 = ((l.take 0).map Pd.deep).foldr max 0), Ex.refl W⟩
 case round =>
  obtain ⟨i, S, hi, rfl, rfl, hS, HS, HXr⟩ := hrel
  obtain ⟨c0, c1, c2, c3, c4, c5, c6⟩ := (HP.out.below HXr.out).all
  simp only at c0 c1 c2 c3 c4 c5 c6
  by_cases hlt : i < l.length
  ·have hti : (i : Int) < (l.length : Int) := by omega
   have hLr := Pd.Lay.below _ HLw.out (HXW.out.trans HXr.out)
   obtain ⟨b, off, x, hpp, hbg, hLk, e0, e1, e2, e3, e4, e5, e6⟩ := hLr.kid hlt
   simp only at hpp
   obtain ⟨k, hk⟩ : ∃ k, l[i] = k := ⟨_, rfl⟩
   rw [hk] at hLk
   have hnx : ((l.take (i + 1)).map Pd.deep).foldr max 0 = max (((l.take i).map Pd.deep).foldr max 0) (Pd.deep k) := by rw [List.take_add_one, List.getElem?_eq_getElem hlt, hk]; simp only [List.map_append, Option.toList, List.map_cons, List.map_nil]; rw [Pd.max_snoc]
   obtain ⟨Q, hQ⟩ : ∃ Q, Pd.deep k = Q := ⟨_, rfl⟩
   have hkm2 : k ∈ l := by rw [← hk]; exact List.getElem_mem hlt
   have hQl : Q ≤ 1000000000 := by rw [← hQ]; exact HSM.out k hkm2
   have HNX : Hid (max S Q = ((l.take (i + 1)).map Pd.deep).foldr max 0) := (by rw [hnx, HS.out, hQ] : max S Q = ((l.take (i + 1)).map Pd.deep).foldr max 0)
   have HC : Hid (Calls Tryz.prog 36 #[pvv x] wr fun e w' => e = .returned (.int .i64 (Q : Int)) ∧ Ex wr w') := (by
    have h := HIH.out k hkm2 x wr hLk (HSM.out k hkm2)
    rw [hQ] at h
    exact h : Calls _ _ _ _ _)
   subst hpp
   clear hLr hLk hk hbg hQ hnx hkm2
   go_wp2_with fail
   go_at_call 36
   refine Calls.mono HC.out ?_
   rintro e w2 ⟨rfl, hx2⟩
   have HX2 : Hid (Ex W w2) := (HXr.out.trans hx2 : Ex W w2)
   clear hx2 HC
   by_cases hgt : S < Q
   ·have hgi : (S : Int) < (Q : Int) := by omega
    have HN2 : Hid (Q = ((l.take (i + 1)).map Pd.deep).foldr max 0) := (by rw [← HNX.out]; omega : Q = ((l.take (i + 1)).map Pd.deep).foldr max 0)
    go_wp2_with fail
    go_roundw
    case rel => exact ⟨i + 1, Q, by omega, by go_num, rfl, by omega, HN2, HX2⟩
    case measure => simp [intOf]; omega
   ·have hgi : ¬ (S : Int) < (Q : Int) := by omega
    have HN2 : Hid (S = ((l.take (i + 1)).map Pd.deep).foldr max 0) := (by rw [← HNX.out]; omega : S = ((l.take (i + 1)).map Pd.deep).foldr max 0)
    go_wp2_with fail
    go_roundw
    case rel => exact ⟨i + 1, S, by omega, by go_num, rfl, by omega, HN2, HX2⟩
    case measure => simp [intOf]; omega
  ·have hti : ¬ (i : Int) < (l.length : Int) := by omega
   have HE : Hid (S + 1 = Z) := (by
    have h := HS.out
    rw [List.take_of_length_le (by omega)] at h
    rw [← HZ.out, h] : S + 1 = Z)
   go_wp2_with fail
   go_ret
   exact ⟨by rw [← HE.out]; go_num, HXW.out.trans HXr.out⟩
end Go.Proofs.YtbdjccmlgdfapaaGreat
namespace Go.Proofs.YtbdjccmlgdfapaaGreat
open Go.RowKit
set_option linter.unusedVariables false
set_option linter.unusedSimpArgs false
set_option maxHeartbeats 4000000 in
set_option maxRecDepth 100000 in
theorem rname_is (s : List UInt8) (w : World) (hs : s.length ≤ maxLen) (r : Bool) (hr : Rw.name s = r) : Calls Tryz.prog 61 #[.string (str s)] w fun e w' => e = .returned (.bool r) ∧ w' = w := by
 have HR : Hid (Rw.name s = r) := hr
 have hss : (str s).size = s.length := str_size s
 unfold maxLen at hs
 clear hr
 go_enter Tryz.func61, Tryz.ntmps61
 go_wp2_with fail
 go_loopw [3] (fun iv wr => ∃ i : Nat, i ≤ s.length ∧ iv = .int .i64 i ∧ Hid ((s.take i).all Rw.small = true) ∧ wr = w) (fun iv wr => s.length - (intOf iv).toNat)
 case atStart => exact ⟨0, by omega, rfl, (by simp : (s.take 0).all Rw.small = true), rfl⟩
 case round =>
  obtain ⟨i, hi, rfl, HA, hwr⟩ := hrel
  have hwr := hwr.symm
  subst hwr
  by_cases hlt : i < s.length
  ·have hti : (i : Int) < (s.length : Int) := by omega
   have hti2 : i < (str s).size := by omega
   obtain ⟨x, hx⟩ : ∃ x, s[i]'hlt = x := ⟨_, rfl⟩
   have hb : ((str s)[i]'hti2).toNat = x.toNat := by rw [← hx]; exact str_at hti2 hlt
   have hx256 := x.toNat_lt
   have hnx : s.take (i + 1) = s.take i ++ [x] := by rw [List.take_add_one, List.getElem?_eq_getElem hlt, hx]; rfl
   have HNX : Hid (s.take (i + 1) = s.take i ++ [x]) := hnx
   have HM : Hid (x ∈ s) := (by rw [← hx]; exact List.getElem_mem hlt : x ∈ s)
   clear hx hnx
   by_cases h1 : x.toNat < 97
   ·have t1 : decide ((x.toNat : Int) < 97) = true := by simp; omega
    have t2 : decide (x.toNat < 97) = true := by simp; omega
    go_wp2_with fail
    go_ret
    refine ⟨?_, rfl⟩
    rw [← HR.out, Rw.name_no HM.out (by unfold Rw.small; simp; omega)]; rfl
   ·by_cases h2 : 122 < x.toNat
    ·have t1 : decide ((x.toNat : Int) < 97) = false := by simp; omega
     have t2 : decide (x.toNat < 97) = false := by simp; omega
     have t3 : decide (122 < (x.toNat : Int)) = true := by simp; omega
     have t4 : decide (122 < x.toNat) = true := by simp; omega
     go_wp2_with fail
     go_ret
     refine ⟨?_, rfl⟩
     rw [← HR.out, Rw.name_no HM.out (by unfold Rw.small; simp; omega)]; rfl
    ·have t1 : decide ((x.toNat : Int) < 97) = false := by simp; omega
     have t2 : decide (x.toNat < 97) = false := by simp; omega
     have t3 : decide (122 < (x.toNat : Int)) = false := by simp; omega
     have t4 : decide (122 < x.toNat) = false := by simp; omega
     have HA2 : Hid ((s.take (i + 1)).all Rw.small = true) := (by rw [HNX.out, List.all_append, HA.out]; simp [Rw.small]; omega : (s.take (i + 1)).all Rw.small = true)
     go_wp2_with fail
     go_roundw
     case rel => exact ⟨i + 1, by omega, by go_num, HA2, by simp⟩
     case measure => simp [intOf]; omega
  ·have hti : ¬ (i : Int) < (s.length : Int) := by omega
   obtain rfl : i = s.length := by omega
   have hA := HA.out
   rw [List.take_length] at hA
   have HN : Hid (r = (decide (1 ≤ s.length) && decide (s.length ≤ 12))) := (by rw [← HR.out]; unfold Rw.name; rw [show (fun b : UInt8 => decide (97 ≤ b.toNat) && decide (b.toNat ≤ 122)) = Rw.small from rfl, hA, Bool.true_and] : r = (decide (1 ≤ s.length) && decide (s.length ≤ 12)))
   clear hA HA
   by_cases h1 : 1 ≤ s.length
   ·have t1 : decide (1 ≤ (s.length : Int)) = true := by simp; omega
    by_cases h2 : s.length ≤ 12
    ·have t2 : decide ((s.length : Int) ≤ 12) = true := by simp; omega
     go_wp2_with fail
     go_ret
     refine ⟨?_, rfl⟩
     rw [HN.out]; simp [h1, h2]
    ·have t2 : decide ((s.length : Int) ≤ 12) = false := by simp; omega
     go_wp2_with fail
     go_ret
     refine ⟨?_, rfl⟩
     rw [HN.out]; simp [h1, h2]
   ·have t1 : decide (1 ≤ (s.length : Int)) = false := by simp; omega
    go_wp2_with fail
    go_ret
    refine ⟨?_, rfl⟩
    rw [HN.out]; simp [h1]
end Go.Proofs.YtbdjccmlgdfapaaGreat
namespace Go.Proofs.YtbdjccmlgdfapaaGreat
open Go.RowKit
set_option linter.unusedVariables false

theorem Rd.from {α : Type} {enc : α → Value} {w : World} {b off cap : Nat} {l : List α} (h : Rd enc w (some ⟨b, off, none⟩) cap l) (k : Nat) (hk : k ≤ l.length) : Rd enc w (some ⟨b, off + k, none⟩) (cap - k) (l.drop k) := by
 obtain ⟨h1, h2, h3, h4⟩ := h
 refine ⟨by simp; omega, by omega, by simp, fun i x hi => ?_⟩
 rw [List.getElem?_drop] at hi
 obtain ⟨b', off', e, hc⟩ := h4 (k + i) x hi
 simp only [Option.some.injEq, Addr.mk.injEq, and_true] at e
 obtain ⟨rfl, rfl⟩ := e
 exact ⟨b, off + k, rfl, by rw [Nat.add_assoc]; exact hc⟩
theorem Rd.none_ {α : Type} {enc : α → Value} (w : World) (a : Option Addr) : Rd enc w a 0 [] := ⟨by simp, by simp [maxLen], fun _ => rfl, fun i x hi => by simp at hi⟩
set_option maxRecDepth 100000 in
theorem rfind_is (a : Option Addr) (n cap : Nat) (d : List (List UInt8)) (s : List UInt8) (w : World) (hn : n = d.length) (hB : Rd st w a cap d) (r : Option Nat) (hr : T.idx s d = r) :
  Calls Tryz.prog 68 #[.slice a n cap, .string (str s)] w fun e w' => e = .returned (.tuple #[.int .i64 ((r.getD 0 : Nat) : Int), .bool r.isSome]) ∧ w' = w := by
 subst hn
 have HB : Hid (Rd st w a cap d) := hB
 have HR : Hid (T.idx s d = r) := hr
 have hcl := hB.1
 have hcm := hB.2.1
 unfold maxLen at hcm
 have zs := str_toList s
 clear hB hr
 go_enter Tryz.func68, Tryz.ntmps68
 go_wp2_with fail
 go_loop [6] (fun i => ∃ k : Nat, k ≤ d.length ∧ i = .int .i64 k ∧ Hid (T.idx s d = (T.idx s (d.drop k)).map (· + k))) (fun i => d.length - (intOf i).toNat)
 case atStart => exact ⟨0, by omega, rfl, (by simp : T.idx s d = (T.idx s (d.drop 0)).map (· + 0))⟩
 case round =>
  obtain ⟨k, hk, rfl, HI⟩ := hrel
  by_cases hlt : k < d.length
  ·obtain ⟨b, off, rfl, hc⟩ := HB.out.at hlt
   obtain ⟨x, hx⟩ : ∃ x, x = d[k] := ⟨_, rfl⟩
   rw [← hx] at hc
   have hc' : w.cell? ⟨b, off + k, none⟩ = some (.string (str x)) := hc
   have zx := str_toList x
   have hki : (k : Int) < (d.length : Int) := by omega
   have tk : decide ((k : Int) < (d.length : Int)) = true := by simp; omega
   have hdr : d.drop k = x :: d.drop (k + 1) := by rw [List.drop_eq_getElem_cons hlt, hx]
   have hI := HI.out
   rw [hdr, T.idx] at hI
   clear hc hx hdr HI
   by_cases he : x = s
   ·rw [if_pos he, HR.out] at hI
    simp at hI
    subst hI
    subst he
    clear HR
    go_wp2
    go_ret2
    exact ⟨rfl, rfl⟩
   ·rw [if_neg he] at hI
    have HN : Hid (T.idx s d = (T.idx s (d.drop (k + 1))).map (· + (k + 1))) := (by rw [hI, Option.map_map]; congr 1; funext z; simp; omega : T.idx s d = (T.idx s (d.drop (k + 1))).map (· + (k + 1)))
    have hne : (x == s) = false := by simpa using he
    clear hI he
    go_wp2
    go_round
    case rel => exact ⟨k + 1, by omega, by go_num, HN⟩
    case measure => simp [intOf]; omega
  ·have hI := HI.out
   rw [List.drop_eq_nil_of_le (by omega), T.idx, HR.out] at hI
   simp at hI
   subst hI
   go_wp2
   go_ret2
   exact ⟨rfl, rfl⟩

set_option maxRecDepth 100000 in
theorem rbegins_is (x p : List UInt8) (w : World) (hx : x.length ≤ maxLen) (hp : p.length ≤ maxLen) (r : Bool) (hr : T.begins p x = r) :
  Calls Tryz.prog 49 #[.string (str x), .string (str p)] w fun e w' => e = .returned (.bool r) ∧ w' = w := by
 unfold maxLen at hx hp
 have h1 : (str x).size = x.length := str_size x
 have h2 : (str p).size = p.length := str_size p
 have zp := str_toList p
 unfold T.begins at hr
 by_cases hl : p.length ≤ x.length
 ·have t1 : decide ((p.length : Int) ≤ (x.length : Int)) = true := by simp; omega
  have hcut : (str x).extract 0 p.length = str (x.take p.length) := str_cut _ _
  have zx := str_toList (x.take p.length)
  rw [decide_eq_true hl, Bool.true_and] at hr
  by_cases he : x.take p.length = p
  ·rw [decide_eq_true he] at hr
   subst hr
   have hq : (x.take p.length == p) = true := by simpa using he
   have HE : Hid (x.take p.length = p) := he
   clear he
   go_enter Tryz.func49, Tryz.ntmps49
   go_wp2
   go_ret
   exact ⟨rfl, rfl⟩
  ·rw [decide_eq_false he] at hr
   subst hr
   have hq : (x.take p.length == p) = false := by simpa using he
   clear he
   go_enter Tryz.func49, Tryz.ntmps49
   go_wp2
   go_ret
   exact ⟨rfl, rfl⟩
 ·have t1 : decide ((p.length : Int) ≤ (x.length : Int)) = false := by simp; omega
  rw [decide_eq_false hl, Bool.false_and] at hr
  subst hr
  go_enter Tryz.func49, Tryz.ntmps49
  go_wp2
  go_ret
  exact ⟨rfl, rfl⟩
end Go.Proofs.YtbdjccmlgdfapaaGreat
